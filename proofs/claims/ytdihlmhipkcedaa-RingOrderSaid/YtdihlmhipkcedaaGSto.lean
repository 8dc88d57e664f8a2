/-
  Package ring's store: places, pieces.
-/
import Derived.Test.YtdihlmhipkcedaaGPlain
import Derived.Lib.Hide
import Derived.Laws.MakeOwn
import Derived.IntWalk
import Derived.WalkSpells
import Derived.BigQuiet
import Derived.Deep.QuietTactic
import Derived.Deep.Cut
import Derived.Outline
import Derived.Deep.RegionHeld3
import Derived.Deep.RegionLaw
namespace Go.Proofs.Ytdihlmhipkcedaa
open Go Go.RowKit Go.Maps
set_option linter.unusedVariables false
set_option linter.unusedSimpArgs false
set_option maxRecDepth 100000
theorem below_alloc (w : World) (o : Obj) : Below w.heap.size w (w.alloc o) := (Below.refl _ w).alloc (Nat.le_refl _) o
theorem below_then {w w1 w2 : World} (h : Below w.heap.size w w1) (k : Below w1.heap.size w1 w2) : Below w.heap.size w w2 := h.trans (k.mono h.size)
theorem blk_below {w w' : World} {g : Nat} {t : TypeId} {cs : Array Value} (h : Blk w g t cs) (hb : Below w.heap.size w w') : Blk w' g t cs := (hb.block g h.lt).trans h
theorem Blk.drewN {w : World} {g : Nat} {t : TypeId} {cs : Array Value} (h : Blk w g t cs) (n : Nat) : Blk (w.drewN n) g t cs := h
theorem below_drewN (w : World) (n : Nat) : Below w.heap.size w (w.drewN n) := ⟨rfl, rfl, rfl, Nat.le_refl _, fun _ _ => rfl⟩
theorem Keeps.drewN {S : Nat → Prop} {a w : World} (h : Keeps S a w) (n : Nat) : Keeps S a (w.drewN n) := ⟨h.os, h.tape, h.output, h.size, h.block⟩
theorem Blk.drew {w : World} {g : Nat} {t : TypeId} {cs : Array Value} (h : Blk w g t cs) : Blk w.drew g t cs := h
theorem keeps_grow {w w' : World} (hb : Below w.heap.size w w') : Keeps (fun _ => False) w w' := Below.keeps hb fun b h1 h2 => by omega
abbrev rowV (g mx : Nat) : Value := .slice (some ⟨g, 0, none⟩) mx mx
abbrev u8T : TypeId := 5
abbrev headT : TypeId := 59
theorem behind_any (g p n mx : Nat) (hp : p ≤ 1048576) (hn : n ≤ 1048576) (h0 : 0 < mx) (hm : mx ≤ 65536) (w : World) :
    Calls Try.prog 22 #[rowV g mx, .int .i64 p, .int .i64 n] w fun e w' => e = .returned (.int .i64 ((p + n) % mx : Nat)) ∧ w' = w := by
  have e1 : IntKind.i64.wrap ((p : Int) + (n : Int)) = ((p + n : Nat) : Int) := by rw [IntWalk.i64_in _ (by omega)]; omega
  obtain ⟨q, hq⟩ : ∃ q, p + n = q := ⟨_, rfl⟩
  rw [hq] at e1 ⊢
  have e3 : (mx : Int) ≠ 0 := by omega
  have e4 : mx ≠ 0 := by omega
  have e5 : Int.tmod (q : Int) (mx : Int) = ((q % mx : Nat) : Int) := by rw [Int.tmod_eq_emod_of_nonneg (by omega)]; omega
  go_enter Try.func22, Try.ntmps22
  go_wp2_with fail
  go_ret
  exact ⟨rfl, rfl⟩
theorem uses_any (n : Nat) (hn : n ≤ 1048576) (w : World) :
    Calls Try.prog 23 #[.int .i64 n] w fun e w' => e = .returned (.int .i64 (uses n)) ∧ w' = w := by
  have e2 : (n : Int) + 8 - 1 = ((n + 7 : Nat) : Int) := by omega
  have e3 : Int.tdiv ((n + 7 : Nat) : Int) 8 = (((n + 7) / 8 : Nat) : Int) := by rw [Int.tdiv_eq_ediv_of_nonneg (by omega)]; omega
  have H := Lib.hid (show ((8 + (n + 7) / 8 * 8 : Nat) : Int) = (uses n : Nat) by rfl)
  go_enter Try.func23, Try.ntmps23
  go_wp2_with fail
  go_ret
  exact ⟨ret_int (by rw [← H.out]; omega), rfl⟩
theorem sizeB (w : World) : (sizeOf (Try.prog.elem 54)).run Try.prog w = .ok 1 w := by kernel_rfl
theorem elemB : Try.prog.underlying 54 = some (.slice (Try.prog.elem 54)) := by kernel_rfl
/-- The n bytes at place p: up to the end, and from the beginning on. -/
theorem pieces_any (g p n mx : Nat) (hp : p < mx) (h1 : 1 ≤ n) (hn : n ≤ mx) (hm : mx ≤ 65536) (w : World) :
    Calls Try.prog 33 #[rowV g mx, .int .i64 p, .int .i64 n] w fun e w' =>
      e = .returned (.tuple #[.slice (some ⟨g, p, none⟩) (min (p + n) mx - p) (min (p + n) mx - p), .slice (some ⟨g, 0, none⟩) (p + n - min (p + n) mx) (p + n - min (p + n) mx)]) ∧ ∃ m, w' = w.drewN m := by
  obtain ⟨q, hq⟩ : ∃ q, min (p + n) mx = q := ⟨_, rfl⟩
  have q1 : p < q := by omega
  have q2 : q ≤ mx := by omega
  have q3 : q ≤ p + n := by omega
  obtain ⟨r, hr⟩ : ∃ r, p + n - q = r := ⟨_, rfl⟩
  have q4 : r ≤ mx := by omega
  have e3 : min ((p : Int) + (n : Int)) (mx : Int) = (q : Int) := by omega
  have e2 : (p : Int) + (n : Int) - (q : Int) = (r : Int) := by omega
  rw [hq, hr]
  have s1 : ∀ w, (Instr.slice 54 (rowV g mx) (some (.int .i64 (p : Int))) (some (.int .i64 (q : Int))) (some (.int .i64 (q : Int)))).run Try.prog w = .ok (.slice (some ⟨g, p, none⟩) (q - p) (q - p)) w := fun w => by
    rw [run_slice_lhm (ht := elemB) (h0 := by omega) (h1 := by omega) (h2 := by omega) (h3 := by omega), sizeB]
    have hne : ¬ q = p := by omega
    simp [Result.andThen, sliced, Addr.add, hne]
    exact fun e => e.symm
  have s2 : ∀ w, (Instr.slice 54 (rowV g mx) none (some (.int .i64 (r : Int))) (some (.int .i64 (r : Int)))).run Try.prog w = .ok (.slice (some ⟨g, 0, none⟩) r r) w := fun w => by
    rw [run_slice_hm (ht := elemB) (h0 := by omega) (h2 := by omega) (h3 := by omega), sizeB]
    simp [Result.andThen, sliced, Addr.add]
  clear hq hr
  go_enter Try.func33, Try.ntmps33
  go_upto_region 3 with fail
  go_quiet (fail)
  go_wp2_with fail
  go_ret2
  exact ⟨rfl, _, rfl⟩
end Go.Proofs.Ytdihlmhipkcedaa
