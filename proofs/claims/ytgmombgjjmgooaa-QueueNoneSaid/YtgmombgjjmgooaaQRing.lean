/-
  Package queue: a row's ring of places; Clone.
-/
import Derived.Test.YtgmombgjjmgooaaBlk
import Derived.Lib.Hide
import Derived.Lib.UnsafeStr
import Derived.Lib.BufferWrite
import Derived.Lib.Strings
import Derived.Laws.MakeOwn
import Derived.IntWalk
import Derived.WalkSpells
import Derived.BigQuiet
import Derived.Deep.QuietTactic
import Derived.Deep.Cut
import Derived.Outline
import Derived.Deep.RegionHeld3
namespace Go.Proofs.Ytgmombgjjmgooaa
open Go Go.RowKit
set_option linter.unusedVariables false
set_option linter.unusedSimpArgs false
set_option maxRecDepth 100000
theorem below_alloc (w : World) (o : Obj) : Below w.heap.size w (w.alloc o) := (Below.refl _ w).alloc (Nat.le_refl _) o
theorem below_then {w w1 w2 : World} (h : Below w.heap.size w w1) (k : Below w1.heap.size w1 w2) : Below w.heap.size w w2 := h.trans (k.mono h.size)
theorem blk_below {w w' : World} {g : Nat} {t : TypeId} {cs : Array Value} (h : Blk w g t cs) (hb : Below w.heap.size w w') : Blk w' g t cs := (hb.block g h.lt).trans h
theorem ret_int {k : IntKind} {a b : Int} (h : a = b) : Ending.returned (.int k a) = .returned (.int k b) := by rw [h]
theorem Blk.drewN {w : World} {g : Nat} {t : TypeId} {cs : Array Value} (h : Blk w g t cs) (n : Nat) : Blk (w.drewN n) g t cs := h
theorem below_drewN (w : World) (n : Nat) : Below w.heap.size w (w.drewN n) := ⟨rfl, rfl, rfl, Nat.le_refl _, fun _ _ => rfl⟩
theorem Keeps.drewN {S : Nat → Prop} {a w : World} (h : Keeps S a w) (n : Nat) : Keeps S a (w.drewN n) := ⟨h.os, h.tape, h.output, h.size, h.block⟩
theorem Blk.drew {w : World} {g : Nat} {t : TypeId} {cs : Array Value} (h : Blk w g t cs) : Blk w.drew g t cs := h
abbrev rowC (g mx f n : Nat) : Array Value := #[.slice (some ⟨g, 0, none⟩) mx mx, .int .i64 f, .int .i64 n]
abbrev rowT : TypeId := 58
/-- The blocks that a row's calls write. -/
def rg (r g : Nat) (b : Nat) : Prop := b = r ∨ b = g
theorem rg_r (r g : Nat) : rg r g r := .inl rfl
theorem rg_g (r g : Nat) : rg r g g := .inr rfl
abbrev rp (r : Nat) : Value := .pointer (some ⟨r, 0, none⟩)
section
variable {w : World} {r g f n mx : Nat}
theorem place_any (h : Blk w r rowT (rowC g mx f n)) (k : Nat) (hf : f < mx) (hk : k ≤ mx) (hm : mx ≤ 4096) :
    Calls Try.prog 31 #[rp r, .int .i64 k] w fun e w' => e = .returned (.int .i64 ((f + k) % mx : Nat)) ∧ ∃ m, w' = w.drewN m := by
  have c0 : w.cell? ⟨r, 0, none⟩ = some (.slice (some ⟨g, 0, none⟩) mx mx) := h.cell 0
  have c1 : w.cell? ⟨r, 1, none⟩ = some (.int .i64 f) := h.cell 1
  have e1 : IntKind.i64.wrap ((f : Int) + (k : Int)) = ((f + k : Nat) : Int) := by rw [IntWalk.i64_in _ (by omega)]; omega
  obtain ⟨q, hq⟩ : ∃ q, f + k = q := ⟨_, rfl⟩
  rw [hq] at e1 ⊢
  have e3 : (mx : Int) ≠ 0 := by omega
  have e4 : mx ≠ 0 := by omega
  have e5 : Int.tmod (q : Int) (mx : Int) = ((q % mx : Nat) : Int) := by rw [Int.tmod_eq_emod_of_nonneg (by omega)]; omega
  clear h
  go_enter Try.func31, Try.ntmps31
  go_upto_region 1 with fail
  go_quiet (fail)
  go_wp2_with fail
  go_ret
  exact ⟨rfl, _, rfl⟩
theorem full_any (h : Blk w r rowT (rowC g mx f n)) : Calls Try.prog 21 #[rp r] w fun e w' => e = .returned (.bool (decide (n = mx))) ∧ ∃ m, w' = w.drewN m := by
  have c0 : w.cell? ⟨r, 0, none⟩ = some (.slice (some ⟨g, 0, none⟩) mx mx) := h.cell 0
  have c2 : w.cell? ⟨r, 2, none⟩ = some (.int .i64 n) := h.cell 2
  have e2 : ((n : Int) == (mx : Int)) = decide (n = mx) := by
    by_cases hh : n = mx
    · subst hh; simp
    · rw [decide_eq_false hh]; simp; omega
  clear h
  go_enter Try.func21, Try.ntmps21
  go_upto_region 1 with fail
  go_quiet (fail)
  go_wp2_with fail
  go_ret
  exact ⟨rfl, _, rfl⟩
theorem oldest_any {cs : Array Value} {s : ByteArray} (h : Blk w r rowT (rowC g mx f n)) (hg : Blk w g 9 cs) (hf : f < mx) (hs : cs[f]? = some (.string s)) :
    Calls Try.prog 29 #[rp r] w fun e w' => e = .returned (.string s) ∧ ∃ m, w' = w.drewN m := by
  have c0 : w.cell? ⟨r, 0, none⟩ = some (.slice (some ⟨g, 0, none⟩) mx mx) := h.cell 0
  have c1 : w.cell? ⟨r, 1, none⟩ = some (.int .i64 f) := h.cell 1
  have c2 : w.cell? ⟨g, f, none⟩ = some (.string s) := (hg.cell f).trans hs
  clear h
  go_enter Try.func29, Try.ntmps29
  go_upto_region 1 with fail
  go_quiet (fail)
  go_wp2_with fail
  go_ret
  exact ⟨rfl, _, rfl⟩
theorem newest_any {cs : Array Value} {s : ByteArray} (h : Blk w r rowT (rowC g mx f n)) (hg : Blk w g 9 cs) (hf : f < mx) (h0 : 0 < n) (hn : n ≤ mx) (hm : mx ≤ 4096) (hs : cs[(f + (n - 1)) % mx]? = some (.string s)) :
    Calls Try.prog 28 #[rp r] w fun e w' => e = .returned (.string s) ∧ ∃ m, w' = w.drewN m := by
  have c0 : w.cell? ⟨r, 0, none⟩ = some (.slice (some ⟨g, 0, none⟩) mx mx) := h.cell 0
  have c2 : w.cell? ⟨r, 2, none⟩ = some (.int .i64 n) := h.cell 2
  have CP := Lib.hid (fun N => place_any (h.drewN N) (n - 1) hf (by omega) hm)
  have hlt : (f + (n - 1)) % mx < mx := Nat.mod_lt _ (by omega)
  have e1 : IntKind.i64.wrap ((n : Int) - 1) = ((n - 1 : Nat) : Int) := by rw [IntWalk.i64_in _ (by omega)]; omega
  have c3 := (hg.cell ((f + (n - 1)) % mx)).trans hs
  generalize (f + (n - 1)) % mx = p at *
  generalize n - 1 = n1 at *
  clear h hg hs hm hn h0
  go_enter Try.func28, Try.ntmps28
  go_upto_region 1 with fail
  go_quiet ((go_at_call 31; exact Calls.quiet_of (CP.out _)))
  go_wp2_with fail
  go_ret
  exact ⟨rfl, _, rfl⟩
theorem empty_any {cs : Array Value} (h : Blk w r rowT (rowC g mx f n)) (hg : Blk w g 9 cs) (p : Nat) (hp : p < mx) (hc : cs.size = mx) :
    Calls Try.prog 30 #[rp r, .int .i64 p] w fun e w' => e = .returned (.tuple #[]) ∧ Blk w' r rowT (rowC g mx f n) ∧ Blk w' g 9 (cs.setIfInBounds p (.string ⟨#[]⟩)) ∧ Keeps (rg r g) w w' := by
  have c0 : w.cell? ⟨r, 0, none⟩ = some (.slice (some ⟨g, 0, none⟩) mx mx) := h.cell 0
  have c1 := hg.cell p
  have c2 := hg.frozen p
  rw [Array.getElem?_eq_getElem (by omega)] at c1
  generalize cs[p] = v at c1
  have H := Lib.hid h
  have HG := Lib.hid hg
  have HNE := Lib.hid (h.ne_ hg (by decide))
  clear h hg hc
  go_enter Try.func30, Try.ntmps30
  go_wp2_with fail
  go_end0
  exact ⟨rfl, H.out.far HNE.out _, HG.out.set_ _ _, (Keeps.refl _ w).setCell (p := ⟨g, p, none⟩) (.inl (rg_g r g)) _⟩
theorem place_later (h : Blk w r rowT (rowC g mx f n)) (k : Nat) (hf : f < mx) (hk : k ≤ mx) (hm : mx ≤ 4096) (p : Nat) (hp : (f + k) % mx = p) :
    Calls Try.prog 31 #[rp r, .int .i64 k] w fun e w' => e = .returned (.int .i64 p) ∧ ∃ m, w' = w.drewN m := by
  subst hp; exact place_any h k hf hk hm
theorem add_any {cs : Array Value} {s : ByteArray} (h : Blk w r rowT (rowC g mx f n)) (hg : Blk w g 9 cs) (hc : cs.size = mx) (hf : f < mx) (hn : n < mx) (hm : mx ≤ 4096) :
    Calls Try.prog 23 #[rp r, .string s] w fun e w' => e = .returned (.tuple #[]) ∧ Blk w' r rowT (rowC g mx f (n + 1)) ∧ Blk w' g 9 (cs.setIfInBounds ((f + n) % mx) (.string s)) ∧ Keeps (rg r g) w w' := by
  have hp : (f + n) % mx < mx := Nat.mod_lt _ (by omega)
  obtain ⟨p, hpq⟩ : ∃ p, (f + n) % mx = p := ⟨_, rfl⟩
  rw [hpq] at hp ⊢
  have CP := Lib.hid (fun w' (h : Blk w' r rowT (rowC g mx f n)) => place_later h n hf (by omega) hm p hpq)
  have c1 := hg.cell p
  have c2 := hg.frozen p
  rw [Array.getElem?_eq_getElem (by omega)] at c1
  generalize cs[p] = v at c1
  have H := Lib.hid h
  have HG := Lib.hid hg
  have HNE := Lib.hid (h.ne_ hg (by decide))
  have hgr : g ≠ r := (h.ne_ hg (by decide)).symm
  have hrg : r ≠ g := h.ne_ hg (by decide)
  have e1 : IntKind.i64.wrap ((n : Int) + 1) = ((n + 1 : Nat) : Int) := by rw [IntWalk.i64_in _ (by omega)]; omega
  clear h hg hc hpq
  go_enter Try.func23, Try.ntmps23
  have c0 : w.cell? ⟨r, 0, none⟩ = some (.slice (some ⟨g, 0, none⟩) mx mx) := H.out.cell 0
  have c3 : w.cell? ⟨r, 2, none⟩ = some (.int .i64 n) := H.out.cell 2
  have f3 : w.frozen? ⟨r, 2, none⟩ = false := H.out.frozen 2
  have S1 : Hid (w.cell? ⟨r, 0, none⟩ = some (.slice (some ⟨g, 0, none⟩) mx mx) ∧ w.cell? ⟨r, 2, none⟩ = some (.int .i64 n)) := ⟨c0, c3⟩
  have S2 : Hid (∀ M, ((w.drewN M).setCell ⟨g, p, none⟩ (.string s)).cell? ⟨r, 0, none⟩ = some (.slice (some ⟨g, 0, none⟩) mx mx) ∧ ((w.drewN M).setCell ⟨g, p, none⟩ (.string s)).cell? ⟨r, 2, none⟩ = some (.int .i64 n)) := fun M => ⟨((H.out.drewN M).far HNE.out _).cell 0, ((H.out.drewN M).far HNE.out _).cell 2⟩
  go_upto_region 0 with fail
  go_region_held3 (fun W => W.cell? ⟨r, 0, none⟩ = some (.slice (some ⟨g, 0, none⟩) mx mx) ∧ W.cell? ⟨r, 2, none⟩ = some (.int .i64 n))
    (first | exact S1.out | exact S2.out _)
    (first
      | (go_at_call 31; refine (CP.out _ H.out.drew).mono ?_; rintro e w2 ⟨rfl, m, rfl⟩))
  go_wp2_with fail
  go_end0
  exact ⟨rfl, ((H.out.drewN (1 + m)).far HNE.out _).set_ 2 _, ((HG.out.drewN (1 + m)).set_ p _).far HNE.out.symm _, (((Keeps.refl _ w).drewN (1 + m)).setCell (p := ⟨g, p, none⟩) (.inl (rg_g r g)) _).setCell (p := ⟨r, 2, none⟩) (.inl (rg_r r g)) _⟩
theorem dropOldest_any {cs : Array Value} (h : Blk w r rowT (rowC g mx f n)) (hg : Blk w g 9 cs) (hc : cs.size = mx) (hf : f < mx) (h0 : 0 < n) (hn : n ≤ mx) (hm : mx ≤ 4096) :
    Calls Try.prog 22 #[rp r] w fun e w' => e = .returned (.tuple #[]) ∧ Blk w' r rowT (rowC g mx ((f + 1) % mx) (n - 1)) ∧ Blk w' g 9 (cs.setIfInBounds f (.string ⟨#[]⟩)) ∧ Keeps (rg r g) w w' := by
  have c1 : w.cell? ⟨r, 1, none⟩ = some (.int .i64 f) := h.cell 1
  have hp : (f + 1) % mx < mx := Nat.mod_lt _ (by omega)
  obtain ⟨p, hpq⟩ : ∃ p, (f + 1) % mx = p := ⟨_, rfl⟩
  rw [hpq] at hp ⊢
  have CE := Lib.hid (empty_any h hg f hf hc)
  have CP := Lib.hid (fun w' (h : Blk w' r rowT (rowC g mx f n)) => place_later h 1 hf (by omega) hm p hpq)
  have e1 : IntKind.i64.wrap ((n : Int) - 1) = ((n - 1 : Nat) : Int) := by rw [IntWalk.i64_in _ (by omega)]; omega
  have HNE := Lib.hid (h.ne_ hg (by decide))
  clear h hg hc hpq hm
  generalize n - 1 = n1 at *
  go_enter Try.func22, Try.ntmps22
  go_upto_region 1 with (go_at_call 30; refine CE.out.mono ?_; rintro e w1 ⟨rfl, h1, h2, h3⟩; have H1 := Lib.hid h1; have H2 := Lib.hid h2; have H3 := Lib.hid h3; clear h1 h2 h3)
  have d1 : w1.cell? ⟨r, 1, none⟩ = some (.int .i64 f) := H1.out.cell 1
  have d2 : w1.cell? ⟨r, 2, none⟩ = some (.int .i64 n) := H1.out.cell 2
  have d3 : w1.frozen? ⟨r, 1, none⟩ = false := H1.out.frozen 1
  have d4 : w1.frozen? ⟨r, 2, none⟩ = false := H1.out.frozen 2
  go_wp2_with (go_at_call 31; refine (CP.out _ H1.out).mono ?_; rintro e w2 ⟨rfl, m, rfl⟩)
  go_end0
  exact ⟨rfl, ((H1.out.drewN m).set_ 1 _).set_ 2 _, ((H2.out.drewN m).far HNE.out.symm _).far HNE.out.symm _, ((H3.out.drewN m).setCell (p := ⟨r, 1, none⟩) (.inl (rg_r r g)) _).setCell (p := ⟨r, 2, none⟩) (.inl (rg_r r g)) _⟩
theorem dropNewest_any {cs : Array Value} (h : Blk w r rowT (rowC g mx f n)) (hg : Blk w g 9 cs) (hc : cs.size = mx) (hf : f < mx) (h0 : 0 < n) (hn : n ≤ mx) (hm : mx ≤ 4096) :
    Calls Try.prog 26 #[rp r] w fun e w' => e = .returned (.tuple #[]) ∧ Blk w' r rowT (rowC g mx f (n - 1)) ∧ Blk w' g 9 (cs.setIfInBounds ((f + (n - 1)) % mx) (.string ⟨#[]⟩)) ∧ Keeps (rg r g) w w' := by
  have c1 : w.cell? ⟨r, 2, none⟩ = some (.int .i64 n) := h.cell 2
  have hp : (f + (n - 1)) % mx < mx := Nat.mod_lt _ (by omega)
  obtain ⟨p, hpq⟩ : ∃ p, (f + (n - 1)) % mx = p := ⟨_, rfl⟩
  rw [hpq] at hp ⊢
  have CP := Lib.hid (place_later h (n - 1) hf (by omega) hm p hpq)
  have CE := Lib.hid (fun m => empty_any (h.drewN m) (hg.drewN m) p hp hc)
  have e1 : IntKind.i64.wrap ((n : Int) - 1) = ((n - 1 : Nat) : Int) := by rw [IntWalk.i64_in _ (by omega)]; omega
  have HNE := Lib.hid (h.ne_ hg (by decide))
  clear h hg hc hpq hm
  generalize n - 1 = n1 at *
  go_enter Try.func26, Try.ntmps26
  go_upto_region 1 with (first
    | (go_at_call 31; refine CP.out.mono ?_; rintro e w2 ⟨rfl, m, rfl⟩)
    | (go_at_call 30; refine (CE.out _).mono ?_; rintro e w1 ⟨rfl, h1, h2, h3⟩; have H1 := Lib.hid h1; have H2 := Lib.hid h2; have H3 : Hid (Keeps (rg r g) w w1) := ((Keeps.refl _ w).drewN m).trans (h3.mono fun _ h => .inl h); clear h1 h2 h3))
  have d2 : w1.cell? ⟨r, 2, none⟩ = some (.int .i64 n) := H1.out.cell 2
  have d4 : w1.frozen? ⟨r, 2, none⟩ = false := H1.out.frozen 2
  go_wp2_with fail
  go_end0
  exact ⟨rfl, H1.out.set_ 2 _, H2.out.far HNE.out.symm _, H3.out.setCell (p := ⟨r, 2, none⟩) (.inl (rg_r r g)) _⟩
end
theorem infoS : (Try.prog.info? 9).map (fun i => (i.zero, i.size, i.bytes)) = some (some (.string ⟨#[]⟩), 1, 16) := by kernel_rfl
theorem infoB : (Try.prog.info? 5).map (fun i => (i.zero, i.size, i.bytes)) = some (some (.int .u8 0), 1, 1) := by kernel_rfl
theorem newRow_any (mx : Nat) (hm : mx ≤ 4096) (w : World) :
    Calls Try.prog 18 #[.int .i64 mx] w fun e w' => e = .returned (rp (w.heap.size + 1)) ∧ Blk w' (w.heap.size + 1) rowT (rowC w.heap.size mx 0 0) ∧ (∃ cs : Array Value, cs.size = mx ∧ Blk w' w.heap.size 9 cs) ∧ Below w.heap.size w w' := by
  obtain ⟨i0, hi, hz0, hz1, hz2⟩ := info_parts infoS
  obtain ⟨M, hM⟩ : ∃ M, M = madeCells (Value.string ⟨#[]⟩).cells ((mx : Int).toNat * i0.size) := ⟨_, rfl⟩
  have hMs : M.size = mx := by rw [hM, size_madeCells, hz1]; simp [Value.cells]
  have hmk : ∀ W : World, (Instr.makeSlice 41 (.int .i64 (mx : Int)) (.int .i64 (mx : Int))).run Try.prog W = .ok (.slice (some ⟨W.heap.size, 0, none⟩) mx mx) (W.alloc (.cells M 9)) := fun W => by
    have h := run_make (P := Try.prog) W 41 9 i0 (.string ⟨#[]⟩) Try.underlying41 hi hz0 .i64 .i64 (mx : Int) (mx : Int) (by omega) (by omega) (by rw [hz2]; omega) (by omega)
    rw [← hM] at h
    simpa using h
  clear hM hi hz0 hz1 hz2
  have HM := Lib.hid hMs
  clear hMs hm
  go_enter Try.func18, Try.ntmps18
  go_wp2_with fail
  go_ret
  have b1 := below_alloc w (.cells M 9)
  exact ⟨by simp, by have h := Blk.new (w.alloc (.cells M 9)) rowT (rowC w.heap.size mx 0 0); rw [show (w.alloc (.cells M 9)).heap.size = w.heap.size + 1 by simp] at h; exact h, ⟨M, HM.out, (Blk.new w 9 M).alloc _⟩, below_then b1 (below_alloc _ _)⟩
theorem sclone_any (s : ByteArray) (hs : s.size ≤ 4096) (w : World) :
    Calls Try.prog 32 #[.string s] w fun e w' => e = .returned (.string s) ∧ Below w.heap.size w w' := by
  by_cases h0 : s.size = 0
  · have e : s = ⟨#[]⟩ := ByteArray.ext (Array.eq_empty_of_size_eq_zero h0)
    subst e
    go_enter Try.func32, Try.ntmps32
    go_wp2_with fail
    go_ret
    exact ⟨rfl, Below.refl _ _⟩
  · obtain ⟨i0, hi, hz0, hz1, hz2⟩ := info_parts infoB
    have hinfo : (Try.prog.info? 5).map (·.size) = some 1 := by rw [hi]; simp [hz1]
    have hco : Try.prog.cellsOf 5 = 1 := by kernel_rfl
    obtain ⟨M, hM⟩ : ∃ M, M = madeCells (Value.int .u8 0).cells ((s.size : Int).toNat * i0.size) := ⟨_, rfl⟩
    have hMs : M.size = s.size := by rw [hM, size_madeCells, hz1]; simp [Value.cells]
    have hmk : ∀ W : World, (Instr.makeSlice 46 (.int .i64 (s.size : Int)) (.int .i64 (s.size : Int))).run Try.prog W = .ok (.slice (some ⟨W.heap.size, 0, none⟩) s.size s.size) (W.alloc (.cells M 5)) := fun W => by
      have h := run_make (P := Try.prog) W 46 5 i0 (.int .u8 0) Try.underlying46 hi hz0 .i64 .i64 (s.size : Int) (s.size : Int) (by omega) (by omega) (by rw [hz2]; omega) (by omega)
      rw [← hM] at h
      simpa using h
    have hcp := Lib.run_copy_row_string (P := Try.prog) (w.alloc (.cells M 5)) 46 9 3 5 w.heap.size 0 s.size s.size s M 5 Try.underlying46 hinfo (heap_alloc_new w _) (Nat.le_refl _) (by omega)
    obtain ⟨Y, hY⟩ : ∃ Y, Y = (M.toList.take 0 ++ Lib.byteCells s.data.toList ++ M.toList.drop (0 + s.size)).toArray := ⟨_, rfl⟩
    rw [← hY] at hcp
    have hYl : Y.toList = Lib.byteCells s.data.toList := by
      rw [hY, List.toList_toArray, List.take_zero, List.nil_append, List.drop_of_length_le (by rw [Array.length_toList]; omega), List.append_nil]
    have hYs : Y.size = s.size := by rw [← Array.length_toList, hYl, Lib.byteCells_length, ← Lib.size_eq]
    have hgY : ((w.alloc (.cells M 5)).setRow w.heap.size Y).heap[w.heap.size]? = some (.cells Y 5 (0, 0)) := setRow_heap _ _ M _ 5 (0, 0) (heap_alloc_new w _)
    have hne : s.data.toList ≠ [] := fun e => h0 (by rw [Lib.size_eq, e]; rfl)
    have hUS := Lib.run_unsafeString_row (P := Try.prog) ((w.alloc (.cells M 5)).setRow w.heap.size Y) 62 3 9 5 Try.underlying62 hco w.heap.size Y.size (by unfold World.shape?; rw [hgY]) s.data.toList hne (by rw [← Lib.size_eq]; omega) (by rw [← Lib.size_eq]; omega)
      (fun j x hx => Lib.cells_of_row hgY Y.size j _ (by rw [List.take_of_length_le (by rw [Array.length_toList]; exact Nat.le_refl _), hYl]; simp [Lib.byteCells, hx]))
    rw [← Lib.size_eq] at hUS
    clear hY hM
    go_enter Try.func32, Try.ntmps32
    go_wp2_with fail
    go_ret
    have hb2 : Below w.heap.size (w.alloc (.cells M 5)) ((w.alloc (.cells M 5)).setRow w.heap.size Y) := ⟨rfl, rfl, rfl, by simp, fun k hk => setRow_other _ _ _ _ (by omega)⟩
    exact ⟨rfl, Lib.below_freeze ((below_alloc w _).trans hb2) (p := ⟨w.heap.size, 0, none⟩) (Nat.le_refl _) _⟩
theorem clone_any (s : ByteArray) (hs : s.size ≤ 4096) (w : World) :
    Calls Try.prog 24 #[.string s] w fun e w' => e = .returned (.string s) ∧ Below w.heap.size w w' := by
  have C := Lib.hid (sclone_any s hs)
  clear hs
  go_enter Try.func24, Try.ntmps24
  go_wp2_with (go_at_call 32; refine (C.out _).mono ?_; rintro e w1 ⟨rfl, hb⟩; have HB := Lib.hid hb; clear hb)
  go_ret
  exact ⟨rfl, HB.out⟩
end Go.Proofs.Ytgmombgjjmgooaa
