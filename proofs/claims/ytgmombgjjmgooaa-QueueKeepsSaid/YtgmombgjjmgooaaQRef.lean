/-
  The reference's queue: a map of its own; first, Peek, New.
-/
import Derived.Test.YtgmombgjjmgooaaQPop
import Derived.Maps.AppendAt
import Derived.Laws.OwnMore
import Derived.Deep.AppendLies
namespace Go.Proofs.Ytgmombgjjmgooaa
open Go Go.RowKit Go.Maps
set_option linter.unusedVariables false
set_option linter.unusedSimpArgs false
set_option maxRecDepth 100000
abbrev strT : TypeId := 9
abbrev strsT : TypeId := 41
abbrev refT : TypeId := 43
abbrev refC (k v mx : Int) (V : Value) : Array Value := #[.int .i64 k, .int .i64 0, .int .i64 v, .int .i64 mx, V]
/-- The texts of L lie behind A. -/
def StrsAt (w : World) (A : Option Addr) (L : List ByteArray) : Prop := ∀ i s, L[i]? = some s → ∃ b o, A = some ⟨b, o, none⟩ ∧ b < w.heap.size ∧ w.cell? ⟨b, o + i, none⟩ = some (.string s)
theorem StrsAt.below {w w' : World} {A : Option Addr} {L : List ByteArray} (h : StrsAt w A L) (hb : Below w.heap.size w w') : StrsAt w' A L := by
  intro i s hi
  obtain ⟨b, o, rfl, h1, h2⟩ := h i s hi
  exact ⟨b, o, rfl, Nat.lt_of_lt_of_le h1 hb.size, (hb.cell (p := ⟨b, o + i, none⟩) h1).trans h2⟩
theorem ownsRow_keeps {S : Nat → Prop} {w w' : World} {base : Nat} {e : TypeId} {size : Nat} {v : Value} {n : Nat} {xs : List Value} (h : w.ownsRow base e size v n xs) (hk : Keeps S w w') (hS : ∀ b, S b → b < base) : w'.ownsRow base e size v n xs := by
  refine ⟨h.1, h.2.imp id ?_⟩
  rintro ⟨g, cap, cur, rfl, h1, h2, rest⟩
  have hlt : g < w.heap.size := by
    rcases Nat.lt_or_ge g w.heap.size with hlt | hge
    · exact hlt
    · rw [Array.getElem?_eq_none hge] at h2; cases h2
  exact ⟨g, cap, cur, rfl, h1, (hk.block g hlt (fun hs => by have := hS g hs; omega)).trans h2, rest⟩
theorem ownsRow_base {w : World} {base base' : Nat} {e : TypeId} {s : Nat} {v : Value} {n : Nat} {xs : List Value} (h : w.ownsRow base e s v n xs) (hb : base' ≤ base) : w.ownsRow base' e s v n xs :=
  ⟨h.1, h.2.imp id fun ⟨g, cap, cur, e1, h1, h2⟩ => ⟨g, cap, cur, e1, Nat.le_trans hb h1, h2⟩⟩
abbrev Strs (w : World) (base : Nat) (V : Value) (L : List ByteArray) : Prop := w.ownsRow base strT 1 V L.length (L.map Value.string)
/-- A row of the reference's own: where it lies. -/
theorem strs_form {w : World} {base : Nat} {V : Value} {L : List ByteArray} (h : Strs w base V L) :
    (V = .slice none 0 0 ∧ L = []) ∨ ∃ g c, V = .slice (some ⟨g, 0, none⟩) L.length c ∧ base ≤ g ∧ L.length ≤ c ∧ c ≤ maxLen ∧ g < w.heap.size ∧ ∀ i s, L[i]? = some s → w.cell? ⟨g, i, none⟩ = some (.string s) := by
  rcases h.2 with ⟨h1, h2⟩ | ⟨g, cap, cur, rfl, hb, hg, h1, h2, h3, h4⟩
  · exact .inl ⟨h1, List.length_eq_zero_iff.1 h2⟩
  · refine .inr ⟨g, cap, rfl, hb, h1, h2, ?_, fun i s hi => ?_⟩
    · rcases Nat.lt_or_ge g w.heap.size with hlt | hge
      · exact hlt
      · rw [Array.getElem?_eq_none hge] at hg; cases hg
    · have := h.cells (g := g) rfl i (.string s) (by rw [List.getElem?_map, hi]; rfl)
      rwa [show (⟨g, 0, none⟩ : Addr).add i = ⟨g, i, none⟩ by unfold Addr.add; split <;> simp_all] at this
/-- An append of texts, of none too, to a row of the call's own. -/
theorem append_strs {w0 w : World} {V : Value} {c : Nat} {N M : List ByteArray} {A : Option Addr} (hb : Below w0.heap.size w0 w) (ho : Strs w w0.heap.size V N) (hY : StrsAt w A M) (hA : A = none → M = [] ∧ c = 0) (hsp : ∀ a, A = some a → ∃ b o, a = ⟨b, o, none⟩) (hnm : N.length + M.length ≤ 2097152) :
    ∃ V' w', (∀ ty, (Builtin.append_ #[strsT, strsT] ty #[V, .slice A M.length c]).run Try.prog w = .ok V' w') ∧ Strs w' w0.heap.size V' (N ++ M) ∧ Below w0.heap.size w0 w' := by
  obtain ⟨i0, hi, hz0, hz1, hz2⟩ := info_parts infoS
  rcases A with _ | ad
  · obtain ⟨rfl, rfl⟩ := hA rfl
    refine ⟨V, w, fun ty => run_append_owned_none w w0.heap.size _ _ _ i0 1 Try.underlying41 hi V _ _ ho, ?_, hb⟩
    rw [List.append_nil]
    exact ho
  · obtain ⟨b, o, rfl⟩ := hsp ad rfl
    have key : ∀ ty, ∃ V' w', (Builtin.append_ #[strsT, strsT] ty #[V, .slice (some ⟨b, o, none⟩) M.length c]).run Try.prog w = .ok V' w' ∧ Strs w' w0.heap.size V' (N ++ M) ∧ Below w0.heap.size w0 w' := fun ty => by
      obtain ⟨V', w', hr, h1, h2, _, _⟩ := run_append_own_at (P := Try.prog) w w0.heap.size strsT ty strT i0 (.string ⟨#[]⟩) 1 16 Try.underlying41 hi hz0 hz1 hz2 rfl (by decide) V _ _ ho ⟨b, o, none⟩ M.length c (M.map Value.string) (by simp) (fun j u hj => by
        rw [List.getElem?_map, Option.map_eq_some_iff] at hj
        obtain ⟨s, hs, rfl⟩ := hj
        obtain ⟨b', o', e, _, hc⟩ := hY j s hs
        cases e
        rw [Go.WideShapes.add_plain]
        exact hc) (fun u hu => by
        obtain ⟨s, _, rfl⟩ := List.mem_map.1 hu
        rfl) (by unfold maxLen; omega) (by omega) hb.size
      refine ⟨V', w', hr, ?_, hb.grown h2 hb.size (fun k e => (ho.lt k e).1)⟩
      unfold Strs
      rw [List.map_append, List.length_append]
      exact h1
    obtain ⟨V', w', hr, h1, h2⟩ := key strsT
    refine ⟨V', w', fun ty => ?_, h1, h2⟩
    obtain ⟨V2, w2, hr2, _⟩ := key ty
    rw [← hr]
    rfl
structure RQ (w : World) (base y : Nat) (k : Int) (v mx : Nat) (L : List ByteArray) : Prop where
  map : ∃ V, Blk w y refT (refC k v mx V) ∧ Strs w base V L
  lt : y < base
  len : L.length ≤ mx
  most : mx ≤ 4096
  bz : base ≤ w.heap.size
def isY (y : Nat) (b : Nat) : Prop := b = y
section
variable {w w' : World} {base y v mx : Nat} {k : Int} {L : List ByteArray}
theorem RQ.keeps {S : Nat → Prop} (h : RQ w base y k v mx L) (hk : Keeps S w w') (hy : ¬ S y) (hS : ∀ b, S b → b < base) : RQ w' base y k v mx L := by
  obtain ⟨⟨V, h1, h2⟩, h3, h4, h5, h6⟩ := h
  exact ⟨⟨V, h1.keeps hk hy, ownsRow_keeps h2 hk hS⟩, h3, h4, h5, Nat.le_trans h6 hk.size⟩
theorem RQ.below (h : RQ w base y k v mx L) (hb : Below w.heap.size w w') : RQ w' base y k v mx L := h.keeps (keeps_grow hb) (fun h => h) (fun _ h => h.elim)
theorem first_queue (hk : k ≠ 23) {V : Value} (h : Blk w y refT (refC k v mx V)) : Calls Try.prog 27 #[rp y] w fun e w' => e = .returned (.int .i64 0) ∧ w = w' := by
  have c0 : w.cell? ⟨y, 0, none⟩ = some (.int .i64 k) := h.cell 0
  have e1 : (k == 23) = false := by simpa using hk
  clear h hk
  go_enter Try.func27, Try.ntmps27
  go_wp2_with fail
  go_ret
  exact ⟨rfl, rfl⟩
theorem first_stack {A : Option Addr} {q n c : Nat} (hq : q + 1 = n) (hm : n ≤ 4096) (h : Blk w y refT (refC 23 v mx (.slice A n c))) : Calls Try.prog 27 #[rp y] w fun e w' => e = .returned (.int .i64 q) ∧ w = w' := by
  have c0 : w.cell? ⟨y, 0, none⟩ = some (.int .i64 23) := h.cell 0
  have c4 : w.cell? ⟨y, 4, none⟩ = some (.slice A n c) := h.cell 4
  have e1 : IntKind.i64.wrap ((n : Int) - 1) = (q : Int) := by rw [IntWalk.i64_in _ (by omega)]; omega
  clear h hq hm
  go_enter Try.func27, Try.ntmps27
  go_wp2_with fail
  go_ret
  exact ⟨rfl, rfl⟩
theorem xpeek_none {c : Nat} {A : Option Addr} (h : Blk w y refT (refC k v mx (.slice A 0 c))) : Calls Try.prog 14 #[rp y] w fun e w' => e = .returned (.tuple #[.string ⟨#[]⟩, .int .i64 4]) ∧ ∃ m, w' = w.drewN m := by
  have c4 : w.cell? ⟨y, 4, none⟩ = some (.slice A 0 c) := h.cell 4
  clear h
  go_enter Try.func14, Try.ntmps14
  go_wp2_with fail
  go_ret2
  exact ⟨rfl, 0, rfl⟩
theorem xpeek_some {g n c q : Nat} {s : ByteArray} (hq : q < n) (h : Blk w y refT (refC k v mx (.slice (some ⟨g, 0, none⟩) n c))) (hs : w.cell? ⟨g, q, none⟩ = some (.string s))
    (hf : ∀ w', Blk w' y refT (refC k v mx (.slice (some ⟨g, 0, none⟩) n c)) → Calls Try.prog 27 #[rp y] w' fun e w'' => e = .returned (.int .i64 q) ∧ w' = w'') :
    Calls Try.prog 14 #[rp y] w fun e w' => e = .returned (.tuple #[.string s, .int .i64 0]) ∧ ∃ m, w' = w.drewN m := by
  have c4 : w.cell? ⟨y, 4, none⟩ = some (.slice (some ⟨g, 0, none⟩) n c) := h.cell 4
  have e1 : ((n : Int) == 0) = false := by simp; omega
  have i1 : (q : Int) < (n : Int) := by omega
  have HF := Lib.hid (fun N => (hf (w.drewN N) (h.drewN N)).mono fun e w' he => (⟨he.1, he.2.symm⟩ : e = .returned (.int .i64 q) ∧ w' = w.drewN N))
  clear h hf
  go_enter Try.func14, Try.ntmps14
  go_upto_region 3 with fail
  go_quiet ((go_at_call 27; exact Calls.quiet_of_same (HF.out _)))
  go_wp2_with fail
  go_ret2
  exact ⟨rfl, _, rfl⟩
end
theorem xnew_no (k key v mx : Int) (h : fitsB k key v mx = false) (w : World) : Calls Try.prog 8 #[specV k key v mx] w fun e w' => e = .returned (.tuple #[.pointer none, .int .i64 1]) ∧ Below w.heap.size w w' := by
  have CF := Lib.hid (may_any k key v mx)
  rw [h] at CF
  have B := Lib.hid (below_alloc w (.cells (specC k key v mx) 23))
  clear h
  go_enter Try.func8, Try.ntmps8
  go_wp2_with (go_at_call 19; refine (CF.out _).mono ?_; rintro e w1 ⟨rfl, hb⟩; have B1 := Lib.hid (below_then B.out hb); clear hb)
  go_ret2
  exact ⟨rfl, B1.out⟩
theorem xnew_ok (k : Int) (v mx : Nat) (h : fitsB k 0 v mx = true) (w : World) : Calls Try.prog 8 #[specV k 0 v mx] w fun e w' => ∃ y, e = .returned (.tuple #[rp y, .int .i64 0]) ∧ RQ w' w'.heap.size y k v mx [] ∧ w.heap.size ≤ y ∧ Below w.heap.size w w' := by
  have CF := Lib.hid (may_any k 0 v mx)
  rw [h] at CF
  have HM := Lib.hid (fits_true h)
  have B := Lib.hid (below_alloc w (.cells (specC k 0 v mx) 23))
  have HB := Lib.hid (Blk.new w 23 (specC k 0 v mx))
  clear h
  go_enter Try.func8, Try.ntmps8
  go_upto_region 3 with (go_at_call 19; refine (CF.out _).mono ?_; rintro e w1 ⟨rfl, hb⟩; have B1 := Lib.hid (below_then B.out hb); have HB1 := Lib.hid (blk_below HB.out hb); clear hb)
  have c0 : w1.cell? ⟨w.heap.size, 0, none⟩ = some (.int .i64 k) := HB1.out.cell 0
  have c1 : w1.cell? ⟨w.heap.size, 1, none⟩ = some (.int .i64 0) := HB1.out.cell 1
  have c2 : w1.cell? ⟨w.heap.size, 2, none⟩ = some (.int .i64 v) := HB1.out.cell 2
  have c3 : w1.cell? ⟨w.heap.size, 3, none⟩ = some (.int .i64 mx) := HB1.out.cell 3
  go_wp2_with fail
  go_ret2
  have hz := B1.out.size
  exact ⟨_, rfl, ⟨⟨_, Blk.new w1 refT (refC k v mx (.slice none 0 0)), World.ownsRow_nil _ _ _ _⟩, by simp, by simp, by have := HM.out; omega, Nat.le_refl _⟩, hz, below_then B1.out (below_alloc _ _)⟩
end Go.Proofs.Ytgmombgjjmgooaa
