/-
  Layer 7: at.
-/
import Derived.Test.YthilkgfbaddjpaaDoorLCalls
namespace Go.Proofs.YthilkgfbaddjpaaDoor
open Go Go.RowKit
set_option linter.unusedVariables false
set_option linter.unusedSimpArgs false
set_option maxRecDepth 100000
def noTy : Ty := ⟨0, ⟨#[]⟩, 0, 0, 0, []⟩
def tyAt (l : List Ty) (j : Nat) : Ty := if j = 0 then noTy else l.getD (j - 1) noTy
section
variable {w : World} {a : Nat → Addr} {A : Option Addr} {cl : Nat} {l : List Ty} {τ Z : Nat} {zs : List (Int × Nat)}
def PostAt (w : World) (t : Ty) (e : Ending) (w' : World) : Prop := Below w.heap.size w w' ∧ ∃ A' c', e = .returned (tyV t (.slice A' t.mems.length c')) ∧ MemsAt w' A' t.mems
theorem Blk.six {w : World} {g : Nat} {t : TypeId} {a0 a1 a2 a3 a4 a5 : Value} (h : Blk w g t #[a0, a1, a2, a3, a4, a5]) (b0 b1 b2 b3 b4 b5 : Value) :
    Blk ((((((w.setCell ⟨g, 0, none⟩ b0).setCell ⟨g, 1, none⟩ b1).setCell ⟨g, 2, none⟩ b2).setCell ⟨g, 3, none⟩ b3).setCell ⟨g, 4, none⟩ b4).setCell ⟨g, 5, none⟩ b5) g t #[b0, b1, b2, b3, b4, b5] :=
  (((((h.set_ 0 b0).set_ 1 b1).set_ 2 b2).set_ 3 b3).set_ 4 b4).set_ 5 b5
theorem belowSet {B : Nat} {w0 W : World} (h : Below B w0 W) {g : Nat} (hg : B ≤ g) (i : Nat) (v : Value) : Below B w0 (W.setCell ⟨g, i, none⟩ v) :=
  ⟨h.os, h.tape, h.output, by have := h.size; simp [World.setCell]; omega, fun k hk => by
    rw [Below.heap_setCell _ _ _ _ (by simp only; omega)]
    exact h.block k hk⟩
set_option maxHeartbeats 2000000 in
theorem at_any (h : TX w a A cl l τ Z zs) (j : Nat) (hj : j ≤ l.length) :
    Calls Tryd.prog 27 #[.pointer (some ⟨τ, 0, none⟩), .int .i64 j] w (PostAt w (tyAt l j)) := by
  have b2 : Below w.heap.size w (w.alloc (.cells (tyCells noTy (.slice none 0 0)) 34)) := (Below.refl _ w).alloc (Nat.le_refl _) _
  have HX := Lib.hid (h.below b2)
  have HT := Lib.hid (Blk.new w 34 (tyCells noTy (.slice none 0 0)))
  have B2 := Lib.hid b2
  have i1 : (l.length : Int) ≤ 1024 := by have := h.few; omega
  have HTY := Lib.hid h.types
  unfold tyCells noTy at HX HT B2
  clear h b2
  simp only [List.length_nil] at HX HT B2
  by_cases h0 : j = 0
  · subst h0
    clear i1
    go_enter Tryd.func27, Tryd.ntmps27
    go_upto_region 2 with fail
    generalize World.alloc _ _ = w1 at HX HT B2 ⊢
    have b0 : w1.cell? ⟨w.heap.size, 0, none⟩ = some (.int .i64 0) := HT.out.cell 0
    have f0 : w1.frozen? ⟨w.heap.size, 0, none⟩ = false := HT.out.frozen 0
    have b1 : w1.cell? ⟨w.heap.size, 1, none⟩ = some (.string ⟨#[]⟩) := HT.out.cell 1
    have f1 : w1.frozen? ⟨w.heap.size, 1, none⟩ = false := HT.out.frozen 1
    have b2 : w1.cell? ⟨w.heap.size, 2, none⟩ = some (.int .i64 0) := HT.out.cell 2
    have f2 : w1.frozen? ⟨w.heap.size, 2, none⟩ = false := HT.out.frozen 2
    have b3 : w1.cell? ⟨w.heap.size, 3, none⟩ = some (.int .i64 0) := HT.out.cell 3
    have f3 : w1.frozen? ⟨w.heap.size, 3, none⟩ = false := HT.out.frozen 3
    have b4 : w1.cell? ⟨w.heap.size, 4, none⟩ = some (.int .i64 0) := HT.out.cell 4
    have f4 : w1.frozen? ⟨w.heap.size, 4, none⟩ = false := HT.out.frozen 4
    have b5 : w1.cell? ⟨w.heap.size, 5, none⟩ = some (.slice none 0 0) := HT.out.cell 5
    have f5 : w1.frozen? ⟨w.heap.size, 5, none⟩ = false := HT.out.frozen 5
    go_wp2_with fail
    have s1 := HT.out.six (.int .i64 0) (.string ⟨#[]⟩) (.int .i64 0) (.int .i64 0) (.int .i64 0) (.slice none 0 0)
    refine bodyPost_ret (results_cell_row rfl _ _ w.heap.size 34 _ (0, 0) _ rfl s1 Tryd.underlying34 rfl (by kernel_rfl)) rfl ?_
    exact ⟨belowSet (belowSet (belowSet (belowSet (belowSet (belowSet B2.out (Nat.le_refl _) _ _) (Nat.le_refl _) _ _) (Nat.le_refl _) _ _) (Nat.le_refl _) _ _) (Nat.le_refl _) _ _) (Nat.le_refl _) _ _, none, 0, rfl, fun i m hi => by cases hi⟩
  · obtain ⟨t, ht⟩ : ∃ t, l[j - 1]? = some t := ⟨_, List.getElem?_eq_getElem (by omega)⟩
    have hat : tyAt l j = t := by unfold tyAt; rw [if_neg h0, List.getD_eq_getElem?_getD, ht]; rfl
    rw [hat]
    have HTI := Lib.hid ht
    obtain ⟨q0, hq0⟩ : ∃ q0, j - 1 = q0 := ⟨_, rfl⟩
    rw [hq0] at HTI
    have g0 : (j == 0) = false := by simpa using h0
    have hq1 : (j : Int) - 1 = (q0 : Int) := by omega
    have k1 : (q0 : Int) < (l.length : Int) := by omega
    have k2 : (0 : Int) ≤ (q0 : Int) := by omega
    clear ht hat hq0 h0 hj
    go_enter Tryd.func27, Tryd.ntmps27
    go_upto_region 3 with fail
    generalize World.alloc _ _ = w1 at HX HT B2 ⊢
    obtain ⟨bA, oA, A', c', rfl, hlt1, x0, x1, x2, x3, x4, x5, hm1, hs1, hn1⟩ := HX.out.types q0 t HTI.out
    have HM : Hid (MemsAt w A' t.mems) := by
      obtain ⟨bB, oB, A2, c2, e2, hlt2, _, _, _, _, _, y5, hm2, _, _⟩ := HTY.out q0 t HTI.out
      cases e2
      have e3 := B2.out.cell (p := ⟨bA, oA + q0 * 6 + 5, none⟩) hlt2
      rw [x5, y5] at e3
      cases e3
      exact hm2
    have c0 : w1.cell? ⟨τ, 0, none⟩ = some (.slice (some ⟨bA, oA, none⟩) l.length cl) := HX.out.blk.cell 0
    have b0 : w1.cell? ⟨w.heap.size, 0, none⟩ = some (.int .i64 0) := HT.out.cell 0
    have f0 : w1.frozen? ⟨w.heap.size, 0, none⟩ = false := HT.out.frozen 0
    have b1 : w1.cell? ⟨w.heap.size, 1, none⟩ = some (.string ⟨#[]⟩) := HT.out.cell 1
    have f1 : w1.frozen? ⟨w.heap.size, 1, none⟩ = false := HT.out.frozen 1
    have b2 : w1.cell? ⟨w.heap.size, 2, none⟩ = some (.int .i64 0) := HT.out.cell 2
    have f2 : w1.frozen? ⟨w.heap.size, 2, none⟩ = false := HT.out.frozen 2
    have b3 : w1.cell? ⟨w.heap.size, 3, none⟩ = some (.int .i64 0) := HT.out.cell 3
    have f3 : w1.frozen? ⟨w.heap.size, 3, none⟩ = false := HT.out.frozen 3
    have b4 : w1.cell? ⟨w.heap.size, 4, none⟩ = some (.int .i64 0) := HT.out.cell 4
    have f4 : w1.frozen? ⟨w.heap.size, 4, none⟩ = false := HT.out.frozen 4
    have b5 : w1.cell? ⟨w.heap.size, 5, none⟩ = some (.slice none 0 0) := HT.out.cell 5
    have f5 : w1.frozen? ⟨w.heap.size, 5, none⟩ = false := HT.out.frozen 5
    obtain ⟨kd, nm, sz, ty, ct, ms⟩ := t
    simp only at x0 x1 x2 x3 x4 x5 hn1 hs1 HM
    clear hm1
    go_wp2_with fail
    have s1 := HT.out.six (.int .i64 kd) (.string nm) (.int .i64 sz) (.int .i64 ty) (.int .i64 ct) (.slice A' ms.length c')
    refine bodyPost_ret (results_cell_row rfl _ _ w.heap.size 34 _ (0, 0) _ rfl s1 Tryd.underlying34 rfl (by kernel_rfl)) rfl ?_
    have hb := belowSet (belowSet (belowSet (belowSet (belowSet (belowSet B2.out (Nat.le_refl _) 0 (.int .i64 kd)) (Nat.le_refl _) 1 (.string nm)) (Nat.le_refl _) 2 (.int .i64 sz)) (Nat.le_refl _) 3 (.int .i64 ty)) (Nat.le_refl _) 4 (.int .i64 ct)) (Nat.le_refl _) 5 (.slice A' ms.length c')
    exact ⟨hb, A', c', rfl, HM.out.below hb⟩
end
end Go.Proofs.YthilkgfbaddjpaaDoor
