/-
  Lay64 of package insn: two rounds that write an array.
-/
import Derived.Test.YtkopbjjpghbkoaaDoorILeaf2
namespace Go.Proofs.YtkopbjjpghbkoaaDoor
open Go Go.RowKit
set_option linter.unusedVariables false
def layC (d a b : Int) : Array Value := #[.int .i64 24, .int .i64 d, .int .i64 0, .int .i64 0, .int .i64 a, .int .i64 0, .int .i64 0, .int .i64 0, .int .i64 0, .int .i64 b]
def LayAt (w wr : World) (d a b : Int) : Prop := Below w.heap.size w wr ∧ Blk wr w.heap.size 38 #[.int .i64 0, .int .i64 0, .int .i64 0, .int .i64 0, .int .i64 0, .int .i64 0, .int .i64 0, .int .i64 0, .int .i64 0, .int .i64 0] ∧ Blk wr (w.heap.size + 1) 38 (layC d a b)
theorem LayAt.set4 {w wr : World} {d a b : Int} (h : LayAt w wr d a b) (x : Int) : LayAt w (wr.setCell ⟨w.heap.size + 1, 4, none⟩ (.int .i64 x)) d x b :=
  ⟨h.1.setCell (by simp) _, h.2.1.far (by simp) _, by simpa [layC] using h.2.2.set_ 4 (.int .i64 x)⟩
theorem LayAt.set9 {w wr : World} {d a b : Int} (h : LayAt w wr d a b) (x : Int) : LayAt w (wr.setCell ⟨w.heap.size + 1, 9, none⟩ (.int .i64 x)) d a x :=
  ⟨h.1.setCell (by simp) _, h.2.1.far (by simp) _, by simpa [layC] using h.2.2.set_ 9 (.int .i64 x)⟩
set_option maxHeartbeats 1000000 in
theorem lay_any (d n : Int) (hn : 0 ≤ n ∧ n ≤ 18446744073709551615) (w : World) :
    Calls Tryd.prog 14 #[.int .i64 d, .int .u64 n] w fun e w' => e = .returned (layV d n) ∧ Below w.heap.size w w' := by
  have e1 := wrap3264 n
  have e2 := wrap3264 (n / 4294967296)
  have h0 : LayAt w ((w.alloc (.cells #[.int .i64 0, .int .i64 0, .int .i64 0, .int .i64 0, .int .i64 0, .int .i64 0, .int .i64 0, .int .i64 0, .int .i64 0, .int .i64 0] 38)).alloc (.cells #[.int .i64 24, .int .i64 d, .int .i64 0, .int .i64 0, .int .i64 0, .int .i64 0, .int .i64 0, .int .i64 0, .int .i64 0, .int .i64 0] 38)) d 0 0 :=
    ⟨((Below.refl _ w).alloc (Nat.le_refl _) _).alloc (by simp) _, (Blk.new w _ _).alloc _, by have := Blk.new (w.alloc (.cells #[.int .i64 0, .int .i64 0, .int .i64 0, .int .i64 0, .int .i64 0, .int .i64 0, .int .i64 0, .int .i64 0, .int .i64 0, .int .i64 0] 38)) 38 (layC d 0 0); simpa [layC] using this⟩
  have H0 := Lib.hid h0
  clear h0
  go_enter Tryd.func14, Tryd.ntmps14
  go_wp2_with fail
  go_loopw [10] (fun i wr => (i = .int .i64 0 ∧ LayAt w wr d 0 0) ∨ (i = .int .i64 1 ∧ LayAt w wr d (wrap32 n) 0) ∨ (i = .int .i64 2 ∧ LayAt w wr d (wrap32 n) (wrap32 (n / 4294967296)))) (fun i _ => 2 - (intOf i).toNat)
  case atStart => exact .inl ⟨rfl, H0.out⟩
  case round =>
    clear H0
    rcases hrel with ⟨rfl, h⟩ | ⟨rfl, h⟩ | ⟨rfl, h⟩
    · have c4 : wr.cell? ⟨w.heap.size + 1, 4, none⟩ = some (.int .i64 0) := h.2.2.cell 4
      have f4 : wr.frozen? ⟨w.heap.size + 1, 4, none⟩ = false := h.2.2.frozen 4
      have H := Lib.hid h
      clear h
      go_wp2_with fail
      go_roundw
      case rel => exact .inr (.inl ⟨rfl, H.out.set4 _⟩)
      case measure => simp [intOf]
    · have c9 : wr.cell? ⟨w.heap.size + 1, 9, none⟩ = some (.int .i64 0) := h.2.2.cell 9
      have f9 : wr.frozen? ⟨w.heap.size + 1, 9, none⟩ = false := h.2.2.frozen 9
      have H := Lib.hid h
      clear h
      go_wp2_with fail
      go_roundw
      case rel => exact .inr (.inr ⟨rfl, H.out.set9 _⟩)
      case measure => simp [intOf]
    · have hb := h.2.2
      have hc := h.2.1
      have H := Lib.hid h
      clear h
      obtain ⟨x, hx⟩ : ∃ x, wrap32 n = x := ⟨_, rfl⟩
      obtain ⟨y, hy⟩ : ∃ y, wrap32 (n / 4294967296) = y := ⟨_, rfl⟩
      have HV : Hid (layV d n = .agg (layC d x y)) := by unfold layV layC Hid; rw [hx, hy]
      rw [hx, hy] at H hb
      clear hx hy e1 e2
      have r0 : wr.cell? ⟨w.heap.size + 1, 0, none⟩ = some (.int .i64 24) := hb.cell 0
      have r1 : wr.cell? ⟨w.heap.size + 1, 1, none⟩ = some (.int .i64 d) := hb.cell 1
      have r2 : wr.cell? ⟨w.heap.size + 1, 2, none⟩ = some (.int .i64 0) := hb.cell 2
      have r3 : wr.cell? ⟨w.heap.size + 1, 3, none⟩ = some (.int .i64 0) := hb.cell 3
      have r4 : wr.cell? ⟨w.heap.size + 1, 4, none⟩ = some (.int .i64 x) := hb.cell 4
      have r5 : wr.cell? ⟨w.heap.size + 1, 5, none⟩ = some (.int .i64 0) := hb.cell 5
      have r6 : wr.cell? ⟨w.heap.size + 1, 6, none⟩ = some (.int .i64 0) := hb.cell 6
      have r7 : wr.cell? ⟨w.heap.size + 1, 7, none⟩ = some (.int .i64 0) := hb.cell 7
      have r8 : wr.cell? ⟨w.heap.size + 1, 8, none⟩ = some (.int .i64 0) := hb.cell 8
      have r9 : wr.cell? ⟨w.heap.size + 1, 9, none⟩ = some (.int .i64 y) := hb.cell 9
      have q0 : wr.cell? ⟨w.heap.size, 0, none⟩ = some (.int .i64 0) := hc.cell 0
      have q1 : wr.cell? ⟨w.heap.size, 1, none⟩ = some (.int .i64 0) := hc.cell 1
      have q2 : wr.cell? ⟨w.heap.size, 2, none⟩ = some (.int .i64 0) := hc.cell 2
      have q3 : wr.cell? ⟨w.heap.size, 3, none⟩ = some (.int .i64 0) := hc.cell 3
      have q4 : wr.cell? ⟨w.heap.size, 4, none⟩ = some (.int .i64 0) := hc.cell 4
      have q5 : wr.cell? ⟨w.heap.size, 5, none⟩ = some (.int .i64 0) := hc.cell 5
      have q6 : wr.cell? ⟨w.heap.size, 6, none⟩ = some (.int .i64 0) := hc.cell 6
      have q7 : wr.cell? ⟨w.heap.size, 7, none⟩ = some (.int .i64 0) := hc.cell 7
      have q8 : wr.cell? ⟨w.heap.size, 8, none⟩ = some (.int .i64 0) := hc.cell 8
      have q9 : wr.cell? ⟨w.heap.size, 9, none⟩ = some (.int .i64 0) := hc.cell 9
      have f0 : ∀ i, wr.frozen? ⟨w.heap.size, i, none⟩ = false := fun i => hc.frozen i
      have hz := (((((((((hc.set_ 0 (.int .i64 24)).set_ 1 (.int .i64 d)).set_ 2 (.int .i64 0)).set_ 3 (.int .i64 0)).set_ 4 (.int .i64 x)).set_ 5 (.int .i64 0)).set_ 6 (.int .i64 0)).set_ 7 (.int .i64 0)).set_ 8 (.int .i64 0)).set_ 9 (.int .i64 y)
      have HZ := Lib.hid hz
      clear hb hc hz
      go_wp2_with fail
      refine bodyPost_ret (results_cell_row rfl _ _ w.heap.size 38 (layC d x y) (0, 0) _ rfl (by simpa [Blk, layC] using HZ.out) Tryd.underlying38 rfl (by kernel_rfl)) rfl ⟨by rw [HV.out], ?_⟩
      exact (((((((((H.out.1.setCell (by simp) _).setCell (by simp) _).setCell (by simp) _).setCell (by simp) _).setCell (by simp) _).setCell (by simp) _).setCell (by simp) _).setCell (by simp) _).setCell (by simp) _).setCell (by simp) _
end Go.Proofs.YtkopbjjpghbkoaaDoor
