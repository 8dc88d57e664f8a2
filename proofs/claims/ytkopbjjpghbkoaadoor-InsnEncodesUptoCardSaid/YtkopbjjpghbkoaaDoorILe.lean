/-
  The reference's Le and FromLe at the widths that are used.
-/
import Derived.Test.YtkopbjjpghbkoaaDoorIEnc
namespace Go.Proofs.YtkopbjjpghbkoaaDoor
open Go Go.RowKit
set_option linter.unusedVariables false
theorem le_2 (n : Int) (hn : 0 ≤ n) (w : World) :
    Calls Tryd.prog 25 #[.int .u64 n, .int .i64 2] w fun e w' => e = .returned (.string (bstr [u8 n, u8 (n / 256)])) ∧ Below w.heap.size w w' := by
  obtain ⟨i0, hi, hz0, hz1, hz2⟩ := info_parts info8
  have hmk : (Instr.makeSlice 45 (.int .i64 2) (.int .i64 2)).run Tryd.prog w = .ok (.slice (some ⟨w.heap.size, 0, none⟩) 2 2) (w.alloc (.cells #[.int .u8 0, .int .u8 0] 5)) := by kernel_rfl
  have hst : Blk (w.alloc (.cells #[.int .u8 0, .int .u8 0] 5)) w.heap.size 5 #[.int .u8 0, .int .u8 0] := Blk.new w _ _
  have hb0 : Below w.heap.size w (w.alloc (.cells #[.int .u8 0, .int .u8 0] 5)) := (Below.refl _ w).alloc (Nat.le_refl _) _
  have HST := Lib.hid hst
  have HB0 := Lib.hid hb0
  clear hst hb0 hi hz0 hz1 hz2
  go_enter Tryd.func25, Tryd.ntmps25
  go_wp2_with fail
  go_loopw [6] (fun i wr => Below w.heap.size w wr ∧ ((i = .int .i64 0 ∧ Blk wr w.heap.size 5 #[.int .u8 0, .int .u8 0]) ∨ (i = .int .i64 1 ∧ Blk wr w.heap.size 5 #[.int .u8 (n % 256), .int .u8 0]) ∨ (i = .int .i64 2 ∧ Blk wr w.heap.size 5 #[.int .u8 (n % 256), .int .u8 (n / 256 % 256)]))) (fun i _ => 2 - (intOf i).toNat)
  case atStart => exact ⟨HB0.out, .inl ⟨rfl, HST.out⟩⟩
  case round =>
    clear HST HB0 hmk
    obtain ⟨hb, hr⟩ := hrel
    have HB := Lib.hid hb
    clear hb
    rcases hr with ⟨rfl, h⟩ | ⟨rfl, h⟩ | ⟨rfl, h⟩
    · have c0 : wr.cell? ⟨w.heap.size, 0, none⟩ = some (.int .u8 0) := h.cell 0
      have f0 : wr.frozen? ⟨w.heap.size, 0, none⟩ = false := h.frozen 0
      have H := Lib.hid h
      clear h
      go_wp2_with fail
      go_roundw
      case rel => exact ⟨HB.out.setCell (Nat.le_refl _) _, .inr (.inl ⟨rfl, by simpa using H.out.set_ 0 (.int .u8 (n % 256))⟩)⟩
      case measure => simp [intOf]
    · have c1 : wr.cell? ⟨w.heap.size, 1, none⟩ = some (.int .u8 0) := h.cell 1
      have f1 : wr.frozen? ⟨w.heap.size, 1, none⟩ = false := h.frozen 1
      have H := Lib.hid h
      clear h
      go_wp2_with fail
      go_roundw
      case rel => exact ⟨HB.out.setCell (Nat.le_refl _) _, .inr (.inr ⟨rfl, by simpa using H.out.set_ 1 (.int .u8 (n / 256 % 256))⟩)⟩
      case measure => simp [intOf]
    · have ho : wr.ownsRow w.heap.size 5 1 (.slice (some ⟨w.heap.size, 0, none⟩) 2 2) 2 ([u8 n, u8 (n / 256)].map byteV) := by
        refine ⟨rfl, .inr ⟨w.heap.size, 2, _, rfl, Nat.le_refl _, h, by omega, by unfold maxLen; omega, rfl, ?_⟩⟩
        simp [byteV_u8]
      have hcv := own_str (ys := [u8 n, u8 (n / 256)]) ho
      clear h ho
      go_wp2_with fail
      go_ret
      exact ⟨rfl, HB.out⟩
end Go.Proofs.YtkopbjjpghbkoaaDoor
