/-
  slotOf of package insn: a slot of eight bytes.
-/
import Derived.Test.YtkopbjjpghbkoaaDoorILe2
import Derived.Deep.QuietTactic
import Derived.BigQuiet
import Derived.Deep.RegionHeld3
import Derived.StillTailTactics
namespace Go.Proofs.YtkopbjjpghbkoaaDoor
open Go Go.RowKit
set_option linter.unusedVariables false
/-- What eight bytes say. -/
def decS (b0 b1 b2 b3 b4 b5 b6 b7 : UInt8) : Slot := ⟨b0.toNat, (b1.toNat : Int) % 16, (b1.toNat : Int) / 16, IntKind.i16.wrap ((b2.toNat : Int) + b3.toNat * 256), IntKind.i32.wrap ((b4.toNat : Int) + b5.toNat * 256 + b6.toNat * 65536 + b7.toNat * 16777216)⟩
theorem byte_u8 (b : UInt8) : 0 ≤ (b.toNat : Int) ∧ (b.toNat : Int) ≤ 255 := by have := b.toNat_lt; omega
theorem w64_byte (b : UInt8) : IntKind.i64.wrap (b.toNat : Int) = b.toNat := by have := byte_u8 b; rw [IntKind.wrap_i64]; omega
theorem w16_byte (b : UInt8) : IntKind.i16.wrap (b.toNat : Int) = b.toNat := by
  have := byte_u8 b
  simp [IntKind.wrap, IntKind.bits, IntKind.signed]; omega
theorem dec_off (b2 b3 : UInt8) : bits .or .i16 (IntKind.i16.wrap (b2.toNat : Int)) (IntKind.i16.wrap (IntKind.i16.wrap (b3.toNat : Int) * 256)) = IntKind.i16.wrap ((b2.toNat : Int) + b3.toNat * 256) := by
  rw [w16_byte, w16_byte]
  exact or_i16 _ _ (byte_u8 b2) (byte_u8 b3)
theorem w32_small (x : Int) (h0 : 0 ≤ x) (h1 : x < 2147483648) : wrap32 x = x := by unfold wrap32; omega
theorem dec_imm (b4 b5 b6 b7 : UInt8) : bits .or .i32 (bits .or .i32 (bits .or .i32 (wrap32 (b4.toNat : Int)) (wrap32 (wrap32 (b5.toNat : Int) * 256))) (wrap32 (wrap32 (b6.toNat : Int) * 65536))) (wrap32 (wrap32 (b7.toNat : Int) * 16777216)) = IntKind.i32.wrap ((b4.toNat : Int) + b5.toNat * 256 + b6.toNat * 65536 + b7.toNat * 16777216) := by
  have h4 := byte_u8 b4
  have h5 := byte_u8 b5
  have h6 := byte_u8 b6
  have h7 := byte_u8 b7
  rw [w32_small (b4.toNat : Int) (by omega) (by omega), w32_small (b5.toNat : Int) (by omega) (by omega), w32_small (b6.toNat : Int) (by omega) (by omega), w32_small (b7.toNat : Int) (by omega) (by omega), w32_small ((b5.toNat : Int) * 256) (by omega) (by omega), w32_small ((b6.toNat : Int) * 65536) (by omega) (by omega),
    show wrap32 ((b7.toNat : Int) * 16777216) = IntKind.i32.wrap ((b7.toNat : Int) * 16777216) by rw [IntKind.wrap_i32]; unfold wrap32; omega]
  exact or_i32 _ _ _ _ h4 h5 h6 h7
theorem w64_i16 (x : Int) : IntKind.i64.wrap (IntKind.i16.wrap x) = IntKind.i16.wrap x := by
  rw [IntKind.wrap_i64]
  simp [IntKind.wrap, IntKind.bits, IntKind.signed]
  split <;> omega
theorem w64_i32 (x : Int) : IntKind.i64.wrap (IntKind.i32.wrap x) = IntKind.i32.wrap x := by
  rw [IntKind.wrap_i64, IntKind.wrap_i32]
  omega
theorem wrap64_is (x : Int) : IntKind.i64.wrap x = wrap64 x := by rw [IntKind.wrap_i64]; unfold wrap64; omega
theorem ret5 {a0 a1 a2 a3 a4 e0 e1 e2 e3 e4 : Int} (h0 : a0 = e0) (h1 : a1 = e1) (h2 : a2 = e2) (h3 : a3 = e3) (h4 : a4 = e4) :
    Ending.returned (.agg #[.int .i64 a0, .int .i64 a1, .int .i64 a2, .int .i64 a3, .int .i64 a4]) = .returned (.agg #[.int .i64 e0, .int .i64 e1, .int .i64 e2, .int .i64 e3, .int .i64 e4]) := by rw [h0, h1, h2, h3, h4]
theorem and15 (b : UInt8) : bits .and .u8 (b.toNat : Int) 15 = (b.toNat : Int) % 16 := by
  have h := byte_u8 b
  exact bits_mask .u8 8 (by decide) wraps_u8 4 (by decide) _ (by omega) (by omega)
set_option maxRecDepth 100000 in
set_option maxHeartbeats 1000000 in
theorem slotOf_any (b0 b1 b2 b3 b4 b5 b6 b7 : UInt8) (w : World) :
    Calls Tryd.prog 26 #[.string ⟨#[b0, b1, b2, b3, b4, b5, b6, b7]⟩] w fun e w' => e = .returned (decS b0 b1 b2 b3 b4 b5 b6 b7).V ∧ Below w.heap.size w w' := by
  go_enter Tryd.func26, Tryd.ntmps26
  go_wp2_with fail
  go_quiet (fail)
  go_wp2_with fail
  go_quiet (fail)
  go_wp2_with fail
  generalize hW1 : World.drewN _ _ = W1
  have hb1 : Blk W1 w.heap.size 37 #[.int .i64 0, .int .i64 0, .int .i64 0, .int .i64 0, .int .i64 0] := by rw [← hW1]; exact Blk.new w _ _
  have hl1 : Below w.heap.size w W1 := by 
    have hh := (Below.refl _ w).alloc (Nat.le_refl _) (.cells #[.int .i64 0, .int .i64 0, .int .i64 0, .int .i64 0, .int .i64 0] 37)
    rw [← hW1]
    exact ⟨hh.os, hh.tape, hh.output, hh.size, hh.block⟩
  have HB1 := Lib.hid hb1
  have HL1 := Lib.hid hl1
  clear hW1 hb1 hl1
  go_still_tail 16, (by kernel_rfl)
  change wpList _ _ _ _ _ W1.drew
  have hb2 : Blk W1.drew w.heap.size 37 #[.int .i64 0, .int .i64 0, .int .i64 0, .int .i64 0, .int .i64 0] := HB1.out
  have hl2 : Below w.heap.size w W1.drew := HL1.out.drew
  generalize W1.drew = W2 at hb2 hl2 ⊢
  have c0 : W2.cell? ⟨w.heap.size, 0, none⟩ = some (.int .i64 0) := hb2.cell 0
  have c1 : W2.cell? ⟨w.heap.size, 1, none⟩ = some (.int .i64 0) := hb2.cell 1
  have c2 : W2.cell? ⟨w.heap.size, 2, none⟩ = some (.int .i64 0) := hb2.cell 2
  have c3 : W2.cell? ⟨w.heap.size, 3, none⟩ = some (.int .i64 0) := hb2.cell 3
  have c4 : W2.cell? ⟨w.heap.size, 4, none⟩ = some (.int .i64 0) := hb2.cell 4
  have f0 : ∀ i, W2.frozen? ⟨w.heap.size, i, none⟩ = false := fun i => hb2.frozen i
  have HB2 := Lib.hid hb2
  have HL2 := Lib.hid hl2
  clear hb2 hl2
  go_wp2_with fail
  refine bodyPost_ret (results_cell_row rfl _ _ w.heap.size 37 _ (0, 0) _ rfl (((((HB2.out.set_ 0 _).set_ 1 _).set_ 2 _).set_ 3 _).set_ 4 _) Tryd.underlying37 rfl (by kernel_rfl)) rfl ⟨?_, ((((HL2.out.setCell (Nat.le_refl _) _).setCell (Nat.le_refl _) _).setCell (Nat.le_refl _) _).setCell (Nat.le_refl _) _).setCell (Nat.le_refl _) _⟩
  refine ret5 (a0 := wrap64 (b0.toNat : Int)) (a1 := wrap64 (bits .and .u8 (b1.toNat : Int) 15)) (a2 := wrap64 ((b1.toNat : Int) / 16)) (a3 := wrap64 (bits .or .i16 (IntKind.i16.wrap (b2.toNat : Int)) (IntKind.i16.wrap (IntKind.i16.wrap (b3.toNat : Int) * 256))))
    (a4 := wrap64 (bits .or .i32 (bits .or .i32 (bits .or .i32 (wrap32 (b4.toNat : Int)) (wrap32 (wrap32 (b5.toNat : Int) * 256))) (wrap32 (wrap32 (b6.toNat : Int) * 65536))) (wrap32 (wrap32 (b7.toNat : Int) * 16777216)))) ?_ ?_ ?_ ?_ ?_
  · have := byte_u8 b0; simp only [decS]; unfold wrap64; omega
  · have := byte_u8 b1; rw [and15]; simp only [decS]; unfold wrap64; omega
  · have := byte_u8 b1; simp only [decS]; unfold wrap64; omega
  · rw [dec_off, ← wrap64_is, w64_i16]; rfl
  · rw [dec_imm, ← wrap64_is, w64_i32]; rfl
end Go.Proofs.YtkopbjjpghbkoaaDoor
