/-
  Layer 6, the reference: four bytes of a number, and back.
-/
import Derived.Test.YtmfdojmecpdikaaBTypes
namespace Go.Proofs.Ytmfdojmecpdikaa
open Go Go.RowKit
set_option linter.unusedVariables false
set_option linter.unusedSimpArgs false
set_option maxRecDepth 100000
set_option maxHeartbeats 1000000 in
theorem le_4 (n : Int) (hn : 0 ≤ n) (w : World) :
    Calls Try.prog 18 #[.int .u64 n, .int .i64 4] w fun e w' => e = .returned (.string (bstr [u8 n, u8 (n / 256), u8 (n / 65536), u8 (n / 16777216)])) ∧ Below w.heap.size w w' := by
  have hmk : (Instr.makeSlice 45 (.int .i64 4) (.int .i64 4)).run Try.prog w = .ok (.slice (some ⟨w.heap.size, 0, none⟩) 4 4) (w.alloc (.cells #[.int .u8 0, .int .u8 0, .int .u8 0, .int .u8 0] 5)) := by kernel_rfl
  have hst : Blk (w.alloc (.cells #[.int .u8 0, .int .u8 0, .int .u8 0, .int .u8 0] 5)) w.heap.size 5 #[.int .u8 0, .int .u8 0, .int .u8 0, .int .u8 0] := Blk.new w _ _
  have hb0 : Below w.heap.size w (w.alloc (.cells #[.int .u8 0, .int .u8 0, .int .u8 0, .int .u8 0] 5)) := (Below.refl _ w).alloc (Nat.le_refl _) _
  have HST := Lib.hid hst
  have HB0 := Lib.hid hb0
  clear hst hb0
  go_enter Try.func18, Try.ntmps18
  go_wp2_with fail
  go_loopw [6] (fun i wr => Below w.heap.size w wr ∧ ((i = .int .i64 0 ∧ Blk wr w.heap.size 5 #[.int .u8 0, .int .u8 0, .int .u8 0, .int .u8 0]) ∨ (i = .int .i64 1 ∧ Blk wr w.heap.size 5 #[.int .u8 (n % 256), .int .u8 0, .int .u8 0, .int .u8 0]) ∨ (i = .int .i64 2 ∧ Blk wr w.heap.size 5 #[.int .u8 (n % 256), .int .u8 (n / 256 % 256), .int .u8 0, .int .u8 0]) ∨ (i = .int .i64 3 ∧ Blk wr w.heap.size 5 #[.int .u8 (n % 256), .int .u8 (n / 256 % 256), .int .u8 (n / 65536 % 256), .int .u8 0]) ∨ (i = .int .i64 4 ∧ Blk wr w.heap.size 5 #[.int .u8 (n % 256), .int .u8 (n / 256 % 256), .int .u8 (n / 65536 % 256), .int .u8 (n / 16777216 % 256)]))) (fun i _ => 4 - (intOf i).toNat)
  case atStart => exact ⟨HB0.out, .inl ⟨rfl, HST.out⟩⟩
  case round =>
    clear HST HB0 hmk
    obtain ⟨hb, hr⟩ := hrel
    have HB := Lib.hid hb
    clear hb
    rcases hr with ⟨rfl, h⟩ | ⟨rfl, h⟩ | ⟨rfl, h⟩ | ⟨rfl, h⟩ | ⟨rfl, h⟩
    · have c0 : wr.cell? ⟨w.heap.size, 0, none⟩ = some (.int .u8 0) := h.cell 0
      have f0 : wr.frozen? ⟨w.heap.size, 0, none⟩ = false := h.frozen 0
      have H := Lib.hid h
      clear h
      go_wp2_with fail
      go_roundw
      case rel => exact ⟨HB.out.setCell (Nat.le_refl _) _, .inr (.inl ⟨rfl, by simpa using H.out.set_ 0 (.int .u8 (n % 256))⟩)⟩
      case measure => simp [intOf]
    · have c0 : wr.cell? ⟨w.heap.size, 1, none⟩ = some (.int .u8 0) := h.cell 1
      have f0 : wr.frozen? ⟨w.heap.size, 1, none⟩ = false := h.frozen 1
      have H := Lib.hid h
      clear h
      go_wp2_with fail
      go_roundw
      case rel => exact ⟨HB.out.setCell (Nat.le_refl _) _, .inr (.inr (.inl ⟨rfl, by simpa using H.out.set_ 1 (.int .u8 (n / 256 % 256))⟩))⟩
      case measure => simp [intOf]
    · have c0 : wr.cell? ⟨w.heap.size, 2, none⟩ = some (.int .u8 0) := h.cell 2
      have f0 : wr.frozen? ⟨w.heap.size, 2, none⟩ = false := h.frozen 2
      have H := Lib.hid h
      clear h
      go_wp2_with fail
      go_roundw
      case rel => exact ⟨HB.out.setCell (Nat.le_refl _) _, .inr (.inr (.inr (.inl ⟨rfl, by simpa using H.out.set_ 2 (.int .u8 (n / 65536 % 256))⟩)))⟩
      case measure => simp [intOf]
    · have c0 : wr.cell? ⟨w.heap.size, 3, none⟩ = some (.int .u8 0) := h.cell 3
      have f0 : wr.frozen? ⟨w.heap.size, 3, none⟩ = false := h.frozen 3
      have H := Lib.hid h
      clear h
      go_wp2_with fail
      go_roundw
      case rel => exact ⟨HB.out.setCell (Nat.le_refl _) _, .inr (.inr (.inr (.inr (⟨rfl, by simpa using H.out.set_ 3 (.int .u8 (n / 16777216 % 256))⟩))))⟩
      case measure => simp [intOf]
    · have ho : wr.ownsRow w.heap.size 5 1 (.slice (some ⟨w.heap.size, 0, none⟩) 4 4) 4 ([u8 n, u8 (n / 256), u8 (n / 65536), u8 (n / 16777216)].map byteV) := by
        refine ⟨rfl, .inr ⟨w.heap.size, 4, _, rfl, Nat.le_refl _, h, by omega, by unfold maxLen; omega, rfl, ?_⟩⟩
        simp [byteV_u8]
      have hcv := own_str (ys := [u8 n, u8 (n / 256), u8 (n / 65536), u8 (n / 16777216)]) ho
      clear h ho
      go_wp2_with fail
      go_ret
      exact ⟨rfl, HB.out⟩
theorem or_byte (N b : Int) (hN : 0 ≤ N ∧ N < 16777216) (hb : 0 ≤ b ∧ b ≤ 255) : bits .or .u64 (N * 256) b = N * 256 + b := by
  obtain ⟨N, rfl⟩ := Int.eq_ofNat_of_zero_le hN.1
  obtain ⟨b, rfl⟩ := Int.eq_ofNat_of_zero_le hb.1
  have h := rep_or .u64 (show IsRep .u64 ((N : Int) * 256) (N * 256) from rep_of _ (by simp)) (rep_nat .u64 b)
  rw [Nat.or_comm, show b ||| N * 256 = b + N * 256 from or_add b N 8 (by omega)] at h
  exact rep_eq .u64 h (rep_of .u64 (by simp; omega)) (bits_wrapped _ _ _ _ (.inl rfl)) (by rw [IntKind.wrap_u64]; omega)
theorem or_byte' (N : Int) (b : UInt8) (hN : 0 ≤ N ∧ N < 16777216) : bits .or .u64 (N * 256) (IntKind.u64.wrap (b.toNat : Int)) = N * 256 + (b.toNat : Int) := by
  have := b.toNat_lt
  rw [IntKind.wrap_u64, Int.emod_eq_of_lt (by omega) (by omega)]
  exact or_byte N _ hN (by omega)
theorem or_zero' (b : UInt8) : bits .or .u64 0 (IntKind.u64.wrap (b.toNat : Int)) = (b.toNat : Int) := by
  have := or_byte' 0 b (by omega)
  simpa using this
theorem byte_le (a : UInt8) : 0 ≤ (a.toNat : Int) ∧ (a.toNat : Int) ≤ 255 := by have := a.toNat_lt; omega
set_option maxHeartbeats 1000000 in
theorem fromle_4 (a b c d : UInt8) (w : World) :
    Calls Try.prog 30 #[.string ⟨#[a, b, c, d]⟩] w fun e w' => e = .returned (.int .u64 ((((d.toNat : Int) * 256 + (c.toNat : Int)) * 256 + (b.toNat : Int)) * 256 + (a.toNat : Int))) ∧ w = w' := by
  have ha := byte_le a
  have hb := byte_le b
  have hc := byte_le c
  have hd := byte_le d
  have b2 : (d.toNat : Int) * 256 % 18446744073709551616 = (d.toNat : Int) * 256 := by omega
  have v2 : IntKind.u64.wrap ((d.toNat : Int) * 256) = (d.toNat : Int) * 256 := by rw [IntKind.wrap_u64]; omega
  have b1 : ((d.toNat : Int) * 256 + (c.toNat : Int)) * 256 % 18446744073709551616 = ((d.toNat : Int) * 256 + (c.toNat : Int)) * 256 := by omega
  have v1 : IntKind.u64.wrap (((d.toNat : Int) * 256 + (c.toNat : Int)) * 256) = ((d.toNat : Int) * 256 + (c.toNat : Int)) * 256 := by rw [IntKind.wrap_u64]; omega
  have b0 : (((d.toNat : Int) * 256 + (c.toNat : Int)) * 256 + (b.toNat : Int)) * 256 % 18446744073709551616 = (((d.toNat : Int) * 256 + (c.toNat : Int)) * 256 + (b.toNat : Int)) * 256 := by omega
  have v0 : IntKind.u64.wrap ((((d.toNat : Int) * 256 + (c.toNat : Int)) * 256 + (b.toNat : Int)) * 256) = (((d.toNat : Int) * 256 + (c.toNat : Int)) * 256 + (b.toNat : Int)) * 256 := by rw [IntKind.wrap_u64]; omega
  go_enter Try.func30, Try.ntmps30
  go_wp2_with fail
  go_loop [3, 4] (fun n i => (i = .int .i64 3 ∧ n = .int .u64 0) ∨ (i = .int .i64 2 ∧ n = .int .u64 (d.toNat : Int)) ∨ (i = .int .i64 1 ∧ n = .int .u64 ((d.toNat : Int) * 256 + (c.toNat : Int))) ∨ (i = .int .i64 0 ∧ n = .int .u64 (((d.toNat : Int) * 256 + (c.toNat : Int)) * 256 + (b.toNat : Int))) ∨ (i = .int .i64 (-1) ∧ n = .int .u64 ((((d.toNat : Int) * 256 + (c.toNat : Int)) * 256 + (b.toNat : Int)) * 256 + (a.toNat : Int)))) (fun _ i => (intOf i + 1).toNat)
  case atStart => exact .inl ⟨rfl, rfl⟩
  case round =>
    rcases hrel with ⟨rfl, rfl⟩ | ⟨rfl, rfl⟩ | ⟨rfl, rfl⟩ | ⟨rfl, rfl⟩ | ⟨rfl, rfl⟩
    · go_wp2_with fail
      go_round
      case rel => exact .inr (.inl ⟨rfl, congrArg (Value.int .u64) (or_zero' d)⟩)
      case measure => simp [intOf]
    · go_wp2_with fail
      go_round
      case rel => exact .inr (.inr (.inl ⟨rfl, congrArg (Value.int .u64) (or_byte' (d.toNat : Int) c (by omega))⟩))
      case measure => simp [intOf]
    · go_wp2_with fail
      go_round
      case rel => exact .inr (.inr (.inr (.inl ⟨rfl, congrArg (Value.int .u64) (or_byte' ((d.toNat : Int) * 256 + (c.toNat : Int)) b (by omega))⟩)))
      case measure => simp [intOf]
    · go_wp2_with fail
      go_round
      case rel => exact .inr (.inr (.inr (.inr (⟨rfl, congrArg (Value.int .u64) (or_byte' (((d.toNat : Int) * 256 + (c.toNat : Int)) * 256 + (b.toNat : Int)) a (by omega))⟩))))
      case measure => simp [intOf]
    · go_wp2_with fail
      go_ret
      exact ⟨rfl, rfl⟩
end Go.Proofs.Ytmfdojmecpdikaa
