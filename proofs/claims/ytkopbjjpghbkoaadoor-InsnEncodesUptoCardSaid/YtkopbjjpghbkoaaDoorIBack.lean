/-
  There and back: slots that were encoded, bytes that were decoded; Same of two lists of the same slots.
-/
import Derived.Test.YtkopbjjpghbkoaaDoorIAwake
namespace Go.Proofs.YtkopbjjpghbkoaaDoor
open Go Go.RowKit
set_option linter.unusedVariables false
theorem u8_toNat (n : Int) : ((u8 n).toNat : Int) = n % 256 := by
  unfold u8
  rw [UInt8.toNat_ofNat']
  omega
theorem u8_eq {n : Int} {b : UInt8} (h : n % 256 = (b.toNat : Int)) : u8 n = b := by
  apply UInt8.toNat_inj.1
  have := u8_toNat n
  omega
theorem i16_wrap (x : Int) : IntKind.i16.wrap x = (x + 32768) % 65536 - 32768 := by
  simp [IntKind.wrap, IntKind.bits, IntKind.signed]
  split <;> omega
theorem dec_enc (x : Slot) (h : x.Ok) : decS (u8 x.o) (u8 (x.s * 16 + x.d)) (u8 x.f) (u8 (x.f / 256)) (u8 x.m) (u8 (x.m / 256)) (u8 (x.m / 65536)) (u8 (x.m / 16777216)) = x := by
  obtain ⟨o, d, s, f, m⟩ := x
  obtain ⟨h1, h2, h3, h4, h5⟩ := h
  simp only at h1 h2 h3 h4 h5
  unfold decS
  simp only [u8_toNat, Slot.mk.injEq]
  rw [i16_wrap, IntKind.wrap_i32]
  refine ⟨by omega, by omega, by omega, by omega, by omega⟩
theorem enc_dec (b0 b1 b2 b3 b4 b5 b6 b7 : UInt8) : (decS b0 b1 b2 b3 b4 b5 b6 b7).Ok ∧ (decS b0 b1 b2 b3 b4 b5 b6 b7).bytes = [b0, b1, b2, b3, b4, b5, b6, b7] := by
  have h0 := byte_u8 b0
  have h1 := byte_u8 b1
  have h2 := byte_u8 b2
  have h3 := byte_u8 b3
  have h4 := byte_u8 b4
  have h5 := byte_u8 b5
  have h6 := byte_u8 b6
  have h7 := byte_u8 b7
  unfold Slot.Ok Fits Slot.bytes decS
  simp only [i16_wrap, IntKind.wrap_i32]
  refine ⟨⟨by omega, by omega, by omega, by omega, by omega⟩, ?_⟩
  rw [u8_eq (b := b0) (by omega), u8_eq (b := b1) (by omega), u8_eq (b := b2) (by omega), u8_eq (b := b3) (by omega), u8_eq (b := b4) (by omega), u8_eq (b := b5) (by omega), u8_eq (b := b6) (by omega), u8_eq (b := b7) (by omega)]
theorem encAll_get (X : Nat → Slot) : ∀ (n k j : Nat), k < n → j < 8 → (encAll X n)[8 * k + j]? = (X k).bytes[j]?
  | 0, k, j, hk, _ => by omega
  | n + 1, k, j, hk, hj => by
    rw [encAll_succ]
    have hl := encAll_length X n
    rcases Nat.lt_or_ge k n with h | h
    · rw [List.getElem?_append_left (by omega)]
      exact encAll_get X n k j h hj
    · have : k = n := by omega
      subst this
      rw [List.getElem?_append_right (by omega), show 8 * k + j - (encAll X k).length = j by omega]
theorem bAt_bstr (ys : List UInt8) (i : Nat) {b : UInt8} (h : ys[i]? = some b) : bAt (bstr ys) i = b := by
  unfold bAt bstr
  obtain ⟨hi, he⟩ := List.getElem?_eq_some_iff.1 h
  simp [Array.getD, hi, he]
theorem dec_all (X : Nat → Slot) (n k : Nat) (hk : k < n) (h : (X k).Ok) : decAt (bstr (encAll X n)) (8 * k) = X k := by
  unfold decAt
  rw [bAt_bstr _ (8 * k) (encAll_get X n k 0 hk (by omega)), bAt_bstr _ (8 * k + 1) (encAll_get X n k 1 hk (by omega)), bAt_bstr _ (8 * k + 2) (encAll_get X n k 2 hk (by omega)), bAt_bstr _ (8 * k + 3) (encAll_get X n k 3 hk (by omega)),
    bAt_bstr _ (8 * k + 4) (encAll_get X n k 4 hk (by omega)), bAt_bstr _ (8 * k + 5) (encAll_get X n k 5 hk (by omega)), bAt_bstr _ (8 * k + 6) (encAll_get X n k 6 hk (by omega)), bAt_bstr _ (8 * k + 7) (encAll_get X n k 7 hk (by omega))]
  exact dec_enc (X k) h
theorem enc_all (s : ByteArray) (n : Nat) (hs : s.size = 8 * n) : bstr (encAll (fun k => decAt s (8 * k)) n) = s := by
  have hd : s.data.size = s.size := rfl
  apply ByteArray.ext
  apply Array.ext_getElem?
  intro i
  have hl := encAll_length (fun k => decAt s (8 * k)) n
  unfold bstr
  rw [List.getElem?_toArray]
  rcases Nat.lt_or_ge i (8 * n) with h | h
  · have e : i = 8 * (i / 8) + i % 8 := by omega
    rw [e, encAll_get _ n (i / 8) (i % 8) (by omega) (by omega)]
    unfold decAt
    rw [(enc_dec _ _ _ _ _ _ _ _).2]
    have hj : i % 8 = 0 ∨ i % 8 = 1 ∨ i % 8 = 2 ∨ i % 8 = 3 ∨ i % 8 = 4 ∨ i % 8 = 5 ∨ i % 8 = 6 ∨ i % 8 = 7 := by omega
    have get : ∀ j, j < s.data.size → s.data[j]? = some (bAt s j) := fun j hj => by rw [Array.getElem?_eq_getElem hj]; simp [bAt, Array.getD]; intro h; omega
    rw [get _ (by omega)]
    rcases hj with h | h | h | h | h | h | h | h <;> rw [h] <;> rfl
  · rw [List.getElem?_eq_none (by omega), Array.getElem?_eq_none (by omega)]
theorem ok_all (s : ByteArray) (n : Nat) : AllOk (fun k => decAt s (8 * k)) n := fun i _ => (enc_dec _ _ _ _ _ _ _ _).1
theorem decAll_get (s : ByteArray) : ∀ (n k j : Nat), k < n → j < 5 → (decAll s n)[k * 5 + j]? = (decAt s (8 * k)).cells[j]?
  | 0, k, j, hk, _ => by omega
  | n + 1, k, j, hk, hj => by
    rw [decAll_succ]
    have hl : (decAll s n).length = n * 5 := by
      clear hk
      induction n with
      | zero => rfl
      | succ n ih => rw [decAll_succ, List.length_append, ih]; simp [Slot.cells]; omega
    rcases Nat.lt_or_ge k n with h | h
    · rw [List.getElem?_append_left (by omega)]
      exact decAll_get s n k j h hj
    · have : k = n := by omega
      subst this
      rw [List.getElem?_append_right (by omega), show k * 5 + j - (decAll s k).length = j by omega]
/-- What Decode answers, as a list of slots. -/
theorem slots_of_dec {w : World} {base n : Nat} {s : ByteArray} {v : Value} {X : Nat → Slot} (h : w.ownsRow base 37 5 v n (decAll s n)) (hX : ∀ k, k < n → decAt s (8 * k) = X k) : ∃ A c, v = .slice A n c ∧ Slots w A n X := by
  obtain ⟨A, c, rfl, hc⟩ := own_form_any h
  refine ⟨A, c, rfl, fun i hi => ?_⟩
  obtain ⟨g, rfl, hg, hcell⟩ := hc (by omega)
  refine ⟨g, 0, rfl, hg, ?_⟩
  rw [Nat.zero_add, ← hX i hi]
  exact ⟨hcell _ _ (decAll_get s n i 0 hi (by omega)), hcell _ _ (decAll_get s n i 1 hi (by omega)), hcell _ _ (decAll_get s n i 2 hi (by omega)), hcell _ _ (decAll_get s n i 3 hi (by omega)), hcell _ _ (decAll_get s n i 4 hi (by omega))⟩
end Go.Proofs.YtkopbjjpghbkoaaDoor
