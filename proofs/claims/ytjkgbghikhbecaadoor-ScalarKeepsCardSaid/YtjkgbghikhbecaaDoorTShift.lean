/-
  Shifts and the lowest bits of numbers of which some bits are known: sound, since each bit of what comes out is one bit of what goes in, or 0.
-/
import Derived.Test.YtjkgbghikhbecaaDoorTNum
namespace Go.Proofs.YtjkgbghikhbecaaDoor.Tn
set_option linter.unusedVariables false
set_option linter.unusedSimpArgs false
def IsSel (sh : B64 → B64) : Prop := ∃ (c : Nat → Bool) (f : Nat → Nat), ∀ i, i < 64 → (c i = true → f i < 64) ∧ ∀ x, (sh x).getLsbD i = (c i && x.getLsbD (f i))
theorem sel_has {sh : B64 → B64} (h : IsSel sh) {t : TN} {n : B64} (ht : has t n) : has (sh t.1, sh t.2) (sh n) := by
  obtain ⟨c, f, h⟩ := h
  rw [has_iff] at *
  intro i hi hm
  obtain ⟨h1, h2⟩ := h i hi
  simp only [h2] at hm ⊢
  cases hc : c i
  · simp
  · rw [hc] at hm
    simp only [Bool.true_and] at hm ⊢
    exact ht _ (h1 hc) hm
theorem sel_may {sh : B64 → B64} (h : IsSel sh) {t : TN} (ht : may t) : may (sh t.1, sh t.2) := by
  obtain ⟨c, f, h⟩ := h
  rw [may_iff] at *
  intro i hi
  obtain ⟨h1, h2⟩ := h i hi
  simp only [h2]
  cases hc : c i
  · simp
  · simp only [Bool.true_and]
    exact ht _ (h1 hc)
theorem bit_up (x : BitVec 32) (i : Nat) (hi : i < 64) : (up32 x).getLsbD i = x.getLsbD i := by
  unfold up32
  rw [BitVec.getLsbD_setWidth]
  simp [hi]
theorem bit_lo (x : B64) (i : Nat) : (lo32 x).getLsbD i = (decide (i < 32) && x.getLsbD i) := by
  unfold lo32
  rw [BitVec.getLsbD_setWidth]
theorem sop_sel (op : Int) (wide : Bool) (k : Nat) : IsSel (sop op wide k) := by
  cases wide
  · by_cases h1 : op = 96
    · refine ⟨fun i => decide (i < 32) && decide (k ≤ i), fun i => i - k, fun i hi => ⟨fun _ => by show i - k < 64; omega, fun x => ?_⟩⟩
      unfold sop
      simp only [Bool.false_eq_true, if_false]
      rw [if_pos h1, bit_up _ _ hi, BitVec.getLsbD_shiftLeft, bit_lo]
      by_cases ha : i < 32
      · by_cases hb : k ≤ i
        · simp [ha, hb, show ¬ i < k by omega, show i - k < 32 by omega]
        · simp [ha, hb, show i < k by omega]
      · simp [ha]
    · by_cases h2 : op = 112
      · refine ⟨fun i => decide (k + i < 32), fun i => k + i, fun i hi => ⟨fun h => by simp at h; show k + i < 64; omega, fun x => ?_⟩⟩
        unfold sop
        simp only [Bool.false_eq_true, if_false]
        rw [if_neg h1, if_pos h2, bit_up _ _ hi, BitVec.getLsbD_ushiftRight, bit_lo]
      · refine ⟨fun i => decide (i < 32), fun i => min (k + i) 31, fun i hi => ⟨fun h => by show min (k + i) 31 < 64; omega, fun x => ?_⟩⟩
        unfold sop
        simp only [Bool.false_eq_true, if_false]
        rw [if_neg h1, if_neg h2, bit_up _ _ hi, BitVec.getLsbD_sshiftRight]
        by_cases ha : i < 32
        · rw [show (decide (32 ≤ i)) = false from decide_eq_false (by omega)]
          by_cases hb : k + i < 32
          · rw [if_pos hb, bit_lo, show min (k + i) 31 = k + i by omega]
            simp [ha, hb]
          · rw [if_neg hb, BitVec.msb_eq_getLsbD_last, bit_lo, show min (k + i) 31 = 31 by omega]
            simp [ha]
        · rw [show (decide (32 ≤ i)) = true from decide_eq_true (by omega)]
          simp [ha]
  · by_cases h1 : op = 96
    · refine ⟨fun i => decide (k ≤ i), fun i => i - k, fun i hi => ⟨fun _ => by show i - k < 64; omega, fun x => ?_⟩⟩
      unfold sop
      simp only [if_true]
      rw [if_pos h1, BitVec.getLsbD_shiftLeft]
      by_cases hb : k ≤ i
      · simp [hi, hb, show ¬ i < k by omega]
      · simp [hi, hb, show i < k by omega]
    · by_cases h2 : op = 112
      · refine ⟨fun i => decide (k + i < 64), fun i => k + i, fun i hi => ⟨fun h => by simp at h; show k + i < 64; omega, fun x => ?_⟩⟩
        unfold sop
        simp only [if_true]
        rw [if_neg h1, if_pos h2, BitVec.getLsbD_ushiftRight]
        by_cases ha : k + i < 64
        · simp [ha]
        · rw [BitVec.getLsbD_of_ge _ _ (by omega)]; simp
      · refine ⟨fun i => true, fun i => min (k + i) 63, fun i hi => ⟨fun h => by show min (k + i) 63 < 64; omega, fun x => ?_⟩⟩
        unfold sop
        simp only [if_true]
        rw [if_neg h1, if_neg h2, BitVec.getLsbD_sshiftRight]
        rw [show (decide (64 ≤ i)) = false from decide_eq_false (by omega)]
        by_cases hb : k + i < 64
        · rw [if_pos hb, show min (k + i) 63 = k + i by omega]
          simp
        · rw [if_neg hb, BitVec.msb_eq_getLsbD_last, show min (k + i) 63 = 63 by omega]
          simp
theorem low_sel {m : Nat} (hm : m ≤ 64) : IsSel (fun x => x &&& lowM m) :=
  ⟨fun i => decide (i < m), fun i => i, fun i hi => ⟨fun _ => hi, fun x => by rw [BitVec.getLsbD_and, lowM_bit hm i hi, Bool.and_comm]⟩⟩
/-- The lowest bits, where there are so many. -/
def tCast (a : TN) (bits : Int) : TN := if bits = 8 ∨ bits = 16 ∨ bits = 32 then (a.1 &&& lowM bits.toNat, a.2 &&& lowM bits.toNat) else a
def tShift (op : Int) (wide : Bool) (k : Nat) (a : TN) : TN := (sop op wide k a.1, sop op wide k a.2)
theorem shift_has (op : Int) (wide : Bool) (k : Nat) {a : TN} {x : B64} (h : has a x) : has (tShift op wide k a) (sop op wide k x) := sel_has (sop_sel op wide k) h
theorem shift_may (op : Int) (wide : Bool) (k : Nat) {a : TN} (h : may a) : may (tShift op wide k a) := sel_may (sop_sel op wide k) h
theorem cast_has8 {a : TN} {x : B64} (h : has a x) : has (tCast a 8) (x &&& 255) := sel_has (low_sel (m := 8) (by decide)) h
theorem cast_has32 {a : TN} {x : B64} (h : has a x) : has (tCast a 32) (x &&& 4294967295) := sel_has (low_sel (m := 32) (by decide)) h
end Go.Proofs.YtjkgbghikhbecaaDoor.Tn
