/-
  Numbers of which some bits are known: Meet, Join, Of; shifts; the lowest bits.
-/
import Derived.Test.YtjkgbghikhbecaaDoorTMul
namespace Go.Proofs.YtjkgbghikhbecaaDoor.Tn
set_option linter.unusedVariables false
set_option linter.unusedSimpArgs false
theorem zero_iff {x : B64} : x = 0 ↔ ∀ i, i < 64 → x.getLsbD i = false := ⟨fun h i _ => by rw [h]; simp, zero_of_bits⟩
def tMeet (a b : TN) : TN := ((a.1 ||| b.1) &&& ~~~(a.2 &&& b.2), a.2 &&& b.2)
def agree (a b : TN) : Prop := ((a.1 ^^^ b.1) &&& ~~~a.2) &&& ~~~b.2 = 0
instance (a b : TN) : Decidable (agree a b) := by unfold agree; infer_instance
instance (a : TN) (n : B64) : Decidable (has a n) := by unfold has; infer_instance
def tJoin (a b : TN) : TN := (a.1 &&& ~~~(a.2 ||| b.2 ||| (a.1 ^^^ b.1)), a.2 ||| b.2 ||| (a.1 ^^^ b.1))
def tIn (a b : TN) : Prop := b.2 &&& ~~~a.2 = 0 ∧ (a.1 ^^^ b.1) &&& ~~~a.2 = 0
theorem agree_iff {a b : TN} : agree a b ↔ ∀ i, i < 64 → a.2.getLsbD i = false → b.2.getLsbD i = false → a.1.getLsbD i = b.1.getLsbD i := by
  unfold agree
  rw [zero_iff]
  refine forall_congr' fun i => forall_congr' fun hi => ?_
  simp only [BitVec.getLsbD_and, BitVec.getLsbD_xor, BitVec.getLsbD_not, hi, decide_true, Bool.true_and]
  generalize a.1.getLsbD i = p
  generalize a.2.getLsbD i = q
  generalize b.1.getLsbD i = r
  generalize b.2.getLsbD i = s
  cases p <;> cases q <;> cases r <;> cases s <;> decide
theorem meet_has {a b : TN} {x : B64} (ma : may a) (mb : may b) : (has a x ∧ has b x) ↔ (agree a b ∧ has (tMeet a b) x) := by
  rw [has_iff, has_iff, has_iff, agree_iff]
  have key : ∀ i, i < 64 → (((a.2.getLsbD i = false → x.getLsbD i = a.1.getLsbD i) ∧ (b.2.getLsbD i = false → x.getLsbD i = b.1.getLsbD i)) ↔ ((a.2.getLsbD i = false → b.2.getLsbD i = false → a.1.getLsbD i = b.1.getLsbD i) ∧ ((tMeet a b).2.getLsbD i = false → x.getLsbD i = (tMeet a b).1.getLsbD i))) := by
    intro i hi
    have h1 := may_iff.1 ma i hi
    have h2 := may_iff.1 mb i hi
    unfold tMeet
    simp only [BitVec.getLsbD_and, BitVec.getLsbD_or, BitVec.getLsbD_not, hi, decide_true, Bool.true_and]
    revert h1 h2
    generalize a.1.getLsbD i = p
    generalize a.2.getLsbD i = q
    generalize b.1.getLsbD i = r
    generalize b.2.getLsbD i = s
    generalize x.getLsbD i = t
    cases p <;> cases q <;> cases r <;> cases s <;> cases t <;> decide
  constructor
  · rintro ⟨h1, h2⟩
    exact ⟨fun i hi => ((key i hi).1 ⟨h1 i hi, h2 i hi⟩).1, fun i hi => ((key i hi).1 ⟨h1 i hi, h2 i hi⟩).2⟩
  · rintro ⟨h1, h2⟩
    exact ⟨fun i hi => ((key i hi).2 ⟨h1 i hi, h2 i hi⟩).1, fun i hi => ((key i hi).2 ⟨h1 i hi, h2 i hi⟩).2⟩
theorem join_left {a b : TN} {x : B64} (h : has a x) : has (tJoin a b) x := by
  rw [has_iff] at *
  intro i hi hm
  have h1 := h i hi
  unfold tJoin at hm ⊢
  simp only [BitVec.getLsbD_and, BitVec.getLsbD_or, BitVec.getLsbD_xor, BitVec.getLsbD_not, hi, decide_true, Bool.true_and] at hm ⊢
  revert h1 hm
  generalize a.1.getLsbD i = p
  generalize a.2.getLsbD i = q
  generalize b.1.getLsbD i = r
  generalize b.2.getLsbD i = s
  generalize x.getLsbD i = t
  cases p <;> cases q <;> cases r <;> cases s <;> cases t <;> decide
theorem join_right {a b : TN} {x : B64} (h : has b x) : has (tJoin a b) x := by
  rw [has_iff] at *
  intro i hi hm
  have h1 := h i hi
  unfold tJoin at hm ⊢
  simp only [BitVec.getLsbD_and, BitVec.getLsbD_or, BitVec.getLsbD_xor, BitVec.getLsbD_not, hi, decide_true, Bool.true_and] at hm ⊢
  revert h1 hm
  generalize a.1.getLsbD i = p
  generalize a.2.getLsbD i = q
  generalize b.1.getLsbD i = r
  generalize b.2.getLsbD i = s
  generalize x.getLsbD i = t
  cases p <;> cases q <;> cases r <;> cases s <;> cases t <;> decide
theorem in_join {a b : TN} (ma : may a) : tIn (tJoin a b) a := by
  unfold tIn
  rw [zero_iff, zero_iff]
  have h0 := may_iff.1 ma
  constructor
  · intro i hi
    have h1 := h0 i hi
    unfold tJoin
    simp only [BitVec.getLsbD_and, BitVec.getLsbD_or, BitVec.getLsbD_xor, BitVec.getLsbD_not, hi, decide_true, Bool.true_and]
    generalize a.1.getLsbD i = p
    generalize a.2.getLsbD i = q
    generalize b.1.getLsbD i = r
    generalize b.2.getLsbD i = s
    cases p <;> cases q <;> cases r <;> cases s <;> decide
  · intro i hi
    have h1 := h0 i hi
    unfold tJoin
    simp only [BitVec.getLsbD_and, BitVec.getLsbD_or, BitVec.getLsbD_xor, BitVec.getLsbD_not, hi, decide_true, Bool.true_and]
    generalize a.1.getLsbD i = p
    generalize a.2.getLsbD i = q
    generalize b.1.getLsbD i = r
    generalize b.2.getLsbD i = s
    cases p <;> cases q <;> cases r <;> cases s <;> decide
theorem in_all (a : TN) : tIn (0, ~~~0) a := by
  unfold tIn
  rw [zero_iff, zero_iff]
  constructor <;> intro i hi <;> simp [hi]
theorem has_may (t : TN) : has t t.1 := by unfold has; simp
/-- A number of a tnum: with these bits where none is known. -/
theorem has_one (t : TN) (n : B64) : has t (t.1 ||| (n &&& t.2)) := by
  rw [has_iff]
  intro i hi hm
  simp only [BitVec.getLsbD_or, BitVec.getLsbD_and, hm, Bool.and_false, Bool.or_false]
/-! ### from one number to another -/
def lowM (k : Nat) : B64 := BitVec.ofNat 64 (2 ^ k - 1)
def tOf (lo : B64) (k : Nat) : TN := (lo &&& ~~~lowM k, lowM k)
theorem lowM_bit {k : Nat} (hk : k ≤ 64) (i : Nat) (hi : i < 64) : (lowM k).getLsbD i = decide (i < k) := by
  unfold lowM
  rw [BitVec.getLsbD_ofNat, Nat.testBit_two_pow_sub_one]
  simp [hi]
theorem has_of {lo x : B64} {k : Nat} (hk : k ≤ 64) : has (tOf lo k) x ↔ lo.toNat / 2 ^ k = x.toNat / 2 ^ k := by
  rw [has_iff]
  have hbit : ∀ i, i < 64 → ((tOf lo k).2.getLsbD i = false → x.getLsbD i = (tOf lo k).1.getLsbD i) = (k ≤ i → x.getLsbD i = lo.getLsbD i) := by
    intro i hi
    unfold tOf
    simp only [BitVec.getLsbD_and, BitVec.getLsbD_not, hi, decide_true, Bool.true_and, lowM_bit hk i hi]
    rcases Nat.lt_or_ge i k with h | h
    · simp [h, show ¬ k ≤ i by omega]
    · simp [h, show ¬ i < k by omega]
  constructor
  · intro h
    apply Nat.eq_of_testBit_eq
    intro j
    rw [Nat.testBit_div_two_pow, Nat.testBit_div_two_pow]
    rcases Nat.lt_or_ge (j + k) 64 with hj | hj
    · have := h (j + k) hj
      rw [hbit _ hj] at this
      have := this (by omega)
      rw [BitVec.getLsbD, BitVec.getLsbD] at this
      exact this.symm
    · rw [Nat.testBit_lt_two_pow (Nat.lt_of_lt_of_le lo.isLt (Nat.pow_le_pow_right (by decide) hj)), Nat.testBit_lt_two_pow (Nat.lt_of_lt_of_le x.isLt (Nat.pow_le_pow_right (by decide) hj))]
  · intro h i hi
    rw [hbit i hi]
    intro hki
    have e := congrArg (fun z => z.testBit (i - k)) h
    simp only [Nat.testBit_div_two_pow, show i - k + k = i by omega] at e
    rw [BitVec.getLsbD, BitVec.getLsbD]
    exact e.symm
/-- Numbers between two that have their upper bits in common. -/
theorem of_between {lo hi x : B64} {k : Nat} (hk : k ≤ 64) (h : lo.toNat / 2 ^ k = hi.toNat / 2 ^ k) (h1 : lo.toNat ≤ x.toNat) (h2 : x.toNat ≤ hi.toNat) : has (tOf lo k) x := by
  rw [has_of hk]
  have a1 := Nat.div_le_div_right (c := 2 ^ k) h1
  have a2 := Nat.div_le_div_right (c := 2 ^ k) h2
  omega
theorem xor_div {lo hi : B64} {k : Nat} (h : (lo ^^^ hi).toNat < 2 ^ k) : lo.toNat / 2 ^ k = hi.toNat / 2 ^ k := by
  apply Nat.eq_of_testBit_eq
  intro j
  rw [Nat.testBit_div_two_pow, Nat.testBit_div_two_pow]
  rw [BitVec.toNat_xor] at h
  have := Nat.testBit_lt_two_pow (Nat.lt_of_lt_of_le h (Nat.pow_le_pow_right (by decide) (show k ≤ j + k by omega)))
  rw [Nat.testBit_xor] at this
  revert this
  cases lo.toNat.testBit (j + k) <;> cases hi.toNat.testBit (j + k) <;> simp
end Go.Proofs.YtjkgbghikhbecaaDoor.Tn
