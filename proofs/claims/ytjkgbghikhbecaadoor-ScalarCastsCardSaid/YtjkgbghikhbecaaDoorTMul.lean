/-
  Products of numbers of which some bits are known; what is bitwise; what two have in common; shifts.
-/
import Derived.Test.YtjkgbghikhbecaaDoorTMath
namespace Go.Proofs.YtjkgbghikhbecaaDoor.Tn
set_option linter.unusedVariables false
set_option linter.unusedSimpArgs false
abbrev TN := B64 × B64
theorem may_iff {t : TN} : may t ↔ ∀ i, i < 64 → ¬ (t.1.getLsbD i = true ∧ t.2.getLsbD i = true) := by
  constructor
  · intro h i _
    exact dis_bits h i
  · intro h
    apply zero_of_bits
    intro i hi
    have := h i hi
    rw [BitVec.getLsbD_and]
    cases e1 : t.1.getLsbD i
    · rfl
    · cases e2 : t.2.getLsbD i
      · rfl
      · exact absurd ⟨e1, e2⟩ this
theorem has_split {t : TN} {n : B64} (h : has t n) (hm : may t) : n = t.1 ||| (n &&& t.2) := by
  rw [has_iff] at h
  rw [may_iff] at hm
  apply BitVec.eq_of_getLsbD_eq
  intro i hi
  have h1 := h i hi
  have h2 := hm i hi
  simp only [BitVec.getLsbD_or, BitVec.getLsbD_and]
  cases e1 : t.2.getLsbD i
  · rw [h1 e1]; simp
  · rw [e1] at h2
    cases e2 : t.1.getLsbD i
    · simp
    · rw [e2] at h2; exact absurd ⟨rfl, rfl⟩ h2
theorem in_mask (n m : B64) : (n &&& m) &&& ~~~m = 0 := by
  apply zero_of_bits
  intro i hi
  simp only [BitVec.getLsbD_and, BitVec.getLsbD_not, hi, decide_true, Bool.true_and]
  cases n.getLsbD i <;> cases m.getLsbD i <;> rfl
theorem add_has {a b : TN} {x y : B64} (ha : may a) (hb : may b) (hx : has a x) (hy : has b y) : has (tAdd a.1 a.2 b.1 b.2) (x + y) := by
  have := add_sound (p := x &&& a.2) (q := y &&& b.2) ha hb (in_mask _ _) (in_mask _ _)
  rwa [← has_split hx ha, ← has_split hy hb] at this
theorem sub_has {a b : TN} {x y : B64} (ha : may a) (hb : may b) (hx : has a x) (hy : has b y) : has (tSub a.1 a.2 b.1 b.2) (x - y) := by
  have := sub_sound (p := x &&& a.2) (q := y &&& b.2) ha hb (in_mask _ _) (in_mask _ _)
  rwa [← has_split hx ha, ← has_split hy hb] at this
/-! ### bitwise -/
def tAnd (a b : TN) : TN := (a.1 &&& b.1, ((a.1 ||| a.2) &&& (b.1 ||| b.2)) &&& ~~~(a.1 &&& b.1))
def tOr (a b : TN) : TN := (a.1 ||| b.1, (a.2 ||| b.2) &&& ~~~(a.1 ||| b.1))
def tXor (a b : TN) : TN := ((a.1 ^^^ b.1) &&& ~~~(a.2 ||| b.2), a.2 ||| b.2)
theorem may_not (v u : B64) : may (v, u &&& ~~~v) := by
  rw [may_iff]
  intro i hi
  simp only [BitVec.getLsbD_and, BitVec.getLsbD_not, hi, decide_true, Bool.true_and]
  cases v.getLsbD i <;> cases u.getLsbD i <;> simp
theorem may_and (a b : TN) : may (tAnd a b) := may_not _ _
theorem may_or (a b : TN) : may (tOr a b) := may_not _ _
theorem may_xor (a b : TN) : may (tXor a b) := may_of _ _
theorem and_has {a b : TN} {x y : B64} (ha : may a) (hb : may b) (hx : has a x) (hy : has b y) : has (tAnd a b) (x &&& y) := by
  rw [has_iff] at *
  rw [may_iff] at ha hb
  intro i hi hm
  have h1 := hx i hi
  have h2 := hy i hi
  have h3 := ha i hi
  have h4 := hb i hi
  unfold tAnd at hm ⊢
  simp only [BitVec.getLsbD_and, BitVec.getLsbD_or, BitVec.getLsbD_not, hi, decide_true, Bool.true_and] at hm ⊢
  revert h1 h2 h3 h4 hm
  generalize a.1.getLsbD i = p
  generalize a.2.getLsbD i = q
  generalize b.1.getLsbD i = r
  generalize b.2.getLsbD i = s
  generalize x.getLsbD i = t
  generalize y.getLsbD i = u
  cases p <;> cases q <;> cases r <;> cases s <;> cases t <;> cases u <;> decide
theorem or_has {a b : TN} {x y : B64} (ha : may a) (hb : may b) (hx : has a x) (hy : has b y) : has (tOr a b) (x ||| y) := by
  rw [has_iff] at *
  rw [may_iff] at ha hb
  intro i hi hm
  have h1 := hx i hi
  have h2 := hy i hi
  have h3 := ha i hi
  have h4 := hb i hi
  unfold tOr at hm ⊢
  simp only [BitVec.getLsbD_and, BitVec.getLsbD_or, BitVec.getLsbD_not, hi, decide_true, Bool.true_and] at hm ⊢
  revert h1 h2 h3 h4 hm
  generalize a.1.getLsbD i = p
  generalize a.2.getLsbD i = q
  generalize b.1.getLsbD i = r
  generalize b.2.getLsbD i = s
  generalize x.getLsbD i = t
  generalize y.getLsbD i = u
  cases p <;> cases q <;> cases r <;> cases s <;> cases t <;> cases u <;> decide
theorem xor_has {a b : TN} {x y : B64} (hx : has a x) (hy : has b y) : has (tXor a b) (x ^^^ y) := by
  rw [has_iff] at *
  intro i hi hm
  have h1 := hx i hi
  have h2 := hy i hi
  unfold tXor at hm ⊢
  simp only [BitVec.getLsbD_and, BitVec.getLsbD_or, BitVec.getLsbD_xor, BitVec.getLsbD_not, hi, decide_true, Bool.true_and] at hm ⊢
  revert h1 h2 hm
  generalize a.1.getLsbD i = p
  generalize a.2.getLsbD i = q
  generalize b.1.getLsbD i = r
  generalize b.2.getLsbD i = s
  generalize x.getLsbD i = t
  generalize y.getLsbD i = u
  cases p <;> cases q <;> cases r <;> cases s <;> cases t <;> cases u <;> decide
/-! ### products -/
def shrT (a : TN) : TN := (a.1 >>> 1, a.2 >>> 1)
def shlT (a : TN) : TN := (a.1 <<< 1, a.2 <<< 1)
/-- One step of a product. -/
def stepS (s a b : TN) : TN := if a.1.getLsbD 0 then tAdd s.1 s.2 0 b.2 else if a.2.getLsbD 0 then tAdd s.1 s.2 0 (b.1 ||| b.2) else s
def loopS : Nat → TN → TN → TN → TN
  | 0, s, _, _ => s
  | n + 1, s, a, b => loopS n (stepS s a b) (shrT a) (shlT b)
def tMul (a b : TN) : TN := let s := loopS 64 (0, 0) a b; tAdd (a.1 * b.1) 0 s.1 s.2
theorem loopS_zero (n : Nat) (s b : TN) : loopS n s (0, 0) b = s := by
  induction n generalizing b with
  | zero => rfl
  | succ n ih =>
    unfold loopS
    have e1 : stepS s (0, 0) b = s := by unfold stepS; simp
    have e2 : shrT (0, 0) = (0, 0) := by unfold shrT; simp
    rw [e1, e2, ih]
theorem may_shr {a : TN} (h : may a) : may (shrT a) := by
  rw [may_iff] at *
  intro i hi
  unfold shrT
  simp only [BitVec.getLsbD_ushiftRight]
  rcases Nat.lt_or_ge (1 + i) 64 with h1 | h1
  · exact h _ h1
  · rw [BitVec.getLsbD_of_ge _ _ h1]; simp
theorem may_shl {a : TN} (h : may a) : may (shlT a) := by
  rw [may_iff] at *
  intro i hi
  unfold shlT
  simp only [BitVec.getLsbD_shiftLeft, hi, decide_true, Bool.true_and]
  rcases Nat.lt_or_ge i 1 with h1 | h1
  · simp [h1]
  · have := h (i - 1) (by omega)
    simpa [show ¬ i < 1 by omega] using this
theorem has_shr {a : TN} {x : B64} (h : has a x) : has (shrT a) (x >>> 1) := by
  rw [has_iff] at *
  intro i hi hm
  unfold shrT at hm ⊢
  simp only [BitVec.getLsbD_ushiftRight] at hm ⊢
  rcases Nat.lt_or_ge (1 + i) 64 with h1 | h1
  · exact h _ h1 hm
  · rw [BitVec.getLsbD_of_ge _ _ h1, BitVec.getLsbD_of_ge _ _ h1]
theorem has_shl {a : TN} {x : B64} (h : has a x) : has (shlT a) (x <<< 1) := by
  rw [has_iff] at *
  intro i hi hm
  unfold shlT at hm ⊢
  simp only [BitVec.getLsbD_shiftLeft, hi, decide_true, Bool.true_and] at hm ⊢
  rcases Nat.lt_or_ge i 1 with h1 | h1
  · simp [h1]
  · simp only [show ¬ i < 1 by omega, decide_false, Bool.not_false, Bool.true_and] at hm ⊢
    exact h _ (by omega) hm
theorem may_step {s a b : TN} (hs : may s) : may (stepS s a b) := by
  unfold stepS
  split
  · exact may_add _ _ _ _
  · split
    · exact may_add _ _ _ _
    · exact hs
def bit0 (x : B64) : B64 := if x.getLsbD 0 then 1 else 0
theorem halves (x : B64) : x = bit0 x + (x >>> 1) * 2 := by
  apply BitVec.eq_of_toNat_eq
  have hx := x.isLt
  unfold bit0
  have e : x.getLsbD 0 = decide (x.toNat % 2 = 1) := by
    rw [BitVec.getLsbD, Nat.testBit_zero]
  rw [e]
  simp only [BitVec.toNat_add, BitVec.toNat_mul, BitVec.toNat_ushiftRight, Nat.shiftRight_eq_div_pow]
  by_cases h : x.toNat % 2 = 1
  · simp only [h, decide_true, if_true]
    have : (1 : B64).toNat = 1 := rfl
    have : (2 : B64).toNat = 2 := rfl
    simp only [*]
    omega
  · simp only [h, decide_false]
    have : (0 : B64).toNat = 0 := rfl
    have : (2 : B64).toNat = 2 := rfl
    simp only [*]
    simp
    omega
theorem shl_two (y : B64) : y <<< 1 = y * 2 := by
  rw [BitVec.shiftLeft_eq_mul_twoPow]
  rfl
theorem mul_step (x y : B64) : x * y = bit0 x * y + (x >>> 1) * (y <<< 1) := by
  rw [shl_two]
  conv => lhs; rw [halves x]
  rw [BitVec.add_mul]
  congr 1
  rw [BitVec.mul_assoc, BitVec.mul_comm 2 y]
theorem may_zero (m : B64) : may (0, m) := by
  rw [may_iff]
  intro i hi
  simp
theorem has_mask {m n : B64} (h : n &&& ~~~m = 0) : has (0, m) n := by
  unfold has
  simpa using h
theorem or_two (u v : B64) (y : B64) (h : y = u ||| (y &&& v)) : y &&& ~~~(u ||| v) = 0 := by
  apply zero_of_bits
  intro i hi
  have e := congrArg (fun z => z.getLsbD i) h
  simp only [BitVec.getLsbD_or, BitVec.getLsbD_and, BitVec.getLsbD_not, hi, decide_true, Bool.true_and] at e ⊢
  revert e
  generalize y.getLsbD i = p
  generalize u.getLsbD i = q
  generalize v.getLsbD i = r
  cases p <;> cases q <;> cases r <;> decide
theorem step_has {s a b : TN} {z x y : B64} (ms : may s) (ma : may a) (mb : may b) (hs : has s z) (ha : has a x) (hb : has b y) : has (stepS s a b) (z + (bit0 x * y - bit0 a.1 * b.1)) := by
  have hb' := has_split hb mb
  rw [may_iff] at ma
  have m0 := ma 0 (by decide)
  rw [has_iff] at ha
  have h0 := ha 0 (by decide)
  unfold stepS
  cases e1 : a.1.getLsbD 0
  · have z1 : bit0 a.1 = 0 := by unfold bit0; rw [e1]; rfl
    rw [z1]
    simp only [Bool.false_eq_true, if_false]
    rw [show (0 : B64) * b.1 = 0 by simp, show bit0 x * y - 0 = bit0 x * y by simp]
    cases e2 : a.2.getLsbD 0
    · have hx : x.getLsbD 0 = false := by rw [h0 e2, e1]
      have z2 : bit0 x = 0 := by unfold bit0; rw [hx]; rfl
      rw [z2]
      simpa using hs
    · simp only [if_true]
      refine add_has (a := s) (b := (0, b.1 ||| b.2)) ms (may_zero _) hs (has_mask ?_)
      unfold bit0
      cases x.getLsbD 0
      · simp
      · simp only [if_true]
        rw [show (1 : B64) * y = y by simp]
        exact or_two _ _ _ hb'
  · have e2 : a.2.getLsbD 0 = false := by
      cases e2 : a.2.getLsbD 0
      · rfl
      · exact absurd ⟨e1, e2⟩ m0
    have hx : x.getLsbD 0 = true := by rw [h0 e2, e1]
    have z1 : bit0 a.1 = 1 := by unfold bit0; rw [e1]; rfl
    have z2 : bit0 x = 1 := by unfold bit0; rw [hx]; rfl
    rw [z1, z2]
    simp only [if_true]
    refine add_has (a := s) (b := (0, b.2)) ms (may_zero _) hs (has_mask ?_)
    have hd : b.1 &&& (y &&& b.2) = 0 := by
      have mb' := may_iff.1 mb
      apply zero_of_bits
      intro i hi
      have := mb' i hi
      simp only [BitVec.getLsbD_and]
      cases h1 : b.1.getLsbD i
      · rfl
      · cases h2 : b.2.getLsbD i
        · simp
        · exact absurd ⟨h1, h2⟩ this
    have e : y - b.1 = y &&& b.2 := by
      have h1 : y = b.1 + (y &&& b.2) := by rw [add_or hd]; exact hb'
      have h2 : y - b.1 = (b.1 + (y &&& b.2)) - b.1 := congrArg (· - b.1) h1
      rw [h2, BitVec.add_comm]
      exact BitVec.add_sub_cancel _ _
    rw [show (1 : B64) * y - 1 * b.1 = y - b.1 by simp, e]
    exact in_mask _ _
theorem shr_lt {x : B64} {n : Nat} (h : x.toNat < 2 ^ (n + 1)) : (x >>> 1).toNat < 2 ^ n := by
  rw [BitVec.toNat_ushiftRight, Nat.shiftRight_eq_div_pow]
  rw [Nat.pow_succ] at h
  omega
theorem has_zero_eq {a : TN} {x : B64} (h1 : a.1 = 0) (h2 : a.2 = 0) (h : has a x) : x = 0 := by
  apply BitVec.eq_of_getLsbD_eq
  intro i hi
  have := has_iff.1 h i hi (by rw [h2]; simp)
  rw [this, h1]
theorem sub_back (u v : B64) : u + (0 + (v - u)) = v := by
  apply BitVec.eq_of_toNat_eq
  have := u.isLt
  have := v.isLt
  simp only [BitVec.toNat_add, BitVec.toNat_sub, show (0 : B64).toNat = 0 from rfl]
  omega
theorem loop_has : ∀ (n : Nat) (s a b : TN) (z x y : B64), may s → may a → may b → has s z → has a x → has b y → a.1.toNat < 2 ^ n → a.2.toNat < 2 ^ n → has (loopS n s a b) (z + (x * y - a.1 * b.1)) ∧ may (loopS n s a b)
  | 0, s, a, b, z, x, y, ms, ma, mb, hs, ha, hb, l1, l2 => by
    have e1 : a.1 = 0 := BitVec.eq_of_toNat_eq (by rw [Nat.lt_one_iff.1 l1]; rfl)
    have e2 : a.2 = 0 := BitVec.eq_of_toNat_eq (by rw [Nat.lt_one_iff.1 l2]; rfl)
    have e3 := has_zero_eq e1 e2 ha
    rw [e1, e3]
    refine ⟨?_, ms⟩
    unfold loopS
    simpa using hs
  | n + 1, s, a, b, z, x, y, ms, ma, mb, hs, ha, hb, l1, l2 => by
    have h1 := step_has ms ma mb hs ha hb
    have := loop_has n (stepS s a b) (shrT a) (shlT b) _ (x >>> 1) (y <<< 1) (may_step ms) (may_shr ma) (may_shl mb) h1 (has_shr ha) (has_shl hb) (shr_lt l1) (shr_lt l2)
    unfold loopS
    refine ⟨?_, this.2⟩
    have e : z + (x * y - a.1 * b.1) = z + (bit0 x * y - bit0 a.1 * b.1) + (x >>> 1 * y <<< 1 - (shrT a).1 * (shlT b).1) := by
      rw [mul_step x y, mul_step a.1 b.1]
      unfold shrT shlT
      simp only [BitVec.sub_eq_add_neg, BitVec.neg_add]
      ac_rfl
    rw [e]
    exact this.1
theorem may_const (n : B64) : may (n, 0) := by
  rw [may_iff]; intro i hi; simp
theorem has_const (n : B64) : has (n, 0) n := by unfold has; simp
theorem mul_has {a b : TN} {x y : B64} (ma : may a) (mb : may b) (ha : has a x) (hb : has b y) : has (tMul a b) (x * y) := by
  obtain ⟨h1, h2⟩ := loop_has 64 (0, 0) a b 0 x y (may_zero _) ma mb (has_const 0) ha hb a.1.isLt a.2.isLt
  have := add_has (a := (a.1 * b.1, 0)) (may_const _) h2 (has_const _) h1
  rw [sub_back] at this
  exact this
theorem may_mul (a b : TN) : may (tMul a b) := may_add _ _ _ _
end Go.Proofs.YtjkgbghikhbecaaDoor.Tn
