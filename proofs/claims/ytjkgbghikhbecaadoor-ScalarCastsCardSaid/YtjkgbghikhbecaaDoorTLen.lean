/-
  How many bits a number has; masks of the lowest bits, one by one.
-/
import Derived.Test.YtjkgbghikhbecaaDoorTShift
namespace Go.Proofs.YtjkgbghikhbecaaDoor.Tn
set_option linter.unusedVariables false
set_option linter.unusedSimpArgs false
def lenN (n : Nat) : Nat := if h : n = 0 then 0 else lenN (n / 2) + 1
termination_by n
decreasing_by omega
theorem lenN_zero : lenN 0 = 0 := by rw [lenN]; rfl
theorem lenN_pos {n : Nat} (h : n ≠ 0) : lenN n = lenN (n / 2) + 1 := by rw [lenN, dif_neg h]
theorem lt_lenN : ∀ (n : Nat), n < 2 ^ lenN n := by
  intro n
  induction n using Nat.strongRecOn with
  | _ n ih =>
    by_cases h : n = 0
    · subst h; rw [lenN_zero]; decide
    · have := ih (n / 2) (by omega)
      rw [lenN_pos h, Nat.pow_succ]
      omega
theorem lenN_le : ∀ (k n : Nat), n < 2 ^ k → lenN n ≤ k
  | 0, n, h => by
    have : n = 0 := by simpa using h
    subst this; rw [lenN_zero]; exact Nat.le_refl _
  | k + 1, n, h => by
    by_cases h0 : n = 0
    · subst h0; rw [lenN_zero]; omega
    · have := lenN_le k (n / 2) (by rw [Nat.pow_succ] at h; omega)
      rw [lenN_pos h0]
      omega
/-- How many bits a number has. -/
def blen (x : B64) : Nat := lenN x.toNat
theorem blen_le (x : B64) : blen x ≤ 64 := lenN_le 64 _ x.isLt
theorem blen_lt (x : B64) : x.toNat < 2 ^ blen x := lt_lenN _
theorem blen_zero : blen 0 = 0 := lenN_zero
theorem blen_shr {x : B64} (h : x ≠ 0) : blen x = blen (x >>> 1) + 1 := by
  unfold blen
  rw [BitVec.toNat_ushiftRight, Nat.shiftRight_eq_div_pow]
  exact lenN_pos fun e => h (BitVec.eq_of_toNat_eq (by rw [e]; rfl))
theorem blen_pos {x : B64} (h : x ≠ 0) : 0 < blen x := by rw [blen_shr h]; omega
theorem lowM_zero : lowM 0 = 0 := rfl
theorem lowM_succ {k : Nat} (hk : k < 64) : (lowM k <<< 1) ||| 1 = lowM (k + 1) := by
  apply BitVec.eq_of_getLsbD_eq
  intro i hi
  rw [lowM_bit (by omega) i hi, BitVec.getLsbD_or, BitVec.getLsbD_shiftLeft]
  have e1 : (1 : B64).getLsbD i = decide (i = 0) := by
    rw [show (1 : B64) = BitVec.ofNat 64 1 from rfl, BitVec.getLsbD_ofNat]
    rcases Nat.eq_zero_or_pos i with rfl | h
    · rfl
    · rw [show decide (i = 0) = false from decide_eq_false (by omega), Nat.testBit_lt_two_pow (show 1 < 2 ^ i from Nat.lt_of_lt_of_le (by decide) (Nat.pow_le_pow_right (by decide) h))]
      simp
  rw [e1]
  rcases Nat.eq_zero_or_pos i with rfl | h
  · simp
  · rw [lowM_bit (by omega) (i - 1) (by omega), show decide (i = 0) = false from decide_eq_false (by omega), show decide (i < 1) = false from decide_eq_false (by omega)]
    simp [hi]
    omega
/-- The numbers between two, and more. -/
def tRange (lo hi : B64) : TN := tOf lo (blen (lo ^^^ hi))
theorem range_has {lo hi x : B64} (h1 : lo.toNat ≤ x.toNat) (h2 : x.toNat ≤ hi.toNat) : has (tRange lo hi) x := of_between (blen_le _) (xor_div (blen_lt _)) h1 h2
/-- The six operations on what is known. -/
def tBin (op : Int) (a b : TN) : TN := if op = 0 then tAdd a.1 a.2 b.1 b.2 else if op = 16 then tSub a.1 a.2 b.1 b.2 else if op = 32 then tMul a b else if op = 64 then tOr a b else if op = 80 then tAnd a b else tXor a b
def opIs (op : Int) : Prop := op = 0 ∨ op = 16 ∨ op = 32 ∨ op = 64 ∨ op = 80 ∨ op = 160
instance (op : Int) : Decidable (opIs op) := by unfold opIs; infer_instance
theorem bin_has {op : Int} (h : opIs op) {a b : TN} {x y : B64} (ma : may a) (mb : may b) (ha : has a x) (hb : has b y) : has (tBin op a b) (bop op x y) := by
  rcases h with rfl | rfl | rfl | rfl | rfl | rfl
  · exact add_has ma mb ha hb
  · exact sub_has ma mb ha hb
  · exact mul_has ma mb ha hb
  · exact or_has ma mb ha hb
  · exact and_has ma mb ha hb
  · exact xor_has ha hb
theorem bin_may {op : Int} (h : opIs op) (a b : TN) : may (tBin op a b) := by
  rcases h with rfl | rfl | rfl | rfl | rfl | rfl
  · exact may_add _ _ _ _
  · exact may_sub _ _ _ _
  · exact may_mul _ _
  · exact may_or _ _
  · exact may_and _ _
  · exact may_xor _ _
/-- A tnum that may be, of any. -/
def tMay (t : TN) : TN := (t.1 &&& ~~~t.2, t.2)
theorem may_tMay (t : TN) : may (tMay t) := may_of _ _
end Go.Proofs.YtjkgbghikhbecaaDoor.Tn
