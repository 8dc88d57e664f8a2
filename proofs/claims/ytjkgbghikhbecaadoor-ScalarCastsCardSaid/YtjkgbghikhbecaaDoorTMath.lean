/-
  Numbers of which some bits are known, plainly: sums and differences (BitVec 64).
-/
import Derived.WalkKit
namespace Go.Proofs.YtjkgbghikhbecaaDoor.Tn
set_option linter.unusedVariables false
set_option linter.unusedSimpArgs false
abbrev B64 := BitVec 64
theorem or_mono (x p : B64) (i : Nat) : x.toNat % 2 ^ i ≤ (x ||| p).toNat % 2 ^ i := by
  rw [BitVec.toNat_or, Nat.or_mod_two_pow]
  exact Nat.left_le_or
theorem carry_mono {x x' y y' : B64} {i : Nat} (h1 : x.toNat % 2 ^ i ≤ x'.toNat % 2 ^ i) (h2 : y.toNat % 2 ^ i ≤ y'.toNat % 2 ^ i) (h : BitVec.carry i x y false = true) : BitVec.carry i x' y' false = true := by
  unfold BitVec.carry at *
  simp only [decide_eq_true_eq, Bool.toNat_false, Nat.add_zero] at *
  omega
theorem sub_bits {p m : B64} (h : p &&& ~~~m = 0) (i : Nat) (hi : i < 64) : p.getLsbD i = true → m.getLsbD i = true := by
  have := congrArg (fun z => z.getLsbD i) h
  simp only [BitVec.getLsbD_and, BitVec.getLsbD_not, hi, decide_true, Bool.true_and, BitVec.ofNat_eq_ofNat, BitVec.getLsbD_zero] at this
  intro hp
  rw [hp] at this
  simpa using this
theorem sub_or {a p m : B64} (h : p &&& ~~~m = 0) : (a ||| p) ||| m = a ||| m := by
  apply BitVec.eq_of_getLsbD_eq
  intro i hi
  simp only [BitVec.getLsbD_or]
  cases hp : p.getLsbD i
  · simp only [Bool.or_false]
  · simp only [sub_bits h i hi hp, Bool.or_true]
theorem sub_bit {p m : B64} (h : p &&& ~~~m = 0) {i : Nat} (hi : i < 64) (hm : m.getLsbD i = false) : p.getLsbD i = false := by
  cases hp : p.getLsbD i
  · rfl
  · have := sub_bits h i hi hp
    rw [hm] at this; cases this
theorem add_or {a m : B64} (h : a &&& m = 0) : a + m = a ||| m := BitVec.add_eq_or_of_and_eq_zero a m h
/-- A bit of a sum that is known. -/
theorem add_core {av am bv bm p q : B64} (ha : av &&& am = 0) (hb : bv &&& bm = 0) (hp : p &&& ~~~am = 0) (hq : q &&& ~~~bm = 0) {i : Nat} (hi : i < 64)
    (hu : ((((av + bv) + (am + bm)) ^^^ (av + bv)) ||| am ||| bm).getLsbD i = false) : ((av ||| p) + (bv ||| q)).getLsbD i = (av + bv).getLsbD i := by
  simp only [BitVec.getLsbD_or, BitVec.getLsbD_xor, Bool.or_eq_false_iff] at hu
  obtain ⟨⟨h1, h2⟩, h3⟩ := hu
  have e : (av + bv) + (am + bm) = (av ||| am) + (bv ||| bm) := by
    rw [← add_or ha, ← add_or hb]; ac_rfl
  rw [e] at h1
  have hx : ((av ||| am) + (bv ||| bm)).getLsbD i = (av + bv).getLsbD i := by simpa using h1
  rw [BitVec.getLsbD_add hi, BitVec.getLsbD_add hi] at hx ⊢
  simp only [BitVec.getLsbD_or, h2, h3, sub_bit hp hi h2, sub_bit hq hi h3, Bool.or_false] at hx ⊢
  have hc : BitVec.carry i (av ||| am) (bv ||| bm) false = BitVec.carry i av bv false := by simpa using hx
  congr 2
  cases h0 : BitVec.carry i av bv false
  · rw [h0] at hc
    cases hm : BitVec.carry i (av ||| p) (bv ||| q) false
    · rfl
    · have := carry_mono (i := i) (or_mono (av ||| p) am i) (or_mono (bv ||| q) bm i) hm
      rw [sub_or hp, sub_or hq, hc] at this
      cases this
  · exact carry_mono (or_mono av p i) (or_mono bv q i) h0
def tAdd (av am bv bm : B64) : B64 × B64 := ((av + bv) &&& ~~~((((av + bv) + (am + bm)) ^^^ (av + bv)) ||| am ||| bm), ((((av + bv) + (am + bm)) ^^^ (av + bv)) ||| am ||| bm))
def tSub (av am bv bm : B64) : B64 × B64 := ((av - bv) &&& ~~~((((av - bv) + am) ^^^ ((av - bv) - bm)) ||| am ||| bm), ((((av - bv) + am) ^^^ ((av - bv) - bm)) ||| am ||| bm))
def has (t : B64 × B64) (n : B64) : Prop := (n ^^^ t.1) &&& ~~~t.2 = 0
def may (t : B64 × B64) : Prop := t.1 &&& t.2 = 0
theorem has_iff {t : B64 × B64} {n : B64} : has t n ↔ ∀ i, i < 64 → t.2.getLsbD i = false → n.getLsbD i = t.1.getLsbD i := by
  unfold has
  constructor
  · intro h i hi hm
    have := congrArg (fun z => z.getLsbD i) h
    simp only [BitVec.getLsbD_and, BitVec.getLsbD_xor, BitVec.getLsbD_not, hi, hm, decide_true, Bool.true_and, Bool.not_false, Bool.and_true, BitVec.ofNat_eq_ofNat, BitVec.getLsbD_zero] at this
    simpa using this
  · intro h
    apply BitVec.eq_of_getLsbD_eq
    intro i hi
    simp only [BitVec.getLsbD_and, BitVec.getLsbD_xor, BitVec.getLsbD_not, hi, decide_true, Bool.true_and, BitVec.ofNat_eq_ofNat, BitVec.getLsbD_zero]
    cases hm : t.2.getLsbD i
    · simp only [h i hi hm, Bool.xor_self, Bool.false_and]
    · simp only [Bool.not_true, Bool.and_false]
theorem add_sound {av am bv bm p q : B64} (ha : av &&& am = 0) (hb : bv &&& bm = 0) (hp : p &&& ~~~am = 0) (hq : q &&& ~~~bm = 0) : has (tAdd av am bv bm) ((av ||| p) + (bv ||| q)) := by
  rw [has_iff]
  intro i hi hm
  unfold tAdd at hm ⊢
  simp only [BitVec.getLsbD_and, BitVec.getLsbD_not, hm, hi, decide_true, Bool.true_and, Bool.not_false, Bool.and_true]
  exact add_core ha hb hp hq hi hm
theorem may_of (s u : B64) : may (s &&& ~~~u, u) := by
  unfold may
  apply BitVec.eq_of_getLsbD_eq
  intro i hi
  simp only [BitVec.getLsbD_and, BitVec.getLsbD_not, hi, decide_true, Bool.true_and, BitVec.ofNat_eq_ofNat, BitVec.getLsbD_zero]
  cases u.getLsbD i <;> simp
theorem may_add (av am bv bm : B64) : may (tAdd av am bv bm) := may_of _ _
theorem may_sub (av am bv bm : B64) : may (tSub av am bv bm) := may_of _ _
theorem sub_not (x y : B64) : x - y = ~~~(~~~x + y) := by
  apply BitVec.eq_of_toNat_eq
  have hx := x.isLt
  have hy := y.isLt
  simp only [BitVec.toNat_sub, BitVec.toNat_not, BitVec.toNat_add]
  omega
theorem not_or_sub {a p m : B64} (h : p &&& ~~~m = 0) : ~~~(a ||| p) = ~~~(a ||| m) ||| (~~~a &&& (m &&& ~~~p)) := by
  apply BitVec.eq_of_getLsbD_eq
  intro i hi
  simp only [BitVec.getLsbD_or, BitVec.getLsbD_and, BitVec.getLsbD_not, hi, decide_true, Bool.true_and]
  have := sub_bits h i hi
  cases a.getLsbD i <;> cases hp : p.getLsbD i <;> cases hm : m.getLsbD i <;> simp_all
theorem zero_of_bits {x : B64} (h : ∀ i, i < 64 → x.getLsbD i = false) : x = 0 := by
  apply BitVec.eq_of_getLsbD_eq
  intro i hi
  rw [h i hi]; simp
theorem dis_bits {a m : B64} (h : a &&& m = 0) (i : Nat) : ¬ (a.getLsbD i = true ∧ m.getLsbD i = true) := by
  rintro ⟨h1, h2⟩
  have := congrArg (fun z => z.getLsbD i) h
  simp only [BitVec.getLsbD_and, h1, h2, BitVec.ofNat_eq_ofNat, BitVec.getLsbD_zero] at this
  cases this
theorem sub_core {av am bv bm p q : B64} (ha : av &&& am = 0) (hb : bv &&& bm = 0) (hp : p &&& ~~~am = 0) (hq : q &&& ~~~bm = 0) {i : Nat} (hi : i < 64)
    (hu : ((((av - bv) + am) ^^^ ((av - bv) - bm)) ||| am ||| bm).getLsbD i = false) : ((av ||| p) - (bv ||| q)).getLsbD i = (av - bv).getLsbD i := by
  have hA : ~~~(av ||| am) &&& am = 0 := zero_of_bits fun i hi => by
    simp only [BitVec.getLsbD_or, BitVec.getLsbD_and, BitVec.getLsbD_not, hi, decide_true, Bool.true_and]
    cases av.getLsbD i <;> cases am.getLsbD i <;> rfl
  have e1 : ~~~(~~~(av ||| am) + bv) = (av - bv) + am := by
    rw [← sub_not, ← add_or ha]; simp only [BitVec.sub_eq_add_neg]; ac_rfl
  have e2 : ~~~((~~~(av ||| am) + bv) + (am + bm)) = (av - bv) - bm := by
    have h1 : ~~~(av ||| am) + am = ~~~av := by
      rw [add_or hA]
      apply BitVec.eq_of_getLsbD_eq
      intro i hi
      have := dis_bits ha i
      simp only [BitVec.getLsbD_or, BitVec.getLsbD_not, hi, decide_true, Bool.true_and]
      cases h1 : av.getLsbD i <;> cases h2 : am.getLsbD i <;> simp_all
    have h2 : (~~~(av ||| am) + bv) + (am + bm) = ~~~av + (bv + bm) := by rw [← h1]; ac_rfl
    rw [h2, ← sub_not]; simp only [BitVec.sub_eq_add_neg, BitVec.neg_add]; ac_rfl
  have hu' : ((((~~~(av ||| am) + bv) + (am + bm)) ^^^ (~~~(av ||| am) + bv)) ||| am ||| bm).getLsbD i = false := by
    rw [← e1, ← e2] at hu
    simp only [BitVec.getLsbD_or, BitVec.getLsbD_xor, BitVec.getLsbD_not, hi, decide_true, Bool.true_and] at hu ⊢
    rw [← hu]
    generalize (~~~(av ||| am) + bv).getLsbD i = x
    generalize (~~~(av ||| am) + bv + (am + bm)).getLsbD i = y
    cases x <;> cases y <;> rfl
  have go : ∀ p q : B64, p &&& ~~~am = 0 → q &&& ~~~bm = 0 → ((av ||| p) - (bv ||| q)).getLsbD i = (~~~(~~~(av ||| am) + bv)).getLsbD i := by
    intro p q hp hq
    rw [sub_not, not_or_sub hp]
    have hs : (~~~av &&& (am &&& ~~~p)) &&& ~~~am = 0 := zero_of_bits fun i hi => by
      simp only [BitVec.getLsbD_and, BitVec.getLsbD_not, hi, decide_true, Bool.true_and]
      cases av.getLsbD i <;> cases am.getLsbD i <;> cases p.getLsbD i <;> rfl
    have := add_core hA hb hs hq hi hu'
    simp only [BitVec.getLsbD_not, hi, decide_true, Bool.true_and, this]
  have h1 := go p q hp hq
  have h2 := go 0 0 (by simp) (by simp)
  simp only [BitVec.ofNat_eq_ofNat, BitVec.or_zero] at h2
  rw [h1, h2]
theorem sub_sound {av am bv bm p q : B64} (ha : av &&& am = 0) (hb : bv &&& bm = 0) (hp : p &&& ~~~am = 0) (hq : q &&& ~~~bm = 0) : has (tSub av am bv bm) ((av ||| p) - (bv ||| q)) := by
  rw [has_iff]
  intro i hi hm
  unfold tSub at hm ⊢
  simp only [BitVec.getLsbD_and, BitVec.getLsbD_not, hm, hi, decide_true, Bool.true_and, Bool.not_false, Bool.and_true]
  exact sub_core ha hb hp hq hi hm
end Go.Proofs.YtjkgbghikhbecaaDoor.Tn
