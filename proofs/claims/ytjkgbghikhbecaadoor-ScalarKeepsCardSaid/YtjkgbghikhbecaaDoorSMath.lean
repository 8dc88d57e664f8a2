/-
  Numbers of known bits within bounds: what is made tight has the same numbers; the lowest bits.
-/
import Derived.Test.YtjkgbghikhbecaaDoorTLen
namespace Go.Proofs.YtjkgbghikhbecaaDoor.Tn
set_option linter.unusedVariables false
set_option linter.unusedSimpArgs false
def minB (x y : B64) : B64 := if x.toNat ≤ y.toNat then x else y
def maxB (x y : B64) : B64 := if x.toNat ≤ y.toNat then y else x
theorem n64_min (x y : B64) : min (n64 x) (n64 y) = n64 (minB x y) := by
  unfold minB n64
  split <;> omega
theorem n64_max (x y : B64) : max (n64 x) (n64 y) = n64 (maxB x y) := by
  unfold maxB n64
  split <;> omega
/-- A scalar: its tnum, its bounds. -/
abbrev SC := TN × B64 × B64
def hasS (s : SC) (n : B64) : Prop := has s.1 n ∧ s.2.1.toNat ≤ n.toNat ∧ n.toNat ≤ s.2.2.toNat
instance (s : SC) (n : B64) : Decidable (hasS s n) := by unfold hasS; infer_instance
/-- One of the three times. -/
def rndS (s : SC) : Option SC :=
  if (minB s.2.2 (s.1.1 ||| s.1.2)).toNat < (maxB s.2.1 s.1.1).toNat then none
  else if agree s.1 (tRange (maxB s.2.1 s.1.1) (minB s.2.2 (s.1.1 ||| s.1.2))) then some (tMeet s.1 (tRange (maxB s.2.1 s.1.1) (minB s.2.2 (s.1.1 ||| s.1.2))), maxB s.2.1 s.1.1, minB s.2.2 (s.1.1 ||| s.1.2))
  else none
def loopT : Nat → SC → Option SC
  | 0, s => some s
  | n + 1, s => (rndS s).bind (loopT n)
instance (t : TN) : Decidable (may t) := by unfold may; infer_instance
def tightS (s : SC) : Option SC := if may s.1 then loopT 3 s else none
def zeroS : SC := ((0, 0), 0, 0)
/-- What Tight answers. -/
def tightV (s : SC) : SC := (tightS s).getD zeroS
theorem has_bounds {t : TN} {n : B64} (m : may t) (h : has t n) : t.1.toNat ≤ n.toNat ∧ n.toNat ≤ (t.1 ||| t.2).toNat := by
  have e := has_split h m
  constructor
  · rw [e, BitVec.toNat_or]; exact Nat.left_le_or
  · have e2 : t.1 ||| t.2 = n ||| t.2 := by
      apply BitVec.eq_of_getLsbD_eq
      intro i hi
      rw [e]
      simp only [BitVec.getLsbD_or, BitVec.getLsbD_and]
      generalize t.1.getLsbD i = p
      generalize t.2.getLsbD i = q
      generalize n.getLsbD i = r
      cases p <;> cases q <;> cases r <;> decide
    rw [e2, BitVec.toNat_or]; exact Nat.left_le_or
theorem maxB_le {x y z : B64} : (maxB x y).toNat ≤ z.toNat ↔ x.toNat ≤ z.toNat ∧ y.toNat ≤ z.toNat := by
  unfold maxB
  split <;> omega
theorem le_minB {x y z : B64} : z.toNat ≤ (minB x y).toNat ↔ z.toNat ≤ x.toNat ∧ z.toNat ≤ y.toNat := by
  unfold minB
  split <;> omega
theorem may_range (lo hi : B64) : may (tRange lo hi) := may_of _ _
theorem rnd_may {s s' : SC} (h : rndS s = some s') : may s'.1 := by
  unfold rndS at h
  split at h
  · cases h
  · split at h
    · injection h with h
      subst h
      exact may_of _ _
    · cases h
theorem rnd_has {s : SC} {n : B64} (m : may s.1) : hasS s n ↔ ∃ s', rndS s = some s' ∧ hasS s' n := by
  constructor
  · rintro ⟨h1, h2, h3⟩
    obtain ⟨b1, b2⟩ := has_bounds m h1
    have l1 : (maxB s.2.1 s.1.1).toNat ≤ n.toNat := maxB_le.2 ⟨h2, b1⟩
    have l2 : n.toNat ≤ (minB s.2.2 (s.1.1 ||| s.1.2)).toNat := le_minB.2 ⟨h3, b2⟩
    have hr := range_has l1 l2
    obtain ⟨ha, hm⟩ := (meet_has m (may_range _ _)).1 ⟨h1, hr⟩
    refine ⟨(tMeet s.1 (tRange (maxB s.2.1 s.1.1) (minB s.2.2 (s.1.1 ||| s.1.2))), maxB s.2.1 s.1.1, minB s.2.2 (s.1.1 ||| s.1.2)), ?_, hm, l1, l2⟩
    unfold rndS
    rw [if_neg (by omega), if_pos ha]
  · rintro ⟨s', h, h1, h2, h3⟩
    unfold rndS at h
    split at h
    · cases h
    · split at h
      · rename_i ha
        injection h with h
        subst h
        obtain ⟨k1, _⟩ := (meet_has m (may_range _ _)).2 ⟨ha, h1⟩
        exact ⟨k1, (maxB_le.1 h2).1, (le_minB.1 h3).1⟩
      · cases h
theorem loop_keeps : ∀ (k : Nat) {s : SC} {n : B64}, may s.1 → (hasS s n ↔ ∃ s', loopT k s = some s' ∧ hasS s' n)
  | 0, s, n, _ => ⟨fun h => ⟨s, rfl, h⟩, fun ⟨s', h, h'⟩ => by injection h with h; rw [h]; exact h'⟩
  | k + 1, s, n, m => by
    rw [rnd_has m]
    constructor
    · rintro ⟨s1, h1, h2⟩
      obtain ⟨s2, h3, h4⟩ := (loop_keeps k (rnd_may h1)).1 h2
      exact ⟨s2, by rw [loopT, h1]; exact h3, h4⟩
    · rintro ⟨s2, h3, h4⟩
      rw [loopT] at h3
      cases h1 : rndS s with
      | none => rw [h1] at h3; cases h3
      | some s1 =>
        rw [h1] at h3
        exact ⟨s1, rfl, (loop_keeps k (rnd_may h1)).2 ⟨s2, h3, h4⟩⟩
theorem loop_may : ∀ (k : Nat) {s s' : SC}, may s.1 → loopT k s = some s' → may s'.1
  | 0, s, s', m, h => by injection h with h; rw [← h]; exact m
  | k + 1, s, s', m, h => by
    rw [loopT] at h
    cases h1 : rndS s with
    | none => rw [h1] at h; cases h
    | some s1 => rw [h1] at h; exact loop_may k (rnd_may h1) h
/-- What is made tight has the same numbers. -/
theorem tight_has {s : SC} {n : B64} (m : may s.1) : hasS s n ↔ ∃ t, tightS s = some t ∧ hasS t n := by
  unfold tightS
  rw [if_pos m]
  exact loop_keeps 3 m
theorem tight_bool {s : SC} (m : may s.1) (n : B64) : decide (hasS s n) = ((tightS s).isSome && decide (hasS (tightV s) n)) := by
  have h := tight_has (n := n) m
  unfold tightV
  cases e : tightS s with
  | none =>
    rw [e] at h
    simp only [Option.isSome_none, Bool.false_and]
    exact decide_eq_false fun k => by obtain ⟨t, ht, _⟩ := h.1 k; cases ht
  | some t =>
    rw [e] at h
    simp only [Option.isSome_some, Bool.true_and, Option.getD_some]
    rw [decide_eq_decide, h]
    exact ⟨fun ⟨t', ht, k⟩ => by injection ht with ht; rw [ht]; exact k, fun k => ⟨t, rfl, k⟩⟩
/-- The lowest bits of a scalar. -/
def castS (s : SC) (bits : Int) : SC :=
  if bits = 8 ∨ bits = 16 ∨ bits = 32 then
    tightV (tCast s.1 bits, if (lowM bits.toNat).toNat < s.2.2.toNat then (0, lowM bits.toNat) else s.2)
  else s
theorem and_lowM_le (x : B64) (k : Nat) : (x &&& lowM k).toNat ≤ (lowM k).toNat := by
  rw [BitVec.toNat_and]; exact Nat.and_le_right
theorem and_lowM_same {x : B64} {k : Nat} (hk : k ≤ 64) (h : x.toNat ≤ (lowM k).toNat) : x &&& lowM k = x := by
  have hl : (lowM k).toNat = 2 ^ k - 1 := by
    unfold lowM
    have : 2 ^ k ≤ 2 ^ 64 := Nat.pow_le_pow_right (by decide) hk
    rw [BitVec.toNat_ofNat, Nat.mod_eq_of_lt (by have : 1 ≤ 2 ^ k := Nat.one_le_two_pow; omega)]
  have hx : x.toNat < 2 ^ k := by have : 1 ≤ 2 ^ k := Nat.one_le_two_pow; omega
  apply BitVec.eq_of_getLsbD_eq
  intro i hi
  rw [BitVec.getLsbD_and, lowM_bit hk i hi]
  rcases Nat.lt_or_ge i k with h1 | h1
  · simp [h1]
  · have : x.getLsbD i = false := by
      rw [BitVec.getLsbD]
      exact Nat.testBit_lt_two_pow (Nat.lt_of_lt_of_le hx (Nat.pow_le_pow_right (by decide) h1))
    simp [this]
theorem may_tCast {a : TN} (m : may a) {bits : Int} (h : bits = 8 ∨ bits = 16 ∨ bits = 32) : may (tCast a bits) := by
  unfold tCast
  rw [if_pos h]
  exact sel_may (low_sel (m := bits.toNat) (by omega)) m
theorem castS_has {s : SC} {x : B64} {bits : Int} (m : may s.1) (hb : bits = 8 ∨ bits = 16 ∨ bits = 32) (h : hasS s x) : hasS (castS s bits) (x &&& lowM bits.toNat) := by
  unfold castS
  rw [if_pos hb]
  obtain ⟨h1, h2, h3⟩ := h
  have hc : has (tCast s.1 bits) (x &&& lowM bits.toNat) := by
    unfold tCast
    rw [if_pos hb]
    exact sel_has (low_sel (m := bits.toNat) (by omega)) h1
  have key : ∀ u : SC, may u.1 → hasS u (x &&& lowM bits.toNat) → hasS (tightV u) (x &&& lowM bits.toNat) := by
    intro u mu hu
    obtain ⟨t, ht, k⟩ := (tight_has mu).1 hu
    unfold tightV
    rw [ht]
    exact k
  by_cases hm : (lowM bits.toNat).toNat < s.2.2.toNat
  · rw [if_pos hm]
    exact key _ (may_tCast m hb) ⟨hc, Nat.zero_le _, and_lowM_le _ _⟩
  · rw [if_neg hm]
    refine key _ (may_tCast m hb) ⟨hc, ?_⟩
    rw [and_lowM_same (by omega) (by omega)]
    exact ⟨h2, h3⟩
end Go.Proofs.YtjkgbghikhbecaaDoor.Tn
