/-
  The search for what is reached: its invariant, its measure; a program with one instruction more behind it.
-/
import Derived.Test.YticklgoegmobbaaDoorSMath
namespace Go.Proofs.YticklgoegmobbaaDoor
open Go Go.RowKit
set_option linter.unusedVariables false
/-- What holds of the slots that are marked, and of the places that wait. -/
structure Srch (X : Nat → Slot) (n : Nat) (R : Nat → Bool) (T : List Nat) : Prop where
  wait : ∀ t, t ∈ T → Reach X t
  sound : ∀ i, R i = true → Reached X i
  wide : ∀ a, fst X a = true → R a = true → wideS (X a) = true → R (a + 1) = true
  next : ∀ a, fst X a = true → R a = true → ∀ t : Int, t ∈ nxt (X a) a → t.toNat ∈ T ∨ R t.toNat = true
  start : 0 ∈ T ∨ R 0 = true
/-- The slots of the instruction at the place are marked. -/
def mark (X : Nat → Slot) (R : Nat → Bool) (a : Nat) : Nat → Bool := fun i => R i || (i == a || (wideS (X a) && i == a + 1))
section
variable {X : Nat → Slot} {n : Nat} {R : Nat → Bool} {T : List Nat} {a : Nat}
theorem Srch.init (X : Nat → Slot) (n : Nat) : Srch X n (fun _ => false) [0] :=
  ⟨fun t ht => by simp at ht; subst ht; exact .start, fun i h => (nomatch h), fun a _ h => (nomatch h), fun a _ h => (nomatch h), .inl (by simp)⟩
theorem Srch.skip (h : Srch X n R (T ++ [a])) (ha : R a = true) : Srch X n R T := by
  refine ⟨fun t ht => h.wait t (by simp [ht]), h.sound, h.wide, fun b hb hR t ht => ?_, ?_⟩
  · rcases h.next b hb hR t ht with h1 | h1
    · rcases List.mem_append.1 h1 with h2 | h2
      · exact .inl h2
      · simp only [List.mem_singleton] at h2; rw [h2]; exact .inr ha
    · exact .inr h1
  · rcases h.start with h1 | h1
    · rcases List.mem_append.1 h1 with h2 | h2
      · exact .inl h2
      · simp only [List.mem_singleton] at h2; subst h2; exact .inr ha
    · exact .inr h1
theorem Srch.take (g : Good X n) (h : Srch X n R (T ++ [a])) (ha : R a = false) : Srch X n (mark X R a) (T ++ (nxt (X a) a).map Int.toNat) := by
  have hra := h.wait a (by simp)
  obtain ⟨hlt, hfa⟩ := g.reach hra
  have old : ∀ i, R i = true → mark X R a i = true := fun i hi => by simp [mark, hi]
  have new : mark X R a a = true := by simp [mark]
  have split : ∀ i, fst X i = true → mark X R a i = true → R i = true ∨ i = a := by
    intro i hf hm
    simp only [mark, Bool.or_eq_true, Bool.and_eq_true, beq_iff_eq] at hm
    rcases hm with h1 | h1 | ⟨h1, h2⟩
    · exact .inl h1
    · exact .inr h1
    · subst h2
      simp [fst, hfa, h1] at hf
  refine ⟨?_, ?_, ?_, ?_, ?_⟩
  · intro t ht
    rcases List.mem_append.1 ht with h1 | h1
    · exact h.wait t (by simp [h1])
    · obtain ⟨z, hz, rfl⟩ := List.mem_map.1 h1
      have h0 := (holds_iff.1 (g.next hlt hfa hz)).1
      exact hra.step (by rwa [Int.toNat_of_nonneg h0])
  · intro i hi
    simp only [mark, Bool.or_eq_true, Bool.and_eq_true, beq_iff_eq] at hi
    rcases hi with h1 | h1 | ⟨h1, h2⟩
    · exact h.sound i h1
    · exact ⟨a, hra, .inl h1⟩
    · exact ⟨a, hra, .inr ⟨h1, h2⟩⟩
  · intro b hf hb hw
    rcases split b hf hb with h1 | h1
    · exact old _ (h.wide b hf h1 hw)
    · subst h1; simp [mark, hw]
  · intro b hf hb t ht
    rcases split b hf hb with h1 | h1
    · rcases h.next b hf h1 t ht with h2 | h2
      · rcases List.mem_append.1 h2 with h3 | h3
        · exact .inl (by simp [h3])
        · simp only [List.mem_singleton] at h3; rw [h3]; exact .inr new
      · exact .inr (old _ h2)
    · subst h1
      exact .inl (List.mem_append.2 (.inr (List.mem_map.2 ⟨t, ht, rfl⟩)))
  · rcases h.start with h1 | h1
    · rcases List.mem_append.1 h1 with h2 | h2
      · exact .inl (by simp [h2])
      · simp only [List.mem_singleton] at h2; subst h2; exact .inr new
    · exact .inr (old _ h1)
theorem Srch.done (g : Good X n) (h : Srch X n R []) (i : Nat) : R i = true ↔ Reached X i := by
  have key : ∀ a, Reach X a → R a = true := by
    intro a ha
    induction ha with
    | start =>
      rcases h.start with h1 | h1
      · cases h1
      · exact h1
    | step hr hj ih =>
      have hf := (g.reach hr).2
      rcases h.next _ hf ih _ hj with h1 | h1
      · cases h1
      · simpa using h1
  constructor
  · exact h.sound i
  · rintro ⟨a, ha, rfl | ⟨hw, rfl⟩⟩
    · exact key _ ha
    · exact h.wide _ (g.reach ha).2 (key _ ha) hw
end
/-- How many of the first n are not marked. -/
def left (R : Nat → Bool) (n : Nat) : Nat := (List.range n).countP fun i => !R i
theorem left_le (R R' : Nat → Bool) (h : ∀ i, R i = true → R' i = true) : ∀ n, left R' n ≤ left R n
  | 0 => Nat.le_refl _
  | n + 1 => by
    have ih := left_le R R' h n
    unfold left at ih ⊢
    rw [List.range_succ, List.countP_append, List.countP_append]
    simp only [List.countP_singleton]
    cases h1 : R n
    · simp; split <;> omega
    · simp [h n h1]; omega
theorem left_lt (R R' : Nat → Bool) (h : ∀ i, R i = true → R' i = true) {a : Nat} (h0 : R a = false) (h1 : R' a = true) : ∀ n, a < n → left R' n < left R n
  | 0, hn => by omega
  | n + 1, hn => by
    have hle := left_le R R' h n
    have ih := fun hlt => left_lt R R' h h0 h1 n hlt
    unfold left at ih hle ⊢
    rw [List.range_succ, List.countP_append, List.countP_append]
    simp only [List.countP_singleton]
    rcases Nat.lt_or_ge a n with hlt | hge
    · have := ih hlt
      cases h2 : R n
      · simp; split <;> omega
      · simp [h n h2]; omega
    · have : a = n := by omega
      subst this
      simp [h0, h1]
      omega
theorem mark_left {X : Nat → Slot} {n : Nat} {R : Nat → Bool} {a : Nat} (h : R a = false) (ha : a < n) : left (mark X R a) n < left R n :=
  left_lt R _ (fun i hi => by simp [mark, hi]) h (by simp [mark]) n ha
theorem nxt_length (x : Slot) (i : Nat) : (nxt x i).length ≤ 2 := by
  unfold nxt
  split
  · simp
  · split
    · simp
    · split <;> simp
/-- The same slots, and one more behind them. -/
def snoc (X : Nat → Slot) (n : Nat) (y : Slot) : Nat → Slot := fun i => if i < n then X i else y
section
variable {X : Nat → Slot} {n : Nat} {y : Slot}
theorem snoc_lt {i : Nat} (h : i < n) : snoc X n y i = X i := if_pos h
theorem snoc_at : snoc X n y n = y := if_neg (Nat.lt_irrefl n)
theorem fst_snoc : ∀ {i : Nat}, i ≤ n → fst (snoc X n y) i = fst X i
  | 0, _ => rfl
  | i + 1, h => by rw [fst, fst, fst_snoc (Nat.le_of_succ_le h), snoc_lt h]
theorem holds_snoc {t : Int} (h : holdsS X n t = true) : holdsS (snoc X n y) (n + 1) t = true := by
  obtain ⟨h1, h2, h3⟩ := holds_iff.1 h
  exact holds_iff.2 ⟨h1, by omega, by rw [fst_snoc (by omega)]; exact h3⟩
theorem Good.snoc (g : Good X n) (hn : n < 4096) (hy : oneS y = true) (he : endS y = true) (hnw : wideS y = false) (hna : aimS y = false) : Good (snoc X n y) (n + 1) := by
  have hfn := g.fst_end
  refine ⟨by omega, by omega, ?_, ?_, ?_⟩
  · intro i hi hf
    rcases Nat.lt_or_ge i n with h | h
    · rw [fst_snoc (by omega)] at hf
      have hw := g.whole i h hf
      unfold wholeS at hw ⊢
      rw [snoc_lt h]
      cases hwi : wideS (X i)
      · simpa [hwi] using hw
      · have := g.wide h hf hwi
        rw [snoc_lt this]
        simp only [hwi, Bool.not_true, Bool.false_or, Bool.and_eq_true, decide_eq_true_eq] at hw ⊢
        exact ⟨hw.1, by omega, hw.2.2⟩
    · have : i = n := by omega
      subst this
      simp [wholeS, snoc_at, hy, hnw]
  · intro i hi hf ha
    rcases Nat.lt_or_ge i n with h | h
    · rw [fst_snoc (by omega)] at hf
      rw [snoc_lt h] at ha ⊢
      exact holds_snoc (g.aim i h hf ha)
    · have : i = n := by omega
      subst this
      rw [snoc_at, hna] at ha
      cases ha
  · unfold lastOf
    rw [Nat.add_sub_cancel, fst_snoc (Nat.le_refl n), hfn, if_pos rfl, snoc_at]
    exact he
theorem reach_snoc (g : Good X n) {i : Nat} : Reach (Go.Proofs.YticklgoegmobbaaDoor.snoc X n y) i ↔ Reach X i := by
  constructor
  · intro h
    induction h with
    | start => exact .start
    | step _ hj ih =>
      rw [snoc_lt (g.reach ih).1] at hj
      exact ih.step hj
  · intro h
    induction h with
    | start => exact .start
    | step hi hj ih =>
      refine ih.step ?_
      rwa [snoc_lt (g.reach hi).1]
theorem reached_snoc (g : Good X n) {i : Nat} : Reached (Go.Proofs.YticklgoegmobbaaDoor.snoc X n y) i ↔ Reached X i := by
  unfold Reached
  constructor
  · rintro ⟨a, ha, h⟩
    have ha' := (reach_snoc g).1 ha
    rw [snoc_lt (g.reach ha').1] at h
    exact ⟨a, ha', h⟩
  · rintro ⟨a, ha, h⟩
    refine ⟨a, (reach_snoc g).2 ha, ?_⟩
    rwa [snoc_lt (g.reach ha).1]
end
end Go.Proofs.YticklgoegmobbaaDoor
