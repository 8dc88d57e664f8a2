/-
  Layer 7, plainly: how long the walk's lists are.
-/
import Derived.Test.YthilkgfbaddjpaaDoorLGraph3
namespace Go.Proofs.YthilkgfbaddjpaaDoor
set_option linter.unusedVariables false
set_option linter.unusedSimpArgs false
def tot (s : WK) : Prop := s.op.length + s.order.length = s.count
theorem tot_enter {s : WK} {id : Nat} (h : tot s) : tot (enterW s id) := by unfold tot enterW at *; simp; omega
theorem tot_note {s : WK} {id p : Nat} (h : tot s) : tot (noteW s id p) := by unfold noteW; split <;> exact h
theorem tot_close {s : WK} {n : Nat} (h : tot s) : tot (closeW n s) := by unfold tot closeW at *; simp; omega
theorem tot_visit (E : Nat → List Nat) : ∀ (f id : Nat) (s : WK), tot s → tot (visitF E f id s).2 := by
  intro f
  induction f with
  | zero => intro id s h; exact h
  | succ f ih =>
    intro id s h
    by_cases hz : mt s id = 0
    · have key : ∀ (ps : List Nat) (e : Int) (t : WK), tot t → tot (ps.foldl (stepF E f id) (e, t)).2 := by
        intro ps
        induction ps with
        | nil => intro e t ht; exact ht
        | cons p ps ihp =>
          intro e t ht
          exact ihp _ _ (tot_note (ih p t ht))
      have hf : tot (foldV E f id s).2 := key (E id) _ _ (tot_enter h)
      rw [visit_new hz]
      split
      · exact tot_close hf
      · exact hf
    · rw [visit_old hz]; exact h
def wsum (f : Nat → Nat) (p : Nat → Bool) (l : List Nat) : Nat := ((l.filter p).map f).sum
theorem wsum_le (f : Nat → Nat) (p q : Nat → Bool) : ∀ (l : List Nat), (∀ x ∈ l, p x = true → q x = true) → wsum f p l ≤ wsum f q l
  | [], _ => Nat.le_refl _
  | a :: l, h => by
    have ih := wsum_le f p q l (fun x hx => h x (by simp [hx]))
    unfold wsum at *
    cases hp : p a
    · simp only [List.filter_cons, hp, Bool.false_eq_true, if_false]
      split
      · simp only [List.map_cons, List.sum_cons]; omega
      · exact ih
    · have hq := h a (by simp) hp
      simp only [List.filter_cons, hp, hq, if_true, List.map_cons, List.sum_cons]
      omega
theorem wsum_lt (f : Nat → Nat) (p q : Nat → Bool) (a : Nat) (hpa : p a = false) (hqa : q a = true) : ∀ (l : List Nat), a ∈ l → (∀ x ∈ l, p x = true → q x = true) → wsum f p l + f a ≤ wsum f q l
  | [], ha, _ => by cases ha
  | b :: l, ha, h => by
    rcases List.mem_cons.1 ha with rfl | ha
    · have := wsum_le f p q l (fun x hx => h x (by simp [hx]))
      unfold wsum at *
      simp only [List.filter_cons, hpa, hqa, if_true, Bool.false_eq_true, if_false, List.map_cons, List.sum_cons]
      omega
    · have ih := wsum_lt f p q a hpa hqa l ha (fun x hx => h x (by simp [hx]))
      unfold wsum at *
      cases hp : p b
      · simp only [List.filter_cons, hp, Bool.false_eq_true, if_false]
        split
        · simp only [List.map_cons, List.sum_cons]; omega
        · exact ih
      · have hq := h b (by simp) hp
        simp only [List.filter_cons, hp, hq, if_true, List.map_cons, List.sum_cons]
        omega
section
variable (E : Nat → List Nat) (N : Nat)
/-- What is still to come: a place and a note for each that was not met. -/
def pot (s : WK) : Nat := s.loops.length + s.op.length + wsum (fun x => 1 + (E x).length) (fun x => decide (x ≠ 0 ∧ mt s x = 0)) (List.range (N + 1))
variable {E N}
theorem pot_enter {s : WK} (h : Inv E N s) {id : Nat} (h1 : 1 ≤ id) (hN : id ≤ N) (h0 : mt s id = 0) : pot E N (enterW s id) + (E id).length ≤ pot E N s := by
  obtain ⟨g1, _⟩ := enter_grows h h1 hN h0
  have hid : mt (enterW s id) id ≠ 0 := by rw [mt_enter s id id (by rw [h.len]; omega), if_pos rfl]; omega
  have := wsum_lt (fun x => 1 + (E x).length) (fun x => decide (x ≠ 0 ∧ mt (enterW s id) x = 0)) (fun x => decide (x ≠ 0 ∧ mt s x = 0)) id (by simp [hid]) (by simp [h0]; omega) (List.range (N + 1)) (by simp; omega) (fun x _ hx => by
    simp only [decide_eq_true_eq] at hx ⊢
    exact ⟨hx.1, Classical.byContradiction fun e => g1 x e hx.2⟩)
  unfold pot
  have e1 : (enterW s id).loops = s.loops := rfl
  have e2 : (enterW s id).op = s.op ++ [id] := rfl
  rw [e1, e2, List.length_append]
  simp only [List.length_singleton]
  omega
theorem pot_note {s : WK} {id p : Nat} : pot E N (noteW s id p) ≤ pot E N s + 1 := by
  unfold noteW
  split
  · have e : ∀ x, mt { s with loops := s.loops ++ [id] } x = mt s x := fun x => rfl
    unfold pot
    simp only [e, List.length_append, List.length_singleton]
    omega
  · omega
theorem pot_close {s : WK} {n : Nat} (h : Inv E N s) : pot E N (closeW n s) ≤ pot E N s := by
  have hm := close_met h n
  have := wsum_le (fun x => 1 + (E x).length) (fun x => decide (x ≠ 0 ∧ mt (closeW n s) x = 0)) (fun x => decide (x ≠ 0 ∧ mt s x = 0)) (List.range (N + 1)) (fun x _ hx => by
    simp only [decide_eq_true_eq] at hx ⊢
    refine ⟨hx.1, ?_⟩
    have h2 := hx.2
    rw [hm] at h2
    split at h2
    · simp [CL] at h2
    · exact h2)
  have e2 : (closeW n s).op.length + (s.op.drop n).length = s.op.length := by unfold closeW; simp; omega
  have e1 : (closeW n s).loops.length ≤ s.loops.length + (s.op.drop n).length := by
    unfold closeW
    simp only
    split
    · simp
    · omega
  unfold pot
  omega
theorem pot_visit (hN6 : N ≤ 1000000) (hE : ∀ x, 1 ≤ x → x ≤ N → ∀ p ∈ E x, 1 ≤ p ∧ p ≤ N) : ∀ (f id : Nat) (s : WK), Inv E N s → 1 ≤ id → id ≤ N → unmet N s < f → pot E N (visitF E f id s).2 ≤ pot E N s := by
  intro f
  induction f with
  | zero => intro id s _ _ _ h; omega
  | succ f ih =>
    intro id s hi h1 hN hf
    by_cases hz : mt s id = 0
    · have hu := unmet_lt N (enter_grows hi h1 hN hz).1 id h1 hN hz (by rw [mt_enter s id id (by rw [hi.len]; omega), if_pos rfl]; omega)
      have hm0 : Mid E N s id [] ((s.count + 1 : Nat) : Int) (enterW s id) := ⟨enter_inv hi h1 hN hz, Grows.refl _, by omega, Int.le_refl _, (fun p hp => by cases hp), fun b _ hc => by omega⟩
      have key : ∀ (ps dn : List Nat) (e : Int) (t : WK), (∀ p ∈ ps, 1 ≤ p ∧ p ≤ N) → Mid E N s id dn e t → pot E N (ps.foldl (stepF E f id) (e, t)).2 ≤ pot E N t + ps.length := by
        intro ps
        induction ps with
        | nil => intro dn e t _ _; simp
        | cons p ps ihp =>
          intro dn e t hp h
          have hfu : unmet N t < f := by have := unmet_le N h.grows.met; omega
          have hv := visit_spec hN6 hE f p t h.inv (hp p (by simp)).1 (hp p (by simp)).2 hfu
          have hs := mid_step hi h1 hN hz h hv
          have h2 := ihp (dn ++ [p]) _ _ (fun x hx => hp x (by simp [hx])) hs
          have h3 := ih p t h.inv (hp p (by simp)).1 (hp p (by simp)).2 hfu
          have h4 : pot E N (noteW (visitF E f p t).2 id p) ≤ _ := pot_note
          show pot E N (ps.foldl (stepF E f id) (min e (visitF E f p t).1, noteW (visitF E f p t).2 id p)).2 ≤ _
          simp only [List.length_cons]
          omega
      have hk := key (E id) [] ((s.count + 1 : Nat) : Int) (enterW s id) (hE id h1 hN) hm0
      have hk' : pot E N (foldV E f id s).2 ≤ pot E N (enterW s id) + (E id).length := hk
      have he := pot_enter hi h1 hN hz
      have hmid := visit_mid hN6 hE f id s hi h1 hN hf hz
      rw [visit_new hz]
      split
      · have := pot_close (n := s.op.length) hmid.inv
        show pot E N (closeW s.op.length (foldV E f id s).2) ≤ _
        omega
      · omega
    · rw [visit_old hz]; exact Nat.le_refl _
end
end Go.Proofs.YthilkgfbaddjpaaDoor
