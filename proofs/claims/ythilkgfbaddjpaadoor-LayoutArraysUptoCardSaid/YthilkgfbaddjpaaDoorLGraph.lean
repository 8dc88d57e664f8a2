/-
  Layer 7, plainly: the walk that parts types into rings.
-/
import Init
namespace Go.Proofs.YthilkgfbaddjpaaDoor
set_option linter.unusedVariables false
set_option linter.unusedSimpArgs false
structure WK where
  met : List Int
  count : Nat
  op : List Nat
  order : List Nat
  loops : List Nat
def CL : Int := 9223372036854775807
def mt (s : WK) (x : Nat) : Int := s.met.getD x 0
def setAll (m : List Int) (v : Int) (l : List Nat) : List Int := l.foldl (fun m x => m.set x v) m
def enterW (s : WK) (id : Nat) : WK := ⟨s.met.set id (s.count + 1), s.count + 1, s.op ++ [id], s.order, s.loops⟩
def closeW (n : Nat) (s : WK) : WK := ⟨setAll s.met CL (s.op.drop n), s.count, s.op.take n, s.order ++ s.op.drop n, if 1 < (s.op.drop n).length then s.loops ++ s.op.drop n else s.loops⟩
def noteW (s : WK) (id p : Nat) : WK := if p = id then { s with loops := s.loops ++ [id] } else s
def visitF (E : Nat → List Nat) : Nat → Nat → WK → Int × WK
  | 0, _, s => (0, s)
  | f + 1, id, s =>
    if mt s id ≠ 0 then (mt s id, s)
    else
      let r := (E id).foldl (fun (es : Int × WK) p => (min es.1 (visitF E f p es.2).1, noteW (visitF E f p es.2).2 id p)) (((s.count + 1 : Nat) : Int), enterW s id)
      if r.1 = ((s.count + 1 : Nat) : Int) then (r.1, closeW s.op.length r.2) else r

theorem getD_set (m : List Int) (i j : Nat) (v : Int) : (m.set i v).getD j 0 = if i = j ∧ i < m.length then v else m.getD j 0 := by
  simp only [List.getD_eq_getElem?_getD, List.getElem?_set]
  by_cases h : i = j
  · subst h
    by_cases hl : i < m.length
    · simp [hl]
    · simp [hl]
  · simp [h]
theorem setAll_length (v : Int) : ∀ (l : List Nat) (m : List Int), (setAll m v l).length = m.length
  | [], m => rfl
  | a :: l, m => by
    show (setAll (m.set a v) v l).length = _
    rw [setAll_length v l, List.length_set]
theorem setAll_get (v : Int) : ∀ (l : List Nat) (m : List Int) (j : Nat), (∀ x ∈ l, x < m.length) → (setAll m v l).getD j 0 = if j ∈ l then v else m.getD j 0
  | [], m, j, _ => by simp [setAll]
  | a :: l, m, j, h => by
    show (setAll (m.set a v) v l).getD j 0 = _
    rw [setAll_get v l _ j (fun x hx => by rw [List.length_set]; exact h x (by simp [hx])), getD_set]
    by_cases hj : j ∈ l
    · simp [hj]
    · by_cases ha : a = j
      · subst ha
        simp [hj, h a (by simp)]
      · have ha' : ¬ j = a := fun e => ha e.symm
        simp [hj, ha, ha']
section
variable (E : Nat → List Nat) (N : Nat)
def unmet (s : WK) : Nat := ((List.range (N + 1)).filter fun x => decide (x ≠ 0 ∧ mt s x = 0)).length
structure Inv (s : WK) : Prop where
  len : s.met.length = N + 1
  cnt : s.count + unmet N s ≤ N
  opn : ∀ x ∈ s.op, 0 < mt s x ∧ mt s x ≤ s.count
  srt : s.op.Pairwise fun a b => mt s a < mt s b
  all : ∀ x, mt s x ≠ 0 → x ∈ s.order ∨ x ∈ s.op
  ord : ∀ x ∈ s.order, mt s x = CL
  rngo : ∀ x ∈ s.op, 1 ≤ x ∧ x ≤ N
  rngd : ∀ x ∈ s.order, 1 ≤ x ∧ x ≤ N
  top : s.loops = [] → ∀ pre x post, s.order = pre ++ x :: post → ∀ p ∈ E x, p ∈ pre
structure Grows (s s' : WK) : Prop where
  op : ∃ a, s'.op = s.op ++ a
  order : ∃ a, s'.order = s.order ++ a
  loops : ∃ a, s'.loops = s.loops ++ a
  met : ∀ x, mt s x ≠ 0 → mt s' x ≠ 0
  same : ∀ x ∈ s.op, mt s' x = mt s x
  count : s.count ≤ s'.count
theorem Grows.refl (s : WK) : Grows s s := ⟨⟨[], by simp⟩, ⟨[], by simp⟩, ⟨[], by simp⟩, fun _ h => h, fun _ _ => rfl, Nat.le_refl _⟩
theorem Grows.trans {a b c : WK} (h : Grows a b) (k : Grows b c) : Grows a c := by
  obtain ⟨⟨a1, h1⟩, ⟨a2, h2⟩, ⟨a3, h3⟩, h4, h5, h6⟩ := h
  obtain ⟨⟨b1, k1⟩, ⟨b2, k2⟩, ⟨b3, k3⟩, k4, k5, k6⟩ := k
  exact ⟨⟨a1 ++ b1, by rw [k1, h1, List.append_assoc]⟩, ⟨a2 ++ b2, by rw [k2, h2, List.append_assoc]⟩, ⟨a3 ++ b3, by rw [k3, h3, List.append_assoc]⟩, fun x hx => k4 x (h4 x hx),
    fun x hx => (k5 x (by rw [h1]; exact List.mem_append_left _ hx)).trans (h5 x hx), Nat.le_trans h6 k6⟩
theorem filter_le {α : Type} (l : List α) (p q : α → Bool) (h : ∀ x ∈ l, p x = true → q x = true) : (l.filter p).length ≤ (l.filter q).length := by
  induction l with
  | nil => simp
  | cons a l ih =>
    have := ih (fun x hx => h x (by simp [hx]))
    cases hp : p a
    · simp only [List.filter_cons, hp, Bool.false_eq_true, if_false]
      split <;> (try simp) <;> omega
    · have hq := h a (by simp) hp
      simp only [List.filter_cons, hp, hq, if_true, List.length_cons]
      omega
theorem filter_lt {α : Type} (l : List α) (p q : α → Bool) (h : ∀ x ∈ l, p x = true → q x = true) (a : α) (ha : a ∈ l) (hpa : p a = false) (hqa : q a = true) : (l.filter p).length < (l.filter q).length := by
  induction l with
  | nil => cases ha
  | cons b l ih =>
    rcases List.mem_cons.1 ha with rfl | ha
    · have := filter_le l p q (fun x hx => h x (by simp [hx]))
      simp only [List.filter_cons, hpa, hqa, if_true, Bool.false_eq_true, if_false, List.length_cons]
      omega
    · have := ih (fun x hx => h x (by simp [hx])) ha
      cases hp : p b
      · simp only [List.filter_cons, hp, Bool.false_eq_true, if_false]
        split <;> (try simp) <;> omega
      · have hq := h b (by simp) hp
        simp only [List.filter_cons, hp, hq, if_true, List.length_cons]
        omega
theorem unmet_le {s s' : WK} (h : ∀ x, mt s x ≠ 0 → mt s' x ≠ 0) : unmet N s' ≤ unmet N s := by
  refine filter_le _ _ _ fun x _ hx => ?_
  simp only [decide_eq_true_eq] at hx ⊢
  exact ⟨hx.1, Classical.byContradiction fun e => h x e hx.2⟩
theorem unmet_lt {s s' : WK} (h : ∀ x, mt s x ≠ 0 → mt s' x ≠ 0) (id : Nat) (h1 : 1 ≤ id) (hN : id ≤ N) (h0 : mt s id = 0) (h2 : mt s' id ≠ 0) : unmet N s' < unmet N s := by
  refine filter_lt _ _ _ (fun x _ hx => ?_) id (by simp; omega) (by simp [h2]) (by simp [h0]; omega)
  simp only [decide_eq_true_eq] at hx ⊢
  exact ⟨hx.1, Classical.byContradiction fun e => h x e hx.2⟩
end
end Go.Proofs.YthilkgfbaddjpaaDoor
