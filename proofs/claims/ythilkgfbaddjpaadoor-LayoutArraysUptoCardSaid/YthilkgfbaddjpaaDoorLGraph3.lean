/-
  Layer 7, plainly: all types walked; where nothing holds itself no ring is found.
-/
import Derived.Test.YthilkgfbaddjpaaDoorLGraph2
namespace Go.Proofs.YthilkgfbaddjpaaDoor
set_option linter.unusedVariables false
set_option linter.unusedSimpArgs false
def stepF (E : Nat → List Nat) (f id : Nat) (es : Int × WK) (p : Nat) : Int × WK := (min es.1 (visitF E f p es.2).1, noteW (visitF E f p es.2).2 id p)
def foldV (E : Nat → List Nat) (f id : Nat) (s : WK) : Int × WK := (E id).foldl (stepF E f id) (((s.count + 1 : Nat) : Int), enterW s id)
theorem visit_new {E : Nat → List Nat} {f id : Nat} {s : WK} (hz : mt s id = 0) : visitF E (f + 1) id s = if (foldV E f id s).1 = ((s.count + 1 : Nat) : Int) then ((foldV E f id s).1, closeW s.op.length (foldV E f id s).2) else foldV E f id s := by
  conv => lhs; unfold visitF
  rw [if_neg (by simp [hz])]
  rfl
theorem visit_old {E : Nat → List Nat} {f id : Nat} {s : WK} (hz : mt s id ≠ 0) : visitF E (f + 1) id s = (mt s id, s) := by
  conv => lhs; unfold visitF
  rw [if_pos hz]
def allF (E : Nat → List Nat) (N : Nat) : Nat → WK → WK
  | 0, s => s
  | k + 1, s => (visitF E (N + 1) (k + 1) (allF E N k s)).2
def start (N : Nat) : WK := ⟨List.replicate (N + 1) 0, 0, [], [], []⟩
section
variable {E : Nat → List Nat} {N : Nat}
theorem visit_mid (hN6 : N ≤ 1000000) (hE : ∀ x, 1 ≤ x → x ≤ N → ∀ p ∈ E x, 1 ≤ p ∧ p ≤ N) (f id : Nat) (s : WK) (hi : Inv E N s) (h1 : 1 ≤ id) (hN : id ≤ N) (hf : unmet N s < f + 1) (hz : mt s id = 0) : Mid E N s id (E id) (foldV E f id s).1 (foldV E f id s).2 := by
  have hu := unmet_lt N (enter_grows hi h1 hN hz).1 id h1 hN hz (by rw [mt_enter s id id (by rw [hi.len]; omega), if_pos rfl]; omega)
  have hm0 : Mid E N s id [] ((s.count + 1 : Nat) : Int) (enterW s id) := ⟨enter_inv hi h1 hN hz, Grows.refl _, by omega, Int.le_refl _, (fun p hp => by cases hp), fun b _ hc => by omega⟩
  have key : ∀ (ps dn : List Nat) (e : Int) (t : WK), (∀ p ∈ ps, 1 ≤ p ∧ p ≤ N) → Mid E N s id dn e t → Mid E N s id (dn ++ ps) (ps.foldl (stepF E f id) (e, t)).1 (ps.foldl (stepF E f id) (e, t)).2 := by
    intro ps
    induction ps with
    | nil => intro dn e t _ h; simpa using h
    | cons p ps ihp =>
      intro dn e t hp h
      have hv := visit_spec hN6 hE f p t h.inv (hp p (by simp)).1 (hp p (by simp)).2 (by have := unmet_le N h.grows.met; omega)
      have hs := mid_step hi h1 hN hz h hv
      have := ihp (dn ++ [p]) _ _ (fun x hx => hp x (by simp [hx])) hs
      simpa [stepF] using this
  have hfin := key (E id) [] _ _ (hE id h1 hN) hm0
  rw [List.nil_append] at hfin
  exact hfin
theorem start_inv : Inv E N (start N) := by
  have hm : ∀ x, mt (start N) x = 0 := fun x => by
    unfold mt start
    simp only [List.getD_eq_getElem?_getD, List.getElem?_replicate]
    split <;> rfl
  refine ⟨by simp [start], ?_, (fun x hx => by cases hx), by simp [start], fun x hx => absurd (hm x) hx, (fun x hx => by cases hx), (fun x hx => by cases hx), (fun x hx => by cases hx), fun _ pre x post h => by simp [start] at h⟩
  show 0 + unmet N (start N) ≤ N
  unfold unmet
  have : (List.range (N + 1)).filter (fun x => decide (x ≠ 0 ∧ mt (start N) x = 0)) = (List.range (N + 1)).filter (fun x => decide (x ≠ 0)) := by
    congr 1
    funext x
    simp [hm x]
  rw [this, List.range_succ_eq_map]
  simp only [List.filter_cons, ne_eq, not_true_eq_false, decide_false, Bool.false_eq_true, if_false]
  have := List.length_filter_le (fun x => decide (x ≠ 0)) (List.map Nat.succ (List.range N))
  simp only [List.length_map, List.length_range] at this
  simpa using this
theorem unmet_le_N {s : WK} (h : Inv E N s) : unmet N s < N + 1 := by have := h.cnt; omega
/-- At the outermost nothing stays open. -/
theorem visit_top (hN6 : N ≤ 1000000) (hE : ∀ x, 1 ≤ x → x ≤ N → ∀ p ∈ E x, 1 ≤ p ∧ p ≤ N) (id : Nat) (s : WK) (hi : Inv E N s) (h1 : 1 ≤ id) (hN : id ≤ N) (hop : s.op = []) : (visitF E (N + 1) id s).2.op = [] := by
  by_cases hz : mt s id = 0
  · have hm := visit_mid hN6 hE N id s hi h1 hN (unmet_le_N hi) hz
    have hb := hm.base ((s.count + 1 : Nat) : Int) (by rw [hop]; intro x hx; cases hx) (by omega)
    have hl := hm.le
    rw [visit_new hz, if_pos (by omega)]
    show List.take s.op.length _ = []
    rw [hop]
    rfl
  · rw [visit_old hz]; exact hop
theorem all_spec (hN6 : N ≤ 1000000) (hE : ∀ x, 1 ≤ x → x ≤ N → ∀ p ∈ E x, 1 ≤ p ∧ p ≤ N) : ∀ k, k ≤ N → Inv E N (allF E N k (start N)) ∧ (allF E N k (start N)).op = [] ∧ ∀ x, 1 ≤ x → x ≤ k → mt (allF E N k (start N)) x ≠ 0
  | 0, _ => ⟨start_inv, rfl, fun x h1 h2 => by omega⟩
  | k + 1, hk => by
    obtain ⟨hi, hop, hall⟩ := all_spec hN6 hE k (by omega)
    have hv := visit_spec hN6 hE (N + 1) (k + 1) _ hi (by omega) hk (unmet_le_N hi)
    refine ⟨hv.inv, visit_top hN6 hE (k + 1) _ hi (by omega) hk hop, fun x h1 h2 => ?_⟩
    by_cases e : x = k + 1
    · subst e; exact hv.met
    · exact hv.grows.met x (hall x h1 (by omega))
/-- The order: all types, each behind those that it holds. -/
theorem order_ok (hN6 : N ≤ 1000000) (hE : ∀ x, 1 ≤ x → x ≤ N → ∀ p ∈ E x, 1 ≤ p ∧ p ≤ N) (hl : (allF E N N (start N)).loops = []) :
    (∀ x, 1 ≤ x → x ≤ N → x ∈ (allF E N N (start N)).order) ∧ (∀ x ∈ (allF E N N (start N)).order, 1 ≤ x ∧ x ≤ N) ∧ ∀ pre x post, (allF E N N (start N)).order = pre ++ x :: post → ∀ p ∈ E x, p ∈ pre := by
  obtain ⟨hi, hop, hall⟩ := all_spec hN6 hE N (Nat.le_refl _)
  refine ⟨fun x h1 h2 => ?_, hi.rngd, hi.top hl⟩
  rcases hi.all x (hall x h1 h2) with k | k
  · exact k
  · rw [hop] at k; cases k
/-- Where a rank falls along what types hold, no ring is found. -/
theorem visit_rank (hN6 : N ≤ 1000000) (hE : ∀ x, 1 ≤ x → x ≤ N → ∀ p ∈ E x, 1 ≤ p ∧ p ≤ N) (rk : Nat → Nat) (hrk : ∀ x, 1 ≤ x → x ≤ N → ∀ p ∈ E x, rk p < rk x) :
    ∀ (f id : Nat) (s : WK), Inv E N s → 1 ≤ id → id ≤ N → unmet N s < f → (∀ y ∈ s.op, rk id < rk y) → s.loops = [] →
      (visitF E f id s).2.op = s.op ∧ (visitF E f id s).2.loops = [] ∧ ((s.count + 1 : Nat) : Int) ≤ (visitF E f id s).1 := by
  intro f
  induction f with
  | zero => intro id s _ _ _ h; omega
  | succ f ih =>
    intro id s hi h1 hN hf hop hlp
    by_cases hz : mt s id = 0
    · have hu := unmet_lt N (enter_grows hi h1 hN hz).1 id h1 hN hz (by rw [mt_enter s id id (by rw [hi.len]; omega), if_pos rfl]; omega)
      have hm0 : Mid E N s id [] ((s.count + 1 : Nat) : Int) (enterW s id) := ⟨enter_inv hi h1 hN hz, Grows.refl _, by omega, Int.le_refl _, (fun p hp => by cases hp), fun b _ hc => by omega⟩
      have key : ∀ (ps dn : List Nat) (e : Int) (t : WK), (∀ p ∈ ps, p ∈ E id) → Mid E N s id dn e t → t.op = s.op ++ [id] → t.loops = [] → e = ((s.count + 1 : Nat) : Int) →
          (ps.foldl (stepF E f id) (e, t)).2.op = s.op ++ [id] ∧ (ps.foldl (stepF E f id) (e, t)).2.loops = [] ∧ (ps.foldl (stepF E f id) (e, t)).1 = ((s.count + 1 : Nat) : Int) := by
        intro ps
        induction ps with
        | nil => intro dn e t _ h ho hl he; exact ⟨ho, hl, he⟩
        | cons p ps ihp =>
          intro dn e t hp h ho hl he
          have hpE := hp p (by simp)
          have hpr := hE id h1 hN p hpE
          have hlt := hrk id h1 hN p hpE
          have hfu : unmet N t < f := by have := unmet_le N h.grows.met; omega
          have hv := visit_spec hN6 hE f p t h.inv hpr.1 hpr.2 hfu
          obtain ⟨r1, r2, r3⟩ := ih p t h.inv hpr.1 hpr.2 hfu (by
            intro y hy
            rw [ho] at hy
            rcases List.mem_append.1 hy with hy | hy
            · have := hop y hy; omega
            · simp only [List.mem_singleton] at hy; subst hy; exact hlt) hl
          have hne : p ≠ id := by rintro rfl; omega
          have hnote : noteW (visitF E f p t).2 id p = (visitF E f p t).2 := by unfold noteW; rw [if_neg hne]
          have hs := mid_step hi h1 hN hz h hv
          rw [hnote] at hs
          have hc := h.grows.count
          simp only [enterW] at hc
          have := ihp (dn ++ [p]) (min e (visitF E f p t).1) (visitF E f p t).2 (fun x hx => hp x (by simp [hx])) hs (by rw [r1, ho]) r2 (by omega)
          simpa [stepF, hnote] using this
      obtain ⟨k1, k2, k3⟩ := key (E id) [] _ _ (fun p hp => hp) hm0 rfl hlp rfl
      have k1' : (foldV E f id s).2.op = s.op ++ [id] := k1
      have k2' : (foldV E f id s).2.loops = [] := k2
      have k3' : (foldV E f id s).1 = ((s.count + 1 : Nat) : Int) := k3
      rw [visit_new hz, if_pos k3']
      refine ⟨?_, ?_, by rw [k3']; exact Int.le_refl _⟩
      · show List.take _ (foldV E f id s).2.op = _
        rw [k1', List.take_left]
      · show (if 1 < (List.drop _ (foldV E f id s).2.op).length then _ else _) = []
        rw [k1', List.drop_left, if_neg (by simp), k2']
    · rw [visit_old hz]
      refine ⟨rfl, hlp, ?_⟩
      rcases hi.all id hz with k | k
      · show _ ≤ mt s id
        rw [hi.ord id k]
        have := hi.count_le
        unfold CL
        omega
      · have := hop id k; omega
theorem all_rank (hN6 : N ≤ 1000000) (hE : ∀ x, 1 ≤ x → x ≤ N → ∀ p ∈ E x, 1 ≤ p ∧ p ≤ N) (rk : Nat → Nat) (hrk : ∀ x, 1 ≤ x → x ≤ N → ∀ p ∈ E x, rk p < rk x) : ∀ k, k ≤ N → (allF E N k (start N)).loops = []
  | 0, _ => rfl
  | k + 1, hk => by
    obtain ⟨hi, hop, _⟩ := all_spec hN6 hE k (by omega)
    exact (visit_rank hN6 hE rk hrk (N + 1) (k + 1) _ hi (by omega) hk (unmet_le_N hi) (by rw [hop]; intro y hy; cases hy) (all_rank hN6 hE rk hrk k (by omega))).2.1
end
end Go.Proofs.YthilkgfbaddjpaaDoor
