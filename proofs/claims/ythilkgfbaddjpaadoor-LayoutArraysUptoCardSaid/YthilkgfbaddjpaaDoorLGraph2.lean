/-
  Layer 7, plainly: what the walk leaves behind: each type behind those that it holds.
-/
import Derived.Test.YthilkgfbaddjpaaDoorLGraph
namespace Go.Proofs.YthilkgfbaddjpaaDoor
set_option linter.unusedVariables false
set_option linter.unusedSimpArgs false
section
variable {E : Nat → List Nat} {N : Nat}
theorem mt_enter (s : WK) (id x : Nat) (hl : id < s.met.length) : mt (enterW s id) x = if x = id then ((s.count + 1 : Nat) : Int) else mt s x := by
  unfold mt enterW
  simp only [getD_set]
  by_cases h : x = id
  · subst h; simp [hl]
  · have h' : ¬ id = x := fun e => h e.symm
    simp [h, h']
theorem Inv.count_le {s : WK} (h : Inv E N s) : s.count ≤ N := by have := h.cnt; omega
theorem enter_grows {s : WK} (h : Inv E N s) {id : Nat} (h1 : 1 ≤ id) (hN : id ≤ N) (h0 : mt s id = 0) : (∀ x, mt s x ≠ 0 → mt (enterW s id) x ≠ 0) ∧ (∀ x ∈ s.op, mt (enterW s id) x = mt s x) := by
  have hl : id < s.met.length := by rw [h.len]; omega
  refine ⟨fun x hx => ?_, fun x hx => ?_⟩
  · rw [mt_enter s id x hl]
    split
    · omega
    · exact hx
  · rw [mt_enter s id x hl, if_neg]
    rintro rfl
    have := (h.opn x hx).1
    omega
theorem enter_inv {s : WK} (h : Inv E N s) {id : Nat} (h1 : 1 ≤ id) (hN : id ≤ N) (h0 : mt s id = 0) : Inv E N (enterW s id) := by
  have hl : id < s.met.length := by rw [h.len]; omega
  have hm := mt_enter s id
  obtain ⟨g1, g2⟩ := enter_grows h h1 hN h0
  have hid : mt (enterW s id) id = ((s.count + 1 : Nat) : Int) := by rw [hm id hl, if_pos rfl]
  have hu := unmet_lt N g1 id h1 hN h0 (by rw [hid]; omega)
  refine ⟨by simp [enterW, h.len], ?_, ?_, ?_, ?_, ?_, ?_, h.rngd, h.top⟩
  · have := h.cnt
    simp only [enterW] at hu ⊢
    omega
  · intro x hx
    rcases List.mem_append.1 hx with hx | hx
    · rw [g2 x hx]
      have := h.opn x hx
      exact ⟨this.1, by simp only [enterW]; omega⟩
    · simp only [List.mem_singleton] at hx
      subst hx
      rw [hid]
      exact ⟨by omega, by simp [enterW]⟩
  · show (s.op ++ [id]).Pairwise _
    rw [List.pairwise_append]
    refine ⟨h.srt.imp_of_mem (fun {a b} ha hb hab => by rw [g2 a ha, g2 b hb]; exact hab), by simp, fun a ha b hb => ?_⟩
    simp only [List.mem_singleton] at hb
    subst hb
    rw [g2 a ha, hid]
    have := h.opn a ha
    omega
  · intro x hx
    by_cases e : x = id
    · right; subst e; simp [enterW]
    · rw [hm x hl, if_neg e] at hx
      rcases h.all x hx with h' | h'
      · exact .inl h'
      · right; simp [enterW, h']
  · intro x hx
    have hc := h.ord x hx
    rw [hm x hl, if_neg]
    · exact hc
    · rintro rfl
      rw [h0] at hc
      simp [CL] at hc
  · intro x hx
    rcases List.mem_append.1 hx with hx | hx
    · exact h.rngo x hx
    · simp only [List.mem_singleton] at hx
      subst hx
      exact ⟨h1, hN⟩
theorem enter_Grows {s : WK} (h : Inv E N s) {id : Nat} (h1 : 1 ≤ id) (hN : id ≤ N) (h0 : mt s id = 0) : Grows s (enterW s id) := by
  obtain ⟨g1, g2⟩ := enter_grows h h1 hN h0
  exact ⟨⟨[id], rfl⟩, ⟨[], by simp [enterW]⟩, ⟨[], by simp [enterW]⟩, g1, g2, by simp [enterW]⟩
theorem note_inv {s : WK} (h : Inv E N s) (id p : Nat) : Inv E N (noteW s id p) := by
  unfold noteW
  split
  · exact ⟨h.len, h.cnt, h.opn, h.srt, h.all, h.ord, h.rngo, h.rngd, fun e => by simp at e⟩
  · exact h
theorem note_Grows (s : WK) (id p : Nat) : Grows s (noteW s id p) := by
  unfold noteW
  split
  · exact ⟨⟨[], by simp⟩, ⟨[], by simp⟩, ⟨[id], rfl⟩, fun _ h => h, fun _ _ => rfl, Nat.le_refl _⟩
  · exact Grows.refl s
theorem note_mt (s : WK) (id p x : Nat) : mt (noteW s id p) x = mt s x := by unfold noteW; split <;> rfl
structure Vis (E : Nat → List Nat) (N : Nat) (s : WK) (id : Nat) (r : Int) (s' : WK) : Prop where
  inv : Inv E N s'
  grows : Grows s s'
  pos : 1 ≤ r
  met : mt s' id ≠ 0
  low : mt s' id = CL ∨ r ≤ mt s' id
  base : ∀ b : Int, (∀ x ∈ s.op, b ≤ mt s x) → b ≤ (s.count : Int) + 1 → b ≤ r
structure Mid (E : Nat → List Nat) (N : Nat) (s : WK) (id : Nat) (dn : List Nat) (e : Int) (t : WK) : Prop where
  inv : Inv E N t
  grows : Grows (enterW s id) t
  pos : 1 ≤ e
  le : e ≤ ((s.count + 1 : Nat) : Int)
  parts : ∀ p ∈ dn, mt t p ≠ 0 ∧ (mt t p = CL ∨ e ≤ mt t p) ∧ (p = id → t.loops ≠ [])
  base : ∀ b : Int, (∀ x ∈ s.op, b ≤ mt s x) → b ≤ (s.count : Int) + 1 → b ≤ e
theorem op_cl {s : WK} (h : Inv E N s) (hN : N ≤ 1000000) {x : Nat} (hx : x ∈ s.op) : mt s x < CL := by
  have := (h.opn x hx).2
  have := h.count_le
  unfold CL
  omega
/-- Met ones keep their number while they are open; closed ones stay closed. -/
theorem grows_low {s s' : WK} (h : Inv E N s) (h' : Inv E N s') (g : Grows s s') (p : Nat) (e : Int) (hp : mt s p ≠ 0) (hl : mt s p = CL ∨ e ≤ mt s p) : mt s' p = CL ∨ e ≤ mt s' p := by
  rcases h.all p hp with hd | ho
  · left
    obtain ⟨a, ha⟩ := g.order
    exact h'.ord p (by rw [ha]; exact List.mem_append_left _ hd)
  · rw [g.same p ho]; exact hl
theorem mid_low {s t : WK} {id : Nat} {dn : List Nat} {e : Int} (h0 : Inv E N s) (h1 : 1 ≤ id) (hN : id ≤ N) (hz : mt s id = 0) (h : Mid E N s id dn e t) (b : Int) (hb : ∀ x ∈ s.op, b ≤ mt s x) (hc : b ≤ (s.count : Int) + 1) : ∀ x ∈ t.op, b ≤ mt t x := by
  have hl : id < s.met.length := by rw [h0.len]; omega
  obtain ⟨_, g2⟩ := enter_grows h0 h1 hN hz
  obtain ⟨a, ha⟩ := h.grows.op
  have hid : mt t id = ((s.count + 1 : Nat) : Int) := by
    rw [h.grows.same id (by simp [enterW]), mt_enter s id id hl, if_pos rfl]
  intro x hx
  rw [ha] at hx
  rcases List.mem_append.1 hx with hx | hx
  · rw [h.grows.same x hx]
    rcases List.mem_append.1 hx with hx | hx
    · rw [g2 x hx]; exact hb x hx
    · simp only [List.mem_singleton] at hx
      subst hx
      rw [mt_enter s x x hl, if_pos rfl]
      omega
  · have hs := h.inv.srt
    rw [ha, List.pairwise_append] at hs
    have := hs.2.2 id (by simp [enterW]) x hx
    omega
theorem mid_step {s t : WK} {id p : Nat} {dn : List Nat} {e r : Int} {t' : WK} (h0 : Inv E N s) (h1 : 1 ≤ id) (hN : id ≤ N) (hz : mt s id = 0) (h : Mid E N s id dn e t) (hv : Vis E N t p r t') : Mid E N s id (dn ++ [p]) (min e r) (noteW t' id p) := by
  have gi : Inv E N (noteW t' id p) := note_inv hv.inv id p
  have gg : Grows t (noteW t' id p) := hv.grows.trans (note_Grows t' id p)
  obtain ⟨ll, hll⟩ := gg.loops
  refine ⟨gi, h.grows.trans gg, by have := h.pos; have := hv.pos; omega, by have := h.le; omega, fun x hx => ?_, fun b hb hc => ?_⟩
  · rcases List.mem_append.1 hx with hx | hx
    · obtain ⟨k1, k2, k3⟩ := h.parts x hx
      refine ⟨gg.met x k1, ?_, fun e1 e2 => ?_⟩
      · rcases grows_low h.inv gi gg x e k1 k2 with k | k
        · exact .inl k
        · right; omega
      · rw [hll] at e2
        exact k3 e1 (List.append_eq_nil_iff.1 e2).1
    · simp only [List.mem_singleton] at hx
      subst hx
      rw [note_mt]
      refine ⟨hv.met, ?_, fun e1 e2 => ?_⟩
      · rcases hv.low with k | k
        · exact .inl k
        · right; omega
      · unfold noteW at e2
        rw [if_pos e1] at e2
        simp at e2
  · have k1 := h.base b hb hc
    have k2 := hv.base b (mid_low h0 h1 hN hz h b hb hc) (by have := h.grows.count; simp only [enterW] at this; omega)
    omega
theorem close_met {t : WK} (h : Inv E N t) (n x : Nat) : mt (closeW n t) x = if x ∈ t.op.drop n then CL else mt t x := by
  unfold mt closeW
  exact setAll_get CL _ _ x fun y hy => by rw [h.len]; have := (h.rngo y (List.mem_of_mem_drop hy)).2; omega
theorem close_vis {s t : WK} {id : Nat} {e : Int} (hN6 : N ≤ 1000000) (h0 : Inv E N s) (h1 : 1 ≤ id) (hN : id ≤ N) (hz : mt s id = 0) (h : Mid E N s id (E id) e t) (he : e = ((s.count + 1 : Nat) : Int)) : Vis E N s id e (closeW s.op.length t) := by
  have hl : id < s.met.length := by rw [h0.len]; omega
  obtain ⟨_, g2⟩ := enter_grows h0 h1 hN hz
  obtain ⟨a, ha⟩ := h.grows.op
  have hop : t.op = s.op ++ (id :: a) := by rw [ha]; simp [enterW]
  have hdrop : t.op.drop s.op.length = id :: a := by rw [hop, List.drop_left]
  have htake : t.op.take s.op.length = s.op := by rw [hop, List.take_left]
  have hm := close_met h.inv s.op.length
  rw [hdrop] at hm
  have hid : mt t id = ((s.count + 1 : Nat) : Int) := by
    rw [h.grows.same id (by simp [enterW]), mt_enter s id id hl, if_pos rfl]
  have hsrt := h.inv.srt
  rw [hop, List.pairwise_append] at hsrt
  have hold : ∀ x ∈ s.op, x ∉ id :: a := fun x hx hx2 => by have := hsrt.2.2 x hx x hx2; omega
  have hsame : ∀ x ∈ s.op, mt (closeW s.op.length t) x = mt s x := fun x hx => by
    rw [hm, if_neg (hold x hx), h.grows.same x (by simp [enterW, hx]), g2 x hx]
  have hmet : ∀ x, mt t x ≠ 0 → mt (closeW s.op.length t) x ≠ 0 := fun x hx => by
    rw [hm]; split
    · simp [CL]
    · exact hx
  have hgr : Grows s (enterW s id) := enter_Grows h0 h1 hN hz
  refine ⟨⟨?_, ?_, ?_, ?_, ?_, ?_, ?_, ?_, ?_⟩, ⟨⟨[], ?_⟩, ?_, ?_, ?_, hsame, ?_⟩, h.pos, ?_, ?_, h.base⟩
  · show (setAll t.met CL _).length = _
    rw [setAll_length, h.inv.len]
  · have := unmet_le N hmet
    have := h.inv.cnt
    show t.count + _ ≤ N
    omega
  · intro x hx
    have hx' : x ∈ s.op := by have : x ∈ t.op.take s.op.length := hx; rwa [htake] at this
    rw [hsame x hx']
    have := h0.opn x hx'
    have hc := h.grows.count
    simp only [enterW] at hc
    exact ⟨this.1, by show mt s x ≤ (t.count : Int); omega⟩
  · show (t.op.take s.op.length).Pairwise _
    rw [htake]
    exact h0.srt.imp_of_mem fun {x y} hx hy hxy => by rw [hsame x hx, hsame y hy]; exact hxy
  · intro x hx
    rw [hm] at hx
    by_cases hxr : x ∈ id :: a
    · left; show x ∈ t.order ++ t.op.drop s.op.length; rw [hdrop]; exact List.mem_append_right _ hxr
    · rw [if_neg hxr] at hx
      rcases h.inv.all x hx with k | k
      · left; show x ∈ t.order ++ _; exact List.mem_append_left _ k
      · right
        show x ∈ t.op.take s.op.length
        rw [htake]
        rw [hop] at k
        rcases List.mem_append.1 k with k | k
        · exact k
        · exact absurd k hxr
  · intro x hx
    have hx' : x ∈ t.order ++ t.op.drop s.op.length := hx
    rw [hdrop] at hx'
    rw [hm]
    split
    · rfl
    · rcases List.mem_append.1 hx' with k | k
      · exact h.inv.ord x k
      · contradiction
  · intro x hx
    have hx' : x ∈ t.op.take s.op.length := hx
    exact h.inv.rngo x (List.mem_of_mem_take hx')
  · intro x hx
    have hx' : x ∈ t.order ++ t.op.drop s.op.length := hx
    rcases List.mem_append.1 hx' with k | k
    · exact h.inv.rngd x k
    · exact h.inv.rngo x (List.mem_of_mem_drop k)
  · intro hlp pre x post hsp p hp
    have hlp' : (if 1 < (t.op.drop s.op.length).length then t.loops ++ t.op.drop s.op.length else t.loops) = [] := hlp
    have hsp' : t.order ++ t.op.drop s.op.length = pre ++ x :: post := hsp
    rw [hdrop] at hlp' hsp'
    have hnil : a = [] ∧ t.loops = [] := by
      split at hlp'
      · simp at hlp'
      · rename_i hk
        simp at hk
        exact ⟨hk, hlp'⟩
    obtain ⟨rfl, hlt⟩ := hnil
    have hclosed : ∀ p ∈ E id, p ∈ t.order := by
      intro p hp
      obtain ⟨k1, k2, k3⟩ := h.parts p hp
      have hne : p ≠ id := fun e1 => k3 e1 hlt
      rcases h.inv.all p k1 with k | k
      · exact k
      · exfalso
        rw [hop] at k
        rcases List.mem_append.1 k with k | k
        · have q1 := hsrt.2.2 p k id (by simp)
          have q2 := op_cl h.inv hN6 (x := p) (by rw [hop]; exact List.mem_append_left _ k)
          rcases k2 with k2 | k2
          · omega
          · omega
        · simp at k; exact hne k
    rcases List.eq_nil_or_concat post with rfl | ⟨post', y, rfl⟩
    · have := List.append_inj' hsp' rfl
      obtain ⟨rfl, hx⟩ := this
      simp only [List.cons.injEq, and_true] at hx
      subst hx
      exact hclosed p hp
    · have e1 : pre ++ x :: (post' ++ [y]) = (pre ++ x :: post') ++ [y] := by simp
      rw [List.concat_eq_append, e1] at hsp'
      obtain ⟨h3, _⟩ := List.append_inj' hsp' rfl
      exact h.inv.top hlt pre x post' h3 p hp
  · show t.op.take s.op.length = s.op ++ []
    rw [htake, List.append_nil]
  · obtain ⟨b, hb⟩ := h.grows.order
    exact ⟨b ++ t.op.drop s.op.length, by show t.order ++ _ = _; rw [hb]; simp [enterW]⟩
  · obtain ⟨b, hb⟩ := h.grows.loops
    have hb' : t.loops = s.loops ++ b := hb
    show ∃ c, (if 1 < (t.op.drop s.op.length).length then t.loops ++ t.op.drop s.op.length else t.loops) = _
    split
    · exact ⟨b ++ t.op.drop s.op.length, by rw [hb', List.append_assoc]⟩
    · exact ⟨b, hb'⟩
  · intro x hx
    exact hmet x (h.grows.met x (hgr.met x hx))
  · have := h.grows.count
    simp only [enterW] at this
    show s.count ≤ t.count
    omega
  · rw [hm, if_pos (by simp)]; simp [CL]
  · left; rw [hm, if_pos (by simp)]
theorem open_vis {s t : WK} {id : Nat} {e : Int} (h0 : Inv E N s) (h1 : 1 ≤ id) (hN : id ≤ N) (hz : mt s id = 0) (h : Mid E N s id (E id) e t) (he : e ≠ ((s.count + 1 : Nat) : Int)) : Vis E N s id e t := by
  have hl : id < s.met.length := by rw [h0.len]; omega
  have hid : mt t id = ((s.count + 1 : Nat) : Int) := by
    rw [h.grows.same id (by simp [enterW]), mt_enter s id id hl, if_pos rfl]
  exact ⟨h.inv, (enter_Grows h0 h1 hN hz).trans h.grows, h.pos, by rw [hid]; omega, .inr (by rw [hid]; exact h.le), h.base⟩
theorem visit_spec (hN6 : N ≤ 1000000) (hE : ∀ x, 1 ≤ x → x ≤ N → ∀ p ∈ E x, 1 ≤ p ∧ p ≤ N) : ∀ (f id : Nat) (s : WK), Inv E N s → 1 ≤ id → id ≤ N → unmet N s < f → Vis E N s id (visitF E f id s).1 (visitF E f id s).2 := by
  intro f
  induction f with
  | zero => intro id s _ _ _ h; omega
  | succ f ih =>
    intro id s hi h1 hN hf
    by_cases hz : mt s id = 0
    · have hu := unmet_lt N (enter_grows hi h1 hN hz).1 id h1 hN hz (by rw [mt_enter s id id (by rw [hi.len]; omega), if_pos rfl]; omega)
      have hm0 : Mid E N s id [] ((s.count + 1 : Nat) : Int) (enterW s id) := ⟨enter_inv hi h1 hN hz, Grows.refl _, by omega, Int.le_refl _, (fun p hp => by cases hp), fun b _ hc => by omega⟩
      have key : ∀ (ps dn : List Nat) (e : Int) (t : WK), (∀ p ∈ ps, 1 ≤ p ∧ p ≤ N) → Mid E N s id dn e t →
          Mid E N s id (dn ++ ps) (ps.foldl (fun (es : Int × WK) p => (min es.1 (visitF E f p es.2).1, noteW (visitF E f p es.2).2 id p)) (e, t)).1 (ps.foldl (fun (es : Int × WK) p => (min es.1 (visitF E f p es.2).1, noteW (visitF E f p es.2).2 id p)) (e, t)).2 := by
        intro ps
        induction ps with
        | nil => intro dn e t _ h; simpa using h
        | cons p ps ihp =>
          intro dn e t hp h
          have hv := ih p t h.inv (hp p (by simp)).1 (hp p (by simp)).2 (by have := unmet_le N h.grows.met; omega)
          have hs := mid_step hi h1 hN hz h hv
          have := ihp (dn ++ [p]) _ _ (fun x hx => hp x (by simp [hx])) hs
          simpa using this
      have hfin := key (E id) [] _ _ (hE id h1 hN) hm0
      rw [List.nil_append] at hfin
      unfold visitF
      rw [if_neg (by simp [hz])]
      simp only
      split
      · rename_i he
        exact close_vis hN6 hi h1 hN hz hfin he
      · rename_i he
        exact open_vis hi h1 hN hz hfin he
    · unfold visitF
      rw [if_pos hz]
      refine ⟨hi, Grows.refl s, ?_, hz, .inr (Int.le_refl _), fun b hb hc => ?_⟩
      · rcases hi.all id hz with k | k
        · show 1 ≤ mt s id; rw [hi.ord id k]; simp [CL]
        · have := (hi.opn id k).1; show 1 ≤ mt s id; omega
      · show b ≤ mt s id
        rcases hi.all id hz with k | k
        · rw [hi.ord id k]
          have := hi.count_le
          unfold CL
          omega
        · exact hb id k
end
end Go.Proofs.YthilkgfbaddjpaaDoor
