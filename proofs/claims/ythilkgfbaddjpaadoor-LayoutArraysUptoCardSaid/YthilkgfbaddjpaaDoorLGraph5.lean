/-
  Layer 7, plainly: where the loop over the parts stands.
-/
import Derived.Test.YthilkgfbaddjpaaDoorLGraph4
namespace Go.Proofs.YthilkgfbaddjpaaDoor
set_option linter.unusedVariables false
set_option linter.unusedSimpArgs false
section
variable {E : Nat → List Nat} {N : Nat}
structure VL (E : Nat → List Nat) (N f id : Nat) (s : WK) (k : Nat) (e : Int) (t : WK) : Prop where
  le : k ≤ (E id).length
  mid : Mid E N s id ((E id).take k) e t
  fold : foldV E f id s = ((E id).drop k).foldl (stepF E f id) (e, t)
  tot : tot t
  pot : pot E N t + ((E id).length - k) ≤ pot E N s
theorem VL.start {f id : Nat} {s : WK} (hi : Inv E N s) (h1 : 1 ≤ id) (hN : id ≤ N) (hz : mt s id = 0) (ht : Go.Proofs.YthilkgfbaddjpaaDoor.tot s) : VL E N f id s 0 ((s.count + 1 : Nat) : Int) (enterW s id) :=
  ⟨Nat.zero_le _, ⟨enter_inv hi h1 hN hz, Grows.refl _, by omega, Int.le_refl _, (fun p hp => by cases hp), fun b _ hc => by omega⟩, rfl, tot_enter ht, by have := pot_enter hi h1 hN hz; omega⟩
theorem VL.needs {f id k p : Nat} {s t : WK} {e : Int} (hE : ∀ x, 1 ≤ x → x ≤ N → ∀ p ∈ E x, 1 ≤ p ∧ p ≤ N) (hi : Inv E N s) (h1 : 1 ≤ id) (hN : id ≤ N) (hz : mt s id = 0) (hf : unmet N s < f + 1) (hp : (E id)[k]? = some p) (h : VL E N f id s k e t) :
    1 ≤ p ∧ p ≤ N ∧ unmet N t < f ∧ Go.Proofs.YthilkgfbaddjpaaDoor.pot E N t ≤ Go.Proofs.YthilkgfbaddjpaaDoor.pot E N s := by
  have hu := unmet_lt N (enter_grows hi h1 hN hz).1 id h1 hN hz (by rw [mt_enter s id id (by rw [hi.len]; omega), if_pos rfl]; omega)
  have hq := hE id h1 hN p (List.mem_of_getElem? hp)
  have := unmet_le N h.mid.grows.met
  have := h.pot
  exact ⟨hq.1, hq.2, by omega, by omega⟩
theorem VL.step {f id k p : Nat} {s t : WK} {e : Int} (hN6 : N ≤ 1000000) (hE : ∀ x, 1 ≤ x → x ≤ N → ∀ p ∈ E x, 1 ≤ p ∧ p ≤ N) (hi : Inv E N s) (h1 : 1 ≤ id) (hN : id ≤ N) (hz : mt s id = 0) (hf : unmet N s < f + 1) (hp : (E id)[k]? = some p) (h : VL E N f id s k e t) :
    VL E N f id s (k + 1) (min e (visitF E f p t).1) (noteW (visitF E f p t).2 id p) := by
  obtain ⟨p1, p2, p3, p4⟩ := h.needs hE hi h1 hN hz hf hp
  have hlt : k < (E id).length := (List.getElem?_eq_some_iff.1 hp).1
  have hv := visit_spec hN6 hE f p t h.mid.inv p1 p2 p3
  have ht : (E id).take (k + 1) = (E id).take k ++ [p] := by rw [List.take_add_one, hp]; rfl
  refine ⟨hlt, ?_, ?_, tot_note (tot_visit E f p t h.tot), ?_⟩
  · rw [ht]
    exact mid_step hi h1 hN hz h.mid hv
  · rw [h.fold, List.drop_eq_getElem_cons hlt]
    have e1 : (E id)[k] = p := by have := List.getElem?_eq_getElem hlt; rw [hp] at this; exact (Option.some.inj this).symm
    rw [e1]
    rfl
  · have a1 := pot_visit hN6 hE f p t h.mid.inv p1 p2 p3
    have a2 : Go.Proofs.YthilkgfbaddjpaaDoor.pot E N (noteW (visitF E f p t).2 id p) ≤ _ := pot_note
    have := h.pot
    omega
theorem VL.done {f id : Nat} {s t : WK} {e : Int} (h : VL E N f id s (E id).length e t) (hz : mt s id = 0) : visitF E (f + 1) id s = if e = ((s.count + 1 : Nat) : Int) then (e, closeW s.op.length t) else (e, t) := by
  have hf := h.fold
  rw [List.drop_length] at hf
  rw [visit_new hz, hf]
  rfl
theorem loops_pot (t : WK) : t.loops.length + t.op.length ≤ Go.Proofs.YthilkgfbaddjpaaDoor.pot E N t := by unfold Go.Proofs.YthilkgfbaddjpaaDoor.pot; omega
/-- What closing asks. -/
theorem VL.close {f id k : Nat} {s t : WK} {e : Int} (hi : Inv E N s) (h1 : 1 ≤ id) (hN : id ≤ N) (hz : mt s id = 0) (h : VL E N f id s k e t) :
    s.op.length < t.op.length ∧ (∀ x ∈ t.op.drop s.op.length, x < t.met.length) ∧ t.op.length ≤ N ∧ t.order.length ≤ N ∧ t.met.length = N + 1 := by
  obtain ⟨a, ha⟩ := h.mid.grows.op
  have hc := h.mid.inv.count_le
  have ht := h.tot
  unfold Go.Proofs.YthilkgfbaddjpaaDoor.tot at ht
  refine ⟨by rw [ha]; simp [enterW], fun x hx => ?_, by omega, by omega, h.mid.inv.len⟩
  have := (h.mid.inv.rngo x (List.mem_of_mem_drop hx)).2
  rw [h.mid.inv.len]
  omega
end
end Go.Proofs.YthilkgfbaddjpaaDoor
