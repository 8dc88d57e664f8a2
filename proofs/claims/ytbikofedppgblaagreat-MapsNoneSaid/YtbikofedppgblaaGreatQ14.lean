/-
  A table, deed by deed: the one answer, the plain state behind it; the reference gives it. One deed on both tables: the same answer, and both hold the same afterwards. The program's side is any that answers as the plain state says.
-/
import Derived.Test.YtbikofedppgblaaGreatQ13
namespace Go.Proofs.YtbikofedppgblaaGreat
open Go Go.RowKit Go.Maps
set_option linter.unusedVariables false
set_option linter.unusedSimpArgs false
def HSt.rem (s : HSt) (i : Nat) : HSt := (s.es[i]?).elim s fun e => (s.m.vs e.n).elim s fun q => s.cut i e q
def HSt.putAt (s : HSt) (i : Nat) (l : List UInt8) : HSt := (s.es[i]?).elim s fun e => (s.m.vs e.n).elim s fun q => s.put e q l
def lookA (s : HSt) (key : ByteArray) : Int := (findE s.es key).elim 0 fun i => (s.es[i]?).elim 0 fun e => addr e.n 0
def lookS (s : HSt) (key : ByteArray) : HSt := (findE s.es key).elim s fun i => s.use i
def delBad (p : HPar) (s : HSt) (key : ByteArray) : Prop := s.gone = true ∨ key.size ≠ p.key
instance (p : HPar) (s : HSt) (key : ByteArray) : Decidable (delBad p s key) := by unfold delBad; infer_instance
def delA (p : HPar) (s : HSt) (key : ByteArray) : Int := if delBad p s key then 1 else (findE s.es key).elim 4 fun _ => 0
def delS (p : HPar) (s : HSt) (key : ByteArray) : HSt := if delBad p s key then s else (findE s.es key).elim s fun i => s.rem i
def updBad (p : HPar) (s : HSt) (key value : ByteArray) (fl : Int) : Prop := s.gone = true ∨ key.size ≠ p.key ∨ value.size ≠ p.v ∨ fl < 0 ∨ 2 < fl
instance (p : HPar) (s : HSt) (key value : ByteArray) (fl : Int) : Decidable (updBad p s key value fl) := by unfold updBad; infer_instance
/-- Room is made, if there is none, and a new entry comes. -/
def HSt.insert (p : HPar) (s : HSt) (key : ByteArray) (l : List UInt8) : HSt :=
  if s.es.length = p.mx then (((s.alloc p.v).rem (oldTo s.es s.es.length)).fresh (s.m.made + 1) key l p.v).use (s.es.length - 1)
  else ((s.alloc p.v).fresh (s.m.made + 1) key l p.v).use s.es.length
def updA (p : HPar) (s : HSt) (key value : ByteArray) (fl : Int) : Int :=
  if updBad p s key value fl then 1 else (findE s.es key).elim (if fl = 2 then 4 else if s.es.length = p.mx ∧ p.k = 1 then 3 else if s.m.fail = 1 then 2 else 0) fun _ => if fl = 1 then 5 else 0
def updS (p : HPar) (s : HSt) (key value : ByteArray) (fl : Int) : HSt :=
  if updBad p s key value fl then s else (findE s.es key).elim (if fl = 2 then s else if s.es.length = p.mx ∧ p.k = 1 then s else if s.m.fail = 1 then { s with m := { s.m with fail := 0 } } else s.insert p key value.data.toList)
    fun i => if fl = 1 then s else (s.putAt i value.data.toList).use i
def nextE (p : HPar) (s : HSt) (key : ByteArray) : Ending := nextA (nextTo p.key s.es key s.es.length)
def freeS (s : HSt) : HSt := if s.gone = true then s else { s with m := freeTo s.m s.es s.es.length, es := [], gone := true }
def freeA (s : HSt) : Int := if s.gone = true then 1 else 0
/-- What holds goes on holding; numbers grow by one at most. -/
structure Goes (p : HPar) (s s' : HSt) : Prop where
  ok : HOk p s'
  clock : s'.clock ≤ s.clock + 1
  made : s'.m.made ≤ s.m.made + 1
section
variable {p : HPar} {s s' : HSt} {f : FuncId} {args : Array Value} {e0 : Ending}
theorem bstr_data (s : ByteArray) : s = bstr s.data.toList := by unfold bstr; simp
theorem HOk.le (h : HOk p s) : s.es.length ≤ 4096 := Nat.le_trans h.len h.par.m2
theorem found {es : List Ent} {key : ByteArray} {i : Nat} (hf : findE es key = some i) : ∃ e, es[i]? = some e := ⟨_, List.getElem?_eq_getElem (find_lt hf)⟩
theorem rem_eq {i : Nat} {e : Ent} {q : RV} (he : s.es[i]? = some e) (hq : s.m.vs e.n = some q) : s.rem i = s.cut i e q := by unfold HSt.rem; rw [he]; show (s.m.vs e.n).elim s _ = _; rw [hq]; rfl
theorem putAt_eq {i : Nat} {l : List UInt8} {e : Ent} {q : RV} (he : s.es[i]? = some e) (hq : s.m.vs e.n = some q) : s.putAt i l = s.put e q l := by unfold HSt.putAt; rw [he]; show (s.m.vs e.n).elim s _ = _; rw [hq]; rfl
theorem look_goes (h : HOk p s) (key : ByteArray) : Goes p s (lookS s key) := by
  unfold lookS
  rcases findE s.es key with _ | i
  · exact ⟨h, Nat.le_succ _, Nat.le_succ _⟩
  · exact ⟨h.use i, Nat.le_refl _, Nat.le_succ _⟩
theorem del_goes (h : HOk p s) (key : ByteArray) : Goes p s (delS p s key) := by
  have h0 : Goes p s s := ⟨h, Nat.le_succ _, Nat.le_succ _⟩
  unfold delS
  split
  · exact h0
  · rcases hf : findE s.es key with _ | i
    · exact h0
    · obtain ⟨e, he⟩ := found hf
      obtain ⟨_, _, _, b, hq, _⟩ := h.ent i e he
      show Goes p s (s.rem i)
      rw [rem_eq he hq]
      exact ⟨h.cut he _, Nat.le_succ _, Nat.le_succ _⟩
theorem free_goes (h : HOk p s) : Goes p s (freeS s) := by
  unfold freeS
  split
  · exact ⟨h, Nat.le_succ _, Nat.le_succ _⟩
  · exact ⟨h.freed _, Nat.le_succ _, by show (freeTo _ _ _).made ≤ _; rw [(freeTo_made _ _ _).1]; exact Nat.le_succ _⟩
/-- The three ways of an insert. -/
theorem insert_facts (h : HOk p s) (hn : s.es.length = p.mx) : ∃ eo bo, s.es[oldTo s.es s.es.length]? = some eo ∧ (s.alloc p.v).m.vs eo.n = some (3, bo, false) ∧ ((s.alloc p.v).cut (oldTo s.es s.es.length) eo (3, bo, false)).m.vs (s.m.made + 1) = some (3, List.replicate p.v 0, false) := by
  have hlt := oldTo_lt s.es s.es.length (by have := h.par.m1; omega)
  obtain ⟨eo, heo⟩ : ∃ e, s.es[oldTo s.es s.es.length]? = some e := ⟨_, List.getElem?_eq_getElem hlt⟩
  obtain ⟨h1, _, _, bo, hq, _⟩ := h.ent _ eo heo
  have hne : eo.n ≠ s.m.made + 1 := by omega
  refine ⟨eo, bo, heo, (updv_other _ _ hne).trans hq, ?_⟩
  exact (updv_other _ _ (fun e => hne e.symm)).trans (grown_new s.m p.v)
theorem insert_lru (h : HOk p s) (hn : s.es.length = p.mx) (key : ByteArray) (l : List UInt8) {eo : Ent} {bo : List UInt8} (heo : s.es[oldTo s.es s.es.length]? = some eo) (hqo : (s.alloc p.v).m.vs eo.n = some (3, bo, false)) :
    s.insert p key l = (((s.alloc p.v).cut (oldTo s.es s.es.length) eo (3, bo, false)).fresh (s.m.made + 1) key l p.v).use (s.es.length - 1) := by
  unfold HSt.insert
  rw [if_pos hn, rem_eq (s := s.alloc p.v) heo hqo]
theorem insert_goes (h : HOk p s) (hg : s.gone = false) (key : ByteArray) (l : List UInt8) (hk : key.size = p.key) (hl : l.length = p.v) (hf : findE s.es key = none) : Goes p s (s.insert p key l) := by
  have hnew : ∀ (i : Nat) (e : Ent), s.es[i]? = some e → e.n ≠ s.m.made + 1 := fun i e he => by have := (h.ent i e he).1; omega
  have hkey : ∀ (i : Nat) (e : Ent), s.es[i]? = some e → keyB e.key key = false := fun i e he => findE_none_key hf he
  by_cases hn : s.es.length = p.mx
  · obtain ⟨eo, bo, heo, hqo, hB⟩ := insert_facts h hn
    rw [insert_lru h hn key l heo hqo]
    have hlt := (List.getElem?_eq_some_iff.1 heo).1
    have h2 := (h.alloc p.v).cut (i := oldTo s.es s.es.length) heo (3, bo, false)
    have hlen : ((s.alloc p.v).cut (oldTo s.es s.es.length) eo (3, bo, false)).es.length = s.es.length - 1 := by show (s.es.eraseIdx _).length = _; rw [List.length_eraseIdx, if_pos hlt]
    have h3 := h2.fresh hg (by rw [hlen]; omega) (s.m.made + 1) key l hk hl ⟨by omega, Nat.le_refl _⟩ (fun i e he => hnew _ e (erase_at he)) (fun i e he => hkey _ e (erase_at he))
    rw [hlen] at h3
    exact ⟨h3, Nat.le_refl _, Nat.le_refl _⟩
  · have e : s.insert p key l = ((s.alloc p.v).fresh (s.m.made + 1) key l p.v).use s.es.length := by unfold HSt.insert; rw [if_neg hn]
    rw [e]
    have hl2 := h.len
    exact ⟨(h.alloc p.v).fresh hg (by show s.es.length < _; omega) (s.m.made + 1) key l hk hl ⟨by omega, Nat.le_refl _⟩ hnew hkey, Nat.le_refl _, Nat.le_refl _⟩
theorem upd_goes (h : HOk p s) (key value : ByteArray) (fl : Int) : Goes p s (updS p s key value fl) := by
  have h0 : Goes p s s := ⟨h, Nat.le_succ _, Nat.le_succ _⟩
  unfold updS
  by_cases hb : updBad p s key value fl
  · rw [if_pos hb]; exact h0
  · rw [if_neg hb]
    have hg : s.gone = false := by cases hg : s.gone; rfl; exact absurd (.inl hg) hb
    have hk : key.size = p.key := Classical.byContradiction fun hk => hb (.inr (.inl hk))
    have hv : value.size = p.v := Classical.byContradiction fun hk => hb (.inr (.inr (.inl hk)))
    have hvl : value.data.toList.length = p.v := by rw [Array.length_toList]; exact hv
    rcases hf : findE s.es key with _ | i
    · show Goes p s (if fl = 2 then s else _)
      split
      · exact h0
      · split
        · exact h0
        · split
          · exact ⟨h.failing 0, Nat.le_succ _, Nat.le_succ _⟩
          · exact insert_goes h hg key _ hk hvl hf
    · show Goes p s (if fl = 1 then s else _)
      split
      · exact h0
      · obtain ⟨e, he⟩ := found hf
        obtain ⟨_, _, _, b, hq, _⟩ := h.ent i e he
        rw [putAt_eq he hq]
        exact ⟨(h.put he hq (by omega)).use i, Nat.le_refl _, Nat.le_succ _⟩
end
end Go.Proofs.YtbikofedppgblaaGreat
namespace Go.Proofs.YtbikofedppgblaaGreat
open Go Go.RowKit Go.Maps
set_option linter.unusedVariables false
set_option linter.unusedSimpArgs false
set_option linter.unusedSectionVars false
/-- How a table of the program's lies, whose plain state is s, in the blocks of P. -/
abbrev XRel := HPar → HSt → (Nat → Prop) → World → Prop
def FCallH (X : XRel) (p : HPar) (f : FuncId) (args : Array Value) (s s' : HSt) (e0 : Ending) : Prop := ∀ w P, X p s P w → Calls Tryz.prog f args w fun e w' => e = e0 ∧ X p s' (more P w w') w' ∧ Keeps P w w'
section
variable (bx : Nat) (m : PS)
end
def pokeS (s : HSt) (key : ByteArray) (u : Nat) : HSt := (findE s.es key).elim s fun i => (s.es[i]?).elim s fun e => (s.m.vs e.n).elim s fun q => (s.use i).put e q (wb u 1)
def pokeA (s : HSt) (key : ByteArray) : Int := (findE s.es key).elim 20 fun _ => 0
section
end
section
end
end Go.Proofs.YtbikofedppgblaaGreat
