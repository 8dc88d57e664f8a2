/-
  Tables, plainly: what is found, which was used last, what an Update leaves of it.
-/
import Derived.Test.YtmopflcaeecgcaaP16
namespace Go.Proofs.Ytmopflcaeecgcaa
open Go Go.RowKit Go.Maps
set_option linter.unusedVariables false
set_option linter.unusedSimpArgs false
def Has (s : HSt) (key : ByteArray) : Prop := ∃ e, e ∈ s.es ∧ e.key = key
def Top (s : HSt) (key : ByteArray) : Prop := ∃ e, e ∈ s.es ∧ e.key = key ∧ ∀ e', e' ∈ s.es → e'.used ≤ e.used
theorem Top.has {s : HSt} {key : ByteArray} (h : Top s key) : Has s key := by obtain ⟨e, h1, h2, _⟩ := h; exact ⟨e, h1, h2⟩
section
variable {p : HPar} {s : HSt} {key : ByteArray}
theorem Has.find (h : Has s key) : ∃ i e, findE s.es key = some i ∧ s.es[i]? = some e := by
  rcases hf : findE s.es key with _ | i
  · obtain ⟨e, he, hk⟩ := h
    exact absurd hk (find_all hf e he)
  · obtain ⟨e, he⟩ := found hf
    exact ⟨i, e, rfl, he⟩
theorem setUsed_has {es : List Ent} {i u : Nat} {e : Ent} (he : e ∈ es) : ∃ e', e' ∈ setUsed es i u ∧ e'.key = e.key := by
  obtain ⟨j, hj, rfl⟩ := List.getElem_of_mem he
  have hj' : j < (setUsed es i u).length := by rw [setUsed_length]; exact hj
  obtain ⟨e', he', hh⟩ := setUsed_at (List.getElem?_eq_getElem hj')
  rw [List.getElem?_eq_getElem hj] at he'
  cases he'
  refine ⟨_, List.getElem_mem hj', ?_⟩
  rcases hh with ⟨_, e1⟩ | ⟨_, e1⟩ <;> rw [e1]
theorem setUsed_top {es : List Ent} {i u : Nat} {e : Ent} (he : es[i]? = some e) (hu : ∀ x, x ∈ es → x.used ≤ u) : ∃ e', e' ∈ setUsed es i u ∧ e'.key = e.key ∧ ∀ x, x ∈ setUsed es i u → x.used ≤ e'.used := by
  refine ⟨{ e with used := u }, List.mem_of_getElem? (setUsed_get he), rfl, fun x hx => ?_⟩
  obtain ⟨j, hj, rfl⟩ := List.getElem_of_mem hx
  obtain ⟨e', he', hh⟩ := setUsed_at (List.getElem?_eq_getElem hj)
  rcases hh with ⟨_, e1⟩ | ⟨_, e1⟩ <;> rw [e1]
  · exact Nat.le_refl _
  · exact hu e' (List.mem_of_getElem? he')
theorem HOk.used_le (h : HOk p s) {e : Ent} (he : e ∈ s.es) : e.used ≤ s.clock + 1 := by have := (h.of_mem he).2.2.1.2; omega
theorem look_has (h : HOk p s) (hh : Has s key) : lookA s key ≠ 0 ∧ Top (lookS s key) key ∧ (∀ k, Has s k → Has (lookS s key) k) ∧ (lookS s key).clock = s.clock + 1 ∧ (lookS s key).m = s.m ∧ (lookS s key).gone = s.gone ∧ (lookS s key).es.length = s.es.length ∧ HOk p (lookS s key) := by
  obtain ⟨i, e, hf, he⟩ := hh.find
  obtain ⟨a, b, c, d, g⟩ := look_at hf he
  have hn := (h.ent i e he).1
  refine ⟨by rw [a]; unfold addr; omega, ?_, ?_, c, d, g, by rw [b, setUsed_length], (look_goes h key).ok⟩
  · have := setUsed_top (u := s.clock + 1) he (fun x hx => h.used_le hx)
    rw [find_eq hf he] at this
    unfold Top
    rw [b]; exact this
  · rintro k ⟨x, hx, rfl⟩
    obtain ⟨e', h1, h2⟩ := setUsed_has (i := i) (u := s.clock + 1) hx
    unfold Has
    rw [b]; exact ⟨e', h1, h2⟩
/-- What an Update that must go well leaves. -/
structure UpdOk (p : HPar) (s s' : HSt) (key : ByteArray) : Prop where
  ok : HOk p s'
  top : Top s' key
  gone : s'.gone = false
  fail : s'.m.fail = 0
  clock : s'.clock = s.clock + 1
  made : s'.m.made ≤ s.m.made + 1
  keeps : ∀ last, Top s last → 1 < p.mx → Has s' last
theorem upd_lru (h : HOk p s) (hk9 : p.k = 9) (hg : s.gone = false) (hf : s.m.fail = 0) (value : ByteArray) (hk : key.size = p.key) (hv : value.size = p.v) : updA p s key value 0 = 0 ∧ UpdOk p s (updS p s key value 0) key := by
  have hG := upd_goes h key value 0
  have hb : ¬ updBad p s key value 0 := by
    rintro (h1 | h1 | h1 | h1 | h1)
    · rw [hg] at h1; cases h1
    · exact h1 hk
    · exact h1 hv
    · exact absurd h1 (by decide)
    · exact absurd h1 (by decide)
  rcases hfe : findE s.es key with _ | i
  · by_cases hn : s.es.length = p.mx
    · obtain ⟨a, b, c, d, e, g⟩ := upd_forget (p := p) (s := s) (key := key) (value := value) ⟨hk, hv, hg, hfe⟩ h hn (by rw [hk9]; decide) (by rw [hf]; decide)
      refine ⟨a, hG.ok, ⟨⟨key, s.m.made + 1, s.clock + 1⟩, by rw [b]; simp, rfl, fun x hx => ?_⟩, g, by rw [e, hf], c, by rw [d]; exact Nat.le_refl _, fun last hl hm => ?_⟩
      · rw [b] at hx
        rcases List.mem_append.1 hx with h1 | h1
        · exact h.used_le (List.mem_of_mem_eraseIdx h1)
        · simp at h1; rw [h1]; exact Nat.le_refl _
      · obtain ⟨x, hx, rfl, hmax⟩ := hl
        obtain ⟨j, hj, rfl⟩ := List.getElem_of_mem hx
        have hlt := oldTo_lt s.es s.es.length (by omega)
        refine ⟨s.es[j], ?_, rfl⟩
        rw [b]
        refine List.mem_append.2 (.inl ?_)
        rw [List.mem_eraseIdx_iff_getElem?]
        refine ⟨j, fun e => ?_, List.getElem?_eq_getElem hj⟩
        subst e
        obtain ⟨i0, hi0, hne⟩ : ∃ i0, i0 < s.es.length ∧ i0 ≠ oldTo s.es s.es.length := by
          by_cases hz : oldTo s.es s.es.length = 0
          · exact ⟨1, by omega, by omega⟩
          · exact ⟨0, by omega, by omega⟩
        have h1 := oldTo_min s.es s.es.length (by omega) (Nat.le_refl _) i0 hi0
        unfold usedAt at h1
        rw [List.getElem?_eq_getElem hlt, List.getElem?_eq_getElem hi0] at h1
        have h1 : s.es[oldTo s.es s.es.length].used ≤ s.es[i0].used := h1
        have h2 := hmax _ (List.getElem_mem hi0)
        exact (h.apart i0 _ _ _ (List.getElem?_eq_getElem hi0) (List.getElem?_eq_getElem hlt) hne).2.2 (by omega)
    · obtain ⟨a, b, c, d, e, g⟩ := upd_room (p := p) (s := s) (key := key) (value := value) ⟨hk, hv, hg, hfe⟩ hn (by rw [hf]; decide)
      refine ⟨a, hG.ok, ⟨⟨key, s.m.made + 1, s.clock + 1⟩, by rw [b]; simp, rfl, fun x hx => ?_⟩, g, by rw [e, hf], c, by rw [d]; exact Nat.le_refl _, fun last hl hm => ?_⟩
      · rw [b] at hx
        rcases List.mem_append.1 hx with h1 | h1
        · exact h.used_le h1
        · simp at h1; rw [h1]; exact Nat.le_refl _
      · obtain ⟨x, hx, rfl, _⟩ := hl
        exact ⟨x, by rw [b]; exact List.mem_append.2 (.inl hx), rfl⟩
  · obtain ⟨e, he⟩ := found hfe
    obtain ⟨_, _, _, b, hq, _⟩ := h.ent i e he
    have eS : updS p s key value 0 = (s.put e (3, b, false) value.data.toList).use i := by
      unfold updS
      rw [if_neg hb, hfe]
      show (if (0 : Int) = 1 then s else (s.putAt i value.data.toList).use i) = _
      rw [if_neg (by decide), putAt_eq he hq]
    have eA : updA p s key value 0 = 0 := by
      unfold updA
      rw [if_neg hb, hfe]
      show (if (0 : Int) = 1 then (5 : Int) else 0) = 0
      rw [if_neg (by decide)]
    rw [eS] at hG ⊢
    refine ⟨eA, hG.ok, ?_, hg, hf, rfl, Nat.le_succ _, ?_⟩
    · have := setUsed_top (u := s.clock + 1) he (fun x hx => h.used_le hx)
      rw [find_eq hfe he] at this
      exact this
    · rintro last ⟨x, hx, rfl, _⟩ _
      exact setUsed_has hx
theorem upd_badS {value : ByteArray} {fl : Int} (hb : updBad p s key value fl) : updS p s key value fl = s ∧ updA p s key value fl = 1 := ⟨by unfold updS; rw [if_pos hb], by unfold updA; rw [if_pos hb]⟩
end
end Go.Proofs.Ytmopflcaeecgcaa
