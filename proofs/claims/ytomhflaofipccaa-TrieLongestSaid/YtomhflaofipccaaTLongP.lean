/-
  What the law TrieLongest asks, plainly.
-/
import Derived.Test.YtomhflaofipccaaP29
namespace Go.Proofs.Ytomhflaofipccaa
open Go Go.RowKit Go.Maps
set_option linter.unusedVariables false
set_option linter.unusedSimpArgs false
/-- Behind i rounds: the table, and the longest of all prefixes that K begins with. -/
structure LG (p : HPar) (K : ByteArray) (s : HSt) (i : Nat) (best : Int) : Prop where
  ok : HOk p s
  made : s.m.made ≤ i
  len : s.es.length ≤ i
  fail : s.m.fail = 0
  gone : s.gone = false
  val : ∀ e, e ∈ s.es → s.m.vs e.n = some (3, wb (lenB e.key) 1, false)
  lo : -1 ≤ best
  hi : best ≤ 32
  no : best < 0 → ∀ e, e ∈ s.es → ¬ Match e K 32
  yes : 0 ≤ best → (∃ e, e ∈ s.es ∧ Match e K 32 ∧ (lenB e.key : Int) = best) ∧ ∀ e, e ∈ s.es → Match e K 32 → (lenB e.key : Int) ≤ best
def bestS (best : Int) (n : Nat) (ok : Bool) : Int := if ok = true then max best (n : Int) else best
theorem best_step {es es' : List Ent} {K F : ByteArray} {n : Nat} {best : Int} {ok : Bool} (hn : lenB F = n) (hn2 : n ≤ 32) (hok : ok = true ↔ Agree F K n) (h1 : ∀ x, x ∈ es' → x ∈ es ∨ x.key = F) (h2 : ∀ x, x ∈ es → x ∈ es') (h3 : ∃ e, e ∈ es' ∧ e.key = F) (hlo : -1 ≤ best)
    (no : best < 0 → ∀ e, e ∈ es → ¬ Match e K 32) (yes : 0 ≤ best → (∃ e, e ∈ es ∧ Match e K 32 ∧ (lenB e.key : Int) = best) ∧ ∀ e, e ∈ es → Match e K 32 → (lenB e.key : Int) ≤ best) :
    (bestS best n ok < 0 → ∀ e, e ∈ es' → ¬ Match e K 32) ∧ (0 ≤ bestS best n ok → (∃ e, e ∈ es' ∧ Match e K 32 ∧ (lenB e.key : Int) = bestS best n ok) ∧ ∀ e, e ∈ es' → Match e K 32 → (lenB e.key : Int) ≤ bestS best n ok) := by
  have hm : ∀ x : Ent, x.key = F → (Match x K 32 ↔ ok = true) := fun x hx => by
    unfold Match
    rw [hx, hn, hok]
    exact ⟨fun h => h.2, fun h => ⟨hn2, h⟩⟩
  obtain ⟨e0, he0, hk0⟩ := h3
  cases ok with
  | false =>
    have eb : bestS best n false = best := rfl
    rw [eb]
    have nm : ∀ x : Ent, x.key = F → ¬ Match x K 32 := fun x hx h => by have := (hm x hx).1 h; cases this
    refine ⟨fun hb x hx => ?_, fun hb => ⟨?_, fun x hx hmx => ?_⟩⟩
    · rcases h1 x hx with h | h
      · exact no hb x h
      · exact nm x h
    · obtain ⟨e, he, h⟩ := (yes hb).1
      exact ⟨e, h2 e he, h⟩
    · rcases h1 x hx with h | h
      · exact (yes hb).2 x h hmx
      · exact absurd hmx (nm x h)
  | true =>
    have eb : bestS best n true = max best (n : Int) := rfl
    rw [eb]
    refine ⟨fun hb => by omega, fun _ => ⟨?_, fun x hx hmx => ?_⟩⟩
    · by_cases hbn : best ≤ (n : Int)
      · exact ⟨e0, he0, (hm e0 hk0).2 rfl, by rw [hk0, hn]; omega⟩
      · obtain ⟨e, he, h, hl⟩ := (yes (by omega)).1
        exact ⟨e, h2 e he, h, by omega⟩
    · rcases h1 x hx with h | h
      · by_cases hb : 0 ≤ best
        · have := (yes hb).2 x h hmx; omega
        · exact absurd hmx (no (by omega) x h)
      · rw [h, hn]; omega
theorem setAt_wb (m n : Nat) : setAt (wb m 1) 0 (wb n 1) = wb n 1 := by
  unfold setAt
  rw [wb_length, List.take_zero, List.drop_eq_nil_of_le (by rw [wb_length]; exact Nat.le_refl _)]
  simp
theorem long_step {p : HPar} {K : ByteArray} {s : HSt} {i : Nat} {best : Int} {ok : Bool} (h : LG p K s i best) (pk : p.key = 8) (pv : p.v = 1) (pm : p.mx = 60) (hi : i < 60) (n : Nat) (hn : n ≤ 32) (str : ByteArray) (hs : str.size = 4) (hok : ok = true ↔ Agree (keyV n str) K n) :
    updA p s (keyV n str) (bstr (wb n 1)) 0 = 0 ∧ LG p K (updS p s (keyV n str) (bstr (wb n 1)) 0) (i + 1) (bestS best n ok) := by
  have lS : lenB (keyV n str) = n := keyV_len n str (by omega)
  have zS : (keyV n str).size = 8 := by rw [keyV_size, hs]
  have iS : IsKey p.key (keyV n str) := ⟨by rw [zS, pk], by rw [lS, pk]; omega⟩
  have hp := iS.pre (by omega) (by omega)
  have lF : lenB (formB (keyV n str)) = n := by rw [hp.len, lS]
  have hok' : ok = true ↔ Agree (formB (keyV n str)) K n := by
    have hag : Agree (formB (keyV n str)) (keyV n str) n := by unfold formB; rw [lS]; exact cut_agree _ n (by rw [zS]; omega)
    rw [hok]
    exact ⟨fun h => hag.trans h, fun h => hag.symm.trans h⟩
  have may : May p s (keyV n str) (bstr (wb n 1)) 0 := ⟨iS, by rw [pv, bstr_size, wb_length], by omega, h.gone⟩
  have eb : (bstr (wb n 1)).data.toList = wb n 1 := by unfold bstr; simp
  have hg := upd_goes h.ok (keyV n str) (bstr (wb n 1)) 0
  rcases hf : findE s.es (formB (keyV n str)) with _ | j
  · obtain ⟨a1, b1⟩ := upd_new may hf (by rw [pm]; have := h.len; omega) (by rw [h.fail]; decide)
    rw [eb] at b1
    rw [b1] at hg
    have es' : (s.insert p (formB (keyV n str)) (wb n 1)).es = s.es ++ [⟨formB (keyV n str), s.m.made + 1⟩] := rfl
    have vs' : (s.insert p (formB (keyV n str)) (wb n 1)).m.vs = updv (updv s.m.vs (s.m.made + 1) (some (3, List.replicate p.v 0, false))) (s.m.made + 1) (some (3, setAt (List.replicate p.v 0) 0 (wb n 1), false)) := rfl
    refine ⟨a1, ?_⟩
    rw [b1]
    have hb := best_step (es := s.es) (es' := s.es ++ [⟨formB (keyV n str), s.m.made + 1⟩]) lF hn hok' (fun x hx => by
      rcases List.mem_append.1 hx with h1 | h1
      · exact .inl h1
      · rw [List.mem_singleton] at h1; rw [h1]; exact .inr rfl) (fun x hx => List.mem_append_left _ hx) ⟨_, List.mem_append_right _ (List.mem_singleton.2 rfl), rfl⟩ h.lo h.no h.yes
    refine ⟨hg.ok, ?_, ?_, ?_, h.gone, fun e he => ?_, ?_, ?_, hb.1, hb.2⟩
    · show s.m.made + 1 ≤ i + 1; have := h.made; omega
    · rw [es', List.length_append]; have := h.len; simp; omega
    · show s.m.fail - 1 = 0; rw [h.fail]
    · rw [es'] at he
      rw [vs']
      rcases List.mem_append.1 he with h1 | h1
      · have := (h.ok.of_mem h1).1
        rw [updv_other _ _ (by omega), updv_other _ _ (by omega)]
        exact h.val e h1
      · rw [List.mem_singleton] at h1
        subst h1
        rw [updv_same]
        show some (3, setAt (List.replicate p.v 0) 0 (wb n 1), false) = some (3, wb (lenB (formB (keyV n str))) 1, false)
        rw [lF, pv]
        have : setAt (List.replicate 1 (0 : UInt8)) 0 (wb n 1) = wb n 1 := by unfold setAt; simp [wb_length]
        rw [this]
    · unfold bestS; have := h.lo; split <;> omega
    · unfold bestS; have := h.hi; split <;> omega
  · obtain ⟨a1, b1⟩ := upd_old may hf
    rw [if_neg (by decide)] at a1 b1
    rw [eb] at b1
    obtain ⟨e, he, hek⟩ := found hf
    have hem := List.mem_of_getElem? he
    have hv := h.val e hem
    rw [hek, lF] at hv
    rw [putAt_eq he hv] at b1
    rw [b1] at hg
    refine ⟨a1, ?_⟩
    rw [b1]
    have hb := best_step (es := s.es) (es' := s.es) lF hn hok' (fun x hx => .inl hx) (fun x hx => hx) ⟨e, hem, hek⟩ h.lo h.no h.yes
    refine ⟨hg.ok, ?_, ?_, h.fail, h.gone, fun x hx => ?_, ?_, ?_, hb.1, hb.2⟩
    · show s.m.made ≤ i + 1; have := h.made; omega
    · show s.es.length ≤ i + 1; have := h.len; omega
    · show updv s.m.vs e.n (some (3, setAt (wb n 1) 0 (wb n 1), false)) x.n = _
      rw [setAt_wb]
      by_cases hxn : x.n = e.n
      · rw [hxn, updv_same, ← hv, ← hxn]
        exact h.val x hx
      · rw [updv_other _ _ hxn]
        exact h.val x hx
    · unfold bestS; have := h.lo; split <;> omega
    · unfold bestS; have := h.hi; split <;> omega
theorem LG.mono {p : HPar} {K : ByteArray} {s : HSt} {i : Nat} {best : Int} (h : LG p K s i best) : LG p K s (i + 1) best := ⟨h.ok, Nat.le_succ_of_le h.made, Nat.le_succ_of_le h.len, h.fail, h.gone, h.val, h.lo, h.hi, h.no, h.yes⟩
/-- What Lookup answers for a whole address. -/
theorem long_end {p : HPar} {K : ByteArray} {s : HSt} {i : Nat} {best : Int} (h : LG p K s i best) (hk : IsKey p.key K) (h32 : lenB K = 32) :
    (best < 0 → lookA p s K = 0) ∧ (0 ≤ best → ∃ e, e ∈ s.es ∧ lookA p s K = addr e.n 0 ∧ s.m.vs e.n = some (3, wb best.toNat 1, false) ∧ 1 ≤ e.n ∧ e.n ≤ i) := by
  unfold lookA
  rw [if_pos hk]
  constructor
  · intro hb
    rcases hl : longTo s.es K s.es.length with _ | e
    · rfl
    · have := look_some hl
      rw [h32] at this
      exact absurd this.2.1 (h.no hb e this.1)
  · intro hb
    obtain ⟨⟨e1, he1, hm1, hl1⟩, hmax⟩ := h.yes hb
    rcases hl : longTo s.es K s.es.length with _ | e
    · have := look_none hl e1 he1
      rw [h32] at this
      exact absurd hm1 this
    · have hL := look_some hl
      rw [h32] at hL
      have h1 := hL.2.2 e1 he1 hm1
      have h2 := hmax e hL.1 hL.2.1
      have hn := (h.ok.of_mem hL.1).1
      have hmd := h.made
      refine ⟨e, hL.1, rfl, ?_, hn.1, by omega⟩
      rw [h.val e hL.1, show lenB e.key = best.toNat by omega]
end Go.Proofs.Ytomhflaofipccaa
