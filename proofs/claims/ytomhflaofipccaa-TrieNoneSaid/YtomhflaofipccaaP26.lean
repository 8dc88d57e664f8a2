/-
  A table of prefixes, plainly: entries in the order of their coming; what each call answers, what is left; what always holds. Package trie: a table as it lies, its memory and its tree, from a world on. Package trie: gone, prefix, Lookup, Len.
-/
import Derived.Test.YtomhflaofipccaaP20
import Derived.Test.YtomhflaofipccaaP21
import Derived.Test.YtomhflaofipccaaP25
namespace Go.Proofs.Ytomhflaofipccaa
open Go Go.RowKit Go.Maps
set_option linter.unusedVariables false
set_option linter.unusedSimpArgs false
def keyB (a b : ByteArray) : Bool := a.toList == b.toList
def findE : List Ent → ByteArray → Option Nat
  | [], _ => none
  | e :: es, k => if keyB e.key k = true then some 0 else (findE es k).map (· + 1)
def findI (es : List Ent) (k : ByteArray) : Int := (findE es k).elim (-1) fun i => (i : Int)
theorem find_lt : ∀ {es : List Ent} {k : ByteArray} {i : Nat}, findE es k = some i → i < es.length
  | [], _, _, h => by cases h
  | e :: es, k, i, h => by
    unfold findE at h
    split at h
    · cases h; simp
    · obtain ⟨j, hj, rfl⟩ := Option.map_eq_some_iff.1 h
      have := find_lt hj
      simp; omega
theorem find_key : ∀ {es : List Ent} {k : ByteArray} {i : Nat} {e : Ent}, findE es k = some i → es[i]? = some e → keyB e.key k = true
  | [], _, _, _, h, _ => by cases h
  | e' :: es, k, i, e, h, he => by
    unfold findE at h
    split at h
    · rename_i hk
      cases h
      simp at he
      rw [← he]; exact hk
    · obtain ⟨j, hj, rfl⟩ := Option.map_eq_some_iff.1 h
      exact find_key hj (by simpa using he)
theorem find_at : ∀ {es : List Ent} {k : ByteArray} {j : Nat} {e : Ent}, findE (es.take j) k = none → es[j]? = some e → keyB e.key k = true → findE es k = some j
  | [], _, _, _, _, h, _ => by simp at h
  | e' :: es, k, 0, e, _, h, hk => by
    simp at h
    subst h
    unfold findE
    rw [if_pos hk]
  | e' :: es, k, j + 1, e, h0, h, hk => by
    rw [List.take_succ_cons] at h0
    unfold findE at h0 ⊢
    split at h0
    · cases h0
    · rename_i hn
      rw [if_neg hn, find_at (Option.map_eq_none_iff.1 h0) (by simpa using h) hk]
      rfl
theorem find_step : ∀ {es : List Ent} {k : ByteArray} {j : Nat} {e : Ent}, findE (es.take j) k = none → es[j]? = some e → keyB e.key k = false → findE (es.take (j + 1)) k = none
  | [], _, _, _, _, h, _ => by simp at h
  | e' :: es, k, 0, e, _, h, hk => by
    simp at h
    subst h
    simp [findE, hk]
  | e' :: es, k, j + 1, e, h0, h, hk => by
    rw [List.take_succ_cons] at h0 ⊢
    unfold findE at h0 ⊢
    split at h0
    · cases h0
    · rename_i hn
      rw [if_neg hn, find_step (Option.map_eq_none_iff.1 h0) (by simpa using h) hk]
      rfl
theorem keyB_iff {a b : ByteArray} : keyB a b = true ↔ a = b := by
  unfold keyB
  rw [beq_iff_eq, Lib.toList_data, Lib.toList_data]
  exact ⟨fun h => ByteArray.ext (Array.toList_inj.1 h), fun h => by rw [h]⟩
theorem keyB_no {a b : ByteArray} : keyB a b = false ↔ a ≠ b := by
  rw [← Bool.not_eq_true, keyB_iff]
/-- The plain state of a table. -/
structure HSt where
  m : PS
  es : List Ent
  gone : Bool
structure HPar where
  bm : Nat
  bx : Nat
  x : Nat
  y : Nat
  k : Int
  key : Nat
  v : Nat
  mx : Nat
structure HPar.Ok (p : HPar) : Prop where
  kind : p.k = 11
  k1 : 5 ≤ p.key
  k2 : p.key ≤ 260
  v1 : 1 ≤ p.v
  v2 : p.v ≤ 4096
  m1 : 1 ≤ p.mx
  m2 : p.mx ≤ 4096
/-- What always holds of a table. -/
structure HOk (p : HPar) (s : HSt) : Prop where
  par : p.Ok
  len : s.es.length ≤ p.mx
  ent : ∀ (i : Nat) (e : Ent), s.es[i]? = some e → (1 ≤ e.n ∧ e.n ≤ s.m.made) ∧ Pre p.key e.key (lenB e.key) ∧ ∃ b, s.m.vs e.n = some (3, b, false) ∧ b.length = p.v
  apart : ∀ (i j : Nat) (a b : Ent), s.es[i]? = some a → s.es[j]? = some b → i ≠ j → a.n ≠ b.n ∧ keyB a.key b.key = false
  gone : s.gone = true → s.es = []
def HSt.put (s : HSt) (e : Ent) (q : RV) (l : List UInt8) : HSt := { s with m := s.m.set e.n (some (q.1, setAt q.2.1 0 l, q.2.2)) }
def HSt.cut (s : HSt) (i : Nat) (e : Ent) (q : RV) : HSt := { s with m := s.m.set e.n (some (q.1, q.2.1, true)), es := s.es.eraseIdx i }
def HSt.alloc (s : HSt) (v : Nat) : HSt := { s with m := s.m.grown v }
/-- A new entry, with the bytes l in its new region n. -/
def HSt.fresh (s : HSt) (n : Nat) (key : ByteArray) (l : List UInt8) (v : Nat) : HSt := { s with m := s.m.set n (some (3, setAt (List.replicate v 0) 0 l, false)), es := s.es ++ [⟨key, n⟩] }
def HSt.rem (s : HSt) (i : Nat) : HSt := (s.es[i]?).elim s fun e => (s.m.vs e.n).elim s fun q => s.cut i e q
def HSt.putAt (s : HSt) (i : Nat) (l : List UInt8) : HSt := (s.es[i]?).elim s fun e => (s.m.vs e.n).elim s fun q => s.put e q l
/-- The longest of the first j that key begins with. -/
def longTo (es : List Ent) (key : ByteArray) : Nat → Option Ent
  | 0 => none
  | j + 1 => (es[j]?).elim (longTo es key j) fun e =>
    if lenB e.key ≤ lenB key ∧ (∀ b, longTo es key j = some b → lenB b.key < lenB e.key) ∧ Agree key e.key (lenB e.key) then some e else longTo es key j
def lookA (p : HPar) (s : HSt) (key : ByteArray) : Int := if IsKey p.key key then (longTo s.es key s.es.length).elim 0 fun e => addr e.n 0 else 0
def delBad (p : HPar) (s : HSt) (key : ByteArray) : Prop := s.gone = true ∨ ¬ IsKey p.key key
instance (p : HPar) (s : HSt) (key : ByteArray) : Decidable (delBad p s key) := by unfold delBad; infer_instance
def delA (p : HPar) (s : HSt) (key : ByteArray) : Int := if delBad p s key then 1 else (findE s.es (formB key)).elim 4 fun _ => 0
def delS (p : HPar) (s : HSt) (key : ByteArray) : HSt := if delBad p s key then s else (findE s.es (formB key)).elim s fun i => s.rem i
def updBad (p : HPar) (s : HSt) (key value : ByteArray) (fl : Int) : Prop := s.gone = true ∨ ¬ IsKey p.key key ∨ value.size ≠ p.v ∨ fl < 0 ∨ 2 < fl
instance (p : HPar) (s : HSt) (key value : ByteArray) (fl : Int) : Decidable (updBad p s key value fl) := by unfold updBad; infer_instance
def HSt.insert (p : HPar) (s : HSt) (form : ByteArray) (l : List UInt8) : HSt := (s.alloc p.v).fresh (s.m.made + 1) form l p.v
def updA (p : HPar) (s : HSt) (key value : ByteArray) (fl : Int) : Int :=
  if updBad p s key value fl then 1 else (findE s.es (formB key)).elim (if fl = 2 then 4 else if s.es.length = p.mx then 3 else if s.m.fail = 1 then 2 else 0) fun _ => if fl = 1 then 5 else 0
def updS (p : HPar) (s : HSt) (key value : ByteArray) (fl : Int) : HSt :=
  if updBad p s key value fl then s else (findE s.es (formB key)).elim (if fl = 2 then s else if s.es.length = p.mx then s else if s.m.fail = 1 then { s with m := { s.m with fail := 0 } } else s.insert p (formB key) value.data.toList)
    fun i => if fl = 1 then s else s.putAt i value.data.toList
def nextP (p : HPar) (key : ByteArray) (k : ByteArray) : Bool := !decide (IsKey p.key key) || gtS k (formB key)
def nextA (o : Option ByteArray) : Ending := .returned (.tuple #[.string (o.getD ⟨#[]⟩), .int .i64 (o.elim 4 fun _ => 0)])
def nextE (p : HPar) (s : HSt) (key : ByteArray) : Ending := nextA (nextTo (nextP p key) s.es s.es.length)
/-- Regions are freed, one behind the other. -/
def freeL (m : PS) : List Nat → PS
  | [] => m
  | n :: r => freeL (m.set n none) r
theorem freeL_app (m : PS) : ∀ (a b : List Nat), freeL m (a ++ b) = freeL (freeL m a) b
  | [], _ => rfl
  | n :: r, b => by show freeL (m.set n none) (r ++ b) = _; rw [freeL_app]; rfl
theorem freeL_made : ∀ (l : List Nat) (m : PS), (freeL m l).made = m.made ∧ (freeL m l).fail = m.fail
  | [], _ => ⟨rfl, rfl⟩
  | n :: r, m => freeL_made r (m.set n none)
theorem freeL_vs : ∀ (l : List Nat) (m : PS) (k : Nat), (freeL m l).vs k = if k ∈ l then none else m.vs k
  | [], m, k => by simp [freeL]
  | n :: r, m, k => by
    show (freeL (m.set n none) r).vs k = _
    rw [freeL_vs r]
    by_cases hk : k = n
    · subst hk
      rw [show (m.set k none).vs k = none from updv_same _ _ _]
      simp
    · rw [show (m.set n none).vs k = m.vs k from updv_other _ _ hk]
      by_cases hr : k ∈ r <;> simp [hr, hk]
theorem freeL_same {a b : List Nat} (m : PS) (h : ∀ n, n ∈ a ↔ n ∈ b) : freeL m a = freeL m b := by
  have h1 := freeL_made a m; have h2 := freeL_made b m
  have h3 : (freeL m a).vs = (freeL m b).vs := by
    funext k
    rw [freeL_vs, freeL_vs]
    by_cases hk : k ∈ a
    · rw [if_pos hk, if_pos ((h k).1 hk)]
    · rw [if_neg hk, if_neg (fun hb => hk ((h k).2 hb))]
  generalize freeL m a = x at *
  generalize freeL m b = y at *
  obtain ⟨x1, x2, x3⟩ := x
  obtain ⟨y1, y2, y3⟩ := y
  simp only at h1 h2 h3
  rw [h1.1, h1.2, h2.1, h2.2, h3]
def freeTo (m : PS) (es : List Ent) (j : Nat) : PS := freeL m ((es.take j).map fun e => e.n)
def freeS (s : HSt) : HSt := if s.gone = true then s else { s with m := freeTo s.m s.es s.es.length, es := [], gone := true }
def freeA (s : HSt) : Int := if s.gone = true then 1 else 0
/-- What holds goes on holding; numbers grow by one at most. -/
structure Goes (p : HPar) (s s' : HSt) : Prop where
  ok : HOk p s'
  made : s'.m.made ≤ s.m.made + 1
theorem freeTo_step {m : PS} {es : List Ent} {j : Nat} {e : Ent} (he : es[j]? = some e) : freeTo m es (j + 1) = (freeTo m es j).set e.n none := by
  obtain ⟨hj, rfl⟩ := List.getElem?_eq_some_iff.1 he
  unfold freeTo
  rw [List.take_succ_eq_append_getElem hj, List.map_append, freeL_app]
  rfl
theorem longTo_step {es : List Ent} {key : ByteArray} {j : Nat} {e : Ent} (he : es[j]? = some e) : longTo es key (j + 1) = if lenB e.key ≤ lenB key ∧ (∀ b, longTo es key j = some b → lenB b.key < lenB e.key) ∧ Agree key e.key (lenB e.key) then some e else longTo es key j := by rw [longTo, he]; rfl
section
variable {p : HPar} {s s' : HSt}
theorem HOk.mem (h : HOk p s) {m' : PS} (hm : s.m.made ≤ m'.made) (hv : ∀ (i : Nat) (e : Ent) (b : List UInt8), s.es[i]? = some e → s.m.vs e.n = some (3, b, false) → b.length = p.v → ∃ b', m'.vs e.n = some (3, b', false) ∧ b'.length = p.v) : HOk p { s with m := m' } :=
  ⟨h.par, h.len, fun i e he => by
    obtain ⟨h1, h2, b, h4, h5⟩ := h.ent i e he
    exact ⟨⟨h1.1, Nat.le_trans h1.2 hm⟩, h2, hv i e b he h4 h5⟩, h.apart, h.gone⟩
theorem HOk.put (h : HOk p s) {i : Nat} {e : Ent} (he : s.es[i]? = some e) {b l : List UInt8} (hb : s.m.vs e.n = some (3, b, false)) (hl : l.length ≤ p.v) : HOk p (s.put e (3, b, false) l) := by
  refine h.mem (m' := s.m.set e.n (some (3, setAt b 0 l, false))) (Nat.le_refl _) fun j e' b' he' hb' hl' => ?_
  by_cases hn : e'.n = e.n
  · rw [hn] at hb' ⊢
    rw [hb] at hb'
    cases hb'
    exact ⟨_, updv_same _ _ _, by rw [setAt_length _ _ _ (by omega)]; exact hl'⟩
  · exact ⟨b', (updv_other _ _ hn).trans hb', hl'⟩
theorem HOk.alloc (h : HOk p s) (v : Nat) : HOk p (s.alloc v) := by
  refine h.mem (m' := s.m.grown v) (Nat.le_succ _) fun j e b he hb hl => ⟨b, ?_, hl⟩
  have := (h.ent j e he).1.2
  exact (updv_other _ _ (by omega)).trans hb
theorem HOk.failing (h : HOk p s) (n : Nat) : HOk p { s with m := { s.m with fail := n } } :=
  h.mem (m' := { s.m with fail := n }) (Nat.le_refl _) fun j e b he hb hl => ⟨b, hb, hl⟩
theorem HOk.grace (h : HOk p s) : HOk p { s with m := s.m.graced } := by
  refine h.mem (m' := s.m.graced) (Nat.le_refl _) fun j e b he hb hl => ⟨b, ?_, hl⟩
  show gracev s.m.vs s.m.made e.n = _
  unfold gracev
  rw [if_pos (h.ent j e he).1.2, hb]
  rfl
theorem erase_at {es : List Ent} {i j : Nat} {e : Ent} (h : (es.eraseIdx i)[j]? = some e) : es[if j < i then j else j + 1]? = some e := by
  rw [List.getElem?_eraseIdx] at h
  split at h
  · rw [if_pos (by assumption)]; exact h
  · rw [if_neg (by assumption)]; exact h
theorem HOk.cut (h : HOk p s) {i : Nat} {e : Ent} (he : s.es[i]? = some e) (q : RV) : HOk p (s.cut i e q) := by
  have hi := (List.getElem?_eq_some_iff.1 he).1
  refine ⟨h.par, ?_, fun j e' he' => ?_, fun j k a b ha hb hjk => ?_, fun hg => ?_⟩
  · show (s.es.eraseIdx i).length ≤ _
    have := h.len
    rw [List.length_eraseIdx, if_pos hi]; omega
  · have h0 := erase_at he'
    obtain ⟨h1, h2, b, h4, h5⟩ := h.ent _ e' h0
    have hne : e'.n ≠ e.n := (h.apart _ i e' e h0 he (by split <;> omega)).1
    exact ⟨h1, h2, b, (updv_other _ _ hne).trans h4, h5⟩
  · exact h.apart _ _ a b (erase_at ha) (erase_at hb) (by split <;> split <;> omega)
  · have : s.es = [] := h.gone hg
    rw [this] at hi; simp at hi
theorem findE_none_key : ∀ {es : List Ent} {k : ByteArray} {i : Nat} {e : Ent}, findE es k = none → es[i]? = some e → keyB e.key k = false
  | [], _, _, _, _, h => by simp at h
  | e' :: es, k, i, e, hf, he => by
    unfold findE at hf
    split at hf
    · cases hf
    · rename_i hn
      cases i with
      | zero => simp at he; subst he; simpa using hn
      | succ i => exact findE_none_key (Option.map_eq_none_iff.1 hf) (by simpa using he)
theorem keyB_symm (a b : ByteArray) : keyB a b = keyB b a := by
  unfold keyB
  rw [Bool.eq_iff_iff]
  simp only [beq_iff_eq]
  exact eq_comm
/-- A new entry. -/
theorem HOk.fresh (h : HOk p s) (hg : s.gone = false) (hl : s.es.length < p.mx) (n : Nat) (key : ByteArray) (l : List UInt8) (hk : Pre p.key key (lenB key)) (hll : l.length = p.v) (hn : 1 ≤ n ∧ n ≤ s.m.made) (hnew : ∀ (i : Nat) (e : Ent), s.es[i]? = some e → e.n ≠ n) (hf : ∀ (i : Nat) (e : Ent), s.es[i]? = some e → keyB e.key key = false) :
    HOk p (s.fresh n key l p.v) := by
  have hbl : (setAt (List.replicate p.v (0 : UInt8)) 0 l).length = p.v := by rw [setAt_length _ _ _ (by rw [List.length_replicate]; omega), List.length_replicate]
  have at_ : ∀ {j e}, (s.fresh n key l p.v).es[j]? = some e → (j < s.es.length ∧ s.es[j]? = some e) ∨ (j = s.es.length ∧ e = ⟨key, n⟩) := by
    intro j e he
    have he2 : (s.es ++ [⟨key, n⟩])[j]? = some e := he
    rcases Nat.lt_or_ge j s.es.length with hj | hj
    · rw [List.getElem?_append_left hj] at he2
      exact .inl ⟨hj, he2⟩
    · have hj2 := (List.getElem?_eq_some_iff.1 he2).1
      have : j = s.es.length := by simp at hj2; omega
      subst this
      simp at he2
      exact .inr ⟨rfl, he2.symm⟩
  have vsn : (s.fresh n key l p.v).m.vs n = some (3, setAt (List.replicate p.v 0) 0 l, false) := updv_same _ _ _
  refine ⟨h.par, ?_, fun j e he => ?_, fun j k a b ha hb hjk => ?_, fun hg' => ?_⟩
  · show (s.es ++ [_]).length ≤ _
    rw [List.length_append]
    simp; omega
  · rcases at_ he with ⟨hj, he'⟩ | ⟨_, rfl⟩
    · obtain ⟨h1, h2, b, h4, h5⟩ := h.ent j e he'
      exact ⟨h1, h2, b, (updv_other _ _ (hnew j e he')).trans h4, h5⟩
    · exact ⟨hn, hk, _, vsn, hbl⟩
  · rcases at_ ha with ⟨hj, ha'⟩ | ⟨e1, rfl⟩ <;> rcases at_ hb with ⟨hk', hb'⟩ | ⟨e2, rfl⟩
    · exact h.apart j k a b ha' hb' hjk
    · exact ⟨hnew j a ha', hf j a ha'⟩
    · exact ⟨fun e => hnew k b hb' e.symm, by rw [keyB_symm]; exact hf k b hb'⟩
    · omega
  · have : s.gone = true := hg'
    rw [hg] at this; cases this
theorem freeTo_vs (m : PS) (es : List Ent) (n : Nat) (j : Nat) (h : ∀ (i : Nat) (e : Ent), i < j → es[i]? = some e → e.n ≠ n) : (freeTo m es j).vs n = m.vs n := by
  unfold freeTo
  rw [freeL_vs, if_neg]
  intro hm
  obtain ⟨e, he, hn⟩ := List.mem_map.1 hm
  obtain ⟨i, hi, hie⟩ := List.getElem_of_mem he
  have hi2 : i < j := by simp at hi; omega
  refine h i e hi2 ?_ hn
  rw [← hie, List.getElem_take]
  exact List.getElem?_eq_getElem _
theorem HOk.frees (h : HOk p s) (j : Nat) (e : Ent) (he : s.es[j]? = some e) : ∃ q, (freeTo s.m s.es j).vs e.n = some q := by
  obtain ⟨_, _, b, h4, _⟩ := h.ent j e he
  refine ⟨_, (freeTo_vs s.m s.es e.n j fun i e' hi he' => ?_).trans h4⟩
  exact (h.apart i j e' e he' he (by omega)).1
theorem freeTo_made (m : PS) (es : List Ent) (j : Nat) : (freeTo m es j).made = m.made ∧ (freeTo m es j).fail = m.fail := freeL_made _ _
theorem HOk.freed (h : HOk p s) (m' : PS) : HOk p { s with m := m', es := [], gone := true } :=
  ⟨h.par, Nat.zero_le _, fun i e he => by simp at he, fun i j a b ha => by simp at ha, fun _ => rfl⟩
theorem HOk.le (h : HOk p s) : s.es.length ≤ 4096 := Nat.le_trans h.len h.par.m2
theorem bstr_data (s : ByteArray) : s = bstr s.data.toList := by unfold bstr; simp
theorem found {es : List Ent} {key : ByteArray} {i : Nat} (hf : findE es key = some i) : ∃ e, es[i]? = some e ∧ e.key = key := by
  have hlt := find_lt hf
  refine ⟨_, List.getElem?_eq_getElem hlt, ?_⟩
  exact keyB_iff.1 (find_key hf (List.getElem?_eq_getElem hlt))
theorem rem_eq {i : Nat} {e : Ent} {q : RV} (he : s.es[i]? = some e) (hq : s.m.vs e.n = some q) : s.rem i = s.cut i e q := by unfold HSt.rem; rw [he]; show (s.m.vs e.n).elim s _ = _; rw [hq]; rfl
theorem putAt_eq {i : Nat} {l : List UInt8} {e : Ent} {q : RV} (he : s.es[i]? = some e) (hq : s.m.vs e.n = some q) : s.putAt i l = s.put e q l := by unfold HSt.putAt; rw [he]; show (s.m.vs e.n).elim s _ = _; rw [hq]; rfl
theorem del_goes (h : HOk p s) (key : ByteArray) : Goes p s (delS p s key) := by
  have h0 : Goes p s s := ⟨h, Nat.le_succ _⟩
  unfold delS
  split
  · exact h0
  · rcases hf : findE s.es (formB key) with _ | i
    · exact h0
    · obtain ⟨e, he, _⟩ := found hf
      obtain ⟨_, _, b, hq, _⟩ := h.ent i e he
      show Goes p s (s.rem i)
      rw [rem_eq he hq]
      exact ⟨h.cut he _, Nat.le_succ _⟩
theorem free_goes (h : HOk p s) : Goes p s (freeS s) := by
  unfold freeS
  split
  · exact ⟨h, Nat.le_succ _⟩
  · exact ⟨h.freed _, by show (freeTo _ _ _).made ≤ _; rw [(freeTo_made _ _ _).1]; exact Nat.le_succ _⟩
theorem insert_goes (h : HOk p s) (hg : s.gone = false) (key : ByteArray) (l : List UInt8) (hk : Pre p.key key (lenB key)) (hl : l.length = p.v) (hn : s.es.length ≠ p.mx) (hf : findE s.es key = none) : Goes p s (s.insert p key l) := by
  have hnew : ∀ (i : Nat) (e : Ent), s.es[i]? = some e → e.n ≠ s.m.made + 1 := fun i e he => by have := (h.ent i e he).1; omega
  have hkey : ∀ (i : Nat) (e : Ent), s.es[i]? = some e → keyB e.key key = false := fun i e he => findE_none_key hf he
  have hl2 := h.len
  exact ⟨(h.alloc p.v).fresh hg (by show s.es.length < _; omega) (s.m.made + 1) key l hk hl ⟨by omega, Nat.le_refl _⟩ hnew hkey, Nat.le_refl _⟩
theorem IsKey.form (hp : p.Ok) {key : ByteArray} (h : IsKey p.key key) : Pre p.key (formB key) (lenB (formB key)) := by
  have := h.pre hp.k1 hp.k2
  rw [this.len]; exact this
theorem upd_goes (h : HOk p s) (key value : ByteArray) (fl : Int) : Goes p s (updS p s key value fl) := by
  have h0 : Goes p s s := ⟨h, Nat.le_succ _⟩
  unfold updS
  by_cases hb : updBad p s key value fl
  · rw [if_pos hb]; exact h0
  · rw [if_neg hb]
    have hg : s.gone = false := by cases hg : s.gone; rfl; exact absurd (.inl hg) hb
    have hk : IsKey p.key key := Classical.byContradiction fun hk => hb (.inr (.inl hk))
    have hv : value.size = p.v := Classical.byContradiction fun hk => hb (.inr (.inr (.inl hk)))
    have hvl : value.data.toList.length = p.v := by rw [Array.length_toList]; exact hv
    rcases hf : findE s.es (formB key) with _ | i
    · show Goes p s (if fl = 2 then s else _)
      split
      · exact h0
      · split
        · exact h0
        · split
          · exact ⟨h.failing 0, Nat.le_succ _⟩
          · exact insert_goes h hg _ _ (hk.form h.par) hvl (by assumption) hf
    · show Goes p s (if fl = 1 then s else _)
      split
      · exact h0
      · obtain ⟨e, he, _⟩ := found hf
        obtain ⟨_, _, b, hq, _⟩ := h.ent i e he
        rw [putAt_eq he hq]
        exact ⟨h.put he hq (by omega), Nat.le_succ _⟩
/-- What longTo finds: the longest that matches. -/
theorem longTo_spec {es : List Ent} {key : ByteArray} : ∀ j, j ≤ es.length → (longTo es key j = none → ∀ i x, i < j → es[i]? = some x → ¬ Match x key (lenB key)) ∧ (∀ e, longTo es key j = some e → (∃ i, i < j ∧ es[i]? = some e) ∧ Match e key (lenB key) ∧ ∀ i x, i < j → es[i]? = some x → Match x key (lenB key) → lenB x.key ≤ lenB e.key)
  | 0, _ => ⟨fun _ i x hi => by omega, fun e h => by cases h⟩
  | j + 1, hj => by
    obtain ⟨i1, i2⟩ := longTo_spec (es := es) (key := key) j (by omega)
    obtain ⟨e, he⟩ : ∃ e, es[j]? = some e := ⟨_, List.getElem?_eq_getElem (by omega)⟩
    rw [longTo_step he]
    by_cases hc : lenB e.key ≤ lenB key ∧ (∀ b, longTo es key j = some b → lenB b.key < lenB e.key) ∧ Agree key e.key (lenB e.key)
    · rw [if_pos hc]
      refine ⟨fun h => (by cases h), fun x hx => ?_⟩
      cases hx
      refine ⟨⟨j, by omega, he⟩, ⟨hc.1, hc.2.2.symm⟩, fun i x hi hx hm => ?_⟩
      rcases Nat.lt_or_ge i j with h | h
      · rcases hl : longTo es key j with _ | b
        · exact absurd hm (i1 hl i x h hx)
        · have h1 := (i2 b hl).2.2 i x h hx hm
          have h2 := hc.2.1 b hl
          omega
      · obtain rfl : i = j := by omega
        rw [he] at hx; cases hx; exact Nat.le_refl _
    · rw [if_neg hc]
      refine ⟨fun h i x hi hx hm => ?_, fun b hb => ?_⟩
      · rcases Nat.lt_or_ge i j with h' | h'
        · exact i1 h i x h' hx hm
        · obtain rfl : i = j := by omega
          rw [he] at hx; cases hx
          exact hc ⟨hm.1, fun b hb => by (rw [h] at hb; cases hb), hm.2.symm⟩
      · obtain ⟨⟨i, hi, hie⟩, h2, h3⟩ := i2 b hb
        refine ⟨⟨i, by omega, hie⟩, h2, fun i x hi' hx hm => ?_⟩
        rcases Nat.lt_or_ge i j with h' | h'
        · exact h3 i x h' hx hm
        · obtain rfl : i = j := by omega
          rw [he] at hx; cases hx
          refine Classical.byContradiction fun hlt => hc ⟨hm.1, fun b' hb' => ?_, hm.2.symm⟩
          rw [hb] at hb'; cases hb'; omega
/-- The longest is one. -/
theorem Longest.uniq (h : HOk p s) {key : ByteArray} {e e' : Ent} (h1 : Longest s.es key (lenB key) e) (h2 : Longest s.es key (lenB key) e') : e = e' := by
  obtain ⟨a1, a2, a3⟩ := h1
  obtain ⟨b1, b2, b3⟩ := h2
  have hl : lenB e.key = lenB e'.key := Nat.le_antisymm (b3 e a1 a2) (a3 e' b1 b2)
  obtain ⟨i, hi, hie⟩ := List.getElem_of_mem a1
  obtain ⟨j, hj, hje⟩ := List.getElem_of_mem b1
  have gi : s.es[i]? = some e := by rw [List.getElem?_eq_getElem hi, hie]
  have gj : s.es[j]? = some e' := by rw [List.getElem?_eq_getElem hj, hje]
  have p1 := (h.ent i e gi).2.1
  have p2 := (h.ent j e' gj).2.1
  have hk : e.key = e'.key := p1.same (hl ▸ p2) (a2.2.trans (hl ▸ b2.2.symm))
  by_cases hij : i = j
  · subst hij; rw [gi] at gj; cases gj; rfl
  · have := (h.apart i j e e' gi gj hij).2
    rw [keyB_no] at this
    exact absurd hk this
theorem look_none {key : ByteArray} (hn : longTo s.es key s.es.length = none) : ∀ x, x ∈ s.es → ¬ Match x key (lenB key) := fun x hx => by
  obtain ⟨i, hi, hie⟩ := List.getElem_of_mem hx
  exact (longTo_spec s.es.length (Nat.le_refl _)).1 hn i x hi (by rw [List.getElem?_eq_getElem hi, hie])
theorem look_some {key : ByteArray} {e : Ent} (hn : longTo s.es key s.es.length = some e) : Longest s.es key (lenB key) e := by
  obtain ⟨⟨i, hi, hie⟩, h2, h3⟩ := (longTo_spec s.es.length (Nat.le_refl _)).2 e hn
  refine ⟨List.mem_of_getElem? hie, h2, fun x hx hm => ?_⟩
  obtain ⟨j, hj, hje⟩ := List.getElem_of_mem hx
  exact h3 j x hj (by rw [List.getElem?_eq_getElem hj, hje]) hm
theorem HOk.of_mem (h : HOk p s) {e : Ent} (he : e ∈ s.es) : (1 ≤ e.n ∧ e.n ≤ s.m.made) ∧ Pre p.key e.key (lenB e.key) ∧ ∃ b, s.m.vs e.n = some (3, b, false) ∧ b.length = p.v := by
  obtain ⟨i, hi, hie⟩ := List.getElem_of_mem he
  exact h.ent i e (by rw [List.getElem?_eq_getElem hi, hie])
/-- Entries of one key are one. -/
theorem HOk.one (h : HOk p s) {e e' : Ent} (he : e ∈ s.es) (he' : e' ∈ s.es) (hk : e.key = e'.key) : e = e' := by
  obtain ⟨i, hi, hie⟩ := List.getElem_of_mem he
  obtain ⟨j, hj, hje⟩ := List.getElem_of_mem he'
  by_cases hij : i = j
  · subst hij; rw [← hie, ← hje]
  · have := (h.apart i j e e' (by rw [List.getElem?_eq_getElem hi, hie]) (by rw [List.getElem?_eq_getElem hj, hje]) hij).2
    rw [keyB_no] at this
    exact absurd hk this
/-- What is left when entry i goes. -/
theorem mem_cut (h : HOk p s) {i : Nat} {e : Ent} (he : s.es[i]? = some e) (x : Ent) : x ∈ s.es.eraseIdx i ↔ x ∈ s.es ∧ x.key ≠ e.key := by
  constructor
  · intro hx
    obtain ⟨j, hj, hje⟩ := List.getElem_of_mem hx
    have h0 := erase_at (es := s.es) (i := i) (j := j) (e := x) (by rw [List.getElem?_eq_getElem hj, hje])
    refine ⟨List.mem_of_getElem? h0, ?_⟩
    have := (h.apart _ i x e h0 he (by split <;> omega)).2
    rwa [keyB_no] at this
  · rintro ⟨hx, hne⟩
    obtain ⟨j, hj, hje⟩ := List.getElem_of_mem hx
    have gj : s.es[j]? = some x := by rw [List.getElem?_eq_getElem hj, hje]
    have hji : j ≠ i := fun e' => by subst e'; rw [gj] at he; cases he; exact hne rfl
    refine List.mem_of_getElem? (i := if j < i then j else j - 1) ?_
    rw [List.getElem?_eraseIdx]
    by_cases hl : j < i
    · rw [if_pos hl, if_pos hl]; exact gj
    · rw [if_neg hl, if_neg (by omega), show j - 1 + 1 = j by omega]; exact gj
end
end Go.Proofs.Ytomhflaofipccaa
namespace Go.Proofs.Ytomhflaofipccaa
open Go Go.RowKit Go.Maps
set_option linter.unusedVariables false
set_option linter.unusedSimpArgs false
set_option maxRecDepth 100000
/-- How a table of the program's lies, whose plain state is s, in the blocks of P. -/
abbrev XRel := HPar → HSt → (Nat → Prop) → World → Prop
def FCallH (X : XRel) (p : HPar) (f : FuncId) (args : Array Value) (s s' : HSt) (e0 : Ending) : Prop := ∀ w P, X p s P w → Calls Try.prog f args w fun e w' => e = e0 ∧ X p s' (more P w w') w' ∧ Keeps P w w'
abbrev goneC : Array Value := mapC (.pointer none) 0 0 0 0 (.pointer none) 0
/-- A table that is there: from world w0 and its blocks P0 on. -/
structure PG (p : HPar) (w0 : World) (P0 : Nat → Prop) (s : HSt) (T : Nat → Prop) (t : Tr) (w : World) : Prop where
  keeps : Keeps P0 w0 w
  pl : ∀ b, P0 b → b < w0.heap.size
  px : P0 p.x
  side : KSide w T p.bm s.m
  tq : ∀ b, T b → P0 b ∨ w0.heap.size ≤ b
  tx : ¬ T p.x
  map : Blk w p.x mapT (mapC (tp p.bm) p.k p.key p.v p.mx t.ptr s.es.length)
  at_ : t.At w
  ok : t.ok p.key
  nd : t.blocks.Nodup
  dat : ∀ e, e ∈ t.ents ↔ e ∈ s.es
  entp : ∀ b, b ∈ t.blocks → (P0 b ∨ w0.heap.size ≤ b) ∧ ¬ T b
  gone : s.gone = false
/-- .. that was freed. -/
structure PO (p : HPar) (w0 : World) (P0 : Nat → Prop) (s : HSt) (T : Nat → Prop) (w : World) : Prop where
  keeps : Keeps P0 w0 w
  pl : ∀ b, P0 b → b < w0.heap.size
  px : P0 p.x
  side : KSide w T p.bm s.m
  tq : ∀ b, T b → P0 b ∨ w0.heap.size ≤ b
  tx : ¬ T p.x
  map : Blk w p.x mapT goneC
  gone : s.gone = true
def PH : XRel := fun p s P w => (∃ T, PO p w P s T w) ∨ ∃ T t, PG p w P s T t w
section
variable {p : HPar} {w0 w w' : World} {P0 P U T T' : Nat → Prop} {s s' : HSt} {t t' : Tr}
theorem PG.bl (h : PG p w0 P0 s T t w) {b : Nat} (hb : b ∈ t.blocks) : b < w.heap.size := by obtain ⟨cs, hc⟩ := h.at_.blk hb; exact hc.lt
theorem PG.xb (h : PG p w0 P0 s T t w) : p.x ∉ t.blocks := fun hb => by obtain ⟨cs, hc⟩ := h.at_.blk hb; exact absurd rfl (hc.ne_ h.map (by decide))
theorem PG.start (h : PG p w0 P0 s T t w) : PG p w (more P0 w0 w) s T t w := by
  refine ⟨Keeps.refl _ _, ?_, .inl h.px, h.side, fun b hb => .inl ((h.tq b hb).imp id fun hz => ⟨hz, h.side.lt' b hb⟩), h.tx, h.map, h.at_, h.ok, h.nd, h.dat, fun b hb => ⟨.inl ((h.entp b hb).1.imp id fun hz => ⟨hz, h.bl hb⟩), (h.entp b hb).2⟩, h.gone⟩
  rintro b (h1 | h1)
  · exact Nat.lt_of_lt_of_le (h.pl b h1) h.keeps.size
  · exact h1.2
theorem PO.start (h : PO p w0 P0 s T w) : PO p w (more P0 w0 w) s T w := by
  refine ⟨Keeps.refl _ _, ?_, .inl h.px, h.side, fun b hb => .inl ((h.tq b hb).imp id fun hz => ⟨hz, h.side.lt' b hb⟩), h.tx, h.map, h.gone⟩
  rintro b (h1 | h1)
  · exact Nat.lt_of_lt_of_le (h.pl b h1) h.keeps.size
  · exact h1.2
theorem PG.done (h : PG p w0 P0 s T t w) : PH p s (more P0 w0 w) w ∧ Keeps P0 w0 w := ⟨.inr ⟨T, t, h.start⟩, h.keeps⟩
theorem PO.done (h : PO p w0 P0 s T w) : PH p s (more P0 w0 w) w ∧ Keeps P0 w0 w := ⟨.inl ⟨T, h.start⟩, h.keeps⟩
/-- The table's own blocks turn. -/
theorem PG.local_ (h : PG p w0 P0 s T t w) (hm : s'.m = s.m) (hg : s'.gone = s.gone) (k : Keeps U w w') (hU : ∀ b, U b → ¬ T b ∧ (P0 b ∨ w0.heap.size ≤ b))
    (map' : Blk w' p.x mapT (mapC (tp p.bm) p.k p.key p.v p.mx t'.ptr s'.es.length)) (at' : t'.At w') (ok' : t'.ok p.key) (nd' : t'.blocks.Nodup) (dat' : ∀ e, e ∈ t'.ents ↔ e ∈ s'.es)
    (entp' : ∀ b, b ∈ t'.blocks → w.heap.size ≤ b ∨ b ∈ t.blocks) : PG p w0 P0 s' T t' w' := by
  have k' : Keeps (more P0 w0 w) w w' := ⟨k.os, k.tape, k.output, k.size, fun b hb hs => k.block b hb fun hu => hs ((hU b hu).2.imp id fun hz => ⟨hz, hb⟩)⟩
  refine ⟨h.keeps.trans k', h.pl, h.px, by rw [hm]; exact h.side.keeps' k fun b hb hu => (hU b hu).1 hb, h.tq, h.tx, map', at', ok', nd', dat', fun b hb => ?_, by rw [hg]; exact h.gone⟩
  rcases entp' b hb with h1 | h1
  · exact ⟨.inr (Nat.le_trans h.keeps.size h1), fun ht => by have := h.side.lt' _ ht; omega⟩
  · exact h.entp b h1
/-- Nothing of the table's turns. -/
theorem PG.quiet (h : PG p w0 P0 s T t w) (k : Qt w w') : PG p w0 P0 s T t w' :=
  h.local_ (s' := s) rfl rfl k (fun b hu => hu.elim) (h.map.keeps k (fun h => h)) (h.at_.quiet k) h.ok h.nd h.dat (fun b hb => .inr hb)
theorem PG.drewN (h : PG p w0 P0 s T t w) (n : Nat) : PG p w0 P0 s T t (w.drewN n) := h.quiet ⟨rfl, rfl, rfl, Nat.le_refl _, fun _ _ _ => rfl⟩
theorem PG.drew (h : PG p w0 P0 s T t w) : PG p w0 P0 s T t w.drew := h.quiet ⟨rfl, rfl, rfl, Nat.le_refl _, fun _ _ _ => rfl⟩
/-- The memory turns. -/
theorem PG.mem_ {m' : PS} (h : PG p w0 P0 s T t w) (hk : KSide w' (more T w w') p.bm m') (kk : Keeps T w w') : PG p w0 P0 { s with m := m' } (more T w w') t w' := by
  have hz := h.keeps.size
  have nt : ∀ b, b < w.heap.size → ¬ T b → ¬ more T w w' b := by
    rintro b hb ht (h1 | ⟨h1, _⟩)
    · exact ht h1
    · omega
  refine ⟨h.keeps.trans (kk.mono fun b hb => (h.tq b hb).imp id fun hz => ⟨hz, h.side.lt' b hb⟩), h.pl, h.px, hk, ?_, nt _ h.map.lt h.tx, h.map.keeps kk h.tx, h.at_.keeps kk (fun b hb => (h.entp b hb).2), h.ok, h.nd, h.dat, fun b hb => ⟨(h.entp b hb).1, nt _ (h.bl hb) (h.entp b hb).2⟩, h.gone⟩
  rintro b (hb | ⟨hb, _⟩)
  · exact h.tq b hb
  · exact .inr (by omega)
theorem PG.call {m' : PS} {f : FuncId} {args : Array Value} {e0 : Ending} (h : PG p w0 P0 s T t w) (c : KCall f args p.bm s.m m' e0) :
    Calls Try.prog f args w fun e w' => e = e0 ∧ ∃ T', PG p w0 P0 { s with m := m' } T' t w' ∧ Keeps T w w' := by
  refine (c w T h.side).mono ?_
  rintro e w' ⟨rfl, hk, kk⟩
  exact ⟨rfl, _, h.mem_ hk kk, kk⟩
theorem PO.quiet (h : PO p w0 P0 s T w) (k : Qt w w') : PO p w0 P0 s T w' :=
  ⟨h.keeps.trans (k.mono fun _ h => h.elim), h.pl, h.px, h.side.keeps' k (fun _ _ h => h), h.tq, h.tx, h.map.keeps k (fun h => h), h.gone⟩
theorem PO.mem_ {m' : PS} (h : PO p w0 P0 s T w) (hk : KSide w' (more T w w') p.bm m') (kk : Keeps T w w') : PO p w0 P0 { s with m := m' } (more T w w') w' := by
  have hz := h.keeps.size
  refine ⟨h.keeps.trans (kk.mono fun b hb => (h.tq b hb).imp id fun hz => ⟨hz, h.side.lt' b hb⟩), h.pl, h.px, hk, ?_, ?_, h.map.keeps kk h.tx, h.gone⟩
  · rintro b (hb | ⟨hb, _⟩)
    · exact h.tq b hb
    · exact .inr (by omega)
  · rintro (h1 | ⟨h1, _⟩)
    · exact h.tx h1
    · have := h.map.lt; omega
theorem PH.lt {P : Nat → Prop} (h : PH p s P w) : ∀ b, P b → b < w.heap.size := by
  rcases h with ⟨T, h⟩ | ⟨T, t, h⟩ <;> exact h.pl
theorem PH.keeps {P : Nat → Prop} (h : PH p s P w) (k : Keeps U w w') (hd : ∀ b, P b → ¬ U b) : PH p s P w' := by
  have hp : ∀ b, P b → b < w'.heap.size := fun b hb => Nat.lt_of_lt_of_le (h.lt b hb) k.size
  have old : ∀ b, b < w.heap.size → P b ∨ w.heap.size ≤ b → P b := fun b hb h1 => h1.resolve_right (by omega)
  rcases h with ⟨T, h⟩ | ⟨T, t, h⟩
  · exact .inl ⟨T, ⟨Keeps.refl _ _, hp, h.px, h.side.keeps' k fun b hb => hd b (old b (h.side.lt' b hb) (h.tq b hb)), fun b hb => .inl (old b (h.side.lt' b hb) (h.tq b hb)), h.tx, h.map.keeps k (hd _ h.px), h.gone⟩⟩
  · exact .inr ⟨T, t, ⟨Keeps.refl _ _, hp, h.px, h.side.keeps' k fun b hb => hd b (old b (h.side.lt' b hb) (h.tq b hb)), fun b hb => .inl (old b (h.side.lt' b hb) (h.tq b hb)), h.tx, h.map.keeps k (hd _ h.px), h.at_.keeps k (fun b hb => hd _ (old _ (h.bl hb) (h.entp b hb).1)), h.ok, h.nd, h.dat, fun b hb => ⟨.inl (old _ (h.bl hb) (h.entp b hb).1), (h.entp b hb).2⟩, h.gone⟩⟩
theorem PH.side {P : Nat → Prop} (h : PH p s P w) : ∃ S, KSide w S p.bm s.m ∧ ∀ b, S b → P b := by
  rcases h with ⟨T, h⟩ | ⟨T, t, h⟩
  · exact ⟨T, h.side, fun b hb => (h.tq b hb).resolve_right (by have := h.side.lt' b hb; omega)⟩
  · exact ⟨T, h.side, fun b hb => (h.tq b hb).resolve_right (by have := h.side.lt' b hb; omega)⟩
theorem PH.mem {m' : PS} {f : FuncId} {args : Array Value} {e0 : Ending} (c : KCall f args p.bm s.m m' e0) : FCallH PH p f args s { s with m := m' } e0 := by
  rintro w P (⟨T, h⟩ | ⟨T, t, h⟩)
  · refine (c w T h.side).mono ?_
    rintro e w' ⟨rfl, hk, kk⟩
    exact ⟨rfl, (h.mem_ hk kk).done⟩
  · refine (h.call c).mono ?_
    rintro e w' ⟨rfl, T', h', _⟩
    exact ⟨rfl, h'.done⟩
theorem PH.of {f : FuncId} {args : Array Value} {e0 : Ending}
    (hG : s.gone = false → ∀ w P T t, PG p w P s T t w → Calls Try.prog f args w fun e w' => e = e0 ∧ ((∃ T' t', PG p w P s' T' t' w') ∨ ∃ T', PO p w P s' T' w'))
    (hO : s.gone = true → ∀ w P T, PO p w P s T w → Calls Try.prog f args w fun e w' => e = e0 ∧ ∃ T', PO p w P s' T' w') : FCallH PH p f args s s' e0 := by
  rintro w P (⟨T, h⟩ | ⟨T, t, h⟩)
  · refine (hO h.gone w P T h).mono ?_
    rintro e w' ⟨rfl, T', h'⟩
    exact ⟨rfl, h'.done⟩
  · refine (hG h.gone w P T t h).mono ?_
    rintro e w' ⟨rfl, ⟨T', t', h'⟩ | ⟨T', h'⟩⟩
    · exact ⟨rfl, h'.done⟩
    · exact ⟨rfl, h'.done⟩
end
end Go.Proofs.Ytomhflaofipccaa
namespace Go.Proofs.Ytomhflaofipccaa
open Go Go.RowKit Go.Maps
set_option linter.unusedVariables false
set_option linter.unusedSimpArgs false
set_option maxRecDepth 100000
section
variable {p : HPar} {w0 w w' : World} {P0 P U T T' : Nat → Prop} {s s' : HSt} {t t' : Tr}
theorem gone_no {x : Nat} {c : Value} {b : Nat} (hc : w.cell? ⟨x, 0, none⟩ = some (tp b)) : Calls Try.prog 30 #[tp x] w fun e w' => e = .returned (.bool false) ∧ w = w' := by
  go_enter Try.func30, Try.ntmps30
  go_wp2_with fail
  go_ret
  exact ⟨rfl, rfl⟩
theorem gone_yes {x : Nat} (hc : w.cell? ⟨x, 0, none⟩ = some (.pointer none)) : Calls Try.prog 30 #[tp x] w fun e w' => e = .returned (.bool true) ∧ w = w' := by
  go_enter Try.func30, Try.ntmps30
  go_wp2_with fail
  go_ret
  exact ⟨rfl, rfl⟩
theorem gone_nil (w : World) : Calls Try.prog 30 #[.pointer none] w fun e w' => e = .returned (.bool true) ∧ w = w' := by
  go_enter Try.func30, Try.ntmps30
  go_wp2_with fail
  go_ret
  exact ⟨rfl, rfl⟩
/-- What prefix answers. -/
abbrev preR (f : ByteArray) (len : Nat) (ok : Bool) : Value := .tuple #[preV f len, .bool ok]
def PreIs (x : Value) (key : ByteArray) (w : World) (f : ByteArray) (len : Nat) (ok : Bool) : Prop := Calls Try.prog 19 #[x, .string key] w fun e w' => e = .returned (preR f len ok) ∧ Qt w w'
theorem prefix_no (x : Value) (key : ByteArray) (w : World) (hg : ∀ w, Calls Try.prog 30 #[x] w fun e w' => e = .returned (.bool true) ∧ w = w') : PreIs x key w ⟨#[]⟩ 0 false := by
  have HG := Lib.hid hg
  unfold PreIs
  clear hg
  go_enter Try.func19, Try.ntmps19
  go_wp2_with (go_at_call 30; refine (HG.out _).mono ?_; rintro e w1 ⟨rfl, rfl⟩)
  refine bodyPost_ret (v := preR ⟨#[]⟩ 0 false) (by simp [results, Try.results19, go_sem]) rfl ⟨rfl, ?_⟩
  exact (Keeps.refl _ w).alloc _
set_option maxHeartbeats 1000000 in
theorem prefix_read {x b : Nat} {key : ByteArray} {K : Nat} {f : ByteArray} {len : Nat} {ok : Bool} (hc0 : w.cell? ⟨x, 0, none⟩ = some (tp b)) (hc2 : w.cell? ⟨x, 2, none⟩ = some (.int .i64 K)) (hx : x < w.heap.size)
    (hr : ∀ w, Calls Try.prog 34 #[.string key, .int .i64 K] w fun e w' => e = .returned (preR f len ok) ∧ Qt w w') : PreIs (tp x) key w f len ok := by
  have HB := Lib.hid (Blk.new w preT (preC ⟨#[]⟩ 0))
  have hk : Qt w (w.alloc (.cells (preC ⟨#[]⟩ 0) preT)) := (Keeps.refl _ w).alloc _
  have HK := Lib.hid hk
  have e0 : (w.alloc (.cells (preC ⟨#[]⟩ 0) preT)).cell? ⟨x, 0, none⟩ = some (tp b) := by rw [← hc0]; exact cell_congr _ (hk.block x hx (fun h => h))
  have e2 : (w.alloc (.cells (preC ⟨#[]⟩ 0) preT)).cell? ⟨x, 2, none⟩ = some (.int .i64 K) := by rw [← hc2]; exact cell_congr _ (hk.block x hx (fun h => h))
  have HG := Lib.hid (gone_no (c := .pointer none) e0)
  have HR := Lib.hid hr
  unfold PreIs
  clear hc0 hc2 hx hr hk e0
  go_enter Try.func19, Try.ntmps19
  go_wp2_with (first
    | (go_at_call 30; refine HG.out.mono ?_; rintro e w1 ⟨rfl, rfl⟩)
    | (go_at_call 34; refine (HR.out _).mono ?_; rintro e w1 ⟨rfl, hq⟩; have hb1 := HB.out.quiet hq; have hc0 : w1.cell? ⟨w.heap.size, 0, none⟩ = some (.string ⟨#[]⟩) := hb1.cell 0; have hc1 : w1.cell? ⟨w.heap.size, 1, none⟩ = some (.int .i64 0) := hb1.cell 1; have hf0 := hb1.frozen 0; have hf1 := hb1.frozen 1; have HQ := Lib.hid hq; clear hq))
  have hb2 := (hb1.set_ 0 (.string f)).set_ 1 (.int .i64 len)
  have k0 : ((w1.setCell ⟨w.heap.size, 0, none⟩ (.string f)).setCell ⟨w.heap.size, 1, none⟩ (.int .i64 len)).cell? ⟨w.heap.size, 0, none⟩ = some (.string f) := hb2.cell 0
  have k1 : ((w1.setCell ⟨w.heap.size, 0, none⟩ (.string f)).setCell ⟨w.heap.size, 1, none⟩ (.int .i64 len)).cell? ⟨w.heap.size, 1, none⟩ = some (.int .i64 len) := hb2.cell 1
  refine bodyPost_ret (v := preR f len ok) (by simp [results, Try.results19, go_sem, k0, k1]) rfl ⟨rfl, ?_⟩
  exact ((HK.out.then_ HQ.out).setCell (p := ⟨w.heap.size, 0, none⟩) (.inr (Nat.le_refl _)) _).setCell (p := ⟨w.heap.size, 1, none⟩) (.inr (Nat.le_refl _)) _
theorem PG.pre_yes (h : PG p w0 P0 s T t w) (hp : p.Ok) {key : ByteArray} (hk : IsKey p.key key) : PreIs (tp p.x) key w (formB key) (lenB key) true :=
  prefix_read (h.map.cell 0) (h.map.cell 2) h.map.lt fun w => kread_ok key p.key hk.1 hp.k1 hp.k2 hk.2 w
theorem PG.pre_no (h : PG p w0 P0 s T t w) (hp : p.Ok) {key : ByteArray} (hk : ¬ IsKey p.key key) : PreIs (tp p.x) key w ⟨#[]⟩ 0 false :=
  prefix_read (h.map.cell 0) (h.map.cell 2) h.map.lt fun w => by
    by_cases hs : key.size = p.key
    · exact kread_long key p.key hs hp.k1 hp.k2 (by unfold IsKey at hk; have := hp.k1; omega) w
    · exact kread_size key p.key hs hp.k2 w
theorem PO.pre (h : PO p w0 P0 s T w) (key : ByteArray) : PreIs (tp p.x) key w ⟨#[]⟩ 0 false := by
  have c0 : w.cell? ⟨p.x, 0, none⟩ = some (.pointer none) := h.map.cell 0
  have hx := h.map.lt
  have hk : Qt w (w.alloc (.cells (preC ⟨#[]⟩ 0) preT)) := (Keeps.refl _ w).alloc _
  have HG := Lib.hid (gone_yes (w := w.alloc (.cells (preC ⟨#[]⟩ 0) preT)) (x := p.x) (by rw [← c0]; exact cell_congr _ (hk.block p.x hx (fun h => h))))
  unfold PreIs
  clear h c0 hx hk
  go_enter Try.func19, Try.ntmps19
  go_wp2_with (go_at_call 30; refine HG.out.mono ?_; rintro e w1 ⟨rfl, rfl⟩)
  refine bodyPost_ret (v := preR ⟨#[]⟩ 0 false) (by simp [results, Try.results19, go_sem]) rfl ⟨rfl, ?_⟩
  exact (Keeps.refl _ w).alloc _
theorem look_bad {x : Value} {key : ByteArray} {f : ByteArray} {len : Nat} (hp : PreIs x key w f len false) : Calls Try.prog 12 #[x, .string key] w fun e w' => e = .returned (.int .u64 0) ∧ Qt w w' := by
  unfold PreIs at hp
  have HP := Lib.hid hp
  clear hp
  go_enter Try.func12, Try.ntmps12
  go_wp2_with (go_at_call 19; refine HP.out.mono ?_; rintro e w1 ⟨rfl, hq⟩; have HQ := Lib.hid hq; clear hq)
  go_ret
  exact ⟨rfl, HQ.out.alloc _⟩
set_option maxHeartbeats 1000000 in
theorem PG.look_tree (h : PG p w0 P0 s T t w) (hp : p.Ok) {key : ByteArray} (hk : IsKey p.key key) (res : Option (Nat × Ent)) (hres : t.look (formB key) (lenB key) none = res) :
    Calls Try.prog 12 #[tp p.x, .string key] w fun e w' => e = .returned (.int .u64 (res.elim 0 fun q => addr q.2.n 0)) ∧ Qt w w' := by
  have HP : Hid (PreIs (tp p.x) key w (formB key) (lenB key) true) := Lib.hid (h.pre_yes hp hk)
  unfold PreIs at HP
  have hq := hk.pre hp.k1 hp.k2
  have HC := Lib.hid (fun W (hG : PG p w0 P0 s T t W) => longest_any (x := p.x) hq hG.ok hG.at_ (hG.map.cell 5) hG.map.lt)
  rw [hres] at HC
  have HS := Lib.hid (Tr.look_spec (best := none) (pf := formB key) (pl := lenB key) h.ok (from_zero t (formB key)) (Agree.refl _ _))
  rw [hres] at HS
  have H := Lib.hid h
  clear h hp hk hq hres
  generalize formB key = f at *
  generalize lenB key = len at *
  rcases res with _ | ⟨b, e⟩
  · have HC2 : Hid (∀ W, PG p w0 P0 s T t W → Calls Try.prog 23 #[.pointer (some ⟨p.x, 5, none⟩), preV f len] W fun e w' => e = .returned (.pointer none) ∧ Qt W w') := HC
    clear HC HS
    show Calls _ _ _ _ fun e w' => e = .returned (.int .u64 0) ∧ Qt w w'
    go_enter Try.func12, Try.ntmps12
    go_upto_region 4 with (go_at_call 19; refine HP.out.mono ?_; rintro e w1 ⟨rfl, hq⟩; have HQ := Lib.hid hq; clear hq)
    have HB := Lib.hid (Blk.new w1 preT (preC f len))
    have HK : Hid (Qt w (w1.alloc (.cells (preC f len) preT))) := Lib.hid (HQ.out.alloc _)
    generalize hpb : w1.heap.size = pb at *
    generalize World.alloc w1 _ = W at HB HK ⊢
    clear hpb
    have HGd := Lib.hid ((H.out.quiet HK.out).drew)
    have S0 : Hid (W.cell? ⟨pb, 0, none⟩ = some (.string f) ∧ W.cell? ⟨pb, 1, none⟩ = some (.int .i64 len)) := ⟨HB.out.cell 0, HB.out.cell 1⟩
    go_region_held3 (fun U => U.cell? ⟨pb, 0, none⟩ = some (.string f) ∧ U.cell? ⟨pb, 1, none⟩ = some (.int .i64 len))
      (first | exact S0.out | exact S1.out)
      (first | (go_at_call 23; refine (HC2.out _ HGd.out).mono ?_; rintro e w2 ⟨rfl, hq2⟩; have hb2 := HB.out.drew.quiet hq2; have S1 : Hid (w2.cell? ⟨pb, 0, none⟩ = some (.string f) ∧ w2.cell? ⟨pb, 1, none⟩ = some (.int .i64 len)) := ⟨hb2.cell 0, hb2.cell 1⟩; have HQ2 := Lib.hid hq2.undrew; clear hq2 hb2))
    go_wp2_with fail
    go_ret
    exact ⟨rfl, HK.out.then_ HQ2.out⟩
  · have HC2 : Hid (∀ W, PG p w0 P0 s T t W → Calls Try.prog 23 #[.pointer (some ⟨p.x, 5, none⟩), preV f len] W fun e w' => e = .returned (tp b) ∧ Qt W w') := HC
    have hbn : ∀ W, PG p w0 P0 s T t W → ∃ vl vr, Blk W b nodeT (nodeC e.key (lenB e.key) e.n vl vr) := fun W hG => by
      rcases HS.out with ⟨h1, _⟩ | ⟨b', e', h1, h2, _⟩
      · cases h1
      · cases h1
        obtain ⟨vl, vr, h3, _⟩ := Tr.At.has hG.at_ hG.ok h2
        exact ⟨vl, vr, h3⟩
    have HBN := Lib.hid hbn
    clear HC HS hbn
    show Calls _ _ _ _ fun e' w' => e' = .returned (.int .u64 (addr e.n 0)) ∧ Qt w w'
    go_enter Try.func12, Try.ntmps12
    go_upto_region 4 with (go_at_call 19; refine HP.out.mono ?_; rintro e' w1 ⟨rfl, hq⟩; have HQ := Lib.hid hq; clear hq)
    have HB := Lib.hid (Blk.new w1 preT (preC f len))
    have HK : Hid (Qt w (w1.alloc (.cells (preC f len) preT))) := Lib.hid (HQ.out.alloc _)
    generalize hpb : w1.heap.size = pb at *
    generalize World.alloc w1 _ = W at HB HK ⊢
    clear hpb
    have HGd := Lib.hid ((H.out.quiet HK.out).drew)
    have S0 : Hid (W.cell? ⟨pb, 0, none⟩ = some (.string f) ∧ W.cell? ⟨pb, 1, none⟩ = some (.int .i64 len)) := ⟨HB.out.cell 0, HB.out.cell 1⟩
    go_region_held3 (fun U => U.cell? ⟨pb, 0, none⟩ = some (.string f) ∧ U.cell? ⟨pb, 1, none⟩ = some (.int .i64 len))
      (first | exact S0.out | exact S1.out)
      (first | (go_at_call 23; refine (HC2.out _ HGd.out).mono ?_; rintro e' w2 ⟨rfl, hq2⟩; have hb2 := HB.out.drew.quiet hq2; have S1 : Hid (w2.cell? ⟨pb, 0, none⟩ = some (.string f) ∧ w2.cell? ⟨pb, 1, none⟩ = some (.int .i64 len)) := ⟨hb2.cell 0, hb2.cell 1⟩; have HQ2 := Lib.hid hq2.undrew; clear hq2 hb2))
    obtain ⟨vl, vr, hb3⟩ := HBN.out w2 (H.out.quiet (HK.out.then_ HQ2.out))
    have z2 : w2.cell? ⟨b, 2, none⟩ = some (.int .u64 (addr e.n 0)) := hb3.cell 2
    clear hb3
    go_wp2_with fail
    go_ret
    exact ⟨rfl, HK.out.then_ HQ2.out⟩
/-- Lookup: what the plain list tells. -/
theorem PG.look (h : PG p w0 P0 s T t w) (ho : HOk p s) (key : ByteArray) : Calls Try.prog 12 #[tp p.x, .string key] w fun e w' => e = .returned (.int .u64 (lookA p s key)) ∧ PG p w0 P0 s T t w' := by
  unfold lookA
  by_cases hk : IsKey p.key key
  · rw [if_pos hk]
    refine (h.look_tree ho.par hk _ rfl).mono ?_
    rintro e w' ⟨rfl, hq⟩
    refine ⟨?_, h.quiet hq⟩
    congr 2
    have hq' := hk.pre ho.par.k1 ho.par.k2
    have hag : Agree (formB key) key (lenB key) := cut_agree key (lenB key) (by rw [hk.1]; exact hk.2)
    have mt : ∀ x, Match x (formB key) (lenB key) ↔ Match x key (lenB key) := fun x => ⟨fun ⟨h1, h2⟩ => ⟨h1, h2.trans (hag.mono h1)⟩, fun ⟨h1, h2⟩ => ⟨h1, h2.trans (hag.mono h1).symm⟩⟩
    rcases Tr.look_spec (best := none) (pf := formB key) (pl := lenB key) h.ok (from_zero t (formB key)) (Agree.refl _ _) with ⟨h1, h2⟩ | ⟨b, e, h1, h2, h3⟩
    · rw [h1]
      rcases hl : longTo s.es key s.es.length with _ | e
      · rfl
      · obtain ⟨q1, q2, _⟩ := look_some hl
        exact absurd ((mt e).2 q2) (h2 e ((h.dat e).2 q1))
    · rw [h1]
      have hL : Longest s.es key (lenB key) e := ⟨(h.dat e).1 h3.1, (mt e).1 h3.2.1, fun x hx hm => h3.2.2 x ((h.dat x).2 hx) ((mt x).2 hm)⟩
      rcases hl : longTo s.es key s.es.length with _ | e'
      · exact absurd hL.2.1 (look_none hl e hL.1)
      · rw [Longest.uniq ho hL (look_some hl)]; rfl
  · rw [if_neg hk]
    refine (look_bad (h.pre_no ho.par hk)).mono ?_
    rintro e w' ⟨rfl, hq⟩
    exact ⟨rfl, h.quiet hq⟩
theorem PO.look (h : PO p w0 P0 s T w) (ho : HOk p s) (key : ByteArray) : Calls Try.prog 12 #[tp p.x, .string key] w fun e w' => e = .returned (.int .u64 (lookA p s key)) ∧ PO p w0 P0 s T w' := by
  refine (look_bad (h.pre key)).mono ?_
  rintro e w' ⟨rfl, hq⟩
  refine ⟨?_, h.quiet hq⟩
  unfold lookA
  rw [ho.gone h.gone]
  split <;> rfl
theorem ph_look (key : ByteArray) (ho : HOk p s) : FCallH PH p 12 #[tp p.x, .string key] s s (.returned (.int .u64 (lookA p s key))) := by
  refine PH.of (fun hg w P T t hG => ?_) (fun hg w P T hO => ?_)
  · refine (hG.look ho key).mono ?_
    rintro e w' ⟨rfl, h'⟩
    exact ⟨rfl, .inl ⟨T, t, h'⟩⟩
  · refine (hO.look ho key).mono ?_
    rintro e w' ⟨rfl, h'⟩
    exact ⟨rfl, T, h'⟩
theorem mlen_any {x : Nat} {c : Nat} (hc : w.cell? ⟨x, 6, none⟩ = some (.int .i64 c)) : Calls Try.prog 14 #[tp x] w fun e w' => e = .returned (.int .i64 c) ∧ w = w' := by
  go_enter Try.func14, Try.ntmps14
  go_wp2_with fail
  go_ret
  exact ⟨rfl, rfl⟩
theorem ph_len {P : Nat → Prop} {w : World} (ho : HOk p s) (hx : PH p s P w) : Calls Try.prog 14 #[tp p.x] w fun e w' => e = .returned (.int .i64 s.es.length) ∧ w = w' := by
  rcases hx with ⟨T, hO⟩ | ⟨T, t, hG⟩
  · have e : s.es.length = 0 := by rw [ho.gone hO.gone]; rfl
    rw [e]
    exact mlen_any (c := 0) (hO.map.cell 6)
  · exact mlen_any (hG.map.cell 6)
end
end Go.Proofs.Ytomhflaofipccaa
