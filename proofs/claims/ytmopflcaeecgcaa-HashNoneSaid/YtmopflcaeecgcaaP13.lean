/-
  A table's plain state, what holds of it, and what each deed does to it. A table, deed by deed: the one answer, the plain state behind it; the reference gives it.
-/
import Derived.Test.YtmopflcaeecgcaaP12
namespace Go.Proofs.Ytmopflcaeecgcaa
open Go Go.RowKit Go.Maps
set_option linter.unusedVariables false
set_option linter.unusedSimpArgs false
structure HPar.Ok (p : HPar) : Prop where
  kind : p.k = 1 ∨ p.k = 9
  k1 : 1 ≤ p.key
  k2 : p.key ≤ 512
  v1 : 1 ≤ p.v
  v2 : p.v ≤ 4096
  m1 : 1 ≤ p.mx
  m2 : p.mx ≤ 4096
/-- What always holds of a table. -/
structure HOk (p : HPar) (s : HSt) : Prop where
  par : p.Ok
  len : s.es.length ≤ p.mx
  ent : ∀ (i : Nat) (e : Ent), s.es[i]? = some e → (1 ≤ e.n ∧ e.n ≤ s.m.made) ∧ e.key.size = p.key ∧ (1 ≤ e.used ∧ e.used ≤ s.clock) ∧ ∃ b, s.m.vs e.n = some (3, b, false) ∧ b.length = p.v
  apart : ∀ (i j : Nat) (a b : Ent), s.es[i]? = some a → s.es[j]? = some b → i ≠ j → a.n ≠ b.n ∧ keyB a.key b.key = false ∧ a.used ≠ b.used
  gone : s.gone = true → s.es = []
section
variable {p : HPar} {s s' : HSt}
theorem HOk.mem (h : HOk p s) {m' : PS} (hm : s.m.made ≤ m'.made) (hv : ∀ (i : Nat) (e : Ent) (b : List UInt8), s.es[i]? = some e → s.m.vs e.n = some (3, b, false) → b.length = p.v → ∃ b', m'.vs e.n = some (3, b', false) ∧ b'.length = p.v) : HOk p { s with m := m' } :=
  ⟨h.par, h.len, fun i e he => by
    obtain ⟨h1, h2, h3, b, h4, h5⟩ := h.ent i e he
    exact ⟨⟨h1.1, Nat.le_trans h1.2 hm⟩, h2, h3, hv i e b he h4 h5⟩, h.apart, h.gone⟩
theorem setUsed_at {es : List Ent} {i u j : Nat} {e : Ent} (h : (setUsed es i u)[j]? = some e) : ∃ e', es[j]? = some e' ∧ ((j = i ∧ e = { e' with used := u }) ∨ (j ≠ i ∧ e = e')) := by
  unfold setUsed at h
  by_cases hj : j = i
  · subst hj
    rw [List.getElem?_modify_eq] at h
    rcases he : es[j]? with _ | e'
    · rw [he] at h; cases h
    · rw [he] at h
      simp at h
      exact ⟨e', rfl, .inl ⟨rfl, h.symm⟩⟩
  · have hij : i ≠ j := fun x => hj x.symm
    have h2 := h
    rw [List.getElem?_modify] at h2
    simp only [hij, if_false] at h2
    refine ⟨e, ?_, .inr ⟨hj, rfl⟩⟩
    simpa using h2
theorem HOk.use (h : HOk p s) (i : Nat) : HOk p (s.use i) := by
  refine ⟨h.par, by show (setUsed _ _ _).length ≤ _; rw [setUsed_length]; exact h.len, fun j e he => ?_, fun j k a b ha hb hjk => ?_, fun hg => ?_⟩
  · obtain ⟨e', he', hh⟩ := setUsed_at he
    obtain ⟨h1, h2, h3, h4⟩ := h.ent j e' he'
    rcases hh with ⟨_, rfl⟩ | ⟨_, rfl⟩
    · exact ⟨h1, h2, ⟨by show 1 ≤ s.clock + 1; omega, Nat.le_refl _⟩, h4⟩
    · exact ⟨h1, h2, ⟨h3.1, by have := h3.2; show _ ≤ s.clock + 1; omega⟩, h4⟩
  · obtain ⟨a', ha', hha⟩ := setUsed_at ha
    obtain ⟨b', hb', hhb⟩ := setUsed_at hb
    obtain ⟨h1, h2, h3⟩ := h.apart j k a' b' ha' hb' hjk
    have ua := (h.ent j a' ha').2.2.1.2
    have ub := (h.ent k b' hb').2.2.1.2
    rcases hha with ⟨e1, rfl⟩ | ⟨e1, rfl⟩ <;> rcases hhb with ⟨e2, rfl⟩ | ⟨e2, rfl⟩
    · omega
    · exact ⟨h1, h2, by show s.clock + 1 ≠ _; omega⟩
    · exact ⟨h1, h2, by show _ ≠ s.clock + 1; omega⟩
    · exact ⟨h1, h2, h3⟩
  · have : s.es = [] := h.gone hg
    show setUsed s.es i (s.clock + 1) = []
    rw [this]; simp [setUsed]
theorem HOk.put (h : HOk p s) {i : Nat} {e : Ent} (he : s.es[i]? = some e) {b l : List UInt8} (hb : s.m.vs e.n = some (3, b, false)) (hl : l.length ≤ p.v) : HOk p (s.put e (3, b, false) l) := by
  refine h.mem (m' := s.m.set e.n (some (3, setAt b 0 l, false))) (Nat.le_refl _) fun j e' b' he' hb' hl' => ?_
  by_cases hn : e'.n = e.n
  · rw [hn] at hb' ⊢
    rw [hb] at hb'
    cases hb'
    exact ⟨_, updv_same _ _ _, by rw [setAt_length _ _ _ (by omega)]; exact hl'⟩
  · exact ⟨b', (updv_other _ _ hn).trans hb', hl'⟩
theorem HOk.alloc (h : HOk p s) (v : Nat) : HOk p (s.alloc v) := by
  refine h.mem (m' := s.m.grown v) (Nat.le_succ _) fun j e b he hb hl => ⟨b, ?_, hl⟩
  have := (h.ent j e he).1.2
  exact (updv_other _ _ (by omega)).trans hb
theorem HOk.grace (h : HOk p s) : HOk p { s with m := s.m.graced } := by
  refine h.mem (m' := s.m.graced) (Nat.le_refl _) fun j e b he hb hl => ⟨b, ?_, hl⟩
  show gracev s.m.vs s.m.made e.n = _
  unfold gracev
  rw [if_pos (h.ent j e he).1.2, hb]
  rfl
theorem HOk.failing (h : HOk p s) (n : Nat) : HOk p { s with m := { s.m with fail := n } } :=
  h.mem (m' := { s.m with fail := n }) (Nat.le_refl _) fun j e b he hb hl => ⟨b, hb, hl⟩
theorem erase_at {es : List Ent} {i j : Nat} {e : Ent} (h : (es.eraseIdx i)[j]? = some e) : es[if j < i then j else j + 1]? = some e := by
  rw [List.getElem?_eraseIdx] at h
  split at h
  · rw [if_pos (by assumption)]; exact h
  · rw [if_neg (by assumption)]; exact h
theorem HOk.cut (h : HOk p s) {i : Nat} {e : Ent} (he : s.es[i]? = some e) (q : RV) : HOk p (s.cut i e q) := by
  have hi := (List.getElem?_eq_some_iff.1 he).1
  refine ⟨h.par, ?_, fun j e' he' => ?_, fun j k a b ha hb hjk => ?_, fun hg => ?_⟩
  · show (s.es.eraseIdx i).length ≤ _
    have := h.len
    rw [List.length_eraseIdx, if_pos hi]; omega
  · have h0 := erase_at he'
    obtain ⟨h1, h2, h3, b, h4, h5⟩ := h.ent _ e' h0
    have hne : e'.n ≠ e.n := (h.apart _ i e' e h0 he (by split <;> omega)).1
    exact ⟨h1, h2, h3, b, (updv_other _ _ hne).trans h4, h5⟩
  · exact h.apart _ _ a b (erase_at ha) (erase_at hb) (by split <;> split <;> omega)
  · have : s.es = [] := h.gone hg
    rw [this] at hi; simp at hi
theorem findE_none_key : ∀ {es : List Ent} {k : ByteArray} {i : Nat} {e : Ent}, findE es k = none → es[i]? = some e → keyB e.key k = false
  | [], _, _, _, _, h => by simp at h
  | e' :: es, k, i, e, hf, he => by
    unfold findE at hf
    split at hf
    · cases hf
    · rename_i hn
      cases i with
      | zero => simp at he; subst he; simpa using hn
      | succ i => exact findE_none_key (Option.map_eq_none_iff.1 hf) (by simpa using he)
theorem keyB_symm (a b : ByteArray) : keyB a b = keyB b a := by
  unfold keyB
  rw [Bool.eq_iff_iff]
  simp only [beq_iff_eq]
  exact eq_comm
/-- A new entry, used. -/
theorem HOk.fresh (h : HOk p s) (hg : s.gone = false) (hl : s.es.length < p.mx) (n : Nat) (key : ByteArray) (l : List UInt8) (hk : key.size = p.key) (hll : l.length = p.v) (hn : 1 ≤ n ∧ n ≤ s.m.made) (hnew : ∀ (i : Nat) (e : Ent), s.es[i]? = some e → e.n ≠ n) (hf : ∀ (i : Nat) (e : Ent), s.es[i]? = some e → keyB e.key key = false) :
    HOk p ((s.fresh n key l p.v).use s.es.length) := by
  have hbl : (setAt (List.replicate p.v (0 : UInt8)) 0 l).length = p.v := by rw [setAt_length _ _ _ (by rw [List.length_replicate]; omega), List.length_replicate]
  have at_ : ∀ {j e}, ((s.fresh n key l p.v).use s.es.length).es[j]? = some e → (j < s.es.length ∧ s.es[j]? = some e) ∨ (j = s.es.length ∧ e = ⟨key, n, s.clock + 1⟩) := by
    intro j e he
    obtain ⟨e', he', hh⟩ := setUsed_at he
    have he2 : (s.es ++ [⟨key, n, 0⟩])[j]? = some e' := he'
    rcases Nat.lt_or_ge j s.es.length with hj | hj
    · rw [List.getElem?_append_left hj] at he2
      rcases hh with ⟨e1, _⟩ | ⟨_, rfl⟩
      · omega
      · exact .inl ⟨hj, he2⟩
    · have hj2 := (List.getElem?_eq_some_iff.1 he').1
      have : j = s.es.length := by
        have : (s.fresh n key l p.v).es.length = s.es.length + 1 := by simp [HSt.fresh]
        omega
      subst this
      simp at he2
      subst he2
      rcases hh with ⟨_, rfl⟩ | ⟨e1, _⟩
      · exact .inr ⟨rfl, rfl⟩
      · exact absurd rfl e1
  have vsn : ((s.fresh n key l p.v).use s.es.length).m.vs n = some (3, setAt (List.replicate p.v 0) 0 l, false) := updv_same _ _ _
  refine ⟨h.par, ?_, fun j e he => ?_, fun j k a b ha hb hjk => ?_, fun hg' => ?_⟩
  · show (setUsed (s.es ++ [_]) _ _).length ≤ _
    rw [setUsed_length, List.length_append]
    simp; omega
  · rcases at_ he with ⟨hj, he'⟩ | ⟨_, rfl⟩
    · obtain ⟨h1, h2, h3, b, h4, h5⟩ := h.ent j e he'
      exact ⟨h1, h2, ⟨h3.1, by have := h3.2; show _ ≤ s.clock + 1; omega⟩, b, (updv_other _ _ (hnew j e he')).trans h4, h5⟩
    · exact ⟨hn, hk, ⟨by show 1 ≤ s.clock + 1; omega, Nat.le_refl _⟩, _, vsn, hbl⟩
  · rcases at_ ha with ⟨hj, ha'⟩ | ⟨e1, rfl⟩ <;> rcases at_ hb with ⟨hk', hb'⟩ | ⟨e2, rfl⟩
    · exact h.apart j k a b ha' hb' hjk
    · refine ⟨hnew j a ha', hf j a ha', ?_⟩
      have := (h.ent j a ha').2.2.1.2
      show _ ≠ s.clock + 1; omega
    · refine ⟨fun e => hnew k b hb' e.symm, by rw [keyB_symm]; exact hf k b hb', ?_⟩
      have := (h.ent k b hb').2.2.1.2
      show s.clock + 1 ≠ _; omega
    · omega
  · have : s.gone = true := hg'
    rw [hg] at this; cases this
/-- Each region is there when its turn comes. -/
theorem freeTo_vs (m : PS) (es : List Ent) (n : Nat) : ∀ j, (∀ (i : Nat) (e : Ent), i < j → es[i]? = some e → e.n ≠ n) → (freeTo m es j).vs n = m.vs n
  | 0, _ => rfl
  | j + 1, h => by
    have ih := freeTo_vs m es n j fun i e hi he => h i e (by omega) he
    rcases he : es[j]? with _ | e
    · rw [freeTo, he]; exact ih
    · rw [freeTo_step he]
      show updv _ _ _ n = _
      rw [updv_other _ _ (fun x => h j e (by omega) he x.symm)]
      exact ih
theorem HOk.frees (h : HOk p s) : ∀ (j : Nat) (e : Ent), s.es[j]? = some e → ∃ q, (freeTo s.m s.es j).vs e.n = some q := by
  intro j e he
  obtain ⟨_, _, _, b, h4, _⟩ := h.ent j e he
  refine ⟨_, (freeTo_vs s.m s.es e.n j fun i e' hi he' => ?_).trans h4⟩
  exact (h.apart i j e' e he' he (by omega)).1
theorem freeTo_made (m : PS) (es : List Ent) : ∀ j, (freeTo m es j).made = m.made ∧ (freeTo m es j).fail = m.fail
  | 0 => ⟨rfl, rfl⟩
  | j + 1 => by
    have ih := freeTo_made m es j
    rcases he : es[j]? with _ | e
    · rw [freeTo, he]; exact ih
    · rw [freeTo_step he]; exact ih
theorem HOk.freed (h : HOk p s) (m' : PS) : HOk p { s with m := m', es := [], gone := true } :=
  ⟨h.par, Nat.zero_le _, fun i e he => by simp at he, fun i j a b ha => by simp at ha, fun _ => rfl⟩
end
end Go.Proofs.Ytmopflcaeecgcaa
namespace Go.Proofs.Ytmopflcaeecgcaa
open Go Go.RowKit Go.Maps
set_option linter.unusedVariables false
set_option linter.unusedSimpArgs false
/-- A call on the reference's table: from plain state s the answer is e0, and it leads to s'. -/
def GCallH (p : HPar) (f : FuncId) (args : Array Value) (s s' : HSt) (e0 : Ending) : Prop := ∀ w Q, YH p s Q w → Calls Try.prog f args w fun e w' => e = e0 ∧ YH p s' (more Q w w') w' ∧ Keeps Q w w'
def HSt.rem (s : HSt) (i : Nat) : HSt := (s.es[i]?).elim s fun e => (s.m.vs e.n).elim s fun q => s.cut i e q
def HSt.putAt (s : HSt) (i : Nat) (l : List UInt8) : HSt := (s.es[i]?).elim s fun e => (s.m.vs e.n).elim s fun q => s.put e q l
def lookA (s : HSt) (key : ByteArray) : Int := (findE s.es key).elim 0 fun i => (s.es[i]?).elim 0 fun e => addr e.n 0
def lookS (s : HSt) (key : ByteArray) : HSt := (findE s.es key).elim s fun i => s.use i
def delBad (p : HPar) (s : HSt) (key : ByteArray) : Prop := s.gone = true ∨ key.size ≠ p.key
instance (p : HPar) (s : HSt) (key : ByteArray) : Decidable (delBad p s key) := by unfold delBad; infer_instance
def delA (p : HPar) (s : HSt) (key : ByteArray) : Int := if delBad p s key then 1 else (findE s.es key).elim 4 fun _ => 0
def delS (p : HPar) (s : HSt) (key : ByteArray) : HSt := if delBad p s key then s else (findE s.es key).elim s fun i => s.rem i
def updBad (p : HPar) (s : HSt) (key value : ByteArray) (fl : Int) : Prop := s.gone = true ∨ key.size ≠ p.key ∨ value.size ≠ p.v ∨ fl < 0 ∨ 2 < fl
instance (p : HPar) (s : HSt) (key value : ByteArray) (fl : Int) : Decidable (updBad p s key value fl) := by unfold updBad; infer_instance
/-- Room is made, if there is none, and a new entry comes. -/
def HSt.insert (p : HPar) (s : HSt) (key : ByteArray) (l : List UInt8) : HSt :=
  if s.es.length = p.mx then (((s.alloc p.v).rem (oldTo s.es s.es.length)).fresh (s.m.made + 1) key l p.v).use (s.es.length - 1)
  else ((s.alloc p.v).fresh (s.m.made + 1) key l p.v).use s.es.length
def updA (p : HPar) (s : HSt) (key value : ByteArray) (fl : Int) : Int :=
  if updBad p s key value fl then 1 else (findE s.es key).elim (if fl = 2 then 4 else if s.es.length = p.mx ∧ p.k = 1 then 3 else if s.m.fail = 1 then 2 else 0) fun _ => if fl = 1 then 5 else 0
def updS (p : HPar) (s : HSt) (key value : ByteArray) (fl : Int) : HSt :=
  if updBad p s key value fl then s else (findE s.es key).elim (if fl = 2 then s else if s.es.length = p.mx ∧ p.k = 1 then s else if s.m.fail = 1 then { s with m := { s.m with fail := 0 } } else s.insert p key value.data.toList)
    fun i => if fl = 1 then s else (s.putAt i value.data.toList).use i
def nextE (p : HPar) (s : HSt) (key : ByteArray) : Ending := nextA (nextTo p.key s.es key s.es.length)
def freeS (s : HSt) : HSt := if s.gone = true then s else { s with m := freeTo s.m s.es s.es.length, es := [], gone := true }
def freeA (s : HSt) : Int := if s.gone = true then 1 else 0
/-- What holds goes on holding; numbers grow by one at most. -/
structure Goes (p : HPar) (s s' : HSt) : Prop where
  ok : HOk p s'
  clock : s'.clock ≤ s.clock + 1
  made : s'.m.made ≤ s.m.made + 1
section
variable {p : HPar} {s s' : HSt} {f : FuncId} {args : Array Value} {e0 : Ending}
theorem GCallH.of (h : ∀ w0 Q0 T V w, YS p w0 Q0 s T V w → Calls Try.prog f args w fun e w' => e = e0 ∧ ∃ T' V', YS p w0 Q0 s' T' V' w') : GCallH p f args s s' e0 := by
  rintro w Q ⟨T, V, hy⟩
  refine (h w Q T V w hy.start).mono ?_
  rintro e w' ⟨rfl, T', V', h'⟩
  exact ⟨rfl, h'.done⟩
theorem GCallH.same (h : ∀ w0 Q0 T V w, YS p w0 Q0 s T V w → Calls Try.prog f args w fun e w' => e = e0 ∧ w = w') : GCallH p f args s s e0 :=
  .of fun w0 Q0 T V w hy => by
    refine (h w0 Q0 T V w hy).mono ?_
    rintro e w' ⟨rfl, rfl⟩
    exact ⟨rfl, T, V, hy⟩
theorem GCallH.mem {m' : PS} (c : XCall f args p.bx s.m m' e0) : GCallH p f args s { s with m := m' } e0 :=
  .of fun w0 Q0 T V w hy => by
    refine (hy.call c).mono ?_
    rintro e w' ⟨rfl, T', h'⟩
    exact ⟨rfl, T', V, h'⟩
theorem bstr_data (s : ByteArray) : s = bstr s.data.toList := by unfold bstr; simp
theorem HOk.le (h : HOk p s) : s.es.length ≤ 4096 := Nat.le_trans h.len h.par.m2
theorem found {es : List Ent} {key : ByteArray} {i : Nat} (hf : findE es key = some i) : ∃ e, es[i]? = some e := ⟨_, List.getElem?_eq_getElem (find_lt hf)⟩
theorem rem_eq {i : Nat} {e : Ent} {q : RV} (he : s.es[i]? = some e) (hq : s.m.vs e.n = some q) : s.rem i = s.cut i e q := by unfold HSt.rem; rw [he]; show (s.m.vs e.n).elim s _ = _; rw [hq]; rfl
theorem putAt_eq {i : Nat} {l : List UInt8} {e : Ent} {q : RV} (he : s.es[i]? = some e) (hq : s.m.vs e.n = some q) : s.putAt i l = s.put e q l := by unfold HSt.putAt; rw [he]; show (s.m.vs e.n).elim s _ = _; rw [hq]; rfl
theorem g_look (h : HOk p s) (hc : s.clock < 1000000) (key : ByteArray) : GCallH p 28 #[tp p.y, .string key] s (lookS s key) (.returned (.int .u64 (lookA s key))) := by
  rcases hf : findE s.es key with _ | i
  · rw [show lookS s key = s by unfold lookS; rw [hf]; rfl, show lookA s key = 0 by unfold lookA; rw [hf]; rfl]
    exact .same fun w0 Q0 T V w hy => hy.look_none h.le key hf
  · obtain ⟨e, he⟩ := found hf
    rw [show lookS s key = s.use i by unfold lookS; rw [hf]; rfl, show lookA s key = addr e.n 0 by unfold lookA; rw [hf]; show (s.es[i]?).elim 0 _ = _; rw [he]; rfl]
    refine .of fun w0 Q0 T V w hy => (hy.look_some h.le hc key i hf e he).mono ?_
    rintro e' w' ⟨rfl, h'⟩
    exact ⟨rfl, T, V, h'⟩
theorem look_goes (h : HOk p s) (key : ByteArray) : Goes p s (lookS s key) := by
  unfold lookS
  rcases findE s.es key with _ | i
  · exact ⟨h, Nat.le_succ _, Nat.le_succ _⟩
  · exact ⟨h.use i, Nat.le_refl _, Nat.le_succ _⟩
theorem g_del (h : HOk p s) (key : ByteArray) : GCallH p 30 #[tp p.y, .string key] s (delS p s key) (.returned (.int .i64 (delA p s key))) := by
  by_cases hb : delBad p s key
  · rw [show delS p s key = s by unfold delS; rw [if_pos hb], show delA p s key = 1 by unfold delA; rw [if_pos hb]]
    exact .same fun w0 Q0 T V w hy => hy.del_bad key hb
  · have hg : s.gone = false := by cases hg : s.gone; rfl; exact absurd (.inl hg) hb
    have hk : key.size = p.key := Classical.byContradiction fun hk => hb (.inr hk)
    rcases hf : findE s.es key with _ | i
    · rw [show delS p s key = s by unfold delS; rw [if_neg hb, hf]; rfl, show delA p s key = 4 by unfold delA; rw [if_neg hb, hf]; rfl]
      exact .same fun w0 Q0 T V w hy => hy.del_none h.le hg key hk hf
    · obtain ⟨e, he⟩ := found hf
      obtain ⟨_, _, _, b, hq, _⟩ := h.ent i e he
      rw [show delS p s key = s.cut i e (3, b, false) by unfold delS; rw [if_neg hb, hf]; exact rem_eq he hq, show delA p s key = 0 by unfold delA; rw [if_neg hb, hf]; rfl]
      exact .of fun w0 Q0 T V w hy => hy.del_some h.le hg key hk i hf e he _ hq rfl
theorem del_goes (h : HOk p s) (key : ByteArray) : Goes p s (delS p s key) := by
  have h0 : Goes p s s := ⟨h, Nat.le_succ _, Nat.le_succ _⟩
  unfold delS
  split
  · exact h0
  · rcases hf : findE s.es key with _ | i
    · exact h0
    · obtain ⟨e, he⟩ := found hf
      obtain ⟨_, _, _, b, hq, _⟩ := h.ent i e he
      show Goes p s (s.rem i)
      rw [rem_eq he hq]
      exact ⟨h.cut he _, Nat.le_succ _, Nat.le_succ _⟩
theorem g_next (h : HOk p s) (key : ByteArray) : GCallH p 31 #[tp p.y, .string key] s s (nextE p s key) :=
  .same fun w0 Q0 T V w hy => hy.next h.le key
theorem g_free (h : HOk p s) : GCallH p 35 #[tp p.y] s (freeS s) (.returned (.int .i64 (freeA s))) := by
  cases hg : s.gone
  · rw [show freeS s = { s with m := freeTo s.m s.es s.es.length, es := [], gone := true } by unfold freeS; rw [if_neg (by rw [hg]; decide)], show freeA s = 0 by unfold freeA; rw [if_neg (by rw [hg]; decide)]]
    exact .of fun w0 Q0 T V w hy => hy.free_all h.le hg h.frees
  · rw [show freeS s = s by unfold freeS; rw [if_pos hg], show freeA s = 1 by unfold freeA; rw [if_pos hg]]
    exact .same fun w0 Q0 T V w hy => hy.free_gone hg
theorem free_goes (h : HOk p s) : Goes p s (freeS s) := by
  unfold freeS
  split
  · exact ⟨h, Nat.le_succ _, Nat.le_succ _⟩
  · exact ⟨h.freed _, Nat.le_succ _, by show (freeTo _ _ _).made ≤ _; rw [(freeTo_made _ _ _).1]; exact Nat.le_succ _⟩
/-- The three ways of an insert. -/
theorem insert_facts (h : HOk p s) (hn : s.es.length = p.mx) : ∃ eo bo, s.es[oldTo s.es s.es.length]? = some eo ∧ (s.alloc p.v).m.vs eo.n = some (3, bo, false) ∧ ((s.alloc p.v).cut (oldTo s.es s.es.length) eo (3, bo, false)).m.vs (s.m.made + 1) = some (3, List.replicate p.v 0, false) := by
  have hlt := oldTo_lt s.es s.es.length (by have := h.par.m1; omega)
  obtain ⟨eo, heo⟩ : ∃ e, s.es[oldTo s.es s.es.length]? = some e := ⟨_, List.getElem?_eq_getElem hlt⟩
  obtain ⟨h1, _, _, bo, hq, _⟩ := h.ent _ eo heo
  have hne : eo.n ≠ s.m.made + 1 := by omega
  refine ⟨eo, bo, heo, (updv_other _ _ hne).trans hq, ?_⟩
  exact (updv_other _ _ (fun e => hne e.symm)).trans (grown_new s.m p.v)
theorem insert_lru (h : HOk p s) (hn : s.es.length = p.mx) (key : ByteArray) (l : List UInt8) {eo : Ent} {bo : List UInt8} (heo : s.es[oldTo s.es s.es.length]? = some eo) (hqo : (s.alloc p.v).m.vs eo.n = some (3, bo, false)) :
    s.insert p key l = (((s.alloc p.v).cut (oldTo s.es s.es.length) eo (3, bo, false)).fresh (s.m.made + 1) key l p.v).use (s.es.length - 1) := by
  unfold HSt.insert
  rw [if_pos hn, rem_eq (s := s.alloc p.v) heo hqo]
theorem insert_goes (h : HOk p s) (hg : s.gone = false) (key : ByteArray) (l : List UInt8) (hk : key.size = p.key) (hl : l.length = p.v) (hf : findE s.es key = none) : Goes p s (s.insert p key l) := by
  have hnew : ∀ (i : Nat) (e : Ent), s.es[i]? = some e → e.n ≠ s.m.made + 1 := fun i e he => by have := (h.ent i e he).1; omega
  have hkey : ∀ (i : Nat) (e : Ent), s.es[i]? = some e → keyB e.key key = false := fun i e he => findE_none_key hf he
  by_cases hn : s.es.length = p.mx
  · obtain ⟨eo, bo, heo, hqo, hB⟩ := insert_facts h hn
    rw [insert_lru h hn key l heo hqo]
    have hlt := (List.getElem?_eq_some_iff.1 heo).1
    have h2 := (h.alloc p.v).cut (i := oldTo s.es s.es.length) heo (3, bo, false)
    have hlen : ((s.alloc p.v).cut (oldTo s.es s.es.length) eo (3, bo, false)).es.length = s.es.length - 1 := by show (s.es.eraseIdx _).length = _; rw [List.length_eraseIdx, if_pos hlt]
    have h3 := h2.fresh hg (by rw [hlen]; omega) (s.m.made + 1) key l hk hl ⟨by omega, Nat.le_refl _⟩ (fun i e he => hnew _ e (erase_at he)) (fun i e he => hkey _ e (erase_at he))
    rw [hlen] at h3
    exact ⟨h3, Nat.le_refl _, Nat.le_refl _⟩
  · have e : s.insert p key l = ((s.alloc p.v).fresh (s.m.made + 1) key l p.v).use s.es.length := by unfold HSt.insert; rw [if_neg hn]
    rw [e]
    have hl2 := h.len
    exact ⟨(h.alloc p.v).fresh hg (by show s.es.length < _; omega) (s.m.made + 1) key l hk hl ⟨by omega, Nat.le_refl _⟩ hnew hkey, Nat.le_refl _, Nat.le_refl _⟩
theorem upd_goes (h : HOk p s) (key value : ByteArray) (fl : Int) : Goes p s (updS p s key value fl) := by
  have h0 : Goes p s s := ⟨h, Nat.le_succ _, Nat.le_succ _⟩
  unfold updS
  by_cases hb : updBad p s key value fl
  · rw [if_pos hb]; exact h0
  · rw [if_neg hb]
    have hg : s.gone = false := by cases hg : s.gone; rfl; exact absurd (.inl hg) hb
    have hk : key.size = p.key := Classical.byContradiction fun hk => hb (.inr (.inl hk))
    have hv : value.size = p.v := Classical.byContradiction fun hk => hb (.inr (.inr (.inl hk)))
    have hvl : value.data.toList.length = p.v := by rw [Array.length_toList]; exact hv
    rcases hf : findE s.es key with _ | i
    · show Goes p s (if fl = 2 then s else _)
      split
      · exact h0
      · split
        · exact h0
        · split
          · exact ⟨h.failing 0, Nat.le_succ _, Nat.le_succ _⟩
          · exact insert_goes h hg key _ hk hvl hf
    · show Goes p s (if fl = 1 then s else _)
      split
      · exact h0
      · obtain ⟨e, he⟩ := found hf
        obtain ⟨_, _, _, b, hq, _⟩ := h.ent i e he
        rw [putAt_eq he hq]
        exact ⟨(h.put he hq (by omega)).use i, Nat.le_refl _, Nat.le_succ _⟩
theorem g_upd (h : HOk p s) (hc : s.clock < 1000000) (hm : s.m.made < 4095) (key value : ByteArray) (fl : Int) : GCallH p 29 #[tp p.y, .string key, .string value, .int .i64 fl] s (updS p s key value fl) (.returned (.int .i64 (updA p s key value fl))) := by
  by_cases hb : updBad p s key value fl
  · rw [show updS p s key value fl = s by unfold updS; rw [if_pos hb], show updA p s key value fl = 1 by unfold updA; rw [if_pos hb]]
    exact .same fun w0 Q0 T V w hy => hy.upd_bad key value fl hb
  · have hg : s.gone = false := by cases hg : s.gone; rfl; exact absurd (.inl hg) hb
    have hk : key.size = p.key := Classical.byContradiction fun hk => hb (.inr (.inl hk))
    have hv : value.size = p.v := Classical.byContradiction fun hk => hb (.inr (.inr (.inl hk)))
    have hf0 : 0 ≤ fl := Classical.byContradiction fun hk => hb (.inr (.inr (.inr (.inl (by omega)))))
    have hf2 : fl ≤ 2 := Classical.byContradiction fun hk => hb (.inr (.inr (.inr (.inr (by omega)))))
    have v1 := h.par.v1
    have v2 := h.par.v2
    have m2 := h.par.m2
    have hle := h.len
    rcases hf : findE s.es key with _ | i
    · have eS : updS p s key value fl = (if fl = 2 then s else if s.es.length = p.mx ∧ p.k = 1 then s else if s.m.fail = 1 then { s with m := { s.m with fail := 0 } } else s.insert p key value.data.toList) := by unfold updS; rw [if_neg hb, hf]; rfl
      have eA : updA p s key value fl = (if fl = 2 then 4 else if s.es.length = p.mx ∧ p.k = 1 then 3 else if s.m.fail = 1 then 2 else 0) := by unfold updA; rw [if_neg hb, hf]; rfl
      rw [eS, eA]
      by_cases h2 : fl = 2
      · rw [if_pos h2, if_pos h2]
        exact .same fun w0 Q0 T V w hy => hy.upd_noneE h.le hg key value fl hk hv hf0 hf2 hf h2
      · rw [if_neg h2, if_neg h2]
        by_cases h3 : s.es.length = p.mx ∧ p.k = 1
        · rw [if_pos h3, if_pos h3]
          refine .of fun w0 Q0 T V w hy => (hy.upd_full h.le hg key value fl hk hv hf0 hf2 hf h2 h3.1 h3.2).mono ?_
          rintro e w' ⟨rfl, n, rfl⟩
          exact ⟨rfl, T, V, hy.drewN n⟩
        · rw [if_neg h3, if_neg h3]
          by_cases h4 : s.m.fail = 1
          · rw [if_pos h4, if_pos h4]
            refine .of fun w0 Q0 T V w hy => ?_
            by_cases hn : s.es.length = p.mx
            · refine (hy.upd_mem2 h.le hg key value fl hk hv hf0 hf2 hf h2 hn (fun e => h3 ⟨hn, e⟩) h4 v1 v2).mono ?_
              rintro e w' ⟨rfl, T', h'⟩
              exact ⟨rfl, T', V, h'⟩
            · refine (hy.upd_mem1 h.le hg key value fl hk hv hf0 hf2 hf h2 hn h4 v1 v2).mono ?_
              rintro e w' ⟨rfl, T', h'⟩
              exact ⟨rfl, T', V, h'⟩
          · rw [if_neg h4, if_neg h4]
            refine .of fun w0 Q0 T V w hy => ?_
            by_cases hn : s.es.length = p.mx
            · obtain ⟨eo, bo, heo, hqo, hB⟩ := insert_facts h hn
              rw [insert_lru h hn key _ heo hqo]
              exact hy.upd_lru h.le hg key value fl hk hv hf0 hf2 hf h2 hc hn (fun e => h3 ⟨hn, e⟩) h.par.m1 h4 hm v1 v2 _ (bstr_data value) eo heo _ hqo rfl hB
            · have e : s.insert p key value.data.toList = ((s.alloc p.v).fresh (s.m.made + 1) key value.data.toList p.v).use s.es.length := by unfold HSt.insert; rw [if_neg hn]
              rw [e]
              exact hy.upd_new h.le hg key value fl hk hv hf0 hf2 hf h2 hc hn h4 hm v1 v2 (by omega) _ (bstr_data value)
    · have eS : updS p s key value fl = (if fl = 1 then s else (s.putAt i value.data.toList).use i) := by unfold updS; rw [if_neg hb, hf]; rfl
      have eA : updA p s key value fl = (if fl = 1 then 5 else 0) := by unfold updA; rw [if_neg hb, hf]; rfl
      rw [eS, eA]
      by_cases h1 : fl = 1
      · rw [if_pos h1, if_pos h1]
        exact .same fun w0 Q0 T V w hy => hy.upd_exists h.le hg key value fl hk hv hf0 hf2 i hf h1
      · rw [if_neg h1, if_neg h1]
        obtain ⟨e, he⟩ := found hf
        obtain ⟨hr, _, _, b, hq, hql⟩ := h.ent i e he
        rw [putAt_eq he hq]
        exact .of fun w0 Q0 T V w hy => hy.upd_put h.le hg key value fl hk hv hf0 hf2 hc i hf h1 e he _ hq hql (by omega) v2 _ (bstr_data value)
end
end Go.Proofs.Ytmopflcaeecgcaa
