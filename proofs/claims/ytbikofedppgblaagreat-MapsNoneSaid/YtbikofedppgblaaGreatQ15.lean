/-
  Package hash: plain facts: keys as the map has them, what a map's datum says of entries, the least key and the entry that was used longest ago, whatever the order.
-/
import Derived.Test.YtbikofedppgblaaGreatQ14
import Derived.Maps.RangeWalk
import Derived.Maps.OwnSet
import Derived.Maps.Range
import Derived.Lib.Strings
namespace Go.Proofs.YtbikofedppgblaaGreat
open Go Go.RowKit Go.Maps
set_option linter.unusedVariables false
set_option linter.unusedSimpArgs false
abbrev strT : TypeId := 9
theorem lawS : Keyed Tryz.prog strT := string_keyed Tryz.underlying9
def litS (s : ByteArray) : Lit := .string s.data.toList
theorem keyS {s : ByteArray} (h : s.size ≤ maxLen) : keyOf Tryz.prog strT (.string s) = some (litS s) := by
  simp [keyOf, Tryz.underlying9, mapKey, h, litS]
theorem keyS_inv {key : Value} {kl : Lit} (h : keyOf Tryz.prog strT key = some kl) : ∃ s : ByteArray, key = .string s ∧ kl = litS s := by
  cases key <;> simp [keyOf, Tryz.underlying9, mapKey] at h
  obtain ⟨_, rfl⟩ := h
  exact ⟨_, rfl, rfl⟩
theorem ba_ext {a b : ByteArray} (h : a.data.toList = b.data.toList) : a = b := ByteArray.ext (Array.toList_inj.1 h)
theorem litS_inj {a b : ByteArray} (h : litS a = litS b) : a = b := by
  unfold litS at h
  injection h with h
  exact ba_ext h
theorem litS_ne {a b : ByteArray} (h : a ≠ b) : litS a ≠ litS b := fun e => h (litS_inj e)
theorem isKeyS (s : ByteArray) : WideAt.IsKeyLit (litS s) := trivial
theorem keyB_iff {a b : ByteArray} : keyB a b = true ↔ a = b := by
  unfold keyB
  rw [beq_iff_eq, Lib.toList_data, Lib.toList_data]
  exact ⟨ba_ext, fun h => by rw [h]⟩
theorem keyB_no {a b : ByteArray} : keyB a b = false ↔ a ≠ b := by
  rw [← Bool.not_eq_true, keyB_iff]
/-! ### the order of texts -/
theorem less_irr : ∀ a : List UInt8, Op.bytesLess a a = false
  | [] => rfl
  | a :: x => by simp [Op.bytesLess, less_irr x]
theorem less_trans : ∀ {a b c : List UInt8}, Op.bytesLess a b = true → Op.bytesLess b c = true → Op.bytesLess a c = true
  | _, [], _, h, _ => by simp [Op.bytesLess] at h
  | _, _ :: _, [], _, h => by simp [Op.bytesLess] at h
  | [], _ :: _, _ :: _, _, _ => rfl
  | a :: x, b :: y, c :: z, h1, h2 => by
    simp only [Op.bytesLess, Bool.or_eq_true, decide_eq_true_eq, Bool.and_eq_true, beq_iff_eq, UInt8.lt_iff_toNat_lt] at h1 h2 ⊢
    rcases h1 with h1 | ⟨rfl, h1⟩ <;> rcases h2 with h2 | ⟨rfl, h2⟩
    · left; omega
    · left; exact h1
    · left; exact h2
    · right; exact ⟨rfl, less_trans h1 h2⟩
theorem less_tri : ∀ {a b : List UInt8}, Op.bytesLess a b = false → Op.bytesLess b a = false → a = b
  | [], [], _, _ => rfl
  | [], _ :: _, h, _ => by simp [Op.bytesLess] at h
  | _ :: _, [], _, h => by simp [Op.bytesLess] at h
  | a :: x, b :: y, h1, h2 => by
    simp only [Op.bytesLess, Bool.or_eq_false_iff, decide_eq_false_iff_not, Bool.and_eq_false_iff, beq_eq_false_iff_ne, UInt8.lt_iff_toNat_lt, ne_eq] at h1 h2
    have hab : a = b := UInt8.toNat_inj.1 (by omega)
    subst hab
    have h3 : Op.bytesLess x y = false := by rcases h1.2 with h | h; exact absurd rfl h; exact h
    have h4 : Op.bytesLess y x = false := by rcases h2.2 with h | h; exact absurd rfl h; exact h
    rw [less_tri h3 h4]
theorem ltS_irr (a : ByteArray) : ltS a a = false := less_irr _
theorem ltS_trans {a b c : ByteArray} (h : ltS a b = true) (h' : ltS b c = true) : ltS a c = true := less_trans h h'
theorem ltS_tri {a b : ByteArray} (h : ltS a b = false) (h' : ltS b a = false) : a = b := by
  have := less_tri h h'
  rw [Lib.toList_data, Lib.toList_data] at this
  exact ba_ext this
theorem gtS_lt (a b : ByteArray) : gtS a b = ltS b a := by
  unfold gtS ltS
  cases h1 : Op.bytesLess a.toList b.toList
  · cases h2 : Op.bytesLess b.toList a.toList
    · have := less_tri h1 h2
      simp [this]
    · have : (a.toList == b.toList) = false := by
        rw [beq_eq_false_iff_ne]
        intro e
        rw [e, less_irr] at h2; cases h2
      simp [this]
  · cases h2 : Op.bytesLess b.toList a.toList
    · simp
    · have := less_trans h1 h2
      rw [less_irr] at this; cases this
theorem gtS_empty {a : ByteArray} (h : a.size ≠ 0) : gtS a ⟨#[]⟩ = true := by
  rw [gtS_lt]
  unfold ltS
  have : a.toList ≠ [] := by
    rw [Lib.toList_data]
    intro e
    exact h (by rw [Lib.size_eq, e]; rfl)
  rcases hl : a.toList with _ | ⟨x, y⟩
  · exact absurd hl this
  · rw [Lib.toList_data]; rfl
/-- Of the entries of S, o is the least key that P holds of. -/
structure Least (P : ByteArray → Prop) (S : Ent → Prop) (o : Option ByteArray) : Prop where
  no : o = none → ∀ e, S e → ¬ P e.key
  yes : ∀ k, o = some k → (∃ e, S e ∧ e.key = k ∧ P k) ∧ ∀ e, S e → P e.key → ltS e.key k = false
section
variable {P : ByteArray → Prop} {S S' : Ent → Prop} {o o' : Option ByteArray}
theorem Least.eq (h : Least P S o) (h' : Least P S o') : o = o' := by
  rcases o with _ | k <;> rcases o' with _ | k'
  · rfl
  · obtain ⟨⟨e, he, rfl, hp⟩, _⟩ := h'.yes _ rfl
    exact absurd hp (h.no rfl e he)
  · obtain ⟨⟨e, he, rfl, hp⟩, _⟩ := h.yes _ rfl
    exact absurd hp (h'.no rfl e he)
  · obtain ⟨⟨e, he, rfl, hp⟩, hm⟩ := h.yes _ rfl
    obtain ⟨⟨e', he', rfl, hp'⟩, hm'⟩ := h'.yes _ rfl
    rw [ltS_tri (hm' e he hp) (hm e' he' hp')]
theorem Least.congr (h : Least P S o) (hs : ∀ e, S e ↔ S' e) : Least P S' o := by
  refine ⟨fun ho e he => h.no ho e ((hs e).2 he), fun k hk => ?_⟩
  obtain ⟨⟨e, he, h1⟩, h2⟩ := h.yes k hk
  exact ⟨⟨e, (hs e).1 he, h1⟩, fun e' he' => h2 e' ((hs e').2 he')⟩
theorem Least.skip (h : Least P S o) {e : Ent} (hp : ¬ P e.key) (hs : ∀ x, S' x ↔ S x ∨ x = e) : Least P S' o := by
  refine ⟨fun ho x hx => ?_, fun k hk => ?_⟩
  · rcases (hs x).1 hx with h1 | rfl
    · exact h.no ho x h1
    · exact hp
  · obtain ⟨⟨x, hx, h1⟩, h2⟩ := h.yes k hk
    refine ⟨⟨x, (hs x).2 (.inl hx), h1⟩, fun x' hx' hp' => ?_⟩
    rcases (hs x').1 hx' with h3 | rfl
    · exact h2 x' h3 hp'
    · exact absurd hp' hp
theorem Least.stay {k : ByteArray} (h : Least P S (some k)) {e : Ent} (hl : ltS e.key k = false) (hs : ∀ x, S' x ↔ S x ∨ x = e) : Least P S' (some k) := by
  refine ⟨fun ho => (by cases ho), fun k' hk => ?_⟩
  · cases hk
    obtain ⟨⟨x, hx, h1⟩, h2⟩ := h.yes k rfl
    refine ⟨⟨x, (hs x).2 (.inl hx), h1⟩, fun x' hx' hp' => ?_⟩
    rcases (hs x').1 hx' with h3 | rfl
    · exact h2 x' h3 hp'
    · exact hl
theorem Least.take (h : Least P S o) {e : Ent} (hp : P e.key) (hl : o = none ∨ ltS e.key (o.getD ⟨#[]⟩) = true) (hs : ∀ x, S' x ↔ S x ∨ x = e) : Least P S' (some e.key) := by
  refine ⟨fun ho => (by cases ho), fun k' hk => ?_⟩
  · cases hk
    refine ⟨⟨e, (hs e).2 (.inr rfl), rfl, hp⟩, fun x' hx' hp' => ?_⟩
    rcases (hs x').1 hx' with h3 | rfl
    · rcases o with _ | k
      · exact absurd hp' (h.no rfl x' h3)
      · have hlk : ltS e.key k = true := by
          rcases hl with h4 | h4
          · cases h4
          · exact h4
        have h5 := (h.yes k rfl).2 x' h3 hp'
        cases h6 : ltS x'.key e.key
        · rfl
        · rw [ltS_trans h6 hlk] at h5; cases h5
    · exact ltS_irr _
theorem Least.start : Least P (fun _ => False) none := ⟨fun _ _ h => h.elim, fun _ h => nomatch h⟩
end
theorem nextTo_least (klen : Nat) (es : List Ent) (key : ByteArray) : ∀ j, j ≤ es.length → Least (fun k => key.size ≠ klen ∨ gtS k key = true) (fun e => ∃ i, i < j ∧ es[i]? = some e) (nextTo klen es key j)
  | 0, _ => Least.start.congr fun e => ⟨fun h => h.elim, fun ⟨i, hi, _⟩ => by omega⟩
  | j + 1, hj => by
    have ih := nextTo_least klen es key j (by omega)
    obtain ⟨e, he⟩ : ∃ e, es[j]? = some e := ⟨_, List.getElem?_eq_getElem (by omega)⟩
    have hs : ∀ x, (∃ i, i < j + 1 ∧ es[i]? = some x) ↔ (∃ i, i < j ∧ es[i]? = some x) ∨ x = e := fun x => by
      constructor
      · rintro ⟨i, hi, hx⟩
        rcases Nat.lt_or_ge i j with h | h
        · exact .inl ⟨i, h, hx⟩
        · obtain rfl : i = j := by omega
          rw [he] at hx; cases hx; exact .inr rfl
      · rintro (⟨i, hi, hx⟩ | rfl)
        · exact ⟨i, by omega, hx⟩
        · exact ⟨j, by omega, he⟩
    rw [nextTo_step he]
    by_cases hp : key.size ≠ klen ∨ gtS e.key key = true
    · by_cases hl : nextTo klen es key j = none ∨ ltS e.key ((nextTo klen es key j).getD ⟨#[]⟩) = true
      · rw [if_pos ⟨hp, hl⟩]
        exact ih.take hp hl hs
      · rw [if_neg (fun h => hl h.2)]
        rcases ho : nextTo klen es key j with _ | k
        · exact absurd (.inl ho) hl
        · rw [ho] at ih hl
          refine ih.stay ?_ hs
          cases h : ltS e.key k
          · rfl
          · exact absurd (.inr h) hl
    · rw [if_neg (fun h => hp h.1)]
      exact ih.skip hp hs
theorem nextTo_all (klen : Nat) (es : List Ent) (key : ByteArray) : Least (fun k => key.size ≠ klen ∨ gtS k key = true) (fun e => e ∈ es) (nextTo klen es key es.length) :=
  (nextTo_least klen es key es.length (Nat.le_refl _)).congr fun e => ⟨fun ⟨i, _, hi⟩ => List.mem_of_getElem? hi, fun he => by
    obtain ⟨i, hi, rfl⟩ := List.getElem_of_mem he
    exact ⟨i, hi, List.getElem?_eq_getElem hi⟩⟩
/-- The entry that was used longest ago. -/
theorem oldTo_min (es : List Ent) : ∀ j, 0 < j → j ≤ es.length → ∀ i, i < j → usedAt es (oldTo es j) ≤ usedAt es i
  | 0, h, _ => by omega
  | 1, _, _ => fun i hi => by
    obtain rfl : i = 0 := by omega
    unfold oldTo
    split <;> exact Nat.le_refl _
  | j + 2, _, hj => fun i hi => by
    have ih := oldTo_min es (j + 1) (by omega) (by omega)
    unfold oldTo
    split
    · rename_i hlt
      rcases Nat.lt_or_ge i (j + 1) with h | h
      · have := ih i h; omega
      · obtain rfl : i = j + 1 := by omega
        exact Nat.le_refl _
    · rename_i hlt
      rcases Nat.lt_or_ge i (j + 1) with h | h
      · exact ih i h
      · obtain rfl : i = j + 1 := by omega
        omega
/-! ### a map's datum -/
abbrev held (b : Nat) : DataW Value := .held (.pointer (some ⟨b, 0, none⟩))
/-- What the datum says: these entries, each behind its key, entry e in block bl e.n. -/
structure DatOf (D : DataW Value) (es : List Ent) (bl : Nat → Nat) : Prop where
  yes : ∀ e, e ∈ es → ∀ z, D.atKey (litS e.key) z = held (bl e.n)
  no : ∀ s, (∀ e, e ∈ es → e.key ≠ s) → Maps.has D (litS s) = false
  size : Maps.size D = es.length
def upb (bl : Nat → Nat) (n b : Nat) : Nat → Nat := fun k => if k = n then b else bl k
theorem upb_same (bl : Nat → Nat) (n b : Nat) : upb bl n b n = b := if_pos rfl
theorem upb_other (bl : Nat → Nat) {n k : Nat} (b : Nat) (h : k ≠ n) : upb bl n b k = bl k := if_neg h
/-- Entries with other keys, regions, uses. -/
structure Apart (es : List Ent) : Prop where
  at_ : ∀ (i j : Nat) (a b : Ent), es[i]? = some a → es[j]? = some b → i ≠ j → a.key ≠ b.key
  key : ∀ e e', e ∈ es → e' ∈ es → e.key = e'.key → e = e'
  n : ∀ e e', e ∈ es → e' ∈ es → e.n = e'.n → e = e'
  used : ∀ e e', e ∈ es → e' ∈ es → e.used = e'.used → e = e'
section
variable {D : DataW Value} {es : List Ent} {bl : Nat → Nat} {p : HPar} {s : HSt}
theorem HOk.aparts (h : HOk p s) : Apart s.es := by
  have g : ∀ e e', e ∈ s.es → e' ∈ s.es → (¬ (e.n ≠ e'.n ∧ keyB e.key e'.key = false ∧ e.used ≠ e'.used)) → e = e' := fun e e' he he' hn => by
    obtain ⟨i, hi, rfl⟩ := List.getElem_of_mem he
    obtain ⟨j, hj, rfl⟩ := List.getElem_of_mem he'
    by_cases hij : i = j
    · subst hij; rfl
    · exact absurd (h.apart i j _ _ (List.getElem?_eq_getElem hi) (List.getElem?_eq_getElem hj) hij) hn
  exact ⟨fun i j a b ha hb hij => keyB_no.1 (h.apart i j a b ha hb hij).2.1, fun e e' he he' hk => g e e' he he' fun hh => keyB_no.1 hh.2.1 hk, fun e e' he he' hk => g e e' he he' fun hh => hh.1 hk, fun e e' he he' hk => g e e' he he' fun hh => hh.2.2 hk⟩
theorem HOk.of_mem (h : HOk p s) {e : Ent} (he : e ∈ s.es) : (1 ≤ e.n ∧ e.n ≤ s.m.made) ∧ e.key.size = p.key ∧ (1 ≤ e.used ∧ e.used ≤ s.clock) ∧ ∃ b, s.m.vs e.n = some (3, b, false) ∧ b.length = p.v := by
  obtain ⟨i, hi, rfl⟩ := List.getElem_of_mem he
  exact h.ent i _ (List.getElem?_eq_getElem hi)
theorem DatOf.has_yes (h : DatOf D es bl) {e : Ent} (he : e ∈ es) : Maps.has D (litS e.key) = true := has_true_of_atKey fun z => h.yes e he z
theorem DatOf.found (h : DatOf D es bl) {s : ByteArray} (hh : Maps.has D (litS s) = true) : ∃ e, e ∈ es ∧ e.key = s := by
  refine Classical.byContradiction fun hn => ?_
  rw [h.no s (fun e he hk => hn ⟨e, he, hk⟩)] at hh
  cases hh
theorem DatOf.empty : DatOf (.map []) [] bl := ⟨fun e h => by simp at h, fun _ _ => rfl, rfl⟩
theorem DatOf.used (h : DatOf D es bl) (i u : Nat) : DatOf D (setUsed es i u) bl := by
  have g : ∀ e, e ∈ setUsed es i u → ∃ e', e' ∈ es ∧ e.key = e'.key ∧ e.n = e'.n := fun e he => by
    obtain ⟨j, hj, rfl⟩ := List.getElem_of_mem he
    obtain ⟨e', he', hh⟩ := setUsed_at (List.getElem?_eq_getElem hj)
    refine ⟨e', List.mem_of_getElem? he', ?_⟩
    rcases hh with ⟨_, e1⟩ | ⟨_, e1⟩ <;> rw [e1] <;> exact ⟨rfl, rfl⟩
  refine ⟨fun e he z => ?_, fun s hs => h.no s fun e he hk => ?_, by rw [setUsed_length]; exact h.size⟩
  · obtain ⟨e', he', h1, h2⟩ := g e he
    rw [h1, h2]; exact h.yes e' he' z
  · obtain ⟨j, hj, rfl⟩ := List.getElem_of_mem he
    have hj' : j < (setUsed es i u).length := by rw [setUsed_length]; exact hj
    obtain ⟨e', he', hh⟩ := setUsed_at (List.getElem?_eq_getElem hj')
    rw [List.getElem?_eq_getElem hj] at he'
    cases he'
    refine hs _ (List.getElem_mem hj') ?_
    rcases hh with ⟨_, e1⟩ | ⟨_, e1⟩ <;> rw [e1] <;> exact hk
theorem mem_erase {i : Nat} {e x : Ent} (he : es[i]? = some e) (ha : Apart es) : x ∈ es.eraseIdx i ↔ x ∈ es ∧ x.key ≠ e.key := by
  rw [List.mem_eraseIdx_iff_getElem?]
  constructor
  · rintro ⟨j, hj, hx⟩
    exact ⟨List.mem_of_getElem? hx, ha.at_ j i x e hx he hj⟩
  · rintro ⟨hx, hk⟩
    obtain ⟨j, hj, rfl⟩ := List.getElem_of_mem hx
    refine ⟨j, ?_, List.getElem?_eq_getElem hj⟩
    rintro rfl
    rw [List.getElem?_eq_getElem hj] at he
    cases he
    exact hk rfl
theorem DatOf.cut (h : DatOf D es bl) (hm : IsMap D) (ht : Tidy D) (ha : Apart es) {i : Nat} {e : Ent} (he : es[i]? = some e) : DatOf (D.del (litS e.key)) (es.eraseIdx i) bl := by
  refine ⟨fun x hx z => ?_, fun s hs => ?_, ?_⟩
  · obtain ⟨h1, h2⟩ := (mem_erase he ha).1 hx
    rw [atKey_del_other (litS_ne h2)]
    exact h.yes x h1 z
  · by_cases hk : s = e.key
    · subst hk; exact has_del_same
    · rw [has_del_other (litS_ne hk)]
      refine h.no s fun x hx hxs => hs x ((mem_erase he ha).2 ⟨hx, by rw [hxs]; exact hk⟩) hxs
  · have h1 := size_del (k := litS e.key) ht
    rw [h.has_yes (List.mem_of_getElem? he), if_pos rfl, h.size] at h1
    rw [List.length_eraseIdx, if_pos (List.getElem?_eq_some_iff.1 he).1]
    omega
theorem DatOf.push (h : DatOf D es bl) (hm : IsMap D) (ht : Tidy D) (key : ByteArray) (n b : Nat) (hk : ∀ e, e ∈ es → e.key ≠ key) (hn : ∀ e, e ∈ es → e.n ≠ n) (u : Nat) : DatOf (D.put (litS key) (held b)) (es ++ [⟨key, n, u⟩]) (upb bl n b) := by
  refine ⟨fun x hx z => ?_, fun s hs => ?_, ?_⟩
  · rcases List.mem_append.1 hx with h1 | h1
    · rw [atKey_put_other (litS_ne (hk x h1)), upb_other _ _ (hn x h1)]
      exact h.yes x h1 z
    · simp at h1
      subst h1
      rw [atKey_put_same hm (isKeyS _), upb_same]
  · have h1 : s ≠ key := fun e => hs ⟨key, n, u⟩ (by simp) e.symm
    rw [has_put_other (litS_ne h1)]
    exact h.no s fun x hx => hs x (List.mem_append.2 (.inl hx))
  · have h1 := size_put (k := litS key) ht (held b)
    rw [h.no key hk, if_neg (by decide), h.size] at h1
    rw [h1, List.length_append]; rfl
/-- One round of a range: an entry that hasn't come yet. -/
theorem DatOf.came (h : DatOf D es bl) (ha : Apart es) {left : Lit → Bool} (hlf : ∀ kl, left kl = true → Maps.has D kl = true) {x : ByteArray} {c : Value} (hx : left (litS x) = true) (hat : ∀ zd, D.atKey (litS x) zd = .held c) :
    ∃ e, e ∈ es ∧ x = e.key ∧ c = .pointer (some ⟨bl e.n, 0, none⟩) ∧ (∀ e', (e' ∈ es ∧ (left (litS e'.key) && !(litS e'.key).sameKey (litS x)) = false) ↔ (e' ∈ es ∧ left (litS e'.key) = false) ∨ e' = e) ∧ ∀ kl, (left kl && !kl.sameKey (litS x)) = true → Maps.has D kl = true := by
  obtain ⟨e, he, rfl⟩ := h.found (hlf _ hx)
  refine ⟨e, he, rfl, ?_, fun e' => ?_, fun kl hk => hlf kl (by simp at hk; exact hk.1)⟩
  · have := (h.yes e he (.held c)).symm.trans (hat (.held c))
    injection this with this
    exact this.symm
  · by_cases hk : e'.key = e.key
    · constructor
      · rintro ⟨h1, _⟩
        exact .inr (ha.key e' e h1 he hk)
      · rintro (⟨h1, _⟩ | rfl)
        · refine ⟨h1, ?_⟩
          rw [hk, WideAt.sameKey_self (isKeyS _)]; simp
        · refine ⟨he, ?_⟩
          rw [WideAt.sameKey_self (isKeyS _)]; simp
    · rw [sameKey_ne (litS_ne hk)]
      constructor
      · rintro ⟨h1, h2⟩
        exact .inl ⟨h1, by simpa using h2⟩
      · rintro (⟨h1, h2⟩ | rfl)
        · exact ⟨h1, by simpa using h2⟩
        · exact absurd rfl hk
end
end Go.Proofs.YtbikofedppgblaaGreat
