/-
  Package hash: plain facts: keys as the map has them, what a map's datum says of entries, the least key and the entry that was used longest ago, whatever the order. Package hash: a table as it lies, its memory and its map of entries, from a world on. Package hash: gone, use, write, drop. Package hash: the least key above one, and the entry that was used longest ago, in whatever order the map tells them. Package hash: the least key above one, in whatever order the map tells them; a nil map. Package hash: Free, in whatever order the map tells its entries.
-/
import Derived.Test.YtmopflcaeecgcaaHDo
import Derived.Maps.RangeWalk
import Derived.Maps.OwnSet
import Derived.Maps.Range
import Derived.Lib.Strings
import Derived.Laws.IdiomRangeMap
namespace Go.Proofs.Ytmopflcaeecgcaa
open Go Go.RowKit Go.Maps
set_option linter.unusedVariables false
set_option linter.unusedSimpArgs false
abbrev strT : TypeId := 9
theorem lawS : Keyed Try.prog strT := string_keyed Try.underlying9
def litS (s : ByteArray) : Lit := .string s.data.toList
theorem keyS {s : ByteArray} (h : s.size ≤ maxLen) : keyOf Try.prog strT (.string s) = some (litS s) := by
  simp [keyOf, Try.underlying9, mapKey, h, litS]
theorem keyS_inv {key : Value} {kl : Lit} (h : keyOf Try.prog strT key = some kl) : ∃ s : ByteArray, key = .string s ∧ kl = litS s := by
  cases key <;> simp [keyOf, Try.underlying9, mapKey] at h
  obtain ⟨_, rfl⟩ := h
  exact ⟨_, rfl, rfl⟩
theorem ba_ext {a b : ByteArray} (h : a.data.toList = b.data.toList) : a = b := ByteArray.ext (Array.toList_inj.1 h)
theorem litS_inj {a b : ByteArray} (h : litS a = litS b) : a = b := by
  unfold litS at h
  injection h with h
  exact ba_ext h
theorem litS_ne {a b : ByteArray} (h : a ≠ b) : litS a ≠ litS b := fun e => h (litS_inj e)
theorem isKeyS (s : ByteArray) : WideAt.IsKeyLit (litS s) := trivial
theorem keyB_iff {a b : ByteArray} : keyB a b = true ↔ a = b := by
  unfold keyB
  rw [beq_iff_eq, Lib.toList_data, Lib.toList_data]
  exact ⟨ba_ext, fun h => by rw [h]⟩
theorem keyB_no {a b : ByteArray} : keyB a b = false ↔ a ≠ b := by
  rw [← Bool.not_eq_true, keyB_iff]
/-! ### the order of texts -/
theorem less_irr : ∀ a : List UInt8, Op.bytesLess a a = false
  | [] => rfl
  | a :: x => by simp [Op.bytesLess, less_irr x]
theorem less_trans : ∀ {a b c : List UInt8}, Op.bytesLess a b = true → Op.bytesLess b c = true → Op.bytesLess a c = true
  | _, [], _, h, _ => by simp [Op.bytesLess] at h
  | _, _ :: _, [], _, h => by simp [Op.bytesLess] at h
  | [], _ :: _, _ :: _, _, _ => rfl
  | a :: x, b :: y, c :: z, h1, h2 => by
    simp only [Op.bytesLess, Bool.or_eq_true, decide_eq_true_eq, Bool.and_eq_true, beq_iff_eq, UInt8.lt_iff_toNat_lt] at h1 h2 ⊢
    rcases h1 with h1 | ⟨rfl, h1⟩ <;> rcases h2 with h2 | ⟨rfl, h2⟩
    · left; omega
    · left; exact h1
    · left; exact h2
    · right; exact ⟨rfl, less_trans h1 h2⟩
theorem less_tri : ∀ {a b : List UInt8}, Op.bytesLess a b = false → Op.bytesLess b a = false → a = b
  | [], [], _, _ => rfl
  | [], _ :: _, h, _ => by simp [Op.bytesLess] at h
  | _ :: _, [], _, h => by simp [Op.bytesLess] at h
  | a :: x, b :: y, h1, h2 => by
    simp only [Op.bytesLess, Bool.or_eq_false_iff, decide_eq_false_iff_not, Bool.and_eq_false_iff, beq_eq_false_iff_ne, UInt8.lt_iff_toNat_lt, ne_eq] at h1 h2
    have hab : a = b := UInt8.toNat_inj.1 (by omega)
    subst hab
    have h3 : Op.bytesLess x y = false := by rcases h1.2 with h | h; exact absurd rfl h; exact h
    have h4 : Op.bytesLess y x = false := by rcases h2.2 with h | h; exact absurd rfl h; exact h
    rw [less_tri h3 h4]
theorem ltS_irr (a : ByteArray) : ltS a a = false := less_irr _
theorem ltS_trans {a b c : ByteArray} (h : ltS a b = true) (h' : ltS b c = true) : ltS a c = true := less_trans h h'
theorem ltS_tri {a b : ByteArray} (h : ltS a b = false) (h' : ltS b a = false) : a = b := by
  have := less_tri h h'
  rw [Lib.toList_data, Lib.toList_data] at this
  exact ba_ext this
theorem gtS_lt (a b : ByteArray) : gtS a b = ltS b a := by
  unfold gtS ltS
  cases h1 : Op.bytesLess a.toList b.toList
  · cases h2 : Op.bytesLess b.toList a.toList
    · have := less_tri h1 h2
      simp [this]
    · have : (a.toList == b.toList) = false := by
        rw [beq_eq_false_iff_ne]
        intro e
        rw [e, less_irr] at h2; cases h2
      simp [this]
  · cases h2 : Op.bytesLess b.toList a.toList
    · simp
    · have := less_trans h1 h2
      rw [less_irr] at this; cases this
theorem gtS_empty {a : ByteArray} (h : a.size ≠ 0) : gtS a ⟨#[]⟩ = true := by
  rw [gtS_lt]
  unfold ltS
  have : a.toList ≠ [] := by
    rw [Lib.toList_data]
    intro e
    exact h (by rw [Lib.size_eq, e]; rfl)
  rcases hl : a.toList with _ | ⟨x, y⟩
  · exact absurd hl this
  · rw [Lib.toList_data]; rfl
/-- Of the entries of S, o is the least key that P holds of. -/
structure Least (P : ByteArray → Prop) (S : Ent → Prop) (o : Option ByteArray) : Prop where
  no : o = none → ∀ e, S e → ¬ P e.key
  yes : ∀ k, o = some k → (∃ e, S e ∧ e.key = k ∧ P k) ∧ ∀ e, S e → P e.key → ltS e.key k = false
section
variable {P : ByteArray → Prop} {S S' : Ent → Prop} {o o' : Option ByteArray}
theorem Least.eq (h : Least P S o) (h' : Least P S o') : o = o' := by
  rcases o with _ | k <;> rcases o' with _ | k'
  · rfl
  · obtain ⟨⟨e, he, rfl, hp⟩, _⟩ := h'.yes _ rfl
    exact absurd hp (h.no rfl e he)
  · obtain ⟨⟨e, he, rfl, hp⟩, _⟩ := h.yes _ rfl
    exact absurd hp (h'.no rfl e he)
  · obtain ⟨⟨e, he, rfl, hp⟩, hm⟩ := h.yes _ rfl
    obtain ⟨⟨e', he', rfl, hp'⟩, hm'⟩ := h'.yes _ rfl
    rw [ltS_tri (hm' e he hp) (hm e' he' hp')]
theorem Least.congr (h : Least P S o) (hs : ∀ e, S e ↔ S' e) : Least P S' o := by
  refine ⟨fun ho e he => h.no ho e ((hs e).2 he), fun k hk => ?_⟩
  obtain ⟨⟨e, he, h1⟩, h2⟩ := h.yes k hk
  exact ⟨⟨e, (hs e).1 he, h1⟩, fun e' he' => h2 e' ((hs e').2 he')⟩
theorem Least.skip (h : Least P S o) {e : Ent} (hp : ¬ P e.key) (hs : ∀ x, S' x ↔ S x ∨ x = e) : Least P S' o := by
  refine ⟨fun ho x hx => ?_, fun k hk => ?_⟩
  · rcases (hs x).1 hx with h1 | rfl
    · exact h.no ho x h1
    · exact hp
  · obtain ⟨⟨x, hx, h1⟩, h2⟩ := h.yes k hk
    refine ⟨⟨x, (hs x).2 (.inl hx), h1⟩, fun x' hx' hp' => ?_⟩
    rcases (hs x').1 hx' with h3 | rfl
    · exact h2 x' h3 hp'
    · exact absurd hp' hp
theorem Least.stay {k : ByteArray} (h : Least P S (some k)) {e : Ent} (hl : ltS e.key k = false) (hs : ∀ x, S' x ↔ S x ∨ x = e) : Least P S' (some k) := by
  refine ⟨fun ho => (by cases ho), fun k' hk => ?_⟩
  · cases hk
    obtain ⟨⟨x, hx, h1⟩, h2⟩ := h.yes k rfl
    refine ⟨⟨x, (hs x).2 (.inl hx), h1⟩, fun x' hx' hp' => ?_⟩
    rcases (hs x').1 hx' with h3 | rfl
    · exact h2 x' h3 hp'
    · exact hl
theorem Least.take (h : Least P S o) {e : Ent} (hp : P e.key) (hl : o = none ∨ ltS e.key (o.getD ⟨#[]⟩) = true) (hs : ∀ x, S' x ↔ S x ∨ x = e) : Least P S' (some e.key) := by
  refine ⟨fun ho => (by cases ho), fun k' hk => ?_⟩
  · cases hk
    refine ⟨⟨e, (hs e).2 (.inr rfl), rfl, hp⟩, fun x' hx' hp' => ?_⟩
    rcases (hs x').1 hx' with h3 | rfl
    · rcases o with _ | k
      · exact absurd hp' (h.no rfl x' h3)
      · have hlk : ltS e.key k = true := by
          rcases hl with h4 | h4
          · cases h4
          · exact h4
        have h5 := (h.yes k rfl).2 x' h3 hp'
        cases h6 : ltS x'.key e.key
        · rfl
        · rw [ltS_trans h6 hlk] at h5; cases h5
    · exact ltS_irr _
theorem Least.start : Least P (fun _ => False) none := ⟨fun _ _ h => h.elim, fun _ h => nomatch h⟩
end
theorem nextTo_least (klen : Nat) (es : List Ent) (key : ByteArray) : ∀ j, j ≤ es.length → Least (fun k => key.size ≠ klen ∨ gtS k key = true) (fun e => ∃ i, i < j ∧ es[i]? = some e) (nextTo klen es key j)
  | 0, _ => Least.start.congr fun e => ⟨fun h => h.elim, fun ⟨i, hi, _⟩ => by omega⟩
  | j + 1, hj => by
    have ih := nextTo_least klen es key j (by omega)
    obtain ⟨e, he⟩ : ∃ e, es[j]? = some e := ⟨_, List.getElem?_eq_getElem (by omega)⟩
    have hs : ∀ x, (∃ i, i < j + 1 ∧ es[i]? = some x) ↔ (∃ i, i < j ∧ es[i]? = some x) ∨ x = e := fun x => by
      constructor
      · rintro ⟨i, hi, hx⟩
        rcases Nat.lt_or_ge i j with h | h
        · exact .inl ⟨i, h, hx⟩
        · obtain rfl : i = j := by omega
          rw [he] at hx; cases hx; exact .inr rfl
      · rintro (⟨i, hi, hx⟩ | rfl)
        · exact ⟨i, by omega, hx⟩
        · exact ⟨j, by omega, he⟩
    rw [nextTo_step he]
    by_cases hp : key.size ≠ klen ∨ gtS e.key key = true
    · by_cases hl : nextTo klen es key j = none ∨ ltS e.key ((nextTo klen es key j).getD ⟨#[]⟩) = true
      · rw [if_pos ⟨hp, hl⟩]
        exact ih.take hp hl hs
      · rw [if_neg (fun h => hl h.2)]
        rcases ho : nextTo klen es key j with _ | k
        · exact absurd (.inl ho) hl
        · rw [ho] at ih hl
          refine ih.stay ?_ hs
          cases h : ltS e.key k
          · rfl
          · exact absurd (.inr h) hl
    · rw [if_neg (fun h => hp h.1)]
      exact ih.skip hp hs
theorem nextTo_all (klen : Nat) (es : List Ent) (key : ByteArray) : Least (fun k => key.size ≠ klen ∨ gtS k key = true) (fun e => e ∈ es) (nextTo klen es key es.length) :=
  (nextTo_least klen es key es.length (Nat.le_refl _)).congr fun e => ⟨fun ⟨i, _, hi⟩ => List.mem_of_getElem? hi, fun he => by
    obtain ⟨i, hi, rfl⟩ := List.getElem_of_mem he
    exact ⟨i, hi, List.getElem?_eq_getElem hi⟩⟩
/-- The entry that was used longest ago. -/
theorem oldTo_min (es : List Ent) : ∀ j, 0 < j → j ≤ es.length → ∀ i, i < j → usedAt es (oldTo es j) ≤ usedAt es i
  | 0, h, _ => by omega
  | 1, _, _ => fun i hi => by
    obtain rfl : i = 0 := by omega
    unfold oldTo
    split <;> exact Nat.le_refl _
  | j + 2, _, hj => fun i hi => by
    have ih := oldTo_min es (j + 1) (by omega) (by omega)
    unfold oldTo
    split
    · rename_i hlt
      rcases Nat.lt_or_ge i (j + 1) with h | h
      · have := ih i h; omega
      · obtain rfl : i = j + 1 := by omega
        exact Nat.le_refl _
    · rename_i hlt
      rcases Nat.lt_or_ge i (j + 1) with h | h
      · exact ih i h
      · obtain rfl : i = j + 1 := by omega
        omega
/-! ### a map's datum -/
abbrev held (b : Nat) : DataW Value := .held (.pointer (some ⟨b, 0, none⟩))
/-- What the datum says: these entries, each behind its key, entry e in block bl e.n. -/
structure DatOf (D : DataW Value) (es : List Ent) (bl : Nat → Nat) : Prop where
  yes : ∀ e, e ∈ es → ∀ z, D.atKey (litS e.key) z = held (bl e.n)
  no : ∀ s, (∀ e, e ∈ es → e.key ≠ s) → Maps.has D (litS s) = false
  size : Maps.size D = es.length
def upb (bl : Nat → Nat) (n b : Nat) : Nat → Nat := fun k => if k = n then b else bl k
theorem upb_same (bl : Nat → Nat) (n b : Nat) : upb bl n b n = b := if_pos rfl
theorem upb_other (bl : Nat → Nat) {n k : Nat} (b : Nat) (h : k ≠ n) : upb bl n b k = bl k := if_neg h
/-- Entries with other keys, regions, uses. -/
structure Apart (es : List Ent) : Prop where
  at_ : ∀ (i j : Nat) (a b : Ent), es[i]? = some a → es[j]? = some b → i ≠ j → a.key ≠ b.key
  key : ∀ e e', e ∈ es → e' ∈ es → e.key = e'.key → e = e'
  n : ∀ e e', e ∈ es → e' ∈ es → e.n = e'.n → e = e'
  used : ∀ e e', e ∈ es → e' ∈ es → e.used = e'.used → e = e'
section
variable {D : DataW Value} {es : List Ent} {bl : Nat → Nat} {p : HPar} {s : HSt}
theorem HOk.aparts (h : HOk p s) : Apart s.es := by
  have g : ∀ e e', e ∈ s.es → e' ∈ s.es → (¬ (e.n ≠ e'.n ∧ keyB e.key e'.key = false ∧ e.used ≠ e'.used)) → e = e' := fun e e' he he' hn => by
    obtain ⟨i, hi, rfl⟩ := List.getElem_of_mem he
    obtain ⟨j, hj, rfl⟩ := List.getElem_of_mem he'
    by_cases hij : i = j
    · subst hij; rfl
    · exact absurd (h.apart i j _ _ (List.getElem?_eq_getElem hi) (List.getElem?_eq_getElem hj) hij) hn
  exact ⟨fun i j a b ha hb hij => keyB_no.1 (h.apart i j a b ha hb hij).2.1, fun e e' he he' hk => g e e' he he' fun hh => keyB_no.1 hh.2.1 hk, fun e e' he he' hk => g e e' he he' fun hh => hh.1 hk, fun e e' he he' hk => g e e' he he' fun hh => hh.2.2 hk⟩
theorem HOk.of_mem (h : HOk p s) {e : Ent} (he : e ∈ s.es) : (1 ≤ e.n ∧ e.n ≤ s.m.made) ∧ e.key.size = p.key ∧ (1 ≤ e.used ∧ e.used ≤ s.clock) ∧ ∃ b, s.m.vs e.n = some (3, b, false) ∧ b.length = p.v := by
  obtain ⟨i, hi, rfl⟩ := List.getElem_of_mem he
  exact h.ent i _ (List.getElem?_eq_getElem hi)
theorem DatOf.has_yes (h : DatOf D es bl) {e : Ent} (he : e ∈ es) : Maps.has D (litS e.key) = true := has_true_of_atKey fun z => h.yes e he z
theorem DatOf.found (h : DatOf D es bl) {s : ByteArray} (hh : Maps.has D (litS s) = true) : ∃ e, e ∈ es ∧ e.key = s := by
  refine Classical.byContradiction fun hn => ?_
  rw [h.no s (fun e he hk => hn ⟨e, he, hk⟩)] at hh
  cases hh
theorem DatOf.empty : DatOf (.map []) [] bl := ⟨fun e h => by simp at h, fun _ _ => rfl, rfl⟩
theorem DatOf.used (h : DatOf D es bl) (i u : Nat) : DatOf D (setUsed es i u) bl := by
  have g : ∀ e, e ∈ setUsed es i u → ∃ e', e' ∈ es ∧ e.key = e'.key ∧ e.n = e'.n := fun e he => by
    obtain ⟨j, hj, rfl⟩ := List.getElem_of_mem he
    obtain ⟨e', he', hh⟩ := setUsed_at (List.getElem?_eq_getElem hj)
    refine ⟨e', List.mem_of_getElem? he', ?_⟩
    rcases hh with ⟨_, e1⟩ | ⟨_, e1⟩ <;> rw [e1] <;> exact ⟨rfl, rfl⟩
  refine ⟨fun e he z => ?_, fun s hs => h.no s fun e he hk => ?_, by rw [setUsed_length]; exact h.size⟩
  · obtain ⟨e', he', h1, h2⟩ := g e he
    rw [h1, h2]; exact h.yes e' he' z
  · obtain ⟨j, hj, rfl⟩ := List.getElem_of_mem he
    have hj' : j < (setUsed es i u).length := by rw [setUsed_length]; exact hj
    obtain ⟨e', he', hh⟩ := setUsed_at (List.getElem?_eq_getElem hj')
    rw [List.getElem?_eq_getElem hj] at he'
    cases he'
    refine hs _ (List.getElem_mem hj') ?_
    rcases hh with ⟨_, e1⟩ | ⟨_, e1⟩ <;> rw [e1] <;> exact hk
theorem mem_erase {i : Nat} {e x : Ent} (he : es[i]? = some e) (ha : Apart es) : x ∈ es.eraseIdx i ↔ x ∈ es ∧ x.key ≠ e.key := by
  rw [List.mem_eraseIdx_iff_getElem?]
  constructor
  · rintro ⟨j, hj, hx⟩
    exact ⟨List.mem_of_getElem? hx, ha.at_ j i x e hx he hj⟩
  · rintro ⟨hx, hk⟩
    obtain ⟨j, hj, rfl⟩ := List.getElem_of_mem hx
    refine ⟨j, ?_, List.getElem?_eq_getElem hj⟩
    rintro rfl
    rw [List.getElem?_eq_getElem hj] at he
    cases he
    exact hk rfl
theorem DatOf.cut (h : DatOf D es bl) (hm : IsMap D) (ht : Tidy D) (ha : Apart es) {i : Nat} {e : Ent} (he : es[i]? = some e) : DatOf (D.del (litS e.key)) (es.eraseIdx i) bl := by
  refine ⟨fun x hx z => ?_, fun s hs => ?_, ?_⟩
  · obtain ⟨h1, h2⟩ := (mem_erase he ha).1 hx
    rw [atKey_del_other (litS_ne h2)]
    exact h.yes x h1 z
  · by_cases hk : s = e.key
    · subst hk; exact has_del_same
    · rw [has_del_other (litS_ne hk)]
      refine h.no s fun x hx hxs => hs x ((mem_erase he ha).2 ⟨hx, by rw [hxs]; exact hk⟩) hxs
  · have h1 := size_del (k := litS e.key) ht
    rw [h.has_yes (List.mem_of_getElem? he), if_pos rfl, h.size] at h1
    rw [List.length_eraseIdx, if_pos (List.getElem?_eq_some_iff.1 he).1]
    omega
theorem DatOf.push (h : DatOf D es bl) (hm : IsMap D) (ht : Tidy D) (key : ByteArray) (n b : Nat) (hk : ∀ e, e ∈ es → e.key ≠ key) (hn : ∀ e, e ∈ es → e.n ≠ n) (u : Nat) : DatOf (D.put (litS key) (held b)) (es ++ [⟨key, n, u⟩]) (upb bl n b) := by
  refine ⟨fun x hx z => ?_, fun s hs => ?_, ?_⟩
  · rcases List.mem_append.1 hx with h1 | h1
    · rw [atKey_put_other (litS_ne (hk x h1)), upb_other _ _ (hn x h1)]
      exact h.yes x h1 z
    · simp at h1
      subst h1
      rw [atKey_put_same hm (isKeyS _), upb_same]
  · have h1 : s ≠ key := fun e => hs ⟨key, n, u⟩ (by simp) e.symm
    rw [has_put_other (litS_ne h1)]
    exact h.no s fun x hx => hs x (List.mem_append.2 (.inl hx))
  · have h1 := size_put (k := litS key) ht (held b)
    rw [h.no key hk, if_neg (by decide), h.size] at h1
    rw [h1, List.length_append]; rfl
/-- One round of a range: an entry that hasn't come yet. -/
theorem DatOf.came (h : DatOf D es bl) (ha : Apart es) {left : Lit → Bool} (hlf : ∀ kl, left kl = true → Maps.has D kl = true) {x : ByteArray} {c : Value} (hx : left (litS x) = true) (hat : ∀ zd, D.atKey (litS x) zd = .held c) :
    ∃ e, e ∈ es ∧ x = e.key ∧ c = .pointer (some ⟨bl e.n, 0, none⟩) ∧ (∀ e', (e' ∈ es ∧ (left (litS e'.key) && !(litS e'.key).sameKey (litS x)) = false) ↔ (e' ∈ es ∧ left (litS e'.key) = false) ∨ e' = e) ∧ ∀ kl, (left kl && !kl.sameKey (litS x)) = true → Maps.has D kl = true := by
  obtain ⟨e, he, rfl⟩ := h.found (hlf _ hx)
  refine ⟨e, he, rfl, ?_, fun e' => ?_, fun kl hk => hlf kl (by simp at hk; exact hk.1)⟩
  · have := (h.yes e he (.held c)).symm.trans (hat (.held c))
    injection this with this
    exact this.symm
  · by_cases hk : e'.key = e.key
    · constructor
      · rintro ⟨h1, _⟩
        exact .inr (ha.key e' e h1 he hk)
      · rintro (⟨h1, _⟩ | rfl)
        · refine ⟨h1, ?_⟩
          rw [hk, WideAt.sameKey_self (isKeyS _)]; simp
        · refine ⟨he, ?_⟩
          rw [WideAt.sameKey_self (isKeyS _)]; simp
    · rw [sameKey_ne (litS_ne hk)]
      constructor
      · rintro ⟨h1, h2⟩
        exact .inl ⟨h1, by simpa using h2⟩
      · rintro (⟨h1, h2⟩ | rfl)
        · exact ⟨h1, by simpa using h2⟩
        · exact absurd rfl hk
end
end Go.Proofs.Ytmopflcaeecgcaa
namespace Go.Proofs.Ytmopflcaeecgcaa
open Go Go.RowKit Go.Maps
set_option linter.unusedVariables false
set_option linter.unusedSimpArgs false
set_option maxRecDepth 100000
abbrev mapT : TypeId := 74
abbrev entryT : TypeId := 103
abbrev entriesT : TypeId := 72
abbrev liveC (bm : Nat) (k key v mx : Int) (mb : Nat) (clock : Int) : Array Value := #[tp bm, .int .i64 k, .int .i64 key, .int .i64 v, .int .i64 mx, .map (some mb), .int .u64 clock]
abbrev goneC : Array Value := #[.pointer none, .int .i64 0, .int .i64 0, .int .i64 0, .int .i64 0, .map none, .int .u64 0]
abbrev enC (n : Nat) (used : Nat) : Array Value := #[.int .u64 (addr n 0), .int .u64 used]
abbrev OwnsE (w : World) (mb N : Nat) (D : DataW Value) : Prop := w.ownsMap Try.prog strT heldV mb N D
/-- A table that is there: from world w0 and its blocks P0 on. -/
structure PG (p : HPar) (w0 : World) (P0 : Nat → Prop) (s : HSt) (T : Nat → Prop) (mb N : Nat) (D : DataW Value) (bl : Nat → Nat) (w : World) : Prop where
  keeps : Keeps P0 w0 w
  pl : ∀ b, P0 b → b < w0.heap.size
  px : P0 p.x
  side : KSide w T p.bm s.m
  tq : ∀ b, T b → P0 b ∨ w0.heap.size ≤ b
  tx : ¬ T p.x
  map : Blk w p.x mapT (liveC p.bm p.k p.key p.v p.mx mb s.clock)
  own : OwnsE w mb N D
  mbp : P0 mb ∨ w0.heap.size ≤ mb
  tm : ¬ T mb
  dat : DatOf D s.es bl
  ent : ∀ e, e ∈ s.es → Blk w (bl e.n) entryT (enC e.n e.used)
  entp : ∀ e, e ∈ s.es → (P0 (bl e.n) ∨ w0.heap.size ≤ bl e.n) ∧ ¬ T (bl e.n)
  inj : ∀ e e', e ∈ s.es → e' ∈ s.es → bl e.n = bl e'.n → e.n = e'.n
  gone : s.gone = false
/-- .. that was freed. -/
structure PO (p : HPar) (w0 : World) (P0 : Nat → Prop) (s : HSt) (T : Nat → Prop) (w : World) : Prop where
  keeps : Keeps P0 w0 w
  pl : ∀ b, P0 b → b < w0.heap.size
  px : P0 p.x
  side : KSide w T p.bm s.m
  tq : ∀ b, T b → P0 b ∨ w0.heap.size ≤ b
  tx : ¬ T p.x
  map : Blk w p.x mapT goneC
  gone : s.gone = true
def PH : XRel := fun p s P w => (∃ T, PO p w P s T w) ∨ ∃ T mb N D bl, N ≤ s.clock ∧ PG p w P s T mb N D bl w
theorem map_ne {w : World} {mb N g : Nat} {D : DataW Value} {t : TypeId} {cs : Array Value} (h : OwnsE w mb N D) (hb : Blk w g t cs) : g ≠ mb := by
  rintro rfl
  obtain ⟨es, clock, h1, _⟩ := h
  unfold Blk at hb
  rw [hb] at h1; cases h1
theorem OwnsE.keeps {w w' : World} {mb N : Nat} {D : DataW Value} {S : Nat → Prop} (h : OwnsE w mb N D) (k : Keeps S w w') (hs : ¬ S mb) : OwnsE w' mb N D := ownsMap_block h (k.block mb h.lt hs)
theorem ranges_keeps {w w' : World} {mb r N cnt : Nat} {D : DataW Value} {left : Lit → Bool} {S : Nat → Prop} (h : w.ranges Try.prog strT heldV mb r N D left cnt) (k : Keeps S w w') (hs : ¬ S mb) (hr : ¬ S r) : w'.ranges Try.prog strT heldV mb r N D left cnt := by
  have h1 := h.owns.lt
  have h2 := h.lt
  obtain ⟨es, clock, since, seen, c0, hb, F, hs', hD, hr', rest⟩ := h
  exact ⟨es, clock, since, seen, c0, (k.block mb h1 hs).trans hb, F, hs', hD, (k.block r h2 hr).trans hr', rest⟩
section
variable {p : HPar} {w0 w w' : World} {P0 P U T T' : Nat → Prop} {s s' : HSt} {mb N N' : Nat} {D D' : DataW Value} {bl bl' : Nat → Nat}
theorem PG.start (h : PG p w0 P0 s T mb N D bl w) (hp : ∀ b, more P0 w0 w b → b < w.heap.size := by
    intro b hb; rcases hb with h1 | h1
    · exact Nat.lt_of_lt_of_le (h.pl b h1) h.keeps.size
    · exact h1.2) : PG p w (more P0 w0 w) s T mb N D bl w :=
  ⟨Keeps.refl _ _, hp, .inl h.px, h.side, fun b hb => .inl ((h.tq b hb).imp id fun hz => ⟨hz, h.side.lt' b hb⟩), h.tx, h.map, h.own, .inl (h.mbp.imp id fun hz => ⟨hz, h.own.lt⟩), h.tm, h.dat, h.ent, fun e he => ⟨.inl ((h.entp e he).1.imp id fun hz => ⟨hz, (h.ent e he).lt⟩), (h.entp e he).2⟩, h.inj, h.gone⟩
theorem PO.start (h : PO p w0 P0 s T w) : PO p w (more P0 w0 w) s T w := by
  refine ⟨Keeps.refl _ _, ?_, .inl h.px, h.side, fun b hb => .inl ((h.tq b hb).imp id fun hz => ⟨hz, h.side.lt' b hb⟩), h.tx, h.map, h.gone⟩
  rintro b (h1 | h1)
  · exact Nat.lt_of_lt_of_le (h.pl b h1) h.keeps.size
  · exact h1.2
theorem PG.done (h : PG p w0 P0 s T mb N D bl w) (hN : N ≤ s.clock) : PH p s (more P0 w0 w) w ∧ Keeps P0 w0 w := ⟨.inr ⟨T, mb, N, D, bl, hN, h.start⟩, h.keeps⟩
theorem PO.done (h : PO p w0 P0 s T w) : PH p s (more P0 w0 w) w ∧ Keeps P0 w0 w := ⟨.inl ⟨T, h.start⟩, h.keeps⟩
/-- The table's own blocks turn. -/
theorem PG.local_ (h : PG p w0 P0 s T mb N D bl w) (hm : s'.m = s.m) (hg : s'.gone = s.gone) (k : Keeps U w w') (hU : ∀ b, U b → ¬ T b ∧ (P0 b ∨ w0.heap.size ≤ b))
    (map' : Blk w' p.x mapT (liveC p.bm p.k p.key p.v p.mx mb s'.clock)) (own' : OwnsE w' mb N' D') (dat' : DatOf D' s'.es bl') (ent' : ∀ e, e ∈ s'.es → Blk w' (bl' e.n) entryT (enC e.n e.used))
    (entp' : ∀ e, e ∈ s'.es → w.heap.size ≤ bl' e.n ∨ ∃ e0, e0 ∈ s.es ∧ bl' e.n = bl e0.n) (inj' : ∀ e e', e ∈ s'.es → e' ∈ s'.es → bl' e.n = bl' e'.n → e.n = e'.n) : PG p w0 P0 s' T mb N' D' bl' w' := by
  have k' : Keeps (more P0 w0 w) w w' := ⟨k.os, k.tape, k.output, k.size, fun b hb hs => k.block b hb fun hu => hs ((hU b hu).2.imp id fun hz => ⟨hz, hb⟩)⟩
  refine ⟨h.keeps.trans k', h.pl, h.px, by rw [hm]; exact h.side.keeps' k fun b hb hu => (hU b hu).1 hb, h.tq, h.tx, map', own', h.mbp, h.tm, dat', ent', fun e he => ?_, inj', by rw [hg]; exact h.gone⟩
  · rcases entp' e he with h1 | ⟨e0, h0, h1⟩
    · exact ⟨.inr (Nat.le_trans h.keeps.size h1), fun ht => by have := h.side.lt' _ ht; omega⟩
    · rw [h1]; exact h.entp e0 h0
/-- Nothing of the table's turns. -/
theorem PG.off (h : PG p w0 P0 s T mb N D bl w) (k : Keeps U w w') (hx : ¬ U p.x) (hm : ¬ U mb) (ht : ∀ b, T b → ¬ U b) (he : ∀ e, e ∈ s.es → ¬ U (bl e.n)) (hU : ∀ b, U b → P0 b ∨ w0.heap.size ≤ b) : PG p w0 P0 s T mb N D bl w' :=
  h.local_ (s' := s) rfl rfl k (fun b hu => ⟨fun hb => ht b hb hu, hU b hu⟩) (h.map.keeps k hx) (h.own.keeps k hm) h.dat (fun e he' => (h.ent e he').keeps k (he e he')) (fun e he' => .inr ⟨e, he', rfl⟩) h.inj
theorem PG.quiet (h : PG p w0 P0 s T mb N D bl w) (k : Keeps (fun _ => False) w w') : PG p w0 P0 s T mb N D bl w' := h.off k (fun h => h) (fun h => h) (fun _ _ h => h) (fun _ _ h => h) (fun _ h => h.elim)
theorem PG.drewN (h : PG p w0 P0 s T mb N D bl w) (n : Nat) : PG p w0 P0 s T mb N D bl (w.drewN n) := h.quiet ⟨rfl, rfl, rfl, Nat.le_refl _, fun _ _ _ => rfl⟩
theorem PG.drew (h : PG p w0 P0 s T mb N D bl w) : PG p w0 P0 s T mb N D bl w.drew := h.quiet ⟨rfl, rfl, rfl, Nat.le_refl _, fun _ _ _ => rfl⟩
/-- The memory turns. -/
theorem PG.mem_ {m' : PS} (h : PG p w0 P0 s T mb N D bl w) (hk : KSide w' (more T w w') p.bm m') (kk : Keeps T w w') : PG p w0 P0 { s with m := m' } (more T w w') mb N D bl w' := by
  have hz := h.keeps.size
  have nt : ∀ b, b < w.heap.size → ¬ T b → ¬ more T w w' b := by
    rintro b hb ht (h1 | ⟨h1, _⟩)
    · exact ht h1
    · omega
  refine ⟨h.keeps.trans (kk.mono fun b hb => (h.tq b hb).imp id fun hz => ⟨hz, h.side.lt' b hb⟩), h.pl, h.px, hk, ?_, nt _ h.map.lt h.tx, h.map.keeps kk h.tx, h.own.keeps kk h.tm, h.mbp, nt _ h.own.lt h.tm, h.dat, fun e he => (h.ent e he).keeps kk (h.entp e he).2, fun e he => ⟨(h.entp e he).1, nt _ (h.ent e he).lt (h.entp e he).2⟩, h.inj, h.gone⟩
  rintro b (hb | ⟨hb, _⟩)
  · exact h.tq b hb
  · exact .inr (by omega)
theorem PG.call {m' : PS} {f : FuncId} {args : Array Value} {e0 : Ending} (h : PG p w0 P0 s T mb N D bl w) (c : KCall f args p.bm s.m m' e0) :
    Calls Try.prog f args w fun e w' => e = e0 ∧ ∃ T', PG p w0 P0 { s with m := m' } T' mb N D bl w' ∧ Keeps T w w' := by
  refine (c w T h.side).mono ?_
  rintro e w' ⟨rfl, hk, kk⟩
  exact ⟨rfl, _, h.mem_ hk kk, kk⟩
theorem PO.quiet (h : PO p w0 P0 s T w) (k : Keeps (fun _ => False) w w') : PO p w0 P0 s T w' :=
  ⟨h.keeps.trans (k.mono fun _ h => h.elim), h.pl, h.px, h.side.keeps' k (fun _ _ h => h), h.tq, h.tx, h.map.keeps k (fun h => h), h.gone⟩
theorem PO.mem_ {m' : PS} (h : PO p w0 P0 s T w) (hk : KSide w' (more T w w') p.bm m') (kk : Keeps T w w') : PO p w0 P0 { s with m := m' } (more T w w') w' := by
  have hz := h.keeps.size
  refine ⟨h.keeps.trans (kk.mono fun b hb => (h.tq b hb).imp id fun hz => ⟨hz, h.side.lt' b hb⟩), h.pl, h.px, hk, ?_, ?_, h.map.keeps kk h.tx, h.gone⟩
  · rintro b (hb | ⟨hb, _⟩)
    · exact h.tq b hb
    · exact .inr (by omega)
  · rintro (h1 | ⟨h1, _⟩)
    · exact h.tx h1
    · have := h.map.lt; omega
/-! ### what 'Prog' asks of memory alone -/
theorem PH.lt {P : Nat → Prop} (h : PH p s P w) : ∀ b, P b → b < w.heap.size := by
  rcases h with ⟨T, h⟩ | ⟨T, mb, N, D, bl, _, h⟩ <;> exact h.pl
theorem PH.keeps {P : Nat → Prop} (h : PH p s P w) (k : Keeps U w w') (hd : ∀ b, P b → ¬ U b) : PH p s P w' := by
  have hp : ∀ b, P b → b < w'.heap.size := fun b hb => Nat.lt_of_lt_of_le (h.lt b hb) k.size
  have old : ∀ b, b < w.heap.size → P b ∨ w.heap.size ≤ b → P b := fun b hb h1 => h1.resolve_right (by omega)
  rcases h with ⟨T, h⟩ | ⟨T, mb, N, D, bl, hN, h⟩
  · exact .inl ⟨T, ⟨Keeps.refl _ _, hp, h.px, h.side.keeps' k fun b hb => hd b (old b (h.side.lt' b hb) (h.tq b hb)), fun b hb => .inl (old b (h.side.lt' b hb) (h.tq b hb)), h.tx, h.map.keeps k (hd _ h.px), h.gone⟩⟩
  · exact .inr ⟨T, mb, N, D, bl, hN, ⟨Keeps.refl _ _, hp, h.px, h.side.keeps' k fun b hb => hd b (old b (h.side.lt' b hb) (h.tq b hb)), fun b hb => .inl (old b (h.side.lt' b hb) (h.tq b hb)), h.tx, h.map.keeps k (hd _ h.px), h.own.keeps k (hd _ (old _ h.own.lt h.mbp)), .inl (old _ h.own.lt h.mbp), h.tm, h.dat, fun e he => (h.ent e he).keeps k (hd _ (old _ (h.ent e he).lt (h.entp e he).1)), fun e he => ⟨.inl (old _ (h.ent e he).lt (h.entp e he).1), (h.entp e he).2⟩, h.inj, h.gone⟩⟩
theorem PH.side {P : Nat → Prop} (h : PH p s P w) : ∃ S, KSide w S p.bm s.m ∧ ∀ b, S b → P b := by
  rcases h with ⟨T, h⟩ | ⟨T, mb, N, D, bl, hN, h⟩
  · exact ⟨T, h.side, fun b hb => (h.tq b hb).resolve_right (by have := h.side.lt' b hb; omega)⟩
  · exact ⟨T, h.side, fun b hb => (h.tq b hb).resolve_right (by have := h.side.lt' b hb; omega)⟩
theorem PH.mem {m' : PS} {f : FuncId} {args : Array Value} {e0 : Ending} (c : KCall f args p.bm s.m m' e0) : FCallH PH p f args s { s with m := m' } e0 := by
  rintro w P (⟨T, h⟩ | ⟨T, mb, N, D, bl, hN, h⟩)
  · refine (c w T h.side).mono ?_
    rintro e w' ⟨rfl, hk, kk⟩
    exact ⟨rfl, (h.mem_ hk kk).done⟩
  · refine (h.call c).mono ?_
    rintro e w' ⟨rfl, T', h', _⟩
    exact ⟨rfl, h'.done hN⟩
end
end Go.Proofs.Ytmopflcaeecgcaa
namespace Go.Proofs.Ytmopflcaeecgcaa
open Go Go.RowKit Go.Maps
set_option linter.unusedVariables false
set_option linter.unusedSimpArgs false
set_option maxRecDepth 100000
theorem zeroE (w : World) : (zeroValue 95).run Try.prog w = .ok (.pointer none) w := by kernel_rfl
section
variable {p : HPar} {w0 w w' : World} {P0 P U T T' : Nat → Prop} {s s' : HSt} {mb N N' : Nat} {D D' : DataW Value} {bl bl' : Nat → Nat}
theorem gone_no (h : PG p w0 P0 s T mb N D bl w) : Calls Try.prog 39 #[tp p.x] w fun e w' => e = .returned (.bool false) ∧ w = w' := by
  have c0 : w.cell? ⟨p.x, 0, none⟩ = some (tp p.bm) := h.map.cell 0
  clear h
  go_enter Try.func39, Try.ntmps39
  go_wp2_with fail
  go_ret
  exact ⟨rfl, rfl⟩
theorem gone_yes (h : PO p w0 P0 s T w) : Calls Try.prog 39 #[tp p.x] w fun e w' => e = .returned (.bool true) ∧ w = w' := by
  have c0 : w.cell? ⟨p.x, 0, none⟩ = some (.pointer none) := h.map.cell 0
  clear h
  go_enter Try.func39, Try.ntmps39
  go_wp2_with fail
  go_ret
  exact ⟨rfl, rfl⟩
theorem gone_nil (w : World) : Calls Try.prog 39 #[.pointer none] w fun e w' => e = .returned (.bool true) ∧ w = w' := by
  go_enter Try.func39, Try.ntmps39
  go_wp2_with fail
  go_ret
  exact ⟨rfl, rfl⟩
theorem PG.look (h : PG p w0 P0 s T mb N D bl w) {key : ByteArray} (hk : key.size ≤ maxLen) : (∀ e, e ∈ s.es → e.key = key → (Instr.lookup entriesT (.map (some mb)) (.string key) false).run Try.prog w = .ok (tp (bl e.n)) w) ∧
    ((∀ e, e ∈ s.es → e.key ≠ key) → (Instr.lookup entriesT (.map (some mb)) (.string key) false).run Try.prog w = .ok (.pointer none) w) := by
  obtain ⟨v, ps, hrun, hv⟩ := h.own.lookup (t := entriesT) lawS Try.underlying72 (zeroE w) (zd := .held (.pointer none)) (zp := []) rfl (keyS hk)
  simp only [heldV, Option.some.injEq, Prod.mk.injEq] at hv
  refine ⟨fun e he hek => ?_, fun hn => ?_⟩
  · have h2 := hv.1
    rw [← hek, h.dat.yes e he _] at h2
    injection h2 with h2
    rw [← hek] at hrun ⊢
    rw [hrun, h2]
  · have := hv.1.trans (atKey_of_not_has (h.dat.no key hn) _)
    injection this with this
    rw [hrun, this]
theorem setUsed_mem {es : List Ent} {i u : Nat} {e x : Ent} (he : es[i]? = some e) (ha : Apart es) (hx : x ∈ setUsed es i u) : (x = { e with used := u }) ∨ (x ∈ es ∧ x ≠ e ∧ x.n ≠ e.n) := by
  obtain ⟨j, hj, rfl⟩ := List.getElem_of_mem hx
  obtain ⟨e', he', hh⟩ := setUsed_at (List.getElem?_eq_getElem hj)
  rcases hh with ⟨rfl, e1⟩ | ⟨h1, e1⟩
  · rw [he] at he'; cases he'; exact .inl e1
  · rw [e1]
    have hk := ha.at_ j i e' e he' he h1
    refine .inr ⟨List.mem_of_getElem? he', fun h => hk (by rw [h]), fun h => hk ?_⟩
    rw [ha.n e' e (List.mem_of_getElem? he') (List.mem_of_getElem? he) h]
set_option maxHeartbeats 1000000 in
theorem PG.use (h : PG p w0 P0 s T mb N D bl w) (ha : Apart s.es) (i : Nat) (e : Ent) (he : s.es[i]? = some e) (hc : s.clock < 1000000) :
    Calls Try.prog 44 #[tp p.x, tp (bl e.n)] w fun e' w' => e' = .returned (.tuple #[]) ∧ PG p w0 P0 (s.use i) T mb N D bl w' := by
  have hm := List.mem_of_getElem? he
  have c3 : w.cell? ⟨p.x, 6, none⟩ = some (.int .u64 s.clock) := h.map.cell 6
  have f3 : w.frozen? ⟨p.x, 6, none⟩ = false := h.map.frozen 6
  have d1 : w.cell? ⟨bl e.n, 1, none⟩ = some (.int .u64 e.used) := (h.ent e hm).cell 1
  have g1 : w.frozen? ⟨bl e.n, 1, none⟩ = false := (h.ent e hm).frozen 1
  have hne : bl e.n ≠ p.x := (h.ent e hm).ne_ h.map (by decide)
  have hne2 : p.x ≠ bl e.n := hne.symm
  have e1 : IntKind.u64.wrap ((s.clock : Int) + 1) = ((s.clock + 1 : Nat) : Int) := by rw [IntWalk.u64_in _ (by omega)]; omega
  have HF : Hid (PG p w0 P0 (s.use i) T mb N D bl ((w.setCell ⟨p.x, 6, none⟩ (.int .u64 ((s.clock + 1 : Nat) : Int))).setCell ⟨bl e.n, 1, none⟩ (.int .u64 ((s.clock + 1 : Nat) : Int)))) := by
    refine h.local_ (s' := s.use i) (U := fun b => b = p.x ∨ b = bl e.n) rfl rfl (((Keeps.refl _ w).setCell (p := ⟨p.x, 6, none⟩) (.inl (.inl rfl)) _).setCell (p := ⟨bl e.n, 1, none⟩) (.inl (.inr rfl)) _) ?_ ?_ ?_ (h.dat.used i _) ?_ ?_ ?_
    · rintro b (rfl | rfl)
      · exact ⟨h.tx, .inl h.px⟩
      · exact ⟨(h.entp e hm).2, (h.entp e hm).1⟩
    · exact (h.map.set_ 6 _).far hne2 _
    · exact OwnsE.keeps h.own (S := fun b => b = p.x ∨ b = bl e.n) (((Keeps.refl _ w).setCell (p := ⟨p.x, 6, none⟩) (.inl (.inl rfl)) _).setCell (p := ⟨bl e.n, 1, none⟩) (.inl (.inr rfl)) _) (by rintro (h1 | h1); exact map_ne h.own h.map h1.symm; exact map_ne h.own (h.ent e hm) h1.symm)
    · intro x hx
      rcases setUsed_mem he ha hx with rfl | ⟨h1, _, h3⟩
      · exact ((h.ent e hm).far hne _).set_ 1 _
      · refine ((h.ent x h1).far ((h.ent x h1).ne_ h.map (by decide)) _).far ?_ _
        intro hb
        exact h3 (h.inj x e h1 hm hb)
    · intro x hx
      rcases setUsed_mem he ha hx with rfl | ⟨h1, _, h3⟩
      · exact .inr ⟨e, hm, rfl⟩
      · exact .inr ⟨x, h1, rfl⟩
    · intro x y hx hy hb
      have g : ∀ z, z ∈ setUsed s.es i (s.clock + 1) → ∃ z', z' ∈ s.es ∧ z'.n = z.n := fun z hz => by
        rcases setUsed_mem he ha hz with rfl | ⟨h1, _, _⟩
        · exact ⟨e, hm, rfl⟩
        · exact ⟨z, h1, rfl⟩
      obtain ⟨x', hx', ex⟩ := g x hx
      obtain ⟨y', hy', ey⟩ := g y hy
      rw [← ex, ← ey] at hb ⊢
      exact h.inj x' y' hx' hy' hb
  obtain ⟨ck, hck⟩ : ∃ ck, s.clock + 1 = ck := ⟨_, rfl⟩
  rw [hck] at e1 HF
  clear h he hm hc hck
  generalize bl e.n = b at *
  go_enter Try.func44, Try.ntmps44
  go_wp2_with fail
  go_end0
  exact ⟨rfl, HF.out⟩
set_option maxHeartbeats 1000000 in
theorem PG.write (h : PG p w0 P0 s T mb N D bl w) (ha : Apart s.es) (i : Nat) (e : Ent) (he : s.es[i]? = some e) (hc : s.clock < 1000000) (q : RV) (hq : s.m.vs e.n = some q) (hn : e.n ≤ 4294967295) (l : List UInt8) (hl : l.length ≤ 1048576) (hb : l.length ≤ q.2.1.length) :
    Calls Try.prog 40 #[tp p.x, tp (bl e.n), .string (bstr l)] w fun e' w' => e' = .returned (.int .i64 0) ∧ ∃ T', PG p w0 P0 ((s.put e q l).use i) T' mb N D bl w' := by
  have hm := List.mem_of_getElem? he
  have CP := Lib.hid (h.drew.call (k_put p.bm s.m e.n hn q hq l hl hb))
  have CU := Lib.hid (fun w1 T1 (h1 : PG p w0 P0 (s.put e q l) T1 mb N D bl w1) => h1.use ha i e he hc)
  have c0 : w.cell? ⟨p.x, 0, none⟩ = some (tp p.bm) := h.map.cell 0
  have d0 : w.cell? ⟨bl e.n, 0, none⟩ = some (.int .u64 (addr e.n 0)) := (h.ent e hm).cell 0
  have HM := Lib.hid hm
  clear h hm he hc hq hl hb
  go_enter Try.func40, Try.ntmps40
  go_upto_region 1 with fail
  have S0 : Hid (w.cell? ⟨p.x, 0, none⟩ = some (tp p.bm) ∧ w.cell? ⟨bl e.n, 0, none⟩ = some (.int .u64 (addr e.n 0))) := ⟨c0, d0⟩
  go_region_held3 (fun W => W.cell? ⟨p.x, 0, none⟩ = some (tp p.bm) ∧ W.cell? ⟨bl e.n, 0, none⟩ = some (.int .u64 (addr e.n 0)))
    (first | exact S0.out | exact S1.out)
    (first
      | (go_at_call 60; refine CP.out.mono ?_; rintro e' w1 ⟨rfl, T1, h1, _⟩; have H1 := Lib.hid h1; have S1 : Hid (w1.cell? ⟨p.x, 0, none⟩ = some (tp p.bm) ∧ w1.cell? ⟨bl e.n, 0, none⟩ = some (.int .u64 (addr e.n 0))) := ⟨h1.map.cell 0, (h1.ent e HM.out).cell 0⟩; clear h1))
  go_wp2_with (go_at_call 44; refine (CU.out _ _ H1.out).mono ?_; rintro e' w2 ⟨rfl, h2⟩; have H2 := Lib.hid h2; clear h2)
  go_ret
  exact ⟨rfl, T1, H2.out⟩
set_option maxHeartbeats 1000000 in
theorem PG.drop (h : PG p w0 P0 s T mb N D bl w) (ha : Apart s.es) (i : Nat) (e : Ent) (he : s.es[i]? = some e) (hks : e.key.size ≤ maxLen) (q : RV) (hq : s.m.vs e.n = some q) (hr : q.2.2 = false) :
    Calls Try.prog 46 #[tp p.x, .string e.key] w fun e' w' => e' = .returned (.tuple #[]) ∧ ∃ T', PG p w0 P0 (s.cut i e q) T' mb N (D.del (litS e.key)) bl w' := by
  have hm := List.mem_of_getElem? he
  have CP := Lib.hid (h.drew.call (k_retire p.bm s.m e.n q hq hr))
  have c0 : w.cell? ⟨p.x, 0, none⟩ = some (tp p.bm) := h.map.cell 0
  have c5 : w.cell? ⟨p.x, 5, none⟩ = some (.map (some mb)) := h.map.cell 5
  have d0 : w.cell? ⟨bl e.n, 0, none⟩ = some (.int .u64 (addr e.n 0)) := (h.ent e hm).cell 0
  have lk := (h.look hks).1 e hm rfl
  have lkd := (h.drew.look hks).1 e hm rfl
  have HM := Lib.hid hm
  have HK := Lib.hid (keyS hks)
  have HC := Lib.hid (fun (w1 w2 : World) (T1 : Nat → Prop) (h1 : PG p w0 P0 { s with m := s.m.set e.n (some (q.1, q.2.1, true)) } T1 mb N D bl w1) (own : OwnsE w2 mb N (D.del (litS e.key))) (tr : w1.mapTurned w2 mb) =>
    (show PG p w0 P0 (s.cut i e q) T1 mb N (D.del (litS e.key)) bl w2 from by
      have kk : Keeps (fun b => b = mb) w1 w2 := (Keeps.refl _ w1).grown tr.grown fun k hk => by cases hk; exact .inl rfl
      have sub : ∀ x, x ∈ (s.cut i e q).es → x ∈ s.es := fun x hx => ((mem_erase he ha).1 hx).1
      refine h1.local_ (s' := s.cut i e q) (U := fun b => b = mb) rfl rfl kk ?_ (h1.map.keeps kk (map_ne h1.own h1.map)) own (h1.dat.cut h1.own.isMap (h1.own.tidy lawS) ha he) (fun x hx => (h1.ent x (sub x hx)).keeps kk (map_ne h1.own (h1.ent x (sub x hx)))) (fun x hx => .inr ⟨x, sub x hx, rfl⟩) (fun x y hx hy => h1.inj x y (sub x hx) (sub y hy))
      rintro b rfl
      exact ⟨h1.tm, h1.mbp⟩))
  clear h hm he hq hr hks
  go_enter Try.func46, Try.ntmps46
  go_upto_region 0 with fail
  have S0 : Hid (w.cell? ⟨p.x, 0, none⟩ = some (tp p.bm) ∧ w.cell? ⟨p.x, 5, none⟩ = some (.map (some mb)) ∧ w.cell? ⟨bl e.n, 0, none⟩ = some (.int .u64 (addr e.n 0)) ∧ (Instr.lookup entriesT (.map (some mb)) (.string e.key) false).run Try.prog w = .ok (tp (bl e.n)) w) := ⟨c0, c5, d0, lk⟩
  have S0' : Hid (w.drew.cell? ⟨p.x, 0, none⟩ = some (tp p.bm) ∧ w.drew.cell? ⟨p.x, 5, none⟩ = some (.map (some mb)) ∧ w.drew.cell? ⟨bl e.n, 0, none⟩ = some (.int .u64 (addr e.n 0)) ∧ (Instr.lookup entriesT (.map (some mb)) (.string e.key) false).run Try.prog w.drew = .ok (tp (bl e.n)) w.drew) := ⟨c0, c5, d0, lkd⟩
  go_region_held3 (fun W => W.cell? ⟨p.x, 0, none⟩ = some (tp p.bm) ∧ W.cell? ⟨p.x, 5, none⟩ = some (.map (some mb)) ∧ W.cell? ⟨bl e.n, 0, none⟩ = some (.int .u64 (addr e.n 0)) ∧ (Instr.lookup entriesT (.map (some mb)) (.string e.key) false).run Try.prog W = .ok (tp (bl e.n)) W)
    (first | exact S0.out | exact S0'.out | exact S1.out)
    (first
      | (go_at_call 66; refine CP.out.mono ?_; rintro e' w1 ⟨rfl, T1, h1, _⟩; have H1 := Lib.hid h1; have S1 : Hid (w1.cell? ⟨p.x, 0, none⟩ = some (tp p.bm) ∧ w1.cell? ⟨p.x, 5, none⟩ = some (.map (some mb)) ∧ w1.cell? ⟨bl e.n, 0, none⟩ = some (.int .u64 (addr e.n 0)) ∧ (Instr.lookup entriesT (.map (some mb)) (.string e.key) false).run Try.prog w1 = .ok (tp (bl e.n)) w1) := ⟨h1.map.cell 0, h1.map.cell 5, (h1.ent e HM.out).cell 0, (h1.look (by have := HK.out; exact Classical.byContradiction fun hn => by simp [keyOf, Try.underlying9, mapKey, hn] at this)).1 e HM.out rfl⟩; clear h1))
  have x5 : w1.cell? ⟨p.x, 5, none⟩ = some (.map (some mb)) := H1.out.map.cell 5
  obtain ⟨w2, hrun, hown, hturn⟩ := H1.out.own.drop lawS Try.underlying72 HK.out 0
  have hrun' : ∀ ty, (Builtin.delete_ #[entriesT, strT] ty #[.map (some mb), .string e.key]).run Try.prog w1 = .ok (.tuple #[]) w2 := fun ty => hrun
  have HO := Lib.hid (HC.out w1 w2 T1 H1.out hown hturn)
  clear hrun hown hturn
  go_wp2_with fail
  go_end0
  exact ⟨rfl, T1, HO.out⟩
end
end Go.Proofs.Ytmopflcaeecgcaa
namespace Go.Proofs.Ytmopflcaeecgcaa
open Go Go.RowKit Go.Maps
set_option linter.unusedVariables false
set_option linter.unusedSimpArgs false
set_option maxRecDepth 100000
abbrev Ranges (w : World) (mb r N : Nat) (D : DataW Value) (left : Lit → Bool) (cnt : Nat) : Prop := w.ranges Try.prog strT heldV mb r N D left cnt
def Seen (es : List Ent) (left : Lit → Bool) (e : Ent) : Prop := e ∈ es ∧ left (litS e.key) = false
/-- The oldest of those that came. -/
def Oldest (es : List Ent) (left : Lit → Bool) (l : ByteArray) (u : Nat) : Prop := (l = ⟨#[]⟩ ∧ ∀ e, ¬ Seen es left e) ∨ ∃ e, Seen es left e ∧ l = e.key ∧ u = e.used ∧ ∀ e', Seen es left e' → e.used ≤ e'.used
theorem ne_empty {k : ByteArray} (h : 1 ≤ k.size) : k.toList.isEmpty = false := by
  rw [Lib.toList_data]
  rcases hl : k.data.toList with _ | ⟨x, y⟩
  · have := Lib.size_eq k
    rw [hl] at this; rw [this] at h; exact absurd h (by decide)
  · rfl
section
variable {p : HPar} {w0 w w' : World} {P0 P U T T' : Nat → Prop} {s s' : HSt} {mb N N' : Nat} {D D' : DataW Value} {bl bl' : Nat → Nat}
set_option maxHeartbeats 4000000 in
theorem PG.leastUsed (h : PG p w0 P0 s T mb N D bl w) (ho : HOk p s) (h0 : 0 < s.es.length) (eo : Ent) (heo : s.es[oldTo s.es s.es.length]? = some eo) :
    Calls Try.prog 62 #[.map (some mb)] w fun e w' => e = .returned (.string eo.key) ∧ Keeps (fun _ => False) w w' := by
  have hown := h.own
  have H := Lib.hid h
  have HA := Lib.hid ho.aparts
  have HK := Lib.hid (fun e (he : e ∈ s.es) => (show 1 ≤ e.key.size by rw [(ho.of_mem he).2.1]; exact ho.par.k1))
  have HEND : Hid (∀ left l u, Oldest s.es left l u → (∀ kl, left kl = false) → l = eo.key) := by
    intro left l u hol hl
    have hmo := List.mem_of_getElem? heo
    rcases hol with ⟨_, hn⟩ | ⟨e, ⟨he, _⟩, rfl, _, hmin⟩
    · exact absurd ⟨hmo, hl _⟩ (hn eo)
    · have h1 := hmin eo ⟨hmo, hl _⟩
      obtain ⟨i, hi, rfl⟩ := List.getElem_of_mem he
      have h2 := oldTo_min s.es s.es.length h0 (Nat.le_refl _) i hi
      unfold usedAt at h2
      rw [heo, List.getElem?_eq_getElem hi] at h2
      have h3 : eo.used ≤ s.es[i].used := h2
      rw [ho.aparts.used _ _ he hmo (by omega)]
  clear h ho h0 heo
  go_enter Try.func62, Try.ntmps62
  go_wp2_with (first
    | (at_range; refine wpList_range_own _ rfl _ entriesT rfl strT 95 lawS Try.underlying72 heldV mb N D rfl hown ?_; intro w1 hrg0 hg0 hs0)
    | fail)
  go_frame
  go_loopw [3, 4, 5, 6] (fun l u _ _ wr => ∃ (left : Lit → Bool) (cnt : Nat) (ls : ByteArray) (us : Nat), Ranges wr mb w.heap.size N D left cnt ∧ Keeps (fun _ => False) w wr ∧ (∀ kl, left kl = true → Maps.has D kl = true) ∧ l = .string ls ∧ u = .int .u64 us ∧ Oldest s.es left ls us)
    (fun _ _ _ _ wr => wr.rangeLeft mb w.heap.size)
  case atStart =>
    refine ⟨_, _, ⟨#[]⟩, 0, hrg0, (Keeps.refl _ w).grown hg0 (fun k hk => by cases hk), fun kl hk => hk, rfl, rfl, .inl ⟨rfl, fun e he => ?_⟩⟩
    have := H.out.dat.has_yes he.1
    rw [he.2] at this; cases this
  case round =>
    obtain ⟨left, cnt, ls, us, hrg, hkp, hlf, rfl, rfl, hol⟩ := hrel
    have HKP := Lib.hid hkp
    have HLF := Lib.hid hlf
    have HOL := Lib.hid hol
    clear hkp hlf hol hrg0 hg0 hs0 hown
    go_wp2_with (first
      | (at_next; refine wpList_next_ranges _ rfl _ rfl strT lawS heldV Value.string id (fun key kl hk => by obtain ⟨x, hx, _⟩ := keyS_inv hk; exact ⟨x, hx⟩) (fun v _ _ => ⟨v, rfl⟩) mb w.heap.size N _ _ _ rfl hrg ?_ ?_)
      | fail)
    · intro hc0 hl0
      have HE := Lib.hid (HEND.out _ _ _ HOL.out hl0)
      clear hc0 hl0
      go_wp2_with fail
      go_ret
      exact ⟨by rw [HE.out]; rfl, HKP.out⟩
    · intro x c kl yd yp w2 cnt2 hkey hlk hv hat hrg2 hlt hg2 hs2 hen
      obtain ⟨x', ex, rfl⟩ := keyS_inv hkey
      cases ex
      simp only [id_eq, heldV, Option.some.injEq, Prod.mk.injEq] at hv
      obtain ⟨rfl, rfl⟩ := hv
      obtain ⟨e, he, rfl, rfl, hseen, hlf2⟩ := H.out.dat.came HA.out HLF.out hlk hat
      have HK2 : Hid (Keeps (fun _ => False) w w2) := HKP.out.grown hg2 (fun k hk => by cases hk; exact .inr (Nat.le_refl _))
      have d1 : w2.cell? ⟨bl e.n, 1, none⟩ = some (.int .u64 e.used) := ((H.out.ent e he).keeps HK2.out (fun h => h)).cell 1
      have HR2 := Lib.hid hrg2
      have HM : Hid (w2.rangeLeft mb w.heap.size < wr.rangeLeft mb w.heap.size) := by unfold Hid; rw [hrg2.left_eq, hrg.left_eq]; exact hlt
      have HLF2 := Lib.hid hlf2
      have HS := Lib.hid hseen
      have HEM := Lib.hid he
      clear hkey hlk hat hrg2 hlt hg2 hs2 hseen hlf2 hrg
      have HT : Hid ((ls = ⟨#[]⟩ ∨ e.used < us) → Oldest s.es (fun z => left z && !z.sameKey (litS e.key)) e.key e.used) := by
        intro hh
        refine .inr ⟨e, (HS.out e).2 (.inr rfl), rfl, rfl, fun e' he' => ?_⟩
        rcases (HS.out e').1 he' with h1 | rfl
        · rcases HOL.out with ⟨_, hn⟩ | ⟨e0, h2, rfl, rfl, hmin⟩
          · exact absurd h1 (hn e')
          · rcases hh with h3 | h3
            · have := HK.out e0 h2.1
              rw [h3] at this
              exact absurd this (by decide)
            · have := hmin e' h1; omega
        · exact Nat.le_refl _
      have HT2 : Hid (ls.size ≠ 0 → us ≤ e.used → Oldest s.es (fun z => left z && !z.sameKey (litS e.key)) ls us) := by
        intro h1 h2
        rcases HOL.out with ⟨h3, hn⟩ | ⟨e0, h3, rfl, rfl, hmin⟩
        · rw [h3] at h1; exact absurd rfl h1
        · refine .inr ⟨e0, (HS.out e0).2 (.inl h3), rfl, rfl, fun e' he' => ?_⟩
          rcases (HS.out e').1 he' with h4 | rfl
          · exact hmin e' h4
          · exact h2
      have HW : Hid (∀ n, Ranges (w2.drewN n) mb w.heap.size N D (fun z => left z && !z.sameKey (litS e.key)) cnt2 ∧ Keeps (fun _ => False) w (w2.drewN n)) := fun n => ⟨HR2.out, HK2.out.drewN' n⟩
      by_cases hz : ls.size = 0
      · have hls : ls = ⟨#[]⟩ := ByteArray.ext (Array.eq_empty_of_size_eq_zero hz)
        subst hls
        have HT' := Lib.hid (HT.out (.inl rfl))
        clear HT HT2 hz HOL
        go_upto_region 6 with fail
        go_quiet (fail)
        go_wp2_with fail
        go_roundw
        case rel => exact ⟨_, cnt2, e.key, e.used, (HW.out _).1, (HW.out _).2, HLF2.out, rfl, rfl, HT'.out⟩
        case measure => exact HM.out
      · have b0 := ne_empty (k := ls) (by omega)
        have HZ := Lib.hid hz
        clear hz
        by_cases hlt : e.used < us
        · have b1 : decide (e.used < us) = true := by simpa using hlt
          have i1 : (e.used : Int) < (us : Int) := by omega
          have HT' := Lib.hid (HT.out (.inr hlt))
          clear HT HT2 hlt HOL
          go_upto_region 6 with fail
          go_quiet (fail)
          go_wp2_with fail
          go_roundw
          case rel => exact ⟨_, cnt2, e.key, e.used, (HW.out _).1, (HW.out _).2, HLF2.out, rfl, rfl, HT'.out⟩
          case measure => exact HM.out
        · have b1 : decide (e.used < us) = false := by simpa using hlt
          have i1 : ¬ (e.used : Int) < (us : Int) := by omega
          have HT' := Lib.hid (HT2.out HZ.out (by omega))
          clear HT HT2 hlt HOL
          go_wp2_with fail
          go_roundw
          case rel => exact ⟨_, cnt2, ls, us, HR2.out, HK2.out, HLF2.out, rfl, rfl, HT'.out⟩
          case measure => exact HM.out
end
end Go.Proofs.Ytmopflcaeecgcaa
namespace Go.Proofs.Ytmopflcaeecgcaa
open Go Go.RowKit Go.Maps
set_option linter.unusedVariables false
set_option linter.unusedSimpArgs false
set_option maxRecDepth 100000
def aboveA (o : Option ByteArray) : Ending := .returned (.tuple #[.string (o.getD ⟨#[]⟩), .bool o.isSome])
section
variable {p : HPar} {w0 w w' : World} {P0 P U T T' : Nat → Prop} {s s' : HSt} {mb N N' : Nat} {D D' : DataW Value} {bl bl' : Nat → Nat}
set_option maxHeartbeats 4000000 in
theorem PG.above (h : PG p w0 P0 s T mb N D bl w) (ho : HOk p s) (key : ByteArray) :
    Calls Try.prog 42 #[.map (some mb), .string key] w fun e w' => (∃ o, Least (fun k => gtS k key = true) (fun e => e ∈ s.es) o ∧ e = aboveA o) ∧ Keeps (fun _ => False) w w' := by
  have hown := h.own
  have H := Lib.hid h
  have HA := Lib.hid ho.aparts
  have HK := Lib.hid (fun e (he : e ∈ s.es) => (show 1 ≤ e.key.size by rw [(ho.of_mem he).2.1]; exact ho.par.k1))
  clear h ho
  go_enter Try.func42, Try.ntmps42
  go_wp2_with (first
    | (at_range; refine wpList_range_own _ rfl _ entriesT rfl strT 95 lawS Try.underlying72 heldV mb N D rfl hown ?_; intro w1 hrg0 hg0 hs0)
    | fail)
  go_frame
  go_loopw [6, 7] (fun l _ wr => ∃ (left : Lit → Bool) (cnt : Nat) (o : Option ByteArray), Ranges wr mb w.heap.size N D left cnt ∧ Keeps (fun _ => False) w wr ∧ (∀ kl, left kl = true → Maps.has D kl = true) ∧ l = .string (o.getD ⟨#[]⟩) ∧ Least (fun k => gtS k key = true) (Seen s.es left) o)
    (fun _ _ wr => wr.rangeLeft mb w.heap.size)
  case atStart =>
    refine ⟨_, _, none, hrg0, (Keeps.refl _ w).grown hg0 (fun k hk => by cases hk), fun kl hk => hk, rfl, Least.start.congr fun e => ⟨fun h => h.elim, fun he => ?_⟩⟩
    have := H.out.dat.has_yes he.1
    rw [he.2] at this; cases this
  case round =>
    obtain ⟨left, cnt, o, hrg, hkp, hlf, rfl, hol⟩ := hrel
    have HKP := Lib.hid hkp
    have HLF := Lib.hid hlf
    have HOL := Lib.hid hol
    clear hkp hlf hol hrg0 hg0 hs0 hown
    go_wp2_with (first
      | (at_next; refine wpList_next_ranges _ rfl _ rfl strT lawS heldV Value.string id (fun key kl hk => by obtain ⟨x, hx, _⟩ := keyS_inv hk; exact ⟨x, hx⟩) (fun v _ _ => ⟨v, rfl⟩) mb w.heap.size N _ _ _ rfl hrg ?_ ?_)
      | fail)
    · intro hc0 hl0
      have HE : Hid (Least (fun k => gtS k key = true) (fun e => e ∈ s.es) o) := HOL.out.congr fun e => ⟨fun he => he.1, fun he => ⟨he, hl0 _⟩⟩
      clear hc0 hl0
      rcases o with _ | k
      · rw [show (none : Option ByteArray).getD ⟨#[]⟩ = ⟨#[]⟩ from rfl]
        go_wp2_with fail
        go_ret2
        exact ⟨⟨none, HE.out, rfl⟩, HKP.out⟩
      · rw [show (some k).getD ⟨#[]⟩ = k from rfl]
        obtain ⟨⟨e, he, rfl, _⟩, _⟩ := HE.out.yes k rfl
        have b0 := ne_empty (HK.out e he)
        go_wp2_with fail
        go_ret2
        exact ⟨⟨some e.key, HE.out, rfl⟩, HKP.out⟩
    · intro x c kl yd yp w2 cnt2 hkey hlk hv hat hrg2 hlt hg2 hs2 hen
      obtain ⟨x', ex, rfl⟩ := keyS_inv hkey
      cases ex
      simp only [id_eq, heldV, Option.some.injEq, Prod.mk.injEq] at hv
      obtain ⟨rfl, rfl⟩ := hv
      obtain ⟨e, he, rfl, rfl, hseen, hlf2⟩ := H.out.dat.came HA.out HLF.out hlk hat
      have HK2 : Hid (Keeps (fun _ => False) w w2) := HKP.out.grown hg2 (fun k hk => by cases hk; exact .inr (Nat.le_refl _))
      have HR2 := Lib.hid hrg2
      have HM : Hid (w2.rangeLeft mb w.heap.size < wr.rangeLeft mb w.heap.size) := by unfold Hid; rw [hrg2.left_eq, hrg.left_eq]; exact hlt
      have HLF2 := Lib.hid hlf2
      have HS := Lib.hid hseen
      clear hkey hlk hat hrg2 hlt hg2 hs2 hseen hlf2 hrg
      have bg := gt_run 9 e.key key
      cases hgt : gtS e.key key
      · rw [hgt] at bg
        have HX := Lib.hid (HOL.out.skip (e := e) (S' := Seen s.es fun z => left z && !z.sameKey (litS e.key)) (by rw [hgt]; decide) HS.out)
        clear hgt
        go_wp2_with fail
        go_roundw
        case rel => exact ⟨_, cnt2, o, HR2.out, HK2.out, HLF2.out, rfl, HX.out⟩
        case measure => exact HM.out
      · rw [hgt] at bg
        have HGT := Lib.hid hgt
        clear hgt
        rcases o with _ | k
        · rw [show (none : Option ByteArray).getD ⟨#[]⟩ = ⟨#[]⟩ from rfl]
          have HX := Lib.hid (HOL.out.take (e := e) (S' := Seen s.es fun z => left z && !z.sameKey (litS e.key)) HGT.out (.inl rfl) HS.out)
          go_wp2_with fail
          go_roundw
          case rel => exact ⟨_, cnt2, some e.key, HR2.out, HK2.out, HLF2.out, rfl, HX.out⟩
          case measure => exact HM.out
        · rw [show (some k).getD ⟨#[]⟩ = k from rfl]
          have b0 : k.toList.isEmpty = false := by
            obtain ⟨⟨e', he', h1, _⟩, _⟩ := HOL.out.yes k rfl
            rw [← h1]; exact ne_empty (HK.out e' he'.1)
          cases hl : Op.bytesLess e.key.toList k.toList
          · have HX := Lib.hid (HOL.out.stay (e := e) (S' := Seen s.es fun z => left z && !z.sameKey (litS e.key)) hl HS.out)
            go_wp2_with fail
            go_roundw
            case rel => exact ⟨_, cnt2, some k, HR2.out, HK2.out, HLF2.out, rfl, HX.out⟩
            case measure => exact HM.out
          · have HX := Lib.hid (HOL.out.take (e := e) (S' := Seen s.es fun z => left z && !z.sameKey (litS e.key)) HGT.out (.inr hl) HS.out)
            go_wp2_with fail
            go_roundw
            case rel => exact ⟨_, cnt2, some e.key, HR2.out, HK2.out, HLF2.out, rfl, HX.out⟩
            case measure => exact HM.out
theorem above_nil (key : ByteArray) (w : World) :
    Calls Try.prog 42 #[.map none, .string key] w fun e w' => e = aboveA none ∧ Keeps (fun _ => False) w w' := by
  have hrg := run_range_nilMap (P := Try.prog) w entriesT strT 95 Try.underlying72
  have hnx : ∀ ty, (Instr.next (.pointer (some ⟨w.heap.size, 0, none⟩)) false ty).run Try.prog (w.alloc (.mapIter none 0 #[] 0)) = _ := fun ty => run_next_nilMap w ty 0 0 #[]
  have HK : Hid (Keeps (fun _ => False) w (w.alloc (.mapIter none 0 #[] 0))) := (Keeps.refl _ w).alloc _
  go_enter Try.func42, Try.ntmps42
  go_wp2
  refine wp_loop_rounds 1 ?_
  rw [rounds_succ]
  go_wp2
  go_ret2
  exact ⟨rfl, HK.out⟩
end
end Go.Proofs.Ytmopflcaeecgcaa
namespace Go.Proofs.Ytmopflcaeecgcaa
open Go Go.RowKit Go.Maps
set_option linter.unusedVariables false
set_option linter.unusedSimpArgs false
set_option maxRecDepth 100000
/-- The regions of those entries that C holds of are there no more. -/
noncomputable def freeC (m : PS) (C : Ent → Prop) : PS := { m with vs := fun n => @ite _ (∃ e, C e ∧ e.n = n) (Classical.propDecidable _) none (m.vs n) }
theorem freeC_yes (m : PS) {C : Ent → Prop} {e : Ent} (h : C e) : (freeC m C).vs e.n = none := if_pos ⟨e, h, rfl⟩
theorem freeC_no (m : PS) {C : Ent → Prop} {n : Nat} (h : ∀ e, C e → e.n ≠ n) : (freeC m C).vs n = m.vs n := if_neg (fun ⟨e, h1, h2⟩ => h e h1 h2)
theorem ps_ext {a b : PS} (h1 : a.made = b.made) (h2 : a.fail = b.fail) (h3 : ∀ n, a.vs n = b.vs n) : a = b := by
  obtain ⟨a1, a2, a3⟩ := a
  obtain ⟨b1, b2, b3⟩ := b
  obtain rfl : a1 = b1 := h1
  obtain rfl : a2 = b2 := h2
  obtain rfl : a3 = b3 := funext h3
  rfl
theorem freeC_none (m : PS) {C : Ent → Prop} (h : ∀ e, ¬ C e) : freeC m C = m := ps_ext rfl rfl fun n => freeC_no m fun e he => absurd he (h e)
theorem freeC_step (m : PS) {C C' : Ent → Prop} {e : Ent} (h : ∀ x, C' x ↔ C x ∨ x = e) : (freeC m C).set e.n none = freeC m C' := by
  refine ps_ext rfl rfl fun n => ?_
  show updv _ _ _ n = _
  by_cases hn : n = e.n
  · subst hn
    rw [updv_same, freeC_yes m ((h e).2 (.inr rfl))]
  · rw [updv_other _ _ hn]
    by_cases hc : ∃ x, C x ∧ x.n = n
    · obtain ⟨x, hx, rfl⟩ := hc
      rw [freeC_yes m hx, freeC_yes m ((h x).2 (.inl hx))]
    · have hc' : ∀ x, C x → x.n ≠ n := fun x hx hxn => hc ⟨x, hx, hxn⟩
      rw [freeC_no m hc', freeC_no m]
      intro x hx hxn
      rcases (h x).1 hx with h1 | rfl
      · exact hc' x h1 hxn
      · exact hn hxn.symm
theorem freeC_to (m : PS) (es : List Ent) : ∀ j, j ≤ es.length → freeTo m es j = freeC m (fun e => ∃ i, i < j ∧ es[i]? = some e)
  | 0, _ => (freeC_none m fun e ⟨i, hi, _⟩ => by omega).symm
  | j + 1, hj => by
    obtain ⟨e, he⟩ : ∃ e, es[j]? = some e := ⟨_, List.getElem?_eq_getElem (by omega)⟩
    rw [freeTo_step he, freeC_to m es j (by omega)]
    refine freeC_step m fun x => ?_
    constructor
    · rintro ⟨i, hi, hx⟩
      rcases Nat.lt_or_ge i j with h | h
      · exact .inl ⟨i, h, hx⟩
      · obtain rfl : i = j := by omega
        rw [he] at hx; cases hx; exact .inr rfl
    · rintro (⟨i, hi, hx⟩ | rfl)
      · exact ⟨i, by omega, hx⟩
      · exact ⟨j, by omega, he⟩
theorem freeC_congr (m : PS) {C C' : Ent → Prop} (h : ∀ x, C x ↔ C' x) : freeC m C = freeC m C' := by
  rw [show C = C' from funext fun x => propext (h x)]
theorem freeC_all (m : PS) (es : List Ent) : freeTo m es es.length = freeC m (fun e => e ∈ es) := by
  rw [freeC_to m es _ (Nat.le_refl _)]
  refine freeC_congr m fun e => ⟨fun ⟨i, _, hi⟩ => List.mem_of_getElem? hi, fun he => ?_⟩
  obtain ⟨i, hi, rfl⟩ := List.getElem_of_mem he
  exact ⟨i, hi, List.getElem?_eq_getElem hi⟩
def wiped (w : World) (x : Nat) : World := ((((((w.setCell ⟨x, 0, none⟩ (.pointer none)).setCell ⟨x, 1, none⟩ (.int .i64 0)).setCell ⟨x, 2, none⟩ (.int .i64 0)).setCell ⟨x, 3, none⟩ (.int .i64 0)).setCell ⟨x, 4, none⟩ (.int .i64 0)).setCell ⟨x, 5, none⟩ (.map none)).setCell ⟨x, 6, none⟩ (.int .u64 0)
theorem wiped_blk {w : World} {x : Nat} {a0 a1 a2 a3 a4 a5 a6 : Value} (h : Blk w x mapT #[a0, a1, a2, a3, a4, a5, a6]) : Blk (wiped w x) x mapT goneC := by
  have := ((((((h.set_ 0 (.pointer none)).set_ 1 (.int .i64 0)).set_ 2 (.int .i64 0)).set_ 3 (.int .i64 0)).set_ 4 (.int .i64 0)).set_ 5 (.map none)).set_ 6 (.int .u64 0)
  simpa [wiped] using this
theorem wiped_keeps (w : World) (x : Nat) : Keeps (fun b => b = x) w (wiped w x) := by
  have f : ∀ (w' : World) (i : Nat) (u : Value), Keeps (fun b => b = x) w w' → Keeps (fun b => b = x) w (w'.setCell ⟨x, i, none⟩ u) := fun w' i u h => h.setCell (p := ⟨x, i, none⟩) (.inl rfl) u
  exact f _ _ _ (f _ _ _ (f _ _ _ (f _ _ _ (f _ _ _ (f _ _ _ (f _ _ _ (Keeps.refl _ w)))))))
section
variable {p : HPar} {w0 w w' : World} {P0 P U T T' : Nat → Prop} {s s' : HSt} {mb N N' : Nat} {D D' : DataW Value} {bl bl' : Nat → Nat}
theorem PG.wipe (h : PG p w0 P0 s T mb N D bl w) (s' : HSt) (hm : s'.m = s.m) (hg : s'.gone = true) : PO p w0 P0 s' T (wiped w p.x) :=
  ⟨h.keeps.trans ((wiped_keeps w p.x).mono fun b e => by subst e; exact .inl h.px), h.pl, h.px, by rw [hm]; exact h.side.keeps' (wiped_keeps w p.x) (fun b hb e => by subst e; exact h.tx hb), h.tq, h.tx, wiped_blk h.map, hg⟩
set_option maxHeartbeats 4000000 in
theorem PG.free (h : PG p w0 P0 s T mb N D bl w) (ho : HOk p s) (hmd : s.m.made ≤ 4096) :
    Calls Try.prog 25 #[tp p.x] w fun e w' => e = .returned (.int .i64 0) ∧ ∃ T', PO p w0 P0 { s with m := freeTo s.m s.es s.es.length, es := [], gone := true } T' w' := by
  have CG := Lib.hid (gone_no h)
  have hown := h.own
  have c5 : w.cell? ⟨p.x, 5, none⟩ = some (.map (some mb)) := h.map.cell 5
  have H := Lib.hid h
  have HA := Lib.hid ho.aparts
  have CF := Lib.hid (fun (e : Ent) (left : Lit → Bool) (T1 : Nat → Prop) (w1 : World) (he : e ∈ s.es) (hl : left (litS e.key) = true) (h1 : PG p w0 P0 { s with m := freeC s.m (Seen s.es left) } T1 mb N D bl w1) =>
    (show Calls Try.prog 48 #[tp p.bm, .int .u64 (addr e.n 0)] w1 fun e' w' => e' = .returned (.int .i64 0) ∧ ∃ T', PG p w0 P0 { s with m := (freeC s.m (Seen s.es left)).set e.n none } T' mb N D bl w' ∧ Keeps T1 w1 w' ∧ T' = more T1 w1 w' from by
      obtain ⟨hn, _, _, b, hq, _⟩ := ho.of_mem he
      have hq' : (freeC s.m (Seen s.es left)).vs e.n = some (3, b, false) := (freeC_no s.m fun x hx hxn => by
        have := ho.aparts.n x e hx.1 he hxn
        subst this
        rw [hx.2] at hl; cases hl).trans hq
      refine (k_free p.bm (freeC s.m (Seen s.es left)) e.n (by omega) _ hq' w1 T1 h1.side).mono ?_
      rintro e' w' ⟨rfl, hk, kk⟩
      exact ⟨rfl, _, h1.mem_ hk kk, kk, rfl⟩))
  clear h ho
  go_enter Try.func25, Try.ntmps25
  go_wp2_with (first
    | (go_at_call 39; refine CG.out.mono ?_; rintro e w1 ⟨rfl, rfl⟩)
    | (at_range; refine wpList_range_own _ rfl _ entriesT rfl strT 95 lawS Try.underlying72 heldV mb N D rfl hown ?_; intro w1 hrg0 hg0 hs0)
    | fail)
  go_frame
  go_loopw [4] (fun _ wr => ∃ (left : Lit → Bool) (cnt : Nat) (T1 : Nat → Prop), Ranges wr mb w.heap.size N D left cnt ∧ PG p w0 P0 { s with m := freeC s.m (Seen s.es left) } T1 mb N D bl wr ∧ ¬ T1 w.heap.size ∧ (∀ kl, left kl = true → Maps.has D kl = true))
    (fun _ wr => wr.rangeLeft mb w.heap.size)
  case atStart =>
    have hnone : ∀ e, ¬ Seen s.es (Maps.has D) e := fun e he => by
      have := H.out.dat.has_yes he.1
      rw [he.2] at this; cases this
    refine ⟨_, _, T, hrg0, ?_, fun ht => by have := H.out.side.lt' _ ht; omega, fun kl hk => hk⟩
    rw [freeC_none s.m hnone]
    exact H.out.quiet ((Keeps.refl _ w).grown hg0 (fun k hk => by cases hk))
  case round =>
    obtain ⟨left, cnt, T1, hrg, hJ, hnt, hlf⟩ := hrel
    have HJ := Lib.hid hJ
    have HNT := Lib.hid hnt
    have HLF := Lib.hid hlf
    have HMB : Hid (w.heap.size ≠ mb) := Nat.ne_of_gt H.out.own.lt
    have HSZ : Hid (w0.heap.size ≤ w.heap.size) := H.out.keeps.size
    clear hJ hnt hlf hrg0 hg0 hs0 hown c5
    go_wp2_with (first
      | (at_next; refine wpList_next_ranges _ rfl _ rfl strT lawS heldV Value.string id (fun key kl hk => by obtain ⟨x, hx, _⟩ := keyS_inv hk; exact ⟨x, hx⟩) (fun v _ _ => ⟨v, rfl⟩) mb w.heap.size N _ _ _ rfl hrg ?_ ?_)
      | fail)
    · intro hc0 hl0
      have HE : Hid (∀ W, W = wiped wr p.x → PO p w0 P0 { s with m := freeTo s.m s.es s.es.length, es := [], gone := true } T1 W) := fun W hW => by
        rw [hW]
        refine HJ.out.wipe _ ?_ rfl
        show freeTo s.m s.es s.es.length = freeC s.m _
        rw [freeC_all]
        exact freeC_congr s.m fun e => ⟨fun he => ⟨he, hl0 _⟩, fun he => he.1⟩
      have f0 : wr.frozen? ⟨p.x, 0, none⟩ = false := HJ.out.map.frozen 0
      have f1 : wr.frozen? ⟨p.x, 1, none⟩ = false := HJ.out.map.frozen 1
      have f2 : wr.frozen? ⟨p.x, 2, none⟩ = false := HJ.out.map.frozen 2
      have f3 : wr.frozen? ⟨p.x, 3, none⟩ = false := HJ.out.map.frozen 3
      have f4 : wr.frozen? ⟨p.x, 4, none⟩ = false := HJ.out.map.frozen 4
      have f5 : wr.frozen? ⟨p.x, 5, none⟩ = false := HJ.out.map.frozen 5
      have f6 : wr.frozen? ⟨p.x, 6, none⟩ = false := HJ.out.map.frozen 6
      have x0 : wr.cell? ⟨p.x, 0, none⟩ = some (tp p.bm) := HJ.out.map.cell 0
      have x1 : wr.cell? ⟨p.x, 1, none⟩ = some (.int .i64 p.k) := HJ.out.map.cell 1
      have x2 : wr.cell? ⟨p.x, 2, none⟩ = some (.int .i64 p.key) := HJ.out.map.cell 2
      have x3 : wr.cell? ⟨p.x, 3, none⟩ = some (.int .i64 p.v) := HJ.out.map.cell 3
      have x4 : wr.cell? ⟨p.x, 4, none⟩ = some (.int .i64 p.mx) := HJ.out.map.cell 4
      have x5 : wr.cell? ⟨p.x, 5, none⟩ = some (.map (some mb)) := HJ.out.map.cell 5
      have x6 : wr.cell? ⟨p.x, 6, none⟩ = some (.int .u64 s.clock) := HJ.out.map.cell 6
      clear hc0 hl0
      go_wp2_with fail
      go_ret
      exact ⟨rfl, T1, HE.out _ rfl⟩
    · intro x c kl yd yp w2 cnt2 hkey hlk hv hat hrg2 hlt hg2 hs2 hen
      obtain ⟨x', ex, rfl⟩ := keyS_inv hkey
      cases ex
      simp only [id_eq, heldV, Option.some.injEq, Prod.mk.injEq] at hv
      obtain ⟨rfl, rfl⟩ := hv
      obtain ⟨e, he, rfl, rfl, hseen, hlf2⟩ := H.out.dat.came HA.out HLF.out hlk hat
      have HK2 : Hid (Keeps (fun b => b = w.heap.size) wr w2) := (Keeps.refl _ wr).grown hg2 (fun k hk => by cases hk; exact .inl rfl)
      have HJ2 : Hid (PG p w0 P0 { s with m := freeC s.m (Seen s.es left) } T1 mb N D bl w2) := by
        refine HJ.out.off HK2.out (fun e => ?_) (fun e => HMB.out e.symm) (fun b hb e => HNT.out (e ▸ hb)) (fun x hx e => ?_) (fun b e => by rw [e]; exact .inr HSZ.out)
        · have := H.out.map.lt; omega
        · have := (H.out.ent x hx).lt; omega
      have d0 : w2.cell? ⟨bl e.n, 0, none⟩ = some (.int .u64 (addr e.n 0)) := (HJ2.out.ent e he).cell 0
      have x0 : w2.cell? ⟨p.x, 0, none⟩ = some (tp p.bm) := HJ2.out.map.cell 0
      have HR2 := Lib.hid hrg2
      have HM : Hid (cnt2 < wr.rangeLeft mb w.heap.size) := by unfold Hid; rw [hrg.left_eq]; exact hlt
      have HLF2 := Lib.hid hlf2
      have HS := Lib.hid hseen
      have HEM := Lib.hid he
      have CFE := Lib.hid (CF.out e left T1 w2.drew he hlk HJ2.out.drew)
      clear hkey hlk hat hrg2 hlt hg2 hs2 hseen hlf2 hrg CF he
      go_upto_region 6 with fail
      have S0 : Hid (w2.cell? ⟨p.x, 0, none⟩ = some (tp p.bm) ∧ w2.cell? ⟨bl e.n, 0, none⟩ = some (.int .u64 (addr e.n 0))) := ⟨x0, d0⟩
      go_region_held3 (fun W => W.cell? ⟨p.x, 0, none⟩ = some (tp p.bm) ∧ W.cell? ⟨bl e.n, 0, none⟩ = some (.int .u64 (addr e.n 0)))
        (first | exact S0.out | exact S1.out)
        (first
          | (go_at_call 48; refine CFE.out.mono ?_; rintro e' w3 ⟨rfl, T3, h3, k3, hT3⟩; have H3 := Lib.hid h3; have K3 := Lib.hid k3; have HT3 := Lib.hid hT3; have S1 : Hid (w3.cell? ⟨p.x, 0, none⟩ = some (tp p.bm) ∧ w3.cell? ⟨bl e.n, 0, none⟩ = some (.int .u64 (addr e.n 0))) := ⟨h3.map.cell 0, (h3.ent e HEM.out).cell 0⟩; clear h3 k3 hT3))
      have HR3 : Hid (Ranges w3 mb w.heap.size N D (fun z => left z && !z.sameKey (litS e.key)) cnt2) := ranges_keeps (show Ranges w2.drew mb w.heap.size N D (fun z => left z && !z.sameKey (litS e.key)) cnt2 from HR2.out) K3.out HJ2.out.tm HNT.out
      have HLT : Hid (w.heap.size < w2.heap.size) := HR2.out.lt
      go_wp2_with fail
      go_roundw
      case rel =>
        refine ⟨_, cnt2, T3, HR3.out, ?_, ?_, HLF2.out⟩
        · rw [← freeC_step s.m (C' := Seen s.es (fun z => left z && !z.sameKey (litS e.key))) HS.out]
          exact H3.out
        · rw [HT3.out]
          rintro (h1 | ⟨h1, _⟩)
          · exact HNT.out h1
          · have := HLT.out
            have h2 : w2.heap.size ≤ w.heap.size := h1
            omega
      case measure => rw [HR3.out.left_eq]; exact HM.out
end
theorem PO.freeNo {p : HPar} {w0 w : World} {P0 T : Nat → Prop} {s : HSt} (h : PO p w0 P0 s T w) : Calls Try.prog 25 #[tp p.x] w fun e w' => e = .returned (.int .i64 1) ∧ w = w' := by
  have CG := Lib.hid (gone_yes h)
  clear h
  go_enter Try.func25, Try.ntmps25
  go_wp2_with (go_at_call 39; refine CG.out.mono ?_; rintro e w1 ⟨rfl, rfl⟩)
  go_ret
  exact ⟨rfl, rfl⟩
end Go.Proofs.Ytmopflcaeecgcaa
