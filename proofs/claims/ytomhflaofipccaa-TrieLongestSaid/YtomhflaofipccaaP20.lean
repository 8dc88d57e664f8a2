/-
  Keys of prefixes, plainly: bits, forms. A tree of prefixes, plainly: what stands in it, the longest that matches. Plainly: the order of texts; the least key of some, in whatever order they come. A tree of prefixes, plainly: an entry comes, an entry goes.
-/
import Derived.Lib.Hide
import Derived.WalkKit
import Derived.Lib.Strings
namespace Go.Proofs.Ytomhflaofipccaa
set_option linter.unusedVariables false
set_option linter.unusedSimpArgs false
def byt (k : ByteArray) (i : Nat) : Nat := (k.data.toList.getD i 0).toNat
/-- The bit i of a key, behind its four bytes of length. -/
def bitB (k : ByteArray) (i : Nat) : Bool := (byt k (4 + i / 8)).testBit (7 - i % 8)
def Agree (a b : ByteArray) (n : Nat) : Prop := ∀ i, i < n → bitB a i = bitB b i
instance (a b : ByteArray) (n : Nat) : Decidable (Agree a b n) := by unfold Agree; infer_instance
/-- A byte's first r bits. -/
def top (x r : Nat) : Nat := x / 2 ^ (8 - r) * 2 ^ (8 - r)
def cutN (k : ByteArray) (n i : Nat) : Nat := if i < 4 then n / 256 ^ i % 256 else top (byt k i) (min 8 (n - 8 * (i - 4)))
def cutB (k : ByteArray) (n : Nat) : ByteArray := ⟨((List.range k.size).map fun i => UInt8.ofNat (cutN k n i)).toArray⟩
theorem cutB_size (k : ByteArray) (n : Nat) : (cutB k n).size = k.size := by
  show (((List.range k.size).map fun i => UInt8.ofNat (cutN k n i)).toArray).size = k.size
  rw [List.size_toArray, List.length_map, List.length_range]
theorem byt_lt (k : ByteArray) (i : Nat) : byt k i < 256 := UInt8.toNat_lt _
theorem top_le (x r : Nat) : top x r ≤ x := Nat.div_mul_le_self _ _
theorem cutN_lt (k : ByteArray) (n i : Nat) : cutN k n i < 256 := by
  unfold cutN
  split
  · exact Nat.mod_lt _ (by decide)
  · exact Nat.lt_of_le_of_lt (top_le _ _) (byt_lt _ _)
theorem cutB_byt (k : ByteArray) (n i : Nat) (h : i < k.size) : byt (cutB k n) i = cutN k n i := by
  unfold byt cutB
  simp [List.getD, h, Nat.mod_eq_of_lt (cutN_lt k n i)]
theorem top_bit (x r b : Nat) : (top x r).testBit b = (decide (8 - r ≤ b) && x.testBit b) := by
  unfold top
  rw [Nat.testBit_mul_two_pow]
  by_cases h : 8 - r ≤ b
  · simp [h, Nat.testBit_div_two_pow, Nat.sub_add_cancel h]
  · simp [h]
theorem cut_bit (k : ByteArray) (n i : Nat) (h : i < 8 * (k.size - 4)) : bitB (cutB k n) i = (decide (i < n) && bitB k i) := by
  have h1 : 4 + i / 8 < k.size := by omega
  unfold bitB
  rw [cutB_byt _ _ _ h1]
  unfold cutN
  rw [if_neg (by omega), top_bit _ _ _]
  congr 1
  simp only [decide_eq_decide]
  omega
theorem ba_ext {a b : ByteArray} (hs : a.size = b.size) (h : ∀ i, i < a.size → byt a i = byt b i) : a = b := by
  obtain ⟨⟨a⟩⟩ := a
  obtain ⟨⟨b⟩⟩ := b
  have hs' : a.length = b.length := hs
  congr 2
  refine List.ext_getElem hs' fun i h1 h2 => ?_
  have := h i h1
  unfold byt at this
  simp [List.getD, h1, h2] at this
  exact UInt8.toNat.inj this
theorem eq_of_bits {x y : Nat} (hx : x < 256) (hy : y < 256) (h : ∀ b, b < 8 → x.testBit b = y.testBit b) : x = y := by
  apply Nat.eq_of_testBit_eq
  intro b
  by_cases hb : b < 8
  · exact h b hb
  · have h2 : 256 ≤ 2 ^ b := by
      have : (2:Nat) ^ 8 ≤ 2 ^ b := Nat.pow_le_pow_right (by decide) (by omega)
      exact this
    rw [Nat.testBit_lt_two_pow (by omega), Nat.testBit_lt_two_pow (by omega)]
/-- Two keys of the same form. -/
theorem cutB_congr {a b : ByteArray} {n : Nat} (hs : a.size = b.size) (h : Agree a b n) : cutB a n = cutB b n := by
  refine ba_ext (by rw [cutB_size, cutB_size, hs]) fun i hi => ?_
  rw [cutB_size] at hi
  rw [cutB_byt _ _ _ hi, cutB_byt _ _ _ (by omega)]
  unfold cutN
  split
  · rfl
  · refine eq_of_bits (Nat.lt_of_le_of_lt (top_le _ _) (byt_lt _ _)) (Nat.lt_of_le_of_lt (top_le _ _) (byt_lt _ _)) fun t ht => ?_
    rw [top_bit _ _ _, top_bit _ _ _]
    by_cases hc : 8 - min 8 (n - 8 * (i - 4)) ≤ t
    · have := h (8 * (i - 4) + (7 - t)) (by omega)
      unfold bitB at this
      rw [show 4 + (8 * (i - 4) + (7 - t)) / 8 = i by omega, show 7 - (8 * (i - 4) + (7 - t)) % 8 = t by omega] at this
      rw [this]
    · simp [hc]
/-- f is the form of a prefix of n bits, of keys of K bytes. -/
structure Pre (K : Nat) (f : ByteArray) (n : Nat) : Prop where
  sz : f.size = K
  k5 : 5 ≤ K
  k2 : K ≤ 260
  le : n ≤ 8 * (K - 4)
  eq : cutB f n = f
theorem Pre.same {K n : Nat} {f g : ByteArray} (hf : Pre K f n) (hg : Pre K g n) (h : Agree f g n) : f = g := by
  rw [← hf.eq, ← hg.eq]
  exact cutB_congr (by rw [hf.sz, hg.sz]) h
theorem cut_agree (k : ByteArray) (n : Nat) (h : n ≤ 8 * (k.size - 4)) : Agree (cutB k n) k n := fun i hi => by
  rw [cut_bit _ _ _ (by omega)]; simp [hi]
theorem Agree.symm {a b : ByteArray} {n : Nat} (h : Agree a b n) : Agree b a n := fun i hi => (h i hi).symm
theorem Agree.trans {a b c : ByteArray} {n : Nat} (h : Agree a b n) (h2 : Agree b c n) : Agree a c n := fun i hi => (h i hi).trans (h2 i hi)
theorem Agree.mono {a b : ByteArray} {n m : Nat} (h : Agree a b n) (hm : m ≤ n) : Agree a b m := fun i hi => h i (by omega)
theorem Agree.refl (a : ByteArray) (n : Nat) : Agree a a n := fun _ _ => rfl
theorem Pre.cut {K n : Nat} {k : ByteArray} (hs : k.size = K) (h5 : 5 ≤ K) (h2 : K ≤ 260) (hn : n ≤ 8 * (K - 4)) : Pre K (cutB k n) n :=
  ⟨by rw [cutB_size, hs], h5, h2, hn, cutB_congr (by rw [cutB_size]) (cut_agree k n (by rw [hs]; exact hn))⟩
/-- What a key's four bytes say. -/
def lenB (k : ByteArray) : Nat := byt k 0 + 256 * byt k 1 + 65536 * byt k 2 + 16777216 * byt k 3
theorem Pre.len {K n : Nat} {f : ByteArray} (h : Pre K f n) : lenB f = n := by
  have hsz := h.sz
  have k5 := h.k5
  have k2 := h.k2
  have hle := h.le
  have e : ∀ i, i < 4 → byt f i = n / 256 ^ i % 256 := fun i hi => by
    rw [← h.eq, cutB_byt _ _ _ (by omega)]
    unfold cutN
    rw [if_pos hi]
  unfold lenB
  rw [e 0 (by decide), e 1 (by decide), e 2 (by decide), e 3 (by decide)]
  simp only [Nat.pow_zero, Nat.div_one, Nat.reducePow]
  omega
theorem Pre.uniq {K n m : Nat} {f : ByteArray} (h : Pre K f n) (h2 : Pre K f m) : n = m := by rw [← h.len, ← h2.len]
theorem Pre.zero {K n : Nat} {f : ByteArray} (h : Pre K f n) (i : Nat) (h1 : n ≤ i) (h2 : i < 8 * (K - 4)) : bitB f i = false := by
  rw [← h.eq, cut_bit _ _ _ (by rw [h.sz]; exact h2)]
  simp
  omega
/-- A key with its length told: its form. -/
theorem cut_first (k : ByteArray) (n i : Nat) (hi : i < 4) (hn : lenB k = n) : byt k i = cutN k n i := by
  have b0 := byt_lt k 0
  have b1 := byt_lt k 1
  have b2 := byt_lt k 2
  have b3 := byt_lt k 3
  unfold cutN
  rw [if_pos hi, ← hn]
  unfold lenB
  rcases (by omega : i = 0 ∨ i = 1 ∨ i = 2 ∨ i = 3) with rfl | rfl | rfl | rfl <;> simp only [Nat.pow_zero, Nat.div_one, Nat.reducePow] <;> omega
end Go.Proofs.Ytomhflaofipccaa
namespace Go.Proofs.Ytomhflaofipccaa
set_option linter.unusedVariables false
set_option linter.unusedSimpArgs false
/-- A tree as it lies: a node's block, its prefix, its region's number (0: it is no entry). -/
inductive Tr where
  | nil : Tr
  | node (b : Nat) (f : ByteArray) (len n : Nat) (l r : Tr) : Tr
structure Ent where
  key : ByteArray
  n : Nat
def Tr.ents : Tr → List Ent
  | .nil => []
  | .node b f len n l r => (if n = 0 then [] else [⟨f, n⟩]) ++ (l.ents ++ r.ents)
def Tr.blocks : Tr → List Nat
  | .nil => []
  | .node b f len n l r => b :: (l.blocks ++ r.blocks)
theorem Tr.mem_node {b : Nat} {f : ByteArray} {len n : Nat} {l r : Tr} (x : Ent) : x ∈ (Tr.node b f len n l r).ents ↔ (x = ⟨f, n⟩ ∧ n ≠ 0) ∨ x ∈ l.ents ∨ x ∈ r.ents := by
  show x ∈ (if n = 0 then [] else [⟨f, n⟩]) ++ (l.ents ++ r.ents) ↔ _
  by_cases hn : n = 0 <;> simp [hn]
/-- A tree stands beneath a prefix of k bits, on side d. -/
def Tr.under (g : ByteArray) (k : Nat) (d : Bool) : Tr → Prop
  | .nil => True
  | .node b f len n l r => k < len ∧ Agree g f k ∧ bitB f k = d
/-- .. all of its prefixes begin with these k bits. -/
def Tr.from_ (g : ByteArray) (k : Nat) : Tr → Prop
  | .nil => True
  | .node b f len n l r => k ≤ len ∧ Agree g f k
def Tr.ok (K : Nat) : Tr → Prop
  | .nil => True
  | .node b f len n l r => Pre K f len ∧ l.under f len false ∧ r.under f len true ∧ l.ok K ∧ r.ok K
def Tr.isNil : Tr → Bool
  | .nil => true
  | .node .. => false
/-- An entry matches a prefix. -/
def Match (e : Ent) (pf : ByteArray) (pl : Nat) : Prop := lenB e.key ≤ pl ∧ Agree e.key pf (lenB e.key)
theorem Tr.under_from {g : ByteArray} {k : Nat} {d : Bool} {t : Tr} (h : t.under g k d) : t.from_ g k := by
  cases t with
  | nil => trivial
  | node b f len n l r => exact ⟨Nat.le_of_lt h.1, h.2.1⟩
theorem Tr.kid_from {K : Nat} {b : Nat} {f : ByteArray} {len n : Nat} {l r : Tr} (h : (Tr.node b f len n l r).ok K) (d : Bool) : (if d then r else l).under f len d ∧ (if d then r else l).ok K := by
  cases d
  · exact ⟨h.2.1, h.2.2.2.1⟩
  · exact ⟨h.2.2.1, h.2.2.2.2⟩
/-- What stands in a tree begins with its root's bits. -/
theorem Tr.ents_from {K : Nat} : ∀ {t : Tr} {g : ByteArray} {k : Nat}, t.ok K → t.from_ g k → ∀ e, e ∈ t.ents → ∃ len, Pre K e.key len ∧ k ≤ len ∧ Agree g e.key k ∧ e.n ≠ 0
  | .nil, _, _, _, _, e, he => by simp [Tr.ents] at he
  | .node b f len n l r, g, k, h, hf, e, he => by
    unfold Tr.ents at he
    simp only [List.mem_append] at he
    rcases he with he | he | he
    · split at he
      · simp at he
      · rename_i hn
        simp at he
        subst he
        exact ⟨len, h.1, hf.1, hf.2, hn⟩
    · obtain ⟨m, h1, h2, h3, h4⟩ := Tr.ents_from h.2.2.2.1 (Tr.under_from h.2.1) e he
      exact ⟨m, h1, Nat.le_trans hf.1 h2, hf.2.trans (h3.mono hf.1), h4⟩
    · obtain ⟨m, h1, h2, h3, h4⟩ := Tr.ents_from h.2.2.2.2 (Tr.under_from h.2.2.1) e he
      exact ⟨m, h1, Nat.le_trans hf.1 h2, hf.2.trans (h3.mono hf.1), h4⟩
/-- .. on its side. -/
theorem Tr.ents_side {K : Nat} {t : Tr} {g : ByteArray} {k : Nat} {d : Bool} (h : t.ok K) (hu : t.under g k d) : ∀ e, e ∈ t.ents → ∃ len, Pre K e.key len ∧ k < len ∧ Agree g e.key k ∧ bitB e.key k = d := by
  cases t with
  | nil => intro e he; simp [Tr.ents] at he
  | node b f len n l r =>
    intro e he
    obtain ⟨m, h1, h2, h3, _⟩ := Tr.ents_from (g := f) (k := len) h ⟨Nat.le_refl _, Agree.refl _ _⟩ e he
    exact ⟨m, h1, Nat.lt_of_lt_of_le hu.1 h2, hu.2.1.trans (h3.mono (Nat.le_of_lt hu.1)), by rw [← h3 k hu.1]; exact hu.2.2⟩
/-- The walk that looks for the longest: the best so far, and what it tells. -/
def Tr.look (pf : ByteArray) (pl : Nat) : Tr → Option (Nat × Ent) → Option (Nat × Ent)
  | .nil, best => best
  | .node b f len n l r, best =>
    if len ≤ pl ∧ Agree f pf len then
      if len < pl then (if bitB pf len then r.look pf pl (if n = 0 then best else some (b, ⟨f, n⟩)) else l.look pf pl (if n = 0 then best else some (b, ⟨f, n⟩)))
      else (if n = 0 then best else some (b, ⟨f, n⟩))
    else best
/-- The node that holds an entry. -/
def Tr.has (b : Nat) (e : Ent) : Tr → Prop
  | .nil => False
  | .node b' f len n l r => (b = b' ∧ e = ⟨f, n⟩ ∧ n ≠ 0) ∨ l.has b e ∨ r.has b e
theorem Tr.has_mem : ∀ {t : Tr} {b : Nat} {e : Ent}, t.has b e → e ∈ t.ents
  | .nil, _, _, h => h.elim
  | .node b' f len n l r, b, e, h => by
    unfold Tr.ents
    rcases h with ⟨_, rfl, hn⟩ | h | h
    · simp [hn]
    · simp [Tr.has_mem h]
    · simp [Tr.has_mem h]
/-- None beneath matches. -/
theorem Tr.none_side {K : Nat} {t : Tr} {pf : ByteArray} {pl k : Nat} {d : Bool} {g : ByteArray} (h : t.ok K) (hu : t.under g k d) (hg : Agree g pf k) (hd : bitB pf k ≠ d) : ∀ e, e ∈ t.ents → ¬ Match e pf pl := by
  intro e he hm
  obtain ⟨len, h1, h2, h3, h4⟩ := Tr.ents_side h hu e he
  have := hm.2 k (by rw [h1.len]; exact h2)
  rw [h4] at this
  exact hd this.symm
theorem Tr.none_long {K : Nat} {t : Tr} {pf : ByteArray} {pl k : Nat} {d : Bool} {g : ByteArray} (h : t.ok K) (hu : t.under g k d) (hd : pl ≤ k) : ∀ e, e ∈ t.ents → ¬ Match e pf pl := by
  intro e he hm
  obtain ⟨len, h1, h2, h3, h4⟩ := Tr.ents_side h hu e he
  have := hm.1
  rw [h1.len] at this
  omega
/-- e is the longest that matches, of those of a list. -/
def Longest (es : List Ent) (pf : ByteArray) (pl : Nat) (e : Ent) : Prop := e ∈ es ∧ Match e pf pl ∧ ∀ x, x ∈ es → Match x pf pl → lenB x.key ≤ lenB e.key
theorem Tr.look_spec {K : Nat} : ∀ {t : Tr} {g : ByteArray} {k : Nat} {pf : ByteArray} {pl : Nat} {best : Option (Nat × Ent)}, t.ok K → t.from_ g k → Agree g pf k →
    (t.look pf pl best = best ∧ ∀ x, x ∈ t.ents → ¬ Match x pf pl) ∨ ∃ b e, t.look pf pl best = some (b, e) ∧ t.has b e ∧ Longest t.ents pf pl e
  | .nil, g, k, pf, pl, best, _, _, _ => .inl ⟨rfl, fun x hx => by simp [Tr.ents] at hx⟩
  | .node b f len n l r, g, k, pf, pl, best, h, hf, hg => by
    have me := fun x => Tr.mem_node (b := b) (f := f) (len := len) (n := n) (l := l) (r := r) x
    unfold Tr.look
    by_cases hm : len ≤ pl ∧ Agree f pf len
    · rw [if_pos hm]
      have self : n ≠ 0 → Match ⟨f, n⟩ pf pl := fun _ => ⟨by show lenB f ≤ pl; rw [h.1.len]; exact hm.1, by show Agree f pf (lenB f); rw [h.1.len]; exact hm.2⟩
      by_cases hlt : len < pl
      · rw [if_pos hlt]
        -- the side that is walked, and the other one
        have go : ∀ (d : Bool) (s o : Tr), bitB pf len = d → s.ok K → o.ok K → s.under f len d → o.under f len (!d) → (∀ x, x ∈ (Tr.node b f len n l r).ents ↔ (x = ⟨f, n⟩ ∧ n ≠ 0) ∨ x ∈ s.ents ∨ x ∈ o.ents) → (∀ b' e, s.has b' e → (Tr.node b f len n l r).has b' e) →
            ((s.look pf pl best = best ∧ ∀ x, x ∈ s.ents → ¬ Match x pf pl) ∨ ∃ b e, s.look pf pl best = some (b, e) ∧ s.has b e ∧ Longest s.ents pf pl e) →
            ((s.look pf pl (some (b, ⟨f, n⟩)) = some (b, ⟨f, n⟩) ∧ ∀ x, x ∈ s.ents → ¬ Match x pf pl) ∨ ∃ b' e, s.look pf pl (some (b, ⟨f, n⟩)) = some (b', e) ∧ s.has b' e ∧ Longest s.ents pf pl e) →
            (s.look pf pl (if n = 0 then best else some (b, ⟨f, n⟩)) = best ∧ ∀ x, x ∈ (Tr.node b f len n l r).ents → ¬ Match x pf pl) ∨ ∃ b' e, s.look pf pl (if n = 0 then best else some (b, ⟨f, n⟩)) = some (b', e) ∧ (Tr.node b f len n l r).has b' e ∧ Longest (Tr.node b f len n l r).ents pf pl e := by
          intro d s o hd hs ho us uo mem hhas i1 i2
          have no : ∀ x, x ∈ o.ents → ¬ Match x pf pl := Tr.none_side ho uo hm.2 (by rw [hd]; cases d <;> decide)
          by_cases hn : n = 0
          · rw [if_pos hn]
            rcases i1 with ⟨h1, h2⟩ | ⟨b', e, h1, h2, h3⟩
            · refine .inl ⟨h1, fun x hx => ?_⟩
              rcases (mem x).1 hx with ⟨_, h4⟩ | h4 | h4
              · exact absurd hn h4
              · exact h2 x h4
              · exact no x h4
            · refine .inr ⟨b', e, h1, hhas _ _ h2, (mem e).2 (.inr (.inl h3.1)), h3.2.1, fun x hx hx2 => ?_⟩
              rcases (mem x).1 hx with ⟨_, h4⟩ | h4 | h4
              · exact absurd hn h4
              · exact h3.2.2 x h4 hx2
              · exact absurd hx2 (no x h4)
          · rw [if_neg hn]
            rcases i2 with ⟨h1, h2⟩ | ⟨b', e, h1, h2, h3⟩
            · refine .inr ⟨b, ⟨f, n⟩, h1, .inl ⟨rfl, rfl, hn⟩, (mem _).2 (.inl ⟨rfl, hn⟩), self hn, fun x hx hx2 => ?_⟩
              rcases (mem x).1 hx with ⟨rfl, h4⟩ | h4 | h4
              · exact Nat.le_refl _
              · exact absurd hx2 (h2 x h4)
              · exact absurd hx2 (no x h4)
            · refine .inr ⟨b', e, h1, hhas _ _ h2, (mem e).2 (.inr (.inl h3.1)), h3.2.1, fun x hx hx2 => ?_⟩
              rcases (mem x).1 hx with ⟨rfl, h4⟩ | h4 | h4
              · obtain ⟨m, q1, q2, _⟩ := Tr.ents_side hs us e h3.1
                show lenB f ≤ _
                rw [h.1.len, q1.len]
                omega
              · exact h3.2.2 x h4 hx2
              · exact absurd hx2 (no x h4)
        cases hb : bitB pf len
        · simp only [Bool.false_eq_true, if_false]
          exact go false l r hb h.2.2.2.1 h.2.2.2.2 h.2.1 h.2.2.1 me (fun b' e hh => .inr (.inl hh)) (Tr.look_spec h.2.2.2.1 (Tr.under_from h.2.1) hm.2) (Tr.look_spec h.2.2.2.1 (Tr.under_from h.2.1) hm.2)
        · simp only [if_true]
          refine go true r l hb h.2.2.2.2 h.2.2.2.1 h.2.2.1 h.2.1 (fun x => (me x).trans ?_) (fun b' e hh => .inr (.inr hh)) (Tr.look_spec h.2.2.2.2 (Tr.under_from h.2.2.1) hm.2) (Tr.look_spec h.2.2.2.2 (Tr.under_from h.2.2.1) hm.2)
          constructor
          · rintro (q | q | q)
            · exact .inl q
            · exact .inr (.inr q)
            · exact .inr (.inl q)
          · rintro (q | q | q)
            · exact .inl q
            · exact .inr (.inr q)
            · exact .inr (.inl q)
      · rw [if_neg hlt]
        have nl : ∀ x, x ∈ l.ents → ¬ Match x pf pl := Tr.none_long h.2.2.2.1 h.2.1 (by omega)
        have nr : ∀ x, x ∈ r.ents → ¬ Match x pf pl := Tr.none_long h.2.2.2.2 h.2.2.1 (by omega)
        by_cases hn : n = 0
        · rw [if_pos hn]
          refine .inl ⟨rfl, fun x hx => ?_⟩
          rcases (me x).1 hx with ⟨_, h4⟩ | h4 | h4
          · exact absurd hn h4
          · exact nl x h4
          · exact nr x h4
        · rw [if_neg hn]
          refine .inr ⟨b, ⟨f, n⟩, rfl, .inl ⟨rfl, rfl, hn⟩, (me _).2 (.inl ⟨rfl, hn⟩), self hn, fun x hx hx2 => ?_⟩
          rcases (me x).1 hx with ⟨rfl, h4⟩ | h4 | h4
          · exact Nat.le_refl _
          · exact absurd hx2 (nl x h4)
          · exact absurd hx2 (nr x h4)
    · rw [if_neg hm]
      refine .inl ⟨rfl, fun x hx hx2 => hm ?_⟩
      obtain ⟨m, h1, h2, h3, _⟩ := Tr.ents_from (g := f) (k := len) h ⟨Nat.le_refl _, Agree.refl _ _⟩ x hx
      obtain ⟨q1, q2⟩ := hx2
      rw [h1.len] at q1 q2
      exact ⟨by omega, h3.trans (q2.mono h2)⟩
end Go.Proofs.Ytomhflaofipccaa
namespace Go.Proofs.Ytomhflaofipccaa
open Go Go.RowKit
set_option linter.unusedVariables false
set_option linter.unusedSimpArgs false
/-! ### the order of texts -/
theorem less_irr : ∀ a : List UInt8, Op.bytesLess a a = false
  | [] => rfl
  | a :: x => by simp [Op.bytesLess, less_irr x]
theorem less_trans : ∀ {a b c : List UInt8}, Op.bytesLess a b = true → Op.bytesLess b c = true → Op.bytesLess a c = true
  | _, [], _, h, _ => by simp [Op.bytesLess] at h
  | _, _ :: _, [], _, h => by simp [Op.bytesLess] at h
  | [], _ :: _, _ :: _, _, _ => rfl
  | a :: x, b :: y, c :: z, h1, h2 => by
    simp only [Op.bytesLess, Bool.or_eq_true, decide_eq_true_eq, Bool.and_eq_true, beq_iff_eq, UInt8.lt_iff_toNat_lt] at h1 h2 ⊢
    rcases h1 with h1 | ⟨rfl, h1⟩ <;> rcases h2 with h2 | ⟨rfl, h2⟩
    · left; omega
    · left; exact h1
    · left; exact h2
    · right; exact ⟨rfl, less_trans h1 h2⟩
theorem less_tri : ∀ {a b : List UInt8}, Op.bytesLess a b = false → Op.bytesLess b a = false → a = b
  | [], [], _, _ => rfl
  | [], _ :: _, h, _ => by simp [Op.bytesLess] at h
  | _ :: _, [], _, h => by simp [Op.bytesLess] at h
  | a :: x, b :: y, h1, h2 => by
    simp only [Op.bytesLess, Bool.or_eq_false_iff, decide_eq_false_iff_not, Bool.and_eq_false_iff, beq_eq_false_iff_ne, UInt8.lt_iff_toNat_lt, ne_eq] at h1 h2
    have hab : a = b := UInt8.toNat_inj.1 (by omega)
    subst hab
    have h3 : Op.bytesLess x y = false := by rcases h1.2 with h | h; exact absurd rfl h; exact h
    have h4 : Op.bytesLess y x = false := by rcases h2.2 with h | h; exact absurd rfl h; exact h
    rw [less_tri h3 h4]
def ltS (a b : ByteArray) : Bool := Op.bytesLess a.toList b.toList
def gtS (a b : ByteArray) : Bool := !(Op.bytesLess a.toList b.toList || a.toList == b.toList)
theorem gt_run (t : TypeId) (a b : ByteArray) : binOp .gtr t (.string a) (.string b) = pure (.bool (gtS a b)) := by simp [binOp, Op.stringOp, gtS]
theorem ltS_irr (a : ByteArray) : ltS a a = false := less_irr _
theorem ltS_trans {a b c : ByteArray} (h : ltS a b = true) (h' : ltS b c = true) : ltS a c = true := less_trans h h'
theorem ltS_tri {a b : ByteArray} (h : ltS a b = false) (h' : ltS b a = false) : a = b := by
  have := less_tri h h'
  rw [Lib.toList_data, Lib.toList_data] at this
  exact ByteArray.ext (Array.toList_inj.1 this)
theorem gtS_lt (a b : ByteArray) : gtS a b = ltS b a := by
  unfold gtS ltS
  cases h1 : Op.bytesLess a.toList b.toList
  · cases h2 : Op.bytesLess b.toList a.toList
    · have := less_tri h1 h2
      simp [this]
    · have : (a.toList == b.toList) = false := by
        rw [beq_eq_false_iff_ne]
        intro e
        rw [e, less_irr] at h2; cases h2
      simp [this]
  · cases h2 : Op.bytesLess b.toList a.toList
    · simp
    · have := less_trans h1 h2
      rw [less_irr] at this; cases this
theorem gtS_empty {a : ByteArray} (h : a.size ≠ 0) : gtS a ⟨#[]⟩ = true := by
  rw [gtS_lt]
  unfold ltS
  have : a.toList ≠ [] := by
    rw [Lib.toList_data]
    intro e
    exact h (by rw [Lib.size_eq, e]; rfl)
  rcases hl : a.toList with _ | ⟨x, y⟩
  · exact absurd hl this
  · rw [Lib.toList_data]; rfl
/-- Of the entries of S, o is the least key that P holds of. -/
structure Least (P : ByteArray → Prop) (S : Ent → Prop) (o : Option ByteArray) : Prop where
  no : o = none → ∀ e, S e → ¬ P e.key
  yes : ∀ k, o = some k → (∃ e, S e ∧ e.key = k ∧ P k) ∧ ∀ e, S e → P e.key → ltS e.key k = false
section
variable {P : ByteArray → Prop} {S S' : Ent → Prop} {o o' : Option ByteArray}
theorem Least.eq (h : Least P S o) (h' : Least P S o') : o = o' := by
  rcases o with _ | k <;> rcases o' with _ | k'
  · rfl
  · obtain ⟨⟨e, he, rfl, hp⟩, _⟩ := h'.yes _ rfl
    exact absurd hp (h.no rfl e he)
  · obtain ⟨⟨e, he, rfl, hp⟩, _⟩ := h.yes _ rfl
    exact absurd hp (h'.no rfl e he)
  · obtain ⟨⟨e, he, rfl, hp⟩, hm⟩ := h.yes _ rfl
    obtain ⟨⟨e', he', rfl, hp'⟩, hm'⟩ := h'.yes _ rfl
    rw [ltS_tri (hm' e he hp) (hm e' he' hp')]
theorem Least.congr (h : Least P S o) (hs : ∀ e, S e ↔ S' e) : Least P S' o := by
  refine ⟨fun ho e he => h.no ho e ((hs e).2 he), fun k hk => ?_⟩
  obtain ⟨⟨e, he, h1⟩, h2⟩ := h.yes k hk
  exact ⟨⟨e, (hs e).1 he, h1⟩, fun e' he' => h2 e' ((hs e').2 he')⟩
theorem Least.skip (h : Least P S o) {e : Ent} (hp : ¬ P e.key) (hs : ∀ x, S' x ↔ S x ∨ x = e) : Least P S' o := by
  refine ⟨fun ho x hx => ?_, fun k hk => ?_⟩
  · rcases (hs x).1 hx with h1 | rfl
    · exact h.no ho x h1
    · exact hp
  · obtain ⟨⟨x, hx, h1⟩, h2⟩ := h.yes k hk
    refine ⟨⟨x, (hs x).2 (.inl hx), h1⟩, fun x' hx' hp' => ?_⟩
    rcases (hs x').1 hx' with h3 | rfl
    · exact h2 x' h3 hp'
    · exact absurd hp' hp
theorem Least.stay {k : ByteArray} (h : Least P S (some k)) {e : Ent} (hl : ltS e.key k = false) (hs : ∀ x, S' x ↔ S x ∨ x = e) : Least P S' (some k) := by
  refine ⟨fun ho => (by cases ho), fun k' hk => ?_⟩
  · cases hk
    obtain ⟨⟨x, hx, h1⟩, h2⟩ := h.yes k rfl
    refine ⟨⟨x, (hs x).2 (.inl hx), h1⟩, fun x' hx' hp' => ?_⟩
    rcases (hs x').1 hx' with h3 | rfl
    · exact h2 x' h3 hp'
    · exact hl
theorem Least.take (h : Least P S o) {e : Ent} (hp : P e.key) (hl : o = none ∨ ltS e.key (o.getD ⟨#[]⟩) = true) (hs : ∀ x, S' x ↔ S x ∨ x = e) : Least P S' (some e.key) := by
  refine ⟨fun ho => (by cases ho), fun k' hk => ?_⟩
  · cases hk
    refine ⟨⟨e, (hs e).2 (.inr rfl), rfl, hp⟩, fun x' hx' hp' => ?_⟩
    rcases (hs x').1 hx' with h3 | rfl
    · rcases o with _ | k
      · exact absurd hp' (h.no rfl x' h3)
      · have hlk : ltS e.key k = true := by
          rcases hl with h4 | h4
          · cases h4
          · exact h4
        have h5 := (h.yes k rfl).2 x' h3 hp'
        cases h6 : ltS x'.key e.key
        · rfl
        · rw [ltS_trans h6 hlk] at h5; cases h5
    · exact ltS_irr _
theorem Least.start : Least P (fun _ => False) none := ⟨fun _ _ h => h.elim, fun _ h => nomatch h⟩
end
/-- The least key of the first j that pp holds of. -/
def nextTo (pp : ByteArray → Bool) (es : List Ent) : Nat → Option ByteArray
  | 0 => none
  | j + 1 => (es[j]?).elim (nextTo pp es j) fun e =>
    if pp e.key = true ∧ (nextTo pp es j = none ∨ ltS e.key ((nextTo pp es j).getD ⟨#[]⟩) = true) then some e.key else nextTo pp es j
theorem nextTo_step {pp : ByteArray → Bool} {es : List Ent} {j : Nat} {e : Ent} (he : es[j]? = some e) :
    nextTo pp es (j + 1) = if pp e.key = true ∧ (nextTo pp es j = none ∨ ltS e.key ((nextTo pp es j).getD ⟨#[]⟩) = true) then some e.key else nextTo pp es j := by
  rw [nextTo, he]; rfl
theorem nextTo_least (pp : ByteArray → Bool) (es : List Ent) : ∀ j, j ≤ es.length → Least (fun k => pp k = true) (fun e => ∃ i, i < j ∧ es[i]? = some e) (nextTo pp es j)
  | 0, _ => Least.start.congr fun e => ⟨fun h => h.elim, fun ⟨i, hi, _⟩ => by omega⟩
  | j + 1, hj => by
    have ih := nextTo_least pp es j (by omega)
    obtain ⟨e, he⟩ : ∃ e, es[j]? = some e := ⟨_, List.getElem?_eq_getElem (by omega)⟩
    have hs : ∀ x, (∃ i, i < j + 1 ∧ es[i]? = some x) ↔ (∃ i, i < j ∧ es[i]? = some x) ∨ x = e := fun x => by
      constructor
      · rintro ⟨i, hi, hx⟩
        rcases Nat.lt_or_ge i j with h | h
        · exact .inl ⟨i, h, hx⟩
        · obtain rfl : i = j := by omega
          rw [he] at hx; cases hx; exact .inr rfl
      · rintro (⟨i, hi, hx⟩ | rfl)
        · exact ⟨i, by omega, hx⟩
        · exact ⟨j, by omega, he⟩
    rw [nextTo_step he]
    by_cases hp : pp e.key = true
    · by_cases hl : nextTo pp es j = none ∨ ltS e.key ((nextTo pp es j).getD ⟨#[]⟩) = true
      · rw [if_pos ⟨hp, hl⟩]
        exact ih.take hp hl hs
      · rw [if_neg (fun h => hl h.2)]
        rcases ho : nextTo pp es j with _ | k
        · exact absurd (.inl ho) hl
        · rw [ho] at ih hl
          refine ih.stay ?_ hs
          cases h : ltS e.key k
          · rfl
          · exact absurd (.inr h) hl
    · rw [if_neg (fun h => hp h.1)]
      exact ih.skip hp hs
theorem nextTo_all (pp : ByteArray → Bool) (es : List Ent) : Least (fun k => pp k = true) (fun e => e ∈ es) (nextTo pp es es.length) :=
  (nextTo_least pp es es.length (Nat.le_refl _)).congr fun e => ⟨fun ⟨i, _, hi⟩ => List.mem_of_getElem? hi, fun he => by
    obtain ⟨i, hi, rfl⟩ := List.getElem_of_mem he
    exact ⟨i, hi, List.getElem?_eq_getElem hi⟩⟩
end Go.Proofs.Ytomhflaofipccaa
namespace Go.Proofs.Ytomhflaofipccaa
set_option linter.unusedVariables false
set_option linter.unusedSimpArgs false
/-- How many first bits, of m at most, two keys share. -/
def share (f g : ByteArray) : Nat → Nat
  | 0 => 0
  | m + 1 => if Agree f g (m + 1) then m + 1 else share f g m
theorem share_le (f g : ByteArray) : ∀ m, share f g m ≤ m
  | 0 => Nat.le_refl _
  | m + 1 => by
    unfold share
    split
    · exact Nat.le_refl _
    · exact Nat.le_succ_of_le (share_le f g m)
theorem share_agree (f g : ByteArray) : ∀ m, Agree f g (share f g m)
  | 0 => fun i hi => by simp [share] at hi
  | m + 1 => by
    unfold share
    split
    · rename_i h; exact h
    · exact share_agree f g m
theorem share_max {f g : ByteArray} : ∀ {m k : Nat}, k ≤ m → Agree f g k → k ≤ share f g m
  | 0, k, h, _ => by omega
  | m + 1, k, h, ha => by
    unfold share
    split
    · exact h
    · rename_i hn
      have : k ≠ m + 1 := fun e => hn (e ▸ ha)
      exact share_max (by omega) ha
theorem Agree.succ {f g : ByteArray} {n : Nat} (h : Agree f g n) (hb : bitB f n = bitB g n) : Agree f g (n + 1) := fun i hi => by
  by_cases e : i = n
  · rw [e]; exact hb
  · exact h i (by omega)
theorem share_ne {f g : ByteArray} {m : Nat} (h : share f g m < m) : bitB f (share f g m) ≠ bitB g (share f g m) := fun hb => by
  have := share_max (f := f) (g := g) (m := m) (k := share f g m + 1) (by omega) ((share_agree f g m).succ hb)
  omega
/-- What the first bits, all known to be shared, tell. -/
theorem share_eq {f g : ByteArray} {m k : Nat} (h1 : k ≤ m) (h2 : Agree f g k) (h3 : k < m → bitB f k ≠ bitB g k) : share f g m = k := by
  have a := share_max h1 h2
  have b := share_le f g m
  by_cases e : k < share f g m
  · exact absurd (share_agree f g m k e) (h3 (by omega))
  · omega
theorem share_lt {f g : ByteArray} {len pl : Nat} : share f g (min len pl) < len ↔ ¬ (len ≤ pl ∧ Agree f g len) := by
  constructor
  · rintro h ⟨h1, h2⟩
    have := share_max (f := f) (g := g) (m := min len pl) (k := len) (by omega) h2
    omega
  · intro h
    have h1 := share_le f g (min len pl)
    have h2 := share_agree f g (min len pl)
    by_cases e : share f g (min len pl) = len
    · exact absurd ⟨by omega, e ▸ h2⟩ h
    · omega
/-- A new node of a prefix, and the tree s beneath it on its side. -/
def Tr.above (nb : Nat) (f : ByteArray) (sh n : Nat) (s o : Tr) : Tr := if bitB f sh then .node nb (cutB f sh) sh n o s else .node nb (cutB f sh) sh n s o
def Tr.add (pf : ByteArray) (pl n nb nb2 : Nat) : Tr → Tr
  | .nil => .node nb pf pl n .nil .nil
  | .node b f len m l r =>
    if len ≤ pl ∧ Agree f pf len then
      if len = pl then .node b f len n l r
      else if bitB pf len then .node b f len m l (r.add pf pl n nb nb2) else .node b f len m (l.add pf pl n nb nb2) r
    else
      if share f pf (min len pl) = pl then Tr.above nb f (share f pf (min len pl)) n (.node b f len m l r) .nil
      else Tr.above nb f (share f pf (min len pl)) 0 (.node b f len m l r) (.node nb2 pf pl n .nil .nil)
section
variable {K : Nat} {pf : ByteArray} {pl n nb nb2 : Nat}
theorem Tr.above_ents (f : ByteArray) (sh m : Nat) (s o : Tr) (x : Ent) : x ∈ (Tr.above nb f sh m s o).ents ↔ (x = ⟨cutB f sh, m⟩ ∧ m ≠ 0) ∨ x ∈ s.ents ∨ x ∈ o.ents := by
  unfold Tr.above
  split
  · rw [Tr.mem_node]
    constructor <;> rintro (h | h | h) <;> simp [h]
  · rw [Tr.mem_node]
theorem Tr.above_ok {f : ByteArray} {sh m : Nat} {s o : Tr} (hp : Pre K (cutB f sh) sh) (hs : s.ok K) (ho : o.ok K) (us : s.under (cutB f sh) sh (bitB f sh)) (uo : o.under (cutB f sh) sh (!bitB f sh)) : (Tr.above nb f sh m s o).ok K := by
  unfold Tr.above
  cases hb : bitB f sh
  · rw [hb] at us uo
    rw [if_neg (by decide)]
    exact ⟨hp, us, uo, hs, ho⟩
  · rw [hb] at us uo
    rw [if_pos rfl]
    exact ⟨hp, uo, us, ho, hs⟩
theorem Tr.above_under {g : ByteArray} {k : Nat} {d : Bool} {f : ByteArray} {sh m : Nat} {s o : Tr} (h1 : k < sh) (h2 : Agree g (cutB f sh) k) (h3 : bitB (cutB f sh) k = d) : (Tr.above nb f sh m s o).under g k d := by
  unfold Tr.above
  split <;> exact ⟨h1, h2, h3⟩
theorem Tr.above_blocks (f : ByteArray) (sh m : Nat) (s o : Tr) (x : Nat) : x ∈ (Tr.above nb f sh m s o).blocks ↔ x = nb ∨ x ∈ s.blocks ∨ x ∈ o.blocks := by
  unfold Tr.above
  split
  · show x ∈ nb :: (o.blocks ++ s.blocks) ↔ _
    simp; constructor <;> rintro (h | h | h) <;> simp [h]
  · show x ∈ nb :: (s.blocks ++ o.blocks) ↔ _
    simp
theorem Tr.add_ents (hp : Pre K pf pl) (hn : n ≠ 0) : ∀ {t : Tr}, t.ok K → (∀ x, x ∈ t.ents → x.key ≠ pf) → ∀ x, x ∈ (t.add pf pl n nb nb2).ents ↔ x = ⟨pf, n⟩ ∨ x ∈ t.ents
  | .nil, _, _, x => by
    unfold Tr.add
    rw [Tr.mem_node]
    simp [Tr.ents, hn]
  | .node b f len m l r, h, hf, x => by
    unfold Tr.add
    by_cases hm : len ≤ pl ∧ Agree f pf len
    · rw [if_pos hm]
      by_cases e : len = pl
      · rw [if_pos e]
        subst e
        have hff : f = pf := h.1.same hp hm.2
        subst hff
        have h0 : m = 0 := Classical.byContradiction fun h0 => hf ⟨f, m⟩ ((Tr.mem_node _).2 (.inl ⟨rfl, h0⟩)) rfl
        rw [Tr.mem_node, Tr.mem_node]
        simp [h0, hn]
      · rw [if_neg e]
        have hl : ∀ x, x ∈ l.ents → x.key ≠ pf := fun x hx => hf x ((Tr.mem_node _).2 (.inr (.inl hx)))
        have hr : ∀ x, x ∈ r.ents → x.key ≠ pf := fun x hx => hf x ((Tr.mem_node _).2 (.inr (.inr hx)))
        split
        · rw [Tr.mem_node, Tr.mem_node, Tr.add_ents hp hn h.2.2.2.2 hr x]
          constructor
          · rintro (q | q | q | q) <;> simp [q]
          · rintro (q | q | q | q) <;> simp [q]
        · rw [Tr.mem_node, Tr.mem_node, Tr.add_ents hp hn h.2.2.2.1 hl x]
          constructor
          · rintro (q | (q | q) | q) <;> simp [q]
          · rintro (q | q | q | q) <;> simp [q]
    · rw [if_neg hm]
      by_cases e : share f pf (min len pl) = pl
      · rw [if_pos e, Tr.above_ents]
        have hc : cutB f (share f pf (min len pl)) = pf := by
          have sa := share_agree f pf (min len pl)
          rw [e] at sa
          rw [e, cutB_congr (h.1.sz.trans hp.sz.symm) sa, hp.eq]
        rw [hc]
        simp [hn, Tr.ents]
      · rw [if_neg e, Tr.above_ents, Tr.mem_node (b := nb2)]
        simp [hn, Tr.ents, or_comm]
theorem Tr.add_ok (hp : Pre K pf pl) : ∀ {t : Tr}, t.ok K → (t.add pf pl n nb nb2).ok K ∧ ∀ g k d, t.under g k d → k < pl → Agree g pf k → bitB pf k = d → (t.add pf pl n nb nb2).under g k d
  | .nil, _ => ⟨⟨hp, trivial, trivial, trivial, trivial⟩, fun g k d _ h1 h2 h3 => ⟨h1, h2, h3⟩⟩
  | .node b f len m l r, h => by
    unfold Tr.add
    by_cases hm : len ≤ pl ∧ Agree f pf len
    · rw [if_pos hm]
      by_cases e : len = pl
      · rw [if_pos e]
        exact ⟨h, fun g k d hu _ _ _ => hu⟩
      · rw [if_neg e]
        cases hb : bitB pf len
        · rw [if_neg (by decide)]
          obtain ⟨i1, i2⟩ := Tr.add_ok hp (t := l) h.2.2.2.1
          exact ⟨⟨h.1, i2 f len false h.2.1 (by omega) hm.2 hb, h.2.2.1, i1, h.2.2.2.2⟩, fun g k d hu _ _ _ => hu⟩
        · rw [if_pos rfl]
          obtain ⟨i1, i2⟩ := Tr.add_ok hp (t := r) h.2.2.2.2
          exact ⟨⟨h.1, h.2.1, i2 f len true h.2.2.1 (by omega) hm.2 hb, h.2.2.2.1, i1⟩, fun g k d hu _ _ _ => hu⟩
    · rw [if_neg hm]
      have s1 := share_le f pf (min len pl)
      have s2 := share_agree f pf (min len pl)
      have s3 := share_lt.2 hm
      have s4 := @share_ne f pf (min len pl)
      have s5 : ∀ k, k ≤ min len pl → Agree f pf k → k ≤ share f pf (min len pl) := fun k => share_max
      generalize share f pf (min len pl) = sh at *
      have hle := h.1.le
      have hpc : Pre K (cutB f sh) sh := Pre.cut h.1.sz h.1.k5 h.1.k2 (by omega)
      have ca : Agree (cutB f sh) f sh := cut_agree f sh (by rw [h.1.sz]; omega)
      have us : (Tr.node b f len m l r).under (cutB f sh) sh (bitB f sh) := ⟨s3, ca, rfl⟩
      have und : ∀ g k d, (Tr.node b f len m l r).under g k d → k < pl → Agree g pf k → bitB pf k = d → k < sh ∧ Agree g (cutB f sh) k ∧ bitB (cutB f sh) k = d := by
        intro g k d hu h1 h2 h3
        have a1 : Agree f pf k := hu.2.1.symm.trans h2
        have a2 : Agree f pf (k + 1) := a1.succ (by rw [hu.2.2, h3])
        have a3 : k + 1 ≤ sh := s5 (k + 1) (by have := hu.1; omega) a2
        exact ⟨by omega, hu.2.1.trans (ca.symm.mono (by omega)), by rw [ca k (by omega)]; exact hu.2.2⟩
      by_cases e : sh = pl
      · rw [if_pos e]
        refine ⟨Tr.above_ok hpc h trivial us trivial, fun g k d hu h1 h2 h3 => ?_⟩
        obtain ⟨q1, q2, q3⟩ := und g k d hu h1 h2 h3
        exact Tr.above_under q1 q2 q3
      · rw [if_neg e]
        refine ⟨Tr.above_ok hpc h ⟨hp, trivial, trivial, trivial, trivial⟩ us ⟨by omega, ca.trans s2, ?_⟩, fun g k d hu h1 h2 h3 => ?_⟩
        · have := s4 (by omega)
          cases hb : bitB f sh <;> cases hb2 : bitB pf sh <;> simp_all
        · obtain ⟨q1, q2, q3⟩ := und g k d hu h1 h2 h3
          exact Tr.above_under q1 q2 q3
theorem Tr.add_blocks : ∀ {t : Tr} {x : Nat}, x ∈ (t.add pf pl n nb nb2).blocks → x ∈ t.blocks ∨ x = nb ∨ x = nb2
  | .nil, x, h => by simp [Tr.add, Tr.blocks] at h; simp [h]
  | .node b f len m l r, x, h => by
    have me : ∀ (b' : Nat) (f' : ByteArray) (len' m' : Nat) (l' r' : Tr), x ∈ (Tr.node b' f' len' m' l' r').blocks ↔ x = b' ∨ x ∈ l'.blocks ∨ x ∈ r'.blocks := fun b' f' len' m' l' r' => by
      show x ∈ b' :: (l'.blocks ++ r'.blocks) ↔ _
      simp
    unfold Tr.add at h
    split at h
    · split at h
      · exact .inl h
      · split at h
        · rw [me] at h
          rcases h with h | h | h
          · exact .inl ((me _ _ _ _ _ _).2 (.inl h))
          · exact .inl ((me _ _ _ _ _ _).2 (.inr (.inl h)))
          · exact (Tr.add_blocks h).imp (fun h => (me _ _ _ _ _ _).2 (.inr (.inr h))) id
        · rw [me] at h
          rcases h with h | h | h
          · exact .inl ((me _ _ _ _ _ _).2 (.inl h))
          · exact (Tr.add_blocks h).imp (fun h => (me _ _ _ _ _ _).2 (.inr (.inl h))) id
          · exact .inl ((me _ _ _ _ _ _).2 (.inr (.inr h)))
    · split at h
      · rw [Tr.above_blocks] at h
        rcases h with h | h | h
        · exact .inr (.inl h)
        · exact .inl h
        · simp [Tr.blocks] at h
      · rw [Tr.above_blocks] at h
        rcases h with h | h | h
        · exact .inr (.inl h)
        · exact .inl h
        · simp [Tr.blocks] at h; exact .inr (.inr h)
theorem Tr.node_nodup {b : Nat} {f : ByteArray} {len m : Nat} {l r : Tr} : (Tr.node b f len m l r).blocks.Nodup ↔ b ∉ l.blocks ∧ b ∉ r.blocks ∧ l.blocks.Nodup ∧ r.blocks.Nodup ∧ ∀ x, x ∈ l.blocks → x ∉ r.blocks := by
  show (b :: (l.blocks ++ r.blocks)).Nodup ↔ _
  rw [List.nodup_cons, List.nodup_append]
  simp only [List.mem_append, not_or]
  constructor
  · rintro ⟨⟨h1, h2⟩, h3, h4, h5⟩
    exact ⟨h1, h2, h3, h4, fun x hx hy => h5 x hx x hy rfl⟩
  · rintro ⟨h1, h2, h3, h4, h5⟩
    exact ⟨⟨h1, h2⟩, h3, h4, fun x hx y hy e => h5 x hx (e ▸ hy)⟩
theorem Tr.above_nodup {f : ByteArray} {sh m : Nat} {s o : Tr} (h1 : nb ∉ s.blocks) (h2 : nb ∉ o.blocks) (h3 : s.blocks.Nodup) (h4 : o.blocks.Nodup) (h5 : ∀ x, x ∈ s.blocks → x ∉ o.blocks) : (Tr.above nb f sh m s o).blocks.Nodup := by
  unfold Tr.above
  split
  · exact Tr.node_nodup.2 ⟨h2, h1, h4, h3, fun x hx hy => h5 x hy hx⟩
  · exact Tr.node_nodup.2 ⟨h1, h2, h3, h4, h5⟩
theorem Tr.add_nodup (hb : nb ≠ nb2) : ∀ {t : Tr}, t.blocks.Nodup → nb ∉ t.blocks → nb2 ∉ t.blocks → (t.add pf pl n nb nb2).blocks.Nodup
  | .nil, _, _, _ => by simp [Tr.add, Tr.blocks]
  | .node b f len m l r, h, h1, h2 => by
    have ha := h
    rw [Tr.node_nodup] at h
    have n1 : nb ≠ b ∧ nb ∉ l.blocks ∧ nb ∉ r.blocks := by
      have : nb ∉ b :: (l.blocks ++ r.blocks) := h1
      simpa using this
    have n2 : nb2 ≠ b ∧ nb2 ∉ l.blocks ∧ nb2 ∉ r.blocks := by
      have : nb2 ∉ b :: (l.blocks ++ r.blocks) := h2
      simpa using this
    unfold Tr.add
    split
    · split
      · exact ha
      · split
        · refine Tr.node_nodup.2 ⟨h.1, fun hx => ?_, h.2.2.1, Tr.add_nodup hb h.2.2.2.1 n1.2.2 n2.2.2, fun x hx hy => ?_⟩
          · rcases Tr.add_blocks hx with q | q | q
            · exact h.2.1 q
            · exact n1.1 q.symm
            · exact n2.1 q.symm
          · rcases Tr.add_blocks hy with q | q | q
            · exact h.2.2.2.2 x hx q
            · exact n1.2.1 (q ▸ hx)
            · exact n2.2.1 (q ▸ hx)
        · refine Tr.node_nodup.2 ⟨fun hx => ?_, h.2.1, Tr.add_nodup hb h.2.2.1 n1.2.1 n2.2.1, h.2.2.2.1, fun x hx hy => ?_⟩
          · rcases Tr.add_blocks hx with q | q | q
            · exact h.1 q
            · exact n1.1 q.symm
            · exact n2.1 q.symm
          · rcases Tr.add_blocks hx with q | q | q
            · exact h.2.2.2.2 x q hy
            · exact n1.2.2 (q ▸ hy)
            · exact n2.2.2 (q ▸ hy)
    · split
      · exact Tr.above_nodup h1 (by simp [Tr.blocks]) ha (by simp [Tr.blocks]) (fun x _ => by simp [Tr.blocks])
      · exact Tr.above_nodup h1 (by simp [Tr.blocks, hb]) ha (by simp [Tr.blocks]) (fun x hx => by
          simp [Tr.blocks]
          intro e
          exact h2 (e ▸ hx))
end
/-! ### an entry goes -/
def Tr.need : Tr → Tr
  | .nil => .nil
  | .node b f len n l r => if n ≠ 0 ∨ (l.isNil = false ∧ r.isNil = false) then .node b f len n l r else if l.isNil = false then l else r
theorem Tr.need_node {b : Nat} {f : ByteArray} {len n : Nat} {l r : Tr} : (Tr.node b f len n l r).need = if n ≠ 0 ∨ (l.isNil = false ∧ r.isNil = false) then .node b f len n l r else if l.isNil = false then l else r := rfl
def Tr.drop (pf : ByteArray) (pl : Nat) : Tr → Tr
  | .nil => .nil
  | .node b f len n l r =>
    if len = pl then (Tr.node b f len 0 l r).need
    else if bitB pf len then (Tr.node b f len n l (r.drop pf pl)).need else (Tr.node b f len n (l.drop pf pl) r).need
theorem Tr.isNil_ents {t : Tr} (h : t.isNil = true) : t = .nil := by cases t <;> simp_all [Tr.isNil]
theorem Tr.need_ents : ∀ {t : Tr} (x : Ent), x ∈ t.need.ents ↔ x ∈ t.ents
  | .nil, x => Iff.rfl
  | .node b f len n l r, x => by
    rw [Tr.need_node]
    split
    · exact Iff.rfl
    · rename_i h
      have h0 : n = 0 := Classical.byContradiction fun hn => h (.inl hn)
      rw [Tr.mem_node]
      split
      · rename_i hl
        have : r.isNil = true := by cases hr : r.isNil; exact absurd (.inr ⟨hl, hr⟩) h; rfl
        rw [Tr.isNil_ents this]
        simp [h0, Tr.ents]
      · rename_i hl
        have : l.isNil = true := by cases hr : l.isNil; exact absurd hr hl; rfl
        rw [Tr.isNil_ents this]
        simp [h0, Tr.ents]
theorem Tr.under_up {g f : ByteArray} {k len : Nat} {d d' : Bool} {t : Tr} (h : t.under f len d) (h1 : k < len) (h2 : Agree g f k) (h3 : bitB f k = d') : t.under g k d' := by
  cases t with
  | nil => trivial
  | node b f' len' n l r => exact ⟨Nat.lt_trans h1 h.1, h2.trans (h.2.1.mono (Nat.le_of_lt h1)), by rw [← h.2.1 k h1]; exact h3⟩
theorem Tr.need_ok {K : Nat} : ∀ {t : Tr}, t.ok K → t.need.ok K ∧ ∀ g k d, t.under g k d → t.need.under g k d
  | .nil, h => ⟨h, fun _ _ _ h => h⟩
  | .node b f len n l r, h => by
    rw [Tr.need_node]
    split
    · exact ⟨h, fun _ _ _ h => h⟩
    · split
      · exact ⟨h.2.2.2.1, fun g k d hu => Tr.under_up h.2.1 hu.1 hu.2.1 hu.2.2⟩
      · exact ⟨h.2.2.2.2, fun g k d hu => Tr.under_up h.2.2.1 hu.1 hu.2.1 hu.2.2⟩
theorem Tr.need_sub : ∀ {t : Tr}, t.need.blocks.Sublist t.blocks
  | .nil => List.Sublist.refl _
  | .node b f len n l r => by
    rw [Tr.need_node]
    show List.Sublist _ (b :: (l.blocks ++ r.blocks))
    split
    · exact List.Sublist.refl _
    · split
      · exact (List.sublist_append_left _ _).cons _
      · exact (List.sublist_append_right _ _).cons _
/-- Where the entry stands: here, or on its side. -/
theorem Tr.path {K : Nat} {pf : ByteArray} {pl : Nat} {b : Nat} {f : ByteArray} {len n : Nat} {l r : Tr} (h : (Tr.node b f len n l r).ok K) (hp : Pre K pf pl) {e : Ent} (he : e ∈ (Tr.node b f len n l r).ents) (hk : e.key = pf) :
    (len = pl ∧ f = pf ∧ n ≠ 0 ∧ e = ⟨f, n⟩) ∨ (len < pl ∧ Agree f pf len ∧ ((bitB pf len = false ∧ e ∈ l.ents) ∨ (bitB pf len = true ∧ e ∈ r.ents))) := by
  rcases (Tr.mem_node e).1 he with ⟨q, hn⟩ | q | q
  · subst q
    have hff : f = pf := hk
    subst hff
    exact .inl ⟨h.1.uniq hp, rfl, hn, rfl⟩
  · obtain ⟨m, h1, h2, h3, h4⟩ := Tr.ents_side h.2.2.2.1 h.2.1 e q
    rw [hk] at h1 h3 h4
    have := h1.uniq hp
    exact .inr ⟨by omega, h3, .inl ⟨h4, q⟩⟩
  · obtain ⟨m, h1, h2, h3, h4⟩ := Tr.ents_side h.2.2.2.2 h.2.2.1 e q
    rw [hk] at h1 h3 h4
    have := h1.uniq hp
    exact .inr ⟨by omega, h3, .inr ⟨h4, q⟩⟩
section
variable {K : Nat} {pf : ByteArray} {pl : Nat}
theorem Tr.drop_ok (hp : Pre K pf pl) : ∀ {t : Tr}, t.ok K → (t.drop pf pl).ok K ∧ ∀ g k d, t.under g k d → (t.drop pf pl).under g k d
  | .nil, h => ⟨h, fun _ _ _ h => h⟩
  | .node b f len n l r, h => by
    unfold Tr.drop
    split
    · exact Tr.need_ok (t := .node b f len 0 l r) h
    · split
      · obtain ⟨i1, i2⟩ := Tr.drop_ok hp (t := r) h.2.2.2.2
        exact Tr.need_ok (t := .node b f len n l (r.drop pf pl)) ⟨h.1, h.2.1, i2 _ _ _ h.2.2.1, h.2.2.2.1, i1⟩
      · obtain ⟨i1, i2⟩ := Tr.drop_ok hp (t := l) h.2.2.2.1
        exact Tr.need_ok (t := .node b f len n (l.drop pf pl) r) ⟨h.1, i2 _ _ _ h.2.1, h.2.2.1, i1, h.2.2.2.2⟩
theorem Tr.drop_ents (hp : Pre K pf pl) : ∀ {t : Tr} {e : Ent}, t.ok K → e ∈ t.ents → e.key = pf → ∀ x, x ∈ (t.drop pf pl).ents ↔ x ∈ t.ents ∧ x.key ≠ pf
  | .nil, e, _, he, _, x => by simp [Tr.ents] at he
  | .node b f len n l r, e, h, he, hk, x => by
    have hpath := Tr.path h hp he hk
    have sl : ∀ y, y ∈ l.ents → len = pl ∨ bitB pf len = true → y.key ≠ pf := fun y hy hc e2 => by
      obtain ⟨m, h1, h2, h3, h4⟩ := Tr.ents_side h.2.2.2.1 h.2.1 y hy
      rw [e2] at h1 h4
      have := h1.uniq hp
      rcases hc with hc | hc
      · omega
      · rw [h4] at hc; cases hc
    have sr : ∀ y, y ∈ r.ents → len = pl ∨ bitB pf len = false → y.key ≠ pf := fun y hy hc e2 => by
      obtain ⟨m, h1, h2, h3, h4⟩ := Tr.ents_side h.2.2.2.2 h.2.2.1 y hy
      rw [e2] at h1 h4
      have := h1.uniq hp
      rcases hc with hc | hc
      · omega
      · rw [h4] at hc; cases hc
    have self : len ≠ pl → f ≠ pf := fun hne e2 => hne ((e2 ▸ h.1 : Pre K pf len).uniq hp)
    unfold Tr.drop
    rw [Tr.mem_node]
    rcases hpath with ⟨q1, q2, q3, q4⟩ | ⟨q1, q2, ⟨q3, q4⟩ | ⟨q3, q4⟩⟩
    · rw [if_pos q1, Tr.need_ents, Tr.mem_node]
      constructor
      · rintro (⟨_, h0⟩ | hx | hx)
        · exact absurd rfl h0
        · exact ⟨.inr (.inl hx), sl x hx (.inl q1)⟩
        · exact ⟨.inr (.inr hx), sr x hx (.inl q1)⟩
      · rintro ⟨⟨rfl, _⟩ | hx | hx, hne⟩
        · exact absurd q2 hne
        · exact .inr (.inl hx)
        · exact .inr (.inr hx)
    · rw [if_neg (by omega), if_neg (by rw [q3]; decide), Tr.need_ents, Tr.mem_node, Tr.drop_ents hp h.2.2.2.1 q4 hk x]
      constructor
      · rintro (⟨rfl, h0⟩ | hx | hx)
        · exact ⟨.inl ⟨rfl, h0⟩, self (by omega)⟩
        · exact ⟨.inr (.inl hx.1), hx.2⟩
        · exact ⟨.inr (.inr hx), sr x hx (.inr q3)⟩
      · rintro ⟨hx | hx | hx, hne⟩
        · exact .inl hx
        · exact .inr (.inl ⟨hx, hne⟩)
        · exact .inr (.inr hx)
    · rw [if_neg (by omega), if_pos q3, Tr.need_ents, Tr.mem_node, Tr.drop_ents hp h.2.2.2.2 q4 hk x]
      constructor
      · rintro (⟨rfl, h0⟩ | hx | hx)
        · exact ⟨.inl ⟨rfl, h0⟩, self (by omega)⟩
        · exact ⟨.inr (.inl hx), sl x hx (.inr q3)⟩
        · exact ⟨.inr (.inr hx.1), hx.2⟩
      · rintro ⟨hx | hx | hx, hne⟩
        · exact .inl hx
        · exact .inr (.inl hx)
        · exact .inr (.inr ⟨hx, hne⟩)
theorem Tr.drop_sub : ∀ {t : Tr}, (t.drop pf pl).blocks.Sublist t.blocks
  | .nil => List.Sublist.refl _
  | .node b f len n l r => by
    unfold Tr.drop
    split
    · exact Tr.need_sub (t := .node b f len 0 l r)
    · split
      · exact Tr.need_sub.trans ((List.Sublist.refl _).append Tr.drop_sub |>.cons_cons b)
      · exact Tr.need_sub.trans (Tr.drop_sub.append (List.Sublist.refl _) |>.cons_cons b)
end
end Go.Proofs.Ytomhflaofipccaa
