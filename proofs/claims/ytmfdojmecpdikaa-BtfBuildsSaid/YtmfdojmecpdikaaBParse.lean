/-
  Layer 6: Parse.
-/
import Derived.Test.YtmfdojmecpdikaaBTypes
import Derived.Test.YtmfdojmecpdikaaBOpenR
import Derived.Test.YtmfdojmecpdikaaBNext
namespace Go.Proofs.Ytmfdojmecpdikaa
open Go Go.RowKit Go.Maps
set_option linter.unusedVariables false
set_option linter.unusedSimpArgs false
set_option maxRecDepth 100000
def tyCells (t : Ty) (mv : Value) : List Value := [.int .i64 t.kind, .string t.name, .int .i64 t.size, .int .i64 t.ty, .int .i64 t.count, mv]
def tyC (ps : List (Ty × Value)) : List Value := ps.flatMap fun p => tyCells p.1 p.2
theorem tyC_snoc (ps : List (Ty × Value)) (p : Ty × Value) : tyC (ps ++ [p]) = tyC ps ++ tyCells p.1 p.2 := by simp [tyC]
theorem tyC_get (ps : List (Ty × Value)) (i j : Nat) (p : Ty × Value) (hp : ps[i]? = some p) (hj : j < 6) : (tyC ps)[i * 6 + j]? = (tyCells p.1 p.2)[j]? := by
  induction ps generalizing i with
  | nil => cases hp
  | cons q ps ih =>
    cases i with
    | zero =>
      simp at hp
      subst hp
      simp only [tyC, List.flatMap_cons]
      rw [List.getElem?_append_left (by simp [tyCells]; omega)]
      simp
    | succ i =>
      simp only [tyC, List.flatMap_cons]
      rw [List.getElem?_append_right (by simp [tyCells]; omega)]
      have e : (i + 1) * 6 + j - (tyCells q.1 q.2).length = i * 6 + j := by simp [tyCells]; omega
      rw [e]
      exact ih i (by simpa using hp)
theorem memC_get (ms : List Mem) (i j : Nat) (m : Mem) (hp : ms[i]? = some m) (hj : j < 3) : (memC ms)[i * 3 + j]? = (memCells m)[j]? := by
  induction ms generalizing i with
  | nil => cases hp
  | cons q ps ih =>
    cases i with
    | zero =>
      simp at hp
      subst hp
      simp only [memC, List.flatMap_cons]
      rw [List.getElem?_append_left (by simp [memCells]; omega)]
      simp
    | succ i =>
      simp only [memC, List.flatMap_cons]
      rw [List.getElem?_append_right (by simp [memCells]; omega)]
      have e : (i + 1) * 3 + j - (memCells q).length = i * 3 + j := by simp [memCells]; omega
      rw [e]
      exact ih i (by simpa using hp)
/-- Members that the call itself laid. -/
theorem mems_of_own {w : World} {base : Nat} {A : Option Addr} {c : Nat} {ms : List Mem} (h : w.ownsRow base 53 3 (.slice A ms.length c) ms.length (memC ms)) (hs : ∀ m ∈ ms, m.name.size ≤ 9223372036854775807) : MemsAt w A ms := by
  intro i m hm
  have hi : i < ms.length := (List.getElem?_eq_some_iff.1 hm).1
  obtain ⟨A', c', e, hc⟩ := own_form_any h
  cases e
  obtain ⟨g, rfl, hlt, hcell⟩ := hc (by omega)
  refine ⟨g, 0, rfl, hlt, ?_, ?_, ?_, hs m (List.mem_of_getElem? hm)⟩
  · rw [Nat.zero_add]; exact hcell _ _ (memC_get ms i 0 m hm (by decide))
  · rw [Nat.zero_add]; exact hcell _ _ (memC_get ms i 1 m hm (by decide))
  · rw [Nat.zero_add]; exact hcell _ _ (memC_get ms i 2 m hm (by decide))
theorem nameV_small (r : RS) : (nameV r).size ≤ 129 := by
  unfold nameV
  split
  · rw [bstr_size]; simp
  · rw [bstr_size]
    have h1 := (List.takeWhile_sublist (l := pieceOf r.ns (numV r).toNat) (fun x => x != 0)).length_le
    have h2 := piece_len r.ns (numV r).toNat
    omega
theorem memsV_small : ∀ (n : Nat) (r : RS), ∀ m ∈ memsV n r, m.name.size ≤ 129
  | 0, r => fun m h => by cases h
  | n + 1, r => fun m h => by
    rcases List.mem_cons.1 h with rfl | h
    · exact nameV_small r
    · exact memsV_small n _ m h
theorem nextV_small (r : RS) : (nextV r).name.size ≤ 9223372036854775807 ∧ (∀ m ∈ (nextV r).mems, m.name.size ≤ 9223372036854775807) ∧ (nextV r).mems.length ≤ 1024 := by
  have h1 := nameV_small r
  unfold nextV
  split
  · exact ⟨Nat.le_trans h1 (by decide), (fun m h => (by cases h)), by simp⟩
  · rename_i hp
    refine ⟨Nat.le_trans h1 (by decide), (fun m h => ?_), by rw [memsV_len]; omega⟩
    have := memsV_small _ _ m h
    omega
/-- What Parse has laid behind some rounds. -/
structure Row6 (w : World) (base : Nat) (v : Value) (ps : List (Ty × Value)) : Prop where
  own : w.ownsRow base 36 6 v ps.length (tyC ps)
  mems : ∀ p ∈ ps, w.ownsRow base 53 3 p.2 p.1.mems.length (memC p.1.mems)
  small : ∀ p ∈ ps, p.1.name.size ≤ 9223372036854775807 ∧ (∀ m ∈ p.1.mems, m.name.size ≤ 9223372036854775807) ∧ p.1.mems.length ≤ 1024
theorem own_keepsTag {w w' : World} {base g : Nat} {e t : TypeId} {s : Nat} {v : Value} {n : Nat} {xs : List Value} {cs : Array Value} (h : w.ownsRow base e s v n xs) (hk : Keeps (· = g) w w') (hb : Blk w g t cs) (hne : e ≠ t) : w'.ownsRow base e s v n xs := by
  refine ⟨h.1, ?_⟩
  rcases h.2 with hn | ⟨x, cap, cur, rfl, h1, h2, rest⟩
  · exact .inl hn
  · have hlt := lt_of_some h2
    exact .inr ⟨x, cap, cur, rfl, h1, (hk.block x hlt ((show Blk w x e cur from h2).ne_ hb hne)).trans h2, rest⟩
theorem Row6.keeps {w w' : World} {base g : Nat} {v : Value} {ps : List (Ty × Value)} {cs : Array Value} (h : Row6 w base v ps) (hk : Keeps (· = g) w w') (hb : Blk w g 63 cs) : Row6 w' base v ps :=
  ⟨own_keepsTag h.own hk hb (by decide), fun p hp => own_keepsTag (h.mems p hp) hk hb (by decide), h.small⟩
theorem Row6.below {w w' : World} {base : Nat} {v : Value} {ps : List (Ty × Value)} (h : Row6 w base v ps) (hb : Below w.heap.size w w') : Row6 w' base v ps :=
  ⟨ownsRow_below h.own hb, fun p hp => ownsRow_below (h.mems p hp) hb, h.small⟩
theorem own_grownTag {w w' : World} {base : Nat} {e t : TypeId} {s : Nat} {v v' : Value} {n n' : Nat} {xs xs' : List Value} {base' s' : Nat} (h : w.ownsRow base e s v n xs) (hv : w.ownsRow base' t s' v' n' xs') (hg : w.grownBy w' v'.ownBlock) (hne : e ≠ t) : w'.ownsRow base e s v n xs := by
  refine ⟨h.1, ?_⟩
  rcases h.2 with hn | ⟨x, cap, cur, rfl, h1, h2, rest⟩
  · exact .inl hn
  · have hlt := lt_of_some h2
    refine .inr ⟨x, cap, cur, rfl, h1, (hg.block x hlt (fun e1 => ?_)).trans h2, rest⟩
    obtain ⟨_, cur', hc⟩ := row_tag hv x e1.symm
    exact (show Blk w x e cur from h2).ne_ (show Blk w x t cur' from hc) hne rfl
theorem Row6.snoc {w w' : World} {base : Nat} {v v' : Value} {ps : List (Ty × Value)} {t : Ty} {mv : Value} (h : Row6 w base v ps) (hm : w.ownsRow base 53 3 mv t.mems.length (memC t.mems)) (hs : t.name.size ≤ 9223372036854775807 ∧ (∀ m ∈ t.mems, m.name.size ≤ 9223372036854775807) ∧ t.mems.length ≤ 1024)
    (ho : w'.ownsRow base 36 6 v' (ps.length + 1) (tyC ps ++ tyCells t mv)) (hg : w.grownBy w' v.ownBlock) : Row6 w' base v' (ps ++ [(t, mv)]) := by
  refine ⟨by rw [tyC_snoc, List.length_append]; exact ho, fun p hp => ?_, fun p hp => ?_⟩
  · rcases List.mem_append.1 hp with hp | hp
    · exact own_grownTag (h.mems p hp) h.own hg (by decide)
    · simp at hp; subst hp
      exact own_grownTag hm h.own hg (by decide)
  · rcases List.mem_append.1 hp with hp | hp
    · exact h.small p hp
    · simp at hp; subst hp; exact hs
theorem Row6.tys {w : World} {base : Nat} {v : Value} {ps : List (Ty × Value)} (h : Row6 w base v ps) : ∃ A c, v = .slice A (ps.map Prod.fst).length c ∧ TysAt w A (ps.map Prod.fst) := by
  obtain ⟨A, c, rfl, hc⟩ := own_form_any h.own
  refine ⟨A, c, by simp, fun i t ht => ?_⟩
  obtain ⟨p, hp, rfl⟩ : ∃ p, ps[i]? = some p ∧ p.1 = t := by
    rw [List.getElem?_map, Option.map_eq_some_iff] at ht
    exact ht
  have hi : i < ps.length := (List.getElem?_eq_some_iff.1 hp).1
  obtain ⟨g, rfl, hlt, hcell⟩ := hc (by omega)
  have hmem := List.mem_of_getElem? hp
  obtain ⟨s1, s2, s3⟩ := h.small p hmem
  obtain ⟨A', c', hv, _⟩ := own_form_any (h.mems p hmem)
  have hown := h.mems p hmem
  rw [hv] at hown
  have cell : ∀ j u, j < 6 → (tyCells p.1 p.2)[j]? = some u → w.cell? ⟨g, 0 + i * 6 + j, none⟩ = some u := fun j u hj hu => by
    rw [Nat.zero_add]; exact hcell _ _ ((tyC_get ps i j p hp hj).trans hu)
  refine ⟨g, 0, A', c', rfl, hlt, cell 0 _ (by decide) rfl, cell 1 _ (by decide) rfl, cell 2 _ (by decide) rfl, cell 3 _ (by decide) rfl, cell 4 _ (by decide) rfl, ?_, mems_of_own hown s2, s1, by omega⟩
  have := cell 5 p.2 (by decide) rfl
  rwa [hv] at this
def PostParse (w : World) (s : List UInt8) (e : Ending) (w' : World) : Prop :=
  Below w.heap.size w w' ∧ ((∃ l A c, parseF s = some l ∧ e = .returned (.tuple #[.slice A l.length c, .int .i64 0]) ∧ TysAt w' A l) ∨ (parseF s = none ∧ e = .returned (.tuple #[.slice none 0 0, .int .i64 40])))
/-- Where the reading stands. -/
def PG (s : List UInt8) (r : RS) (acc : List Ty) : Prop := openB s = true ∧ acc.length ≤ 1024 ∧ ∃ n, parseG (openV s).ts.length (openV s) [] = parseG n r acc ∧ r.ts.length ≤ n
theorem PG.start {s : List UInt8} (h : openB s = true) : PG s (openV s) [] := ⟨h, by simp, _, rfl, Nat.le_refl _⟩
theorem PG.stop {s : List UInt8} {r : RS} {acc : List Ty} (h : PG s r acc) (h0 : 0 < r.ts.length) (hs : stopB r acc.length = true) : parseF s = none := by
  obtain ⟨ho, _, n, h1, h2⟩ := h
  obtain ⟨m, rfl⟩ : ∃ m, n = m + 1 := ⟨n - 1, by omega⟩
  unfold parseF
  rw [if_pos ho, h1]
  unfold parseG
  rw [if_neg (by omega), if_pos hs]
theorem PG.go {s : List UInt8} {r : RS} {acc : List Ty} (h : PG s r acc) (h0 : 0 < r.ts.length) (hs : stopB r acc.length = false) : PG s (nextR r) (acc ++ [nextV r]) ∧ (nextR r).ts.length < r.ts.length := by
  obtain ⟨ho, hl, n, h1, h2⟩ := h
  obtain ⟨m, rfl⟩ : ∃ m, n = m + 1 := ⟨n - 1, by omega⟩
  have hs' := hs
  simp only [stopB, Bool.or_eq_false_iff, decide_eq_false_iff_not] at hs'
  have hlt := nextR_eats r h0 hs'.1.1
  refine ⟨⟨ho, by simp; omega, m, ?_, by omega⟩, hlt⟩
  rw [h1]
  conv => lhs; unfold parseG
  rw [if_neg (by omega), hs]
  rfl
theorem PG.done {s : List UInt8} {r : RS} {acc : List Ty} (h : PG s r acc) (h0 : r.ts.length = 0) : parseF s = some acc := by
  obtain ⟨ho, _, n, h1, h2⟩ := h
  unfold parseF
  rw [if_pos ho, h1]
  cases n <;> (unfold parseG; rw [if_pos h0])
end Go.Proofs.Ytmfdojmecpdikaa
