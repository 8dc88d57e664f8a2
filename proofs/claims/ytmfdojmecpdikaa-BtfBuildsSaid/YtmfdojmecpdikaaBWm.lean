/-
  Layer 6: the writer as it lies; what its calls leave alone.
-/
import Derived.Test.YtmfdojmecpdikaaBNums
import Derived.Test.YtmfdojmecpdikaaBCut
namespace Go.Proofs.Ytmfdojmecpdikaa
open Go Go.RowKit Go.Maps
set_option linter.unusedVariables false
set_option linter.unusedSimpArgs false
set_option maxRecDepth 100000
/-- Blocks that no call of the writer turns. -/
def plainT (o : Obj) : Bool := match o with | .cells _ t _ => t != 5 && t != 69 | _ => false
def TagK (w w' : World) : Prop := ∀ (b : Nat) (o : Obj), w.heap[b]? = some o → plainT o = true → w'.heap[b]? = some o
section
variable {a w w' : World}
theorem TagK.refl (w : World) : TagK w w := fun _ _ h _ => h
theorem TagK.trans {b c : World} (h : TagK a b) (k : TagK b c) : TagK a c := fun i o ho hp => k i o (h i o ho hp) hp
theorem lt_of_some {w : World} {b : Nat} {o : Obj} (h : w.heap[b]? = some o) : b < w.heap.size := by
  rcases Nat.lt_or_ge b w.heap.size with hlt | hge
  · exact hlt
  · rw [Array.getElem?_eq_none hge] at h; cases h
theorem TagK.drew (h : TagK a w) : TagK a w.drew := h
theorem TagK.alloc (h : TagK a w) (o : Obj) : TagK a (w.alloc o) := fun i x hx hp => (Below.heap_alloc w o i (lt_of_some (h i x hx hp))).trans (h i x hx hp)
theorem TagK.setW {g i : Nat} {u : Value} {cs : Array Value} (h : TagK a w) (hb : Blk w g 69 cs) : TagK a (w.setCell ⟨g, i, none⟩ u) := fun k x hx hp => by
  have h1 := h k x hx hp
  by_cases e : k = g
  · subst e
    have : w.heap[k]? = some (.cells cs 69 (0, 0)) := hb
    rw [h1] at this
    cases this
    simp [plainT] at hp
  · exact (Below.heap_setCell w ⟨g, i, none⟩ u k e).trans h1
theorem TagK.grown {row : Option Nat} (h : TagK a w) (hg : w.grownBy w' row) (hr : ∀ b, row = some b → ∀ o, w.heap[b]? = some o → plainT o = false) : TagK a w' := fun k x hx hp => by
  have h1 := h k x hx hp
  refine (hg.block k (lt_of_some h1) (fun e => ?_)).trans h1
  have := hr k e.symm x h1
  rw [this] at hp; cases hp
theorem rowB_plain {base : Nat} {v : Value} {l : List UInt8} (h : RowB w base v l) (b : Nat) (hb : v.ownBlock = some b) (o : Obj) (ho : w.heap[b]? = some o) : plainT o = false := by
  obtain ⟨_, _, cur, fr, h1⟩ := h.tag b hb
  rw [h1] at ho
  cases ho
  simp [plainT]
theorem Blk.tagk {g : Nat} {t : TypeId} {cs : Array Value} (h : Blk w g t cs) (k : TagK w w') (hp : (t != 5 && t != 69) = true) : Blk w' g t cs := k g _ h hp
end
def mapD : List (List UInt8 × Int) → DataW Unit
  | [] => .map []
  | x :: r => (mapD r).put (.string x.1) (.lit (.int .i64 x.2))
theorem mapD_is (es : List (List UInt8 × Int)) : IsMap (mapD es) := by
  induction es with
  | nil => exact ⟨[], rfl⟩
  | cons x r ih => exact ih.put _ _
theorem lit_ne {a b : List UInt8} (h : a ≠ b) : (Lit.string a) ≠ .string b := fun e => h (by cases e; rfl)
theorem mapD_find (es : List (List UInt8 × Int)) (s : List UInt8) : (∀ p, findE es s = some p → Maps.has (mapD es) (.string s) = true ∧ ∀ z, (mapD es).atKey (.string s) z = .lit (.int .i64 p)) ∧ (findE es s = none → Maps.has (mapD es) (.string s) = false) := by
  induction es with
  | nil => exact ⟨fun p h => (by cases h), fun _ => rfl⟩
  | cons x r ih =>
    obtain ⟨k, v⟩ := x
    have hkl : WideAt.IsKeyLit (.string k) := trivial
    rw [findE_cons]
    unfold mapD
    by_cases e : s = k
    · subst e
      rw [if_pos rfl]
      refine ⟨fun p hp => ?_, fun h => by cases h⟩
      cases hp
      exact ⟨has_put_same (mapD_is r) hkl _, fun z => atKey_put_same (mapD_is r) hkl _ z⟩
    · rw [if_neg e]
      refine ⟨fun p hp => ?_, fun h => ?_⟩
      · obtain ⟨h1, h2⟩ := ih.1 p hp
        exact ⟨by rw [has_put_other (lit_ne e)]; exact h1, fun z => by rw [atKey_put_other (lit_ne e)]; exact h2 z⟩
      · rw [has_put_other (lit_ne e)]; exact ih.2 h
theorem lawS : Keyed Try.prog 9 := string_keyed Try.underlying9
theorem zeroI (w : World) : (zeroValue 3).run Try.prog w = .ok (.int .i64 0) w := by kernel_rfl
abbrev OwnM (w : World) (mb n : Nat) (es : List (List UInt8 × Int)) : Prop := w.ownsMap Try.prog 9 (plainElem (H := Unit) Try.prog 3) mb n (mapD es)
/-- The writer that lies in block g. -/
structure WM (w : World) (base g : Nat) (st : WS) (tv nv : Value) (mb n : Nat) : Prop where
  blk : Blk w g 69 #[tv, nv, .map (some mb)]
  ts : RowB w base tv st.ts
  ns : RowB w base nv st.ns
  map : OwnM w mb n st.es
  hg : base ≤ g
  hm : base ≤ mb
  apart : ∀ b, tv.ownBlock = some b → nv.ownBlock ≠ some b
  n0 : 0 < st.ns.length
theorem OwnM.isMap {w : World} {mb n : Nat} {es : List (List UInt8 × Int)} (h : OwnM w mb n es) : ∃ a c, w.heap[mb]? = some (.map a c) := by
  obtain ⟨a, c, h1, _⟩ := h
  exact ⟨a, c, h1⟩
section
variable {w w' : World} {base g mb n : Nat} {st : WS} {tv nv : Value}
theorem WM.tv_ne (h : WM w base g st tv nv mb n) : tv.ownBlock ≠ some g ∧ nv.ownBlock ≠ some g ∧ tv.ownBlock ≠ some mb ∧ nv.ownBlock ≠ some mb ∧ g ≠ mb := by
  have hb : w.heap[g]? = some (.cells #[tv, nv, .map (some mb)] 69 (0, 0)) := h.blk
  obtain ⟨x, c, hm⟩ := h.map.isMap
  refine ⟨fun e => ?_, fun e => ?_, fun e => ?_, fun e => ?_, fun e => ?_⟩
  · obtain ⟨_, _, cur, fr, h1⟩ := h.ts.tag g e
    rw [hb] at h1; cases h1
  · obtain ⟨_, _, cur, fr, h1⟩ := h.ns.tag g e
    rw [hb] at h1; cases h1
  · obtain ⟨_, _, cur, fr, h1⟩ := h.ts.tag mb e
    rw [hm] at h1; cases h1
  · obtain ⟨_, _, cur, fr, h1⟩ := h.ns.tag mb e
    rw [hm] at h1; cases h1
  · subst e; rw [hb] at hm; cases hm
theorem WM.alloc (h : WM w base g st tv nv mb n) (o : Obj) : WM (w.alloc o) base g st tv nv mb n :=
  ⟨h.blk.alloc o, h.ts.alloc o, h.ns.alloc o, World.ownsMap.alloc h.map o, h.hg, h.hm, h.apart, h.n0⟩
theorem WM.drew (h : WM w base g st tv nv mb n) : WM w.drew base g st tv nv mb n :=
  ⟨h.blk, h.ts.block fun _ _ => rfl, h.ns.block fun _ _ => rfl, h.map, h.hg, h.hm, h.apart, h.n0⟩
theorem newPlace_ne {v v' : Value} {b : Nat} (hp : newPlace w v v') (h : v.ownBlock ≠ some b) (hlt : b < w.heap.size) : v'.ownBlock ≠ some b := by
  rcases hp with hp | ⟨x, hp, hx⟩
  · rw [hp]; exact h
  · rw [hp]; intro e; cases e; omega
/-- The types' bytes were written. -/
theorem WM.setT (h : WM w base g st tv nv mb n) {tv' : Value} {l : List UInt8} (hr : RowB w' base tv' l) (hg : w.grownBy w' tv.ownBlock) (hp : newPlace w tv tv') :
    WM (w'.setCell ⟨g, 0, none⟩ tv') base g ⟨l, st.ns, st.es⟩ tv' nv mb n ∧ TagK w (w'.setCell ⟨g, 0, none⟩ tv') ∧ (∀ B, B ≤ base → B ≤ w.heap.size → Below B w (w'.setCell ⟨g, 0, none⟩ tv')) := by
  obtain ⟨e1, e2, e3, e4, e5⟩ := h.tv_ne
  have b1 : Blk w' g 69 #[tv, nv, .map (some mb)] := (hg.block g h.blk.lt (fun e => e1 e.symm)).trans h.blk
  obtain ⟨x, c, hm⟩ := h.map.isMap
  have hmlt := lt_of_some hm
  have n1 := newPlace_ne hp e1 h.blk.lt
  have hns : RowB w' base nv st.ns := h.ns.block fun b hb => hg.block b (h.ns.tag b hb).2.1 (fun e => h.apart b e.symm hb)
  refine ⟨⟨by simpa using b1.set_ 0 tv', ?_, ?_, ?_, h.hg, h.hm, ?_, h.n0⟩, TagK.setW ((TagK.refl w).grown hg (rowB_plain h.ts)) b1, fun B hB hB2 => ?_⟩
  · exact hr.block fun b hb => Below.heap_setCell w' ⟨g, 0, none⟩ tv' b (fun e => n1 (by rw [hb, e]))
  · exact hns.block fun b hb => Below.heap_setCell w' ⟨g, 0, none⟩ tv' b (fun e => e2 (by rw [hb, e]))
  · exact World.ownsMap.kept (row := some g) (World.ownsMap.kept h.map hg (fun e => e3 e.symm)) ⟨rfl, rfl, rfl, by simp [World.setCell], fun k hk hne => Below.heap_setCell w' ⟨g, 0, none⟩ tv' k (fun e => hne (by rw [e]))⟩ (fun e => e5 (Option.some.inj e).symm)
  · intro b hb hn
    exact newPlace_ne hp (fun e => h.apart b e hn) (h.ns.tag b hn).2.1 hb
  · have hbl : Below B w w' := ⟨hg.os, hg.tape, hg.output, hg.size, fun k hk => hg.block k (by omega) (fun e => by have := (h.ts.tag k e.symm).1; omega)⟩
    exact hbl.setCell (p := ⟨g, 0, none⟩) (by have := h.hg; simp only; omega) tv'
/-- The names' bytes were written. -/
theorem WM.setN (h : WM w base g st tv nv mb n) {nv' : Value} {l : List UInt8} (hr : RowB w' base nv' l) (hg : w.grownBy w' nv.ownBlock) (hp : newPlace w nv nv') (hl : 0 < l.length) :
    WM (w'.setCell ⟨g, 1, none⟩ nv') base g ⟨st.ts, l, st.es⟩ tv nv' mb n ∧ TagK w (w'.setCell ⟨g, 1, none⟩ nv') ∧ (∀ B, B ≤ base → B ≤ w.heap.size → Below B w (w'.setCell ⟨g, 1, none⟩ nv')) := by
  obtain ⟨e1, e2, e3, e4, e5⟩ := h.tv_ne
  have b1 : Blk w' g 69 #[tv, nv, .map (some mb)] := (hg.block g h.blk.lt (fun e => e2 e.symm)).trans h.blk
  obtain ⟨x, c, hm⟩ := h.map.isMap
  have hmlt := lt_of_some hm
  have n1 := newPlace_ne hp e2 h.blk.lt
  have hts : RowB w' base tv st.ts := h.ts.block fun b hb => hg.block b (h.ts.tag b hb).2.1 (fun e => h.apart b hb e.symm)
  refine ⟨⟨by simpa using b1.set_ 1 nv', ?_, ?_, ?_, h.hg, h.hm, ?_, hl⟩, TagK.setW ((TagK.refl w).grown hg (rowB_plain h.ns)) b1, fun B hB hB2 => ?_⟩
  · exact hts.block fun b hb => Below.heap_setCell w' ⟨g, 1, none⟩ nv' b (fun e => e1 (by rw [hb, e]))
  · exact hr.block fun b hb => Below.heap_setCell w' ⟨g, 1, none⟩ nv' b (fun e => n1 (by rw [hb, e]))
  · exact World.ownsMap.kept (row := some g) (World.ownsMap.kept h.map hg (fun e => e4 e.symm)) ⟨rfl, rfl, rfl, by simp [World.setCell], fun k hk hne => Below.heap_setCell w' ⟨g, 1, none⟩ nv' k (fun e => hne (by rw [e]))⟩ (fun e => e5 (Option.some.inj e).symm)
  · intro b hb hn
    exact newPlace_ne hp (h.apart b hb) (h.ts.tag b hb).2.1 hn
  · have hbl : Below B w w' := ⟨hg.os, hg.tape, hg.output, hg.size, fun k hk => hg.block k (by omega) (fun e => by have := (h.ns.tag k e.symm).1; omega)⟩
    exact hbl.setCell (p := ⟨g, 1, none⟩) (by have := h.hg; simp only; omega) nv'
/-- A name's place was written. -/
theorem WM.setM (h : WM w base g st tv nv mb n) {es : List (List UInt8 × Int)} {n' : Nat} (hr : OwnM w' mb n' es) (hg : w.grownBy w' (some mb)) :
    WM w' base g ⟨st.ts, st.ns, es⟩ tv nv mb n' ∧ TagK w w' ∧ (∀ B, B ≤ base → B ≤ w.heap.size → Below B w w') := by
  obtain ⟨e1, e2, e3, e4, e5⟩ := h.tv_ne
  refine ⟨⟨(hg.block g h.blk.lt (fun e => e5 (Option.some.inj e))).trans h.blk, h.ts.block fun b hb => hg.block b (h.ts.tag b hb).2.1 (fun e => e3 (by rw [hb, e])), h.ns.block fun b hb => hg.block b (h.ns.tag b hb).2.1 (fun e => e4 (by rw [hb, e])), hr, h.hg, h.hm, h.apart, h.n0⟩, (TagK.refl w).grown hg (fun b hb o ho => ?_), fun B hB hB2 => ?_⟩
  · cases hb
    obtain ⟨x, c, hm⟩ := h.map.isMap
    rw [hm] at ho
    cases ho
    rfl
  · exact ⟨hg.os, hg.tape, hg.output, hg.size, fun k hk => hg.block k (by omega) (fun e => by have := h.hm; cases e; omega)⟩
end
/-- What a call of the writer leaves. -/
def PostW (w : World) (base g : Nat) (st : WS) (v : Ending) (e : Ending) (w' : World) : Prop :=
  e = v ∧ (∃ tv nv mb n, WM w' base g st tv nv mb n ∧ n ≤ st.es.length + 1) ∧ TagK w w' ∧ (∀ B, B ≤ base → B ≤ w.heap.size → Below B w w')
end Go.Proofs.Ytmfdojmecpdikaa
