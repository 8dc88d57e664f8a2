/-
  Package hash: a table as it lies, its memory and its map of entries, from a world on. Package hash: gone, use, write, drop.
-/
import Derived.Test.YtbikofedppgblaaGreatQ15
namespace Go.Proofs.YtbikofedppgblaaGreat
open Go Go.RowKit Go.Maps
set_option linter.unusedVariables false
set_option linter.unusedSimpArgs false
set_option maxRecDepth 100000
abbrev mapT : TypeId := 140
abbrev entryT : TypeId := 181
abbrev entriesT : TypeId := 138
abbrev liveC (bm : Nat) (k key v mx : Int) (mb : Nat) (clock : Int) : Array Value := #[tp bm, .int .i64 k, .int .i64 key, .int .i64 v, .int .i64 mx, .map (some mb), .int .u64 clock]
abbrev goneC : Array Value := #[.pointer none, .int .i64 0, .int .i64 0, .int .i64 0, .int .i64 0, .map none, .int .u64 0]
abbrev enC (n : Nat) (used : Nat) : Array Value := #[.int .u64 (addr n 0), .int .u64 used]
abbrev OwnsE (w : World) (mb N : Nat) (D : DataW Value) : Prop := w.ownsMap Tryz.prog strT heldV mb N D
/-- A table that is there: from world w0 and its blocks P0 on. -/
structure PG (p : HPar) (w0 : World) (P0 : Nat → Prop) (s : HSt) (T : Nat → Prop) (mb N : Nat) (D : DataW Value) (bl : Nat → Nat) (w : World) : Prop where
  keeps : Keeps P0 w0 w
  pl : ∀ b, P0 b → b < w0.heap.size
  px : P0 p.x
  side : KSide w T p.bm s.m
  tq : ∀ b, T b → P0 b ∨ w0.heap.size ≤ b
  tx : ¬ T p.x
  map : Blk w p.x mapT (liveC p.bm p.k p.key p.v p.mx mb s.clock)
  own : OwnsE w mb N D
  mbp : P0 mb ∨ w0.heap.size ≤ mb
  tm : ¬ T mb
  dat : DatOf D s.es bl
  ent : ∀ e, e ∈ s.es → Blk w (bl e.n) entryT (enC e.n e.used)
  entp : ∀ e, e ∈ s.es → (P0 (bl e.n) ∨ w0.heap.size ≤ bl e.n) ∧ ¬ T (bl e.n)
  inj : ∀ e e', e ∈ s.es → e' ∈ s.es → bl e.n = bl e'.n → e.n = e'.n
  gone : s.gone = false
/-- .. that was freed. -/
structure PO (p : HPar) (w0 : World) (P0 : Nat → Prop) (s : HSt) (T : Nat → Prop) (w : World) : Prop where
  keeps : Keeps P0 w0 w
  pl : ∀ b, P0 b → b < w0.heap.size
  px : P0 p.x
  side : KSide w T p.bm s.m
  tq : ∀ b, T b → P0 b ∨ w0.heap.size ≤ b
  tx : ¬ T p.x
  map : Blk w p.x mapT goneC
  gone : s.gone = true
def PH : XRel := fun p s P w => (∃ T, PO p w P s T w) ∨ ∃ T mb N D bl, N ≤ s.clock ∧ PG p w P s T mb N D bl w
theorem map_ne {w : World} {mb N g : Nat} {D : DataW Value} {t : TypeId} {cs : Array Value} (h : OwnsE w mb N D) (hb : Blk w g t cs) : g ≠ mb := by
  rintro rfl
  obtain ⟨es, clock, h1, _⟩ := h
  unfold Blk at hb
  rw [hb] at h1; cases h1
theorem OwnsE.keeps {w w' : World} {mb N : Nat} {D : DataW Value} {S : Nat → Prop} (h : OwnsE w mb N D) (k : Keeps S w w') (hs : ¬ S mb) : OwnsE w' mb N D := ownsMap_block h (k.block mb h.lt hs)
theorem ranges_keeps {w w' : World} {mb r N cnt : Nat} {D : DataW Value} {left : Lit → Bool} {S : Nat → Prop} (h : w.ranges Tryz.prog strT heldV mb r N D left cnt) (k : Keeps S w w') (hs : ¬ S mb) (hr : ¬ S r) : w'.ranges Tryz.prog strT heldV mb r N D left cnt := by
  have h1 := h.owns.lt
  have h2 := h.lt
  obtain ⟨es, clock, since, seen, c0, hb, F, hs', hD, hr', rest⟩ := h
  exact ⟨es, clock, since, seen, c0, (k.block mb h1 hs).trans hb, F, hs', hD, (k.block r h2 hr).trans hr', rest⟩
section
variable {p : HPar} {w0 w w' : World} {P0 P U T T' : Nat → Prop} {s s' : HSt} {mb N N' : Nat} {D D' : DataW Value} {bl bl' : Nat → Nat}
theorem PG.start (h : PG p w0 P0 s T mb N D bl w) (hp : ∀ b, more P0 w0 w b → b < w.heap.size := by
    intro b hb; rcases hb with h1 | h1
    · exact Nat.lt_of_lt_of_le (h.pl b h1) h.keeps.size
    · exact h1.2) : PG p w (more P0 w0 w) s T mb N D bl w :=
  ⟨Keeps.refl _ _, hp, .inl h.px, h.side, fun b hb => .inl ((h.tq b hb).imp id fun hz => ⟨hz, h.side.lt' b hb⟩), h.tx, h.map, h.own, .inl (h.mbp.imp id fun hz => ⟨hz, h.own.lt⟩), h.tm, h.dat, h.ent, fun e he => ⟨.inl ((h.entp e he).1.imp id fun hz => ⟨hz, (h.ent e he).lt⟩), (h.entp e he).2⟩, h.inj, h.gone⟩
theorem PO.start (h : PO p w0 P0 s T w) : PO p w (more P0 w0 w) s T w := by
  refine ⟨Keeps.refl _ _, ?_, .inl h.px, h.side, fun b hb => .inl ((h.tq b hb).imp id fun hz => ⟨hz, h.side.lt' b hb⟩), h.tx, h.map, h.gone⟩
  rintro b (h1 | h1)
  · exact Nat.lt_of_lt_of_le (h.pl b h1) h.keeps.size
  · exact h1.2
theorem PG.done (h : PG p w0 P0 s T mb N D bl w) (hN : N ≤ s.clock) : PH p s (more P0 w0 w) w ∧ Keeps P0 w0 w := ⟨.inr ⟨T, mb, N, D, bl, hN, h.start⟩, h.keeps⟩
theorem PO.done (h : PO p w0 P0 s T w) : PH p s (more P0 w0 w) w ∧ Keeps P0 w0 w := ⟨.inl ⟨T, h.start⟩, h.keeps⟩
/-- The table's own blocks turn. -/
theorem PG.local_ (h : PG p w0 P0 s T mb N D bl w) (hm : s'.m = s.m) (hg : s'.gone = s.gone) (k : Keeps U w w') (hU : ∀ b, U b → ¬ T b ∧ (P0 b ∨ w0.heap.size ≤ b))
    (map' : Blk w' p.x mapT (liveC p.bm p.k p.key p.v p.mx mb s'.clock)) (own' : OwnsE w' mb N' D') (dat' : DatOf D' s'.es bl') (ent' : ∀ e, e ∈ s'.es → Blk w' (bl' e.n) entryT (enC e.n e.used))
    (entp' : ∀ e, e ∈ s'.es → w.heap.size ≤ bl' e.n ∨ ∃ e0, e0 ∈ s.es ∧ bl' e.n = bl e0.n) (inj' : ∀ e e', e ∈ s'.es → e' ∈ s'.es → bl' e.n = bl' e'.n → e.n = e'.n) : PG p w0 P0 s' T mb N' D' bl' w' := by
  have k' : Keeps (more P0 w0 w) w w' := ⟨k.os, k.tape, k.output, k.size, fun b hb hs => k.block b hb fun hu => hs ((hU b hu).2.imp id fun hz => ⟨hz, hb⟩)⟩
  refine ⟨h.keeps.trans k', h.pl, h.px, by rw [hm]; exact h.side.keeps' k fun b hb hu => (hU b hu).1 hb, h.tq, h.tx, map', own', h.mbp, h.tm, dat', ent', fun e he => ?_, inj', by rw [hg]; exact h.gone⟩
  · rcases entp' e he with h1 | ⟨e0, h0, h1⟩
    · exact ⟨.inr (Nat.le_trans h.keeps.size h1), fun ht => by have := h.side.lt' _ ht; omega⟩
    · rw [h1]; exact h.entp e0 h0
/-- Nothing of the table's turns. -/
theorem PG.off (h : PG p w0 P0 s T mb N D bl w) (k : Keeps U w w') (hx : ¬ U p.x) (hm : ¬ U mb) (ht : ∀ b, T b → ¬ U b) (he : ∀ e, e ∈ s.es → ¬ U (bl e.n)) (hU : ∀ b, U b → P0 b ∨ w0.heap.size ≤ b) : PG p w0 P0 s T mb N D bl w' :=
  h.local_ (s' := s) rfl rfl k (fun b hu => ⟨fun hb => ht b hb hu, hU b hu⟩) (h.map.keeps k hx) (h.own.keeps k hm) h.dat (fun e he' => (h.ent e he').keeps k (he e he')) (fun e he' => .inr ⟨e, he', rfl⟩) h.inj
theorem PG.quiet (h : PG p w0 P0 s T mb N D bl w) (k : Keeps (fun _ => False) w w') : PG p w0 P0 s T mb N D bl w' := h.off k (fun h => h) (fun h => h) (fun _ _ h => h) (fun _ _ h => h) (fun _ h => h.elim)
theorem PG.drewN (h : PG p w0 P0 s T mb N D bl w) (n : Nat) : PG p w0 P0 s T mb N D bl (w.drewN n) := h.quiet ⟨rfl, rfl, rfl, Nat.le_refl _, fun _ _ _ => rfl⟩
theorem PG.drew (h : PG p w0 P0 s T mb N D bl w) : PG p w0 P0 s T mb N D bl w.drew := h.quiet ⟨rfl, rfl, rfl, Nat.le_refl _, fun _ _ _ => rfl⟩
/-- The memory turns. -/
theorem PG.mem_ {m' : PS} (h : PG p w0 P0 s T mb N D bl w) (hk : KSide w' (more T w w') p.bm m') (kk : Keeps T w w') : PG p w0 P0 { s with m := m' } (more T w w') mb N D bl w' := by
  have hz := h.keeps.size
  have nt : ∀ b, b < w.heap.size → ¬ T b → ¬ more T w w' b := by
    rintro b hb ht (h1 | ⟨h1, _⟩)
    · exact ht h1
    · omega
  refine ⟨h.keeps.trans (kk.mono fun b hb => (h.tq b hb).imp id fun hz => ⟨hz, h.side.lt' b hb⟩), h.pl, h.px, hk, ?_, nt _ h.map.lt h.tx, h.map.keeps kk h.tx, h.own.keeps kk h.tm, h.mbp, nt _ h.own.lt h.tm, h.dat, fun e he => (h.ent e he).keeps kk (h.entp e he).2, fun e he => ⟨(h.entp e he).1, nt _ (h.ent e he).lt (h.entp e he).2⟩, h.inj, h.gone⟩
  rintro b (hb | ⟨hb, _⟩)
  · exact h.tq b hb
  · exact .inr (by omega)
theorem PG.call {m' : PS} {f : FuncId} {args : Array Value} {e0 : Ending} (h : PG p w0 P0 s T mb N D bl w) (c : KCall f args p.bm s.m m' e0) :
    Calls Tryz.prog f args w fun e w' => e = e0 ∧ ∃ T', PG p w0 P0 { s with m := m' } T' mb N D bl w' ∧ Keeps T w w' := by
  refine (c w T h.side).mono ?_
  rintro e w' ⟨rfl, hk, kk⟩
  exact ⟨rfl, _, h.mem_ hk kk, kk⟩
theorem PO.quiet (h : PO p w0 P0 s T w) (k : Keeps (fun _ => False) w w') : PO p w0 P0 s T w' :=
  ⟨h.keeps.trans (k.mono fun _ h => h.elim), h.pl, h.px, h.side.keeps' k (fun _ _ h => h), h.tq, h.tx, h.map.keeps k (fun h => h), h.gone⟩
theorem PO.mem_ {m' : PS} (h : PO p w0 P0 s T w) (hk : KSide w' (more T w w') p.bm m') (kk : Keeps T w w') : PO p w0 P0 { s with m := m' } (more T w w') w' := by
  have hz := h.keeps.size
  refine ⟨h.keeps.trans (kk.mono fun b hb => (h.tq b hb).imp id fun hz => ⟨hz, h.side.lt' b hb⟩), h.pl, h.px, hk, ?_, ?_, h.map.keeps kk h.tx, h.gone⟩
  · rintro b (hb | ⟨hb, _⟩)
    · exact h.tq b hb
    · exact .inr (by omega)
  · rintro (h1 | ⟨h1, _⟩)
    · exact h.tx h1
    · have := h.map.lt; omega
/-! ### what 'Prog' asks of memory alone -/
theorem PH.lt {P : Nat → Prop} (h : PH p s P w) : ∀ b, P b → b < w.heap.size := by
  rcases h with ⟨T, h⟩ | ⟨T, mb, N, D, bl, _, h⟩ <;> exact h.pl
theorem PH.keeps {P : Nat → Prop} (h : PH p s P w) (k : Keeps U w w') (hd : ∀ b, P b → ¬ U b) : PH p s P w' := by
  have hp : ∀ b, P b → b < w'.heap.size := fun b hb => Nat.lt_of_lt_of_le (h.lt b hb) k.size
  have old : ∀ b, b < w.heap.size → P b ∨ w.heap.size ≤ b → P b := fun b hb h1 => h1.resolve_right (by omega)
  rcases h with ⟨T, h⟩ | ⟨T, mb, N, D, bl, hN, h⟩
  · exact .inl ⟨T, ⟨Keeps.refl _ _, hp, h.px, h.side.keeps' k fun b hb => hd b (old b (h.side.lt' b hb) (h.tq b hb)), fun b hb => .inl (old b (h.side.lt' b hb) (h.tq b hb)), h.tx, h.map.keeps k (hd _ h.px), h.gone⟩⟩
  · exact .inr ⟨T, mb, N, D, bl, hN, ⟨Keeps.refl _ _, hp, h.px, h.side.keeps' k fun b hb => hd b (old b (h.side.lt' b hb) (h.tq b hb)), fun b hb => .inl (old b (h.side.lt' b hb) (h.tq b hb)), h.tx, h.map.keeps k (hd _ h.px), h.own.keeps k (hd _ (old _ h.own.lt h.mbp)), .inl (old _ h.own.lt h.mbp), h.tm, h.dat, fun e he => (h.ent e he).keeps k (hd _ (old _ (h.ent e he).lt (h.entp e he).1)), fun e he => ⟨.inl (old _ (h.ent e he).lt (h.entp e he).1), (h.entp e he).2⟩, h.inj, h.gone⟩⟩
theorem PH.side {P : Nat → Prop} (h : PH p s P w) : ∃ S, KSide w S p.bm s.m ∧ ∀ b, S b → P b := by
  rcases h with ⟨T, h⟩ | ⟨T, mb, N, D, bl, hN, h⟩
  · exact ⟨T, h.side, fun b hb => (h.tq b hb).resolve_right (by have := h.side.lt' b hb; omega)⟩
  · exact ⟨T, h.side, fun b hb => (h.tq b hb).resolve_right (by have := h.side.lt' b hb; omega)⟩
theorem PH.mem {m' : PS} {f : FuncId} {args : Array Value} {e0 : Ending} (c : KCall f args p.bm s.m m' e0) : FCallH PH p f args s { s with m := m' } e0 := by
  rintro w P (⟨T, h⟩ | ⟨T, mb, N, D, bl, hN, h⟩)
  · refine (c w T h.side).mono ?_
    rintro e w' ⟨rfl, hk, kk⟩
    exact ⟨rfl, (h.mem_ hk kk).done⟩
  · refine (h.call c).mono ?_
    rintro e w' ⟨rfl, T', h', _⟩
    exact ⟨rfl, h'.done hN⟩
end
end Go.Proofs.YtbikofedppgblaaGreat
namespace Go.Proofs.YtbikofedppgblaaGreat
open Go Go.RowKit Go.Maps
set_option linter.unusedVariables false
set_option linter.unusedSimpArgs false
set_option maxRecDepth 100000
theorem zeroE (w : World) : (zeroValue 152).run Tryz.prog w = .ok (.pointer none) w := by kernel_rfl
section
variable {p : HPar} {w0 w w' : World} {P0 P U T T' : Nat → Prop} {s s' : HSt} {mb N N' : Nat} {D D' : DataW Value} {bl bl' : Nat → Nat}
theorem gone_no (h : PG p w0 P0 s T mb N D bl w) : Calls Tryz.prog 105 #[tp p.x] w fun e w' => e = .returned (.bool false) ∧ w = w' := by
  have c0 : w.cell? ⟨p.x, 0, none⟩ = some (tp p.bm) := h.map.cell 0
  clear h
  go_enter Tryz.func105, Tryz.ntmps105
  go_wp2_with fail
  go_ret
  exact ⟨rfl, rfl⟩
theorem gone_yes (h : PO p w0 P0 s T w) : Calls Tryz.prog 105 #[tp p.x] w fun e w' => e = .returned (.bool true) ∧ w = w' := by
  have c0 : w.cell? ⟨p.x, 0, none⟩ = some (.pointer none) := h.map.cell 0
  clear h
  go_enter Tryz.func105, Tryz.ntmps105
  go_wp2_with fail
  go_ret
  exact ⟨rfl, rfl⟩
theorem gone_nil (w : World) : Calls Tryz.prog 105 #[.pointer none] w fun e w' => e = .returned (.bool true) ∧ w = w' := by
  go_enter Tryz.func105, Tryz.ntmps105
  go_wp2_with fail
  go_ret
  exact ⟨rfl, rfl⟩
theorem PG.look (h : PG p w0 P0 s T mb N D bl w) {key : ByteArray} (hk : key.size ≤ maxLen) : (∀ e, e ∈ s.es → e.key = key → (Instr.lookup entriesT (.map (some mb)) (.string key) false).run Tryz.prog w = .ok (tp (bl e.n)) w) ∧
    ((∀ e, e ∈ s.es → e.key ≠ key) → (Instr.lookup entriesT (.map (some mb)) (.string key) false).run Tryz.prog w = .ok (.pointer none) w) := by
  obtain ⟨v, ps, hrun, hv⟩ := h.own.lookup (t := entriesT) lawS Tryz.underlying138 (zeroE w) (zd := .held (.pointer none)) (zp := []) rfl (keyS hk)
  simp only [heldV, Option.some.injEq, Prod.mk.injEq] at hv
  refine ⟨fun e he hek => ?_, fun hn => ?_⟩
  · have h2 := hv.1
    rw [← hek, h.dat.yes e he _] at h2
    injection h2 with h2
    rw [← hek] at hrun ⊢
    rw [hrun, h2]
  · have := hv.1.trans (atKey_of_not_has (h.dat.no key hn) _)
    injection this with this
    rw [hrun, this]
theorem setUsed_mem {es : List Ent} {i u : Nat} {e x : Ent} (he : es[i]? = some e) (ha : Apart es) (hx : x ∈ setUsed es i u) : (x = { e with used := u }) ∨ (x ∈ es ∧ x ≠ e ∧ x.n ≠ e.n) := by
  obtain ⟨j, hj, rfl⟩ := List.getElem_of_mem hx
  obtain ⟨e', he', hh⟩ := setUsed_at (List.getElem?_eq_getElem hj)
  rcases hh with ⟨rfl, e1⟩ | ⟨h1, e1⟩
  · rw [he] at he'; cases he'; exact .inl e1
  · rw [e1]
    have hk := ha.at_ j i e' e he' he h1
    refine .inr ⟨List.mem_of_getElem? he', fun h => hk (by rw [h]), fun h => hk ?_⟩
    rw [ha.n e' e (List.mem_of_getElem? he') (List.mem_of_getElem? he) h]
set_option maxHeartbeats 1000000 in
theorem PG.use (h : PG p w0 P0 s T mb N D bl w) (ha : Apart s.es) (i : Nat) (e : Ent) (he : s.es[i]? = some e) (hc : s.clock < 1000000) :
    Calls Tryz.prog 124 #[tp p.x, tp (bl e.n)] w fun e' w' => e' = .returned (.tuple #[]) ∧ PG p w0 P0 (s.use i) T mb N D bl w' := by
  have hm := List.mem_of_getElem? he
  have c3 : w.cell? ⟨p.x, 6, none⟩ = some (.int .u64 s.clock) := h.map.cell 6
  have f3 : w.frozen? ⟨p.x, 6, none⟩ = false := h.map.frozen 6
  have d1 : w.cell? ⟨bl e.n, 1, none⟩ = some (.int .u64 e.used) := (h.ent e hm).cell 1
  have g1 : w.frozen? ⟨bl e.n, 1, none⟩ = false := (h.ent e hm).frozen 1
  have hne : bl e.n ≠ p.x := (h.ent e hm).ne_ h.map (by decide)
  have hne2 : p.x ≠ bl e.n := hne.symm
  have e1 : IntKind.u64.wrap ((s.clock : Int) + 1) = ((s.clock + 1 : Nat) : Int) := by rw [IntWalk.u64_in _ (by omega)]; omega
  have HF : Hid (PG p w0 P0 (s.use i) T mb N D bl ((w.setCell ⟨p.x, 6, none⟩ (.int .u64 ((s.clock + 1 : Nat) : Int))).setCell ⟨bl e.n, 1, none⟩ (.int .u64 ((s.clock + 1 : Nat) : Int)))) := by
    refine h.local_ (s' := s.use i) (U := fun b => b = p.x ∨ b = bl e.n) rfl rfl (((Keeps.refl _ w).setCell (p := ⟨p.x, 6, none⟩) (.inl (.inl rfl)) _).setCell (p := ⟨bl e.n, 1, none⟩) (.inl (.inr rfl)) _) ?_ ?_ ?_ (h.dat.used i _) ?_ ?_ ?_
    · rintro b (rfl | rfl)
      · exact ⟨h.tx, .inl h.px⟩
      · exact ⟨(h.entp e hm).2, (h.entp e hm).1⟩
    · exact (h.map.set_ 6 _).far hne2 _
    · exact OwnsE.keeps h.own (S := fun b => b = p.x ∨ b = bl e.n) (((Keeps.refl _ w).setCell (p := ⟨p.x, 6, none⟩) (.inl (.inl rfl)) _).setCell (p := ⟨bl e.n, 1, none⟩) (.inl (.inr rfl)) _) (by rintro (h1 | h1); exact map_ne h.own h.map h1.symm; exact map_ne h.own (h.ent e hm) h1.symm)
    · intro x hx
      rcases setUsed_mem he ha hx with rfl | ⟨h1, _, h3⟩
      · exact ((h.ent e hm).far hne _).set_ 1 _
      · refine ((h.ent x h1).far ((h.ent x h1).ne_ h.map (by decide)) _).far ?_ _
        intro hb
        exact h3 (h.inj x e h1 hm hb)
    · intro x hx
      rcases setUsed_mem he ha hx with rfl | ⟨h1, _, h3⟩
      · exact .inr ⟨e, hm, rfl⟩
      · exact .inr ⟨x, h1, rfl⟩
    · intro x y hx hy hb
      have g : ∀ z, z ∈ setUsed s.es i (s.clock + 1) → ∃ z', z' ∈ s.es ∧ z'.n = z.n := fun z hz => by
        rcases setUsed_mem he ha hz with rfl | ⟨h1, _, _⟩
        · exact ⟨e, hm, rfl⟩
        · exact ⟨z, h1, rfl⟩
      obtain ⟨x', hx', ex⟩ := g x hx
      obtain ⟨y', hy', ey⟩ := g y hy
      rw [← ex, ← ey] at hb ⊢
      exact h.inj x' y' hx' hy' hb
  obtain ⟨ck, hck⟩ : ∃ ck, s.clock + 1 = ck := ⟨_, rfl⟩
  rw [hck] at e1 HF
  clear h he hm hc hck
  generalize bl e.n = b at *
  go_enter Tryz.func124, Tryz.ntmps124
  go_wp2_with fail
  go_end0
  exact ⟨rfl, HF.out⟩
set_option maxHeartbeats 1000000 in
theorem PG.write (h : PG p w0 P0 s T mb N D bl w) (ha : Apart s.es) (i : Nat) (e : Ent) (he : s.es[i]? = some e) (hc : s.clock < 1000000) (q : RV) (hq : s.m.vs e.n = some q) (hn : e.n ≤ 4294967295) (l : List UInt8) (hl : l.length ≤ 1048576) (hb : l.length ≤ q.2.1.length) :
    Calls Tryz.prog 106 #[tp p.x, tp (bl e.n), .string (bstr l)] w fun e' w' => e' = .returned (.int .i64 0) ∧ ∃ T', PG p w0 P0 ((s.put e q l).use i) T' mb N D bl w' := by
  have hm := List.mem_of_getElem? he
  have CP := Lib.hid (h.drew.call (k_put p.bm s.m e.n hn q hq l hl hb))
  have CU := Lib.hid (fun w1 T1 (h1 : PG p w0 P0 (s.put e q l) T1 mb N D bl w1) => h1.use ha i e he hc)
  have c0 : w.cell? ⟨p.x, 0, none⟩ = some (tp p.bm) := h.map.cell 0
  have d0 : w.cell? ⟨bl e.n, 0, none⟩ = some (.int .u64 (addr e.n 0)) := (h.ent e hm).cell 0
  have HM := Lib.hid hm
  clear h hm he hc hq hl hb
  go_enter Tryz.func106, Tryz.ntmps106
  go_upto_region 1 with fail
  have S0 : Hid (w.cell? ⟨p.x, 0, none⟩ = some (tp p.bm) ∧ w.cell? ⟨bl e.n, 0, none⟩ = some (.int .u64 (addr e.n 0))) := ⟨c0, d0⟩
  go_region_held3 (fun W => W.cell? ⟨p.x, 0, none⟩ = some (tp p.bm) ∧ W.cell? ⟨bl e.n, 0, none⟩ = some (.int .u64 (addr e.n 0)))
    (first | exact S0.out | exact S1.out)
    (first
      | (go_at_call 84; refine CP.out.mono ?_; rintro e' w1 ⟨rfl, T1, h1, _⟩; have H1 := Lib.hid h1; have S1 : Hid (w1.cell? ⟨p.x, 0, none⟩ = some (tp p.bm) ∧ w1.cell? ⟨bl e.n, 0, none⟩ = some (.int .u64 (addr e.n 0))) := ⟨h1.map.cell 0, (h1.ent e HM.out).cell 0⟩; clear h1))
  go_wp2_with (go_at_call 124; refine (CU.out _ _ H1.out).mono ?_; rintro e' w2 ⟨rfl, h2⟩; have H2 := Lib.hid h2; clear h2)
  go_ret
  exact ⟨rfl, T1, H2.out⟩
set_option maxHeartbeats 1000000 in
theorem PG.drop (h : PG p w0 P0 s T mb N D bl w) (ha : Apart s.es) (i : Nat) (e : Ent) (he : s.es[i]? = some e) (hks : e.key.size ≤ maxLen) (q : RV) (hq : s.m.vs e.n = some q) (hr : q.2.2 = false) :
    Calls Tryz.prog 112 #[tp p.x, .string e.key] w fun e' w' => e' = .returned (.tuple #[]) ∧ ∃ T', PG p w0 P0 (s.cut i e q) T' mb N (D.del (litS e.key)) bl w' := by
  have hm := List.mem_of_getElem? he
  have CP := Lib.hid (h.drew.call (k_retire p.bm s.m e.n q hq hr))
  have c0 : w.cell? ⟨p.x, 0, none⟩ = some (tp p.bm) := h.map.cell 0
  have c5 : w.cell? ⟨p.x, 5, none⟩ = some (.map (some mb)) := h.map.cell 5
  have d0 : w.cell? ⟨bl e.n, 0, none⟩ = some (.int .u64 (addr e.n 0)) := (h.ent e hm).cell 0
  have lk := (h.look hks).1 e hm rfl
  have lkd := (h.drew.look hks).1 e hm rfl
  have HM := Lib.hid hm
  have HK := Lib.hid (keyS hks)
  have HC := Lib.hid (fun (w1 w2 : World) (T1 : Nat → Prop) (h1 : PG p w0 P0 { s with m := s.m.set e.n (some (q.1, q.2.1, true)) } T1 mb N D bl w1) (own : OwnsE w2 mb N (D.del (litS e.key))) (tr : w1.mapTurned w2 mb) =>
    (show PG p w0 P0 (s.cut i e q) T1 mb N (D.del (litS e.key)) bl w2 from by
      have kk : Keeps (fun b => b = mb) w1 w2 := (Keeps.refl _ w1).grown tr.grown fun k hk => by cases hk; exact .inl rfl
      have sub : ∀ x, x ∈ (s.cut i e q).es → x ∈ s.es := fun x hx => ((mem_erase he ha).1 hx).1
      refine h1.local_ (s' := s.cut i e q) (U := fun b => b = mb) rfl rfl kk ?_ (h1.map.keeps kk (map_ne h1.own h1.map)) own (h1.dat.cut h1.own.isMap (h1.own.tidy lawS) ha he) (fun x hx => (h1.ent x (sub x hx)).keeps kk (map_ne h1.own (h1.ent x (sub x hx)))) (fun x hx => .inr ⟨x, sub x hx, rfl⟩) (fun x y hx hy => h1.inj x y (sub x hx) (sub y hy))
      rintro b rfl
      exact ⟨h1.tm, h1.mbp⟩))
  clear h hm he hq hr hks
  go_enter Tryz.func112, Tryz.ntmps112
  go_upto_region 0 with fail
  have S0 : Hid (w.cell? ⟨p.x, 0, none⟩ = some (tp p.bm) ∧ w.cell? ⟨p.x, 5, none⟩ = some (.map (some mb)) ∧ w.cell? ⟨bl e.n, 0, none⟩ = some (.int .u64 (addr e.n 0)) ∧ (Instr.lookup entriesT (.map (some mb)) (.string e.key) false).run Tryz.prog w = .ok (tp (bl e.n)) w) := ⟨c0, c5, d0, lk⟩
  have S0' : Hid (w.drew.cell? ⟨p.x, 0, none⟩ = some (tp p.bm) ∧ w.drew.cell? ⟨p.x, 5, none⟩ = some (.map (some mb)) ∧ w.drew.cell? ⟨bl e.n, 0, none⟩ = some (.int .u64 (addr e.n 0)) ∧ (Instr.lookup entriesT (.map (some mb)) (.string e.key) false).run Tryz.prog w.drew = .ok (tp (bl e.n)) w.drew) := ⟨c0, c5, d0, lkd⟩
  go_region_held3 (fun W => W.cell? ⟨p.x, 0, none⟩ = some (tp p.bm) ∧ W.cell? ⟨p.x, 5, none⟩ = some (.map (some mb)) ∧ W.cell? ⟨bl e.n, 0, none⟩ = some (.int .u64 (addr e.n 0)) ∧ (Instr.lookup entriesT (.map (some mb)) (.string e.key) false).run Tryz.prog W = .ok (tp (bl e.n)) W)
    (first | exact S0.out | exact S0'.out | exact S1.out)
    (first
      | (go_at_call 113; refine CP.out.mono ?_; rintro e' w1 ⟨rfl, T1, h1, _⟩; have H1 := Lib.hid h1; have S1 : Hid (w1.cell? ⟨p.x, 0, none⟩ = some (tp p.bm) ∧ w1.cell? ⟨p.x, 5, none⟩ = some (.map (some mb)) ∧ w1.cell? ⟨bl e.n, 0, none⟩ = some (.int .u64 (addr e.n 0)) ∧ (Instr.lookup entriesT (.map (some mb)) (.string e.key) false).run Tryz.prog w1 = .ok (tp (bl e.n)) w1) := ⟨h1.map.cell 0, h1.map.cell 5, (h1.ent e HM.out).cell 0, (h1.look (by have := HK.out; exact Classical.byContradiction fun hn => by simp [keyOf, Tryz.underlying9, mapKey, hn] at this)).1 e HM.out rfl⟩; clear h1))
  have x5 : w1.cell? ⟨p.x, 5, none⟩ = some (.map (some mb)) := H1.out.map.cell 5
  obtain ⟨w2, hrun, hown, hturn⟩ := H1.out.own.drop lawS Tryz.underlying138 HK.out 0
  have hrun' : ∀ ty, (Builtin.delete_ #[entriesT, strT] ty #[.map (some mb), .string e.key]).run Tryz.prog w1 = .ok (.tuple #[]) w2 := fun ty => hrun
  have HO := Lib.hid (HC.out w1 w2 T1 H1.out hown hturn)
  clear hrun hown hturn
  go_wp2_with fail
  go_end0
  exact ⟨rfl, T1, HO.out⟩
end
end Go.Proofs.YtbikofedppgblaaGreat
