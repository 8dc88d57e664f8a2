/-
  Package hash: Free, in whatever order the map tells its entries. strings.Clone, whole.
-/
import Derived.Test.YtbikofedppgblaaGreatQ17
import Derived.Lib.UnsafeStr
import Derived.Lib.BufferWrite
import Derived.Lib.Strings
import Derived.Laws.MakeOwn
namespace Go.Proofs.YtbikofedppgblaaGreat
open Go Go.RowKit Go.Maps
set_option linter.unusedVariables false
set_option linter.unusedSimpArgs false
set_option maxRecDepth 100000
/-- The regions of those entries that C holds of are there no more. -/
noncomputable def freeC (m : PS) (C : Ent → Prop) : PS := { m with vs := fun n => @ite _ (∃ e, C e ∧ e.n = n) (Classical.propDecidable _) none (m.vs n) }
theorem freeC_yes (m : PS) {C : Ent → Prop} {e : Ent} (h : C e) : (freeC m C).vs e.n = none := if_pos ⟨e, h, rfl⟩
theorem freeC_no (m : PS) {C : Ent → Prop} {n : Nat} (h : ∀ e, C e → e.n ≠ n) : (freeC m C).vs n = m.vs n := if_neg (fun ⟨e, h1, h2⟩ => h e h1 h2)
theorem ps_ext {a b : PS} (h1 : a.made = b.made) (h2 : a.fail = b.fail) (h3 : ∀ n, a.vs n = b.vs n) : a = b := by
  obtain ⟨a1, a2, a3⟩ := a
  obtain ⟨b1, b2, b3⟩ := b
  obtain rfl : a1 = b1 := h1
  obtain rfl : a2 = b2 := h2
  obtain rfl : a3 = b3 := funext h3
  rfl
theorem freeC_none (m : PS) {C : Ent → Prop} (h : ∀ e, ¬ C e) : freeC m C = m := ps_ext rfl rfl fun n => freeC_no m fun e he => absurd he (h e)
theorem freeC_step (m : PS) {C C' : Ent → Prop} {e : Ent} (h : ∀ x, C' x ↔ C x ∨ x = e) : (freeC m C).set e.n none = freeC m C' := by
  refine ps_ext rfl rfl fun n => ?_
  show updv _ _ _ n = _
  by_cases hn : n = e.n
  · subst hn
    rw [updv_same, freeC_yes m ((h e).2 (.inr rfl))]
  · rw [updv_other _ _ hn]
    by_cases hc : ∃ x, C x ∧ x.n = n
    · obtain ⟨x, hx, rfl⟩ := hc
      rw [freeC_yes m hx, freeC_yes m ((h x).2 (.inl hx))]
    · have hc' : ∀ x, C x → x.n ≠ n := fun x hx hxn => hc ⟨x, hx, hxn⟩
      rw [freeC_no m hc', freeC_no m]
      intro x hx hxn
      rcases (h x).1 hx with h1 | rfl
      · exact hc' x h1 hxn
      · exact hn hxn.symm
theorem freeC_to (m : PS) (es : List Ent) : ∀ j, j ≤ es.length → freeTo m es j = freeC m (fun e => ∃ i, i < j ∧ es[i]? = some e)
  | 0, _ => (freeC_none m fun e ⟨i, hi, _⟩ => by omega).symm
  | j + 1, hj => by
    obtain ⟨e, he⟩ : ∃ e, es[j]? = some e := ⟨_, List.getElem?_eq_getElem (by omega)⟩
    rw [freeTo_step he, freeC_to m es j (by omega)]
    refine freeC_step m fun x => ?_
    constructor
    · rintro ⟨i, hi, hx⟩
      rcases Nat.lt_or_ge i j with h | h
      · exact .inl ⟨i, h, hx⟩
      · obtain rfl : i = j := by omega
        rw [he] at hx; cases hx; exact .inr rfl
    · rintro (⟨i, hi, hx⟩ | rfl)
      · exact ⟨i, by omega, hx⟩
      · exact ⟨j, by omega, he⟩
theorem freeC_congr (m : PS) {C C' : Ent → Prop} (h : ∀ x, C x ↔ C' x) : freeC m C = freeC m C' := by
  rw [show C = C' from funext fun x => propext (h x)]
theorem freeC_all (m : PS) (es : List Ent) : freeTo m es es.length = freeC m (fun e => e ∈ es) := by
  rw [freeC_to m es _ (Nat.le_refl _)]
  refine freeC_congr m fun e => ⟨fun ⟨i, _, hi⟩ => List.mem_of_getElem? hi, fun he => ?_⟩
  obtain ⟨i, hi, rfl⟩ := List.getElem_of_mem he
  exact ⟨i, hi, List.getElem?_eq_getElem hi⟩
def wiped (w : World) (x : Nat) : World := ((((((w.setCell ⟨x, 0, none⟩ (.pointer none)).setCell ⟨x, 1, none⟩ (.int .i64 0)).setCell ⟨x, 2, none⟩ (.int .i64 0)).setCell ⟨x, 3, none⟩ (.int .i64 0)).setCell ⟨x, 4, none⟩ (.int .i64 0)).setCell ⟨x, 5, none⟩ (.map none)).setCell ⟨x, 6, none⟩ (.int .u64 0)
theorem wiped_blk {w : World} {x : Nat} {a0 a1 a2 a3 a4 a5 a6 : Value} (h : Blk w x mapT #[a0, a1, a2, a3, a4, a5, a6]) : Blk (wiped w x) x mapT goneC := by
  have := ((((((h.set_ 0 (.pointer none)).set_ 1 (.int .i64 0)).set_ 2 (.int .i64 0)).set_ 3 (.int .i64 0)).set_ 4 (.int .i64 0)).set_ 5 (.map none)).set_ 6 (.int .u64 0)
  simpa [wiped] using this
theorem wiped_keeps (w : World) (x : Nat) : Keeps (fun b => b = x) w (wiped w x) := by
  have f : ∀ (w' : World) (i : Nat) (u : Value), Keeps (fun b => b = x) w w' → Keeps (fun b => b = x) w (w'.setCell ⟨x, i, none⟩ u) := fun w' i u h => h.setCell (p := ⟨x, i, none⟩) (.inl rfl) u
  exact f _ _ _ (f _ _ _ (f _ _ _ (f _ _ _ (f _ _ _ (f _ _ _ (f _ _ _ (Keeps.refl _ w)))))))
section
variable {p : HPar} {w0 w w' : World} {P0 P U T T' : Nat → Prop} {s s' : HSt} {mb N N' : Nat} {D D' : DataW Value} {bl bl' : Nat → Nat}
theorem PG.wipe (h : PG p w0 P0 s T mb N D bl w) (s' : HSt) (hm : s'.m = s.m) (hg : s'.gone = true) : PO p w0 P0 s' T (wiped w p.x) :=
  ⟨h.keeps.trans ((wiped_keeps w p.x).mono fun b e => by subst e; exact .inl h.px), h.pl, h.px, by rw [hm]; exact h.side.keeps' (wiped_keeps w p.x) (fun b hb e => by subst e; exact h.tx hb), h.tq, h.tx, wiped_blk h.map, hg⟩
set_option maxHeartbeats 4000000 in
theorem PG.free (h : PG p w0 P0 s T mb N D bl w) (ho : HOk p s) (hmd : s.m.made ≤ 4096) :
    Calls Tryz.prog 87 #[tp p.x] w fun e w' => e = .returned (.int .i64 0) ∧ ∃ T', PO p w0 P0 { s with m := freeTo s.m s.es s.es.length, es := [], gone := true } T' w' := by
  have CG := Lib.hid (gone_no h)
  have hown := h.own
  have c5 : w.cell? ⟨p.x, 5, none⟩ = some (.map (some mb)) := h.map.cell 5
  have H := Lib.hid h
  have HA := Lib.hid ho.aparts
  have CF := Lib.hid (fun (e : Ent) (left : Lit → Bool) (T1 : Nat → Prop) (w1 : World) (he : e ∈ s.es) (hl : left (litS e.key) = true) (h1 : PG p w0 P0 { s with m := freeC s.m (Seen s.es left) } T1 mb N D bl w1) =>
    (show Calls Tryz.prog 129 #[tp p.bm, .int .u64 (addr e.n 0)] w1 fun e' w' => e' = .returned (.int .i64 0) ∧ ∃ T', PG p w0 P0 { s with m := (freeC s.m (Seen s.es left)).set e.n none } T' mb N D bl w' ∧ Keeps T1 w1 w' ∧ T' = more T1 w1 w' from by
      obtain ⟨hn, _, _, b, hq, _⟩ := ho.of_mem he
      have hq' : (freeC s.m (Seen s.es left)).vs e.n = some (3, b, false) := (freeC_no s.m fun x hx hxn => by
        have := ho.aparts.n x e hx.1 he hxn
        subst this
        rw [hx.2] at hl; cases hl).trans hq
      refine (k_free p.bm (freeC s.m (Seen s.es left)) e.n (by omega) _ hq' w1 T1 h1.side).mono ?_
      rintro e' w' ⟨rfl, hk, kk⟩
      exact ⟨rfl, _, h1.mem_ hk kk, kk, rfl⟩))
  clear h ho
  go_enter Tryz.func87, Tryz.ntmps87
  go_wp2_with (first
    | (go_at_call 105; refine CG.out.mono ?_; rintro e w1 ⟨rfl, rfl⟩)
    | (at_range; refine wpList_range_own _ rfl _ entriesT rfl strT 152 lawS Tryz.underlying138 heldV mb N D rfl hown ?_; intro w1 hrg0 hg0 hs0)
    | fail)
  go_frame
  go_loopw [4] (fun _ wr => ∃ (left : Lit → Bool) (cnt : Nat) (T1 : Nat → Prop), Ranges wr mb w.heap.size N D left cnt ∧ PG p w0 P0 { s with m := freeC s.m (Seen s.es left) } T1 mb N D bl wr ∧ ¬ T1 w.heap.size ∧ (∀ kl, left kl = true → Maps.has D kl = true))
    (fun _ wr => wr.rangeLeft mb w.heap.size)
  case atStart =>
    have hnone : ∀ e, ¬ Seen s.es (Maps.has D) e := fun e he => by
      have := H.out.dat.has_yes he.1
      rw [he.2] at this; cases this
    refine ⟨_, _, T, hrg0, ?_, fun ht => by have := H.out.side.lt' _ ht; omega, fun kl hk => hk⟩
    rw [freeC_none s.m hnone]
    exact H.out.quiet ((Keeps.refl _ w).grown hg0 (fun k hk => by cases hk))
  case round =>
    obtain ⟨left, cnt, T1, hrg, hJ, hnt, hlf⟩ := hrel
    have HJ := Lib.hid hJ
    have HNT := Lib.hid hnt
    have HLF := Lib.hid hlf
    have HMB : Hid (w.heap.size ≠ mb) := Nat.ne_of_gt H.out.own.lt
    have HSZ : Hid (w0.heap.size ≤ w.heap.size) := H.out.keeps.size
    clear hJ hnt hlf hrg0 hg0 hs0 hown c5
    go_wp2_with (first
      | (at_next; refine wpList_next_ranges _ rfl _ rfl strT lawS heldV Value.string id (fun key kl hk => by obtain ⟨x, hx, _⟩ := keyS_inv hk; exact ⟨x, hx⟩) (fun v _ _ => ⟨v, rfl⟩) mb w.heap.size N _ _ _ rfl hrg ?_ ?_)
      | fail)
    · intro hc0 hl0
      have HE : Hid (∀ W, W = wiped wr p.x → PO p w0 P0 { s with m := freeTo s.m s.es s.es.length, es := [], gone := true } T1 W) := fun W hW => by
        rw [hW]
        refine HJ.out.wipe _ ?_ rfl
        show freeTo s.m s.es s.es.length = freeC s.m _
        rw [freeC_all]
        exact freeC_congr s.m fun e => ⟨fun he => ⟨he, hl0 _⟩, fun he => he.1⟩
      have f0 : wr.frozen? ⟨p.x, 0, none⟩ = false := HJ.out.map.frozen 0
      have f1 : wr.frozen? ⟨p.x, 1, none⟩ = false := HJ.out.map.frozen 1
      have f2 : wr.frozen? ⟨p.x, 2, none⟩ = false := HJ.out.map.frozen 2
      have f3 : wr.frozen? ⟨p.x, 3, none⟩ = false := HJ.out.map.frozen 3
      have f4 : wr.frozen? ⟨p.x, 4, none⟩ = false := HJ.out.map.frozen 4
      have f5 : wr.frozen? ⟨p.x, 5, none⟩ = false := HJ.out.map.frozen 5
      have f6 : wr.frozen? ⟨p.x, 6, none⟩ = false := HJ.out.map.frozen 6
      have x0 : wr.cell? ⟨p.x, 0, none⟩ = some (tp p.bm) := HJ.out.map.cell 0
      have x1 : wr.cell? ⟨p.x, 1, none⟩ = some (.int .i64 p.k) := HJ.out.map.cell 1
      have x2 : wr.cell? ⟨p.x, 2, none⟩ = some (.int .i64 p.key) := HJ.out.map.cell 2
      have x3 : wr.cell? ⟨p.x, 3, none⟩ = some (.int .i64 p.v) := HJ.out.map.cell 3
      have x4 : wr.cell? ⟨p.x, 4, none⟩ = some (.int .i64 p.mx) := HJ.out.map.cell 4
      have x5 : wr.cell? ⟨p.x, 5, none⟩ = some (.map (some mb)) := HJ.out.map.cell 5
      have x6 : wr.cell? ⟨p.x, 6, none⟩ = some (.int .u64 s.clock) := HJ.out.map.cell 6
      clear hc0 hl0
      go_wp2_with fail
      go_ret
      exact ⟨rfl, T1, HE.out _ rfl⟩
    · intro x c kl yd yp w2 cnt2 hkey hlk hv hat hrg2 hlt hg2 hs2 hen
      obtain ⟨x', ex, rfl⟩ := keyS_inv hkey
      cases ex
      simp only [id_eq, heldV, Option.some.injEq, Prod.mk.injEq] at hv
      obtain ⟨rfl, rfl⟩ := hv
      obtain ⟨e, he, rfl, rfl, hseen, hlf2⟩ := H.out.dat.came HA.out HLF.out hlk hat
      have HK2 : Hid (Keeps (fun b => b = w.heap.size) wr w2) := (Keeps.refl _ wr).grown hg2 (fun k hk => by cases hk; exact .inl rfl)
      have HJ2 : Hid (PG p w0 P0 { s with m := freeC s.m (Seen s.es left) } T1 mb N D bl w2) := by
        refine HJ.out.off HK2.out (fun e => ?_) (fun e => HMB.out e.symm) (fun b hb e => HNT.out (e ▸ hb)) (fun x hx e => ?_) (fun b e => by rw [e]; exact .inr HSZ.out)
        · have := H.out.map.lt; omega
        · have := (H.out.ent x hx).lt; omega
      have d0 : w2.cell? ⟨bl e.n, 0, none⟩ = some (.int .u64 (addr e.n 0)) := (HJ2.out.ent e he).cell 0
      have x0 : w2.cell? ⟨p.x, 0, none⟩ = some (tp p.bm) := HJ2.out.map.cell 0
      have HR2 := Lib.hid hrg2
      have HM : Hid (cnt2 < wr.rangeLeft mb w.heap.size) := by unfold Hid; rw [hrg.left_eq]; exact hlt
      have HLF2 := Lib.hid hlf2
      have HS := Lib.hid hseen
      have HEM := Lib.hid he
      have CFE := Lib.hid (CF.out e left T1 w2.drew he hlk HJ2.out.drew)
      clear hkey hlk hat hrg2 hlt hg2 hs2 hseen hlf2 hrg CF he
      go_upto_region 6 with fail
      have S0 : Hid (w2.cell? ⟨p.x, 0, none⟩ = some (tp p.bm) ∧ w2.cell? ⟨bl e.n, 0, none⟩ = some (.int .u64 (addr e.n 0))) := ⟨x0, d0⟩
      go_region_held3 (fun W => W.cell? ⟨p.x, 0, none⟩ = some (tp p.bm) ∧ W.cell? ⟨bl e.n, 0, none⟩ = some (.int .u64 (addr e.n 0)))
        (first | exact S0.out | exact S1.out)
        (first
          | (go_at_call 129; refine CFE.out.mono ?_; rintro e' w3 ⟨rfl, T3, h3, k3, hT3⟩; have H3 := Lib.hid h3; have K3 := Lib.hid k3; have HT3 := Lib.hid hT3; have S1 : Hid (w3.cell? ⟨p.x, 0, none⟩ = some (tp p.bm) ∧ w3.cell? ⟨bl e.n, 0, none⟩ = some (.int .u64 (addr e.n 0))) := ⟨h3.map.cell 0, (h3.ent e HEM.out).cell 0⟩; clear h3 k3 hT3))
      have HR3 : Hid (Ranges w3 mb w.heap.size N D (fun z => left z && !z.sameKey (litS e.key)) cnt2) := ranges_keeps (show Ranges w2.drew mb w.heap.size N D (fun z => left z && !z.sameKey (litS e.key)) cnt2 from HR2.out) K3.out HJ2.out.tm HNT.out
      have HLT : Hid (w.heap.size < w2.heap.size) := HR2.out.lt
      go_wp2_with fail
      go_roundw
      case rel =>
        refine ⟨_, cnt2, T3, HR3.out, ?_, ?_, HLF2.out⟩
        · rw [← freeC_step s.m (C' := Seen s.es (fun z => left z && !z.sameKey (litS e.key))) HS.out]
          exact H3.out
        · rw [HT3.out]
          rintro (h1 | ⟨h1, _⟩)
          · exact HNT.out h1
          · have := HLT.out
            have h2 : w2.heap.size ≤ w.heap.size := h1
            omega
      case measure => rw [HR3.out.left_eq]; exact HM.out
end
theorem PO.freeNo {p : HPar} {w0 w : World} {P0 T : Nat → Prop} {s : HSt} (h : PO p w0 P0 s T w) : Calls Tryz.prog 87 #[tp p.x] w fun e w' => e = .returned (.int .i64 1) ∧ w = w' := by
  have CG := Lib.hid (gone_yes h)
  clear h
  go_enter Tryz.func87, Tryz.ntmps87
  go_wp2_with (go_at_call 105; refine CG.out.mono ?_; rintro e w1 ⟨rfl, rfl⟩)
  go_ret
  exact ⟨rfl, rfl⟩
end Go.Proofs.YtbikofedppgblaaGreat
namespace Go.Proofs.YtbikofedppgblaaGreat
open Go Go.RowKit
set_option linter.unusedVariables false
set_option linter.unusedSimpArgs false
set_option maxRecDepth 100000
theorem infoB : (Tryz.prog.info? 5).map (fun i => (i.zero, i.size, i.bytes)) = some (some (.int .u8 0), 1, 1) := by kernel_rfl
theorem sclone_any (s : ByteArray) (hs : s.size ≤ 4096) (w : World) :
    Calls Tryz.prog 126 #[.string s] w fun e w' => e = .returned (.string s) ∧ Below w.heap.size w w' := by
  by_cases h0 : s.size = 0
  · have e : s = ⟨#[]⟩ := ByteArray.ext (Array.eq_empty_of_size_eq_zero h0)
    subst e
    go_enter Tryz.func126, Tryz.ntmps126
    go_wp2_with fail
    go_ret
    exact ⟨rfl, Below.refl _ _⟩
  · obtain ⟨i0, hi, hz0, hz1, hz2⟩ := info_parts infoB
    have hinfo : (Tryz.prog.info? 5).map (·.size) = some 1 := by rw [hi]; simp [hz1]
    have hco : Tryz.prog.cellsOf 5 = 1 := by kernel_rfl
    obtain ⟨M, hM⟩ : ∃ M, M = madeCells (Value.int .u8 0).cells ((s.size : Int).toNat * i0.size) := ⟨_, rfl⟩
    have hMs : M.size = s.size := by rw [hM, size_madeCells, hz1]; simp [Value.cells]
    have hmk : ∀ W : World, (Instr.makeSlice 67 (.int .i64 (s.size : Int)) (.int .i64 (s.size : Int))).run Tryz.prog W = .ok (.slice (some ⟨W.heap.size, 0, none⟩) s.size s.size) (W.alloc (.cells M 5)) := fun W => by
      have h := run_make (P := Tryz.prog) W 67 5 i0 (.int .u8 0) Tryz.underlying67 hi hz0 .i64 .i64 (s.size : Int) (s.size : Int) (by omega) (by omega) (by rw [hz2]; omega) (by omega)
      rw [← hM] at h
      simpa using h
    have hcp := Lib.run_copy_row_string (P := Tryz.prog) (w.alloc (.cells M 5)) 67 9 3 5 w.heap.size 0 s.size s.size s M 5 Tryz.underlying67 hinfo (heap_alloc_new w _) (Nat.le_refl _) (by omega)
    obtain ⟨Y, hY⟩ : ∃ Y, Y = (M.toList.take 0 ++ Lib.byteCells s.data.toList ++ M.toList.drop (0 + s.size)).toArray := ⟨_, rfl⟩
    rw [← hY] at hcp
    have hYl : Y.toList = Lib.byteCells s.data.toList := by
      rw [hY, List.toList_toArray, List.take_zero, List.nil_append, List.drop_of_length_le (by rw [Array.length_toList]; omega), List.append_nil]
    have hYs : Y.size = s.size := by rw [← Array.length_toList, hYl, Lib.byteCells_length, ← Lib.size_eq]
    have hgY : ((w.alloc (.cells M 5)).setRow w.heap.size Y).heap[w.heap.size]? = some (.cells Y 5 (0, 0)) := setRow_heap _ _ M _ 5 (0, 0) (heap_alloc_new w _)
    have hne : s.data.toList ≠ [] := fun e => h0 (by rw [Lib.size_eq, e]; rfl)
    have hUS := Lib.run_unsafeString_row (P := Tryz.prog) ((w.alloc (.cells M 5)).setRow w.heap.size Y) 205 3 9 5 Tryz.underlying205 hco w.heap.size Y.size (by unfold World.shape?; rw [hgY]) s.data.toList hne (by rw [← Lib.size_eq]; omega) (by rw [← Lib.size_eq]; omega)
      (fun j x hx => Lib.cells_of_row hgY Y.size j _ (by rw [List.take_of_length_le (by rw [Array.length_toList]; exact Nat.le_refl _), hYl]; simp [Lib.byteCells, hx]))
    rw [← Lib.size_eq] at hUS
    clear hY hM
    go_enter Tryz.func126, Tryz.ntmps126
    go_wp2_with fail
    go_ret
    have hb2 : Below w.heap.size (w.alloc (.cells M 5)) ((w.alloc (.cells M 5)).setRow w.heap.size Y) := ⟨rfl, rfl, rfl, by simp, fun k hk => setRow_other _ _ _ _ (by omega)⟩
    exact ⟨rfl, Lib.below_freeze ((below_alloc w _).trans hb2) (p := ⟨w.heap.size, 0, none⟩) (Nat.le_refl _) _⟩
theorem clone_any (s : ByteArray) (hs : s.size ≤ 4096) (w : World) :
    Calls Tryz.prog 78 #[.string s] w fun e w' => e = .returned (.string s) ∧ Below w.heap.size w w' := by
  have C := Lib.hid (sclone_any s hs)
  clear hs
  go_enter Tryz.func78, Tryz.ntmps78
  go_wp2_with (go_at_call 126; refine (C.out _).mono ?_; rintro e w1 ⟨rfl, hb⟩; have HB := Lib.hid hb; clear hb)
  go_ret
  exact ⟨rfl, HB.out⟩
end Go.Proofs.YtbikofedppgblaaGreat
