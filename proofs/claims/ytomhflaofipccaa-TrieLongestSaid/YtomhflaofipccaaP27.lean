/-
  strings.Clone, whole. Package trie: Next, Delete. Package trie: a new entry; Update.
-/
import Derived.Test.YtomhflaofipccaaP26
import Derived.BigQuiet
import Derived.Lib.UnsafeStr
import Derived.Lib.BufferWrite
import Derived.Lib.Strings
import Derived.Laws.MakeOwn
namespace Go.Proofs.Ytomhflaofipccaa
open Go Go.RowKit
set_option linter.unusedVariables false
set_option linter.unusedSimpArgs false
set_option maxRecDepth 100000
theorem infoB : (Try.prog.info? 5).map (fun i => (i.zero, i.size, i.bytes)) = some (some (.int .u8 0), 1, 1) := by kernel_rfl
theorem sclone_any (s : ByteArray) (hs : s.size ≤ 4096) (w : World) :
    Calls Try.prog 47 #[.string s] w fun e w' => e = .returned (.string s) ∧ Below w.heap.size w w' := by
  by_cases h0 : s.size = 0
  · have e : s = ⟨#[]⟩ := ByteArray.ext (Array.eq_empty_of_size_eq_zero h0)
    subst e
    go_enter Try.func47, Try.ntmps47
    go_wp2_with fail
    go_ret
    exact ⟨rfl, Below.refl _ _⟩
  · obtain ⟨i0, hi, hz0, hz1, hz2⟩ := info_parts infoB
    have hinfo : (Try.prog.info? 5).map (·.size) = some 1 := by rw [hi]; simp [hz1]
    have hco : Try.prog.cellsOf 5 = 1 := by kernel_rfl
    obtain ⟨M, hM⟩ : ∃ M, M = madeCells (Value.int .u8 0).cells ((s.size : Int).toNat * i0.size) := ⟨_, rfl⟩
    have hMs : M.size = s.size := by rw [hM, size_madeCells, hz1]; simp [Value.cells]
    have hmk : ∀ W : World, (Instr.makeSlice 42 (.int .i64 (s.size : Int)) (.int .i64 (s.size : Int))).run Try.prog W = .ok (.slice (some ⟨W.heap.size, 0, none⟩) s.size s.size) (W.alloc (.cells M 5)) := fun W => by
      have h := run_make (P := Try.prog) W 42 5 i0 (.int .u8 0) Try.underlying42 hi hz0 .i64 .i64 (s.size : Int) (s.size : Int) (by omega) (by omega) (by rw [hz2]; omega) (by omega)
      rw [← hM] at h
      simpa using h
    have hcp := Lib.run_copy_row_string (P := Try.prog) (w.alloc (.cells M 5)) 42 9 3 5 w.heap.size 0 s.size s.size s M 5 Try.underlying42 hinfo (heap_alloc_new w _) (Nat.le_refl _) (by omega)
    obtain ⟨Y, hY⟩ : ∃ Y, Y = (M.toList.take 0 ++ Lib.byteCells s.data.toList ++ M.toList.drop (0 + s.size)).toArray := ⟨_, rfl⟩
    rw [← hY] at hcp
    have hYl : Y.toList = Lib.byteCells s.data.toList := by
      rw [hY, List.toList_toArray, List.take_zero, List.nil_append, List.drop_of_length_le (by rw [Array.length_toList]; omega), List.append_nil]
    have hYs : Y.size = s.size := by rw [← Array.length_toList, hYl, Lib.byteCells_length, ← Lib.size_eq]
    have hgY : ((w.alloc (.cells M 5)).setRow w.heap.size Y).heap[w.heap.size]? = some (.cells Y 5 (0, 0)) := setRow_heap _ _ M _ 5 (0, 0) (heap_alloc_new w _)
    have hne : s.data.toList ≠ [] := fun e => h0 (by rw [Lib.size_eq, e]; rfl)
    have hUS := Lib.run_unsafeString_row (P := Try.prog) ((w.alloc (.cells M 5)).setRow w.heap.size Y) 107 3 9 5 Try.underlying107 hco w.heap.size Y.size (by unfold World.shape?; rw [hgY]) s.data.toList hne (by rw [← Lib.size_eq]; omega) (by rw [← Lib.size_eq]; omega)
      (fun j x hx => Lib.cells_of_row hgY Y.size j _ (by rw [List.take_of_length_le (by rw [Array.length_toList]; exact Nat.le_refl _), hYl]; simp [Lib.byteCells, hx]))
    rw [← Lib.size_eq] at hUS
    clear hY hM
    go_enter Try.func47, Try.ntmps47
    go_wp2_with fail
    go_ret
    have hb2 : Below w.heap.size (w.alloc (.cells M 5)) ((w.alloc (.cells M 5)).setRow w.heap.size Y) := ⟨rfl, rfl, rfl, by simp, fun k hk => setRow_other _ _ _ _ (by omega)⟩
    exact ⟨rfl, Lib.below_freeze (((Below.refl _ w).alloc (Nat.le_refl _) _).trans hb2) (p := ⟨w.heap.size, 0, none⟩) (Nat.le_refl _) _⟩
theorem clone_any (s : ByteArray) (hs : s.size ≤ 4096) (w : World) :
    Calls Try.prog 29 #[.string s] w fun e w' => e = .returned (.string s) ∧ Below w.heap.size w w' := by
  have C := Lib.hid (sclone_any s hs)
  clear hs
  go_enter Try.func29, Try.ntmps29
  go_wp2_with (go_at_call 47; refine (C.out _).mono ?_; rintro e w1 ⟨rfl, hb⟩; have HB := Lib.hid hb; clear hb)
  go_ret
  exact ⟨rfl, HB.out⟩
end Go.Proofs.Ytomhflaofipccaa
namespace Go.Proofs.Ytomhflaofipccaa
open Go Go.RowKit Go.Maps
set_option linter.unusedVariables false
set_option linter.unusedSimpArgs false
set_option maxRecDepth 100000
theorem Least.iff {P P' : ByteArray → Prop} {S : Ent → Prop} {o : Option ByteArray} (h : Least P S o) (hp : ∀ e, S e → (P e.key ↔ P' e.key)) : Least P' S o := by
  refine ⟨fun ho e he hpe => h.no ho e he ((hp e he).2 hpe), fun k hk => ?_⟩
  obtain ⟨⟨e, he, rfl, h1⟩, h2⟩ := h.yes k hk
  exact ⟨⟨e, he, rfl, (hp e he).1 h1⟩, fun e' he' hp' => h2 e' he' ((hp e' he').2 hp')⟩
section
variable {p : HPar} {w0 w w' : World} {P0 P U T T' : Nat → Prop} {s s' : HSt} {t t' : Tr}
set_option maxHeartbeats 1000000 in
/-- Next, from the least above the form that prefix tells. -/
theorem next_walk {x : Nat} {key : ByteArray} {f : ByteArray} {len : Nat} {ok : Bool} (hp : PreIs (tp x) key w f len ok) (R : World → Option (Nat × Ent) → Prop) (hR : ∀ W best, Qt w W → R W best → ∀ b e, best = some (b, e) → W.cell? ⟨b, 0, none⟩ = some (.string e.key) ∧ e.key.size ≤ 4096)
    (ha : ∀ W, Qt w W → Calls Try.prog 28 #[.pointer (some ⟨x, 5, none⟩), .string f] W fun e w' => ∃ best : Option (Nat × Ent), e = .returned (bestV best) ∧ R w' best ∧ Qt W w') :
    Calls Try.prog 16 #[tp x, .string key] w fun e w' => ∃ best : Option (Nat × Ent), (∃ W, Qt w W ∧ R W best) ∧ e = nextA (best.map fun q => q.2.key) ∧ Qt w w' := by
  unfold PreIs at hp
  have HP := Lib.hid hp; have HA := Lib.hid ha; have HR := Lib.hid hR
  clear hp ha hR
  go_enter Try.func16, Try.ntmps16
  go_upto_region 4 with (go_at_call 19; refine HP.out.mono ?_; rintro e w1 ⟨rfl, hq⟩; have HQ := Lib.hid hq; clear hq)
  have HB := Lib.hid (Blk.new w1 preT (preC f len))
  have HK : Hid (Qt w (w1.alloc (.cells (preC f len) preT))) := Lib.hid (HQ.out.alloc _)
  generalize hpb : w1.heap.size = pb at *
  generalize World.alloc w1 _ = W at HB HK ⊢
  clear hpb
  have HAd := Lib.hid (HA.out W.drew HK.out.drew)
  have S0 : Hid (W.cell? ⟨pb, 0, none⟩ = some (.string f)) := HB.out.cell 0
  go_region_held3 (fun U => U.cell? ⟨pb, 0, none⟩ = some (.string f))
    (first | exact S0.out | exact S1.out)
    (first | (go_at_call 28; refine HAd.out.mono ?_; rintro e w2 ⟨best, rfl, hr, hq2⟩; have S1 : Hid (w2.cell? ⟨pb, 0, none⟩ = some (.string f)) := (HB.out.drew.quiet hq2).cell 0; have HQ2 := Lib.hid (HK.out.then_ hq2.undrew); have HRR := Lib.hid hr; clear hr hq2))
  rcases best with _ | ⟨b, e⟩
  · rw [show bestV none = Value.pointer none from rfl]
    go_wp2_with fail
    go_ret2
    exact ⟨none, ⟨w2, HQ2.out, HRR.out⟩, rfl, HQ2.out⟩
  · rw [show bestV (some (b, e)) = tp b from rfl]
    obtain ⟨z0, hz⟩ := HR.out w2 _ HQ2.out HRR.out b e rfl
    have CC := Lib.hid (clone_any e.key hz)
    clear hz
    go_wp2_with (go_at_call 29; refine (CC.out _).mono ?_; rintro e' w3 ⟨rfl, hb3⟩; have HB3 := Lib.hid hb3; clear hb3)
    go_ret2
    exact ⟨some (b, e), ⟨w2, HQ2.out, HRR.out⟩, rfl, HQ2.out.then_ ⟨HB3.out.os, HB3.out.tape, HB3.out.output, HB3.out.size, fun k hk _ => HB3.out.block k hk⟩⟩
theorem PG.next (h : PG p w0 P0 s T t w) (ho : HOk p s) (key : ByteArray) : Calls Try.prog 16 #[tp p.x, .string key] w fun e w' => e = nextE p s key ∧ PG p w0 P0 s T t w' := by
  have go : ∀ (f : ByteArray) (len : Nat) (ok : Bool), PreIs (tp p.x) key w f len ok → (∀ e, e ∈ s.es → (gtS e.key f = true ↔ nextP p key e.key = true)) → Calls Try.prog 16 #[tp p.x, .string key] w fun e w' => e = nextE p s key ∧ PG p w0 P0 s T t w' := by
    intro f len ok hp hiff
    refine (next_walk hp (fun W best => Least (fun k => gtS k f = true) (fun e => e ∈ t.ents) (best.map fun q => q.2.key) ∧ (∀ b e, best = some (b, e) → t.has b e) ∧ Qt w W) (fun W best hq hr b e hb => ?_) (fun W hq => ?_)).mono ?_
    · obtain ⟨vl, vr, h3, _⟩ := Tr.At.has (h.at_.quiet hq) h.ok (hr.2.1 b e hb)
      obtain ⟨len', hp'⟩ := Tr.has_pre h.ok (hr.2.1 b e hb)
      exact ⟨h3.cell 0, by rw [hp'.sz]; have := hp'.k2; omega⟩
    · have hG := h.quiet hq
      refine (above_any (form := f) hG.ok hG.at_ (hG.map.cell 5) hG.map.lt).mono ?_
      rintro e w' ⟨best, rfl, h1, h2, h3⟩
      exact ⟨best, rfl, ⟨h1, h2, hq.then_ h3⟩, h3⟩
    · rintro e w' ⟨best, ⟨W, hq, h1, _, _⟩, rfl, hq2⟩
      refine ⟨?_, h.quiet hq2⟩
      unfold nextE
      congr 1
      have l1 : Least (fun k => nextP p key k = true) (fun e => e ∈ s.es) (best.map fun q => q.2.key) := (h1.congr h.dat).iff hiff
      exact l1.eq (nextTo_all (nextP p key) s.es)
  by_cases hk : IsKey p.key key
  · refine go _ _ _ (h.pre_yes ho.par hk) fun e he => ?_
    unfold nextP
    rw [decide_eq_true hk]
    simp
  · refine go _ _ _ (h.pre_no ho.par hk) fun e he => ?_
    unfold nextP
    rw [decide_eq_false hk, gtS_empty (by rw [(ho.of_mem he).2.1.sz]; have := ho.par.k1; omega)]
    simp
theorem above_empty {W : World} {x : Nat} {f : ByteArray} (hr : W.cell? ⟨x, 5, none⟩ = some (.pointer none)) (hx : x < W.heap.size) :
    Calls Try.prog 28 #[.pointer (some ⟨x, 5, none⟩), .string f] W fun e w' => e = .returned (.pointer none) ∧ Qt W w' := by
  refine (above_any (t := .nil) (K := 5) (form := f) trivial trivial hr hx).mono ?_
  rintro e w' ⟨best, rfl, h1, h2, h3⟩
  rcases best with _ | ⟨b, e⟩
  · exact ⟨rfl, h3⟩
  · exact (h2 b e rfl).elim
theorem PO.next (h : PO p w0 P0 s T w) (ho : HOk p s) (key : ByteArray) : Calls Try.prog 16 #[tp p.x, .string key] w fun e w' => e = nextE p s key ∧ PO p w0 P0 s T w' := by
  refine (next_walk (h.pre key) (fun W best => best = none) (fun W best hq hr b e hb => by rw [hr] at hb; cases hb) (fun W hq => ?_)).mono ?_
  · have hG := h.quiet hq
    refine (above_empty (hG.map.cell 5) hG.map.lt).mono ?_
    rintro e w' ⟨rfl, h3⟩
    exact ⟨none, rfl, rfl, h3⟩
  · rintro e w' ⟨best, ⟨W, hq, rfl⟩, rfl, hq2⟩
    refine ⟨?_, h.quiet hq2⟩
    unfold nextE
    rw [ho.gone h.gone]
    rfl
theorem ph_next (key : ByteArray) (ho : HOk p s) : FCallH PH p 16 #[tp p.x, .string key] s s (nextE p s key) := by
  refine PH.of (fun hg w P T t hG => ?_) (fun hg w P T hO => ?_)
  · refine (hG.next ho key).mono ?_
    rintro e w' ⟨rfl, h'⟩
    exact ⟨rfl, .inl ⟨T, t, h'⟩⟩
  · refine (hO.next ho key).mono ?_
    rintro e w' ⟨rfl, h'⟩
    exact ⟨rfl, T, h'⟩
/-! ### Delete -/
theorem del_bad {x : Value} {key : ByteArray} {f : ByteArray} {len : Nat} (hp : PreIs x key w f len false) : Calls Try.prog 15 #[x, .string key] w fun e w' => e = .returned (.int .i64 1) ∧ Qt w w' := by
  unfold PreIs at hp
  have HP := Lib.hid hp
  clear hp
  go_enter Try.func15, Try.ntmps15
  go_wp2_with (go_at_call 19; refine HP.out.mono ?_; rintro e w1 ⟨rfl, hq⟩; have HQ := Lib.hid hq; clear hq)
  go_ret
  exact ⟨rfl, HQ.out.alloc _⟩
set_option maxHeartbeats 2000000 in
theorem PG.del_none (h : PG p w0 P0 s T t w) (hp : p.Ok) {key : ByteArray} (hk : IsKey p.key key) (hres : t.findT (formB key) (lenB key) = none) :
    Calls Try.prog 15 #[tp p.x, .string key] w fun e w' => e = .returned (.int .i64 4) ∧ Qt w w' := by
  have HP : Hid (PreIs (tp p.x) key w (formB key) (lenB key) true) := Lib.hid (h.pre_yes hp hk)
  unfold PreIs at HP
  have hq := hk.pre hp.k1 hp.k2
  have HC := Lib.hid (fun W (hG : PG p w0 P0 s T t W) => find_tree (x := p.x) hq hG.ok hG.at_ (hG.map.cell 5) hG.map.lt)
  rw [hres] at HC
  have HC2 : Hid (∀ W, PG p w0 P0 s T t W → Calls Try.prog 20 #[.pointer (some ⟨p.x, 5, none⟩), preV (formB key) (lenB key)] W fun e w' => e = .returned (.pointer none) ∧ Qt W w') := HC
  have H := Lib.hid h
  clear h hp hk hq hres HC
  generalize formB key = f at *
  generalize lenB key = len at *
  go_enter Try.func15, Try.ntmps15
  go_upto_region 4 with (go_at_call 19; refine HP.out.mono ?_; rintro e w1 ⟨rfl, hq⟩; have HQ := Lib.hid hq; clear hq)
  have HB := Lib.hid (Blk.new w1 preT (preC f len))
  have HK : Hid (Qt w (w1.alloc (.cells (preC f len) preT))) := Lib.hid (HQ.out.alloc _)
  generalize hpb : w1.heap.size = pb at *
  generalize World.alloc w1 _ = W at HB HK ⊢
  clear hpb
  have HGd := Lib.hid ((H.out.quiet HK.out).drew)
  have S0 : Hid (W.cell? ⟨pb, 0, none⟩ = some (.string f) ∧ W.cell? ⟨pb, 1, none⟩ = some (.int .i64 len)) := ⟨HB.out.cell 0, HB.out.cell 1⟩
  go_region_held3 (fun U => U.cell? ⟨pb, 0, none⟩ = some (.string f) ∧ U.cell? ⟨pb, 1, none⟩ = some (.int .i64 len))
    (first | exact S0.out | exact S1.out)
    (first | (go_at_call 20; refine (HC2.out _ HGd.out).mono ?_; rintro e w2 ⟨rfl, hq2⟩; have hb2 := HB.out.drew.quiet hq2; have S1 : Hid (w2.cell? ⟨pb, 0, none⟩ = some (.string f) ∧ w2.cell? ⟨pb, 1, none⟩ = some (.int .i64 len)) := ⟨hb2.cell 0, hb2.cell 1⟩; have HQ2 := Lib.hid hq2.undrew; clear hq2 hb2))
  go_wp2_with fail
  go_ret
  exact ⟨rfl, HK.out.then_ HQ2.out⟩
/-- An entry is out of the tree: the table. -/
theorem PG.cut_ {s1 : HSt} (h : PG p w0 P0 s1 T t w) (ho : HOk p s) (hes : s1.es = s.es) {i : Nat} {e : Ent} (he : s.es[i]? = some e) (hm : s1.m = s'.m) (hse : s'.es = s.es.eraseIdx i) (hsg : s'.gone = s1.gone) (at' : (t.drop e.key (lenB e.key)).At w') (map' : Blk w' p.x mapT (mapC (tp p.bm) p.k p.key p.v p.mx (t.drop e.key (lenB e.key)).ptr ((s.es.length - 1 : Nat) : Int))) (kk : Keeps (fun b => b = p.x ∨ b ∈ t.blocks) w w') : PG p w0 P0 s' T (t.drop e.key (lenB e.key)) w' := by
  have hpre := (ho.ent i e he).2.1
  have hdat : ∀ x, x ∈ t.ents ↔ x ∈ s.es := fun x => by rw [h.dat x, hes]
  have hmem := (hdat e).2 (List.mem_of_getElem? he)
  have hlen : s'.es.length = s.es.length - 1 := by
    rw [hse, List.length_eraseIdx, if_pos (List.getElem?_eq_some_iff.1 he).1]
  refine h.local_ (s' := s') hm.symm hsg kk ?_ (by rw [hlen]; exact map') at' (Tr.drop_ok hpre h.ok).1 (h.nd.sublist Tr.drop_sub) (fun x => ?_) (fun b hb => .inr (Tr.drop_sub.subset hb))
  · rintro b (rfl | hb)
    · exact ⟨h.tx, .inl h.px⟩
    · exact ⟨(h.entp b hb).2, (h.entp b hb).1⟩
  · rw [Tr.drop_ents hpre h.ok hmem rfl x, hse, mem_cut ho he x, hdat x]
set_option maxHeartbeats 4000000 in
theorem PG.del_yes (h : PG p w0 P0 s T t w) (ho : HOk p s) {key : ByteArray} (hk : IsKey p.key key) {i : Nat} {e : Ent} (he : s.es[i]? = some e) (hek : e.key = formB key) {b : Nat} (hres : t.findT (formB key) (lenB key) = some (b, e)) (hb : t.has b e) (q : RV) (hq : s.m.vs e.n = some q) (hr : q.2.2 = false) :
    Calls Try.prog 15 #[tp p.x, .string key] w fun e' w' => e' = .returned (.int .i64 0) ∧ ∃ T' t', PG p w0 P0 (s.cut i e q) T' t' w' := by
  have HP : Hid (PreIs (tp p.x) key w (formB key) (lenB key) true) := Lib.hid (h.pre_yes ho.par hk)
  unfold PreIs at HP
  have hpre := hk.pre ho.par.k1 ho.par.k2
  have HC := Lib.hid (fun W (hG : PG p w0 P0 s T t W) => find_tree (x := p.x) hpre hG.ok hG.at_ (hG.map.cell 5) hG.map.lt)
  rw [hres] at HC
  have HC2 : Hid (∀ W, PG p w0 P0 s T t W → Calls Try.prog 20 #[.pointer (some ⟨p.x, 5, none⟩), preV (formB key) (lenB key)] W fun e w' => e = .returned (tp b) ∧ Qt W w') := HC
  have hlk : lenB e.key = lenB key := by rw [hek]; exact hpre.len
  have hlt := (List.getElem?_eq_some_iff.1 he).1
  have hl1 : s.es.length - 1 + 1 = s.es.length := by omega
  have HCR := Lib.hid (fun W (hG : PG p w0 P0 s T t W) => hG.call (k_retire p.bm s.m e.n q hq hr))
  have hmem : ∀ W T2, PG p w0 P0 { s with m := s.m.set e.n (some (q.1, q.2.1, true)) } T2 t W → Calls Try.prog 27 #[.pointer (some ⟨p.x, 5, none⟩), preV (formB key) (lenB key)] W fun e' w' => e' = .returned (.tuple #[]) ∧ PG p w0 P0 (s.cut i e q) T2 (t.drop e.key (lenB e.key)) w' := fun W T2 hG => by
    have hm2 := hG.map
    have e2 : ({ s with m := s.m.set e.n (some (q.1, q.2.1, true)) } : HSt).es.length = s.es.length - 1 + 1 := hl1.symm
    rw [e2] at hm2
    refine (tree_drop (c := s.es.length - 1) hpre hG.ok ((hG.dat e).2 (List.mem_of_getElem? he)) hek hG.nd hG.at_ hm2 (by have := ho.le; omega)).mono ?_
    rintro e' w' ⟨rfl, g1, g2, g3⟩
    rw [← hek, ← hlk] at g1 g2
    exact ⟨rfl, hG.cut_ (s' := s.cut i e q) ho rfl he rfl rfl rfl g1 g2 g3⟩
  have HD := Lib.hid hmem
  have HBN := Lib.hid (fun W (hG : PG p w0 P0 s T t W) => (by obtain ⟨vl, vr, h3, _⟩ := Tr.At.has hG.at_ hG.ok hb; exact h3.cell 2 : W.cell? ⟨b, 2, none⟩ = some (.int .u64 (addr e.n 0))))
  have HBN2 := Lib.hid (fun W s2 T2 (hG : PG p w0 P0 s2 T2 t W) => (by obtain ⟨vl, vr, h3, _⟩ := Tr.At.has hG.at_ hG.ok hb; exact h3.cell 2 : W.cell? ⟨b, 2, none⟩ = some (.int .u64 (addr e.n 0))))
  have H := Lib.hid h
  clear h ho hk he hek hres hb hq hr hpre hlk hlt hl1 hmem HC
  generalize formB key = f at *
  generalize lenB key = len at *
  go_enter Try.func15, Try.ntmps15
  go_upto_region 4 with (go_at_call 19; refine HP.out.mono ?_; rintro e' w1 ⟨rfl, hq⟩; have HQ := Lib.hid hq; clear hq)
  have HB := Lib.hid (Blk.new w1 preT (preC f len))
  have HK : Hid (Qt w (w1.alloc (.cells (preC f len) preT))) := Lib.hid (HQ.out.alloc _)
  have HZ : Hid (w.heap.size ≤ w1.heap.size) := HQ.out.size
  generalize hpb : w1.heap.size = pb at *
  generalize World.alloc w1 _ = W at HB HK ⊢
  clear hpb
  have HGd := Lib.hid ((H.out.quiet HK.out).drew)
  have S0 : Hid (W.cell? ⟨pb, 0, none⟩ = some (.string f) ∧ W.cell? ⟨pb, 1, none⟩ = some (.int .i64 len)) := ⟨HB.out.cell 0, HB.out.cell 1⟩
  go_region_held3 (fun U => U.cell? ⟨pb, 0, none⟩ = some (.string f) ∧ U.cell? ⟨pb, 1, none⟩ = some (.int .i64 len))
    (first | exact S0.out | exact S1.out)
    (first | (go_at_call 20; refine (HC2.out _ HGd.out).mono ?_; rintro e' w2 ⟨rfl, hq2⟩; have hb2 := HB.out.drew.quiet hq2; have S1 : Hid (w2.cell? ⟨pb, 0, none⟩ = some (.string f) ∧ w2.cell? ⟨pb, 1, none⟩ = some (.int .i64 len)) := ⟨hb2.cell 0, hb2.cell 1⟩; have HQ2 := Lib.hid hq2.undrew; have HB2 := Lib.hid hb2; clear hq2 hb2))
  have HG2 := Lib.hid (H.out.quiet (HK.out.then_ HQ2.out))
  clear HGd S0 S1 HB HK HQ2
  go_upto_region 7 with fail
  have HT : Hid (¬ T pb) := by
    have h1 := HZ.out
    have h2 := fun ht => H.out.side.lt' pb ht
    exact Lib.hid (fun ht => by have := h2 ht; omega)
  have CR := Lib.hid (HCR.out _ HG2.out.drew)
  have S3 : Hid (w2.cell? ⟨p.x, 0, none⟩ = some (tp p.bm) ∧ w2.cell? ⟨b, 2, none⟩ = some (.int .u64 (addr e.n 0))) := ⟨HG2.out.map.cell 0, HBN.out _ HG2.out⟩
  go_region_held3 (fun U => U.cell? ⟨p.x, 0, none⟩ = some (tp p.bm) ∧ U.cell? ⟨b, 2, none⟩ = some (.int .u64 (addr e.n 0)))
    (first | exact S3.out | exact S4.out)
    (first | (go_at_call 26; refine CR.out.mono ?_; rintro e' w3 ⟨rfl, T3, hG3, k3⟩; have S4 : Hid (w3.cell? ⟨p.x, 0, none⟩ = some (tp p.bm) ∧ w3.cell? ⟨b, 2, none⟩ = some (.int .u64 (addr e.n 0))) := ⟨hG3.map.cell 0, HBN2.out _ _ _ hG3⟩; have HB3 := Lib.hid (HB2.out.keeps k3.undrew HT.out); have HG3 := Lib.hid hG3; clear hG3 k3))
  have CD := Lib.hid (HD.out _ _ HG3.out.drew)
  clear S3 S4 HB2 HG2 HBN HBN2 HCR CR
  go_upto_region 8 with fail
  have q0 : w3.cell? ⟨pb, 0, none⟩ = some (.string f) := HB3.out.cell 0
  have q1 : w3.cell? ⟨pb, 1, none⟩ = some (.int .i64 len) := HB3.out.cell 1
  go_region_law (first
    | (go_simp; go_at_call 27; refine CD.out.mono ?_; rintro e' w4 ⟨rfl, hG4⟩; have HG4 := Lib.hid hG4; clear hG4))
  all_goals go_wp2_with fail
  all_goals go_ret
  all_goals exact ⟨rfl, T3, _, HG4.out⟩
theorem ph_del (key : ByteArray) (ho : HOk p s) : FCallH PH p 15 #[tp p.x, .string key] s (delS p s key) (.returned (.int .i64 (delA p s key))) := by
  refine PH.of (fun hg w P T t hG => ?_) (fun hg w P T hO => ?_)
  · by_cases hk : IsKey p.key key
    · have hb : ¬ delBad p s key := by
        rintro (h1 | h1)
        · rw [hg] at h1; cases h1
        · exact h1 hk
      have hq := hk.pre ho.par.k1 ho.par.k2
      rcases findT_spec hq hG.ok with ⟨h1, h2⟩ | ⟨b, e, h1, h2, h3, h4⟩
      · have hf : findE s.es (formB key) = none := by
          rcases hf : findE s.es (formB key) with _ | i
          · rfl
          · obtain ⟨e, he, hek⟩ := found hf
            exact absurd hek (h2 e ((hG.dat e).2 (List.mem_of_getElem? he)))
        rw [show delS p s key = s by unfold delS; rw [if_neg hb, hf]; rfl, show delA p s key = 4 by unfold delA; rw [if_neg hb, hf]; rfl]
        refine (hG.del_none ho.par hk h1).mono ?_
        rintro e w' ⟨rfl, hq2⟩
        exact ⟨rfl, .inl ⟨_, _, hG.quiet hq2⟩⟩
      · obtain ⟨i, hi, hie⟩ : ∃ i, findE s.es (formB key) = some i ∧ s.es[i]? = some e := by
          rcases hf : findE s.es (formB key) with _ | i
          · obtain ⟨j, hj, hje⟩ := List.getElem_of_mem ((hG.dat e).1 h3)
            have := findE_none_key hf (by rw [List.getElem?_eq_getElem hj, hje] : s.es[j]? = some e)
            rw [keyB_no] at this
            exact absurd h4 this
          · obtain ⟨e', he', hek'⟩ := found hf
            refine ⟨i, rfl, ?_⟩
            rw [he', ho.one (List.mem_of_getElem? he') ((hG.dat e).1 h3) (hek'.trans h4.symm)]
        obtain ⟨_, _, bb, hvs, _⟩ := ho.ent i e hie
        rw [show delS p s key = s.cut i e (3, bb, false) by unfold delS; rw [if_neg hb, hi]; exact rem_eq hie hvs, show delA p s key = 0 by unfold delA; rw [if_neg hb, hi]; rfl]
        refine (hG.del_yes ho hk hie h4 h1 h2 _ hvs rfl).mono ?_
        rintro e' w' ⟨rfl, T', t', h'⟩
        exact ⟨rfl, .inl ⟨T', t', h'⟩⟩
    · have hb : delBad p s key := .inr hk
      rw [show delS p s key = s by unfold delS; rw [if_pos hb], show delA p s key = 1 by unfold delA; rw [if_pos hb]]
      refine (del_bad (hG.pre_no ho.par hk)).mono ?_
      rintro e w' ⟨rfl, hq2⟩
      exact ⟨rfl, .inl ⟨_, _, hG.quiet hq2⟩⟩
  · have hb : delBad p s key := .inl hg
    rw [show delS p s key = s by unfold delS; rw [if_pos hb], show delA p s key = 1 by unfold delA; rw [if_pos hb]]
    refine (del_bad (hO.pre key)).mono ?_
    rintro e w' ⟨rfl, hq2⟩
    exact ⟨rfl, _, hO.quiet hq2⟩
end
end Go.Proofs.Ytomhflaofipccaa
namespace Go.Proofs.Ytomhflaofipccaa
open Go Go.RowKit Go.Maps
set_option linter.unusedVariables false
set_option linter.unusedSimpArgs false
set_option maxRecDepth 100000
section
variable {p : HPar} {w0 w w' : World} {P0 P U T T' : Nat → Prop} {s s' : HSt} {t t' : Tr}
/-- An entry comes into the tree. -/
theorem PG.tree_in (h : PG p w0 P0 s T t w) (hl : s.es.length ≤ 4096) {pf : ByteArray} {pl n : Nat} (hq : Pre p.key pf pl) (hn : n ≠ 0) (hf : ∀ e, e ∈ s.es → e.key ≠ pf) :
    Calls Try.prog 36 #[.pointer (some ⟨p.x, 5, none⟩), preV pf pl, .int .u64 (addr n 0)] w fun e w' => e = .returned (.tuple #[]) ∧ ∃ t', PG p w0 P0 { s with es := s.es ++ [⟨pf, n⟩] } T t' w' := by
  refine (tree_add (c := s.es.length) hq h.ok h.nd h.at_ h.map hl).mono ?_
  rintro e w' ⟨rfl, nb, nb2, h1, h2, h3, h4, h5, h6⟩
  have nn : ∀ b, w.heap.size ≤ b → b ∉ t.blocks := fun b hb hm => by have := h.bl hm; omega
  refine ⟨rfl, t.add pf pl n nb nb2, h.local_ (s' := { s with es := s.es ++ [⟨pf, n⟩] }) rfl rfl h6 ?_ ?_ h4 (Tr.add_ok hq h.ok).1 (Tr.add_nodup h1 h.nd (nn nb h2) (nn nb2 h3)) (fun x => ?_) (fun b hb => ?_)⟩
  · rintro b (rfl | hb)
    · exact ⟨h.tx, .inl h.px⟩
    · exact ⟨(h.entp b hb).2, (h.entp b hb).1⟩
  · show Blk w' p.x mapT (mapC (tp p.bm) p.k p.key p.v p.mx _ ((s.es ++ [_]).length : Nat))
    rw [List.length_append]
    exact h5
  · rw [Tr.add_ents hq hn h.ok (fun x hx => hf x ((h.dat x).1 hx)) x, h.dat x]
    show _ ↔ x ∈ s.es ++ [⟨pf, n⟩]
    rw [List.mem_append, List.mem_singleton]
    exact or_comm
  · rcases Tr.add_blocks hb with q | rfl | rfl
    · exact .inr q
    · exact .inl h2
    · exact .inl h3
set_option maxHeartbeats 2000000 in
theorem PG.add_mem (h : PG p w0 P0 s T t w) (hp : p.Ok) {pf : ByteArray} {pl : Nat} (value : ByteArray) (hf : s.m.fail = 1) :
    Calls Try.prog 22 #[tp p.x, preV pf pl, .string value] w fun e w' => e = .returned (.int .i64 2) ∧ ∃ T' t', PG p w0 P0 { s with m := { s.m with fail := 0 } } T' t' w' := by
  have hk : Qt w (w.alloc (.cells (preC pf pl) preT)) := (Keeps.refl _ w).alloc _
  have HG := Lib.hid (h.quiet hk)
  have v1 := hp.v1
  have v2 := hp.v2
  have CA := Lib.hid ((h.quiet hk).drew.call (k_alloc_no p.bm s.m hf p.v v1 (by omega)))
  have S0 : Hid ((w.alloc (.cells (preC pf pl) preT)).cell? ⟨p.x, 0, none⟩ = some (tp p.bm) ∧ (w.alloc (.cells (preC pf pl) preT)).cell? ⟨p.x, 3, none⟩ = some (.int .i64 p.v)) := ⟨HG.out.map.cell 0, HG.out.map.cell 3⟩
  clear h hf hp hk
  go_enter Try.func22, Try.ntmps22
  go_upto_region 1 with fail
  go_region_held3 (fun U => U.cell? ⟨p.x, 0, none⟩ = some (tp p.bm) ∧ U.cell? ⟨p.x, 3, none⟩ = some (.int .i64 p.v))
    (first | exact S0.out | exact S1.out)
    (first | (go_at_call 35; refine CA.out.mono ?_; rintro e w1 ⟨rfl, T1, h1, _⟩; have S1 : Hid (w1.cell? ⟨p.x, 0, none⟩ = some (tp p.bm) ∧ w1.cell? ⟨p.x, 3, none⟩ = some (.int .i64 p.v)) := ⟨h1.map.cell 0, h1.map.cell 3⟩; have H1 := Lib.hid h1; clear h1))
  go_wp2_with fail
  go_ret
  exact ⟨rfl, T1, t, H1.out⟩
set_option maxHeartbeats 4000000 in
theorem PG.add_new (h : PG p w0 P0 s T t w) (ho : HOk p s) {pf : ByteArray} {pl : Nat} (hq : Pre p.key pf pl) (l : List UInt8) (hl : l.length = p.v) (hf : s.m.fail ≠ 1) (hm : s.m.made < 4095) (hfr : ∀ e, e ∈ s.es → e.key ≠ pf) :
    Calls Try.prog 22 #[tp p.x, preV pf pl, .string (bstr l)] w fun e w' => e = .returned (.int .i64 0) ∧ ∃ T' t', PG p w0 P0 (s.insert p pf l) T' t' w' := by
  have hk : Qt w (w.alloc (.cells (preC pf pl) preT)) := (Keeps.refl _ w).alloc _
  have hb := Blk.new w preT (preC pf pl)
  have HG := Lib.hid (h.quiet hk)
  have HB := Lib.hid hb.drew
  have v1 := ho.par.v1
  have v2 := ho.par.v2
  have hle := ho.le
  have HT : Hid (¬ T w.heap.size) := Lib.hid (fun ht => by have := h.side.lt' _ ht; omega)
  have CA := Lib.hid ((h.quiet hk).drew.call (k_alloc p.bm s.m hf hm p.v v1 (by omega)))
  have CT := Lib.hid (fun W T1 (h1 : PG p w0 P0 { s with m := s.m.grown p.v } T1 t W) => h1.tree_in (n := s.m.made + 1) hle hq (by omega) hfr)
  have CP := Lib.hid (fun W T1 t1 (h1 : PG p w0 P0 { s with m := s.m.grown p.v, es := s.es ++ [⟨pf, s.m.made + 1⟩] } T1 t1 W) => h1.call (k_put p.bm (s.m.grown p.v) (s.m.made + 1) (by omega) (3, List.replicate p.v 0, false) (updv_same _ _ _) l (by omega) (by show l.length ≤ (List.replicate p.v (0 : UInt8)).length; rw [List.length_replicate]; omega)))
  have S0 : Hid ((w.alloc (.cells (preC pf pl) preT)).cell? ⟨p.x, 0, none⟩ = some (tp p.bm) ∧ (w.alloc (.cells (preC pf pl) preT)).cell? ⟨p.x, 3, none⟩ = some (.int .i64 p.v)) := ⟨HG.out.map.cell 0, HG.out.map.cell 3⟩
  clear h ho hf hm hk hb hfr hq hl
  generalize addr (s.m.made + 1) 0 = A at *
  go_enter Try.func22, Try.ntmps22
  go_upto_region 1 with fail
  go_region_held3 (fun U => U.cell? ⟨p.x, 0, none⟩ = some (tp p.bm) ∧ U.cell? ⟨p.x, 3, none⟩ = some (.int .i64 p.v))
    (first | exact S0.out | exact S1.out)
    (first | (go_at_call 35; refine CA.out.mono ?_; rintro e w1 ⟨rfl, T1, h1, k1⟩; have S1 : Hid (w1.cell? ⟨p.x, 0, none⟩ = some (tp p.bm) ∧ w1.cell? ⟨p.x, 3, none⟩ = some (.int .i64 p.v)) := ⟨h1.map.cell 0, h1.map.cell 3⟩; have HB1 := Lib.hid (HB.out.keeps k1 HT.out); have H1 := Lib.hid h1; clear h1 k1))
  go_upto_region 4 with fail
  have q0 : w1.cell? ⟨w.heap.size, 0, none⟩ = some (.string pf) := HB1.out.cell 0
  have q1 : w1.cell? ⟨w.heap.size, 1, none⟩ = some (.int .i64 pl) := HB1.out.cell 1
  have CT2 := Lib.hid (CT.out _ _ H1.out.drew)
  clear S0 S1
  go_region_law (first
    | (go_simp; go_at_call 36; refine CT2.out.mono ?_; rintro e w2 ⟨rfl, t2, h2⟩; have z0 : w2.cell? ⟨p.x, 0, none⟩ = some (tp p.bm) := h2.map.cell 0; have H2 := Lib.hid h2; clear h2))
  all_goals
    have CP2 := Lib.hid (CP.out _ _ _ H2.out)
    go_wp2_with (go_at_call 21; refine CP2.out.mono ?_; rintro e w3 ⟨rfl, T3, h3, _⟩; have H3 := Lib.hid h3; clear h3)
    go_ret
    exact ⟨rfl, T3, t2, H3.out⟩
theorem upd_bad {x : Value} {key value : ByteArray} {fl : Int} {f : ByteArray} {len : Nat} (hp : PreIs x key w f len false) : Calls Try.prog 9 #[x, .string key, .string value, .int .i64 fl] w fun e w' => e = .returned (.int .i64 1) ∧ Qt w w' := by
  unfold PreIs at hp
  have HP := Lib.hid hp
  clear hp
  go_enter Try.func9, Try.ntmps9
  go_wp2_with (go_at_call 19; refine HP.out.mono ?_; rintro e w1 ⟨rfl, hq⟩; have HQ := Lib.hid hq; clear hq)
  go_ret
  exact ⟨rfl, HQ.out.alloc _⟩
set_option maxHeartbeats 1000000 in
theorem PG.upd_args (h : PG p w0 P0 s T t w) (hp : p.Ok) {key value : ByteArray} {fl : Int} (hk : IsKey p.key key) (hbad : value.size ≠ p.v ∨ fl < 0 ∨ 2 < fl) :
    Calls Try.prog 9 #[tp p.x, .string key, .string value, .int .i64 fl] w fun e w' => e = .returned (.int .i64 1) ∧ Qt w w' := by
  have HP : Hid (PreIs (tp p.x) key w (formB key) (lenB key) true) := Lib.hid (h.pre_yes hp hk)
  unfold PreIs at HP
  have H := Lib.hid h
  clear h hp hk
  generalize formB key = f at *
  generalize lenB key = len at *
  by_cases h1 : value.size = p.v
  · have b1 : ((value.size : Int) != (p.v : Int)) = false := by simp; omega
    by_cases h2 : fl < 0
    · have b2 : decide (fl < 0) = true := by simpa using h2
      clear hbad h1 h2
      go_enter Try.func9, Try.ntmps9
      go_wp2_with (go_at_call 19; refine HP.out.mono ?_; rintro e w1 ⟨rfl, hq⟩; have y3 : (w1.alloc (.cells (preC f len) preT)).cell? ⟨p.x, 3, none⟩ = some (.int .i64 p.v) := (H.out.quiet (hq.alloc _)).map.cell 3; have HQ := Lib.hid hq; clear hq)
      go_ret
      exact ⟨rfl, HQ.out.alloc _⟩
    · have b2 : decide (fl < 0) = false := by simpa using h2
      have b3 : decide (2 < fl) = true := by simp; omega
      clear hbad h1 h2
      go_enter Try.func9, Try.ntmps9
      go_wp2_with (go_at_call 19; refine HP.out.mono ?_; rintro e w1 ⟨rfl, hq⟩; have y3 : (w1.alloc (.cells (preC f len) preT)).cell? ⟨p.x, 3, none⟩ = some (.int .i64 p.v) := (H.out.quiet (hq.alloc _)).map.cell 3; have HQ := Lib.hid hq; clear hq)
      go_ret
      exact ⟨rfl, HQ.out.alloc _⟩
  · have b1 : ((value.size : Int) != (p.v : Int)) = true := by simp; omega
    clear hbad h1
    go_enter Try.func9, Try.ntmps9
    go_wp2_with (go_at_call 19; refine HP.out.mono ?_; rintro e w1 ⟨rfl, hq⟩; have y3 : (w1.alloc (.cells (preC f len) preT)).cell? ⟨p.x, 3, none⟩ = some (.int .i64 p.v) := (H.out.quiet (hq.alloc _)).map.cell 3; have HQ := Lib.hid hq; clear hq)
    go_ret
    exact ⟨rfl, HQ.out.alloc _⟩
set_option maxHeartbeats 4000000 in
theorem PG.upd_exists (h : PG p w0 P0 s T t w) (hp : p.Ok) {key value : ByteArray} {fl : Int} (hk : IsKey p.key key) (hv : value.size = p.v) (h0 : 0 ≤ fl) (h2 : fl ≤ 2) {e : Ent} {b : Nat} (hres : t.findT (formB key) (lenB key) = some (b, e)) (hfl : fl = 1) :
    Calls Try.prog 9 #[tp p.x, .string key, .string value, .int .i64 fl] w fun e' w' => e' = .returned (.int .i64 5) ∧ Qt w w' := by
  have HP : Hid (PreIs (tp p.x) key w (formB key) (lenB key) true) := Lib.hid (h.pre_yes hp hk)
  unfold PreIs at HP
  have hpre := hk.pre hp.k1 hp.k2
  have HC := Lib.hid (fun W (hG : PG p w0 P0 s T t W) => find_tree (x := p.x) hpre hG.ok hG.at_ (hG.map.cell 5) hG.map.lt)
  rw [hres] at HC
  have HC2 : Hid (∀ W, PG p w0 P0 s T t W → Calls Try.prog 20 #[.pointer (some ⟨p.x, 5, none⟩), preV (formB key) (lenB key)] W fun e w' => e = .returned (tp b) ∧ Qt W w') := HC
  have b1 : ((value.size : Int) != (p.v : Int)) = false := by simp; omega
  have b2 : decide (fl < 0) = false := by simp; omega
  have b3 : decide (2 < fl) = false := by simp; omega
  have b5 : (fl == 1) = true := by simp; exact hfl
  clear hfl
  have H := Lib.hid h
  clear h hp hk hres hpre HC hv h0 h2
  generalize formB key = f at *
  generalize lenB key = len at *
  go_enter Try.func9, Try.ntmps9
  go_upto_region 4 with (go_at_call 19; refine HP.out.mono ?_; rintro e' w1 ⟨rfl, hq⟩; have y3 : (w1.alloc (.cells (preC f len) preT)).cell? ⟨p.x, 3, none⟩ = some (.int .i64 p.v) := (H.out.quiet (hq.alloc _)).map.cell 3; have HQ := Lib.hid hq; clear hq)
  have HB := Lib.hid (Blk.new w1 preT (preC f len))
  have HK : Hid (Qt w (w1.alloc (.cells (preC f len) preT))) := Lib.hid (HQ.out.alloc _)
  clear y3
  generalize hpb : w1.heap.size = pb at *
  generalize World.alloc w1 _ = W at HB HK ⊢
  clear hpb
  have HGd := Lib.hid ((H.out.quiet HK.out).drew)
  have S0 : Hid (W.cell? ⟨pb, 0, none⟩ = some (.string f) ∧ W.cell? ⟨pb, 1, none⟩ = some (.int .i64 len)) := ⟨HB.out.cell 0, HB.out.cell 1⟩
  go_region_held3 (fun U => U.cell? ⟨pb, 0, none⟩ = some (.string f) ∧ U.cell? ⟨pb, 1, none⟩ = some (.int .i64 len))
    (first | exact S0.out | exact S1.out)
    (first | (go_at_call 20; refine (HC2.out _ HGd.out).mono ?_; rintro e' w2 ⟨rfl, hq2⟩; have hb2 := HB.out.drew.quiet hq2; have S1 : Hid (w2.cell? ⟨pb, 0, none⟩ = some (.string f) ∧ w2.cell? ⟨pb, 1, none⟩ = some (.int .i64 len)) := ⟨hb2.cell 0, hb2.cell 1⟩; have HQ2 := Lib.hid hq2.undrew; have HB2 := Lib.hid hb2; clear hq2 hb2))
  have HK2 := Lib.hid (HK.out.then_ HQ2.out)
  have HG2 := Lib.hid (H.out.quiet HK2.out)
  clear HGd S0 S1 HB HK HQ2
  go_wp2_with fail
  go_ret
  exact ⟨rfl, HK2.out⟩
set_option maxHeartbeats 4000000 in
theorem PG.upd_noneE (h : PG p w0 P0 s T t w) (hp : p.Ok) {key value : ByteArray} {fl : Int} (hk : IsKey p.key key) (hv : value.size = p.v) (h0 : 0 ≤ fl) (h2 : fl ≤ 2) (hres : t.findT (formB key) (lenB key) = none) (hfl : fl = 2) :
    Calls Try.prog 9 #[tp p.x, .string key, .string value, .int .i64 fl] w fun e' w' => e' = .returned (.int .i64 4) ∧ Qt w w' := by
  have HP : Hid (PreIs (tp p.x) key w (formB key) (lenB key) true) := Lib.hid (h.pre_yes hp hk)
  unfold PreIs at HP
  have hpre := hk.pre hp.k1 hp.k2
  have HC := Lib.hid (fun W (hG : PG p w0 P0 s T t W) => find_tree (x := p.x) hpre hG.ok hG.at_ (hG.map.cell 5) hG.map.lt)
  rw [hres] at HC
  have HC2 : Hid (∀ W, PG p w0 P0 s T t W → Calls Try.prog 20 #[.pointer (some ⟨p.x, 5, none⟩), preV (formB key) (lenB key)] W fun e w' => e = .returned (.pointer none) ∧ Qt W w') := HC
  have b1 : ((value.size : Int) != (p.v : Int)) = false := by simp; omega
  have b2 : decide (fl < 0) = false := by simp; omega
  have b3 : decide (2 < fl) = false := by simp; omega
  have b5 : (fl == 2) = true := by simp; exact hfl
  clear hfl
  have H := Lib.hid h
  clear h hp hk hres hpre HC hv h0 h2
  generalize formB key = f at *
  generalize lenB key = len at *
  go_enter Try.func9, Try.ntmps9
  go_upto_region 4 with (go_at_call 19; refine HP.out.mono ?_; rintro e' w1 ⟨rfl, hq⟩; have y3 : (w1.alloc (.cells (preC f len) preT)).cell? ⟨p.x, 3, none⟩ = some (.int .i64 p.v) := (H.out.quiet (hq.alloc _)).map.cell 3; have HQ := Lib.hid hq; clear hq)
  have HB := Lib.hid (Blk.new w1 preT (preC f len))
  have HK : Hid (Qt w (w1.alloc (.cells (preC f len) preT))) := Lib.hid (HQ.out.alloc _)
  clear y3
  generalize hpb : w1.heap.size = pb at *
  generalize World.alloc w1 _ = W at HB HK ⊢
  clear hpb
  have HGd := Lib.hid ((H.out.quiet HK.out).drew)
  have S0 : Hid (W.cell? ⟨pb, 0, none⟩ = some (.string f) ∧ W.cell? ⟨pb, 1, none⟩ = some (.int .i64 len)) := ⟨HB.out.cell 0, HB.out.cell 1⟩
  go_region_held3 (fun U => U.cell? ⟨pb, 0, none⟩ = some (.string f) ∧ U.cell? ⟨pb, 1, none⟩ = some (.int .i64 len))
    (first | exact S0.out | exact S1.out)
    (first | (go_at_call 20; refine (HC2.out _ HGd.out).mono ?_; rintro e' w2 ⟨rfl, hq2⟩; have hb2 := HB.out.drew.quiet hq2; have S1 : Hid (w2.cell? ⟨pb, 0, none⟩ = some (.string f) ∧ w2.cell? ⟨pb, 1, none⟩ = some (.int .i64 len)) := ⟨hb2.cell 0, hb2.cell 1⟩; have HQ2 := Lib.hid hq2.undrew; have HB2 := Lib.hid hb2; clear hq2 hb2))
  have HK2 := Lib.hid (HK.out.then_ HQ2.out)
  have HG2 := Lib.hid (H.out.quiet HK2.out)
  clear HGd S0 S1 HB HK HQ2
  go_wp2_with fail
  go_ret
  exact ⟨rfl, HK2.out⟩
set_option maxHeartbeats 4000000 in
theorem PG.upd_put (h : PG p w0 P0 s T t w) (hp : p.Ok) {key value : ByteArray} {fl : Int} (hk : IsKey p.key key) (hv : value.size = p.v) (h0 : 0 ≤ fl) (h2 : fl ≤ 2) {e : Ent} {b : Nat} (hres : t.findT (formB key) (lenB key) = some (b, e)) (hb : t.has b e) (hfl : fl ≠ 1) (q : RV) (hq : s.m.vs e.n = some q) (hn : e.n ≤ 4294967295) (hl2 : value.size ≤ q.2.1.length) :
    Calls Try.prog 9 #[tp p.x, .string key, .string value, .int .i64 fl] w fun e' w' => e' = .returned (.int .i64 0) ∧ ∃ T' t', PG p w0 P0 (s.put e q value.data.toList) T' t' w' := by
  have HP : Hid (PreIs (tp p.x) key w (formB key) (lenB key) true) := Lib.hid (h.pre_yes hp hk)
  unfold PreIs at HP
  have hpre := hk.pre hp.k1 hp.k2
  have HC := Lib.hid (fun W (hG : PG p w0 P0 s T t W) => find_tree (x := p.x) hpre hG.ok hG.at_ (hG.map.cell 5) hG.map.lt)
  rw [hres] at HC
  have HC2 : Hid (∀ W, PG p w0 P0 s T t W → Calls Try.prog 20 #[.pointer (some ⟨p.x, 5, none⟩), preV (formB key) (lenB key)] W fun e w' => e = .returned (tp b) ∧ Qt W w') := HC
  have b1 : ((value.size : Int) != (p.v : Int)) = false := by simp; omega
  have b2 : decide (fl < 0) = false := by simp; omega
  have b3 : decide (2 < fl) = false := by simp; omega
  have b5 : (fl == 1) = false := by simp; exact hfl
  have v2 := hp.v2
  have HBN := Lib.hid (fun W s2 T2 (hG : PG p w0 P0 s2 T2 t W) => (by obtain ⟨vl, vr, h3, _⟩ := Tr.At.has hG.at_ hG.ok hb; exact h3.cell 2 : W.cell? ⟨b, 2, none⟩ = some (.int .u64 (addr e.n 0))))
  have CPP := Lib.hid (fun W (hG : PG p w0 P0 s T t W) => (by have := hG.call (k_put p.bm s.m e.n hn q hq value.data.toList (by rw [Array.length_toList]; show value.size ≤ _; omega) (by rw [Array.length_toList]; exact hl2)); rw [← bstr_data] at this; exact this : Calls Try.prog 21 #[.pointer (some ⟨p.bm, 0, none⟩), .int .u64 (addr e.n 0), .string value] W fun e' w' => e' = .returned (.int .i64 0) ∧ ∃ T', PG p w0 P0 (s.put e q value.data.toList) T' t w' ∧ Keeps T W w'))
  clear hfl hb hq hn hl2
  have H := Lib.hid h
  clear h hp hk hres hpre HC hv h0 h2
  generalize formB key = f at *
  generalize lenB key = len at *
  go_enter Try.func9, Try.ntmps9
  go_upto_region 4 with (go_at_call 19; refine HP.out.mono ?_; rintro e' w1 ⟨rfl, hq⟩; have y3 : (w1.alloc (.cells (preC f len) preT)).cell? ⟨p.x, 3, none⟩ = some (.int .i64 p.v) := (H.out.quiet (hq.alloc _)).map.cell 3; have HQ := Lib.hid hq; clear hq)
  have HB := Lib.hid (Blk.new w1 preT (preC f len))
  have HK : Hid (Qt w (w1.alloc (.cells (preC f len) preT))) := Lib.hid (HQ.out.alloc _)
  clear y3
  generalize hpb : w1.heap.size = pb at *
  generalize World.alloc w1 _ = W at HB HK ⊢
  clear hpb
  have HGd := Lib.hid ((H.out.quiet HK.out).drew)
  have S0 : Hid (W.cell? ⟨pb, 0, none⟩ = some (.string f) ∧ W.cell? ⟨pb, 1, none⟩ = some (.int .i64 len)) := ⟨HB.out.cell 0, HB.out.cell 1⟩
  go_region_held3 (fun U => U.cell? ⟨pb, 0, none⟩ = some (.string f) ∧ U.cell? ⟨pb, 1, none⟩ = some (.int .i64 len))
    (first | exact S0.out | exact S1.out)
    (first | (go_at_call 20; refine (HC2.out _ HGd.out).mono ?_; rintro e' w2 ⟨rfl, hq2⟩; have hb2 := HB.out.drew.quiet hq2; have S1 : Hid (w2.cell? ⟨pb, 0, none⟩ = some (.string f) ∧ w2.cell? ⟨pb, 1, none⟩ = some (.int .i64 len)) := ⟨hb2.cell 0, hb2.cell 1⟩; have HQ2 := Lib.hid hq2.undrew; have HB2 := Lib.hid hb2; clear hq2 hb2))
  have HK2 := Lib.hid (HK.out.then_ HQ2.out)
  have HG2 := Lib.hid (H.out.quiet HK2.out)
  clear HGd S0 S1 HB HK HQ2
  go_upto_region 8 with fail
  have CP := Lib.hid (CPP.out _ HG2.out.drew)
  have S3 : Hid (w2.cell? ⟨p.x, 0, none⟩ = some (tp p.bm) ∧ w2.cell? ⟨b, 2, none⟩ = some (.int .u64 (addr e.n 0))) := ⟨HG2.out.map.cell 0, HBN.out _ _ _ HG2.out⟩
  go_region_held3 (fun U => U.cell? ⟨p.x, 0, none⟩ = some (tp p.bm) ∧ U.cell? ⟨b, 2, none⟩ = some (.int .u64 (addr e.n 0)))
    (first | exact S3.out | exact S4.out)
    (first | (go_at_call 21; refine CP.out.mono ?_; rintro e' w3 ⟨rfl, T3, hG3, k3⟩; have S4 : Hid (w3.cell? ⟨p.x, 0, none⟩ = some (tp p.bm) ∧ w3.cell? ⟨b, 2, none⟩ = some (.int .u64 (addr e.n 0))) := ⟨hG3.map.cell 0, HBN.out _ _ _ hG3⟩; have HG3 := Lib.hid hG3; clear hG3 k3))
  go_wp2_with fail
  go_ret
  exact ⟨rfl, T3, t, HG3.out⟩
set_option maxHeartbeats 4000000 in
theorem PG.upd_full (h : PG p w0 P0 s T t w) (hp : p.Ok) {key value : ByteArray} {fl : Int} (hk : IsKey p.key key) (hv : value.size = p.v) (h0 : 0 ≤ fl) (h2 : fl ≤ 2) (hres : t.findT (formB key) (lenB key) = none) (hfl : fl ≠ 2) (hn : s.es.length = p.mx) :
    Calls Try.prog 9 #[tp p.x, .string key, .string value, .int .i64 fl] w fun e' w' => e' = .returned (.int .i64 3) ∧ Qt w w' := by
  have HP : Hid (PreIs (tp p.x) key w (formB key) (lenB key) true) := Lib.hid (h.pre_yes hp hk)
  unfold PreIs at HP
  have hpre := hk.pre hp.k1 hp.k2
  have HC := Lib.hid (fun W (hG : PG p w0 P0 s T t W) => find_tree (x := p.x) hpre hG.ok hG.at_ (hG.map.cell 5) hG.map.lt)
  rw [hres] at HC
  have HC2 : Hid (∀ W, PG p w0 P0 s T t W → Calls Try.prog 20 #[.pointer (some ⟨p.x, 5, none⟩), preV (formB key) (lenB key)] W fun e w' => e = .returned (.pointer none) ∧ Qt W w') := HC
  have b1 : ((value.size : Int) != (p.v : Int)) = false := by simp; omega
  have b2 : decide (fl < 0) = false := by simp; omega
  have b3 : decide (2 < fl) = false := by simp; omega
  have b5 : (fl == 2) = false := by simp; exact hfl
  have g6 : ((s.es.length : Int) == (p.mx : Int)) = true := by simp; omega
  clear hfl hn
  have H := Lib.hid h
  clear h hp hk hres hpre HC hv h0 h2
  generalize formB key = f at *
  generalize lenB key = len at *
  go_enter Try.func9, Try.ntmps9
  go_upto_region 4 with (go_at_call 19; refine HP.out.mono ?_; rintro e' w1 ⟨rfl, hq⟩; have y3 : (w1.alloc (.cells (preC f len) preT)).cell? ⟨p.x, 3, none⟩ = some (.int .i64 p.v) := (H.out.quiet (hq.alloc _)).map.cell 3; have HQ := Lib.hid hq; clear hq)
  have HB := Lib.hid (Blk.new w1 preT (preC f len))
  have HK : Hid (Qt w (w1.alloc (.cells (preC f len) preT))) := Lib.hid (HQ.out.alloc _)
  clear y3
  generalize hpb : w1.heap.size = pb at *
  generalize World.alloc w1 _ = W at HB HK ⊢
  clear hpb
  have HGd := Lib.hid ((H.out.quiet HK.out).drew)
  have S0 : Hid (W.cell? ⟨pb, 0, none⟩ = some (.string f) ∧ W.cell? ⟨pb, 1, none⟩ = some (.int .i64 len)) := ⟨HB.out.cell 0, HB.out.cell 1⟩
  go_region_held3 (fun U => U.cell? ⟨pb, 0, none⟩ = some (.string f) ∧ U.cell? ⟨pb, 1, none⟩ = some (.int .i64 len))
    (first | exact S0.out | exact S1.out)
    (first | (go_at_call 20; refine (HC2.out _ HGd.out).mono ?_; rintro e' w2 ⟨rfl, hq2⟩; have hb2 := HB.out.drew.quiet hq2; have S1 : Hid (w2.cell? ⟨pb, 0, none⟩ = some (.string f) ∧ w2.cell? ⟨pb, 1, none⟩ = some (.int .i64 len)) := ⟨hb2.cell 0, hb2.cell 1⟩; have HQ2 := Lib.hid hq2.undrew; have HB2 := Lib.hid hb2; clear hq2 hb2))
  have HK2 := Lib.hid (HK.out.then_ HQ2.out)
  have HG2 := Lib.hid (H.out.quiet HK2.out)
  clear HGd S0 S1 HB HK HQ2
  go_upto_region 11 with fail
  have u1 : w2.cell? ⟨p.x, 6, none⟩ = some (.int .i64 s.es.length) := HG2.out.map.cell 6
  have u2 : w2.cell? ⟨p.x, 4, none⟩ = some (.int .i64 p.mx) := HG2.out.map.cell 4
  go_quiet (fail)
  go_wp2_with fail
  go_ret
  exact ⟨rfl, HK2.out.drewN' _⟩
set_option maxHeartbeats 4000000 in
theorem PG.upd_add (h : PG p w0 P0 s T t w) (hp : p.Ok) {key value : ByteArray} {fl : Int} (hk : IsKey p.key key) (hv : value.size = p.v) (h0 : 0 ≤ fl) (h2 : fl ≤ 2) (hres : t.findT (formB key) (lenB key) = none) (hfl : fl ≠ 2) (hn : s.es.length ≠ p.mx) (a : Int) (R : World → Prop) (hadd : ∀ W, PG p w0 P0 s T t W → Calls Try.prog 22 #[tp p.x, preV (formB key) (lenB key), .string value] W fun e w' => e = .returned (.int .i64 a) ∧ R w') :
    Calls Try.prog 9 #[tp p.x, .string key, .string value, .int .i64 fl] w fun e' w' => e' = .returned (.int .i64 a) ∧ R w' := by
  have HP : Hid (PreIs (tp p.x) key w (formB key) (lenB key) true) := Lib.hid (h.pre_yes hp hk)
  unfold PreIs at HP
  have hpre := hk.pre hp.k1 hp.k2
  have HC := Lib.hid (fun W (hG : PG p w0 P0 s T t W) => find_tree (x := p.x) hpre hG.ok hG.at_ (hG.map.cell 5) hG.map.lt)
  rw [hres] at HC
  have HC2 : Hid (∀ W, PG p w0 P0 s T t W → Calls Try.prog 20 #[.pointer (some ⟨p.x, 5, none⟩), preV (formB key) (lenB key)] W fun e w' => e = .returned (.pointer none) ∧ Qt W w') := HC
  have b1 : ((value.size : Int) != (p.v : Int)) = false := by simp; omega
  have b2 : decide (fl < 0) = false := by simp; omega
  have b3 : decide (2 < fl) = false := by simp; omega
  have b5 : (fl == 2) = false := by simp; exact hfl
  have g6 : ((s.es.length : Int) == (p.mx : Int)) = false := by simp; omega
  have CAD := Lib.hid hadd
  clear hfl hn hadd
  have H := Lib.hid h
  clear h hp hk hres hpre HC hv h0 h2
  generalize formB key = f at *
  generalize lenB key = len at *
  go_enter Try.func9, Try.ntmps9
  go_upto_region 4 with (go_at_call 19; refine HP.out.mono ?_; rintro e' w1 ⟨rfl, hq⟩; have y3 : (w1.alloc (.cells (preC f len) preT)).cell? ⟨p.x, 3, none⟩ = some (.int .i64 p.v) := (H.out.quiet (hq.alloc _)).map.cell 3; have HQ := Lib.hid hq; clear hq)
  have HB := Lib.hid (Blk.new w1 preT (preC f len))
  have HK : Hid (Qt w (w1.alloc (.cells (preC f len) preT))) := Lib.hid (HQ.out.alloc _)
  clear y3
  generalize hpb : w1.heap.size = pb at *
  generalize World.alloc w1 _ = W at HB HK ⊢
  clear hpb
  have HGd := Lib.hid ((H.out.quiet HK.out).drew)
  have S0 : Hid (W.cell? ⟨pb, 0, none⟩ = some (.string f) ∧ W.cell? ⟨pb, 1, none⟩ = some (.int .i64 len)) := ⟨HB.out.cell 0, HB.out.cell 1⟩
  go_region_held3 (fun U => U.cell? ⟨pb, 0, none⟩ = some (.string f) ∧ U.cell? ⟨pb, 1, none⟩ = some (.int .i64 len))
    (first | exact S0.out | exact S1.out)
    (first | (go_at_call 20; refine (HC2.out _ HGd.out).mono ?_; rintro e' w2 ⟨rfl, hq2⟩; have hb2 := HB.out.drew.quiet hq2; have S1 : Hid (w2.cell? ⟨pb, 0, none⟩ = some (.string f) ∧ w2.cell? ⟨pb, 1, none⟩ = some (.int .i64 len)) := ⟨hb2.cell 0, hb2.cell 1⟩; have HQ2 := Lib.hid hq2.undrew; have HB2 := Lib.hid hb2; clear hq2 hb2))
  have HK2 := Lib.hid (HK.out.then_ HQ2.out)
  have HG2 := Lib.hid (H.out.quiet HK2.out)
  clear HGd S0 S1 HB HK HQ2
  go_upto_region 11 with fail
  have u1 : w2.cell? ⟨p.x, 6, none⟩ = some (.int .i64 s.es.length) := HG2.out.map.cell 6
  have u2 : w2.cell? ⟨p.x, 4, none⟩ = some (.int .i64 p.mx) := HG2.out.map.cell 4
  go_quiet (fail)
  have q0 : (w2.drewN nq).cell? ⟨pb, 0, none⟩ = some (.string f) := HB2.out.cell 0
  have q1 : (w2.drewN nq).cell? ⟨pb, 1, none⟩ = some (.int .i64 len) := HB2.out.cell 1
  have CAD2 := Lib.hid (CAD.out _ (HG2.out.drewN nq))
  generalize w2.drewN nq = w4 at q0 q1 CAD2 ⊢
  go_wp2_with (go_at_call 22; refine CAD2.out.mono ?_; rintro e' w3 ⟨rfl, hr⟩; have HRR := Lib.hid hr; clear hr)
  go_ret
  exact ⟨rfl, HRR.out⟩
end
end Go.Proofs.Ytomhflaofipccaa
