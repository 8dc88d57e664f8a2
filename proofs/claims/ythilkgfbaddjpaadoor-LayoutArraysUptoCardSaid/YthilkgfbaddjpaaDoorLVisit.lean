/-
  Layer 7: visit, walked.
-/
import Derived.Test.YthilkgfbaddjpaaDoorLGraph5
import Derived.Test.YthilkgfbaddjpaaDoorLClose
import Derived.Deep.QuietTactic
import Derived.BigQuiet
namespace Go.Proofs.YthilkgfbaddjpaaDoor
open Go Go.RowKit
set_option linter.unusedVariables false
set_option linter.unusedSimpArgs false
set_option maxRecDepth 100000
def heldI (l : List Ty) (id : Nat) : List Int := match l[id - 1]? with | some t => partsL t | none => []
def heldN (l : List Ty) (id : Nat) : List Nat := (heldI l id).map Int.toNat
theorem alone_parts {n : Int} {t : Ty} (h : aloneB n t = true) : ∀ p ∈ partsL t, 1 ≤ p ∧ p ≤ n := by
  unfold partsL
  intro p hp
  unfold aloneB at h
  by_cases k8 : t.kind = 8
  · rw [if_pos k8] at hp
    simp only [List.mem_singleton] at hp
    subst hp
    simp [k8, leadsB] at h
    exact h
  · rw [if_neg k8] at hp
    by_cases k3 : t.kind = 3
    · rw [if_pos k3] at hp
      simp only [List.mem_singleton] at hp
      subst hp
      simp [k3, leadsB] at h
      exact ⟨h.1.1, h.1.2⟩
    · rw [if_neg k3] at hp
      by_cases k4 : t.kind = 4
      · rw [if_pos k4] at hp
        obtain ⟨m, hm, rfl⟩ := List.mem_map.1 hp
        simp [k4] at h
        have := h.2.2 m hm
        unfold memB leadsB at this
        simp at this
        exact this.1
      · rw [if_neg k4] at hp; cases hp
theorem held_ok {l : List Ty} (h : l.all (aloneB l.length) = true) : ∀ x, 1 ≤ x → x ≤ l.length → ∀ p ∈ heldN l x, 1 ≤ p ∧ p ≤ l.length := by
  intro x h1 h2 p hp
  unfold heldN heldI at hp
  obtain ⟨t, ht⟩ : ∃ t, l[x - 1]? = some t := ⟨_, List.getElem?_eq_getElem (by omega)⟩
  rw [ht] at hp
  obtain ⟨q, hq, rfl⟩ := List.mem_map.1 hp
  have ha := List.all_eq_true.1 h t (List.mem_of_getElem? ht)
  have := alone_parts ha q hq
  omega
structure Ctx (wS : World) (A : Option Addr) (cl : Nat) (l : List Ty) (g : Nat) : Prop where
  types : TysAt wS A l
  few : l.length ≤ 1024
  alone : l.all (aloneB l.length) = true
  mems : ∀ t ∈ l, t.mems.length ≤ 1048576
  hg : wS.heap.size ≤ g
theorem belowDrew (w : World) (n : Nat) : Below w.heap.size w (w.drewN n) := ⟨rfl, rfl, rfl, Nat.le_refl _, fun _ _ => rfl⟩
theorem lit_cell (w : World) (id : Nat) (t : TypeId) : ∀ j u, (natC [id])[j]? = some u → (w.alloc (.cells #[.int .i64 (id : Int)] t)).cell? ((⟨w.heap.size, 0, none⟩ : Addr).add j) = some u := by
  intro j u h
  cases j with
  | zero =>
    simp [natC] at h
    subst h
    exact (Blk.new w t #[.int .i64 (id : Int)]).cell 0
  | succ j => simp [natC] at h
theorem min_if (e r : Int) : (if r < e then r else e) = min e r := by
  rw [Int.min_def]
  split <;> split <;> omega
theorem note_loops (t : WK) (id p : Nat) : t.loops.length ≤ (noteW t id p).loops.length := by
  unfold noteW
  split
  · simp
  · exact Nat.le_refl _
theorem PostS.of {w : World} {base g : Nat} {lv mv ov dv pv : Value} {r : Ending} {s' : WK} {S : Nat → Prop} {w0 : World} (h : WS S w0 w base g lv s' mv ov dv pv) : PostS w base g lv mv ov dv pv r s' r w :=
  ⟨rfl, ov, dv, pv, h.again⟩
theorem mine_below {wS w w' : World} {g : Nat} {mv ov dv pv : Value} {lv : Value} {s' : WK} {ov' dv' pv' : Value} (hg : wS.heap.size ≤ g) {S : Nat → Prop} {w0 : World} {s : WK} (h0 : WS S w0 w wS.heap.size g lv s mv ov dv pv) (hb : Below wS.heap.size wS w) (h : WS (mine g mv ov dv pv) w w' wS.heap.size g lv s' mv ov' dv' pv') : Below wS.heap.size wS w' := by
  have hk := h.keeps
  refine hb.trans ⟨hk.os, hk.tape, hk.output, hk.size, fun k hlt => hk.block k (by have := hb.size; omega) fun hm => ?_⟩
  unfold mine at hm
  rcases hm with rfl | hm | hm | hm | hm
  · omega
  · have := (row_tag h0.met k hm).1; omega
  · have := (row_tag h0.op k hm).1; omega
  · have := (row_tag h0.order k hm).1; omega
  · have := (row_tag h0.loops k hm).1; omega
set_option maxHeartbeats 4000000 in
theorem visit_old_any {wS : World} {A : Option Addr} {cl : Nat} {l : List Ty} {g : Nat} (hC : Ctx wS A cl l g) (f id : Nat) (s : WK) {S : Nat → Prop} {w0 w : World} {mv ov dv pv : Value} (hi : Inv (heldN l) l.length s) (h1 : 1 ≤ id) (hN : id ≤ l.length) (hz : mt s id ≠ 0)
    (hw : WS S w0 w wS.heap.size g (.slice A l.length cl) s mv ov dv pv) :
    Calls Tryd.prog 29 #[.pointer (some ⟨g, 0, none⟩), .int .i64 id] w (PostS w wS.heap.size g (.slice A l.length cl) mv ov dv pv (.returned (.int .i64 (mt s id))) s) := by
  have hl : s.met.length = l.length + 1 := hi.len
  have hP := Lib.hid (PostS.of (r := .returned (.int .i64 (mt s id))) hw)
  obtain ⟨M, cM, rfl⟩ : ∃ M cM, mv = .slice (some ⟨M, 0, none⟩) s.met.length cM := by
    rcases hw.met.2 with ⟨_, e⟩ | ⟨M, cM, _, rfl, _⟩
    · omega
    · exact ⟨M, cM, rfl⟩
  have c1 : w.cell? ⟨g, 1, none⟩ = some (.slice (some ⟨M, 0, none⟩) s.met.length cM) := hw.blk.cell 1
  have cm : w.cell? ⟨M, id, none⟩ = some (.int .i64 (mt s id)) := by
    rw [hw.met.cellAt id (by omega)]
    unfold mt
    have : s.met[id]? = some (s.met.getD id 0) := by
      rw [List.getD_eq_getElem?_getD, List.getElem?_eq_getElem (by omega)]; rfl
    unfold intC
    rw [List.getElem?_map, this]
    rfl
  have hfew := hC.few
  have i1 : (id : Int) < (s.met.length : Int) := by omega
  have i2 : (0 : Int) ≤ (id : Int) := by omega
  have i3 : (s.met.length : Int) ≤ 1025 := by omega
  generalize mt s id = x at *
  have g1 : (x != 0) = true := by simpa using hz
  clear hi hw hC hz hl
  go_enter Tryd.func29, Tryd.ntmps29
  go_wp2_with fail
  go_ret
  exact hP.out
theorem WX.trans {S : Nat → Prop} {w0 W W' : World} {base g : Nat} {cs cs' : Array Value} {mv ov dv pv mv' ov' dv' pv' : Value} {met met' : List Int} {op order loops op' order' loops' : List Nat} (h1 : WX S w0 W base g cs mv ov dv pv met op order loops) (h2 : WX (mine g mv ov dv pv) W W' base g cs' mv' ov' dv' pv' met' op' order' loops') :
    WX S w0 W' base g cs' mv' ov' dv' pv' met' op' order' loops' := by
  refine ⟨h2.blk, h2.met, h2.op, h2.order, h2.loops, h2.apart, h2.hbase, ⟨h2.keeps.os.trans h1.keeps.os, h2.keeps.tape.trans h1.keeps.tape, h2.keeps.output.trans h1.keeps.output, Nat.le_trans h1.keeps.size h2.keeps.size, fun k hk hs => (h2.keeps.block k (Nat.lt_of_lt_of_le hk h1.keeps.size) fun hm => ?_).trans (h1.keeps.block k hk hs)⟩, fun b hb => ?_⟩
  · rcases h1.new k hm with h | h
    · exact hs h
    · omega
  · rcases h2.new b hb with h | h
    · exact h1.new b h
    · right; exact Nat.le_trans h1.keeps.size h
structure VR (wS w wr : World) (g : Nat) (lv mv ov dv pv v : Value) (xs : List Int) (t : WK) (ov' dv' pv' : Value) : Prop where
  ws : WS (mine g mv ov dv pv) w wr wS.heap.size g lv t mv ov' dv' pv'
  row : wr.ownsRow wS.heap.size 3 1 v xs.length (intC xs)
  far : ∀ b, v.ownBlock = some b → ¬ mine g mv ov' dv' pv' b
theorem VR.trans {wS w wr w' : World} {g : Nat} {lv mv ov dv pv v ov' dv' pv' ov2 dv2 pv2 : Value} {xs : List Int} {t t' : WK} (h : VR wS w wr g lv mv ov dv pv v xs t ov' dv' pv') (k : WS (mine g mv ov' dv' pv') wr w' wS.heap.size g lv t' mv ov2 dv2 pv2) : VR wS w w' g lv mv ov dv pv v xs t' ov2 dv2 pv2 := by
  refine ⟨WX.trans h.ws k, row_block h.row fun b hb => k.keeps.block b (row_lt h.row b hb) (h.far b hb), fun b hb hm => ?_⟩
  rcases k.new b hm with q | q
  · exact h.far b hb q
  · have := row_lt h.row b hb; omega
theorem row_base {w : World} {base base' : Nat} {e : TypeId} {size : Nat} {v : Value} {n : Nat} {xs : List Value} (hle : base ≤ base') (h : w.ownsRow base' e size v n xs) : w.ownsRow base e size v n xs := by
  refine ⟨h.1, ?_⟩
  rcases h.2 with hn | ⟨g, cap, cur, rfl, h1, rest⟩
  · exact .inl hn
  · exact .inr ⟨g, cap, cur, rfl, Nat.le_trans hle h1, rest⟩
theorem mine_lt {S : Nat → Prop} {w0 W : World} {base g : Nat} {cs : Array Value} {mv ov dv pv : Value} {met : List Int} {op order loops : List Nat} (h : WX S w0 W base g cs mv ov dv pv met op order loops) (b : Nat) (hm : mine g mv ov dv pv b) : b < W.heap.size := by
  unfold mine at hm
  rcases hm with rfl | hm | hm | hm | hm
  · exact h.blk.lt
  · exact row_lt h.met b hm
  · exact row_lt h.op b hm
  · exact row_lt h.order b hm
  · exact row_lt h.loops b hm
theorem VR.start {wS w w5 w6 : World} {g : Nat} {lv mv ov dv pv v ov' dv' pv' : Value} {xs : List Int} {t : WK} (h : WS (mine g mv ov dv pv) w w5 wS.heap.size g lv t mv ov' dv' pv') (hb : Below w5.heap.size w5 w6) (hr : w6.ownsRow w5.heap.size 3 1 v xs.length (intC xs)) : VR wS w w6 g lv mv ov dv pv v xs t ov' dv' pv' :=
  ⟨h.below hb, row_base h.hbase hr, fun b hx hm => by have := (row_tag hr b hx).1; have := mine_lt h b hm; omega⟩
set_option maxHeartbeats 4000000 in
theorem visit_any {wS : World} {A : Option Addr} {cl : Nat} {l : List Ty} {g : Nat} (hC : Ctx wS A cl l g) : ∀ (f id : Nat) (s : WK) (S : Nat → Prop) (w0 w : World) (mv ov dv pv : Value), Inv (heldN l) l.length s → 1 ≤ id → id ≤ l.length → unmet l.length s < f → tot s → pot (heldN l) l.length s ≤ 4000000 →
    WS S w0 w wS.heap.size g (.slice A l.length cl) s mv ov dv pv → Below wS.heap.size wS w →
    Calls Tryd.prog 29 #[.pointer (some ⟨g, 0, none⟩), .int .i64 id] w (PostS w wS.heap.size g (.slice A l.length cl) mv ov dv pv (.returned (.int .i64 (visitF (heldN l) f id s).1)) (visitF (heldN l) f id s).2) := by
  intro f
  induction f with
  | zero => intro id s S w0 w mv ov dv pv _ _ _ h; omega
  | succ f ih =>
    intro id s S w0 w mv ov dv pv hi h1 hN hf htot hpot hw hb
    by_cases hz : mt s id = 0
    · have hl : s.met.length = l.length + 1 := hi.len
      have hfew := hC.few
      have hE := held_ok hC.alone
      obtain ⟨M, cM, rfl⟩ : ∃ M cM, mv = .slice (some ⟨M, 0, none⟩) s.met.length cM := by
        rcases hw.met.2 with ⟨_, e⟩ | ⟨M, cM, _, rfl, _⟩
        · omega
        · exact ⟨M, cM, rfl⟩
      have hcnt := hi.count_le
      obtain ⟨i0, hi0, hz0, hz1, hz2⟩ := info_parts infoI
      have HI := Lib.hid (And.intro hi0 (And.intro hz0 (And.intro hz1 hz2)))
      clear hi0 hz0 hz1 hz2
      have W0 := hw.again
      obtain ⟨OA, Oc, hov⟩ := own_shape W0.op
      subst hov
      have c1 : w.cell? ⟨g, 1, none⟩ = some (.slice (some ⟨M, 0, none⟩) s.met.length cM) := W0.blk.cell 1
      have c2 : w.cell? ⟨g, 2, none⟩ = some (.int .i64 (s.count : Int)) := W0.blk.cell 2
      have f2 : w.frozen? ⟨g, 2, none⟩ = false := W0.blk.frozen 2
      have cm : w.cell? ⟨M, id, none⟩ = some (.int .i64 0) := by
        rw [W0.met.cellAt id (by omega)]
        have : s.met[id]? = some 0 := by
          have h2 : s.met[id]? = some (s.met.getD id 0) := by
            rw [List.getD_eq_getElem?_getD, List.getElem?_eq_getElem (by omega)]; rfl
          rw [h2]; exact congrArg some hz
        unfold intC
        rw [List.getElem?_map, this]
        rfl
      have i1 : (id : Int) < (s.met.length : Int) := by omega
      have i2 : (0 : Int) ≤ (id : Int) := by omega
      have i3 : (s.met.length : Int) ≤ 1025 := by omega
      have i4 : (s.count : Int) ≤ 1024 := by omega
      have W1 := Lib.hid (W0.cell 2 (.int .i64 ((s.count : Int) + 1)))
      have HH : Hid (Inv (heldN l) l.length s ∧ 1 ≤ id ∧ id ≤ l.length ∧ unmet l.length s < f + 1 ∧ tot s ∧ pot (heldN l) l.length s ≤ 4000000 ∧ mt s id = 0) := ⟨hi, h1, hN, hf, htot, hpot, hz⟩
      have HL : Hid (s.op.length ≤ 1024 ∧ s.order.length ≤ 1024) := ⟨by unfold tot at htot; omega, by unfold tot at htot; omega⟩
      have HB := Lib.hid hb
      have HC := Lib.hid hC
      have HW := Lib.hid hw
      clear hi hf htot hpot hz hw hb hC hE W0 h1 hN hl hcnt hfew
      go_enter Tryd.func29, Tryd.ntmps29
      go_upto_region 4 with fail
      clear c1 c2 f2 cm
      generalize World.setCell _ _ _ = w1 at W1 ⊢
      have d2 : w1.cell? ⟨g, 2, none⟩ = some (.int .i64 ((s.count : Int) + 1)) := W1.out.blk.cell 2
      have d3 : w1.cell? ⟨g, 3, none⟩ = some (.slice OA s.op.length Oc) := W1.out.blk.cell 3
      go_quiet (fail)
      go_upto_region 5 with fail
      have W2 := Lib.hid (W1.out.below (belowDrew w1 nq))
      clear W1 d2 d3
      generalize World.drewN _ _ = w2 at W2 ⊢
      have e1 : w2.cell? ⟨g, 1, none⟩ = some (.slice (some ⟨M, 0, none⟩) s.met.length cM) := W2.out.blk.cell 1
      obtain ⟨u2, cu⟩ : ∃ u, w2.cell? ⟨M, id, none⟩ = some u := by
        rw [W2.out.met.cellAt id (by omega)]
        exact ⟨_, List.getElem?_eq_getElem (by rw [intC_len]; omega)⟩
      have fu : w2.frozen? ⟨M, id, none⟩ = false := W2.out.met.frozenAt id
      go_upto_region 6 with fail
      have W3 := Lib.hid (W2.out.setMet' rfl id (by omega) ((s.count : Int) + 1))
      clear W2 e1 cu fu
      generalize World.setCell _ _ _ = w3 at W3 ⊢
      have e3 : w3.cell? ⟨g, 3, none⟩ = some (.slice OA s.op.length Oc) := W3.out.blk.cell 3
      go_upto_region 7 with (at_builtin; refine wpList_append_own_at _ rfl (.tmp 52) (.tmp 54) 52 rfl wS.heap.size 3 i0 _ 1 8 Tryd.underlying52 HI.out.1 HI.out.2.1 HI.out.2.2.1 HI.out.2.2.2 rfl (by decide) (.slice OA s.op.length Oc) s.op.length (natC s.op) rfl (W3.out.op.alloc _) ⟨w3.heap.size, 0, none⟩ 1 1 (natC [id]) rfl rfl (lit_cell _ _ _) natC_one (by have := HL.out; simp [natC]; unfold maxLen; omega) (by have := HL.out; simp [natC]; omega) (W3.out.alloc _).hbase ?_; intro v' w4 hown hgrow _ hat; have HY := Lib.hid ((W3.out.alloc _).grow_op (xs := [id]) hown hgrow hat); obtain ⟨A5, k5, hv5⟩ := own_shape hown; subst hv5; have y3 : w4.cell? ⟨g, 3, none⟩ = some (.slice OA s.op.length Oc) := HY.out.blk.cell 3; have z3 : w4.frozen? ⟨g, 3, none⟩ = false := HY.out.blk.frozen 3; clear hown hgrow hat)
      have W5 : Hid (WS (mine g (.slice (some ⟨M, 0, none⟩) s.met.length cM) (.slice OA s.op.length Oc) dv pv) w (w4.setCell ⟨g, 3, none⟩ (.slice A5 (s.op.length + 1) k5)) wS.heap.size g (.slice A l.length cl) (enterW s id) (.slice (some ⟨M, 0, none⟩) s.met.length cM) (.slice A5 (s.op.length + 1) k5) dv pv) := HY.out.cell 3 _
      clear HY y3 z3 e3 W3
      generalize World.setCell _ _ _ = w5 at W5 ⊢
      have B5 := Lib.hid (mine_below HC.out.hg HW.out HB.out W5.out)
      obtain ⟨ty, hty⟩ : ∃ ty, l[id - 1]? = some ty := ⟨_, List.getElem?_eq_getElem (by have := HH.out; omega)⟩
      obtain ⟨bA, oA, A', c', rfl, hltA, x0, x1, x2, x3, x4, x5, hm1, hs1, hn1⟩ := (HC.out.types.below (B5.out)) (id - 1) ty hty
      have hhel : heldI l id = partsL ty := by unfold heldI; rw [hty]
      have hmem := HC.out.mems ty (List.mem_of_getElem? hty)
      have CP := Lib.hid (parts_any ty A' c' (by omega) w5 hm1)
      obtain ⟨xs, hxs⟩ : ∃ xs, partsL ty = xs := ⟨_, rfl⟩
      have HXS : Hid (heldI l id = xs) := hhel.trans hxs
      have hxl : xs.length ≤ 1048576 := by
        rw [← hxs]
        unfold partsL
        split
        · simp
        · split
          · simp
          · split
            · simpa using hmem
            · simp
      unfold PostParts at CP
      rw [hxs] at CP
      obtain ⟨q0, hq0⟩ : ∃ q0, id - 1 = q0 := ⟨_, rfl⟩
      rw [hq0] at x0 x1 x2 x3 x4 x5
      have hq1 : (id : Int) - 1 = (q0 : Int) := by have := HH.out; omega
      have j1 : (q0 : Int) < (l.length : Int) := by have := HH.out; omega
      have j2 : (0 : Int) ≤ (q0 : Int) := by omega
      have j3 : (l.length : Int) ≤ 1024 := by have := HC.out.few; omega
      have j4 : (xs.length : Int) ≤ 1048576 := by omega
      have c0 : w5.cell? ⟨g, 0, none⟩ = some (.slice (some ⟨bA, oA, none⟩) l.length cl) := W5.out.blk.cell 0
      obtain ⟨kd, nm, sz, ty, ct, ms⟩ := ty
      unfold tyV at CP
      simp only at x0 x1 x2 x3 x4 x5 CP hn1 hs1
      clear hty hm1 hhel hxs hmem hq0
      go_upto_region 9 with (go_at_call 39; refine CP.out.mono ?_; rintro e w6 ⟨hb, v, rfl, hr⟩; have R6 := Lib.hid (VR.start W5.out hb hr); obtain ⟨VA, Vc, hv⟩ := own_shape hr; subst hv; clear hb hr)
      have hns : (heldN l id).length = xs.length := by unfold heldN; rw [HXS.out, List.length_map]
      have HNS := Lib.hid hns
      clear c0 x0 x1 x2 x3 x4 x5 CP hns hq1 j1 j2 hn1 hs1
      go_loopw [7, 9, 69] (fun u _ i wr => ∃ (k : Nat) (e : Int) (t : WK) (ov' dv' pv' : Value), k ≤ xs.length ∧ u = .int .i64 e ∧ i = .int .i64 k ∧ VL (heldN l) l.length f id s k e t ∧ VR wS w wr g (.slice (some ⟨bA, oA, none⟩) l.length cl) (.slice (some ⟨M, 0, none⟩) s.met.length cM) (.slice OA s.op.length Oc) dv pv (.slice VA xs.length Vc) xs t ov' dv' pv') (fun _ _ i _ => xs.length - (intOf i).toNat)
      case atStart =>
        obtain ⟨hi, h1, hN, hf, htot, hpot, hz⟩ := HH.out
        exact ⟨0, _, _, _, _, _, Nat.zero_le _, rfl, rfl, VL.start hi h1 hN hz htot, R6.out⟩
      case round =>
        obtain ⟨k, e, t, ov', dv', pv', hk, rfl, rfl, hvl, hvr⟩ := hrel
        have HVL := Lib.hid hvl
        have HVR := Lib.hid hvr
        clear hvl hvr
        by_cases hkn : k < xs.length
        · obtain ⟨q, hq⟩ : ∃ q, xs[k]? = some q := ⟨_, List.getElem?_eq_getElem hkn⟩
          have hE := held_ok HC.out.alone
          have hp : (heldN l id)[k]? = some q.toNat := by unfold heldN; rw [HXS.out, List.getElem?_map, hq]; rfl
          obtain ⟨hi, h1, hN, hf, htot, hpot, hz⟩ := HH.out
          obtain ⟨p1, p2, p3, p4⟩ := HVL.out.needs hE hi h1 hN hz hf hp
          obtain ⟨p, rfl⟩ : ∃ p : Nat, q = (p : Int) := ⟨q.toNat, by omega⟩
          rw [Int.toNat_natCast] at hp p1 p2
          have VS := HVL.out.step (by have := HC.out.few; omega) hE hi h1 hN hz hf hp
          have CI := Lib.hid (ih p t _ _ wr _ ov' dv' pv' HVL.out.mid.inv p1 p2 p3 HVL.out.tot (Nat.le_trans p4 hpot) HVR.out.ws (mine_below HC.out.hg HW.out HB.out HVR.out.ws))
          obtain ⟨r1, hr1⟩ : ∃ r1, (visitF (heldN l) f p t).1 = r1 := ⟨_, rfl⟩
          obtain ⟨t1, ht1⟩ : ∃ t1, (visitF (heldN l) f p t).2 = t1 := ⟨_, rfl⟩
          rw [hr1, ht1] at VS CI
          have HVS := Lib.hid VS
          obtain ⟨vb, hVA⟩ : ∃ vb, VA = some ⟨vb, 0, none⟩ := by
            rcases HVR.out.row.2 with ⟨_, e0⟩ | ⟨vb, cap, cur, e0, _⟩
            · omega
            · cases e0; exact ⟨vb, rfl⟩
          subst hVA
          have cv : wr.cell? ⟨vb, k, none⟩ = some (.int .i64 (p : Int)) := by
            rw [HVR.out.row.cellAt k (by omega)]
            unfold intC
            rw [List.getElem?_map, hq]
            rfl
          have i1 : (k : Int) < (xs.length : Int) := by omega
          have i2 : (0 : Int) ≤ (k : Int) := by omega
          have g1 : decide (k < xs.length) = true := by simpa using hkn
          have HK : Hid (k < xs.length) := hkn
          clear hkn hq hE hp hi h1 hN hf htot hpot hz p1 p2 p3 p4 VS hr1 ht1
          go_upto_region 12 with (go_at_call 29; refine CI.out.mono ?_; rintro e1 w7 ⟨rfl, ov2, dv2, pv2, h7⟩; have R7 := Lib.hid (HVR.out.trans h7); clear h7)
          have hmin := min_if e r1
          generalize (if r1 < e then r1 else e) = e2 at hmin ⊢
          rw [← hmin] at HVS
          obtain ⟨PA, Pc, hpv⟩ := own_shape R7.out.ws.loops
          subst hpv
          have HLP : Hid (t1.loops.length ≤ 4000000) := by
            have a1 := loops_pot (E := heldN l) (N := l.length) (noteW t1 id p)
            have a2 := HVS.out.pot
            have a3 := note_loops t1 id p
            have a4 := HH.out
            show _ ≤ _
            omega
          clear hmin cv g1 i1
          have d5 : w7.cell? ⟨g, 5, none⟩ = some (.slice PA t1.loops.length Pc) := R7.out.ws.blk.cell 5
          by_cases hpi : p = id
          · have g2 : (p == id) = true := by simpa using hpi
            have HPI := Lib.hid hpi
            have R7w := Lib.hid (R7.out.ws.again)
            have i6 : (0 : Int) ≤ (k : Int) := by omega
            clear hpi
            go_upto_region 14 with (at_builtin; refine wpList_append_own_at _ rfl (.tmp 85) (.tmp 87) 52 rfl wS.heap.size 3 i0 _ 1 8 Tryd.underlying52 HI.out.1 HI.out.2.1 HI.out.2.2.1 HI.out.2.2.2 rfl (by decide) (.slice PA t1.loops.length Pc) t1.loops.length (natC t1.loops) rfl (R7w.out.loops.alloc _) ⟨w7.heap.size, 0, none⟩ 1 1 (natC [id]) rfl rfl (lit_cell _ _ _) natC_one (by have := HLP.out; simp [natC]; unfold maxLen; omega) (by have := HLP.out; simp [natC]; omega) (R7w.out.alloc _).hbase ?_; intro v' w8 hown hgrow _ hat; have HY := Lib.hid ((R7w.out.alloc _).grow_loops (xs := [id]) hown hgrow hat); obtain ⟨A8, k8, hv8⟩ := own_shape hown; subst hv8; have y5 : w8.cell? ⟨g, 5, none⟩ = some (.slice PA t1.loops.length Pc) := HY.out.blk.cell 5; have z5 : w8.frozen? ⟨g, 5, none⟩ = false := HY.out.blk.frozen 5; clear hown hgrow hat)
            have hno : noteW t1 id p = { t1 with loops := t1.loops ++ [id] } := by unfold noteW; rw [if_pos HPI.out]
            have R8 := Lib.hid (R7.out.trans (t' := { t1 with loops := t1.loops ++ [id] }) (HY.out.cell 5 (.slice A8 (t1.loops.length + 1) k8)))
            rw [← hno] at R8
            clear HY y5 z5 d5 hno g2
            generalize World.setCell _ _ _ = w9 at R8 ⊢
            go_wp2_with fail
            go_roundw
            case rel => exact ⟨k + 1, e2, _, ov2, dv2, _, HK.out, rfl, by go_num, HVS.out, R8.out⟩
            case measure => have := HK.out; simp [intOf]; omega
          · have g2 : (p == id) = false := by simpa using hpi
            have hno : noteW t1 id p = t1 := by unfold noteW; rw [if_neg hpi]
            have HNO := Lib.hid hno
            clear hpi hno
            go_wp2_with fail
            go_roundw
            case rel => exact ⟨k + 1, e2, _, ov2, dv2, _, HK.out, rfl, by go_num, HVS.out, HNO.out ▸ R7.out⟩
            case measure => have := HK.out; simp [intOf]; omega
        · have : k = xs.length := by omega
          subst this
          obtain ⟨hi, h1, hN, hf, htot, hpot, hz⟩ := HH.out
          have hdone : VL (heldN l) l.length f id s (heldN l id).length e t := by rw [HNS.out]; exact HVL.out
          have hd := hdone.done hz
          obtain ⟨k1, k2, k3, k4, k5⟩ := HVL.out.close hi h1 hN hz
          have k6 := loops_pot (E := heldN l) (N := l.length) t
          have k7 := HVL.out.pot
          have k8 := HC.out.few
          have CC := Lib.hid (close_any HVR.out.ws s.op.length k1 k2 (by omega) (by omega) (by omega) (by omega))
          have g1 : decide (xs.length < xs.length) = false := by simp
          by_cases he : e = (s.count : Int) + 1
          · have g2 : (e == (s.count : Int) + 1) = true := by simpa using he
            rw [if_pos (he.trans (by omega))] at hd
            have HD := Lib.hid hd
            clear hi h1 hN hf htot hpot hz hdone hd k1 k2 k3 k4 k5 k6 k7 k8 he hkn hk
            go_wp2_with (go_at_call 40; refine CC.out.mono ?_; rintro e1 w7 ⟨rfl, ov2, dv2, pv2, h7⟩; have R7 := Lib.hid (WX.trans HVR.out.ws h7); clear h7)
            go_ret
            rw [HD.out]
            exact ⟨rfl, _, _, _, R7.out⟩
          · have g2 : (e == (s.count : Int) + 1) = false := by simpa using he
            rw [if_neg (fun h => he (h.trans (by omega)))] at hd
            have HD := Lib.hid hd
            clear hi h1 hN hf htot hpot hz hdone hd k1 k2 k3 k4 k5 k6 k7 k8 he hkn hk
            go_wp2_with fail
            go_ret
            rw [HD.out]
            exact ⟨rfl, _, _, _, HVR.out.ws⟩
    · rw [visit_old hz]
      exact visit_old_any hC f id s hi h1 hN hz hw
end Go.Proofs.YthilkgfbaddjpaaDoor
