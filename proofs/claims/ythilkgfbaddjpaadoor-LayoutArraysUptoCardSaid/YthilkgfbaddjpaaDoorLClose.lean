/-
  Layer 7: close, walked.
-/
import Derived.Test.YthilkgfbaddjpaaDoorLWalk0
import Derived.Maps.AppendAt
namespace Go.Proofs.YthilkgfbaddjpaaDoor
open Go Go.RowKit
set_option linter.unusedVariables false
set_option linter.unusedSimpArgs false
set_option maxRecDepth 100000
def cellsW (lv mv ov dv pv : Value) (c : Nat) : Array Value := #[lv, mv, .int .i64 (c : Int), ov, dv, pv]
def WS (S : Nat → Prop) (w0 W : World) (base g : Nat) (lv : Value) (s : WK) (mv ov dv pv : Value) : Prop := WX S w0 W base g (cellsW lv mv ov dv pv s.count) mv ov dv pv s.met s.op s.order s.loops
theorem WX.again {S : Nat → Prop} {w0 W : World} {base g : Nat} {cs : Array Value} {mv ov dv pv : Value} {met : List Int} {op order loops : List Nat} (h : WX S w0 W base g cs mv ov dv pv met op order loops) : WX (mine g mv ov dv pv) W W base g cs mv ov dv pv met op order loops :=
  ⟨h.blk, h.met, h.op, h.order, h.loops, h.apart, h.hbase, Keeps.refl _ _, fun b hb => .inl hb⟩
theorem WX.trunc {S : Nat → Prop} {w0 W : World} {base g O c : Nat} {cs : Array Value} {mv dv pv : Value} {met : List Int} {op order loops : List Nat} (h : WX S w0 W base g cs mv (.slice (some ⟨O, 0, none⟩) op.length c) dv pv met op order loops) (n : Nat) (hn : n ≤ op.length) :
    WX S w0 W base g cs mv (.slice (some ⟨O, 0, none⟩) n c) dv pv met (op.take n) order loops := by
  refine ⟨h.blk, h.met, ?_, h.order, h.loops, ⟨h.apart.mo, h.apart.md, h.apart.mp, h.apart.od, h.apart.op, h.apart.dp⟩, h.hbase, h.keeps, h.new⟩
  rcases h.op.2 with ⟨e, _⟩ | ⟨g', cap, cur, e, h1, h2, h3, h4, h5, h6⟩
  · cases e
  · cases e
    have hl : (op.take n).length = n := by rw [List.length_take]; omega
    rw [hl]
    refine ⟨by rw [natC_len, hl, Nat.mul_one], .inr ⟨_, _, cur, rfl, h1, h2, by omega, h4, h5, ?_⟩⟩
    rw [Nat.mul_one] at h6 ⊢
    have : (cur.toList.take op.length).take n = cur.toList.take n := by rw [List.take_take, Nat.min_eq_left hn]
    rw [← this, h6]
    simp [natC]
def PostS (w : World) (base g : Nat) (lv : Value) (mv ov dv pv : Value) (r : Ending) (s' : WK) (e : Ending) (w' : World) : Prop :=
  e = r ∧ ∃ ov' dv' pv', WS (mine g mv ov dv pv) w w' base g lv s' mv ov' dv' pv'
theorem natC_get (l : List Nat) (j : Nat) (x : Nat) (h : l[j]? = some x) : (natC l)[j]? = some (.int .i64 (x : Int)) := by simp [natC, h]
theorem setAll_snoc (m : List Int) (v : Int) (l : List Nat) (x : Nat) : setAll m v (l ++ [x]) = (setAll m v l).set x v := by simp [setAll]
theorem own_shape {w : World} {base : Nat} {e : TypeId} {size : Nat} {v : Value} {n : Nat} {xs : List Value} (h : w.ownsRow base e size v n xs) : ∃ A c, v = .slice A n c := by
  rcases h.2 with ⟨rfl, rfl⟩ | ⟨g, cap, cur, rfl, _⟩
  · exact ⟨none, 0, rfl⟩
  · exact ⟨_, cap, rfl⟩
theorem WX.setMet' {S : Nat → Prop} {w0 W : World} {base g M c N : Nat} {cs : Array Value} {ov dv pv : Value} {met : List Int} {op order loops : List Nat} (hN : met.length = N) (h : WX S w0 W base g cs (.slice (some ⟨M, 0, none⟩) N c) ov dv pv met op order loops) (j : Nat) (hj : j < N) (v : Int) :
    WX S w0 (W.setCell ⟨M, j, none⟩ (.int .i64 v)) base g cs (.slice (some ⟨M, 0, none⟩) N c) ov dv pv (met.set j v) op order loops := by
  subst hN
  exact h.setMet j hj v
theorem natC_one {l : List Nat} : ∀ u ∈ natC l, u.oneCell' = true := by
  intro u hu
  simp only [natC, List.mem_map] at hu
  obtain ⟨x, _, rfl⟩ := hu
  rfl
theorem ring_cells {W : World} {base O c n : Nat} {op ring : List Nat} (h : W.ownsRow base 3 1 (.slice (some ⟨O, 0, none⟩) op.length c) op.length (natC op)) (hr : op.drop n = ring) : ∀ j u, (natC ring)[j]? = some u → W.cell? ((⟨O, n, none⟩ : Addr).add j) = some u := by
  intro j u hu
  have e : (⟨O, n, none⟩ : Addr).add j = ⟨O, n + j, none⟩ := by unfold Addr.add; split <;> simp_all
  simp only [natC, List.getElem?_map, Option.map_eq_some_iff] at hu
  obtain ⟨x, hx, rfl⟩ := hu
  rw [← hr, List.getElem?_drop] at hx
  have hlt := (List.getElem?_eq_some_iff.1 hx).1
  rw [e, h.cellAt (n + j) (by omega)]
  exact natC_get _ _ _ hx
theorem close_eq (s : WK) (n : Nat) (ring : List Nat) (h : s.op.drop n = ring) : closeW n s = ⟨setAll s.met CL ring, s.count, s.op.take n, s.order ++ ring, if 1 < ring.length then s.loops ++ ring else s.loops⟩ := by
  unfold closeW; rw [h]
set_option maxHeartbeats 4000000 in
theorem close_any {S : Nat → Prop} {w0 w : World} {base g : Nat} {lv mv ov dv pv : Value} {s : WK} (h : WS S w0 w base g lv s mv ov dv pv) (n : Nat) (hn : n < s.op.length) (hr : ∀ x ∈ s.op.drop n, x < s.met.length) (b1 : s.op.length ≤ 1048576) (b2 : s.order.length ≤ 1048576) (b3 : s.loops.length ≤ 8388608) (b4 : s.met.length ≤ 1048576) :
    Calls Tryd.prog 40 #[.pointer (some ⟨g, 0, none⟩), .int .i64 n] w (PostS w base g lv mv ov dv pv (.returned (.tuple #[])) (closeW n s)) := by
  have hw := WX.again h
  clear h
  obtain ⟨i0, hi, hz0, hz1, hz2⟩ := info_parts infoI
  have HI := Lib.hid (And.intro hi (And.intro hz0 (And.intro hz1 hz2)))
  clear hi hz0 hz1 hz2
  rcases hw.op.2 with ⟨_, e⟩ | ⟨O, c, curO, rfl, _, hO2, hO3, hO4, _, _⟩
  · omega
  rcases hw.met.2 with ⟨_, e⟩ | ⟨M, cM, curM, rfl, _, _, _, _, _, _⟩
  · obtain ⟨x, hx⟩ : ∃ x, (s.op.drop n)[0]? = some x := ⟨_, List.getElem?_eq_getElem (by rw [List.length_drop]; omega)⟩
    have := hr x (List.mem_of_getElem? hx)
    omega
  have HW := Lib.hid hw
  have HR := Lib.hid hr
  have hMax : s.op.length ≤ c := hO3
  have hMaxc : (c : Int) ≤ 9223372036854775807 := by have := hO4; unfold maxLen at this; omega
  have j1 : (n : Int) < (s.op.length : Int) := by omega
  have j2 : (s.op.length : Int) ≤ (c : Int) := by omega
  have j3 : (0 : Int) ≤ (n : Int) := by omega
  have j4 : (s.op.length : Int) ≤ 1048576 := by omega
  have c3 : w.cell? ⟨g, 3, none⟩ = some (.slice (some ⟨O, 0, none⟩) s.op.length c) := hw.blk.cell 3
  have HN : Hid (n < s.op.length ∧ s.op.length ≤ c) := ⟨hn, hMax⟩
  have HB : Hid (s.op.length ≤ 1048576 ∧ s.order.length ≤ 1048576 ∧ s.loops.length ≤ 8388608 ∧ s.met.length ≤ 1048576) := ⟨b1, b2, b3, b4⟩
  clear hw hr hO2 hO3 hO4 hn b1 b2 b3 b4 hMax
  go_enter Tryd.func40, Tryd.ntmps40
  go_upto_region 2 with fail
  obtain ⟨r, hr⟩ : ∃ r, s.op.length - n = r := ⟨_, rfl⟩
  obtain ⟨ring, hring⟩ : ∃ ring, s.op.drop n = ring := ⟨_, rfl⟩
  rw [hr]
  have HRL : Hid (ring.length = r) := by show ring.length = r; rw [← hring, List.length_drop]; exact hr
  have HRN : Hid (0 < r ∧ r ≤ s.op.length ∧ n + r = s.op.length) := by have := HN.out; exact ⟨by omega, by omega, by omega⟩
  have HRG := Lib.hid hring
  rw [hring] at HR
  have HW1 := HW.out
  obtain ⟨DA, Dc, hdv⟩ := own_shape HW1.order
  obtain ⟨PA, Pc, hpv⟩ := own_shape HW1.loops
  subst hdv
  subst hpv
  clear HW1
  have hr0 : (r : Int) ≤ 1048576 := by have := HB.out; have := HRN.out; omega
  clear hr hring c3
  go_loopw [6, 15] (fun u i wr => ∃ k : Nat, k ≤ r ∧ i = .int .i64 k ∧ WX (mine g (.slice (some ⟨M, 0, none⟩) s.met.length cM) (.slice (some ⟨O, 0, none⟩) s.op.length c) (.slice DA s.order.length Dc) (.slice PA s.loops.length Pc)) w wr base g (cellsW lv (.slice (some ⟨M, 0, none⟩) s.met.length cM) (.slice (some ⟨O, 0, none⟩) s.op.length c) (.slice DA s.order.length Dc) (.slice PA s.loops.length Pc) s.count) (.slice (some ⟨M, 0, none⟩) s.met.length cM) (.slice (some ⟨O, 0, none⟩) s.op.length c) (.slice DA s.order.length Dc) (.slice PA s.loops.length Pc) (setAll s.met CL (ring.take k)) s.op s.order s.loops) (fun _ i _ => r - (intOf i).toNat)
  case atStart => exact ⟨0, by omega, rfl, by simpa [setAll] using HW.out⟩
  case round =>
    obtain ⟨k, hk, rfl, hx⟩ := hrel
    have HX := Lib.hid hx
    clear hx
    by_cases hkr : k < r
    · obtain ⟨x, hxk⟩ : ∃ x, ring[k]? = some x := ⟨_, List.getElem?_eq_getElem (by rw [HRL.out]; exact hkr)⟩
      have hxm := HR.out x (List.mem_of_getElem? hxk)
      have co : wr.cell? ⟨O, n + k, none⟩ = some (.int .i64 (x : Int)) := by
        rw [HX.out.op.cellAt (n + k) (by have := HRN.out; omega)]
        exact natC_get _ _ _ (by rw [← List.getElem?_drop, HRG.out]; exact hxk)
      have c1 : wr.cell? ⟨g, 1, none⟩ = some (.slice (some ⟨M, 0, none⟩) s.met.length cM) := HX.out.blk.cell 1
      have hml : (setAll s.met CL (ring.take k)).length = s.met.length := setAll_length _ _ _
      have hmr := HX.out.met
      rw [hml] at hmr
      obtain ⟨u, cu⟩ : ∃ u, wr.cell? ⟨M, x, none⟩ = some u := by
        rw [hmr.cellAt x (by omega)]
        exact ⟨_, List.getElem?_eq_getElem (by rw [intC_len, hml]; exact hxm)⟩
      have fu : wr.frozen? ⟨M, x, none⟩ = false := hmr.frozenAt x
      have i1 : (x : Int) < (s.met.length : Int) := by omega
      have i2 : (0 : Int) ≤ (x : Int) := by omega
      have i3 : (s.met.length : Int) ≤ 1048576 := by have := HB.out; omega
      have g1 : decide (k < r) = true := by simpa using hkr
      have i4 : (k : Int) < (r : Int) := by omega
      have i5 : (0 : Int) ≤ (k : Int) := by omega
      have HK : Hid (k < r) := hkr
      have HX2 := Lib.hid (HX.out.setMet' hml x hxm CL)
      have HE : Hid ((setAll s.met CL (ring.take k)).set x CL = setAll s.met CL (ring.take (k + 1))) := by
        show _ = _
        rw [List.take_add_one, hxk]
        exact (setAll_snoc _ _ _ _).symm
      clear hxk hxm hml hmr hkr
      go_upto_region 5 with fail
      clear co c1 cu fu
      go_wp2_with fail
      go_roundw
      case rel => exact ⟨k + 1, by have := HK.out; omega, by go_num, HE.out ▸ HX2.out⟩
      case measure => have := HK.out; simp [intOf]; omega
    · have : k = r := by omega
      subst this
      have g1 : decide (k < k) = false := by simp
      have ht : ring.take k = ring := by rw [← HRL.out, List.take_length]
      rw [ht] at HX
      have c5 : wr.cell? ⟨g, 5, none⟩ = some (.slice PA s.loops.length Pc) := HX.out.blk.cell 5
      have f5 : wr.frozen? ⟨g, 5, none⟩ = false := HX.out.blk.frozen 5
      clear ht hkr hk
      by_cases h1 : 1 < k
      · have q1 : decide ((1 : Int) < (k : Int)) = true := by simp; omega
        have q2 : decide (1 < k) = true := by simpa using h1
        have H1 : Hid (1 < k) := h1
        clear h1
        go_upto_region 8 with (at_builtin; refine wpList_append_own_at _ rfl (.tmp 33) (.tmp 34) 52 rfl base 3 i0 _ 1 8 Tryd.underlying52 HI.out.1 HI.out.2.1 HI.out.2.2.1 HI.out.2.2.2 rfl (by decide) (.slice PA s.loops.length Pc) s.loops.length (natC s.loops) rfl HX.out.loops ⟨O, n, none⟩ k (c - n) (natC ring) rfl (by rw [natC_len, HRL.out, Nat.mul_one]) (ring_cells HX.out.op HRG.out) natC_one (by have := HB.out; have := HRN.out; unfold maxLen; omega) (by have := HB.out; have := HRN.out; omega) HX.out.hbase ?_; intro v' w5 hown hgrow _ hat; have HY := Lib.hid (HX.out.grow_loops (by rw [HRL.out]; exact hown) hgrow hat); obtain ⟨A5, k5, hv5⟩ := own_shape hown; subst hv5; have y5 : w5.cell? ⟨g, 5, none⟩ = some (.slice PA s.loops.length Pc) := HY.out.blk.cell 5; have z5 : w5.frozen? ⟨g, 5, none⟩ = false := HY.out.blk.frozen 5; clear hown hgrow hat)
        have HU := Lib.hid (HY.out.cell 5 (.slice A5 (s.loops.length + k) k5))
        clear HY y5 z5 c5 f5 q1 q2
        generalize World.setCell _ _ _ = w6 at HU ⊢
        generalize A5 = PA5 at *
        generalize k5 = Pc5 at *
        have e4 : w6.cell? ⟨g, 4, none⟩ = some (.slice DA s.order.length Dc) := HU.out.blk.cell 4
        go_upto_region 9 with (at_builtin; refine wpList_append_own_at _ rfl (.tmp 42) (.tmp 43) 52 rfl base 3 i0 _ 1 8 Tryd.underlying52 HI.out.1 HI.out.2.1 HI.out.2.2.1 HI.out.2.2.2 rfl (by decide) (.slice DA s.order.length Dc) s.order.length (natC s.order) rfl HU.out.order ⟨O, n, none⟩ k (c - n) (natC ring) rfl (by rw [natC_len, HRL.out, Nat.mul_one]) (ring_cells HU.out.op HRG.out) natC_one (by have := HB.out; have := HRN.out; unfold maxLen; omega) (by have := HB.out; have := HRN.out; omega) HU.out.hbase ?_; intro v' w7 hown hgrow _ hat; have HY := Lib.hid (HU.out.grow_order (by rw [HRL.out]; exact hown) hgrow hat); obtain ⟨A5, k5, hv5⟩ := own_shape hown; subst hv5; have y4 : w7.cell? ⟨g, 4, none⟩ = some (.slice DA s.order.length Dc) := HY.out.blk.cell 4; have z4 : w7.frozen? ⟨g, 4, none⟩ = false := HY.out.blk.frozen 4; clear hown hgrow hat)
        have HZ := Lib.hid (HY.out.cell 4 (.slice A5 (s.order.length + k) k5))
        clear HY y4 z4 e4
        generalize World.setCell _ _ _ = w8 at HZ ⊢
        have e3 : w8.cell? ⟨g, 3, none⟩ = some (.slice (some ⟨O, 0, none⟩) s.op.length c) := HZ.out.blk.cell 3
        have f3 : w8.frozen? ⟨g, 3, none⟩ = false := HZ.out.blk.frozen 3
        have j5 : (n : Int) ≤ (c : Int) := by omega
        go_wp2_with fail
        have HT := (HZ.out.trunc n (by have := HN.out; omega)).cell 3 (.slice (some ⟨O, 0, none⟩) n c)
        go_end0
        refine ⟨rfl, .slice (some ⟨O, 0, none⟩) n c, .slice A5 (s.order.length + k) k5, .slice PA5 (s.loops.length + k) Pc5, ?_⟩
        have e := close_eq s n ring HRG.out
        rw [if_pos (by rw [HRL.out]; exact H1.out)] at e
        unfold WS
        rw [e]
        exact HT
      · have q1 : decide ((1 : Int) < (k : Int)) = false := by simp; omega
        have q2 : decide (1 < k) = false := by simpa using h1
        have H1 : Hid (¬ 1 < k) := h1
        clear h1
        go_upto_region 8 with fail
        clear c5 f5 q1 q2
        have e4 : wr.cell? ⟨g, 4, none⟩ = some (.slice DA s.order.length Dc) := HX.out.blk.cell 4
        go_upto_region 9 with (at_builtin; refine wpList_append_own_at _ rfl (.tmp 42) (.tmp 43) 52 rfl base 3 i0 _ 1 8 Tryd.underlying52 HI.out.1 HI.out.2.1 HI.out.2.2.1 HI.out.2.2.2 rfl (by decide) (.slice DA s.order.length Dc) s.order.length (natC s.order) rfl HX.out.order ⟨O, n, none⟩ k (c - n) (natC ring) rfl (by rw [natC_len, HRL.out, Nat.mul_one]) (ring_cells HX.out.op HRG.out) natC_one (by have := HB.out; have := HRN.out; unfold maxLen; omega) (by have := HB.out; have := HRN.out; omega) HX.out.hbase ?_; intro v' w7 hown hgrow _ hat; have HY := Lib.hid (HX.out.grow_order (by rw [HRL.out]; exact hown) hgrow hat); obtain ⟨A5, k5, hv5⟩ := own_shape hown; subst hv5; have y4 : w7.cell? ⟨g, 4, none⟩ = some (.slice DA s.order.length Dc) := HY.out.blk.cell 4; have z4 : w7.frozen? ⟨g, 4, none⟩ = false := HY.out.blk.frozen 4; clear hown hgrow hat)
        have HZ := Lib.hid (HY.out.cell 4 (.slice A5 (s.order.length + k) k5))
        clear HY y4 z4 e4
        generalize World.setCell _ _ _ = w8 at HZ ⊢
        have e3 : w8.cell? ⟨g, 3, none⟩ = some (.slice (some ⟨O, 0, none⟩) s.op.length c) := HZ.out.blk.cell 3
        have f3 : w8.frozen? ⟨g, 3, none⟩ = false := HZ.out.blk.frozen 3
        have j5 : (n : Int) ≤ (c : Int) := by omega
        go_wp2_with fail
        have HT := (HZ.out.trunc n (by have := HN.out; omega)).cell 3 (.slice (some ⟨O, 0, none⟩) n c)
        go_end0
        refine ⟨rfl, .slice (some ⟨O, 0, none⟩) n c, .slice A5 (s.order.length + k) k5, .slice PA s.loops.length Pc, ?_⟩
        have e := close_eq s n ring HRG.out
        rw [if_neg (by rw [HRL.out]; exact H1.out)] at e
        unfold WS
        rw [e]
        exact HT
end Go.Proofs.YthilkgfbaddjpaaDoor
