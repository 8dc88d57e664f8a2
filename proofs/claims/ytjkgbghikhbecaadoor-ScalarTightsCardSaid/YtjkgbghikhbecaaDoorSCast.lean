/-
  The reference of layer 16: Check, tight, Cast.
-/
import Derived.Test.YtjkgbghikhbecaaDoorSTight
import Derived.Test.YtjkgbghikhbecaaDoorTSh
namespace Go.Proofs.YtjkgbghikhbecaaDoor
open Go Go.RowKit Go.Maps Tn
set_option linter.unusedVariables false
set_option linter.unusedSimpArgs false
set_option maxRecDepth 100000
/-- May it be? -/
def checkV (s : SC) : Bool := (tightS s).isSome && decide (tightV s = s)
theorem xs_check (s : SC) (w : World) : Calls Tryd.prog 13 #[sv s] w fun e w' => e = .returned (.bool (checkV s)) ∧ Below w.heap.size w w' := by
  have B := Lib.hid (HL.push (HL.start w) scT (sC s))
  have CT := Lib.hid (fun W => xs_tight s W)
  unfold checkV
  have q : ∀ W, (binOp .eql scT (.agg #[uv (tightV s).1.1, uv (tightV s).1.2, uv (tightV s).2.1, uv (tightV s).2.2]) (.agg #[uv s.1.1, uv s.1.2, uv s.2.1, uv s.2.2])).run Tryd.prog W = .ok (.bool (decide (tightV s = s))) W := fun W => sc_eq (tightV s) s W
  generalize decide (tightV s = s) = eq at *
  generalize tightV s = T at *
  generalize (tightS s).isSome = ok at *
  cases ok
  all_goals
    go_enter Tryd.func13, Tryd.ntmps13
    go_upto_region 1 with fail
    have hb := B.out
    clear B
    generalize w.alloc (.cells #[uv s.1.1, uv s.1.2, uv s.2.1, uv s.2.2] scT) = wz at *
    obtain ⟨c0, c1, c2, c3⟩ := hb.all.1.four
    have HB := Lib.hid hb
    clear hb
    go_upto_region 2 with (go_at_call 8; refine (CT.out _).mono ?_; rintro e w1 ⟨rfl, hb⟩; have HB1 := Lib.hid (HB.out.call hb); clear hb)
    have hb := HB1.out.push scT (sC T)
    clear c0 c1 c2 c3 HB HB1
    generalize w1.heap.size = g1 at *
    generalize w1.alloc (.cells #[uv T.1.1, uv T.1.2, uv T.2.1, uv T.2.2] scT) = w2 at *
    obtain ⟨c0, c1, c2, c3⟩ := hb.all.2.1.four
    obtain ⟨d0, d1, d2, d3⟩ := hb.all.1.four
    have HB := Lib.hid hb
    clear hb
    go_wp2_with fail
    go_ret
    exact ⟨by first | rfl | simp, HB.out.below⟩
theorem xs_tight1 (s : SC) (w : World) : Calls Tryd.prog 35 #[sv s] w fun e w' => e = .returned (sv (tightV s)) ∧ Below w.heap.size w w' := by
  have F := Lib.hid (TB.new s w)
  have CT := Lib.hid (fun W => xs_tight s W)
  generalize tightV s = T at *
  generalize (tightS s).isSome = ok at *
  go_enter Tryd.func35, Tryd.ntmps35
  go_upto_region 1 with fail
  have hb := F.out
  clear F
  generalize (w.alloc (.cells #[uv s.1.1, uv s.1.2, uv s.2.1, uv s.2.2] scT)).alloc (.cells #[.int .u64 0, .int .u64 0, .int .u64 0, .int .u64 0] scT) = wz at *
  obtain ⟨⟨c0, c1, c2, c3⟩, _⟩ := hb.facts
  have HB := Lib.hid hb
  clear hb
  go_upto_region 2 with (go_at_call 8; refine (CT.out _).mono ?_; rintro e w1 ⟨rfl, hb⟩; have HB1 := Lib.hid (HB.out.call hb); clear hb)
  have hb : TL w s [(w1.heap.size, scT, sC T)] (w1.alloc (.cells (sC T) scT)) := (TL.mk HB1.out trivial : TL w s [] w1).push scT (sC T)
  clear c0 c1 c2 c3 HB HB1
  generalize w1.heap.size = g1 at *
  generalize w1.alloc (.cells #[uv T.1.1, uv T.1.2, uv T.2.1, uv T.2.2] scT) = w2 at *
  obtain ⟨d0, d1, d2, d3⟩ := hb.l.1.four
  have HB := Lib.hid hb.tb
  clear hb
  obtain ⟨r0, r1, r2, r3⟩ := HB.out.r.frozen
  obtain ⟨y0, y1, y2, y3, z0, z1, z2, z3⟩ := HB.out.r.cells
  go_wp2_with fail
  obtain ⟨k1, k2⟩ := HB.out.r.fill (uv T.1.1) (uv T.1.2) (uv T.2.1) (uv T.2.2)
  refine bodyPost_ret (results_cell_row rfl _ _ (w.heap.size + 1) scT _ (0, 0) _ rfl k1 Tryd.underlying26 rfl (by kernel_rfl)) rfl ?_
  exact ⟨rfl, k2⟩
set_option maxHeartbeats 1000000 in
theorem xs_cast_8 (s : SC) (w : World) : Calls Tryd.prog 15 #[sv s, .int .i64 8] w fun e w' => e = .returned (sv (castS s 8)) ∧ Below w.heap.size w w' := by
  have F := Lib.hid (TB.new s w)
  have CC := Lib.hid (fun W => xcast_any s.1 8 W)
  have hc : castS s 8 = tightV (tCast s.1 8, if (lowM 8).toNat < s.2.2.toNat then (0, lowM 8) else s.2) := if_pos (by decide)
  rw [hc]
  clear hc
  generalize tCast s.1 8 = TC at *
  by_cases hm : (lowM 8).toNat < s.2.2.toNat
  · rw [if_pos hm]
    have g1 : decide (n64 (lowM 8) < n64 s.2.2) = true := decide_eq_true (by unfold n64; omega)
    have g2 : decide (255 < n64 s.2.2) = true := g1
    clear hm
    have CT := Lib.hid (fun W => xs_tight1 (TC, 0, lowM 8) W)
    generalize tightV (TC, 0, lowM 8) = V at *
    go_enter Tryd.func15, Tryd.ntmps15
    go_upto_region 1 with fail
    have hb := F.out
    clear F
    generalize (w.alloc (.cells #[uv s.1.1, uv s.1.2, uv s.2.1, uv s.2.2] scT)).alloc (.cells #[.int .u64 0, .int .u64 0, .int .u64 0, .int .u64 0] scT) = wz at *
    obtain ⟨⟨c0, c1, c2, c3⟩, f0, f1, f2, f3⟩ := hb.facts
    have HB := Lib.hid hb
    clear hb
    go_upto_region 6 with fail
    have hb : TB w (s.1, 0, lowM 8) ((wz.setCell ⟨w.heap.size, 2, none⟩ (.int .u64 0)).setCell ⟨w.heap.size, 3, none⟩ (.int .u64 255)) := (HB.out.setMin 0).setMax (lowM 8)
    generalize (wz.setCell ⟨w.heap.size, 2, none⟩ (.int .u64 0)).setCell ⟨w.heap.size, 3, none⟩ (.int .u64 255) = wa at *
    clear HB c0 c1 c2 c3 f0 f1 f2 f3
    obtain ⟨⟨c0, c1, c2, c3⟩, f0, f1, f2, f3⟩ := hb.facts
    have HB := Lib.hid hb
    clear hb
    go_upto_region 7 with (go_at_call 34; refine (CC.out _).mono ?_; rintro e w1 ⟨rfl, hb⟩; have ha := HB.out.call hb; have cc := ha.facts; obtain ⟨⟨c0, c1, c2, c3⟩, f0, f1, f2, f3⟩ := cc; have HB := Lib.hid ha; clear ha hb)
    have hb := HB.out.setT TC
    generalize (w1.setCell ⟨w.heap.size, 0, none⟩ (uv TC.1)).setCell ⟨w.heap.size, 1, none⟩ (uv TC.2) = w5 at *
    clear HB c0 c1 c2 c3 f0 f1 f2 f3
    obtain ⟨⟨c0, c1, c2, c3⟩, _⟩ := hb.facts
    have HB := Lib.hid hb
    clear hb
    go_wp2_with (go_at_call 35; refine (CT.out _).mono ?_; rintro e w6 ⟨rfl, hb⟩; have ha := HB.out.call hb; have rr := ha.r.frozen; obtain ⟨r0, r1, r2, r3⟩ := rr; have cc := ha.r.cells; obtain ⟨y0, y1, y2, y3, z0, z1, z2, z3⟩ := cc; have HB := Lib.hid ha; clear ha hb)
    obtain ⟨k1, k2⟩ := HB.out.r.fill (uv V.1.1) (uv V.1.2) (uv V.2.1) (uv V.2.2)
    refine bodyPost_ret (results_cell_row rfl _ _ (w.heap.size + 1) scT _ (0, 0) _ rfl k1 Tryd.underlying26 rfl (by kernel_rfl)) rfl ?_
    exact ⟨rfl, k2⟩
  · rw [if_neg hm]
    have g1 : decide (n64 (lowM 8) < n64 s.2.2) = false := decide_eq_false (by unfold n64; omega)
    have g2 : decide (255 < n64 s.2.2) = false := g1
    clear hm
    have CT := Lib.hid (fun W => xs_tight1 (TC, s.2) W)
    generalize tightV (TC, s.2) = V at *
    go_enter Tryd.func15, Tryd.ntmps15
    go_upto_region 1 with fail
    have hb := F.out
    clear F
    generalize (w.alloc (.cells #[uv s.1.1, uv s.1.2, uv s.2.1, uv s.2.2] scT)).alloc (.cells #[.int .u64 0, .int .u64 0, .int .u64 0, .int .u64 0] scT) = wz at *
    obtain ⟨⟨c0, c1, c2, c3⟩, f0, f1, f2, f3⟩ := hb.facts
    have HB := Lib.hid hb
    clear hb
    go_upto_region 7 with (go_at_call 34; refine (CC.out _).mono ?_; rintro e w1 ⟨rfl, hb⟩; have ha := HB.out.call hb; have cc := ha.facts; obtain ⟨⟨c0, c1, c2, c3⟩, f0, f1, f2, f3⟩ := cc; have HB := Lib.hid ha; clear ha hb)
    have hb := HB.out.setT TC
    generalize (w1.setCell ⟨w.heap.size, 0, none⟩ (uv TC.1)).setCell ⟨w.heap.size, 1, none⟩ (uv TC.2) = w5 at *
    clear HB c0 c1 c2 c3 f0 f1 f2 f3
    obtain ⟨⟨c0, c1, c2, c3⟩, _⟩ := hb.facts
    have HB := Lib.hid hb
    clear hb
    go_wp2_with (go_at_call 35; refine (CT.out _).mono ?_; rintro e w6 ⟨rfl, hb⟩; have ha := HB.out.call hb; have rr := ha.r.frozen; obtain ⟨r0, r1, r2, r3⟩ := rr; have cc := ha.r.cells; obtain ⟨y0, y1, y2, y3, z0, z1, z2, z3⟩ := cc; have HB := Lib.hid ha; clear ha hb)
    obtain ⟨k1, k2⟩ := HB.out.r.fill (uv V.1.1) (uv V.1.2) (uv V.2.1) (uv V.2.2)
    refine bodyPost_ret (results_cell_row rfl _ _ (w.heap.size + 1) scT _ (0, 0) _ rfl k1 Tryd.underlying26 rfl (by kernel_rfl)) rfl ?_
    exact ⟨rfl, k2⟩
set_option maxHeartbeats 1000000 in
theorem xs_cast_16 (s : SC) (w : World) : Calls Tryd.prog 15 #[sv s, .int .i64 16] w fun e w' => e = .returned (sv (castS s 16)) ∧ Below w.heap.size w w' := by
  have F := Lib.hid (TB.new s w)
  have CC := Lib.hid (fun W => xcast_any s.1 16 W)
  have hc : castS s 16 = tightV (tCast s.1 16, if (lowM 16).toNat < s.2.2.toNat then (0, lowM 16) else s.2) := if_pos (by decide)
  rw [hc]
  clear hc
  generalize tCast s.1 16 = TC at *
  by_cases hm : (lowM 16).toNat < s.2.2.toNat
  · rw [if_pos hm]
    have g1 : decide (n64 (lowM 16) < n64 s.2.2) = true := decide_eq_true (by unfold n64; omega)
    have g2 : decide (65535 < n64 s.2.2) = true := g1
    clear hm
    have CT := Lib.hid (fun W => xs_tight1 (TC, 0, lowM 16) W)
    generalize tightV (TC, 0, lowM 16) = V at *
    go_enter Tryd.func15, Tryd.ntmps15
    go_upto_region 1 with fail
    have hb := F.out
    clear F
    generalize (w.alloc (.cells #[uv s.1.1, uv s.1.2, uv s.2.1, uv s.2.2] scT)).alloc (.cells #[.int .u64 0, .int .u64 0, .int .u64 0, .int .u64 0] scT) = wz at *
    obtain ⟨⟨c0, c1, c2, c3⟩, f0, f1, f2, f3⟩ := hb.facts
    have HB := Lib.hid hb
    clear hb
    go_upto_region 6 with fail
    have hb : TB w (s.1, 0, lowM 16) ((wz.setCell ⟨w.heap.size, 2, none⟩ (.int .u64 0)).setCell ⟨w.heap.size, 3, none⟩ (.int .u64 65535)) := (HB.out.setMin 0).setMax (lowM 16)
    generalize (wz.setCell ⟨w.heap.size, 2, none⟩ (.int .u64 0)).setCell ⟨w.heap.size, 3, none⟩ (.int .u64 65535) = wa at *
    clear HB c0 c1 c2 c3 f0 f1 f2 f3
    obtain ⟨⟨c0, c1, c2, c3⟩, f0, f1, f2, f3⟩ := hb.facts
    have HB := Lib.hid hb
    clear hb
    go_upto_region 7 with (go_at_call 34; refine (CC.out _).mono ?_; rintro e w1 ⟨rfl, hb⟩; have ha := HB.out.call hb; have cc := ha.facts; obtain ⟨⟨c0, c1, c2, c3⟩, f0, f1, f2, f3⟩ := cc; have HB := Lib.hid ha; clear ha hb)
    have hb := HB.out.setT TC
    generalize (w1.setCell ⟨w.heap.size, 0, none⟩ (uv TC.1)).setCell ⟨w.heap.size, 1, none⟩ (uv TC.2) = w5 at *
    clear HB c0 c1 c2 c3 f0 f1 f2 f3
    obtain ⟨⟨c0, c1, c2, c3⟩, _⟩ := hb.facts
    have HB := Lib.hid hb
    clear hb
    go_wp2_with (go_at_call 35; refine (CT.out _).mono ?_; rintro e w6 ⟨rfl, hb⟩; have ha := HB.out.call hb; have rr := ha.r.frozen; obtain ⟨r0, r1, r2, r3⟩ := rr; have cc := ha.r.cells; obtain ⟨y0, y1, y2, y3, z0, z1, z2, z3⟩ := cc; have HB := Lib.hid ha; clear ha hb)
    obtain ⟨k1, k2⟩ := HB.out.r.fill (uv V.1.1) (uv V.1.2) (uv V.2.1) (uv V.2.2)
    refine bodyPost_ret (results_cell_row rfl _ _ (w.heap.size + 1) scT _ (0, 0) _ rfl k1 Tryd.underlying26 rfl (by kernel_rfl)) rfl ?_
    exact ⟨rfl, k2⟩
  · rw [if_neg hm]
    have g1 : decide (n64 (lowM 16) < n64 s.2.2) = false := decide_eq_false (by unfold n64; omega)
    have g2 : decide (65535 < n64 s.2.2) = false := g1
    clear hm
    have CT := Lib.hid (fun W => xs_tight1 (TC, s.2) W)
    generalize tightV (TC, s.2) = V at *
    go_enter Tryd.func15, Tryd.ntmps15
    go_upto_region 1 with fail
    have hb := F.out
    clear F
    generalize (w.alloc (.cells #[uv s.1.1, uv s.1.2, uv s.2.1, uv s.2.2] scT)).alloc (.cells #[.int .u64 0, .int .u64 0, .int .u64 0, .int .u64 0] scT) = wz at *
    obtain ⟨⟨c0, c1, c2, c3⟩, f0, f1, f2, f3⟩ := hb.facts
    have HB := Lib.hid hb
    clear hb
    go_upto_region 7 with (go_at_call 34; refine (CC.out _).mono ?_; rintro e w1 ⟨rfl, hb⟩; have ha := HB.out.call hb; have cc := ha.facts; obtain ⟨⟨c0, c1, c2, c3⟩, f0, f1, f2, f3⟩ := cc; have HB := Lib.hid ha; clear ha hb)
    have hb := HB.out.setT TC
    generalize (w1.setCell ⟨w.heap.size, 0, none⟩ (uv TC.1)).setCell ⟨w.heap.size, 1, none⟩ (uv TC.2) = w5 at *
    clear HB c0 c1 c2 c3 f0 f1 f2 f3
    obtain ⟨⟨c0, c1, c2, c3⟩, _⟩ := hb.facts
    have HB := Lib.hid hb
    clear hb
    go_wp2_with (go_at_call 35; refine (CT.out _).mono ?_; rintro e w6 ⟨rfl, hb⟩; have ha := HB.out.call hb; have rr := ha.r.frozen; obtain ⟨r0, r1, r2, r3⟩ := rr; have cc := ha.r.cells; obtain ⟨y0, y1, y2, y3, z0, z1, z2, z3⟩ := cc; have HB := Lib.hid ha; clear ha hb)
    obtain ⟨k1, k2⟩ := HB.out.r.fill (uv V.1.1) (uv V.1.2) (uv V.2.1) (uv V.2.2)
    refine bodyPost_ret (results_cell_row rfl _ _ (w.heap.size + 1) scT _ (0, 0) _ rfl k1 Tryd.underlying26 rfl (by kernel_rfl)) rfl ?_
    exact ⟨rfl, k2⟩
set_option maxHeartbeats 1000000 in
theorem xs_cast_32 (s : SC) (w : World) : Calls Tryd.prog 15 #[sv s, .int .i64 32] w fun e w' => e = .returned (sv (castS s 32)) ∧ Below w.heap.size w w' := by
  have F := Lib.hid (TB.new s w)
  have CC := Lib.hid (fun W => xcast_any s.1 32 W)
  have hc : castS s 32 = tightV (tCast s.1 32, if (lowM 32).toNat < s.2.2.toNat then (0, lowM 32) else s.2) := if_pos (by decide)
  rw [hc]
  clear hc
  generalize tCast s.1 32 = TC at *
  by_cases hm : (lowM 32).toNat < s.2.2.toNat
  · rw [if_pos hm]
    have g1 : decide (n64 (lowM 32) < n64 s.2.2) = true := decide_eq_true (by unfold n64; omega)
    have g2 : decide (4294967295 < n64 s.2.2) = true := g1
    clear hm
    have CT := Lib.hid (fun W => xs_tight1 (TC, 0, lowM 32) W)
    generalize tightV (TC, 0, lowM 32) = V at *
    go_enter Tryd.func15, Tryd.ntmps15
    go_upto_region 1 with fail
    have hb := F.out
    clear F
    generalize (w.alloc (.cells #[uv s.1.1, uv s.1.2, uv s.2.1, uv s.2.2] scT)).alloc (.cells #[.int .u64 0, .int .u64 0, .int .u64 0, .int .u64 0] scT) = wz at *
    obtain ⟨⟨c0, c1, c2, c3⟩, f0, f1, f2, f3⟩ := hb.facts
    have HB := Lib.hid hb
    clear hb
    go_upto_region 6 with fail
    have hb : TB w (s.1, 0, lowM 32) ((wz.setCell ⟨w.heap.size, 2, none⟩ (.int .u64 0)).setCell ⟨w.heap.size, 3, none⟩ (.int .u64 4294967295)) := (HB.out.setMin 0).setMax (lowM 32)
    generalize (wz.setCell ⟨w.heap.size, 2, none⟩ (.int .u64 0)).setCell ⟨w.heap.size, 3, none⟩ (.int .u64 4294967295) = wa at *
    clear HB c0 c1 c2 c3 f0 f1 f2 f3
    obtain ⟨⟨c0, c1, c2, c3⟩, f0, f1, f2, f3⟩ := hb.facts
    have HB := Lib.hid hb
    clear hb
    go_upto_region 7 with (go_at_call 34; refine (CC.out _).mono ?_; rintro e w1 ⟨rfl, hb⟩; have ha := HB.out.call hb; have cc := ha.facts; obtain ⟨⟨c0, c1, c2, c3⟩, f0, f1, f2, f3⟩ := cc; have HB := Lib.hid ha; clear ha hb)
    have hb := HB.out.setT TC
    generalize (w1.setCell ⟨w.heap.size, 0, none⟩ (uv TC.1)).setCell ⟨w.heap.size, 1, none⟩ (uv TC.2) = w5 at *
    clear HB c0 c1 c2 c3 f0 f1 f2 f3
    obtain ⟨⟨c0, c1, c2, c3⟩, _⟩ := hb.facts
    have HB := Lib.hid hb
    clear hb
    go_wp2_with (go_at_call 35; refine (CT.out _).mono ?_; rintro e w6 ⟨rfl, hb⟩; have ha := HB.out.call hb; have rr := ha.r.frozen; obtain ⟨r0, r1, r2, r3⟩ := rr; have cc := ha.r.cells; obtain ⟨y0, y1, y2, y3, z0, z1, z2, z3⟩ := cc; have HB := Lib.hid ha; clear ha hb)
    obtain ⟨k1, k2⟩ := HB.out.r.fill (uv V.1.1) (uv V.1.2) (uv V.2.1) (uv V.2.2)
    refine bodyPost_ret (results_cell_row rfl _ _ (w.heap.size + 1) scT _ (0, 0) _ rfl k1 Tryd.underlying26 rfl (by kernel_rfl)) rfl ?_
    exact ⟨rfl, k2⟩
  · rw [if_neg hm]
    have g1 : decide (n64 (lowM 32) < n64 s.2.2) = false := decide_eq_false (by unfold n64; omega)
    have g2 : decide (4294967295 < n64 s.2.2) = false := g1
    clear hm
    have CT := Lib.hid (fun W => xs_tight1 (TC, s.2) W)
    generalize tightV (TC, s.2) = V at *
    go_enter Tryd.func15, Tryd.ntmps15
    go_upto_region 1 with fail
    have hb := F.out
    clear F
    generalize (w.alloc (.cells #[uv s.1.1, uv s.1.2, uv s.2.1, uv s.2.2] scT)).alloc (.cells #[.int .u64 0, .int .u64 0, .int .u64 0, .int .u64 0] scT) = wz at *
    obtain ⟨⟨c0, c1, c2, c3⟩, f0, f1, f2, f3⟩ := hb.facts
    have HB := Lib.hid hb
    clear hb
    go_upto_region 7 with (go_at_call 34; refine (CC.out _).mono ?_; rintro e w1 ⟨rfl, hb⟩; have ha := HB.out.call hb; have cc := ha.facts; obtain ⟨⟨c0, c1, c2, c3⟩, f0, f1, f2, f3⟩ := cc; have HB := Lib.hid ha; clear ha hb)
    have hb := HB.out.setT TC
    generalize (w1.setCell ⟨w.heap.size, 0, none⟩ (uv TC.1)).setCell ⟨w.heap.size, 1, none⟩ (uv TC.2) = w5 at *
    clear HB c0 c1 c2 c3 f0 f1 f2 f3
    obtain ⟨⟨c0, c1, c2, c3⟩, _⟩ := hb.facts
    have HB := Lib.hid hb
    clear hb
    go_wp2_with (go_at_call 35; refine (CT.out _).mono ?_; rintro e w6 ⟨rfl, hb⟩; have ha := HB.out.call hb; have rr := ha.r.frozen; obtain ⟨r0, r1, r2, r3⟩ := rr; have cc := ha.r.cells; obtain ⟨y0, y1, y2, y3, z0, z1, z2, z3⟩ := cc; have HB := Lib.hid ha; clear ha hb)
    obtain ⟨k1, k2⟩ := HB.out.r.fill (uv V.1.1) (uv V.1.2) (uv V.2.1) (uv V.2.2)
    refine bodyPost_ret (results_cell_row rfl _ _ (w.heap.size + 1) scT _ (0, 0) _ rfl k1 Tryd.underlying26 rfl (by kernel_rfl)) rfl ?_
    exact ⟨rfl, k2⟩
theorem xs_cast (s : SC) (b : Int) (w : World) : Calls Tryd.prog 15 #[sv s, .int .i64 b] w fun e w' => e = .returned (sv (castS s b)) ∧ Below w.heap.size w w' := by
  by_cases h : b = 8 ∨ b = 16 ∨ b = 32
  · rcases h with rfl | rfl | rfl
    · exact xs_cast_8 s w
    · exact xs_cast_16 s w
    · exact xs_cast_32 s w
  · have F := Lib.hid (TB.new s w)
    have e8 : (b != 8) = true := by simp; exact fun e => h (.inl e)
    have e16 : (b != 16) = true := by simp; exact fun e => h (.inr (.inl e))
    have e32 : (b != 32) = true := by simp; exact fun e => h (.inr (.inr e))
    have E : Hid (castS s b = s) := if_neg h
    clear h
    go_enter Tryd.func15, Tryd.ntmps15
    go_upto_region 1 with fail
    have hb := F.out
    clear F
    generalize (w.alloc (.cells #[uv s.1.1, uv s.1.2, uv s.2.1, uv s.2.2] scT)).alloc (.cells #[.int .u64 0, .int .u64 0, .int .u64 0, .int .u64 0] scT) = wz at *
    obtain ⟨⟨c0, c1, c2, c3⟩, f0, f1, f2, f3⟩ := hb.facts
    have HB := Lib.hid hb
    clear hb
    obtain ⟨r0, r1, r2, r3⟩ := HB.out.r.frozen
    obtain ⟨y0, y1, y2, y3, z0, z1, z2, z3⟩ := HB.out.r.cells
    go_wp2_with fail
    obtain ⟨k1, k2⟩ := HB.out.r.fill (uv s.1.1) (uv s.1.2) (uv s.2.1) (uv s.2.2)
    refine bodyPost_ret (results_cell_row rfl _ _ (w.heap.size + 1) scT _ (0, 0) _ rfl k1 Tryd.underlying26 rfl (by kernel_rfl)) rfl ?_
    exact ⟨by rw [E.out], k2⟩
end Go.Proofs.YtjkgbghikhbecaaDoor
