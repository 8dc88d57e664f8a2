/-
  Package scalar: Cast.
-/
import Derived.Test.YtjkgbghikhbecaaDoorPSc1
import Derived.Deep.RegionHeld3
namespace Go.Proofs.YtjkgbghikhbecaaDoor
open Go Go.RowKit Go.Maps Tn
set_option linter.unusedVariables false
set_option linter.unusedSimpArgs false
set_option maxRecDepth 100000
/-- The scalar's box, the result's, the span's. -/
structure CB (w : World) (s : SC) (p : B64 × B64) (g : Nat) (W : World) : Prop where
  a : Blk W w.heap.size scT (sC s)
  r : RS w (w.heap.size + 1) W
  q : Blk W g spT (spC p)
  new : w.heap.size ≤ g
theorem CB.keeps {w W W' : World} {s : SC} {p : B64 × B64} {g : Nat} (h : CB w s p g W) (k : Keeps (fun _ => False) W W') : CB w s p g W' := ⟨h.a.keeps k (fun h => h), h.r.keeps k, h.q.keeps k (fun h => h), h.new⟩
theorem CB.call {w W W' : World} {s : SC} {p : B64 × B64} {g : Nat} (h : CB w s p g W) (k : Below W.heap.size W W') : CB w s p g W' := h.keeps (keeps_below k)
theorem CB.push {w W : World} {s : SC} (h : TB w s W) (p : B64 × B64) : CB w s p W.heap.size (W.alloc (.cells (spC p) spT)) := ⟨(h.alloc _).a, (h.alloc _).r, Blk.new W spT _, h.r.below.size⟩
theorem CB.set {w W : World} {s : SC} {p : B64 × B64} {g : Nat} (h : CB w s p g W) (u : B64 × B64) : CB w s u g ((W.setCell ⟨g, 0, none⟩ (uv u.1)).setCell ⟨g, 1, none⟩ (uv u.2)) := by
  obtain ⟨ha, hr, hq, hn⟩ := h
  have n1 : w.heap.size ≠ g := ha.ne_ hq (show scT ≠ spT by decide)
  have n2 : w.heap.size + 1 ≠ g := by
    obtain ⟨⟨cs, _, hb⟩, _, _⟩ := hr
    exact hb.ne_ hq (show scT ≠ spT by decide)
  refine ⟨(ha.far (p := ⟨g, 0, none⟩) n1 _).far (p := ⟨g, 1, none⟩) n1 _, (hr.far n2 hn _).far n2 hn _, ?_, hn⟩
  simpa using (hq.set_ 0 (uv u.1)).set_ 1 (uv u.2)
theorem CB.facts {w W : World} {s : SC} {p : B64 × B64} {g : Nat} (h : CB w s p g W) : (W.cell? ⟨w.heap.size, 0, none⟩ = some (uv s.1.1) ∧ W.cell? ⟨w.heap.size, 1, none⟩ = some (uv s.1.2) ∧ W.cell? ⟨w.heap.size, 2, none⟩ = some (uv s.2.1) ∧ W.cell? ⟨w.heap.size, 3, none⟩ = some (uv s.2.2)) ∧ (W.cell? ⟨g, 0, none⟩ = some (uv p.1) ∧ W.cell? ⟨g, 1, none⟩ = some (uv p.2)) := ⟨h.a.four, h.q.two⟩
set_option maxHeartbeats 1000000 in
theorem ps_cast_8 (s : SC) (w : World) : Calls Tryd.prog 14 #[sv s, .int .i64 8] w fun e w' => e = .returned (sv (castS s 8)) ∧ Below w.heap.size w w' := by
  have F := Lib.hid (TB.new s w)
  have CC := Lib.hid (fun W => pcast_any s.1 8 W)
  have CB1 := Lib.hid (fun W => bounds_any s W)
  have hc : castS s 8 = tightV (tCast s.1 8, if (lowM 8).toNat < s.2.2.toNat then (0, lowM 8) else s.2) := if_pos (by decide)
  rw [hc]
  clear hc
  generalize tCast s.1 8 = TC at *
  obtain ⟨p, hp⟩ : ∃ p, (if (lowM 8).toNat < s.2.2.toNat then (0, lowM 8) else s.2) = p := ⟨_, rfl⟩
  rw [hp]
  have CW := Lib.hid (fun W => within_any TC p W)
  have CT := Lib.hid (fun W => tightened_any (TC, p) W)
  generalize tightV (TC, p) = V at *
  have HP := Lib.hid hp
  clear hp
  go_enter Tryd.func14, Tryd.ntmps14
  go_upto_region 1 with fail
  have hb := F.out
  clear F
  generalize (w.alloc (.cells #[uv s.1.1, uv s.1.2, uv s.2.1, uv s.2.2] scT)).alloc (.cells #[.int .u64 0, .int .u64 0, .int .u64 0, .int .u64 0] scT) = wz at *
  obtain ⟨⟨c0, c1, c2, c3⟩, _⟩ := hb.facts
  have HB := Lib.hid hb
  clear hb
  go_upto_region 6 with fail
  have hb : CB w s (0, lowM 8) wz.heap.size (wz.alloc (.cells #[.int .u64 0, .int .u64 255] spT)) := CB.push HB.out (0, lowM 8)
  generalize wz.alloc (.cells #[.int .u64 0, .int .u64 255] spT) = wa at *
  generalize wz.heap.size = g at *
  clear HB c0 c1 c2 c3
  have HB := Lib.hid hb
  have ff := hb.facts
  obtain ⟨⟨c0, c1, c2, c3⟩, e0, e1⟩ := ff
  have e1' : wa.cell? ⟨g, 1, none⟩ = some (.int .u64 255) := e1
  have e0' : wa.cell? ⟨g, 0, none⟩ = some (.int .u64 0) := e0
  clear hb e0 e1
  have e0 := e0'
  have e1 := e1'
  clear e0' e1'
  by_cases hm : (lowM 8).toNat < s.2.2.toNat
  · have g1 : decide (n64 s.2.2 ≤ n64 (lowM 8)) = false := decide_eq_false (by unfold n64; omega)
    have g2 : decide (n64 s.2.2 ≤ 255) = false := g1
    have hp := HP.out
    rw [if_pos hm] at hp
    clear hm g1 HP CB1
    go_upto_region 8 with fail
    have hb := HB.out
    rw [hp] at hb
    clear hp
    clear HB c0 c1 c2 c3 e0 e1
    have HB := Lib.hid hb
    have ff := hb.facts
    obtain ⟨⟨c0, c1, c2, c3⟩, e0, e1⟩ := ff
    clear hb
    go_region_with (first
      | (go_at_call 33; refine (CC.out _).mono ?_; rintro e w1 ⟨rfl, hb⟩; have hB : CB w s p g w1 := (by first | exact (HB.out.keeps (keeps_drew _)).call hb | exact HB.out.call hb); have ff := hB.facts; obtain ⟨⟨c0, c1, c2, c3⟩, e0, e1⟩ := ff; have HB := Lib.hid hB; clear hB hb)
      | (go_at_call 32; refine (CW.out _).mono ?_; rintro e w2 ⟨rfl, hb⟩; have hB : CB w s p g w2 := (by first | exact (HB.out.keeps (keeps_drew _)).call hb | exact HB.out.call hb); have HB := Lib.hid hB; clear hB hb)
      | (go_at_call 31; refine (CT.out _).mono ?_; rintro e w3 ⟨rfl, hb⟩; have hB : CB w s p g w3 := (by first | exact (HB.out.keeps (keeps_drew _)).call hb | exact HB.out.call hb); have rr := hB.r.frozen; obtain ⟨r0, r1, r2, r3⟩ := rr; have cc := hB.r.cells; obtain ⟨y0, y1, y2, y3, z0, z1, z2, z3⟩ := cc; have HB := Lib.hid hB; clear hB hb))
    all_goals
      go_wp2_with fail
      obtain ⟨k1, k2⟩ := HB.out.r.fill (uv V.1.1) (uv V.1.2) (uv V.2.1) (uv V.2.2)
      refine bodyPost_ret (results_cell_row rfl _ _ (w.heap.size + 1) scT _ (0, 0) _ rfl k1 Tryd.underlying26 rfl (by kernel_rfl)) rfl ?_
      exact ⟨rfl, k2⟩
  · have g1 : decide (n64 s.2.2 ≤ n64 (lowM 8)) = true := decide_eq_true (by unfold n64; omega)
    have g2 : decide (n64 s.2.2 ≤ 255) = true := g1
    have hp := HP.out
    rw [if_neg hm] at hp
    have HP := Lib.hid hp
    clear hm g1 hp
    go_upto_region 7 with fail
    go_upto_region 8 with (go_at_call 30; refine (CB1.out _).mono ?_; rintro e w0 ⟨rfl, hb⟩; have hB := HB.out.call hb; have qq := hB.q.two; obtain ⟨q0, q1⟩ := qq; have qs := hB.q.soft2; obtain ⟨s0, s1⟩ := qs; have HB1 := Lib.hid hB; clear hb hB)
    have hb := HB1.out.set s.2
    clear q0 q1 s0 s1 HB1
    generalize (w0.setCell ⟨g, 0, none⟩ (uv s.2.1)).setCell ⟨g, 1, none⟩ (uv s.2.2) = w4 at *
    rw [HP.out] at hb
    clear HP
    clear HB c0 c1 c2 c3 e0 e1
    have HB := Lib.hid hb
    have ff := hb.facts
    obtain ⟨⟨c0, c1, c2, c3⟩, e0, e1⟩ := ff
    clear hb
    go_region_with (first
      | (go_at_call 33; refine (CC.out _).mono ?_; rintro e w1 ⟨rfl, hb⟩; have hB : CB w s p g w1 := (by first | exact (HB.out.keeps (keeps_drew _)).call hb | exact HB.out.call hb); have ff := hB.facts; obtain ⟨⟨c0, c1, c2, c3⟩, e0, e1⟩ := ff; have HB := Lib.hid hB; clear hB hb)
      | (go_at_call 32; refine (CW.out _).mono ?_; rintro e w2 ⟨rfl, hb⟩; have hB : CB w s p g w2 := (by first | exact (HB.out.keeps (keeps_drew _)).call hb | exact HB.out.call hb); have HB := Lib.hid hB; clear hB hb)
      | (go_at_call 31; refine (CT.out _).mono ?_; rintro e w3 ⟨rfl, hb⟩; have hB : CB w s p g w3 := (by first | exact (HB.out.keeps (keeps_drew _)).call hb | exact HB.out.call hb); have rr := hB.r.frozen; obtain ⟨r0, r1, r2, r3⟩ := rr; have cc := hB.r.cells; obtain ⟨y0, y1, y2, y3, z0, z1, z2, z3⟩ := cc; have HB := Lib.hid hB; clear hB hb))
    all_goals
      go_wp2_with fail
      obtain ⟨k1, k2⟩ := HB.out.r.fill (uv V.1.1) (uv V.1.2) (uv V.2.1) (uv V.2.2)
      refine bodyPost_ret (results_cell_row rfl _ _ (w.heap.size + 1) scT _ (0, 0) _ rfl k1 Tryd.underlying26 rfl (by kernel_rfl)) rfl ?_
      exact ⟨rfl, k2⟩
set_option maxHeartbeats 1000000 in
theorem ps_cast_16 (s : SC) (w : World) : Calls Tryd.prog 14 #[sv s, .int .i64 16] w fun e w' => e = .returned (sv (castS s 16)) ∧ Below w.heap.size w w' := by
  have F := Lib.hid (TB.new s w)
  have CC := Lib.hid (fun W => pcast_any s.1 16 W)
  have CB1 := Lib.hid (fun W => bounds_any s W)
  have hc : castS s 16 = tightV (tCast s.1 16, if (lowM 16).toNat < s.2.2.toNat then (0, lowM 16) else s.2) := if_pos (by decide)
  rw [hc]
  clear hc
  generalize tCast s.1 16 = TC at *
  obtain ⟨p, hp⟩ : ∃ p, (if (lowM 16).toNat < s.2.2.toNat then (0, lowM 16) else s.2) = p := ⟨_, rfl⟩
  rw [hp]
  have CW := Lib.hid (fun W => within_any TC p W)
  have CT := Lib.hid (fun W => tightened_any (TC, p) W)
  generalize tightV (TC, p) = V at *
  have HP := Lib.hid hp
  clear hp
  go_enter Tryd.func14, Tryd.ntmps14
  go_upto_region 1 with fail
  have hb := F.out
  clear F
  generalize (w.alloc (.cells #[uv s.1.1, uv s.1.2, uv s.2.1, uv s.2.2] scT)).alloc (.cells #[.int .u64 0, .int .u64 0, .int .u64 0, .int .u64 0] scT) = wz at *
  obtain ⟨⟨c0, c1, c2, c3⟩, _⟩ := hb.facts
  have HB := Lib.hid hb
  clear hb
  go_upto_region 6 with fail
  have hb : CB w s (0, lowM 16) wz.heap.size (wz.alloc (.cells #[.int .u64 0, .int .u64 65535] spT)) := CB.push HB.out (0, lowM 16)
  generalize wz.alloc (.cells #[.int .u64 0, .int .u64 65535] spT) = wa at *
  generalize wz.heap.size = g at *
  clear HB c0 c1 c2 c3
  have HB := Lib.hid hb
  have ff := hb.facts
  obtain ⟨⟨c0, c1, c2, c3⟩, e0, e1⟩ := ff
  have e1' : wa.cell? ⟨g, 1, none⟩ = some (.int .u64 65535) := e1
  have e0' : wa.cell? ⟨g, 0, none⟩ = some (.int .u64 0) := e0
  clear hb e0 e1
  have e0 := e0'
  have e1 := e1'
  clear e0' e1'
  by_cases hm : (lowM 16).toNat < s.2.2.toNat
  · have g1 : decide (n64 s.2.2 ≤ n64 (lowM 16)) = false := decide_eq_false (by unfold n64; omega)
    have g2 : decide (n64 s.2.2 ≤ 65535) = false := g1
    have hp := HP.out
    rw [if_pos hm] at hp
    clear hm g1 HP CB1
    go_upto_region 8 with fail
    have hb := HB.out
    rw [hp] at hb
    clear hp
    clear HB c0 c1 c2 c3 e0 e1
    have HB := Lib.hid hb
    have ff := hb.facts
    obtain ⟨⟨c0, c1, c2, c3⟩, e0, e1⟩ := ff
    clear hb
    go_region_with (first
      | (go_at_call 33; refine (CC.out _).mono ?_; rintro e w1 ⟨rfl, hb⟩; have hB : CB w s p g w1 := (by first | exact (HB.out.keeps (keeps_drew _)).call hb | exact HB.out.call hb); have ff := hB.facts; obtain ⟨⟨c0, c1, c2, c3⟩, e0, e1⟩ := ff; have HB := Lib.hid hB; clear hB hb)
      | (go_at_call 32; refine (CW.out _).mono ?_; rintro e w2 ⟨rfl, hb⟩; have hB : CB w s p g w2 := (by first | exact (HB.out.keeps (keeps_drew _)).call hb | exact HB.out.call hb); have HB := Lib.hid hB; clear hB hb)
      | (go_at_call 31; refine (CT.out _).mono ?_; rintro e w3 ⟨rfl, hb⟩; have hB : CB w s p g w3 := (by first | exact (HB.out.keeps (keeps_drew _)).call hb | exact HB.out.call hb); have rr := hB.r.frozen; obtain ⟨r0, r1, r2, r3⟩ := rr; have cc := hB.r.cells; obtain ⟨y0, y1, y2, y3, z0, z1, z2, z3⟩ := cc; have HB := Lib.hid hB; clear hB hb))
    all_goals
      go_wp2_with fail
      obtain ⟨k1, k2⟩ := HB.out.r.fill (uv V.1.1) (uv V.1.2) (uv V.2.1) (uv V.2.2)
      refine bodyPost_ret (results_cell_row rfl _ _ (w.heap.size + 1) scT _ (0, 0) _ rfl k1 Tryd.underlying26 rfl (by kernel_rfl)) rfl ?_
      exact ⟨rfl, k2⟩
  · have g1 : decide (n64 s.2.2 ≤ n64 (lowM 16)) = true := decide_eq_true (by unfold n64; omega)
    have g2 : decide (n64 s.2.2 ≤ 65535) = true := g1
    have hp := HP.out
    rw [if_neg hm] at hp
    have HP := Lib.hid hp
    clear hm g1 hp
    go_upto_region 7 with fail
    go_upto_region 8 with (go_at_call 30; refine (CB1.out _).mono ?_; rintro e w0 ⟨rfl, hb⟩; have hB := HB.out.call hb; have qq := hB.q.two; obtain ⟨q0, q1⟩ := qq; have qs := hB.q.soft2; obtain ⟨s0, s1⟩ := qs; have HB1 := Lib.hid hB; clear hb hB)
    have hb := HB1.out.set s.2
    clear q0 q1 s0 s1 HB1
    generalize (w0.setCell ⟨g, 0, none⟩ (uv s.2.1)).setCell ⟨g, 1, none⟩ (uv s.2.2) = w4 at *
    rw [HP.out] at hb
    clear HP
    clear HB c0 c1 c2 c3 e0 e1
    have HB := Lib.hid hb
    have ff := hb.facts
    obtain ⟨⟨c0, c1, c2, c3⟩, e0, e1⟩ := ff
    clear hb
    go_region_with (first
      | (go_at_call 33; refine (CC.out _).mono ?_; rintro e w1 ⟨rfl, hb⟩; have hB : CB w s p g w1 := (by first | exact (HB.out.keeps (keeps_drew _)).call hb | exact HB.out.call hb); have ff := hB.facts; obtain ⟨⟨c0, c1, c2, c3⟩, e0, e1⟩ := ff; have HB := Lib.hid hB; clear hB hb)
      | (go_at_call 32; refine (CW.out _).mono ?_; rintro e w2 ⟨rfl, hb⟩; have hB : CB w s p g w2 := (by first | exact (HB.out.keeps (keeps_drew _)).call hb | exact HB.out.call hb); have HB := Lib.hid hB; clear hB hb)
      | (go_at_call 31; refine (CT.out _).mono ?_; rintro e w3 ⟨rfl, hb⟩; have hB : CB w s p g w3 := (by first | exact (HB.out.keeps (keeps_drew _)).call hb | exact HB.out.call hb); have rr := hB.r.frozen; obtain ⟨r0, r1, r2, r3⟩ := rr; have cc := hB.r.cells; obtain ⟨y0, y1, y2, y3, z0, z1, z2, z3⟩ := cc; have HB := Lib.hid hB; clear hB hb))
    all_goals
      go_wp2_with fail
      obtain ⟨k1, k2⟩ := HB.out.r.fill (uv V.1.1) (uv V.1.2) (uv V.2.1) (uv V.2.2)
      refine bodyPost_ret (results_cell_row rfl _ _ (w.heap.size + 1) scT _ (0, 0) _ rfl k1 Tryd.underlying26 rfl (by kernel_rfl)) rfl ?_
      exact ⟨rfl, k2⟩
set_option maxHeartbeats 1000000 in
theorem ps_cast_32 (s : SC) (w : World) : Calls Tryd.prog 14 #[sv s, .int .i64 32] w fun e w' => e = .returned (sv (castS s 32)) ∧ Below w.heap.size w w' := by
  have F := Lib.hid (TB.new s w)
  have CC := Lib.hid (fun W => pcast_any s.1 32 W)
  have CB1 := Lib.hid (fun W => bounds_any s W)
  have hc : castS s 32 = tightV (tCast s.1 32, if (lowM 32).toNat < s.2.2.toNat then (0, lowM 32) else s.2) := if_pos (by decide)
  rw [hc]
  clear hc
  generalize tCast s.1 32 = TC at *
  obtain ⟨p, hp⟩ : ∃ p, (if (lowM 32).toNat < s.2.2.toNat then (0, lowM 32) else s.2) = p := ⟨_, rfl⟩
  rw [hp]
  have CW := Lib.hid (fun W => within_any TC p W)
  have CT := Lib.hid (fun W => tightened_any (TC, p) W)
  generalize tightV (TC, p) = V at *
  have HP := Lib.hid hp
  clear hp
  go_enter Tryd.func14, Tryd.ntmps14
  go_upto_region 1 with fail
  have hb := F.out
  clear F
  generalize (w.alloc (.cells #[uv s.1.1, uv s.1.2, uv s.2.1, uv s.2.2] scT)).alloc (.cells #[.int .u64 0, .int .u64 0, .int .u64 0, .int .u64 0] scT) = wz at *
  obtain ⟨⟨c0, c1, c2, c3⟩, _⟩ := hb.facts
  have HB := Lib.hid hb
  clear hb
  go_upto_region 6 with fail
  have hb : CB w s (0, lowM 32) wz.heap.size (wz.alloc (.cells #[.int .u64 0, .int .u64 4294967295] spT)) := CB.push HB.out (0, lowM 32)
  generalize wz.alloc (.cells #[.int .u64 0, .int .u64 4294967295] spT) = wa at *
  generalize wz.heap.size = g at *
  clear HB c0 c1 c2 c3
  have HB := Lib.hid hb
  have ff := hb.facts
  obtain ⟨⟨c0, c1, c2, c3⟩, e0, e1⟩ := ff
  have e1' : wa.cell? ⟨g, 1, none⟩ = some (.int .u64 4294967295) := e1
  have e0' : wa.cell? ⟨g, 0, none⟩ = some (.int .u64 0) := e0
  clear hb e0 e1
  have e0 := e0'
  have e1 := e1'
  clear e0' e1'
  by_cases hm : (lowM 32).toNat < s.2.2.toNat
  · have g1 : decide (n64 s.2.2 ≤ n64 (lowM 32)) = false := decide_eq_false (by unfold n64; omega)
    have g2 : decide (n64 s.2.2 ≤ 4294967295) = false := g1
    have hp := HP.out
    rw [if_pos hm] at hp
    clear hm g1 HP CB1
    go_upto_region 8 with fail
    have hb := HB.out
    rw [hp] at hb
    clear hp
    clear HB c0 c1 c2 c3 e0 e1
    have HB := Lib.hid hb
    have ff := hb.facts
    obtain ⟨⟨c0, c1, c2, c3⟩, e0, e1⟩ := ff
    clear hb
    go_region_with (first
      | (go_at_call 33; refine (CC.out _).mono ?_; rintro e w1 ⟨rfl, hb⟩; have hB : CB w s p g w1 := (by first | exact (HB.out.keeps (keeps_drew _)).call hb | exact HB.out.call hb); have ff := hB.facts; obtain ⟨⟨c0, c1, c2, c3⟩, e0, e1⟩ := ff; have HB := Lib.hid hB; clear hB hb)
      | (go_at_call 32; refine (CW.out _).mono ?_; rintro e w2 ⟨rfl, hb⟩; have hB : CB w s p g w2 := (by first | exact (HB.out.keeps (keeps_drew _)).call hb | exact HB.out.call hb); have HB := Lib.hid hB; clear hB hb)
      | (go_at_call 31; refine (CT.out _).mono ?_; rintro e w3 ⟨rfl, hb⟩; have hB : CB w s p g w3 := (by first | exact (HB.out.keeps (keeps_drew _)).call hb | exact HB.out.call hb); have rr := hB.r.frozen; obtain ⟨r0, r1, r2, r3⟩ := rr; have cc := hB.r.cells; obtain ⟨y0, y1, y2, y3, z0, z1, z2, z3⟩ := cc; have HB := Lib.hid hB; clear hB hb))
    all_goals
      go_wp2_with fail
      obtain ⟨k1, k2⟩ := HB.out.r.fill (uv V.1.1) (uv V.1.2) (uv V.2.1) (uv V.2.2)
      refine bodyPost_ret (results_cell_row rfl _ _ (w.heap.size + 1) scT _ (0, 0) _ rfl k1 Tryd.underlying26 rfl (by kernel_rfl)) rfl ?_
      exact ⟨rfl, k2⟩
  · have g1 : decide (n64 s.2.2 ≤ n64 (lowM 32)) = true := decide_eq_true (by unfold n64; omega)
    have g2 : decide (n64 s.2.2 ≤ 4294967295) = true := g1
    have hp := HP.out
    rw [if_neg hm] at hp
    have HP := Lib.hid hp
    clear hm g1 hp
    go_upto_region 7 with fail
    go_upto_region 8 with (go_at_call 30; refine (CB1.out _).mono ?_; rintro e w0 ⟨rfl, hb⟩; have hB := HB.out.call hb; have qq := hB.q.two; obtain ⟨q0, q1⟩ := qq; have qs := hB.q.soft2; obtain ⟨s0, s1⟩ := qs; have HB1 := Lib.hid hB; clear hb hB)
    have hb := HB1.out.set s.2
    clear q0 q1 s0 s1 HB1
    generalize (w0.setCell ⟨g, 0, none⟩ (uv s.2.1)).setCell ⟨g, 1, none⟩ (uv s.2.2) = w4 at *
    rw [HP.out] at hb
    clear HP
    clear HB c0 c1 c2 c3 e0 e1
    have HB := Lib.hid hb
    have ff := hb.facts
    obtain ⟨⟨c0, c1, c2, c3⟩, e0, e1⟩ := ff
    clear hb
    go_region_with (first
      | (go_at_call 33; refine (CC.out _).mono ?_; rintro e w1 ⟨rfl, hb⟩; have hB : CB w s p g w1 := (by first | exact (HB.out.keeps (keeps_drew _)).call hb | exact HB.out.call hb); have ff := hB.facts; obtain ⟨⟨c0, c1, c2, c3⟩, e0, e1⟩ := ff; have HB := Lib.hid hB; clear hB hb)
      | (go_at_call 32; refine (CW.out _).mono ?_; rintro e w2 ⟨rfl, hb⟩; have hB : CB w s p g w2 := (by first | exact (HB.out.keeps (keeps_drew _)).call hb | exact HB.out.call hb); have HB := Lib.hid hB; clear hB hb)
      | (go_at_call 31; refine (CT.out _).mono ?_; rintro e w3 ⟨rfl, hb⟩; have hB : CB w s p g w3 := (by first | exact (HB.out.keeps (keeps_drew _)).call hb | exact HB.out.call hb); have rr := hB.r.frozen; obtain ⟨r0, r1, r2, r3⟩ := rr; have cc := hB.r.cells; obtain ⟨y0, y1, y2, y3, z0, z1, z2, z3⟩ := cc; have HB := Lib.hid hB; clear hB hb))
    all_goals
      go_wp2_with fail
      obtain ⟨k1, k2⟩ := HB.out.r.fill (uv V.1.1) (uv V.1.2) (uv V.2.1) (uv V.2.2)
      refine bodyPost_ret (results_cell_row rfl _ _ (w.heap.size + 1) scT _ (0, 0) _ rfl k1 Tryd.underlying26 rfl (by kernel_rfl)) rfl ?_
      exact ⟨rfl, k2⟩
theorem ps_cast (s : SC) (b : Int) (w : World) : Calls Tryd.prog 14 #[sv s, .int .i64 b] w fun e w' => e = .returned (sv (castS s b)) ∧ Below w.heap.size w w' := by
  by_cases h : b = 8 ∨ b = 16 ∨ b = 32
  · rcases h with rfl | rfl | rfl
    · exact ps_cast_8 s w
    · exact ps_cast_16 s w
    · exact ps_cast_32 s w
  · have F := Lib.hid (TB.new s w)
    have e8 : (b == 8) = false := by simp; exact fun e => h (.inl e)
    have e16 : (b == 16) = false := by simp; exact fun e => h (.inr (.inl e))
    have e32 : (b == 32) = false := by simp; exact fun e => h (.inr (.inr e))
    have E : Hid (castS s b = s) := if_neg h
    clear h
    go_enter Tryd.func14, Tryd.ntmps14
    go_upto_region 1 with fail
    have hb := F.out
    clear F
    generalize (w.alloc (.cells #[uv s.1.1, uv s.1.2, uv s.2.1, uv s.2.2] scT)).alloc (.cells #[.int .u64 0, .int .u64 0, .int .u64 0, .int .u64 0] scT) = wz at *
    obtain ⟨⟨c0, c1, c2, c3⟩, f0, f1, f2, f3⟩ := hb.facts
    have HB := Lib.hid hb
    clear hb
    obtain ⟨r0, r1, r2, r3⟩ := HB.out.r.frozen
    obtain ⟨y0, y1, y2, y3, z0, z1, z2, z3⟩ := HB.out.r.cells
    go_wp2_with fail
    obtain ⟨k1, k2⟩ := HB.out.r.fill (uv s.1.1) (uv s.1.2) (uv s.2.1) (uv s.2.2)
    refine bodyPost_ret (results_cell_row rfl _ _ (w.heap.size + 1) scT _ (0, 0) _ rfl k1 Tryd.underlying26 rfl (by kernel_rfl)) rfl ?_
    exact ⟨by rw [E.out], k2⟩
end Go.Proofs.YtjkgbghikhbecaaDoor
