/-
  Law 16's Wide.
-/
import Derived.Test.YtjkgbghikhbecaaDoorSCast
namespace Go.Proofs.YtjkgbghikhbecaaDoor
open Go Go.RowKit Go.Maps Tn
set_option linter.unusedVariables false
set_option linter.unusedSimpArgs false
set_option maxRecDepth 100000
def wideU (s : SC) : SC := ((s.1.1 &&& ~~~s.1.2, s.1.2), if s.2.2.toNat < s.2.1.toNat then (s.2.2, s.2.1) else s.2)
def wideV (s : SC) : SC := if ((tightS (wideU s)).isSome && checkV (tightV (wideU s))) = true then tightV (wideU s) else (((wideU s).1.1, 0), (wideU s).1.1, (wideU s).1.1)
theorem wide_may (s : SC) : may (wideV s).1 := by
  unfold wideV
  split
  · rename_i h
    rw [Bool.and_eq_true] at h
    obtain ⟨h1, _⟩ := h
    unfold tightV
    cases e : tightS (wideU s) with
    | none => rw [e] at h1; cases h1
    | some t =>
      unfold tightS at e
      split at e
      · rename_i m
        exact loop_may 3 m e
      · cases e
  · exact may_const _
theorem TB.setV {w W : World} {s : SC} (h : TB w s W) (x : B64) : TB w ((x, s.1.2), s.2) (W.setCell ⟨w.heap.size, 0, none⟩ (uv x)) := ⟨by simpa using h.a.set_ 0 (uv x), h.r.far (by omega) (Nat.le_refl _) _⟩
theorem TB.setB {w W : World} {s : SC} (h : TB w s W) (x y : B64) : TB w (s.1, x, y) ((W.setCell ⟨w.heap.size, 2, none⟩ (uv x)).setCell ⟨w.heap.size, 3, none⟩ (uv y)) := (h.setMin x).setMax y
set_option maxHeartbeats 2000000 in
theorem wide_any (s : SC) (w : World) : Calls Tryd.prog 9 #[sv s] w fun e w' => e = .returned (sv (wideV s)) ∧ Below w.heap.size w w' := by
  unfold wideV
  obtain ⟨u, hu⟩ : ∃ u, wideU s = u := ⟨_, rfl⟩
  rw [hu]
  have HU := Lib.hid hu
  clear hu
  have CT := Lib.hid (fun W => xs_tight u W)
  have CK := Lib.hid (fun W => xs_check (tightV u) W)
  have CC := Lib.hid (fun W => xs_const u.1.1 W)
  generalize (tightS u).isSome = ok at *
  generalize tightV u = T at *
  generalize checkV T = ck at *
  have F := Lib.hid (TB.new s w)
  have r2 := n64_andNot
  go_enter Tryd.func9, Tryd.ntmps9
  go_upto_region 1 with fail
  have hb := F.out
  clear F
  generalize (w.alloc (.cells #[uv s.1.1, uv s.1.2, uv s.2.1, uv s.2.2] scT)).alloc (.cells #[.int .u64 0, .int .u64 0, .int .u64 0, .int .u64 0] scT) = wz at *
  obtain ⟨⟨c0, c1, c2, c3⟩, f0, f1, f2, f3⟩ := hb.facts
  have HB := Lib.hid hb
  clear hb
  go_upto_region 2 with fail
  have hb := HB.out.setV (s.1.1 &&& ~~~s.1.2)
  generalize wz.setCell ⟨w.heap.size, 0, none⟩ (uv (s.1.1 &&& ~~~s.1.2)) = wa at *
  clear HB c0 c1 c2 c3 f0 f1 f2 f3 r2
  obtain ⟨⟨c0, c1, c2, c3⟩, f0, f1, f2, f3⟩ := hb.facts
  have HB := Lib.hid hb
  clear hb
  obtain ⟨bb, hbb⟩ : ∃ b, decide (n64 s.2.2 < n64 s.2.1) = b := ⟨_, rfl⟩
  go_upto_if 18 with fail
  have HBB := Lib.hid hbb
  clear hbb
  go_cut [] from 5 to 39 (fun wc => TB w u wc)
  case first =>
    cases bb
    rotate_left 1
    · have h : s.2.2.toNat < s.2.1.toNat := by
        have := HBB.out
        rw [decide_eq_true_eq] at this
        unfold n64 at this
        omega
      have HU2 : Hid (u = ((s.1.1 &&& ~~~s.1.2, s.1.2), s.2.2, s.2.1)) := by
        show u = _
        rw [← HU.out]; unfold wideU; rw [if_pos h]
      clear h
      go_wp2_with fail
      go_meet
      case rel => rw [HU2.out]; exact HB.out.setB s.2.2 s.2.1
    · have h : ¬ s.2.2.toNat < s.2.1.toNat := by
        have := HBB.out
        rw [decide_eq_false_iff_not] at this
        unfold n64 at this
        omega
      have HU2 : Hid (u = ((s.1.1 &&& ~~~s.1.2, s.1.2), s.2)) := by
        show u = _
        rw [← HU.out]; unfold wideU; rw [if_neg h]
      clear h
      go_wp2_with fail
      go_meet
      case rel => rw [HU2.out]; exact HB.out
  case rest =>
    clear HB c0 c1 c2 c3 f0 f1 f2 f3
    have hb := hcut
    clear hcut
    obtain ⟨⟨c0, c1, c2, c3⟩, f0, f1, f2, f3⟩ := hb.facts
    have HB := Lib.hid hb
    clear hb
    go_upto_region 5 with (go_at_call 8; refine (CT.out _).mono ?_; rintro e w1 ⟨rfl, hb⟩; have HB1 := Lib.hid (HB.out.call hb); clear hb)
    have hb : TL w u [(w1.heap.size, scT, sC T)] (w1.alloc (.cells (sC T) scT)) := (TL.mk HB1.out trivial : TL w u [] w1).push scT (sC T)
    clear c0 c1 c2 c3 f0 f1 f2 f3 HB HB1
    generalize w1.heap.size = g1 at *
    generalize w1.alloc (.cells #[uv T.1.1, uv T.1.2, uv T.2.1, uv T.2.2] scT) = w2 at *
    obtain ⟨⟨c0, c1, c2, c3⟩, f0, f1, f2, f3⟩ := hb.tb.facts
    obtain ⟨d0, d1, d2, d3⟩ := hb.l.1.four
    obtain ⟨r0, r1, r2, r3⟩ := hb.tb.r.frozen
    obtain ⟨y0, y1, y2, y3, z0, z1, z2, z3⟩ := hb.tb.r.cells
    have HB := Lib.hid hb
    clear hb
    cases ok
    · go_wp2_with (go_at_call 23; refine (CC.out _).mono ?_; rintro e w6 ⟨rfl, hb⟩; have ha := HB.out.call hb; have rr := ha.tb.r.frozen; obtain ⟨r0, r1, r2, r3⟩ := rr; have cc := ha.tb.r.cells; obtain ⟨y0, y1, y2, y3, z0, z1, z2, z3⟩ := cc; have HB := Lib.hid ha; clear ha hb)
      obtain ⟨k1, k2⟩ := HB.out.tb.r.fill (uv u.1.1) (uv 0) (uv u.1.1) (uv u.1.1)
      refine bodyPost_ret (results_cell_row rfl _ _ (w.heap.size + 1) scT _ (0, 0) _ rfl k1 Tryd.underlying26 rfl (by kernel_rfl)) rfl ?_
      exact ⟨rfl, k2⟩
    · cases ck
      · go_wp2_with (first
          | (go_at_call 23; refine (CC.out _).mono ?_; rintro e w6 ⟨rfl, hb⟩; have ha := HB.out.call hb; have rr := ha.tb.r.frozen; obtain ⟨r0, r1, r2, r3⟩ := rr; have cc := ha.tb.r.cells; obtain ⟨y0, y1, y2, y3, z0, z1, z2, z3⟩ := cc; have HB := Lib.hid ha; clear ha hb)
          | (go_at_call 13; refine (CK.out _).mono ?_; rintro e w6 ⟨rfl, hb⟩; have ha := HB.out.call hb; have cc := ha.tb.facts; obtain ⟨⟨c0, c1, c2, c3⟩, _⟩ := cc; have HB := Lib.hid ha; clear ha hb))
        obtain ⟨k1, k2⟩ := HB.out.tb.r.fill (uv u.1.1) (uv 0) (uv u.1.1) (uv u.1.1)
        refine bodyPost_ret (results_cell_row rfl _ _ (w.heap.size + 1) scT _ (0, 0) _ rfl k1 Tryd.underlying26 rfl (by kernel_rfl)) rfl ?_
        exact ⟨rfl, k2⟩
      · go_wp2_with (go_at_call 13; refine (CK.out _).mono ?_; rintro e w6 ⟨rfl, hb⟩; have ha := HB.out.call hb; have rr := ha.tb.r.frozen; obtain ⟨r0, r1, r2, r3⟩ := rr; have cc := ha.tb.r.cells; obtain ⟨y0, y1, y2, y3, z0, z1, z2, z3⟩ := cc; have dd := ha.l.1.four; obtain ⟨d0, d1, d2, d3⟩ := dd; have HB := Lib.hid ha; clear ha hb)
        obtain ⟨k1, k2⟩ := HB.out.tb.r.fill (uv T.1.1) (uv T.1.2) (uv T.2.1) (uv T.2.2)
        refine bodyPost_ret (results_cell_row rfl _ _ (w.heap.size + 1) scT _ (0, 0) _ rfl k1 Tryd.underlying26 rfl (by kernel_rfl)) rfl ?_
        exact ⟨rfl, k2⟩
end Go.Proofs.YtjkgbghikhbecaaDoor
