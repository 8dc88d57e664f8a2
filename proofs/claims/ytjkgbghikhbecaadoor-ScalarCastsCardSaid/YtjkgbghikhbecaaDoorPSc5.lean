/-
  Package scalar: what an operation answers, and Bin, at the chapter's examples.
-/
import Derived.Test.YtjkgbghikhbecaaDoorPSc4
import Derived.Deep.RegionHeld3
import Derived.Deep.CutRange
namespace Go.Proofs.YtjkgbghikhbecaaDoor
open Go Go.RowKit Go.Maps Tn
set_option linter.unusedVariables false
set_option linter.unusedSimpArgs false
set_option maxRecDepth 100000

theorem HL.four (w : World) (t1 t2 t3 t4 : TypeId) (c1 c2 c3 c4 : Array Value) : HL w [(w.heap.size + 1 + 1 + 1, t4, c4), (w.heap.size + 1 + 1, t3, c3), (w.heap.size + 1, t2, c2), (w.heap.size, t1, c1)] ((((w.alloc (.cells c1 t1)).alloc (.cells c2 t2)).alloc (.cells c3 t3)).alloc (.cells c4 t4)) := by
  have h := (HL.three w t1 t2 t3 c1 c2 c3).push t4 c4
  rw [show (((w.alloc (.cells c1 t1)).alloc (.cells c2 t2)).alloc (.cells c3 t3)).heap.size = w.heap.size + 1 + 1 + 1 by simp] at h
  exact h
theorem answer_0 (a b U : SC) (ha : ¬ a.1.2 = 0) (hb : b.1.2 = 0) (hP : Hid (∀ W, Calls Tryd.prog 57 #[.int .i64 0, sv a, sv b] W fun e w' => e = .returned (sv U) ∧ Below W.heap.size W w')) (w : World) :
    Calls Tryd.prog 47 #[opv 0, sv a, sv b] w fun e w' => e = .returned (sv U) ∧ Below w.heap.size w w' := by
  have F := Lib.hid (HL.four w opT scT scT scT (opC 0) (sC a) (sC b) z4)
  have COa := Lib.hid (fun W => ps_only a W)
  have COb := Lib.hid (fun W => ps_only b W)
  rw [decide_eq_false ha] at COa
  rw [decide_eq_true hb] at COb
  clear ha hb
  go_enter Tryd.func47, Tryd.ntmps47
  go_upto_region 1 with fail
  have hb := F.out
  clear F
  generalize (((w.alloc (.cells #[.int .i64 0, .bool true, .bool false] opT)).alloc (.cells #[uv a.1.1, uv a.1.2, uv a.2.1, uv a.2.2] scT)).alloc (.cells #[uv b.1.1, uv b.1.2, uv b.2.1, uv b.2.2] scT)).alloc (.cells #[.int .u64 0, .int .u64 0, .int .u64 0, .int .u64 0] scT) = wz at *
  have HNE : Hid (∀ b' ∈ [(w.heap.size + 1 + 1, scT, sC b), (w.heap.size + 1, scT, sC a), (w.heap.size, opT, opC 0)], b'.1 ≠ w.heap.size + 1 + 1 + 1) := by
    intro b' hb'; simp only [List.mem_cons, List.not_mem_nil, or_false] at hb'; rcases hb' with rfl | rfl | rfl <;> (show _ ≠ _; dsimp only; omega)
  obtain ⟨d0, d1, d2, d3⟩ := hb.all.2.1.four
  obtain ⟨c0, c1, c2, c3⟩ := hb.all.2.2.1.four
  have HB := Lib.hid hb
  clear hb
  go_upto_region 2 with (go_at_call 10; refine (COa.out _).mono ?_; rintro e w1 ⟨rfl, hb⟩; have HB1 := Lib.hid (HB.out.call hb); clear hb)
  clear c0 c1 c2 c3 d0 d1 d2 d3 HB
  obtain ⟨d0, d1, d2, d3⟩ := HB1.out.all.2.1.four
  go_upto_region 3 with (go_at_call 10; refine (COb.out _).mono ?_; rintro e w2 ⟨rfl, hb⟩; have HB := Lib.hid (HB1.out.call hb); clear hb)
  clear d0 d1 d2 d3 HB1
  obtain ⟨d0, d1, d2, d3⟩ := HB.out.all.2.1.four
  obtain ⟨c0, c1, c2, c3⟩ := HB.out.all.2.2.1.four
  obtain ⟨e0, e1, e2⟩ := HB.out.all.2.2.2.1.three
  go_wp2_with (go_at_call 57; refine (hP.out _).mono ?_; rintro e w3 ⟨rfl, hb⟩; have ha := HB.out.call hb; have rr := ha.all.1.soft4; obtain ⟨r0, r1, r2, r3⟩ := rr; have cc := ha.all.1.four; obtain ⟨z0, z1, z2, z3⟩ := cc; have HB := Lib.hid ha; clear ha hb)
  have HB := Lib.hid (HB.out.out4 HNE.out (by omega) U)
  refine bodyPost_ret (results_cell_row rfl _ _ (w.heap.size + 1 + 1 + 1) scT _ (0, 0) _ rfl HB.out.all.1 Tryd.underlying26 rfl (by kernel_rfl)) rfl ?_
  exact ⟨rfl, HB.out.below⟩
theorem answer_80 (a b U : SC) (ha : ¬ a.1.2 = 0) (hb : b.1.2 = 0) (hP : Hid (∀ W, Calls Tryd.prog 57 #[.int .i64 80, sv a, sv b] W fun e w' => e = .returned (sv U) ∧ Below W.heap.size W w')) (w : World) :
    Calls Tryd.prog 47 #[opv 80, sv a, sv b] w fun e w' => e = .returned (sv U) ∧ Below w.heap.size w w' := by
  have F := Lib.hid (HL.four w opT scT scT scT (opC 80) (sC a) (sC b) z4)
  have COa := Lib.hid (fun W => ps_only a W)
  have COb := Lib.hid (fun W => ps_only b W)
  rw [decide_eq_false ha] at COa
  rw [decide_eq_true hb] at COb
  clear ha hb
  go_enter Tryd.func47, Tryd.ntmps47
  go_upto_region 1 with fail
  have hb := F.out
  clear F
  generalize (((w.alloc (.cells #[.int .i64 80, .bool true, .bool false] opT)).alloc (.cells #[uv a.1.1, uv a.1.2, uv a.2.1, uv a.2.2] scT)).alloc (.cells #[uv b.1.1, uv b.1.2, uv b.2.1, uv b.2.2] scT)).alloc (.cells #[.int .u64 0, .int .u64 0, .int .u64 0, .int .u64 0] scT) = wz at *
  have HNE : Hid (∀ b' ∈ [(w.heap.size + 1 + 1, scT, sC b), (w.heap.size + 1, scT, sC a), (w.heap.size, opT, opC 80)], b'.1 ≠ w.heap.size + 1 + 1 + 1) := by
    intro b' hb'; simp only [List.mem_cons, List.not_mem_nil, or_false] at hb'; rcases hb' with rfl | rfl | rfl <;> (show _ ≠ _; dsimp only; omega)
  obtain ⟨d0, d1, d2, d3⟩ := hb.all.2.1.four
  obtain ⟨c0, c1, c2, c3⟩ := hb.all.2.2.1.four
  have HB := Lib.hid hb
  clear hb
  go_upto_region 2 with (go_at_call 10; refine (COa.out _).mono ?_; rintro e w1 ⟨rfl, hb⟩; have HB1 := Lib.hid (HB.out.call hb); clear hb)
  clear c0 c1 c2 c3 d0 d1 d2 d3 HB
  obtain ⟨d0, d1, d2, d3⟩ := HB1.out.all.2.1.four
  go_upto_region 3 with (go_at_call 10; refine (COb.out _).mono ?_; rintro e w2 ⟨rfl, hb⟩; have HB := Lib.hid (HB1.out.call hb); clear hb)
  clear d0 d1 d2 d3 HB1
  obtain ⟨d0, d1, d2, d3⟩ := HB.out.all.2.1.four
  obtain ⟨c0, c1, c2, c3⟩ := HB.out.all.2.2.1.four
  obtain ⟨e0, e1, e2⟩ := HB.out.all.2.2.2.1.three
  go_wp2_with (go_at_call 57; refine (hP.out _).mono ?_; rintro e w3 ⟨rfl, hb⟩; have ha := HB.out.call hb; have rr := ha.all.1.soft4; obtain ⟨r0, r1, r2, r3⟩ := rr; have cc := ha.all.1.four; obtain ⟨z0, z1, z2, z3⟩ := cc; have HB := Lib.hid ha; clear ha hb)
  have HB := Lib.hid (HB.out.out4 HNE.out (by omega) U)
  refine bodyPost_ret (results_cell_row rfl _ _ (w.heap.size + 1 + 1 + 1) scT _ (0, 0) _ rfl HB.out.all.1 Tryd.underlying26 rfl (by kernel_rfl)) rfl ?_
  exact ⟨rfl, HB.out.below⟩
theorem answer_96 (a b U : SC) (ha : ¬ a.1.2 = 0) (hb : b.1.2 = 0) (hc : Hid (bits .and .u64 (n64 (onlyV b)) 63 = 2)) (hP : Hid (∀ W, Calls Tryd.prog 52 #[opv 96, sv a, .int .u64 2] W fun e w' => e = .returned (sv U) ∧ Below W.heap.size W w')) (w : World) :
    Calls Tryd.prog 47 #[opv 96, sv a, sv b] w fun e w' => e = .returned (sv U) ∧ Below w.heap.size w w' := by
  have F := Lib.hid (HL.four w opT scT scT scT (opC 96) (sC a) (sC b) z4)
  have COa := Lib.hid (fun W => ps_only a W)
  have COb := Lib.hid (fun W => ps_only b W)
  rw [decide_eq_false ha] at COa
  rw [decide_eq_true hb] at COb
  clear ha hb
  have CPl := Lib.hid (fun W => places_any 96 W)
  generalize onlyV b = c at *
  have hc' := hc.out
  go_enter Tryd.func47, Tryd.ntmps47
  go_upto_region 1 with fail
  have hb := F.out
  clear F
  generalize (((w.alloc (.cells #[.int .i64 96, .bool true, .bool false] opT)).alloc (.cells #[uv a.1.1, uv a.1.2, uv a.2.1, uv a.2.2] scT)).alloc (.cells #[uv b.1.1, uv b.1.2, uv b.2.1, uv b.2.2] scT)).alloc (.cells #[.int .u64 0, .int .u64 0, .int .u64 0, .int .u64 0] scT) = wz at *
  have HNE : Hid (∀ b' ∈ [(w.heap.size + 1 + 1, scT, sC b), (w.heap.size + 1, scT, sC a), (w.heap.size, opT, opC 96)], b'.1 ≠ w.heap.size + 1 + 1 + 1) := by
    intro b' hb'; simp only [List.mem_cons, List.not_mem_nil, or_false] at hb'; rcases hb' with rfl | rfl | rfl <;> (show _ ≠ _; dsimp only; omega)
  obtain ⟨d0, d1, d2, d3⟩ := hb.all.2.1.four
  obtain ⟨c0, c1, c2, c3⟩ := hb.all.2.2.1.four
  have HB := Lib.hid hb
  clear hb
  go_upto_region 2 with (go_at_call 10; refine (COa.out _).mono ?_; rintro e w1 ⟨rfl, hb⟩; have HB1 := Lib.hid (HB.out.call hb); clear hb)
  clear c0 c1 c2 c3 d0 d1 d2 d3 HB
  obtain ⟨d0, d1, d2, d3⟩ := HB1.out.all.2.1.four
  go_upto_region 3 with (go_at_call 10; refine (COb.out _).mono ?_; rintro e w2 ⟨rfl, hb⟩; have HB := Lib.hid (HB1.out.call hb); clear hb)
  clear d0 d1 d2 d3 HB1
  obtain ⟨d0, d1, d2, d3⟩ := HB.out.all.2.1.four
  obtain ⟨c0, c1, c2, c3⟩ := HB.out.all.2.2.1.four
  obtain ⟨e0, e1, e2⟩ := HB.out.all.2.2.2.1.three
  go_upto_region 11 with fail
  clear c0 c1 c2 c3 d0 d1 d2 d3 e0 e1 e2
  have hb := HB.out.drew
  clear HB
  refine wp_region_noPanic ?_
  refine wp_region_held_drew (S := HL w [(w.heap.size + 1 + 1, scT, sC b), (w.heap.size + 1, scT, sC a), (w.heap.size, opT, opC 96)]) (by kernel_rfl) hb.tail (fun hHeld => ?_)
  change wpAnyH _ _ _ _ _ 8 #[false, false, false, false, false, false, false, false] _ _
  have HB := Lib.hid hb
  clear hb
  generalize w2.drew = wd at *
  refine wpAnyH_take (i := 0) (oi := _) (v := ?_) rfl (by kernel_rfl) (by kernel_rfl) (by kernel_rfl) (fun _ _ _ h => h) (Or.inl ⟨by kernel_rfl, ?_⟩) (by assumption) ?_
  rotate_left 1
  · intro W hSw; obtain ⟨c0, c1, c2, c3⟩ := hSw.all.2.1.four; obtain ⟨e0, e1, e2⟩ := hSw.all.2.2.1.three; go_simp; (try with_reducible rfl)
  simp only [Act.put, List.getElem_toArray, List.getElem_cons_succ, List.getElem_cons_zero, List.setIfInBounds_toArray, List.set_cons_succ, List.set_cons_zero]
  refine wpAnyH_take (i := 1) (oi := _) (v := ?_) rfl (by kernel_rfl) (by kernel_rfl) (by kernel_rfl) (fun _ _ _ h => h) (Or.inl ⟨by kernel_rfl, ?_⟩) (by assumption) ?_
  rotate_left 1
  · intro W hSw; obtain ⟨c0, c1, c2, c3⟩ := hSw.all.2.1.four; obtain ⟨e0, e1, e2⟩ := hSw.all.2.2.1.three; go_simp; (try with_reducible rfl)
  simp only [Act.put, List.getElem_toArray, List.getElem_cons_succ, List.getElem_cons_zero, List.setIfInBounds_toArray, List.set_cons_succ, List.set_cons_zero]
  refine wpAnyH_take (i := 2) (oi := _) (v := ?_) rfl (by kernel_rfl) (by kernel_rfl) (by kernel_rfl) (fun _ _ _ h => h) (Or.inl ⟨by kernel_rfl, ?_⟩) (by assumption) ?_
  rotate_left 1
  · intro W hSw; obtain ⟨c0, c1, c2, c3⟩ := hSw.all.2.1.four; obtain ⟨e0, e1, e2⟩ := hSw.all.2.2.1.three; go_simp; (try with_reducible rfl)
  simp only [Act.put, List.getElem_toArray, List.getElem_cons_succ, List.getElem_cons_zero, List.setIfInBounds_toArray, List.set_cons_succ, List.set_cons_zero]
  refine wpAnyH_take (i := 3) (oi := _) (v := ?_) rfl (by kernel_rfl) (by kernel_rfl) (by kernel_rfl) (fun _ _ _ h => h) (Or.inl ⟨by kernel_rfl, ?_⟩) (by assumption) ?_
  rotate_left 1
  · intro W hSw; obtain ⟨c0, c1, c2, c3⟩ := hSw.all.2.1.four; obtain ⟨e0, e1, e2⟩ := hSw.all.2.2.1.three; go_simp; (try with_reducible rfl)
  simp only [Act.put, List.getElem_toArray, List.getElem_cons_succ, List.getElem_cons_zero, List.setIfInBounds_toArray, List.set_cons_succ, List.set_cons_zero]
  refine wpAnyH_ready (rs := [4]) (by kernel_rfl) (by simp) ?_
  refine AllReadyH.cons (o := _) rfl (fun K hK => ?_) AllReadyH.nil
  go_simp
  go_at_call 53; refine (CPl.out _).mono ?_; rintro e V1 ⟨rfl, hb⟩
  go_wp2_with fail
  have hB := HB.out.call hb
  refine hK.out _ _ (hB.tail) (fun hHeld => ?_)
  have HB := Lib.hid hB
  clear hK K hB hb
  simp only [Act.put, List.getElem_toArray, List.getElem_cons_succ, List.getElem_cons_zero, List.setIfInBounds_toArray, List.set_cons_succ, List.set_cons_zero]
  refine wpAnyH_take (i := 5) (oi := _) (v := ?_) rfl (by kernel_rfl) (by kernel_rfl) (by kernel_rfl) (fun _ _ _ h => h) (Or.inl ⟨by kernel_rfl, ?_⟩) (by assumption) ?_
  rotate_left 1
  · intro W hSw; obtain ⟨c0, c1, c2, c3⟩ := hSw.all.2.1.four; obtain ⟨e0, e1, e2⟩ := hSw.all.2.2.1.three; go_simp; (try with_reducible rfl)
  simp only [Act.put, List.getElem_toArray, List.getElem_cons_succ, List.getElem_cons_zero, List.setIfInBounds_toArray, List.set_cons_succ, List.set_cons_zero]
  refine wpAnyH_ready (rs := [6]) (by kernel_rfl) (by simp) ?_
  refine AllReadyH.cons (o := _) rfl (fun K hK => ?_) AllReadyH.nil
  go_simp
  go_at_call 52; refine (hP.out _).mono ?_; rintro e V2 ⟨rfl, hb⟩
  go_wp2_with fail
  have hB := HB.out.call hb
  refine hK.out _ _ (hB.tail) (fun hHeld => ?_)
  have HB := Lib.hid hB
  clear hK K hB hb
  simp only [Act.put, List.getElem_toArray, List.getElem_cons_succ, List.getElem_cons_zero, List.setIfInBounds_toArray, List.set_cons_succ, List.set_cons_zero]
  refine wpAnyH_ready (rs := [7]) (by kernel_rfl) (by simp) ?_
  refine AllReadyH.cons (o := _) rfl (fun K hK => ?_) AllReadyH.nil
  obtain ⟨r0, r1, r2, r3⟩ := HB.out.all.1.soft4
  obtain ⟨z0, z1, z2, z3⟩ := HB.out.all.1.four
  go_simp
  have hB := HB.out.out4 HNE.out (by omega) U
  dsimp only [st4] at hB
  generalize (((V2.setCell ⟨w.heap.size + 1 + 1 + 1, 0, none⟩ (uv (U).1.1)).setCell ⟨w.heap.size + 1 + 1 + 1, 1, none⟩ (uv (U).1.2)).setCell ⟨w.heap.size + 1 + 1 + 1, 2, none⟩ (uv (U).2.1)).setCell ⟨w.heap.size + 1 + 1 + 1, 3, none⟩ (uv (U).2.2) = V3 at *
  clear r0 r1 r2 r3 z0 z1 z2 z3
  refine hK.out _ _ (hB.tail) (fun hHeld => ?_)
  have HB := Lib.hid hB
  clear hK K hB
  simp only [Act.put, List.getElem_toArray, List.getElem_cons_succ, List.getElem_cons_zero, List.setIfInBounds_toArray, List.set_cons_succ, List.set_cons_zero]
  refine wpAnyH_done (by kernel_rfl) ?_ _
  refine NoPanic.normal ?_
  go_wp2_with fail
  refine bodyPost_ret (results_cell_row rfl _ _ (w.heap.size + 1 + 1 + 1) scT _ (0, 0) _ rfl HB.out.all.1 Tryd.underlying26 rfl (by kernel_rfl)) rfl ?_
  exact ⟨rfl, HB.out.below⟩
theorem bin16_ok (op : Int) (hop : binE op false = 0) (a b U : SC) (hA : Hid (∀ W, Calls Tryd.prog 47 #[opv op, sv a, sv b] W fun e w' => e = .returned (sv U) ∧ Below W.heap.size W w')) (w : World) (hE : Edges w) :
    Calls Tryd.prog 36 #[.int .i64 op, .bool true, .bool false, sv a, sv b] w fun e w' => e = .returned (.tuple #[sv (tightV U), .int .i64 0]) ∧ Below w.heap.size w w' := by
  have F := Lib.hid (HL.three w scT scT scT (sC a) (sC b) z4)
  have CB := Lib.hid (fun W (hb : Below w.heap.size w W) => bin_any true 0 0 W (by decide) (by decide) (by decide) (by decide) (hE.below hb) op false)
  unfold BinGives at CB
  rw [hop] at CB
  clear hE hop
  generalize binV op true false 0 0 = bv at *
  have CT := Lib.hid (fun W => tightened_any U W)
  generalize tightV U = V at *
  go_enter Tryd.func36, Tryd.ntmps36
  go_upto_region 1 with fail
  have hb := F.out
  clear F
  generalize ((w.alloc (.cells #[uv a.1.1, uv a.1.2, uv a.2.1, uv a.2.2] scT)).alloc (.cells #[uv b.1.1, uv b.1.2, uv b.2.1, uv b.2.2] scT)).alloc (.cells #[.int .u64 0, .int .u64 0, .int .u64 0, .int .u64 0] scT) = wz at *
  have HB := Lib.hid hb
  clear hb
  go_upto_region 5 with (go_at_call 46; refine (CB.out _ HB.out.below).mono ?_; rintro e w1 ⟨rfl, hb⟩; have HB1 := Lib.hid (HB.out.call hb); clear hb)
  have hb := (HB1.out.push opT (opC op)).turn
  have hne : Hid (∀ b' ∈ [(w1.heap.size, opT, opC op), (w.heap.size + 1, scT, sC b), (w.heap.size, scT, sC a)], b'.1 ≠ w.heap.size + 1 + 1) :=
    HLs.apart hb.all.1 hb.all.2 (by intro b' hb'; simp only [List.mem_cons, List.not_mem_nil, or_false] at hb'; rcases hb' with rfl | rfl | rfl; exact Or.inr (show opT ≠ scT by decide); exact Or.inl (by show w.heap.size + 1 ≠ _; omega); exact Or.inl (by show w.heap.size ≠ _; omega))
  generalize w1.heap.size = g at *
  generalize w1.alloc (.cells #[.int .i64 op, .bool true, .bool false] opT) = w2 at *
  clear HB HB1
  obtain ⟨e0, e1, e2⟩ := hb.all.2.1.three
  obtain ⟨d0, d1, d2, d3⟩ := hb.all.2.2.1.four
  obtain ⟨c0, c1, c2, c3⟩ := hb.all.2.2.2.1.four
  have HB := Lib.hid hb
  clear hb
  go_wp2_with (first
    | (go_at_call 47; refine (hA.out _).mono ?_; rintro e w3 ⟨rfl, hb⟩; have HB3 := Lib.hid (HB.out.call hb); clear hb)
    | (go_at_call 31; refine (CT.out _).mono ?_; rintro e w4 ⟨rfl, hb⟩; have ha := HB3.out.call hb; have rr := ha.all.1.soft4; obtain ⟨r0, r1, r2, r3⟩ := rr; have cc := ha.all.1.four; obtain ⟨z0, z1, z2, z3⟩ := cc; have HB4 := Lib.hid ha; clear ha hb))
  have HB := Lib.hid (HB4.out.out4 hne.out (by omega) V)
  refine bodyPost_ret (results_row_tmp rfl _ _ (w.heap.size + 1 + 1) scT _ (0, 0) _ rfl HB.out.all.1 Tryd.underlying26 rfl (by kernel_rfl)) rfl ?_
  exact ⟨rfl, HB.out.below⟩
theorem bin16_bad (op : Int) (hop : binOk op false = false) (a b : SC) (w : World) (hE : Edges w) :
    Calls Tryd.prog 36 #[.int .i64 op, .bool true, .bool false, sv a, sv b] w fun e w' => e = .returned (.tuple #[sv zeroS, .int .i64 1]) ∧ Below w.heap.size w w' := by
  have F := Lib.hid (HL.three w scT scT scT (sC a) (sC b) z4)
  have CB := Lib.hid (fun W (hb : Below w.heap.size w W) => bin_bad op true false 0 0 W (hE.below hb) hop)
  unfold BinGives at CB
  clear hE hop
  go_enter Tryd.func36, Tryd.ntmps36
  go_upto_region 1 with fail
  have hb := F.out
  clear F
  generalize ((w.alloc (.cells #[uv a.1.1, uv a.1.2, uv a.2.1, uv a.2.2] scT)).alloc (.cells #[uv b.1.1, uv b.1.2, uv b.2.1, uv b.2.2] scT)).alloc (.cells #[.int .u64 0, .int .u64 0, .int .u64 0, .int .u64 0] scT) = wz at *
  have HB := Lib.hid hb
  clear hb
  have hne : Hid (∀ b' ∈ [(w.heap.size + 1, scT, sC b), (w.heap.size, scT, sC a)], b'.1 ≠ w.heap.size + 1 + 1) := by
    intro b' hb'; simp only [List.mem_cons, List.not_mem_nil, or_false] at hb'; rcases hb' with rfl | rfl <;> (show _ ≠ _; dsimp only; omega)
  go_wp2_with (go_at_call 46; refine (CB.out _ HB.out.below).mono ?_; rintro e w1 ⟨rfl, hb⟩; have ha := HB.out.call hb; have rr := ha.all.1.soft4; obtain ⟨r0, r1, r2, r3⟩ := rr; have cc := ha.all.1.four; obtain ⟨z0, z1, z2, z3⟩ := cc; have HB1 := Lib.hid ha; clear ha hb)
  have HB := Lib.hid (HB1.out.out4 hne.out (by omega) zeroS)
  refine bodyPost_ret (results_row_tmp rfl _ _ (w.heap.size + 1 + 1) scT _ (0, 0) _ rfl HB.out.all.1 Tryd.underlying26 rfl (by kernel_rfl)) rfl ?_
  exact ⟨rfl, HB.out.below⟩
end Go.Proofs.YtjkgbghikhbecaaDoor
