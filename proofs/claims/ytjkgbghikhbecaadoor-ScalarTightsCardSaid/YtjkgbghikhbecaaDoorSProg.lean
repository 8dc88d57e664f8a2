/-
  The chapter's examples of layer 16, called; package scalar's contracts.
-/
import Derived.Test.YtjkgbghikhbecaaDoorPSc5
import Derived.Test.YtjkgbghikhbecaaDoorSOne
import Derived.Deep.RegionHeld3
import Derived.Deep.CutRange
namespace Go.Proofs.YtjkgbghikhbecaaDoor
open Go Go.RowKit Go.Maps Tn
set_option linter.unusedVariables false
set_option linter.unusedSimpArgs false
set_option maxRecDepth 100000

/-- A byte; a number. -/
def byteS : SC := castS unknownS 8
def numS (n : B64) : SC := ((n, 0), n, n)
def U0 : SC := (tAdd byteS.1.1 byteS.1.2 (numS 4).1.1 (numS 4).1.2, (byteS.2.1 + (numS 4).2.1, byteS.2.2 + (numS 4).2.2))
def U80 : SC := (tAnd byteS.1 (numS 7).1, (0, minB byteS.2.2 (numS 7).2.2))
def U96 : SC := (tShift 96 true 2 byteS.1, (byteS.2.1 <<< 2, byteS.2.2 <<< 2))
section
variable (w : World) (hE : Edges w)
include hE
theorem awake_0 : Calls Tryd.prog 36 #[.int .i64 0, .bool true, .bool false, sv byteS, sv (numS 4)] w fun e w' => e = .returned (.tuple #[sv (tightV U0), .int .i64 0]) ∧ Below w.heap.size w w' :=
  bin16_ok 0 (by decide) byteS (numS 4) U0 (fun W => answer_0 byteS (numS 4) U0 (by decide +kernel) (by decide +kernel) (fun W => put_gen 0 byteS (numS 4) _ _ (fun W => pbin_0 byteS.1 (numS 4).1 W) (fun W => reach_0 byteS.2 (numS 4).2 (by decide +kernel) W) W) W) w hE
theorem awake_80 : Calls Tryd.prog 36 #[.int .i64 80, .bool true, .bool false, sv byteS, sv (numS 7)] w fun e w' => e = .returned (.tuple #[sv (tightV U80), .int .i64 0]) ∧ Below w.heap.size w w' :=
  bin16_ok 80 (by decide) byteS (numS 7) U80 (fun W => answer_80 byteS (numS 7) U80 (by decide +kernel) (by decide +kernel) (fun W => put_gen 80 byteS (numS 7) _ _ (fun W => pbin_80 byteS.1 (numS 7).1 W) (fun W => reach_80 byteS.2 (numS 7).2 W) W) W) w hE
theorem awake_96 : Calls Tryd.prog 36 #[.int .i64 96, .bool true, .bool false, sv byteS, sv (numS 2)] w fun e w' => e = .returned (.tuple #[sv (tightV U96), .int .i64 0]) ∧ Below w.heap.size w w' :=
  bin16_ok 96 (by decide) byteS (numS 2) U96 (fun W => answer_96 byteS (numS 2) U96 (by decide +kernel) (by decide +kernel) (show bits .and .u64 (n64 (onlyV (numS 2))) 63 = 2 by decide +kernel) (fun W => shifted_2 byteS (by decide +kernel) W) W) w hE
end
theorem num_any (n : B64) (w : World) : Calls Tryd.prog 22 #[uv n] w fun e w' => e = .returned (sv (numS n)) ∧ Below w.heap.size w w' := ps_const n w
set_option maxHeartbeats 1000000 in
theorem awake16 (w : World) (hE : Edges w) : Calls Tryd.prog 16 #[] w fun e w' => e = .returned (.bool true) ∧ Below w.heap.size w w' := by
  have CU := Lib.hid ps_unknown
  have CC : Hid (∀ W, Calls Tryd.prog 14 #[sv unknownS, .int .i64 8] W fun e w' => e = .returned (sv byteS) ∧ Below W.heap.size W w') := fun W => ps_cast unknownS 8 W
  have C4 : Hid (∀ W, Calls Tryd.prog 22 #[.int .u64 4] W fun e w' => e = .returned (sv (numS 4)) ∧ Below W.heap.size W w') := fun W => num_any 4 W
  have C7 : Hid (∀ W, Calls Tryd.prog 22 #[.int .u64 7] W fun e w' => e = .returned (sv (numS 7)) ∧ Below W.heap.size W w') := fun W => num_any 7 W
  have C2 : Hid (∀ W, Calls Tryd.prog 22 #[.int .u64 2] W fun e w' => e = .returned (sv (numS 2)) ∧ Below W.heap.size W w') := fun W => num_any 2 W
  have C5 : Hid (∀ W, Calls Tryd.prog 22 #[.int .u64 5] W fun e w' => e = .returned (sv (numS 5)) ∧ Below W.heap.size W w') := fun W => num_any 5 W
  have CO : Hid (∀ W, Calls Tryd.prog 10 #[sv (numS 5)] W fun e w' => e = .returned (.tuple #[.int .u64 5, .bool true]) ∧ Below W.heap.size W w') := fun W => ps_only (numS 5) W
  have B0 := Lib.hid (fun W (hb : Below w.heap.size w W) => awake_0 W (hE.below hb))
  have B80 := Lib.hid (fun W (hb : Below w.heap.size w W) => awake_80 W (hE.below hb))
  have B96 := Lib.hid (fun W (hb : Below w.heap.size w W) => awake_96 W (hE.below hb))
  have BX := Lib.hid (fun W (hb : Below w.heap.size w W) => bin16_bad 208 (by decide) byteS byteS W (hE.below hb))
  clear hE
  have v1 : n64 (tightV U0).2.1 = 4 := by decide +kernel
  have v2 : n64 (tightV U0).2.2 = 259 := by decide +kernel
  have v3 : n64 (tightV U80).2.2 = 7 := by decide +kernel
  have v4 : n64 (tightV U80).1.2 = 7 := by decide +kernel
  have v5 : n64 (tightV U96).2.2 = 1020 := by decide +kernel
  have v6 : n64 (tightV U96).1.2 = 1020 := by decide +kernel
  generalize tightV U0 = X at *
  generalize tightV U80 = Y at *
  generalize tightV U96 = Z at *
  have VS := Lib.hid (And.intro v1 (And.intro v2 (And.intro v3 (And.intro v4 (And.intro v5 v6)))))
  clear v1 v2 v3 v4 v5 v6
  generalize numS 4 = k4 at *
  generalize numS 7 = k7 at *
  generalize numS 2 = k2 at *
  generalize numS 5 = k5 at *
  generalize byteS = b at *
  generalize unknownS = u at *
  have HB := Lib.hid (HL.start w)
  go_enter Tryd.func16, Tryd.ntmps16
  go_upto_region 2 with (first
    | (go_at_call 21; refine (CU.out _).mono ?_; rintro e w1 ⟨rfl, hb⟩; have HB1 := Lib.hid (HB.out.call hb); clear hb)
    | (go_at_call 14; refine (CC.out _).mono ?_; rintro e w2 ⟨rfl, hb⟩; have HB2 := Lib.hid (HB1.out.call hb); clear hb))
  have hb := HB2.out.push scT (sC b)
  clear HB HB1 HB2 CU CC
  generalize w2.heap.size = g at *
  generalize w2.alloc (.cells #[uv b.1.1, uv b.1.2, uv b.2.1, uv b.2.2] scT) = wz at *
  have HB0 := Lib.hid hb
  clear hb
  go_cut [2, 3] from 14 to 95 (fun sa sb wc => ∃ p : Nat, sa = .pointer (some ⟨p, 0, none⟩) ∧ sb = .int .i64 0 ∧ HL w ((p, scT, sC X) :: [(g, scT, sC b)]) wc)
  case first =>
    have hb := HB0.out.drew
    refine wp_region_noPanic ?_
    refine wp_region_held_drew (S := HL w [(g, scT, sC b)]) (by kernel_rfl) (by first | exact hb | exact hb.tail | exact hb.tail.tail) (fun hHeld => ?_)
    change wpAnyH _ _ _ _ _ 9 #[false, false, false, false, false, false, false, false, false] _ _
    have HB := Lib.hid hb
    clear hb HB0
    generalize wz.drew = wd at *
    refine wpAnyH_take (i := 0) (oi := _) (v := ?_) rfl (by kernel_rfl) (by kernel_rfl) (by kernel_rfl) (fun _ _ _ h => h) (Or.inl ⟨by kernel_rfl, ?_⟩) (by assumption) ?_
    rotate_left 1
    · intro W hSw; obtain ⟨c0, c1, c2, c3⟩ := hSw.all.1.four; go_simp; (try with_reducible rfl)
    simp only [Act.put, List.getElem_toArray, List.getElem_cons_succ, List.getElem_cons_zero, List.setIfInBounds_toArray, List.set_cons_succ, List.set_cons_zero]
    refine wpAnyH_ready (rs := [1, 6]) (by kernel_rfl) (by simp) ?_
    refine AllReadyH.cons (o := _) rfl (fun K hK => ?_) (AllReadyH.cons (o := _) rfl (fun K hK => ?_) AllReadyH.nil)
    · go_simp
      go_at_call 22; refine (C4.out _).mono ?_; rintro e V1 ⟨rfl, hb⟩
      go_wp2_with fail
      have hB := HB.out.call hb
      refine hK.out _ _ (by first | exact hB | exact hB.tail | exact hB.tail.tail | exact hB.tail.tail.tail) (fun hHeld => ?_)
      have HB := Lib.hid hB
      clear hK K hB hb
      simp only [Act.put, List.getElem_toArray, List.getElem_cons_succ, List.getElem_cons_zero, List.setIfInBounds_toArray, List.set_cons_succ, List.set_cons_zero]
      refine wpAnyH_ready (rs := [2, 6]) (by kernel_rfl) (by simp) ?_
      refine AllReadyH.cons (o := _) rfl (fun K hK => ?_) (AllReadyH.cons (o := _) rfl (fun K hK => ?_) AllReadyH.nil)
      · go_simp
        go_at_call 36; refine (B0.out _ HB.out.below).mono ?_; rintro e V2 ⟨rfl, hb⟩
        go_wp2_with fail
        have hB := HB.out.call hb
        refine hK.out _ _ (by first | exact hB | exact hB.tail | exact hB.tail.tail | exact hB.tail.tail.tail) (fun hHeld => ?_)
        have HB := Lib.hid hB
        clear hK K hB hb
        simp only [Act.put, List.getElem_toArray, List.getElem_cons_succ, List.getElem_cons_zero, List.setIfInBounds_toArray, List.set_cons_succ, List.set_cons_zero]
        refine wpAnyH_take (i := 3) (oi := _) (v := ?_) rfl (by kernel_rfl) (by kernel_rfl) (by kernel_rfl) (fun _ _ _ h => h) (Or.inl ⟨by kernel_rfl, ?_⟩) (by assumption) ?_
        rotate_left 1
        · intro W hSw; obtain ⟨c0, c1, c2, c3⟩ := hSw.all.1.four; go_simp; (try with_reducible rfl)
        simp only [Act.put, List.getElem_toArray, List.getElem_cons_succ, List.getElem_cons_zero, List.setIfInBounds_toArray, List.set_cons_succ, List.set_cons_zero]
        refine wpAnyH_take (i := 4) (oi := _) (v := ?_) rfl (by kernel_rfl) (by kernel_rfl) (by kernel_rfl) (fun _ _ _ h => h) (Or.inl ⟨by kernel_rfl, ?_⟩) (by assumption) ?_
        rotate_left 1
        · intro W hSw; obtain ⟨c0, c1, c2, c3⟩ := hSw.all.1.four; go_simp; (try with_reducible rfl)
        simp only [Act.put, List.getElem_toArray, List.getElem_cons_succ, List.getElem_cons_zero, List.setIfInBounds_toArray, List.set_cons_succ, List.set_cons_zero]
        refine wpAnyH_take (i := 5) (oi := _) (v := ?_) rfl (by kernel_rfl) (by kernel_rfl) (by kernel_rfl) (fun _ _ _ h => h) (Or.inl ⟨by kernel_rfl, ?_⟩) (by assumption) ?_
        rotate_left 1
        · intro W hSw; obtain ⟨c0, c1, c2, c3⟩ := hSw.all.1.four; go_simp; (try with_reducible rfl)
        simp only [Act.put, List.getElem_toArray, List.getElem_cons_succ, List.getElem_cons_zero, List.setIfInBounds_toArray, List.set_cons_succ, List.set_cons_zero]
        refine wpAnyH_ready (rs := [6]) (by kernel_rfl) (by simp) ?_
        refine AllReadyH.cons (o := _) rfl (fun K hK => ?_) AllReadyH.nil
        go_simp
        have HPN := Lib.hid HB.out.all.fresh
        have HPG := Lib.hid HB.out.below.size
        have hB := HB.out.push scT z4
        generalize V2.heap.size = p at *
        generalize V2.alloc (.cells #[.int .u64 0, .int .u64 0, .int .u64 0, .int .u64 0] scT) = V3 at *
        refine hK.out _ _ (by first | exact hB | exact hB.tail | exact hB.tail.tail | exact hB.tail.tail.tail) (fun hHeld => ?_)
        have HB := Lib.hid hB
        clear hK K hB
        simp only [Act.put, List.getElem_toArray, List.getElem_cons_succ, List.getElem_cons_zero, List.setIfInBounds_toArray, List.set_cons_succ, List.set_cons_zero]
        refine wpAnyH_ready (rs := [7]) (by kernel_rfl) (by simp) ?_
        refine AllReadyH.cons (o := _) rfl (fun K hK => ?_) AllReadyH.nil
        obtain ⟨r0, r1, r2, r3⟩ := HB.out.all.1.soft4
        obtain ⟨z0, z1, z2, z3⟩ := HB.out.all.1.four
        go_simp
        have hB := HB.out.out4 HPN.out HPG.out X
        dsimp only [st4] at hB
        generalize (((V3.setCell ⟨p, 0, none⟩ (uv X.1.1)).setCell ⟨p, 1, none⟩ (uv X.1.2)).setCell ⟨p, 2, none⟩ (uv X.2.1)).setCell ⟨p, 3, none⟩ (uv X.2.2) = V4 at *
        clear r0 r1 r2 r3 z0 z1 z2 z3
        refine hK.out _ _ (by first | exact hB | exact hB.tail | exact hB.tail.tail | exact hB.tail.tail.tail) (fun hHeld => ?_)
        have HB := Lib.hid hB
        clear hK K hB
        simp only [Act.put, List.getElem_toArray, List.getElem_cons_succ, List.getElem_cons_zero, List.setIfInBounds_toArray, List.set_cons_succ, List.set_cons_zero]
        refine wpAnyH_take (i := 8) (oi := _) (v := ?_) rfl (by kernel_rfl) (by kernel_rfl) (by kernel_rfl) (fun _ _ _ h => h) (Or.inl ⟨by kernel_rfl, ?_⟩) (by assumption) ?_
        rotate_left 1
        · intro W hSw; obtain ⟨c0, c1, c2, c3⟩ := hSw.all.1.four; go_simp; (try with_reducible rfl)
        simp only [Act.put, List.getElem_toArray, List.getElem_cons_succ, List.getElem_cons_zero, List.setIfInBounds_toArray, List.set_cons_succ, List.set_cons_zero]
        refine wpAnyH_done (by kernel_rfl) ?_ _
        refine NoPanic.normal ?_
        go_wp2_with fail
        go_meet
        case rel => exact ⟨p, rfl, rfl, HB.out⟩
      · go_simp
        have HPN := Lib.hid HB.out.all.fresh
        have HPG := Lib.hid HB.out.below.size
        have hB := HB.out.push scT z4
        generalize V1.heap.size = p at *
        generalize V1.alloc (.cells #[.int .u64 0, .int .u64 0, .int .u64 0, .int .u64 0] scT) = V5 at *
        refine hK.out _ _ (by first | exact hB | exact hB.tail | exact hB.tail.tail | exact hB.tail.tail.tail) (fun hHeld => ?_)
        have HB := Lib.hid hB
        clear hK K hB
        simp only [Act.put, List.getElem_toArray, List.getElem_cons_succ, List.getElem_cons_zero, List.setIfInBounds_toArray, List.set_cons_succ, List.set_cons_zero]
        refine wpAnyH_ready (rs := [2]) (by kernel_rfl) (by simp) ?_
        refine AllReadyH.cons (o := _) rfl (fun K hK => ?_) AllReadyH.nil
        go_simp
        go_at_call 36; refine (B0.out _ HB.out.below).mono ?_; rintro e V6 ⟨rfl, hb⟩
        go_wp2_with fail
        have hB := HB.out.call hb
        refine hK.out _ _ (by first | exact hB | exact hB.tail | exact hB.tail.tail | exact hB.tail.tail.tail) (fun hHeld => ?_)
        have HB := Lib.hid hB
        clear hK K hB hb
        simp only [Act.put, List.getElem_toArray, List.getElem_cons_succ, List.getElem_cons_zero, List.setIfInBounds_toArray, List.set_cons_succ, List.set_cons_zero]
        refine wpAnyH_take (i := 3) (oi := _) (v := ?_) rfl (by kernel_rfl) (by kernel_rfl) (by kernel_rfl) (fun _ _ _ h => h) (Or.inl ⟨by kernel_rfl, ?_⟩) (by assumption) ?_
        rotate_left 1
        · intro W hSw; obtain ⟨c0, c1, c2, c3⟩ := hSw.all.1.four; go_simp; (try with_reducible rfl)
        simp only [Act.put, List.getElem_toArray, List.getElem_cons_succ, List.getElem_cons_zero, List.setIfInBounds_toArray, List.set_cons_succ, List.set_cons_zero]
        refine wpAnyH_take (i := 4) (oi := _) (v := ?_) rfl (by kernel_rfl) (by kernel_rfl) (by kernel_rfl) (fun _ _ _ h => h) (Or.inl ⟨by kernel_rfl, ?_⟩) (by assumption) ?_
        rotate_left 1
        · intro W hSw; obtain ⟨c0, c1, c2, c3⟩ := hSw.all.1.four; go_simp; (try with_reducible rfl)
        simp only [Act.put, List.getElem_toArray, List.getElem_cons_succ, List.getElem_cons_zero, List.setIfInBounds_toArray, List.set_cons_succ, List.set_cons_zero]
        refine wpAnyH_take (i := 5) (oi := _) (v := ?_) rfl (by kernel_rfl) (by kernel_rfl) (by kernel_rfl) (fun _ _ _ h => h) (Or.inl ⟨by kernel_rfl, ?_⟩) (by assumption) ?_
        rotate_left 1
        · intro W hSw; obtain ⟨c0, c1, c2, c3⟩ := hSw.all.1.four; go_simp; (try with_reducible rfl)
        simp only [Act.put, List.getElem_toArray, List.getElem_cons_succ, List.getElem_cons_zero, List.setIfInBounds_toArray, List.set_cons_succ, List.set_cons_zero]
        refine wpAnyH_ready (rs := [7]) (by kernel_rfl) (by simp) ?_
        refine AllReadyH.cons (o := _) rfl (fun K hK => ?_) AllReadyH.nil
        obtain ⟨r0, r1, r2, r3⟩ := HB.out.all.1.soft4
        obtain ⟨z0, z1, z2, z3⟩ := HB.out.all.1.four
        go_simp
        have hB := HB.out.out4 HPN.out HPG.out X
        dsimp only [st4] at hB
        generalize (((V6.setCell ⟨p, 0, none⟩ (uv X.1.1)).setCell ⟨p, 1, none⟩ (uv X.1.2)).setCell ⟨p, 2, none⟩ (uv X.2.1)).setCell ⟨p, 3, none⟩ (uv X.2.2) = V7 at *
        clear r0 r1 r2 r3 z0 z1 z2 z3
        refine hK.out _ _ (by first | exact hB | exact hB.tail | exact hB.tail.tail | exact hB.tail.tail.tail) (fun hHeld => ?_)
        have HB := Lib.hid hB
        clear hK K hB
        simp only [Act.put, List.getElem_toArray, List.getElem_cons_succ, List.getElem_cons_zero, List.setIfInBounds_toArray, List.set_cons_succ, List.set_cons_zero]
        refine wpAnyH_take (i := 8) (oi := _) (v := ?_) rfl (by kernel_rfl) (by kernel_rfl) (by kernel_rfl) (fun _ _ _ h => h) (Or.inl ⟨by kernel_rfl, ?_⟩) (by assumption) ?_
        rotate_left 1
        · intro W hSw; obtain ⟨c0, c1, c2, c3⟩ := hSw.all.1.four; go_simp; (try with_reducible rfl)
        simp only [Act.put, List.getElem_toArray, List.getElem_cons_succ, List.getElem_cons_zero, List.setIfInBounds_toArray, List.set_cons_succ, List.set_cons_zero]
        refine wpAnyH_done (by kernel_rfl) ?_ _
        refine NoPanic.normal ?_
        go_wp2_with fail
        go_meet
        case rel => exact ⟨p, rfl, rfl, HB.out⟩
    · go_simp
      have HPN := Lib.hid HB.out.all.fresh
      have HPG := Lib.hid HB.out.below.size
      have hB := HB.out.push scT z4
      generalize wd.heap.size = p at *
      generalize wd.alloc (.cells #[.int .u64 0, .int .u64 0, .int .u64 0, .int .u64 0] scT) = V8 at *
      refine hK.out _ _ (by first | exact hB | exact hB.tail | exact hB.tail.tail | exact hB.tail.tail.tail) (fun hHeld => ?_)
      have HB := Lib.hid hB
      clear hK K hB
      simp only [Act.put, List.getElem_toArray, List.getElem_cons_succ, List.getElem_cons_zero, List.setIfInBounds_toArray, List.set_cons_succ, List.set_cons_zero]
      refine wpAnyH_ready (rs := [1]) (by kernel_rfl) (by simp) ?_
      refine AllReadyH.cons (o := _) rfl (fun K hK => ?_) AllReadyH.nil
      go_simp
      go_at_call 22; refine (C4.out _).mono ?_; rintro e V9 ⟨rfl, hb⟩
      go_wp2_with fail
      have hB := HB.out.call hb
      refine hK.out _ _ (by first | exact hB | exact hB.tail | exact hB.tail.tail | exact hB.tail.tail.tail) (fun hHeld => ?_)
      have HB := Lib.hid hB
      clear hK K hB hb
      simp only [Act.put, List.getElem_toArray, List.getElem_cons_succ, List.getElem_cons_zero, List.setIfInBounds_toArray, List.set_cons_succ, List.set_cons_zero]
      refine wpAnyH_ready (rs := [2]) (by kernel_rfl) (by simp) ?_
      refine AllReadyH.cons (o := _) rfl (fun K hK => ?_) AllReadyH.nil
      go_simp
      go_at_call 36; refine (B0.out _ HB.out.below).mono ?_; rintro e V10 ⟨rfl, hb⟩
      go_wp2_with fail
      have hB := HB.out.call hb
      refine hK.out _ _ (by first | exact hB | exact hB.tail | exact hB.tail.tail | exact hB.tail.tail.tail) (fun hHeld => ?_)
      have HB := Lib.hid hB
      clear hK K hB hb
      simp only [Act.put, List.getElem_toArray, List.getElem_cons_succ, List.getElem_cons_zero, List.setIfInBounds_toArray, List.set_cons_succ, List.set_cons_zero]
      refine wpAnyH_take (i := 3) (oi := _) (v := ?_) rfl (by kernel_rfl) (by kernel_rfl) (by kernel_rfl) (fun _ _ _ h => h) (Or.inl ⟨by kernel_rfl, ?_⟩) (by assumption) ?_
      rotate_left 1
      · intro W hSw; obtain ⟨c0, c1, c2, c3⟩ := hSw.all.1.four; go_simp; (try with_reducible rfl)
      simp only [Act.put, List.getElem_toArray, List.getElem_cons_succ, List.getElem_cons_zero, List.setIfInBounds_toArray, List.set_cons_succ, List.set_cons_zero]
      refine wpAnyH_take (i := 4) (oi := _) (v := ?_) rfl (by kernel_rfl) (by kernel_rfl) (by kernel_rfl) (fun _ _ _ h => h) (Or.inl ⟨by kernel_rfl, ?_⟩) (by assumption) ?_
      rotate_left 1
      · intro W hSw; obtain ⟨c0, c1, c2, c3⟩ := hSw.all.1.four; go_simp; (try with_reducible rfl)
      simp only [Act.put, List.getElem_toArray, List.getElem_cons_succ, List.getElem_cons_zero, List.setIfInBounds_toArray, List.set_cons_succ, List.set_cons_zero]
      refine wpAnyH_take (i := 5) (oi := _) (v := ?_) rfl (by kernel_rfl) (by kernel_rfl) (by kernel_rfl) (fun _ _ _ h => h) (Or.inl ⟨by kernel_rfl, ?_⟩) (by assumption) ?_
      rotate_left 1
      · intro W hSw; obtain ⟨c0, c1, c2, c3⟩ := hSw.all.1.four; go_simp; (try with_reducible rfl)
      simp only [Act.put, List.getElem_toArray, List.getElem_cons_succ, List.getElem_cons_zero, List.setIfInBounds_toArray, List.set_cons_succ, List.set_cons_zero]
      refine wpAnyH_ready (rs := [7]) (by kernel_rfl) (by simp) ?_
      refine AllReadyH.cons (o := _) rfl (fun K hK => ?_) AllReadyH.nil
      obtain ⟨r0, r1, r2, r3⟩ := HB.out.all.1.soft4
      obtain ⟨z0, z1, z2, z3⟩ := HB.out.all.1.four
      go_simp
      have hB := HB.out.out4 HPN.out HPG.out X
      dsimp only [st4] at hB
      generalize (((V10.setCell ⟨p, 0, none⟩ (uv X.1.1)).setCell ⟨p, 1, none⟩ (uv X.1.2)).setCell ⟨p, 2, none⟩ (uv X.2.1)).setCell ⟨p, 3, none⟩ (uv X.2.2) = V11 at *
      clear r0 r1 r2 r3 z0 z1 z2 z3
      refine hK.out _ _ (by first | exact hB | exact hB.tail | exact hB.tail.tail | exact hB.tail.tail.tail) (fun hHeld => ?_)
      have HB := Lib.hid hB
      clear hK K hB
      simp only [Act.put, List.getElem_toArray, List.getElem_cons_succ, List.getElem_cons_zero, List.setIfInBounds_toArray, List.set_cons_succ, List.set_cons_zero]
      refine wpAnyH_take (i := 8) (oi := _) (v := ?_) rfl (by kernel_rfl) (by kernel_rfl) (by kernel_rfl) (fun _ _ _ h => h) (Or.inl ⟨by kernel_rfl, ?_⟩) (by assumption) ?_
      rotate_left 1
      · intro W hSw; obtain ⟨c0, c1, c2, c3⟩ := hSw.all.1.four; go_simp; (try with_reducible rfl)
      simp only [Act.put, List.getElem_toArray, List.getElem_cons_succ, List.getElem_cons_zero, List.setIfInBounds_toArray, List.set_cons_succ, List.set_cons_zero]
      refine wpAnyH_done (by kernel_rfl) ?_ _
      refine NoPanic.normal ?_
      go_wp2_with fail
      go_meet
      case rel => exact ⟨p, rfl, rfl, HB.out⟩
  case rest =>
    obtain ⟨p, rfl, rfl, hb⟩ := hcut
    have HB0 := Lib.hid hb
    clear hb
    go_upto_region 3 with fail
    go_cut [4, 5] from 20 to 95 (fun sa sb wc => ∃ q : Nat, sa = .pointer (some ⟨q, 0, none⟩) ∧ sb = .int .i64 0 ∧ HL w ((q, scT, sC Y) :: (p, scT, sC X) :: [(g, scT, sC b)]) wc)
    case first =>
      have hb := HB0.out.drew
      refine wp_region_noPanic ?_
      refine wp_region_held_drew (S := HL w [(g, scT, sC b)]) (by kernel_rfl) (by first | exact hb | exact hb.tail | exact hb.tail.tail) (fun hHeld => ?_)
      change wpAnyH _ _ _ _ _ 9 #[false, false, false, false, false, false, false, false, false] _ _
      have HB := Lib.hid hb
      clear hb HB0
      generalize wc.drew = wd at *
      refine wpAnyH_take (i := 0) (oi := _) (v := ?_) rfl (by kernel_rfl) (by kernel_rfl) (by kernel_rfl) (fun _ _ _ h => h) (Or.inl ⟨by kernel_rfl, ?_⟩) (by assumption) ?_
      rotate_left 1
      · intro W hSw; obtain ⟨c0, c1, c2, c3⟩ := hSw.all.1.four; go_simp; (try with_reducible rfl)
      simp only [Act.put, List.getElem_toArray, List.getElem_cons_succ, List.getElem_cons_zero, List.setIfInBounds_toArray, List.set_cons_succ, List.set_cons_zero]
      refine wpAnyH_ready (rs := [1, 6]) (by kernel_rfl) (by simp) ?_
      refine AllReadyH.cons (o := _) rfl (fun K hK => ?_) (AllReadyH.cons (o := _) rfl (fun K hK => ?_) AllReadyH.nil)
      · go_simp
        go_at_call 22; refine (C7.out _).mono ?_; rintro e V1 ⟨rfl, hb⟩
        go_wp2_with fail
        have hB := HB.out.call hb
        refine hK.out _ _ (by first | exact hB | exact hB.tail | exact hB.tail.tail | exact hB.tail.tail.tail) (fun hHeld => ?_)
        have HB := Lib.hid hB
        clear hK K hB hb
        simp only [Act.put, List.getElem_toArray, List.getElem_cons_succ, List.getElem_cons_zero, List.setIfInBounds_toArray, List.set_cons_succ, List.set_cons_zero]
        refine wpAnyH_ready (rs := [2, 6]) (by kernel_rfl) (by simp) ?_
        refine AllReadyH.cons (o := _) rfl (fun K hK => ?_) (AllReadyH.cons (o := _) rfl (fun K hK => ?_) AllReadyH.nil)
        · go_simp
          go_at_call 36; refine (B80.out _ HB.out.below).mono ?_; rintro e V2 ⟨rfl, hb⟩
          go_wp2_with fail
          have hB := HB.out.call hb
          refine hK.out _ _ (by first | exact hB | exact hB.tail | exact hB.tail.tail | exact hB.tail.tail.tail) (fun hHeld => ?_)
          have HB := Lib.hid hB
          clear hK K hB hb
          simp only [Act.put, List.getElem_toArray, List.getElem_cons_succ, List.getElem_cons_zero, List.setIfInBounds_toArray, List.set_cons_succ, List.set_cons_zero]
          refine wpAnyH_take (i := 3) (oi := _) (v := ?_) rfl (by kernel_rfl) (by kernel_rfl) (by kernel_rfl) (fun _ _ _ h => h) (Or.inl ⟨by kernel_rfl, ?_⟩) (by assumption) ?_
          rotate_left 1
          · intro W hSw; obtain ⟨c0, c1, c2, c3⟩ := hSw.all.1.four; go_simp; (try with_reducible rfl)
          simp only [Act.put, List.getElem_toArray, List.getElem_cons_succ, List.getElem_cons_zero, List.setIfInBounds_toArray, List.set_cons_succ, List.set_cons_zero]
          refine wpAnyH_take (i := 4) (oi := _) (v := ?_) rfl (by kernel_rfl) (by kernel_rfl) (by kernel_rfl) (fun _ _ _ h => h) (Or.inl ⟨by kernel_rfl, ?_⟩) (by assumption) ?_
          rotate_left 1
          · intro W hSw; obtain ⟨c0, c1, c2, c3⟩ := hSw.all.1.four; go_simp; (try with_reducible rfl)
          simp only [Act.put, List.getElem_toArray, List.getElem_cons_succ, List.getElem_cons_zero, List.setIfInBounds_toArray, List.set_cons_succ, List.set_cons_zero]
          refine wpAnyH_take (i := 5) (oi := _) (v := ?_) rfl (by kernel_rfl) (by kernel_rfl) (by kernel_rfl) (fun _ _ _ h => h) (Or.inl ⟨by kernel_rfl, ?_⟩) (by assumption) ?_
          rotate_left 1
          · intro W hSw; obtain ⟨c0, c1, c2, c3⟩ := hSw.all.1.four; go_simp; (try with_reducible rfl)
          simp only [Act.put, List.getElem_toArray, List.getElem_cons_succ, List.getElem_cons_zero, List.setIfInBounds_toArray, List.set_cons_succ, List.set_cons_zero]
          refine wpAnyH_ready (rs := [6]) (by kernel_rfl) (by simp) ?_
          refine AllReadyH.cons (o := _) rfl (fun K hK => ?_) AllReadyH.nil
          go_simp
          have HPN := Lib.hid HB.out.all.fresh
          have HPG := Lib.hid HB.out.below.size
          have hB := HB.out.push scT z4
          generalize V2.heap.size = q at *
          generalize V2.alloc (.cells #[.int .u64 0, .int .u64 0, .int .u64 0, .int .u64 0] scT) = V3 at *
          refine hK.out _ _ (by first | exact hB | exact hB.tail | exact hB.tail.tail | exact hB.tail.tail.tail) (fun hHeld => ?_)
          have HB := Lib.hid hB
          clear hK K hB
          simp only [Act.put, List.getElem_toArray, List.getElem_cons_succ, List.getElem_cons_zero, List.setIfInBounds_toArray, List.set_cons_succ, List.set_cons_zero]
          refine wpAnyH_ready (rs := [7]) (by kernel_rfl) (by simp) ?_
          refine AllReadyH.cons (o := _) rfl (fun K hK => ?_) AllReadyH.nil
          obtain ⟨r0, r1, r2, r3⟩ := HB.out.all.1.soft4
          obtain ⟨z0, z1, z2, z3⟩ := HB.out.all.1.four
          go_simp
          have hB := HB.out.out4 HPN.out HPG.out Y
          dsimp only [st4] at hB
          generalize (((V3.setCell ⟨q, 0, none⟩ (uv Y.1.1)).setCell ⟨q, 1, none⟩ (uv Y.1.2)).setCell ⟨q, 2, none⟩ (uv Y.2.1)).setCell ⟨q, 3, none⟩ (uv Y.2.2) = V4 at *
          clear r0 r1 r2 r3 z0 z1 z2 z3
          refine hK.out _ _ (by first | exact hB | exact hB.tail | exact hB.tail.tail | exact hB.tail.tail.tail) (fun hHeld => ?_)
          have HB := Lib.hid hB
          clear hK K hB
          simp only [Act.put, List.getElem_toArray, List.getElem_cons_succ, List.getElem_cons_zero, List.setIfInBounds_toArray, List.set_cons_succ, List.set_cons_zero]
          refine wpAnyH_take (i := 8) (oi := _) (v := ?_) rfl (by kernel_rfl) (by kernel_rfl) (by kernel_rfl) (fun _ _ _ h => h) (Or.inl ⟨by kernel_rfl, ?_⟩) (by assumption) ?_
          rotate_left 1
          · intro W hSw; obtain ⟨c0, c1, c2, c3⟩ := hSw.all.1.four; go_simp; (try with_reducible rfl)
          simp only [Act.put, List.getElem_toArray, List.getElem_cons_succ, List.getElem_cons_zero, List.setIfInBounds_toArray, List.set_cons_succ, List.set_cons_zero]
          refine wpAnyH_done (by kernel_rfl) ?_ _
          refine NoPanic.normal ?_
          go_wp2_with fail
          go_meet
          case rel => exact ⟨q, rfl, rfl, HB.out⟩
        · go_simp
          have HPN := Lib.hid HB.out.all.fresh
          have HPG := Lib.hid HB.out.below.size
          have hB := HB.out.push scT z4
          generalize V1.heap.size = q at *
          generalize V1.alloc (.cells #[.int .u64 0, .int .u64 0, .int .u64 0, .int .u64 0] scT) = V5 at *
          refine hK.out _ _ (by first | exact hB | exact hB.tail | exact hB.tail.tail | exact hB.tail.tail.tail) (fun hHeld => ?_)
          have HB := Lib.hid hB
          clear hK K hB
          simp only [Act.put, List.getElem_toArray, List.getElem_cons_succ, List.getElem_cons_zero, List.setIfInBounds_toArray, List.set_cons_succ, List.set_cons_zero]
          refine wpAnyH_ready (rs := [2]) (by kernel_rfl) (by simp) ?_
          refine AllReadyH.cons (o := _) rfl (fun K hK => ?_) AllReadyH.nil
          go_simp
          go_at_call 36; refine (B80.out _ HB.out.below).mono ?_; rintro e V6 ⟨rfl, hb⟩
          go_wp2_with fail
          have hB := HB.out.call hb
          refine hK.out _ _ (by first | exact hB | exact hB.tail | exact hB.tail.tail | exact hB.tail.tail.tail) (fun hHeld => ?_)
          have HB := Lib.hid hB
          clear hK K hB hb
          simp only [Act.put, List.getElem_toArray, List.getElem_cons_succ, List.getElem_cons_zero, List.setIfInBounds_toArray, List.set_cons_succ, List.set_cons_zero]
          refine wpAnyH_take (i := 3) (oi := _) (v := ?_) rfl (by kernel_rfl) (by kernel_rfl) (by kernel_rfl) (fun _ _ _ h => h) (Or.inl ⟨by kernel_rfl, ?_⟩) (by assumption) ?_
          rotate_left 1
          · intro W hSw; obtain ⟨c0, c1, c2, c3⟩ := hSw.all.1.four; go_simp; (try with_reducible rfl)
          simp only [Act.put, List.getElem_toArray, List.getElem_cons_succ, List.getElem_cons_zero, List.setIfInBounds_toArray, List.set_cons_succ, List.set_cons_zero]
          refine wpAnyH_take (i := 4) (oi := _) (v := ?_) rfl (by kernel_rfl) (by kernel_rfl) (by kernel_rfl) (fun _ _ _ h => h) (Or.inl ⟨by kernel_rfl, ?_⟩) (by assumption) ?_
          rotate_left 1
          · intro W hSw; obtain ⟨c0, c1, c2, c3⟩ := hSw.all.1.four; go_simp; (try with_reducible rfl)
          simp only [Act.put, List.getElem_toArray, List.getElem_cons_succ, List.getElem_cons_zero, List.setIfInBounds_toArray, List.set_cons_succ, List.set_cons_zero]
          refine wpAnyH_take (i := 5) (oi := _) (v := ?_) rfl (by kernel_rfl) (by kernel_rfl) (by kernel_rfl) (fun _ _ _ h => h) (Or.inl ⟨by kernel_rfl, ?_⟩) (by assumption) ?_
          rotate_left 1
          · intro W hSw; obtain ⟨c0, c1, c2, c3⟩ := hSw.all.1.four; go_simp; (try with_reducible rfl)
          simp only [Act.put, List.getElem_toArray, List.getElem_cons_succ, List.getElem_cons_zero, List.setIfInBounds_toArray, List.set_cons_succ, List.set_cons_zero]
          refine wpAnyH_ready (rs := [7]) (by kernel_rfl) (by simp) ?_
          refine AllReadyH.cons (o := _) rfl (fun K hK => ?_) AllReadyH.nil
          obtain ⟨r0, r1, r2, r3⟩ := HB.out.all.1.soft4
          obtain ⟨z0, z1, z2, z3⟩ := HB.out.all.1.four
          go_simp
          have hB := HB.out.out4 HPN.out HPG.out Y
          dsimp only [st4] at hB
          generalize (((V6.setCell ⟨q, 0, none⟩ (uv Y.1.1)).setCell ⟨q, 1, none⟩ (uv Y.1.2)).setCell ⟨q, 2, none⟩ (uv Y.2.1)).setCell ⟨q, 3, none⟩ (uv Y.2.2) = V7 at *
          clear r0 r1 r2 r3 z0 z1 z2 z3
          refine hK.out _ _ (by first | exact hB | exact hB.tail | exact hB.tail.tail | exact hB.tail.tail.tail) (fun hHeld => ?_)
          have HB := Lib.hid hB
          clear hK K hB
          simp only [Act.put, List.getElem_toArray, List.getElem_cons_succ, List.getElem_cons_zero, List.setIfInBounds_toArray, List.set_cons_succ, List.set_cons_zero]
          refine wpAnyH_take (i := 8) (oi := _) (v := ?_) rfl (by kernel_rfl) (by kernel_rfl) (by kernel_rfl) (fun _ _ _ h => h) (Or.inl ⟨by kernel_rfl, ?_⟩) (by assumption) ?_
          rotate_left 1
          · intro W hSw; obtain ⟨c0, c1, c2, c3⟩ := hSw.all.1.four; go_simp; (try with_reducible rfl)
          simp only [Act.put, List.getElem_toArray, List.getElem_cons_succ, List.getElem_cons_zero, List.setIfInBounds_toArray, List.set_cons_succ, List.set_cons_zero]
          refine wpAnyH_done (by kernel_rfl) ?_ _
          refine NoPanic.normal ?_
          go_wp2_with fail
          go_meet
          case rel => exact ⟨q, rfl, rfl, HB.out⟩
      · go_simp
        have HPN := Lib.hid HB.out.all.fresh
        have HPG := Lib.hid HB.out.below.size
        have hB := HB.out.push scT z4
        generalize wd.heap.size = q at *
        generalize wd.alloc (.cells #[.int .u64 0, .int .u64 0, .int .u64 0, .int .u64 0] scT) = V8 at *
        refine hK.out _ _ (by first | exact hB | exact hB.tail | exact hB.tail.tail | exact hB.tail.tail.tail) (fun hHeld => ?_)
        have HB := Lib.hid hB
        clear hK K hB
        simp only [Act.put, List.getElem_toArray, List.getElem_cons_succ, List.getElem_cons_zero, List.setIfInBounds_toArray, List.set_cons_succ, List.set_cons_zero]
        refine wpAnyH_ready (rs := [1]) (by kernel_rfl) (by simp) ?_
        refine AllReadyH.cons (o := _) rfl (fun K hK => ?_) AllReadyH.nil
        go_simp
        go_at_call 22; refine (C7.out _).mono ?_; rintro e V9 ⟨rfl, hb⟩
        go_wp2_with fail
        have hB := HB.out.call hb
        refine hK.out _ _ (by first | exact hB | exact hB.tail | exact hB.tail.tail | exact hB.tail.tail.tail) (fun hHeld => ?_)
        have HB := Lib.hid hB
        clear hK K hB hb
        simp only [Act.put, List.getElem_toArray, List.getElem_cons_succ, List.getElem_cons_zero, List.setIfInBounds_toArray, List.set_cons_succ, List.set_cons_zero]
        refine wpAnyH_ready (rs := [2]) (by kernel_rfl) (by simp) ?_
        refine AllReadyH.cons (o := _) rfl (fun K hK => ?_) AllReadyH.nil
        go_simp
        go_at_call 36; refine (B80.out _ HB.out.below).mono ?_; rintro e V10 ⟨rfl, hb⟩
        go_wp2_with fail
        have hB := HB.out.call hb
        refine hK.out _ _ (by first | exact hB | exact hB.tail | exact hB.tail.tail | exact hB.tail.tail.tail) (fun hHeld => ?_)
        have HB := Lib.hid hB
        clear hK K hB hb
        simp only [Act.put, List.getElem_toArray, List.getElem_cons_succ, List.getElem_cons_zero, List.setIfInBounds_toArray, List.set_cons_succ, List.set_cons_zero]
        refine wpAnyH_take (i := 3) (oi := _) (v := ?_) rfl (by kernel_rfl) (by kernel_rfl) (by kernel_rfl) (fun _ _ _ h => h) (Or.inl ⟨by kernel_rfl, ?_⟩) (by assumption) ?_
        rotate_left 1
        · intro W hSw; obtain ⟨c0, c1, c2, c3⟩ := hSw.all.1.four; go_simp; (try with_reducible rfl)
        simp only [Act.put, List.getElem_toArray, List.getElem_cons_succ, List.getElem_cons_zero, List.setIfInBounds_toArray, List.set_cons_succ, List.set_cons_zero]
        refine wpAnyH_take (i := 4) (oi := _) (v := ?_) rfl (by kernel_rfl) (by kernel_rfl) (by kernel_rfl) (fun _ _ _ h => h) (Or.inl ⟨by kernel_rfl, ?_⟩) (by assumption) ?_
        rotate_left 1
        · intro W hSw; obtain ⟨c0, c1, c2, c3⟩ := hSw.all.1.four; go_simp; (try with_reducible rfl)
        simp only [Act.put, List.getElem_toArray, List.getElem_cons_succ, List.getElem_cons_zero, List.setIfInBounds_toArray, List.set_cons_succ, List.set_cons_zero]
        refine wpAnyH_take (i := 5) (oi := _) (v := ?_) rfl (by kernel_rfl) (by kernel_rfl) (by kernel_rfl) (fun _ _ _ h => h) (Or.inl ⟨by kernel_rfl, ?_⟩) (by assumption) ?_
        rotate_left 1
        · intro W hSw; obtain ⟨c0, c1, c2, c3⟩ := hSw.all.1.four; go_simp; (try with_reducible rfl)
        simp only [Act.put, List.getElem_toArray, List.getElem_cons_succ, List.getElem_cons_zero, List.setIfInBounds_toArray, List.set_cons_succ, List.set_cons_zero]
        refine wpAnyH_ready (rs := [7]) (by kernel_rfl) (by simp) ?_
        refine AllReadyH.cons (o := _) rfl (fun K hK => ?_) AllReadyH.nil
        obtain ⟨r0, r1, r2, r3⟩ := HB.out.all.1.soft4
        obtain ⟨z0, z1, z2, z3⟩ := HB.out.all.1.four
        go_simp
        have hB := HB.out.out4 HPN.out HPG.out Y
        dsimp only [st4] at hB
        generalize (((V10.setCell ⟨q, 0, none⟩ (uv Y.1.1)).setCell ⟨q, 1, none⟩ (uv Y.1.2)).setCell ⟨q, 2, none⟩ (uv Y.2.1)).setCell ⟨q, 3, none⟩ (uv Y.2.2) = V11 at *
        clear r0 r1 r2 r3 z0 z1 z2 z3
        refine hK.out _ _ (by first | exact hB | exact hB.tail | exact hB.tail.tail | exact hB.tail.tail.tail) (fun hHeld => ?_)
        have HB := Lib.hid hB
        clear hK K hB
        simp only [Act.put, List.getElem_toArray, List.getElem_cons_succ, List.getElem_cons_zero, List.setIfInBounds_toArray, List.set_cons_succ, List.set_cons_zero]
        refine wpAnyH_take (i := 8) (oi := _) (v := ?_) rfl (by kernel_rfl) (by kernel_rfl) (by kernel_rfl) (fun _ _ _ h => h) (Or.inl ⟨by kernel_rfl, ?_⟩) (by assumption) ?_
        rotate_left 1
        · intro W hSw; obtain ⟨c0, c1, c2, c3⟩ := hSw.all.1.four; go_simp; (try with_reducible rfl)
        simp only [Act.put, List.getElem_toArray, List.getElem_cons_succ, List.getElem_cons_zero, List.setIfInBounds_toArray, List.set_cons_succ, List.set_cons_zero]
        refine wpAnyH_done (by kernel_rfl) ?_ _
        refine NoPanic.normal ?_
        go_wp2_with fail
        go_meet
        case rel => exact ⟨q, rfl, rfl, HB.out⟩
    case rest =>
      obtain ⟨q, rfl, rfl, hb⟩ := hcut
      have HB0 := Lib.hid hb
      clear hb
      go_upto_region 4 with fail
      go_cut [6, 7] from 26 to 95 (fun sa sb wc => ∃ r : Nat, sa = .pointer (some ⟨r, 0, none⟩) ∧ sb = .int .i64 0 ∧ HL w ((r, scT, sC Z) :: (q, scT, sC Y) :: (p, scT, sC X) :: [(g, scT, sC b)]) wc)
      case first =>
        have hb := HB0.out.drew
        refine wp_region_noPanic ?_
        refine wp_region_held_drew (S := HL w [(g, scT, sC b)]) (by kernel_rfl) (by first | exact hb | exact hb.tail | exact hb.tail.tail) (fun hHeld => ?_)
        change wpAnyH _ _ _ _ _ 9 #[false, false, false, false, false, false, false, false, false] _ _
        have HB := Lib.hid hb
        clear hb HB0
        generalize wc.drew = wd at *
        refine wpAnyH_take (i := 0) (oi := _) (v := ?_) rfl (by kernel_rfl) (by kernel_rfl) (by kernel_rfl) (fun _ _ _ h => h) (Or.inl ⟨by kernel_rfl, ?_⟩) (by assumption) ?_
        rotate_left 1
        · intro W hSw; obtain ⟨c0, c1, c2, c3⟩ := hSw.all.1.four; go_simp; (try with_reducible rfl)
        simp only [Act.put, List.getElem_toArray, List.getElem_cons_succ, List.getElem_cons_zero, List.setIfInBounds_toArray, List.set_cons_succ, List.set_cons_zero]
        refine wpAnyH_ready (rs := [1, 6]) (by kernel_rfl) (by simp) ?_
        refine AllReadyH.cons (o := _) rfl (fun K hK => ?_) (AllReadyH.cons (o := _) rfl (fun K hK => ?_) AllReadyH.nil)
        · go_simp
          go_at_call 22; refine (C2.out _).mono ?_; rintro e V1 ⟨rfl, hb⟩
          go_wp2_with fail
          have hB := HB.out.call hb
          refine hK.out _ _ (by first | exact hB | exact hB.tail | exact hB.tail.tail | exact hB.tail.tail.tail) (fun hHeld => ?_)
          have HB := Lib.hid hB
          clear hK K hB hb
          simp only [Act.put, List.getElem_toArray, List.getElem_cons_succ, List.getElem_cons_zero, List.setIfInBounds_toArray, List.set_cons_succ, List.set_cons_zero]
          refine wpAnyH_ready (rs := [2, 6]) (by kernel_rfl) (by simp) ?_
          refine AllReadyH.cons (o := _) rfl (fun K hK => ?_) (AllReadyH.cons (o := _) rfl (fun K hK => ?_) AllReadyH.nil)
          · go_simp
            go_at_call 36; refine (B96.out _ HB.out.below).mono ?_; rintro e V2 ⟨rfl, hb⟩
            go_wp2_with fail
            have hB := HB.out.call hb
            refine hK.out _ _ (by first | exact hB | exact hB.tail | exact hB.tail.tail | exact hB.tail.tail.tail) (fun hHeld => ?_)
            have HB := Lib.hid hB
            clear hK K hB hb
            simp only [Act.put, List.getElem_toArray, List.getElem_cons_succ, List.getElem_cons_zero, List.setIfInBounds_toArray, List.set_cons_succ, List.set_cons_zero]
            refine wpAnyH_take (i := 3) (oi := _) (v := ?_) rfl (by kernel_rfl) (by kernel_rfl) (by kernel_rfl) (fun _ _ _ h => h) (Or.inl ⟨by kernel_rfl, ?_⟩) (by assumption) ?_
            rotate_left 1
            · intro W hSw; obtain ⟨c0, c1, c2, c3⟩ := hSw.all.1.four; go_simp; (try with_reducible rfl)
            simp only [Act.put, List.getElem_toArray, List.getElem_cons_succ, List.getElem_cons_zero, List.setIfInBounds_toArray, List.set_cons_succ, List.set_cons_zero]
            refine wpAnyH_take (i := 4) (oi := _) (v := ?_) rfl (by kernel_rfl) (by kernel_rfl) (by kernel_rfl) (fun _ _ _ h => h) (Or.inl ⟨by kernel_rfl, ?_⟩) (by assumption) ?_
            rotate_left 1
            · intro W hSw; obtain ⟨c0, c1, c2, c3⟩ := hSw.all.1.four; go_simp; (try with_reducible rfl)
            simp only [Act.put, List.getElem_toArray, List.getElem_cons_succ, List.getElem_cons_zero, List.setIfInBounds_toArray, List.set_cons_succ, List.set_cons_zero]
            refine wpAnyH_take (i := 5) (oi := _) (v := ?_) rfl (by kernel_rfl) (by kernel_rfl) (by kernel_rfl) (fun _ _ _ h => h) (Or.inl ⟨by kernel_rfl, ?_⟩) (by assumption) ?_
            rotate_left 1
            · intro W hSw; obtain ⟨c0, c1, c2, c3⟩ := hSw.all.1.four; go_simp; (try with_reducible rfl)
            simp only [Act.put, List.getElem_toArray, List.getElem_cons_succ, List.getElem_cons_zero, List.setIfInBounds_toArray, List.set_cons_succ, List.set_cons_zero]
            refine wpAnyH_ready (rs := [6]) (by kernel_rfl) (by simp) ?_
            refine AllReadyH.cons (o := _) rfl (fun K hK => ?_) AllReadyH.nil
            go_simp
            have HPN := Lib.hid HB.out.all.fresh
            have HPG := Lib.hid HB.out.below.size
            have hB := HB.out.push scT z4
            generalize V2.heap.size = r at *
            generalize V2.alloc (.cells #[.int .u64 0, .int .u64 0, .int .u64 0, .int .u64 0] scT) = V3 at *
            refine hK.out _ _ (by first | exact hB | exact hB.tail | exact hB.tail.tail | exact hB.tail.tail.tail) (fun hHeld => ?_)
            have HB := Lib.hid hB
            clear hK K hB
            simp only [Act.put, List.getElem_toArray, List.getElem_cons_succ, List.getElem_cons_zero, List.setIfInBounds_toArray, List.set_cons_succ, List.set_cons_zero]
            refine wpAnyH_ready (rs := [7]) (by kernel_rfl) (by simp) ?_
            refine AllReadyH.cons (o := _) rfl (fun K hK => ?_) AllReadyH.nil
            obtain ⟨r0, r1, r2, r3⟩ := HB.out.all.1.soft4
            obtain ⟨z0, z1, z2, z3⟩ := HB.out.all.1.four
            go_simp
            have hB := HB.out.out4 HPN.out HPG.out Z
            dsimp only [st4] at hB
            generalize (((V3.setCell ⟨r, 0, none⟩ (uv Z.1.1)).setCell ⟨r, 1, none⟩ (uv Z.1.2)).setCell ⟨r, 2, none⟩ (uv Z.2.1)).setCell ⟨r, 3, none⟩ (uv Z.2.2) = V4 at *
            clear r0 r1 r2 r3 z0 z1 z2 z3
            refine hK.out _ _ (by first | exact hB | exact hB.tail | exact hB.tail.tail | exact hB.tail.tail.tail) (fun hHeld => ?_)
            have HB := Lib.hid hB
            clear hK K hB
            simp only [Act.put, List.getElem_toArray, List.getElem_cons_succ, List.getElem_cons_zero, List.setIfInBounds_toArray, List.set_cons_succ, List.set_cons_zero]
            refine wpAnyH_take (i := 8) (oi := _) (v := ?_) rfl (by kernel_rfl) (by kernel_rfl) (by kernel_rfl) (fun _ _ _ h => h) (Or.inl ⟨by kernel_rfl, ?_⟩) (by assumption) ?_
            rotate_left 1
            · intro W hSw; obtain ⟨c0, c1, c2, c3⟩ := hSw.all.1.four; go_simp; (try with_reducible rfl)
            simp only [Act.put, List.getElem_toArray, List.getElem_cons_succ, List.getElem_cons_zero, List.setIfInBounds_toArray, List.set_cons_succ, List.set_cons_zero]
            refine wpAnyH_done (by kernel_rfl) ?_ _
            refine NoPanic.normal ?_
            go_wp2_with fail
            go_meet
            case rel => exact ⟨r, rfl, rfl, HB.out⟩
          · go_simp
            have HPN := Lib.hid HB.out.all.fresh
            have HPG := Lib.hid HB.out.below.size
            have hB := HB.out.push scT z4
            generalize V1.heap.size = r at *
            generalize V1.alloc (.cells #[.int .u64 0, .int .u64 0, .int .u64 0, .int .u64 0] scT) = V5 at *
            refine hK.out _ _ (by first | exact hB | exact hB.tail | exact hB.tail.tail | exact hB.tail.tail.tail) (fun hHeld => ?_)
            have HB := Lib.hid hB
            clear hK K hB
            simp only [Act.put, List.getElem_toArray, List.getElem_cons_succ, List.getElem_cons_zero, List.setIfInBounds_toArray, List.set_cons_succ, List.set_cons_zero]
            refine wpAnyH_ready (rs := [2]) (by kernel_rfl) (by simp) ?_
            refine AllReadyH.cons (o := _) rfl (fun K hK => ?_) AllReadyH.nil
            go_simp
            go_at_call 36; refine (B96.out _ HB.out.below).mono ?_; rintro e V6 ⟨rfl, hb⟩
            go_wp2_with fail
            have hB := HB.out.call hb
            refine hK.out _ _ (by first | exact hB | exact hB.tail | exact hB.tail.tail | exact hB.tail.tail.tail) (fun hHeld => ?_)
            have HB := Lib.hid hB
            clear hK K hB hb
            simp only [Act.put, List.getElem_toArray, List.getElem_cons_succ, List.getElem_cons_zero, List.setIfInBounds_toArray, List.set_cons_succ, List.set_cons_zero]
            refine wpAnyH_take (i := 3) (oi := _) (v := ?_) rfl (by kernel_rfl) (by kernel_rfl) (by kernel_rfl) (fun _ _ _ h => h) (Or.inl ⟨by kernel_rfl, ?_⟩) (by assumption) ?_
            rotate_left 1
            · intro W hSw; obtain ⟨c0, c1, c2, c3⟩ := hSw.all.1.four; go_simp; (try with_reducible rfl)
            simp only [Act.put, List.getElem_toArray, List.getElem_cons_succ, List.getElem_cons_zero, List.setIfInBounds_toArray, List.set_cons_succ, List.set_cons_zero]
            refine wpAnyH_take (i := 4) (oi := _) (v := ?_) rfl (by kernel_rfl) (by kernel_rfl) (by kernel_rfl) (fun _ _ _ h => h) (Or.inl ⟨by kernel_rfl, ?_⟩) (by assumption) ?_
            rotate_left 1
            · intro W hSw; obtain ⟨c0, c1, c2, c3⟩ := hSw.all.1.four; go_simp; (try with_reducible rfl)
            simp only [Act.put, List.getElem_toArray, List.getElem_cons_succ, List.getElem_cons_zero, List.setIfInBounds_toArray, List.set_cons_succ, List.set_cons_zero]
            refine wpAnyH_take (i := 5) (oi := _) (v := ?_) rfl (by kernel_rfl) (by kernel_rfl) (by kernel_rfl) (fun _ _ _ h => h) (Or.inl ⟨by kernel_rfl, ?_⟩) (by assumption) ?_
            rotate_left 1
            · intro W hSw; obtain ⟨c0, c1, c2, c3⟩ := hSw.all.1.four; go_simp; (try with_reducible rfl)
            simp only [Act.put, List.getElem_toArray, List.getElem_cons_succ, List.getElem_cons_zero, List.setIfInBounds_toArray, List.set_cons_succ, List.set_cons_zero]
            refine wpAnyH_ready (rs := [7]) (by kernel_rfl) (by simp) ?_
            refine AllReadyH.cons (o := _) rfl (fun K hK => ?_) AllReadyH.nil
            obtain ⟨r0, r1, r2, r3⟩ := HB.out.all.1.soft4
            obtain ⟨z0, z1, z2, z3⟩ := HB.out.all.1.four
            go_simp
            have hB := HB.out.out4 HPN.out HPG.out Z
            dsimp only [st4] at hB
            generalize (((V6.setCell ⟨r, 0, none⟩ (uv Z.1.1)).setCell ⟨r, 1, none⟩ (uv Z.1.2)).setCell ⟨r, 2, none⟩ (uv Z.2.1)).setCell ⟨r, 3, none⟩ (uv Z.2.2) = V7 at *
            clear r0 r1 r2 r3 z0 z1 z2 z3
            refine hK.out _ _ (by first | exact hB | exact hB.tail | exact hB.tail.tail | exact hB.tail.tail.tail) (fun hHeld => ?_)
            have HB := Lib.hid hB
            clear hK K hB
            simp only [Act.put, List.getElem_toArray, List.getElem_cons_succ, List.getElem_cons_zero, List.setIfInBounds_toArray, List.set_cons_succ, List.set_cons_zero]
            refine wpAnyH_take (i := 8) (oi := _) (v := ?_) rfl (by kernel_rfl) (by kernel_rfl) (by kernel_rfl) (fun _ _ _ h => h) (Or.inl ⟨by kernel_rfl, ?_⟩) (by assumption) ?_
            rotate_left 1
            · intro W hSw; obtain ⟨c0, c1, c2, c3⟩ := hSw.all.1.four; go_simp; (try with_reducible rfl)
            simp only [Act.put, List.getElem_toArray, List.getElem_cons_succ, List.getElem_cons_zero, List.setIfInBounds_toArray, List.set_cons_succ, List.set_cons_zero]
            refine wpAnyH_done (by kernel_rfl) ?_ _
            refine NoPanic.normal ?_
            go_wp2_with fail
            go_meet
            case rel => exact ⟨r, rfl, rfl, HB.out⟩
        · go_simp
          have HPN := Lib.hid HB.out.all.fresh
          have HPG := Lib.hid HB.out.below.size
          have hB := HB.out.push scT z4
          generalize wd.heap.size = r at *
          generalize wd.alloc (.cells #[.int .u64 0, .int .u64 0, .int .u64 0, .int .u64 0] scT) = V8 at *
          refine hK.out _ _ (by first | exact hB | exact hB.tail | exact hB.tail.tail | exact hB.tail.tail.tail) (fun hHeld => ?_)
          have HB := Lib.hid hB
          clear hK K hB
          simp only [Act.put, List.getElem_toArray, List.getElem_cons_succ, List.getElem_cons_zero, List.setIfInBounds_toArray, List.set_cons_succ, List.set_cons_zero]
          refine wpAnyH_ready (rs := [1]) (by kernel_rfl) (by simp) ?_
          refine AllReadyH.cons (o := _) rfl (fun K hK => ?_) AllReadyH.nil
          go_simp
          go_at_call 22; refine (C2.out _).mono ?_; rintro e V9 ⟨rfl, hb⟩
          go_wp2_with fail
          have hB := HB.out.call hb
          refine hK.out _ _ (by first | exact hB | exact hB.tail | exact hB.tail.tail | exact hB.tail.tail.tail) (fun hHeld => ?_)
          have HB := Lib.hid hB
          clear hK K hB hb
          simp only [Act.put, List.getElem_toArray, List.getElem_cons_succ, List.getElem_cons_zero, List.setIfInBounds_toArray, List.set_cons_succ, List.set_cons_zero]
          refine wpAnyH_ready (rs := [2]) (by kernel_rfl) (by simp) ?_
          refine AllReadyH.cons (o := _) rfl (fun K hK => ?_) AllReadyH.nil
          go_simp
          go_at_call 36; refine (B96.out _ HB.out.below).mono ?_; rintro e V10 ⟨rfl, hb⟩
          go_wp2_with fail
          have hB := HB.out.call hb
          refine hK.out _ _ (by first | exact hB | exact hB.tail | exact hB.tail.tail | exact hB.tail.tail.tail) (fun hHeld => ?_)
          have HB := Lib.hid hB
          clear hK K hB hb
          simp only [Act.put, List.getElem_toArray, List.getElem_cons_succ, List.getElem_cons_zero, List.setIfInBounds_toArray, List.set_cons_succ, List.set_cons_zero]
          refine wpAnyH_take (i := 3) (oi := _) (v := ?_) rfl (by kernel_rfl) (by kernel_rfl) (by kernel_rfl) (fun _ _ _ h => h) (Or.inl ⟨by kernel_rfl, ?_⟩) (by assumption) ?_
          rotate_left 1
          · intro W hSw; obtain ⟨c0, c1, c2, c3⟩ := hSw.all.1.four; go_simp; (try with_reducible rfl)
          simp only [Act.put, List.getElem_toArray, List.getElem_cons_succ, List.getElem_cons_zero, List.setIfInBounds_toArray, List.set_cons_succ, List.set_cons_zero]
          refine wpAnyH_take (i := 4) (oi := _) (v := ?_) rfl (by kernel_rfl) (by kernel_rfl) (by kernel_rfl) (fun _ _ _ h => h) (Or.inl ⟨by kernel_rfl, ?_⟩) (by assumption) ?_
          rotate_left 1
          · intro W hSw; obtain ⟨c0, c1, c2, c3⟩ := hSw.all.1.four; go_simp; (try with_reducible rfl)
          simp only [Act.put, List.getElem_toArray, List.getElem_cons_succ, List.getElem_cons_zero, List.setIfInBounds_toArray, List.set_cons_succ, List.set_cons_zero]
          refine wpAnyH_take (i := 5) (oi := _) (v := ?_) rfl (by kernel_rfl) (by kernel_rfl) (by kernel_rfl) (fun _ _ _ h => h) (Or.inl ⟨by kernel_rfl, ?_⟩) (by assumption) ?_
          rotate_left 1
          · intro W hSw; obtain ⟨c0, c1, c2, c3⟩ := hSw.all.1.four; go_simp; (try with_reducible rfl)
          simp only [Act.put, List.getElem_toArray, List.getElem_cons_succ, List.getElem_cons_zero, List.setIfInBounds_toArray, List.set_cons_succ, List.set_cons_zero]
          refine wpAnyH_ready (rs := [7]) (by kernel_rfl) (by simp) ?_
          refine AllReadyH.cons (o := _) rfl (fun K hK => ?_) AllReadyH.nil
          obtain ⟨r0, r1, r2, r3⟩ := HB.out.all.1.soft4
          obtain ⟨z0, z1, z2, z3⟩ := HB.out.all.1.four
          go_simp
          have hB := HB.out.out4 HPN.out HPG.out Z
          dsimp only [st4] at hB
          generalize (((V10.setCell ⟨r, 0, none⟩ (uv Z.1.1)).setCell ⟨r, 1, none⟩ (uv Z.1.2)).setCell ⟨r, 2, none⟩ (uv Z.2.1)).setCell ⟨r, 3, none⟩ (uv Z.2.2) = V11 at *
          clear r0 r1 r2 r3 z0 z1 z2 z3
          refine hK.out _ _ (by first | exact hB | exact hB.tail | exact hB.tail.tail | exact hB.tail.tail.tail) (fun hHeld => ?_)
          have HB := Lib.hid hB
          clear hK K hB
          simp only [Act.put, List.getElem_toArray, List.getElem_cons_succ, List.getElem_cons_zero, List.setIfInBounds_toArray, List.set_cons_succ, List.set_cons_zero]
          refine wpAnyH_take (i := 8) (oi := _) (v := ?_) rfl (by kernel_rfl) (by kernel_rfl) (by kernel_rfl) (fun _ _ _ h => h) (Or.inl ⟨by kernel_rfl, ?_⟩) (by assumption) ?_
          rotate_left 1
          · intro W hSw; obtain ⟨c0, c1, c2, c3⟩ := hSw.all.1.four; go_simp; (try with_reducible rfl)
          simp only [Act.put, List.getElem_toArray, List.getElem_cons_succ, List.getElem_cons_zero, List.setIfInBounds_toArray, List.set_cons_succ, List.set_cons_zero]
          refine wpAnyH_done (by kernel_rfl) ?_ _
          refine NoPanic.normal ?_
          go_wp2_with fail
          go_meet
          case rel => exact ⟨r, rfl, rfl, HB.out⟩
      case rest =>
        obtain ⟨r, rfl, rfl, hb⟩ := hcut
        have HB0 := Lib.hid hb
        obtain ⟨c0, c1, c2, c3⟩ := hb.all.2.2.2.1.four
        clear hb
        go_upto_region 6 with (go_at_call 36; refine (BX.out _ HB0.out.below).mono ?_; rintro e w5 ⟨rfl, hb⟩; have HB5 := Lib.hid (HB0.out.call hb); clear hb)
        have hb := HB5.out.push scT (sC zeroS)
        clear c0 c1 c2 c3 HB0 HB5
        generalize w5.heap.size = g5 at *
        generalize w5.alloc (.cells #[uv zeroS.1.1, uv zeroS.1.2, uv zeroS.2.1, uv zeroS.2.2] scT) = w6 at *
        have HB0 := Lib.hid hb
        clear hb
        go_upto_region 7 with (first
          | (go_at_call 22; refine (C5.out _).mono ?_; rintro e w7 ⟨rfl, hb⟩; have HB1 := Lib.hid (HB0.out.call hb); clear hb)
          | (go_at_call 10; refine (CO.out _).mono ?_; rintro e w8 ⟨rfl, hb⟩; have HB2 := Lib.hid (HB1.out.call hb); clear hb))
        obtain ⟨z0, z1, z2, z3⟩ := HB2.out.all.2.1.four
        obtain ⟨y0, y1, y2, y3⟩ := HB2.out.all.2.2.1.four
        obtain ⟨x0, x1, x2, x3⟩ := HB2.out.all.2.2.2.1.four
        obtain ⟨v1, v2, v3, v4, v5, v6⟩ := VS.out
        go_wp2_with fail
        go_ret
        exact ⟨rfl, HB2.out.below⟩
end Go.Proofs.YtjkgbghikhbecaaDoor
