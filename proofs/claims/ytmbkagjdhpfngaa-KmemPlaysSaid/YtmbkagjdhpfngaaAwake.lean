/-
  The laws' common end: the chapter's examples come out as they should ('awake' returns true and leaves old memory alone).
-/
import Derived.Test.YtmbkagjdhpfngaaKf
namespace Go.Proofs.Ytmbkagjdhpfngaa
open Go Go.RowKit Go.Maps
set_option linter.unusedVariables false

theorem addr_1_0 : addr 1 0 = 4294967296 := rfl
theorem addr_1_4 : addr 1 4 = 4294967300 := rfl
theorem addr_1_5 : addr 1 5 = 4294967301 := rfl
theorem addr_0_0 : addr 0 0 = 0 := rfl
set_option maxRecDepth 100000 in
set_option maxHeartbeats 1000000 in
theorem awake_any (w : World) :
    Calls Try.prog 9 #[] w fun e w' => e = .returned (.bool true) ∧ Below w.heap.size w w' := by
  have c0 := new_any w
  have k0 := KF.start w
  have cA := kf_alloc k0 (by omega) (by omega) 8 3 (by omega) (by omega) (by omega) (by omega)
  rw [addr_1_0] at cA
  have HA := Lib.hid cA; clear cA k0
  go_enter Try.func9, Try.ntmps9
  go_wp2_with fail
  refine c0.mono ?_
  rintro e w1 ⟨rfl, rfl⟩
  clear c0
  go_wp2_with fail
  refine HA.out.mono ?_
  rintro e w1 ⟨rfl, r1, k1, e1⟩
  have hp1 : r1.perm = 3 := congrArg Prod.fst e1
  have hb1 : r1.bytes = List.replicate 8 0 := congrArg (fun x => x.2.1) e1
  have cW := kf_write k1 1 4 (by omega) (by omega) 4 (by omega) 4294967301 (by omega) (upd_same _ _ _) (by rw [hp1]; decide) (by rw [hb1]; decide)
  rw [addr_1_4] at cW
  have HW := Lib.hid cW; clear cW k1 HA
  have HP1 := Lib.hid hp1; clear hp1
  have HB1 := Lib.hid hb1; clear hb1
  have HR1 := Lib.hid e1; clear e1
  go_wp2_with fail
  refine HW.out.mono ?_
  rintro e w2 ⟨rfl, r2, k2, e2⟩
  rw [HP1.out, HB1.out] at e2
  have hp2 : r2.perm = 3 := congrArg Prod.fst e2
  have hb2 : r2.bytes = [0, 0, 0, 0, 5, 0, 0, 0] := (congrArg (fun x => x.2.1) e2).trans (by show setAt (List.replicate 8 0) 4 (wb 4294967301 4) = _; decide)
  have hq2 : r2.ret = false := (congrArg (fun x => x.2.2) e2).trans (congrArg (fun x => x.2.2) HR1.out)
  have cR := kf_read k2 1 0 (by omega) (by omega) 8 (by omega) (upd_same _ _ _) (by rw [hp2]; decide) (by rw [hb2]; decide)
  rw [addr_1_0, hb2] at cR
  have hle : (le (([0, 0, 0, 0, 5, 0, 0, 0] : List UInt8).drop 0 |>.take 8) : Int) = 21474836480 := by decide
  rw [hle] at cR
  have HR := Lib.hid cR; clear cR k2 HW HP1 HB1 HR1 hle
  have HE2 := Lib.hid (And.intro hp2 (And.intro hb2 hq2)); clear hp2 hb2 hq2 e2
  go_wp2_with fail
  refine HR.out.mono ?_
  rintro e w3 ⟨rfl, r3, k3, e3⟩
  have hp3 : r3.perm = 3 := (congrArg Prod.fst e3).trans HE2.out.1
  have hb3 : r3.bytes = [0, 0, 0, 0, 5, 0, 0, 0] := (congrArg (fun x => x.2.1) e3).trans HE2.out.2.1
  have hq3 : r3.ret = false := (congrArg (fun x => x.2.2) e3).trans HE2.out.2.2
  have cB := kf_read_bound k3 1 5 (by omega) (by omega) 4 (by omega) (upd_same _ _ _) (by rw [hp3]; decide) (by rw [hb3]; decide)
  have cN := kf_read_null k3 0 0 (by omega) (by omega) 1 (by omega) (.inl rfl)
  have cF := kf_free k3 1 (upd_same _ _ _) hq3
  rw [addr_1_5] at cB
  rw [addr_0_0] at cN
  rw [addr_1_0] at cF
  have HB := Lib.hid cB; clear cB
  have HN := Lib.hid cN; clear cN
  have HF := Lib.hid cF; clear cF k3 HR HE2 hp3 hb3 hq3 e3
  go_wp2_with fail
  refine HB.out.mono ?_
  rintro e w' ⟨rfl, rfl⟩
  go_wp2_with fail
  refine HN.out.mono ?_
  rintro e w' ⟨rfl, rfl⟩
  go_wp2_with fail
  refine HF.out.mono ?_
  rintro e w4 ⟨rfl, k4⟩
  have cD := kf_read_freed k4 1 0 (by omega) (by omega) 1 (by omega) (by omega) (by omega) (by simp [upd])
  rw [addr_1_0] at cD
  have hbel := Lib.hid k4.1
  have HD := Lib.hid cD; clear cD k4 HB HN HF
  go_wp2_with fail
  refine HD.out.mono ?_
  rintro e w' ⟨rfl, rfl⟩
  clear HD
  go_wp2_with fail
  go_ret
  exact ⟨rfl, hbel.out⟩
end Go.Proofs.Ytmbkagjdhpfngaa
