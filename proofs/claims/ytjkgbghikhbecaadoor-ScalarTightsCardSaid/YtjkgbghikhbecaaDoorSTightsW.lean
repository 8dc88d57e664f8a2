/-
  The law ScalarTights, walked.
-/
import Derived.Test.YtjkgbghikhbecaaDoorSProg
import Derived.Deep.RegionHeld3
namespace Go.Proofs.YtjkgbghikhbecaaDoor
open Go Go.RowKit Go.Maps Tn
set_option linter.unusedVariables false
set_option linter.unusedSimpArgs false
set_option maxRecDepth 100000
theorem sc_self (X : SC) : ∀ W, (binOp .eql scT (.agg #[uv X.1.1, uv X.1.2, uv X.2.1, uv X.2.2]) (.agg #[uv X.1.1, uv X.1.2, uv X.2.1, uv X.2.2])).run Tryd.prog W = .ok (.bool true) W := fun W => (sc_eq X X W).trans (by simp)
set_option maxHeartbeats 2000000 in
theorem tights_any (s : SC) (bits : Int) (w : World) (hE : Edges w) : Calls Tryd.prog 3 #[sv s, .int .i64 bits] w fun e w' => e = .returned (.bool true) ∧ Below w.heap.size w w' := by
  have F := Lib.hid ((HL.start w).push scT (sC s))
  have CA := Lib.hid (fun W (hb : Below w.heap.size w W) => awake16 W (hE.below hb))
  clear hE
  have CT := Lib.hid (fun W => ps_tight s W)
  have CX := Lib.hid (fun W => xs_tight s W)
  have CW := Lib.hid (fun W => wide_any s W)
  have CO := Lib.hid (fun W => ps_only s W)
  have CP := Lib.hid (fun W => xs_only s W)
  have CK := Lib.hid (fun W => ps_check s W)
  have CL := Lib.hid (fun W => xs_check s W)
  have CC := Lib.hid (fun W => ps_cast (wideV s) bits W)
  have CD := Lib.hid (fun W => xs_cast (wideV s) bits W)
  generalize tightV s = T at *
  generalize (tightS s).isSome = ok at *
  generalize onlyV s = y at *
  generalize decide (s.1.2 = 0) = one at *
  generalize checkV s = ck at *
  generalize castS (wideV s) bits = C at *
  generalize wideV s = V at *
  have qT := sc_self T
  have qC := sc_self C
  go_enter Tryd.func3, Tryd.ntmps3
  go_upto_region 1 with fail
  have hb := F.out
  clear F
  generalize w.alloc (.cells #[uv s.1.1, uv s.1.2, uv s.2.1, uv s.2.2] scT) = wz at *
  obtain ⟨c0, c1, c2, c3⟩ := hb.all.1.four
  have HB := Lib.hid hb
  clear hb
  go_upto_region 2 with (go_at_call 7; refine (CT.out _).mono ?_; rintro e w2 ⟨rfl, hb⟩; have HB2 := Lib.hid (HB.out.call hb); clear hb)
  have hb := HB2.out.push scT (sC T)
  clear c0 c1 c2 c3 HB HB2
  generalize w2.heap.size = g5 at *
  generalize w2.alloc (.cells #[uv T.1.1, uv T.1.2, uv T.2.1, uv T.2.2] scT) = w3 at *
  obtain ⟨c0, c1, c2, c3⟩ := hb.all.2.1.four
  have HB := Lib.hid hb
  clear hb
  go_upto_region 3 with (go_at_call 8; refine (CX.out _).mono ?_; rintro e w4 ⟨rfl, hb⟩; have HB2 := Lib.hid (HB.out.call hb); clear hb)
  have hb := HB2.out.push scT (sC T)
  clear c0 c1 c2 c3 HB HB2
  generalize w4.heap.size = g7 at *
  generalize w4.alloc (.cells #[uv T.1.1, uv T.1.2, uv T.2.1, uv T.2.2] scT) = w5 at *
  obtain ⟨c0, c1, c2, c3⟩ := hb.all.2.2.1.four
  have HB := Lib.hid hb
  clear hb
  go_upto_region 4 with (go_at_call 9; refine (CW.out _).mono ?_; rintro e w6 ⟨rfl, hb⟩; have HB2 := Lib.hid (HB.out.call hb); clear hb)
  have hb := HB2.out.push scT (sC V)
  clear c0 c1 c2 c3 HB HB2
  generalize w6.heap.size = g9 at *
  generalize w6.alloc (.cells #[uv V.1.1, uv V.1.2, uv V.2.1, uv V.2.2] scT) = w7 at *
  obtain ⟨c0, c1, c2, c3⟩ := hb.all.2.2.2.1.four
  have HB := Lib.hid hb
  clear hb
  clear CT CX CW
  go_upto_region 5 with (go_at_call 10; refine (CO.out _).mono ?_; rintro e w8 ⟨rfl, hb⟩; have ha := HB.out.call hb; have cc := ha.all.2.2.2.1.four; obtain ⟨c0, c1, c2, c3⟩ := cc; have HB := Lib.hid ha; clear ha hb)
  go_upto_region 6 with (go_at_call 11; refine (CP.out _).mono ?_; rintro e w8 ⟨rfl, hb⟩; have ha := HB.out.call hb; have cc := ha.all.2.2.2.1.four; obtain ⟨c0, c1, c2, c3⟩ := cc; have HB := Lib.hid ha; clear ha hb)
  clear CO CP
  have key : ∀ W, HL w [(g9, scT, sC V), (g7, scT, sC T), (g5, scT, sC T), (w.heap.size, scT, sC s)] W → (W.cell? ⟨g9, 0, none⟩ = some (uv V.1.1) ∧ W.cell? ⟨g9, 1, none⟩ = some (uv V.1.2) ∧ W.cell? ⟨g9, 2, none⟩ = some (uv V.2.1) ∧ W.cell? ⟨g9, 3, none⟩ = some (uv V.2.2)) ∧ (W.cell? ⟨g7, 0, none⟩ = some (uv T.1.1) ∧ W.cell? ⟨g7, 1, none⟩ = some (uv T.1.2) ∧ W.cell? ⟨g7, 2, none⟩ = some (uv T.2.1) ∧ W.cell? ⟨g7, 3, none⟩ = some (uv T.2.2)) ∧ (W.cell? ⟨g5, 0, none⟩ = some (uv T.1.1) ∧ W.cell? ⟨g5, 1, none⟩ = some (uv T.1.2) ∧ W.cell? ⟨g5, 2, none⟩ = some (uv T.2.1) ∧ W.cell? ⟨g5, 3, none⟩ = some (uv T.2.2)) ∧ (W.cell? ⟨w.heap.size, 0, none⟩ = some (uv s.1.1) ∧ W.cell? ⟨w.heap.size, 1, none⟩ = some (uv s.1.2) ∧ W.cell? ⟨w.heap.size, 2, none⟩ = some (uv s.2.1) ∧ W.cell? ⟨w.heap.size, 3, none⟩ = some (uv s.2.2)) := by
    rintro W ⟨⟨h1, h2, h3, h4, _⟩, _⟩
    exact ⟨h1.four, h2.four, h3.four, h4.four⟩
  have KEY := Lib.hid key
  have S0 := Lib.hid (key _ HB.out)
  clear c0 c1 c2 c3 key
  have S1 := S0.out
  obtain ⟨⟨a0, a1, a2, a3⟩, ⟨b0, b1, b2, b3⟩, ⟨d0, d1, d2, d3⟩, c0, c1, c2, c3⟩ := S1
  go_region_held3 (fun W => (W.cell? ⟨g9, 0, none⟩ = some (uv V.1.1) ∧ W.cell? ⟨g9, 1, none⟩ = some (uv V.1.2) ∧ W.cell? ⟨g9, 2, none⟩ = some (uv V.2.1) ∧ W.cell? ⟨g9, 3, none⟩ = some (uv V.2.2)) ∧ (W.cell? ⟨g7, 0, none⟩ = some (uv T.1.1) ∧ W.cell? ⟨g7, 1, none⟩ = some (uv T.1.2) ∧ W.cell? ⟨g7, 2, none⟩ = some (uv T.2.1) ∧ W.cell? ⟨g7, 3, none⟩ = some (uv T.2.2)) ∧ (W.cell? ⟨g5, 0, none⟩ = some (uv T.1.1) ∧ W.cell? ⟨g5, 1, none⟩ = some (uv T.1.2) ∧ W.cell? ⟨g5, 2, none⟩ = some (uv T.2.1) ∧ W.cell? ⟨g5, 3, none⟩ = some (uv T.2.2)) ∧ (W.cell? ⟨w.heap.size, 0, none⟩ = some (uv s.1.1) ∧ W.cell? ⟨w.heap.size, 1, none⟩ = some (uv s.1.2) ∧ W.cell? ⟨w.heap.size, 2, none⟩ = some (uv s.2.1) ∧ W.cell? ⟨w.heap.size, 3, none⟩ = some (uv s.2.2)))
    (first | exact S0.out)
    (first
      | (go_at_call 12; refine (CK.out _).mono ?_; rintro e w10 ⟨rfl, hb⟩; have ha := (by first | exact HB.out.call hb | exact (HB.out.keeps (keeps_drewN _ _)).call hb | exact (HB.out.keeps (keeps_drew _)).call hb); have HB := Lib.hid ha; have S0 := Lib.hid (KEY.out _ ha); clear ha hb)
      | (go_at_call 13; refine (CL.out _).mono ?_; rintro e w10 ⟨rfl, hb⟩; have ha := (by first | exact HB.out.call hb | exact (HB.out.keeps (keeps_drewN _ _)).call hb | exact (HB.out.keeps (keeps_drew _)).call hb); have HB := Lib.hid ha; have S0 := Lib.hid (KEY.out _ ha); clear ha hb)
      | (go_at_call 14; refine (CC.out _).mono ?_; rintro e w10 ⟨rfl, hb⟩; have ha := (by first | exact HB.out.call hb | exact (HB.out.keeps (keeps_drewN _ _)).call hb | exact (HB.out.keeps (keeps_drew _)).call hb); have HB := Lib.hid ha; have S0 := Lib.hid (KEY.out _ ha); clear ha hb)
      | (go_at_call 15; refine (CD.out _).mono ?_; rintro e w10 ⟨rfl, hb⟩; have ha := (by first | exact HB.out.call hb | exact (HB.out.keeps (keeps_drewN _ _)).call hb | exact (HB.out.keeps (keeps_drew _)).call hb); have HB := Lib.hid ha; have S0 := Lib.hid (KEY.out _ ha); clear ha hb)
      | (go_at_call 16; refine (CA.out _ (by first | exact HB.out.below | exact (HB.out.keeps (keeps_drewN _ _)).below | exact (HB.out.keeps (keeps_drew _)).below)).mono ?_; rintro e w10 ⟨rfl, hb⟩; have ha := (by first | exact HB.out.call hb | exact (HB.out.keeps (keeps_drewN _ _)).call hb | exact (HB.out.keeps (keeps_drew _)).call hb); have HB := Lib.hid ha; have S0 := Lib.hid (KEY.out _ ha); clear ha hb))
  go_wp2_with fail
  go_ret
  exact ⟨rfl, HB.out.below⟩
end Go.Proofs.YtjkgbghikhbecaaDoor
