/-
  The law ScalarCasts, walked.
-/
import Derived.Test.YtjkgbghikhbecaaDoorSProg
import Derived.Deep.RegionHeld3
namespace Go.Proofs.YtjkgbghikhbecaaDoor
open Go Go.RowKit Go.Maps Tn
set_option linter.unusedVariables false
set_option linter.unusedSimpArgs false
set_option maxRecDepth 100000
abbrev s2T : TypeId := 36
abbrev s2 (a b : SC) : Array Value := #[uv a.1.1, uv a.1.2, uv a.2.1, uv a.2.2, uv b.1.1, uv b.1.2, uv b.2.1, uv b.2.2]
theorem sc_self (X : SC) : ∀ W, (binOp .eql scT (.agg #[uv X.1.1, uv X.1.2, uv X.2.1, uv X.2.2]) (.agg #[uv X.1.1, uv X.1.2, uv X.2.1, uv X.2.2])).run Tryd.prog W = .ok (.bool true) W := fun W => (sc_eq X X W).trans (by simp)
set_option maxHeartbeats 4000000 in
theorem casts_any (a b : SC) (bits : Int) (n : B64) (w : World) (hE : Edges w) : Calls Tryd.prog 5 #[.agg (s2 a b), .int .i64 bits, uv n] w fun e w' => e = .returned (.bool true) ∧ Below w.heap.size w w' := by
  have F := Lib.hid ((HL.start w).push s2T (s2 a b))
  have CA := Lib.hid (fun W (hb : Below w.heap.size w W) => awake16 W (hE.below hb))
  clear hE
  have CW := Lib.hid (fun W => wide_any a W)
  have CC := Lib.hid (fun W => ps_cast (wideV a) bits W)
  have CD := Lib.hid (fun W => xs_cast (wideV a) bits W)
  have C1 := Lib.hid (fun W => one_any (wideV a) n W)
  have CH := Lib.hid ps_has
  have MV := Lib.hid (wide_may a)
  generalize wideV a = V at *
  go_enter Tryd.func5, Tryd.ntmps5
  go_upto_region 1 with fail
  have hb := F.out
  clear F
  generalize w.alloc (.cells #[uv a.1.1, uv a.1.2, uv a.2.1, uv a.2.2, uv b.1.1, uv b.1.2, uv b.2.1, uv b.2.2] s2T) = wz at *
  have c0 : wz.cell? ⟨w.heap.size, 0, none⟩ = some (uv a.1.1) := hb.all.1.cell 0
  have c1 : wz.cell? ⟨w.heap.size, 1, none⟩ = some (uv a.1.2) := hb.all.1.cell 1
  have c2 : wz.cell? ⟨w.heap.size, 2, none⟩ = some (uv a.2.1) := hb.all.1.cell 2
  have c3 : wz.cell? ⟨w.heap.size, 3, none⟩ = some (uv a.2.2) := hb.all.1.cell 3
  have HB := Lib.hid hb
  clear hb
  go_upto_region 2 with (go_at_call 9; refine (CW.out _).mono ?_; rintro e w2 ⟨rfl, hb⟩; have HB2 := Lib.hid (HB.out.call hb); clear hb)
  have hb := HB2.out.push scT (sC V)
  clear c0 c1 c2 c3 HB HB2 CW
  generalize w2.heap.size = g7 at *
  generalize w2.alloc (.cells #[uv V.1.1, uv V.1.2, uv V.2.1, uv V.2.2] scT) = w3 at *
  have key : ∀ W, HL w [(g7, scT, sC V), (w.heap.size, s2T, s2 a b)] W → W.cell? ⟨g7, 0, none⟩ = some (uv V.1.1) ∧ W.cell? ⟨g7, 1, none⟩ = some (uv V.1.2) ∧ W.cell? ⟨g7, 2, none⟩ = some (uv V.2.1) ∧ W.cell? ⟨g7, 3, none⟩ = some (uv V.2.2) := fun W h => h.all.1.four
  have KEY := Lib.hid key
  have HB := Lib.hid hb
  obtain ⟨d0, d1, d2, d3⟩ := key _ hb
  clear hb key
  go_upto_region 3 with (go_at_call 24; refine (C1.out _).mono ?_; rintro e w4 ⟨⟨x, ok, rfl, hx⟩, hb⟩; have HX := Lib.hid hx; have ha := HB.out.call hb; have cc := KEY.out _ ha; obtain ⟨d0, d1, d2, d3⟩ := cc; have HB := Lib.hid ha; clear ha hb hx)
  clear C1
  cases ok
  · obtain ⟨C, hC⟩ : ∃ C, castS V bits = C := ⟨_, rfl⟩
    rw [hC] at CC CD
    clear hC
    have qC := sc_self C
    go_upto_region 6 with fail
    have S0 := Lib.hid (KEY.out _ HB.out)
    go_region_held3 (fun W => W.cell? ⟨g7, 0, none⟩ = some (uv V.1.1) ∧ W.cell? ⟨g7, 1, none⟩ = some (uv V.1.2) ∧ W.cell? ⟨g7, 2, none⟩ = some (uv V.2.1) ∧ W.cell? ⟨g7, 3, none⟩ = some (uv V.2.2))
      (first | exact S0.out)
      (first
          | (go_at_call 14; refine (CC.out _).mono ?_; rintro e w10 ⟨rfl, hb⟩; have ha := (by first | exact HB.out.call hb | exact (HB.out.keeps (keeps_drewN _ _)).call hb | exact (HB.out.keeps (keeps_drew _)).call hb); have HB := Lib.hid ha; have S0 := Lib.hid (KEY.out _ ha); clear ha hb)
          | (go_at_call 15; refine (CD.out _).mono ?_; rintro e w10 ⟨rfl, hb⟩; have ha := (by first | exact HB.out.call hb | exact (HB.out.keeps (keeps_drewN _ _)).call hb | exact (HB.out.keeps (keeps_drew _)).call hb); have HB := Lib.hid ha; have S0 := Lib.hid (KEY.out _ ha); clear ha hb)
          | (go_at_call 16; refine (CA.out _ (by first | exact HB.out.below | exact (HB.out.keeps (keeps_drewN _ _)).below | exact (HB.out.keeps (keeps_drew _)).below)).mono ?_; rintro e w10 ⟨rfl, hb⟩; have ha := (by first | exact HB.out.call hb | exact (HB.out.keeps (keeps_drewN _ _)).call hb | exact (HB.out.keeps (keeps_drew _)).call hb); have HB := Lib.hid ha; have S0 := Lib.hid (KEY.out _ ha); clear ha hb))
    go_wp2_with fail
    go_ret
    exact ⟨rfl, HB.out.below⟩
  · by_cases hbt : bits = 8 ∨ bits = 16 ∨ bits = 32
    · have hh := castS_has MV.out hbt (HX.out rfl)
      clear HX MV
      rcases hbt with rfl | rfl | rfl
      · have q : decide (hasS (castS V 8) (x &&& lowM 8)) = true := decide_eq_true hh
        have r := tand_8 x
        clear hh
        obtain ⟨C, hC⟩ : ∃ C, castS V 8 = C := ⟨_, rfl⟩
        rw [hC] at CC CD q
        clear hC
        generalize x &&& lowM 8 = y at *
        have qC := sc_self C
        go_upto_region 6 with (first
        | (go_at_call 14; refine (CC.out _).mono ?_; rintro e w6 ⟨rfl, hb⟩; have ha := HB.out.call hb; have cc := KEY.out _ ha; obtain ⟨d0, d1, d2, d3⟩ := cc; have HB := Lib.hid ha; clear ha hb)
        | (go_at_call 17; refine (CH.out _ _ _).mono ?_; rintro e w6 ⟨rfl, hb⟩; have ha := HB.out.call hb; have cc := KEY.out _ ha; obtain ⟨d0, d1, d2, d3⟩ := cc; have HB := Lib.hid ha; clear ha hb))
        have S0 := Lib.hid (KEY.out _ HB.out)
        go_region_held3 (fun W => W.cell? ⟨g7, 0, none⟩ = some (uv V.1.1) ∧ W.cell? ⟨g7, 1, none⟩ = some (uv V.1.2) ∧ W.cell? ⟨g7, 2, none⟩ = some (uv V.2.1) ∧ W.cell? ⟨g7, 3, none⟩ = some (uv V.2.2))
          (first | exact S0.out)
          (first
              | (go_at_call 14; refine (CC.out _).mono ?_; rintro e w10 ⟨rfl, hb⟩; have ha := (by first | exact HB.out.call hb | exact (HB.out.keeps (keeps_drewN _ _)).call hb | exact (HB.out.keeps (keeps_drew _)).call hb); have HB := Lib.hid ha; have S0 := Lib.hid (KEY.out _ ha); clear ha hb)
              | (go_at_call 15; refine (CD.out _).mono ?_; rintro e w10 ⟨rfl, hb⟩; have ha := (by first | exact HB.out.call hb | exact (HB.out.keeps (keeps_drewN _ _)).call hb | exact (HB.out.keeps (keeps_drew _)).call hb); have HB := Lib.hid ha; have S0 := Lib.hid (KEY.out _ ha); clear ha hb)
              | (go_at_call 16; refine (CA.out _ (by first | exact HB.out.below | exact (HB.out.keeps (keeps_drewN _ _)).below | exact (HB.out.keeps (keeps_drew _)).below)).mono ?_; rintro e w10 ⟨rfl, hb⟩; have ha := (by first | exact HB.out.call hb | exact (HB.out.keeps (keeps_drewN _ _)).call hb | exact (HB.out.keeps (keeps_drew _)).call hb); have HB := Lib.hid ha; have S0 := Lib.hid (KEY.out _ ha); clear ha hb))
        go_wp2_with fail
        go_ret
        exact ⟨rfl, HB.out.below⟩
      · have q : decide (hasS (castS V 16) (x &&& lowM 16)) = true := decide_eq_true hh
        have r := tand_16 x
        clear hh
        obtain ⟨C, hC⟩ : ∃ C, castS V 16 = C := ⟨_, rfl⟩
        rw [hC] at CC CD q
        clear hC
        generalize x &&& lowM 16 = y at *
        have qC := sc_self C
        go_upto_region 6 with (first
        | (go_at_call 14; refine (CC.out _).mono ?_; rintro e w6 ⟨rfl, hb⟩; have ha := HB.out.call hb; have cc := KEY.out _ ha; obtain ⟨d0, d1, d2, d3⟩ := cc; have HB := Lib.hid ha; clear ha hb)
        | (go_at_call 17; refine (CH.out _ _ _).mono ?_; rintro e w6 ⟨rfl, hb⟩; have ha := HB.out.call hb; have cc := KEY.out _ ha; obtain ⟨d0, d1, d2, d3⟩ := cc; have HB := Lib.hid ha; clear ha hb))
        have S0 := Lib.hid (KEY.out _ HB.out)
        go_region_held3 (fun W => W.cell? ⟨g7, 0, none⟩ = some (uv V.1.1) ∧ W.cell? ⟨g7, 1, none⟩ = some (uv V.1.2) ∧ W.cell? ⟨g7, 2, none⟩ = some (uv V.2.1) ∧ W.cell? ⟨g7, 3, none⟩ = some (uv V.2.2))
          (first | exact S0.out)
          (first
              | (go_at_call 14; refine (CC.out _).mono ?_; rintro e w10 ⟨rfl, hb⟩; have ha := (by first | exact HB.out.call hb | exact (HB.out.keeps (keeps_drewN _ _)).call hb | exact (HB.out.keeps (keeps_drew _)).call hb); have HB := Lib.hid ha; have S0 := Lib.hid (KEY.out _ ha); clear ha hb)
              | (go_at_call 15; refine (CD.out _).mono ?_; rintro e w10 ⟨rfl, hb⟩; have ha := (by first | exact HB.out.call hb | exact (HB.out.keeps (keeps_drewN _ _)).call hb | exact (HB.out.keeps (keeps_drew _)).call hb); have HB := Lib.hid ha; have S0 := Lib.hid (KEY.out _ ha); clear ha hb)
              | (go_at_call 16; refine (CA.out _ (by first | exact HB.out.below | exact (HB.out.keeps (keeps_drewN _ _)).below | exact (HB.out.keeps (keeps_drew _)).below)).mono ?_; rintro e w10 ⟨rfl, hb⟩; have ha := (by first | exact HB.out.call hb | exact (HB.out.keeps (keeps_drewN _ _)).call hb | exact (HB.out.keeps (keeps_drew _)).call hb); have HB := Lib.hid ha; have S0 := Lib.hid (KEY.out _ ha); clear ha hb))
        go_wp2_with fail
        go_ret
        exact ⟨rfl, HB.out.below⟩
      · have q : decide (hasS (castS V 32) (x &&& lowM 32)) = true := decide_eq_true hh
        have r := tand_32 x
        clear hh
        obtain ⟨C, hC⟩ : ∃ C, castS V 32 = C := ⟨_, rfl⟩
        rw [hC] at CC CD q
        clear hC
        generalize x &&& lowM 32 = y at *
        have qC := sc_self C
        go_upto_region 6 with (first
        | (go_at_call 14; refine (CC.out _).mono ?_; rintro e w6 ⟨rfl, hb⟩; have ha := HB.out.call hb; have cc := KEY.out _ ha; obtain ⟨d0, d1, d2, d3⟩ := cc; have HB := Lib.hid ha; clear ha hb)
        | (go_at_call 17; refine (CH.out _ _ _).mono ?_; rintro e w6 ⟨rfl, hb⟩; have ha := HB.out.call hb; have cc := KEY.out _ ha; obtain ⟨d0, d1, d2, d3⟩ := cc; have HB := Lib.hid ha; clear ha hb))
        have S0 := Lib.hid (KEY.out _ HB.out)
        go_region_held3 (fun W => W.cell? ⟨g7, 0, none⟩ = some (uv V.1.1) ∧ W.cell? ⟨g7, 1, none⟩ = some (uv V.1.2) ∧ W.cell? ⟨g7, 2, none⟩ = some (uv V.2.1) ∧ W.cell? ⟨g7, 3, none⟩ = some (uv V.2.2))
          (first | exact S0.out)
          (first
              | (go_at_call 14; refine (CC.out _).mono ?_; rintro e w10 ⟨rfl, hb⟩; have ha := (by first | exact HB.out.call hb | exact (HB.out.keeps (keeps_drewN _ _)).call hb | exact (HB.out.keeps (keeps_drew _)).call hb); have HB := Lib.hid ha; have S0 := Lib.hid (KEY.out _ ha); clear ha hb)
              | (go_at_call 15; refine (CD.out _).mono ?_; rintro e w10 ⟨rfl, hb⟩; have ha := (by first | exact HB.out.call hb | exact (HB.out.keeps (keeps_drewN _ _)).call hb | exact (HB.out.keeps (keeps_drew _)).call hb); have HB := Lib.hid ha; have S0 := Lib.hid (KEY.out _ ha); clear ha hb)
              | (go_at_call 16; refine (CA.out _ (by first | exact HB.out.below | exact (HB.out.keeps (keeps_drewN _ _)).below | exact (HB.out.keeps (keeps_drew _)).below)).mono ?_; rintro e w10 ⟨rfl, hb⟩; have ha := (by first | exact HB.out.call hb | exact (HB.out.keeps (keeps_drewN _ _)).call hb | exact (HB.out.keeps (keeps_drew _)).call hb); have HB := Lib.hid ha; have S0 := Lib.hid (KEY.out _ ha); clear ha hb))
        go_wp2_with fail
        go_ret
        exact ⟨rfl, HB.out.below⟩
    · have e8 : (bits == 8) = false := by simp; exact fun e => hbt (.inl e)
      have e16 : (bits == 16) = false := by simp; exact fun e => hbt (.inr (.inl e))
      have e32 : (bits == 32) = false := by simp; exact fun e => hbt (.inr (.inr e))
      clear hbt HX MV
      obtain ⟨C, hC⟩ : ∃ C, castS V bits = C := ⟨_, rfl⟩
      rw [hC] at CC CD
      clear hC
      have qC := sc_self C
      go_upto_region 6 with fail
      have S0 := Lib.hid (KEY.out _ HB.out)
      go_region_held3 (fun W => W.cell? ⟨g7, 0, none⟩ = some (uv V.1.1) ∧ W.cell? ⟨g7, 1, none⟩ = some (uv V.1.2) ∧ W.cell? ⟨g7, 2, none⟩ = some (uv V.2.1) ∧ W.cell? ⟨g7, 3, none⟩ = some (uv V.2.2))
        (first | exact S0.out)
        (first
            | (go_at_call 14; refine (CC.out _).mono ?_; rintro e w10 ⟨rfl, hb⟩; have ha := (by first | exact HB.out.call hb | exact (HB.out.keeps (keeps_drewN _ _)).call hb | exact (HB.out.keeps (keeps_drew _)).call hb); have HB := Lib.hid ha; have S0 := Lib.hid (KEY.out _ ha); clear ha hb)
            | (go_at_call 15; refine (CD.out _).mono ?_; rintro e w10 ⟨rfl, hb⟩; have ha := (by first | exact HB.out.call hb | exact (HB.out.keeps (keeps_drewN _ _)).call hb | exact (HB.out.keeps (keeps_drew _)).call hb); have HB := Lib.hid ha; have S0 := Lib.hid (KEY.out _ ha); clear ha hb)
            | (go_at_call 16; refine (CA.out _ (by first | exact HB.out.below | exact (HB.out.keeps (keeps_drewN _ _)).below | exact (HB.out.keeps (keeps_drew _)).below)).mono ?_; rintro e w10 ⟨rfl, hb⟩; have ha := (by first | exact HB.out.call hb | exact (HB.out.keeps (keeps_drewN _ _)).call hb | exact (HB.out.keeps (keeps_drew _)).call hb); have HB := Lib.hid ha; have S0 := Lib.hid (KEY.out _ ha); clear ha hb))
      go_wp2_with fail
      go_ret
      exact ⟨rfl, HB.out.below⟩
end Go.Proofs.YtjkgbghikhbecaaDoor
