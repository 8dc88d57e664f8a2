/-
  The small functions of package shape: One.
-/
import Derived.Test.YticklgoegmobbaaDoorSLeaf3
import Derived.Test.YticklgoegmobbaaDoorSLeaf4
namespace Go.Proofs.YticklgoegmobbaaDoor
open Go Go.RowKit
set_option linter.unusedVariables false
set_option maxRecDepth 100000
theorem ret_bool {a b : Bool} (h : a = b) : Ending.returned (.bool a) = .returned (.bool b) := by rw [h]

set_option maxHeartbeats 2000000 in
theorem one_any (o d s f m : Int) (w : World) (hS : Sizes w) :
    Calls Tryd.prog 17 #[insV o d s f m] w fun e w' => e = .returned (.bool (oneB o d s f m)) ∧ Below w.heap.size w w' := by
  obtain ⟨ans, hans⟩ : ∃ b, oneB o d s f m = b := ⟨_, rfl⟩
  rw [hans]
  have ANS := Lib.hid hans
  clear hans
  have n5 := Cells5.new w ⟨o, d, s, f, m⟩ 39
  have N5 := Lib.hid n5
  clear n5
  have LT := Lib.hid (lt_box w (.cells #[.int .i64 o, .int .i64 d, .int .i64 s, .int .i64 f, .int .i64 m] 39))
  have B0 : Hid (Below w.heap.size w (w.alloc (.cells #[.int .i64 o, .int .i64 d, .int .i64 s, .int .i64 f, .int .i64 m] 39))) := (Below.refl _ w).alloc (Nat.le_refl _) _
  have HS := Lib.hid hS
  clear hS
  have C0 := Lib.hid (fits_any o d s f m)
  unfold insV at C0
  have C1 := Lib.hid (class_any o d s f m)
  unfold insV at C1
  have C2 := Lib.hid (wideOk_any o d s f m)
  unfold insV at C2
  have C3 := Lib.hid (load_any o d s f m)
  unfold insV at C3
  have C4 := Lib.hid (store_any o d s f m)
  unfold insV at C4
  have C5 := Lib.hid (storeSrc_any o d s f m)
  unfold insV at C5
  have C6 := Lib.hid (jump_any o d s f m)
  unfold insV at C6
  have C7 := Lib.hid (alu_any o d s f m)
  unfold insV at C7
  unfold insV
  cases h1 : (decide (FitsR o d s f m))
  focus
    skip
  rotate_left 1
  focus
    cases h2 : (o % 8 == 0)
    focus
      have g2 : (o % 8 != 0) = true := by simp only [bne, h2]; rfl
      cases h3 : (o % 8 == 1)
      focus
        have g3 : (o % 8 != 1) = true := by simp only [bne, h3]; rfl
        cases h4 : (o % 8 == 2)
        focus
          have g4 : (o % 8 != 2) = true := by simp only [bne, h4]; rfl
          cases h5 : (o % 8 == 3)
          focus
            have g5 : (o % 8 != 3) = true := by simp only [bne, h5]; rfl
            cases h6 : (o % 8 == 5)
            focus
              have g6 : (o % 8 != 5) = true := by simp only [bne, h6]; rfl
              cases h7 : (o % 8 == 6)
              focus
                have g7 : (o % 8 != 6) = true := by simp only [bne, h7]; rfl
              rotate_left 1
              focus
                have g7 : (o % 8 != 6) = false := by simp only [bne, h7]; rfl
            rotate_left 2
            focus
              have g6 : (o % 8 != 5) = false := by simp only [bne, h6]; rfl
          rotate_left 3
          focus
            have g5 : (o % 8 != 3) = false := by simp only [bne, h5]; rfl
        rotate_left 4
        focus
          have g4 : (o % 8 != 2) = false := by simp only [bne, h4]; rfl
      rotate_left 5
      focus
        have g3 : (o % 8 != 1) = false := by simp only [bne, h3]; rfl
    rotate_left 6
    focus
      have g2 : (o % 8 != 0) = false := by simp only [bne, h2]; rfl
  all_goals
    go_enter Tryd.func17, Tryd.ntmps17
    go_wp2_with (first | (go_at_call 26; first | (refine (C0.out _).mono ?_; rintro e w1 ⟨rfl, hb⟩; obtain ⟨d0, d1, d2, d3, d4⟩ := N5.out.below hb LT.out; have E1 := Lib.hid hb; have F1 : Hid (Below w.heap.size w w1) := B0.out.trans (hb.mono B0.out.size); clear hb)) | (go_at_call 27; first | (refine (C1.out w1).mono ?_; rintro e w2 ⟨rfl, hb⟩; have hc := E1.out.trans (hb.mono E1.out.size); obtain ⟨d0, d1, d2, d3, d4⟩ := N5.out.below hc LT.out; have E2 := Lib.hid hc; have F2 : Hid (Below w.heap.size w w2) := B0.out.trans (hc.mono B0.out.size); clear hb hc) | (refine (C1.out _).mono ?_; rintro e w2 ⟨rfl, hb⟩; obtain ⟨d0, d1, d2, d3, d4⟩ := N5.out.below hb LT.out; have E2 := Lib.hid hb; have F2 : Hid (Below w.heap.size w w2) := B0.out.trans (hb.mono B0.out.size); clear hb)) | (go_at_call 28; first | (refine (C2.out w2).mono ?_; rintro e w3 ⟨rfl, hb⟩; have hc := E2.out.trans (hb.mono E2.out.size); obtain ⟨d0, d1, d2, d3, d4⟩ := N5.out.below hc LT.out; have E3 := Lib.hid hc; have F3 : Hid (Below w.heap.size w w3) := B0.out.trans (hc.mono B0.out.size); clear hb hc) | (refine (C2.out w1).mono ?_; rintro e w3 ⟨rfl, hb⟩; have hc := E1.out.trans (hb.mono E1.out.size); obtain ⟨d0, d1, d2, d3, d4⟩ := N5.out.below hc LT.out; have E3 := Lib.hid hc; have F3 : Hid (Below w.heap.size w w3) := B0.out.trans (hc.mono B0.out.size); clear hb hc) | (refine (C2.out _).mono ?_; rintro e w3 ⟨rfl, hb⟩; obtain ⟨d0, d1, d2, d3, d4⟩ := N5.out.below hb LT.out; have E3 := Lib.hid hb; have F3 : Hid (Below w.heap.size w w3) := B0.out.trans (hb.mono B0.out.size); clear hb)) | (go_at_call 29; first | (refine (C3.out w3 (HS.out.below (F3.out))).mono ?_; rintro e w4 ⟨rfl, hb⟩; have hc := E3.out.trans (hb.mono E3.out.size); obtain ⟨d0, d1, d2, d3, d4⟩ := N5.out.below hc LT.out; have E4 := Lib.hid hc; have F4 : Hid (Below w.heap.size w w4) := B0.out.trans (hc.mono B0.out.size); clear hb hc) | (refine (C3.out w2 (HS.out.below (F2.out))).mono ?_; rintro e w4 ⟨rfl, hb⟩; have hc := E2.out.trans (hb.mono E2.out.size); obtain ⟨d0, d1, d2, d3, d4⟩ := N5.out.below hc LT.out; have E4 := Lib.hid hc; have F4 : Hid (Below w.heap.size w w4) := B0.out.trans (hc.mono B0.out.size); clear hb hc) | (refine (C3.out w1 (HS.out.below (F1.out))).mono ?_; rintro e w4 ⟨rfl, hb⟩; have hc := E1.out.trans (hb.mono E1.out.size); obtain ⟨d0, d1, d2, d3, d4⟩ := N5.out.below hc LT.out; have E4 := Lib.hid hc; have F4 : Hid (Below w.heap.size w w4) := B0.out.trans (hc.mono B0.out.size); clear hb hc) | (refine (C3.out _ (HS.out.below (B0.out))).mono ?_; rintro e w4 ⟨rfl, hb⟩; obtain ⟨d0, d1, d2, d3, d4⟩ := N5.out.below hb LT.out; have E4 := Lib.hid hb; have F4 : Hid (Below w.heap.size w w4) := B0.out.trans (hb.mono B0.out.size); clear hb)) | (go_at_call 30; first | (refine (C4.out w4).mono ?_; rintro e w5 ⟨rfl, hb⟩; have hc := E4.out.trans (hb.mono E4.out.size); obtain ⟨d0, d1, d2, d3, d4⟩ := N5.out.below hc LT.out; have E5 := Lib.hid hc; have F5 : Hid (Below w.heap.size w w5) := B0.out.trans (hc.mono B0.out.size); clear hb hc) | (refine (C4.out w3).mono ?_; rintro e w5 ⟨rfl, hb⟩; have hc := E3.out.trans (hb.mono E3.out.size); obtain ⟨d0, d1, d2, d3, d4⟩ := N5.out.below hc LT.out; have E5 := Lib.hid hc; have F5 : Hid (Below w.heap.size w w5) := B0.out.trans (hc.mono B0.out.size); clear hb hc) | (refine (C4.out w2).mono ?_; rintro e w5 ⟨rfl, hb⟩; have hc := E2.out.trans (hb.mono E2.out.size); obtain ⟨d0, d1, d2, d3, d4⟩ := N5.out.below hc LT.out; have E5 := Lib.hid hc; have F5 : Hid (Below w.heap.size w w5) := B0.out.trans (hc.mono B0.out.size); clear hb hc) | (refine (C4.out w1).mono ?_; rintro e w5 ⟨rfl, hb⟩; have hc := E1.out.trans (hb.mono E1.out.size); obtain ⟨d0, d1, d2, d3, d4⟩ := N5.out.below hc LT.out; have E5 := Lib.hid hc; have F5 : Hid (Below w.heap.size w w5) := B0.out.trans (hc.mono B0.out.size); clear hb hc) | (refine (C4.out _).mono ?_; rintro e w5 ⟨rfl, hb⟩; obtain ⟨d0, d1, d2, d3, d4⟩ := N5.out.below hb LT.out; have E5 := Lib.hid hb; have F5 : Hid (Below w.heap.size w w5) := B0.out.trans (hb.mono B0.out.size); clear hb)) | (go_at_call 31; first | (refine (C5.out w5 (HS.out.below (F5.out))).mono ?_; rintro e w6 ⟨rfl, hb⟩; have hc := E5.out.trans (hb.mono E5.out.size); obtain ⟨d0, d1, d2, d3, d4⟩ := N5.out.below hc LT.out; have E6 := Lib.hid hc; have F6 : Hid (Below w.heap.size w w6) := B0.out.trans (hc.mono B0.out.size); clear hb hc) | (refine (C5.out w4 (HS.out.below (F4.out))).mono ?_; rintro e w6 ⟨rfl, hb⟩; have hc := E4.out.trans (hb.mono E4.out.size); obtain ⟨d0, d1, d2, d3, d4⟩ := N5.out.below hc LT.out; have E6 := Lib.hid hc; have F6 : Hid (Below w.heap.size w w6) := B0.out.trans (hc.mono B0.out.size); clear hb hc) | (refine (C5.out w3 (HS.out.below (F3.out))).mono ?_; rintro e w6 ⟨rfl, hb⟩; have hc := E3.out.trans (hb.mono E3.out.size); obtain ⟨d0, d1, d2, d3, d4⟩ := N5.out.below hc LT.out; have E6 := Lib.hid hc; have F6 : Hid (Below w.heap.size w w6) := B0.out.trans (hc.mono B0.out.size); clear hb hc) | (refine (C5.out w2 (HS.out.below (F2.out))).mono ?_; rintro e w6 ⟨rfl, hb⟩; have hc := E2.out.trans (hb.mono E2.out.size); obtain ⟨d0, d1, d2, d3, d4⟩ := N5.out.below hc LT.out; have E6 := Lib.hid hc; have F6 : Hid (Below w.heap.size w w6) := B0.out.trans (hc.mono B0.out.size); clear hb hc) | (refine (C5.out w1 (HS.out.below (F1.out))).mono ?_; rintro e w6 ⟨rfl, hb⟩; have hc := E1.out.trans (hb.mono E1.out.size); obtain ⟨d0, d1, d2, d3, d4⟩ := N5.out.below hc LT.out; have E6 := Lib.hid hc; have F6 : Hid (Below w.heap.size w w6) := B0.out.trans (hc.mono B0.out.size); clear hb hc) | (refine (C5.out _ (HS.out.below (B0.out))).mono ?_; rintro e w6 ⟨rfl, hb⟩; obtain ⟨d0, d1, d2, d3, d4⟩ := N5.out.below hb LT.out; have E6 := Lib.hid hb; have F6 : Hid (Below w.heap.size w w6) := B0.out.trans (hb.mono B0.out.size); clear hb)) | (go_at_call 32; first | (refine (C6.out w6).mono ?_; rintro e w7 ⟨rfl, hb⟩; have hc := E6.out.trans (hb.mono E6.out.size); obtain ⟨d0, d1, d2, d3, d4⟩ := N5.out.below hc LT.out; have E7 := Lib.hid hc; have F7 : Hid (Below w.heap.size w w7) := B0.out.trans (hc.mono B0.out.size); clear hb hc) | (refine (C6.out w5).mono ?_; rintro e w7 ⟨rfl, hb⟩; have hc := E5.out.trans (hb.mono E5.out.size); obtain ⟨d0, d1, d2, d3, d4⟩ := N5.out.below hc LT.out; have E7 := Lib.hid hc; have F7 : Hid (Below w.heap.size w w7) := B0.out.trans (hc.mono B0.out.size); clear hb hc) | (refine (C6.out w4).mono ?_; rintro e w7 ⟨rfl, hb⟩; have hc := E4.out.trans (hb.mono E4.out.size); obtain ⟨d0, d1, d2, d3, d4⟩ := N5.out.below hc LT.out; have E7 := Lib.hid hc; have F7 : Hid (Below w.heap.size w w7) := B0.out.trans (hc.mono B0.out.size); clear hb hc) | (refine (C6.out w3).mono ?_; rintro e w7 ⟨rfl, hb⟩; have hc := E3.out.trans (hb.mono E3.out.size); obtain ⟨d0, d1, d2, d3, d4⟩ := N5.out.below hc LT.out; have E7 := Lib.hid hc; have F7 : Hid (Below w.heap.size w w7) := B0.out.trans (hc.mono B0.out.size); clear hb hc) | (refine (C6.out w2).mono ?_; rintro e w7 ⟨rfl, hb⟩; have hc := E2.out.trans (hb.mono E2.out.size); obtain ⟨d0, d1, d2, d3, d4⟩ := N5.out.below hc LT.out; have E7 := Lib.hid hc; have F7 : Hid (Below w.heap.size w w7) := B0.out.trans (hc.mono B0.out.size); clear hb hc) | (refine (C6.out w1).mono ?_; rintro e w7 ⟨rfl, hb⟩; have hc := E1.out.trans (hb.mono E1.out.size); obtain ⟨d0, d1, d2, d3, d4⟩ := N5.out.below hc LT.out; have E7 := Lib.hid hc; have F7 : Hid (Below w.heap.size w w7) := B0.out.trans (hc.mono B0.out.size); clear hb hc) | (refine (C6.out _).mono ?_; rintro e w7 ⟨rfl, hb⟩; obtain ⟨d0, d1, d2, d3, d4⟩ := N5.out.below hb LT.out; have E7 := Lib.hid hb; have F7 : Hid (Below w.heap.size w w7) := B0.out.trans (hb.mono B0.out.size); clear hb)) | (go_at_call 33; first | (refine (C7.out w7).mono ?_; rintro e w8 ⟨rfl, hb⟩; have hc := E7.out.trans (hb.mono E7.out.size); obtain ⟨d0, d1, d2, d3, d4⟩ := N5.out.below hc LT.out; have E8 := Lib.hid hc; have F8 : Hid (Below w.heap.size w w8) := B0.out.trans (hc.mono B0.out.size); clear hb hc) | (refine (C7.out w6).mono ?_; rintro e w8 ⟨rfl, hb⟩; have hc := E6.out.trans (hb.mono E6.out.size); obtain ⟨d0, d1, d2, d3, d4⟩ := N5.out.below hc LT.out; have E8 := Lib.hid hc; have F8 : Hid (Below w.heap.size w w8) := B0.out.trans (hc.mono B0.out.size); clear hb hc) | (refine (C7.out w5).mono ?_; rintro e w8 ⟨rfl, hb⟩; have hc := E5.out.trans (hb.mono E5.out.size); obtain ⟨d0, d1, d2, d3, d4⟩ := N5.out.below hc LT.out; have E8 := Lib.hid hc; have F8 : Hid (Below w.heap.size w w8) := B0.out.trans (hc.mono B0.out.size); clear hb hc) | (refine (C7.out w4).mono ?_; rintro e w8 ⟨rfl, hb⟩; have hc := E4.out.trans (hb.mono E4.out.size); obtain ⟨d0, d1, d2, d3, d4⟩ := N5.out.below hc LT.out; have E8 := Lib.hid hc; have F8 : Hid (Below w.heap.size w w8) := B0.out.trans (hc.mono B0.out.size); clear hb hc) | (refine (C7.out w3).mono ?_; rintro e w8 ⟨rfl, hb⟩; have hc := E3.out.trans (hb.mono E3.out.size); obtain ⟨d0, d1, d2, d3, d4⟩ := N5.out.below hc LT.out; have E8 := Lib.hid hc; have F8 : Hid (Below w.heap.size w w8) := B0.out.trans (hc.mono B0.out.size); clear hb hc) | (refine (C7.out w2).mono ?_; rintro e w8 ⟨rfl, hb⟩; have hc := E2.out.trans (hb.mono E2.out.size); obtain ⟨d0, d1, d2, d3, d4⟩ := N5.out.below hc LT.out; have E8 := Lib.hid hc; have F8 : Hid (Below w.heap.size w w8) := B0.out.trans (hc.mono B0.out.size); clear hb hc) | (refine (C7.out w1).mono ?_; rintro e w8 ⟨rfl, hb⟩; have hc := E1.out.trans (hb.mono E1.out.size); obtain ⟨d0, d1, d2, d3, d4⟩ := N5.out.below hc LT.out; have E8 := Lib.hid hc; have F8 : Hid (Below w.heap.size w w8) := B0.out.trans (hc.mono B0.out.size); clear hb hc) | (refine (C7.out _).mono ?_; rintro e w8 ⟨rfl, hb⟩; obtain ⟨d0, d1, d2, d3, d4⟩ := N5.out.below hb LT.out; have E8 := Lib.hid hb; have F8 : Hid (Below w.heap.size w w8) := B0.out.trans (hb.mono B0.out.size); clear hb)))
    go_ret
    first | exact ⟨ret_bool (by rw [← ANS.out]; simp [oneB, *]), F8.out⟩ | exact ⟨ret_bool (by rw [← ANS.out]; simp [oneB, *]), F7.out⟩ | exact ⟨ret_bool (by rw [← ANS.out]; simp [oneB, *]), F6.out⟩ | exact ⟨ret_bool (by rw [← ANS.out]; simp [oneB, *]), F5.out⟩ | exact ⟨ret_bool (by rw [← ANS.out]; simp [oneB, *]), F4.out⟩ | exact ⟨ret_bool (by rw [← ANS.out]; simp [oneB, *]), F3.out⟩ | exact ⟨ret_bool (by rw [← ANS.out]; simp [oneB, *]), F2.out⟩ | exact ⟨ret_bool (by rw [← ANS.out]; simp [oneB, *]), F1.out⟩ | exact ⟨rfl, B0.out⟩

end Go.Proofs.YticklgoegmobbaaDoor
