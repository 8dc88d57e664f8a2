/-
  The small functions of package shape: operations.
-/
import Derived.Test.YticklgoegmobbaaDoorSLeaf2
namespace Go.Proofs.YticklgoegmobbaaDoor
open Go Go.RowKit
set_option linter.unusedVariables false
set_option maxRecDepth 100000

set_option maxHeartbeats 4000000 in
theorem alu_minus (o d s f m : Int) (w : World) (hk : bits .and .i64 o 240 = 128) (hd : (d == 10) = false) :
    Calls Tryd.prog 33 #[insV o d s f m] w fun e w' => e = .returned (.bool ((o == bits .or .i64 128 (o % 8)) && ((s == 0) && ((f == 0) && (m == 0))))) ∧ Below w.heap.size w w' := by
  have n5 := Cells5.new w ⟨o, d, s, f, m⟩ 39
  have S0 := Lib.hid (show CB w.heap.size o d s f m (w.alloc (.cells #[.int .i64 o, .int .i64 d, .int .i64 s, .int .i64 f, .int .i64 m] 39)).drew from n5)
  clear n5
  have LT := Lib.hid (lt_box w (.cells #[.int .i64 o, .int .i64 d, .int .i64 s, .int .i64 f, .int .i64 m] 39))
  have B0 : Hid (Below w.heap.size w (w.alloc (.cells #[.int .i64 o, .int .i64 d, .int .i64 s, .int .i64 f, .int .i64 m] 39)).drew) := ((Below.refl _ w).alloc (Nat.le_refl _) _).drew
  have C0 := Lib.hid (class_any o d s f m)
  unfold insV at C0 ⊢
  obtain ⟨y, hy⟩ : ∃ y, bits .or .i64 128 (o % 8) = y := ⟨_, rfl⟩
  rw [hy]
  cases h1 : (o == y) <;> cases h2 : (s == 0) <;> cases h3 : (f == 0) <;> cases h4 : (m == 0)
  all_goals
    go_enter Tryd.func33, Tryd.ntmps33
    go_wp2_with fail
    clear hk
    go_region_held3 (fun W => W.cell? ⟨w.heap.size, 0, none⟩ = some (.int .i64 o) ∧ W.cell? ⟨w.heap.size, 1, none⟩ = some (.int .i64 d) ∧ W.cell? ⟨w.heap.size, 2, none⟩ = some (.int .i64 s) ∧ W.cell? ⟨w.heap.size, 3, none⟩ = some (.int .i64 f) ∧ W.cell? ⟨w.heap.size, 4, none⟩ = some (.int .i64 m))
      (first | exact S1.out | exact S0.out)
      ((go_at_call 27; refine (C0.out _).mono ?_; rintro e w1 ⟨rfl, hb⟩; have S1 := Lib.hid (CB.below S0.out hb LT.out); have B1 : Hid (Below w.heap.size w w1) := B0.out.trans (hb.mono B0.out.size); clear hb))
    all_goals go_wp2_with fail
    all_goals go_ret
    all_goals exact ⟨rfl, B1.out⟩

set_option maxHeartbeats 2000000 in
theorem alu_ten (o d s f m : Int) (w : World) (hd : (d == 10) = true) :
    Calls Tryd.prog 33 #[insV o d s f m] w fun e w' => e = .returned (.bool (false)) ∧ Below w.heap.size w w' := by
  unfold insV
  go_enter Tryd.func33, Tryd.ntmps33
  go_wp2_with fail
  go_ret
  exact ⟨rfl, (Below.refl _ w).alloc (Nat.le_refl _) _⟩
set_option maxHeartbeats 2000000 in
theorem alu_rest (o d s f m : Int) (w : World) (h128 : (bits .and .i64 o 240 == 128) = false) :
    Calls Tryd.prog 33 #[insV o d s f m] w fun e w' => e = .returned (.bool (aluB o d s f m)) ∧ Below w.heap.size w w' := by
  unfold aluB secondKs
  rw [h128]
  have n5 := Cells5.new w ⟨o, d, s, f, m⟩ 39
  have N5 := Lib.hid n5
  clear n5
  have LT := Lib.hid (lt_box w (.cells #[.int .i64 o, .int .i64 d, .int .i64 s, .int .i64 f, .int .i64 m] 39))
  have B0 : Hid (Below w.heap.size w (w.alloc (.cells #[.int .i64 o, .int .i64 d, .int .i64 s, .int .i64 f, .int .i64 m] 39))) := (Below.refl _ w).alloc (Nat.le_refl _) _
  have C0 := Lib.hid (turn_any o d s f m)
  unfold insV at C0
  have C1 := Lib.hid (second_any o d s f m)
  unfold insV at C1
  have C2 := Lib.hid (aluOff_any o d s f m)
  unfold insV at C2
  have C3 := Lib.hid (aluImm_any o d s f m)
  unfold insV at C3
  unfold insV
  cases h1 : (d == 10)
  focus
    have g1 : (d != 10) = true := by simp only [bne, h1]; rfl
    cases h2 : (bits .and .i64 o 240 == 208)
    focus
      have g2 : (bits .and .i64 o 240 != 208) = true := by simp only [bne, h2]; rfl
      cases h3 : (bits .and .i64 o 240 == 0)
      focus
        have g3 : (bits .and .i64 o 240 != 0) = true := by simp only [bne, h3]; rfl
        cases h4 : (bits .and .i64 o 240 == 16)
        focus
          have g4 : (bits .and .i64 o 240 != 16) = true := by simp only [bne, h4]; rfl
          cases h5 : (bits .and .i64 o 240 == 32)
          focus
            have g5 : (bits .and .i64 o 240 != 32) = true := by simp only [bne, h5]; rfl
            cases h6 : (bits .and .i64 o 240 == 48)
            focus
              have g6 : (bits .and .i64 o 240 != 48) = true := by simp only [bne, h6]; rfl
              cases h7 : (bits .and .i64 o 240 == 64)
              focus
                have g7 : (bits .and .i64 o 240 != 64) = true := by simp only [bne, h7]; rfl
                cases h8 : (bits .and .i64 o 240 == 80)
                focus
                  have g8 : (bits .and .i64 o 240 != 80) = true := by simp only [bne, h8]; rfl
                  cases h9 : (bits .and .i64 o 240 == 96)
                  focus
                    have g9 : (bits .and .i64 o 240 != 96) = true := by simp only [bne, h9]; rfl
                    cases h10 : (bits .and .i64 o 240 == 112)
                    focus
                      have g10 : (bits .and .i64 o 240 != 112) = true := by simp only [bne, h10]; rfl
                      cases h11 : (bits .and .i64 o 240 == 144)
                      focus
                        have g11 : (bits .and .i64 o 240 != 144) = true := by simp only [bne, h11]; rfl
                        cases h12 : (bits .and .i64 o 240 == 160)
                        focus
                          have g12 : (bits .and .i64 o 240 != 160) = true := by simp only [bne, h12]; rfl
                          cases h13 : (bits .and .i64 o 240 == 176)
                          focus
                            have g13 : (bits .and .i64 o 240 != 176) = true := by simp only [bne, h13]; rfl
                            cases h14 : (bits .and .i64 o 240 == 192)
                            focus
                              have g14 : (bits .and .i64 o 240 != 192) = true := by simp only [bne, h14]; rfl
                            rotate_left 1
                            focus
                              have g14 : (bits .and .i64 o 240 != 192) = false := by simp only [bne, h14]; rfl
                              cases h15 : (secondB o s m)
                              focus
                                skip
                              rotate_left 1
                              focus
                                cases h16 : (aluOffB o f)
                                focus
                                  skip
                                rotate_left 1
                                focus
                                  cases h17 : (bits .and .i64 o 8 == 0)
                                  focus
                                    have g17 : (bits .and .i64 o 8 != 0) = true := by simp only [bne, h17]; rfl
                                  rotate_left 1
                                  focus
                                    have g17 : (bits .and .i64 o 8 != 0) = false := by simp only [bne, h17]; rfl
                                    cases h18 : (aluImmB o m)
                                    focus
                                      skip
                                    rotate_left 1
                                    focus
                                      skip
                          rotate_left 6
                          focus
                            have g13 : (bits .and .i64 o 240 != 176) = false := by simp only [bne, h13]; rfl
                            cases h14 : (secondB o s m)
                            focus
                              skip
                            rotate_left 1
                            focus
                              cases h15 : (aluOffB o f)
                              focus
                                skip
                              rotate_left 1
                              focus
                                cases h16 : (bits .and .i64 o 8 == 0)
                                focus
                                  have g16 : (bits .and .i64 o 8 != 0) = true := by simp only [bne, h16]; rfl
                                rotate_left 1
                                focus
                                  have g16 : (bits .and .i64 o 8 != 0) = false := by simp only [bne, h16]; rfl
                                  cases h17 : (aluImmB o m)
                                  focus
                                    skip
                                  rotate_left 1
                                  focus
                                    skip
                        rotate_left 11
                        focus
                          have g12 : (bits .and .i64 o 240 != 160) = false := by simp only [bne, h12]; rfl
                          cases h13 : (secondB o s m)
                          focus
                            skip
                          rotate_left 1
                          focus
                            cases h14 : (aluOffB o f)
                            focus
                              skip
                            rotate_left 1
                            focus
                              cases h15 : (bits .and .i64 o 8 == 0)
                              focus
                                have g15 : (bits .and .i64 o 8 != 0) = true := by simp only [bne, h15]; rfl
                              rotate_left 1
                              focus
                                have g15 : (bits .and .i64 o 8 != 0) = false := by simp only [bne, h15]; rfl
                                cases h16 : (aluImmB o m)
                                focus
                                  skip
                                rotate_left 1
                                focus
                                  skip
                      rotate_left 16
                      focus
                        have g11 : (bits .and .i64 o 240 != 144) = false := by simp only [bne, h11]; rfl
                        cases h12 : (secondB o s m)
                        focus
                          skip
                        rotate_left 1
                        focus
                          cases h13 : (aluOffB o f)
                          focus
                            skip
                          rotate_left 1
                          focus
                            cases h14 : (bits .and .i64 o 8 == 0)
                            focus
                              have g14 : (bits .and .i64 o 8 != 0) = true := by simp only [bne, h14]; rfl
                            rotate_left 1
                            focus
                              have g14 : (bits .and .i64 o 8 != 0) = false := by simp only [bne, h14]; rfl
                              cases h15 : (aluImmB o m)
                              focus
                                skip
                              rotate_left 1
                              focus
                                skip
                    rotate_left 21
                    focus
                      have g10 : (bits .and .i64 o 240 != 112) = false := by simp only [bne, h10]; rfl
                      cases h11 : (secondB o s m)
                      focus
                        skip
                      rotate_left 1
                      focus
                        cases h12 : (aluOffB o f)
                        focus
                          skip
                        rotate_left 1
                        focus
                          cases h13 : (bits .and .i64 o 8 == 0)
                          focus
                            have g13 : (bits .and .i64 o 8 != 0) = true := by simp only [bne, h13]; rfl
                          rotate_left 1
                          focus
                            have g13 : (bits .and .i64 o 8 != 0) = false := by simp only [bne, h13]; rfl
                            cases h14 : (aluImmB o m)
                            focus
                              skip
                            rotate_left 1
                            focus
                              skip
                  rotate_left 26
                  focus
                    have g9 : (bits .and .i64 o 240 != 96) = false := by simp only [bne, h9]; rfl
                    cases h10 : (secondB o s m)
                    focus
                      skip
                    rotate_left 1
                    focus
                      cases h11 : (aluOffB o f)
                      focus
                        skip
                      rotate_left 1
                      focus
                        cases h12 : (bits .and .i64 o 8 == 0)
                        focus
                          have g12 : (bits .and .i64 o 8 != 0) = true := by simp only [bne, h12]; rfl
                        rotate_left 1
                        focus
                          have g12 : (bits .and .i64 o 8 != 0) = false := by simp only [bne, h12]; rfl
                          cases h13 : (aluImmB o m)
                          focus
                            skip
                          rotate_left 1
                          focus
                            skip
                rotate_left 31
                focus
                  have g8 : (bits .and .i64 o 240 != 80) = false := by simp only [bne, h8]; rfl
                  cases h9 : (secondB o s m)
                  focus
                    skip
                  rotate_left 1
                  focus
                    cases h10 : (aluOffB o f)
                    focus
                      skip
                    rotate_left 1
                    focus
                      cases h11 : (bits .and .i64 o 8 == 0)
                      focus
                        have g11 : (bits .and .i64 o 8 != 0) = true := by simp only [bne, h11]; rfl
                      rotate_left 1
                      focus
                        have g11 : (bits .and .i64 o 8 != 0) = false := by simp only [bne, h11]; rfl
                        cases h12 : (aluImmB o m)
                        focus
                          skip
                        rotate_left 1
                        focus
                          skip
              rotate_left 36
              focus
                have g7 : (bits .and .i64 o 240 != 64) = false := by simp only [bne, h7]; rfl
                cases h8 : (secondB o s m)
                focus
                  skip
                rotate_left 1
                focus
                  cases h9 : (aluOffB o f)
                  focus
                    skip
                  rotate_left 1
                  focus
                    cases h10 : (bits .and .i64 o 8 == 0)
                    focus
                      have g10 : (bits .and .i64 o 8 != 0) = true := by simp only [bne, h10]; rfl
                    rotate_left 1
                    focus
                      have g10 : (bits .and .i64 o 8 != 0) = false := by simp only [bne, h10]; rfl
                      cases h11 : (aluImmB o m)
                      focus
                        skip
                      rotate_left 1
                      focus
                        skip
            rotate_left 41
            focus
              have g6 : (bits .and .i64 o 240 != 48) = false := by simp only [bne, h6]; rfl
              cases h7 : (secondB o s m)
              focus
                skip
              rotate_left 1
              focus
                cases h8 : (aluOffB o f)
                focus
                  skip
                rotate_left 1
                focus
                  cases h9 : (bits .and .i64 o 8 == 0)
                  focus
                    have g9 : (bits .and .i64 o 8 != 0) = true := by simp only [bne, h9]; rfl
                  rotate_left 1
                  focus
                    have g9 : (bits .and .i64 o 8 != 0) = false := by simp only [bne, h9]; rfl
                    cases h10 : (aluImmB o m)
                    focus
                      skip
                    rotate_left 1
                    focus
                      skip
          rotate_left 46
          focus
            have g5 : (bits .and .i64 o 240 != 32) = false := by simp only [bne, h5]; rfl
            cases h6 : (secondB o s m)
            focus
              skip
            rotate_left 1
            focus
              cases h7 : (aluOffB o f)
              focus
                skip
              rotate_left 1
              focus
                cases h8 : (bits .and .i64 o 8 == 0)
                focus
                  have g8 : (bits .and .i64 o 8 != 0) = true := by simp only [bne, h8]; rfl
                rotate_left 1
                focus
                  have g8 : (bits .and .i64 o 8 != 0) = false := by simp only [bne, h8]; rfl
                  cases h9 : (aluImmB o m)
                  focus
                    skip
                  rotate_left 1
                  focus
                    skip
        rotate_left 51
        focus
          have g4 : (bits .and .i64 o 240 != 16) = false := by simp only [bne, h4]; rfl
          cases h5 : (secondB o s m)
          focus
            skip
          rotate_left 1
          focus
            cases h6 : (aluOffB o f)
            focus
              skip
            rotate_left 1
            focus
              cases h7 : (bits .and .i64 o 8 == 0)
              focus
                have g7 : (bits .and .i64 o 8 != 0) = true := by simp only [bne, h7]; rfl
              rotate_left 1
              focus
                have g7 : (bits .and .i64 o 8 != 0) = false := by simp only [bne, h7]; rfl
                cases h8 : (aluImmB o m)
                focus
                  skip
                rotate_left 1
                focus
                  skip
      rotate_left 56
      focus
        have g3 : (bits .and .i64 o 240 != 0) = false := by simp only [bne, h3]; rfl
        cases h4 : (secondB o s m)
        focus
          skip
        rotate_left 1
        focus
          cases h5 : (aluOffB o f)
          focus
            skip
          rotate_left 1
          focus
            cases h6 : (bits .and .i64 o 8 == 0)
            focus
              have g6 : (bits .and .i64 o 8 != 0) = true := by simp only [bne, h6]; rfl
            rotate_left 1
            focus
              have g6 : (bits .and .i64 o 8 != 0) = false := by simp only [bne, h6]; rfl
              cases h7 : (aluImmB o m)
              focus
                skip
              rotate_left 1
              focus
                skip
    rotate_left 61
    focus
      have g2 : (bits .and .i64 o 240 != 208) = false := by simp only [bne, h2]; rfl
  rotate_left 62
  focus
    have g1 : (d != 10) = false := by simp only [bne, h1]; rfl
  all_goals
    go_enter Tryd.func33, Tryd.ntmps33
    go_wp2_with (first | (go_at_call 42; first | (refine (C0.out _).mono ?_; rintro e w1 ⟨rfl, hb⟩; obtain ⟨d0, d1, d2, d3, d4⟩ := N5.out.below hb LT.out; have E1 := Lib.hid hb; have F1 : Hid (Below w.heap.size w w1) := B0.out.trans (hb.mono B0.out.size); clear hb)) | (go_at_call 41; first | (refine (C1.out w1).mono ?_; rintro e w2 ⟨rfl, hb⟩; have hc := E1.out.trans (hb.mono E1.out.size); obtain ⟨d0, d1, d2, d3, d4⟩ := N5.out.below hc LT.out; have E2 := Lib.hid hc; have F2 : Hid (Below w.heap.size w w2) := B0.out.trans (hc.mono B0.out.size); clear hb hc) | (refine (C1.out _).mono ?_; rintro e w2 ⟨rfl, hb⟩; obtain ⟨d0, d1, d2, d3, d4⟩ := N5.out.below hb LT.out; have E2 := Lib.hid hb; have F2 : Hid (Below w.heap.size w w2) := B0.out.trans (hb.mono B0.out.size); clear hb)) | (go_at_call 43; first | (refine (C2.out w2).mono ?_; rintro e w3 ⟨rfl, hb⟩; have hc := E2.out.trans (hb.mono E2.out.size); obtain ⟨d0, d1, d2, d3, d4⟩ := N5.out.below hc LT.out; have E3 := Lib.hid hc; have F3 : Hid (Below w.heap.size w w3) := B0.out.trans (hc.mono B0.out.size); clear hb hc) | (refine (C2.out w1).mono ?_; rintro e w3 ⟨rfl, hb⟩; have hc := E1.out.trans (hb.mono E1.out.size); obtain ⟨d0, d1, d2, d3, d4⟩ := N5.out.below hc LT.out; have E3 := Lib.hid hc; have F3 : Hid (Below w.heap.size w w3) := B0.out.trans (hc.mono B0.out.size); clear hb hc) | (refine (C2.out _).mono ?_; rintro e w3 ⟨rfl, hb⟩; obtain ⟨d0, d1, d2, d3, d4⟩ := N5.out.below hb LT.out; have E3 := Lib.hid hb; have F3 : Hid (Below w.heap.size w w3) := B0.out.trans (hb.mono B0.out.size); clear hb)) | (go_at_call 44; first | (refine (C3.out w3).mono ?_; rintro e w4 ⟨rfl, hb⟩; have hc := E3.out.trans (hb.mono E3.out.size); obtain ⟨d0, d1, d2, d3, d4⟩ := N5.out.below hc LT.out; have E4 := Lib.hid hc; have F4 : Hid (Below w.heap.size w w4) := B0.out.trans (hc.mono B0.out.size); clear hb hc) | (refine (C3.out w2).mono ?_; rintro e w4 ⟨rfl, hb⟩; have hc := E2.out.trans (hb.mono E2.out.size); obtain ⟨d0, d1, d2, d3, d4⟩ := N5.out.below hc LT.out; have E4 := Lib.hid hc; have F4 : Hid (Below w.heap.size w w4) := B0.out.trans (hc.mono B0.out.size); clear hb hc) | (refine (C3.out w1).mono ?_; rintro e w4 ⟨rfl, hb⟩; have hc := E1.out.trans (hb.mono E1.out.size); obtain ⟨d0, d1, d2, d3, d4⟩ := N5.out.below hc LT.out; have E4 := Lib.hid hc; have F4 : Hid (Below w.heap.size w w4) := B0.out.trans (hc.mono B0.out.size); clear hb hc) | (refine (C3.out _).mono ?_; rintro e w4 ⟨rfl, hb⟩; obtain ⟨d0, d1, d2, d3, d4⟩ := N5.out.below hb LT.out; have E4 := Lib.hid hb; have F4 : Hid (Below w.heap.size w w4) := B0.out.trans (hb.mono B0.out.size); clear hb)))
    go_ret
    first | exact ⟨rfl, F4.out⟩ | exact ⟨rfl, F3.out⟩ | exact ⟨rfl, F2.out⟩ | exact ⟨rfl, F1.out⟩ | exact ⟨rfl, B0.out⟩

theorem alu_any (o d s f m : Int) (w : World) :
    Calls Tryd.prog 33 #[insV o d s f m] w fun e w' => e = .returned (.bool (aluB o d s f m)) ∧ Below w.heap.size w w' := by
  cases h1 : (bits .and .i64 o 240 == 128)
  · exact alu_rest o d s f m w h1
  · have h := eq_of_beq h1
    cases hd : (d == 10)
    · have := alu_minus o d s f m w h hd
      rwa [show ((o == bits .or .i64 128 (o % 8)) && ((s == 0) && ((f == 0) && (m == 0)))) = aluB o d s f m by simp only [aluB, hd, h1]; rfl] at this
    · have := alu_ten o d s f m w hd
      rwa [show false = aluB o d s f m by simp [aluB, hd]] at this
end Go.Proofs.YticklgoegmobbaaDoor
