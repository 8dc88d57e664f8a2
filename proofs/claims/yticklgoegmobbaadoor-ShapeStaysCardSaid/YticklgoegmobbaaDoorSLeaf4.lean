/-
  The small functions of package shape: jumps.
-/
import Derived.Test.YticklgoegmobbaaDoorSLeaf2
namespace Go.Proofs.YticklgoegmobbaaDoor
open Go Go.RowKit
set_option linter.unusedVariables false
set_option maxRecDepth 100000

set_option maxHeartbeats 2000000 in
theorem jump_any (o d s f m : Int) (w : World) :
    Calls Tryd.prog 32 #[insV o d s f m] w fun e w' => e = .returned (.bool (jumpB o d s f m)) ∧ Below w.heap.size w w' := by
  unfold jumpB jumpKs
  have n5 := Cells5.new w ⟨o, d, s, f, m⟩ 39
  have N5 := Lib.hid n5
  clear n5
  have LT := Lib.hid (lt_box w (.cells #[.int .i64 o, .int .i64 d, .int .i64 s, .int .i64 f, .int .i64 m] 39))
  have B0 : Hid (Below w.heap.size w (w.alloc (.cells #[.int .i64 o, .int .i64 d, .int .i64 s, .int .i64 f, .int .i64 m] 39))) := (Below.refl _ w).alloc (Nat.le_refl _) _
  have C0 := Lib.hid (second_any o d s f m)
  unfold insV at C0
  unfold insV
  cases h1 : (o == 5)
  · have g1 : (o != 5) = true := by simp only [bne, h1]; rfl
    cases h2 : (o == 133)
    · have g2 : (o != 133) = true := by simp only [bne, h2]; rfl
      cases h3 : (o == 149)
      · have g3 : (o != 149) = true := by simp only [bne, h3]; rfl
        cases h4 : (bits .and .i64 o 240 == 16)
        · have g4 : (bits .and .i64 o 240 != 16) = true := by simp only [bne, h4]; rfl
          cases h5 : (bits .and .i64 o 240 == 32)
          · have g5 : (bits .and .i64 o 240 != 32) = true := by simp only [bne, h5]; rfl
            cases h6 : (bits .and .i64 o 240 == 48)
            · have g6 : (bits .and .i64 o 240 != 48) = true := by simp only [bne, h6]; rfl
              cases h7 : (bits .and .i64 o 240 == 64)
              · have g7 : (bits .and .i64 o 240 != 64) = true := by simp only [bne, h7]; rfl
                cases h8 : (bits .and .i64 o 240 == 80)
                · have g8 : (bits .and .i64 o 240 != 80) = true := by simp only [bne, h8]; rfl
                  cases h9 : (bits .and .i64 o 240 == 96)
                  · have g9 : (bits .and .i64 o 240 != 96) = true := by simp only [bne, h9]; rfl
                    cases h10 : (bits .and .i64 o 240 == 112)
                    · have g10 : (bits .and .i64 o 240 != 112) = true := by simp only [bne, h10]; rfl
                      cases h11 : (bits .and .i64 o 240 == 160)
                      · have g11 : (bits .and .i64 o 240 != 160) = true := by simp only [bne, h11]; rfl
                        cases h12 : (bits .and .i64 o 240 == 176)
                        · have g12 : (bits .and .i64 o 240 != 176) = true := by simp only [bne, h12]; rfl
                          cases h13 : (bits .and .i64 o 240 == 192)
                          · have g13 : (bits .and .i64 o 240 != 192) = true := by simp only [bne, h13]; rfl
                            cases h14 : (bits .and .i64 o 240 == 208)
                            · have g14 : (bits .and .i64 o 240 != 208) = true := by simp only [bne, h14]; rfl
                              go_enter Tryd.func32, Tryd.ntmps32
                              go_wp2_with (first | (go_at_call 41; first | (refine (C0.out _).mono ?_; rintro e w1 ⟨rfl, hb⟩; obtain ⟨d0, d1, d2, d3, d4⟩ := N5.out.below hb LT.out; have E1 := Lib.hid hb; have F1 : Hid (Below w.heap.size w w1) := B0.out.trans (hb.mono B0.out.size); clear hb)))
                              go_ret
                              first | exact ⟨rfl, F1.out⟩ | exact ⟨rfl, B0.out⟩
                            · have g14 : (bits .and .i64 o 240 != 208) = false := by simp only [bne, h14]; rfl
                              go_enter Tryd.func32, Tryd.ntmps32
                              go_wp2_with (first | (go_at_call 41; first | (refine (C0.out _).mono ?_; rintro e w1 ⟨rfl, hb⟩; obtain ⟨d0, d1, d2, d3, d4⟩ := N5.out.below hb LT.out; have E1 := Lib.hid hb; have F1 : Hid (Below w.heap.size w w1) := B0.out.trans (hb.mono B0.out.size); clear hb)))
                              go_ret
                              first | exact ⟨rfl, F1.out⟩ | exact ⟨rfl, B0.out⟩
                          · have g13 : (bits .and .i64 o 240 != 192) = false := by simp only [bne, h13]; rfl
                            go_enter Tryd.func32, Tryd.ntmps32
                            go_wp2_with (first | (go_at_call 41; first | (refine (C0.out _).mono ?_; rintro e w1 ⟨rfl, hb⟩; obtain ⟨d0, d1, d2, d3, d4⟩ := N5.out.below hb LT.out; have E1 := Lib.hid hb; have F1 : Hid (Below w.heap.size w w1) := B0.out.trans (hb.mono B0.out.size); clear hb)))
                            go_ret
                            first | exact ⟨rfl, F1.out⟩ | exact ⟨rfl, B0.out⟩
                        · have g12 : (bits .and .i64 o 240 != 176) = false := by simp only [bne, h12]; rfl
                          go_enter Tryd.func32, Tryd.ntmps32
                          go_wp2_with (first | (go_at_call 41; first | (refine (C0.out _).mono ?_; rintro e w1 ⟨rfl, hb⟩; obtain ⟨d0, d1, d2, d3, d4⟩ := N5.out.below hb LT.out; have E1 := Lib.hid hb; have F1 : Hid (Below w.heap.size w w1) := B0.out.trans (hb.mono B0.out.size); clear hb)))
                          go_ret
                          first | exact ⟨rfl, F1.out⟩ | exact ⟨rfl, B0.out⟩
                      · have g11 : (bits .and .i64 o 240 != 160) = false := by simp only [bne, h11]; rfl
                        go_enter Tryd.func32, Tryd.ntmps32
                        go_wp2_with (first | (go_at_call 41; first | (refine (C0.out _).mono ?_; rintro e w1 ⟨rfl, hb⟩; obtain ⟨d0, d1, d2, d3, d4⟩ := N5.out.below hb LT.out; have E1 := Lib.hid hb; have F1 : Hid (Below w.heap.size w w1) := B0.out.trans (hb.mono B0.out.size); clear hb)))
                        go_ret
                        first | exact ⟨rfl, F1.out⟩ | exact ⟨rfl, B0.out⟩
                    · have g10 : (bits .and .i64 o 240 != 112) = false := by simp only [bne, h10]; rfl
                      go_enter Tryd.func32, Tryd.ntmps32
                      go_wp2_with (first | (go_at_call 41; first | (refine (C0.out _).mono ?_; rintro e w1 ⟨rfl, hb⟩; obtain ⟨d0, d1, d2, d3, d4⟩ := N5.out.below hb LT.out; have E1 := Lib.hid hb; have F1 : Hid (Below w.heap.size w w1) := B0.out.trans (hb.mono B0.out.size); clear hb)))
                      go_ret
                      first | exact ⟨rfl, F1.out⟩ | exact ⟨rfl, B0.out⟩
                  · have g9 : (bits .and .i64 o 240 != 96) = false := by simp only [bne, h9]; rfl
                    go_enter Tryd.func32, Tryd.ntmps32
                    go_wp2_with (first | (go_at_call 41; first | (refine (C0.out _).mono ?_; rintro e w1 ⟨rfl, hb⟩; obtain ⟨d0, d1, d2, d3, d4⟩ := N5.out.below hb LT.out; have E1 := Lib.hid hb; have F1 : Hid (Below w.heap.size w w1) := B0.out.trans (hb.mono B0.out.size); clear hb)))
                    go_ret
                    first | exact ⟨rfl, F1.out⟩ | exact ⟨rfl, B0.out⟩
                · have g8 : (bits .and .i64 o 240 != 80) = false := by simp only [bne, h8]; rfl
                  go_enter Tryd.func32, Tryd.ntmps32
                  go_wp2_with (first | (go_at_call 41; first | (refine (C0.out _).mono ?_; rintro e w1 ⟨rfl, hb⟩; obtain ⟨d0, d1, d2, d3, d4⟩ := N5.out.below hb LT.out; have E1 := Lib.hid hb; have F1 : Hid (Below w.heap.size w w1) := B0.out.trans (hb.mono B0.out.size); clear hb)))
                  go_ret
                  first | exact ⟨rfl, F1.out⟩ | exact ⟨rfl, B0.out⟩
              · have g7 : (bits .and .i64 o 240 != 64) = false := by simp only [bne, h7]; rfl
                go_enter Tryd.func32, Tryd.ntmps32
                go_wp2_with (first | (go_at_call 41; first | (refine (C0.out _).mono ?_; rintro e w1 ⟨rfl, hb⟩; obtain ⟨d0, d1, d2, d3, d4⟩ := N5.out.below hb LT.out; have E1 := Lib.hid hb; have F1 : Hid (Below w.heap.size w w1) := B0.out.trans (hb.mono B0.out.size); clear hb)))
                go_ret
                first | exact ⟨rfl, F1.out⟩ | exact ⟨rfl, B0.out⟩
            · have g6 : (bits .and .i64 o 240 != 48) = false := by simp only [bne, h6]; rfl
              go_enter Tryd.func32, Tryd.ntmps32
              go_wp2_with (first | (go_at_call 41; first | (refine (C0.out _).mono ?_; rintro e w1 ⟨rfl, hb⟩; obtain ⟨d0, d1, d2, d3, d4⟩ := N5.out.below hb LT.out; have E1 := Lib.hid hb; have F1 : Hid (Below w.heap.size w w1) := B0.out.trans (hb.mono B0.out.size); clear hb)))
              go_ret
              first | exact ⟨rfl, F1.out⟩ | exact ⟨rfl, B0.out⟩
          · have g5 : (bits .and .i64 o 240 != 32) = false := by simp only [bne, h5]; rfl
            go_enter Tryd.func32, Tryd.ntmps32
            go_wp2_with (first | (go_at_call 41; first | (refine (C0.out _).mono ?_; rintro e w1 ⟨rfl, hb⟩; obtain ⟨d0, d1, d2, d3, d4⟩ := N5.out.below hb LT.out; have E1 := Lib.hid hb; have F1 : Hid (Below w.heap.size w w1) := B0.out.trans (hb.mono B0.out.size); clear hb)))
            go_ret
            first | exact ⟨rfl, F1.out⟩ | exact ⟨rfl, B0.out⟩
        · have g4 : (bits .and .i64 o 240 != 16) = false := by simp only [bne, h4]; rfl
          go_enter Tryd.func32, Tryd.ntmps32
          go_wp2_with (first | (go_at_call 41; first | (refine (C0.out _).mono ?_; rintro e w1 ⟨rfl, hb⟩; obtain ⟨d0, d1, d2, d3, d4⟩ := N5.out.below hb LT.out; have E1 := Lib.hid hb; have F1 : Hid (Below w.heap.size w w1) := B0.out.trans (hb.mono B0.out.size); clear hb)))
          go_ret
          first | exact ⟨rfl, F1.out⟩ | exact ⟨rfl, B0.out⟩
      · have g3 : (o != 149) = false := by simp only [bne, h3]; rfl
        cases h4 : (d == 0)
        · have g4 : (d != 0) = true := by simp only [bne, h4]; rfl
          go_enter Tryd.func32, Tryd.ntmps32
          go_wp2_with (first | (go_at_call 41; first | (refine (C0.out _).mono ?_; rintro e w1 ⟨rfl, hb⟩; obtain ⟨d0, d1, d2, d3, d4⟩ := N5.out.below hb LT.out; have E1 := Lib.hid hb; have F1 : Hid (Below w.heap.size w w1) := B0.out.trans (hb.mono B0.out.size); clear hb)))
          go_ret
          first | exact ⟨rfl, F1.out⟩ | exact ⟨rfl, B0.out⟩
        · have g4 : (d != 0) = false := by simp only [bne, h4]; rfl
          cases h5 : (s == 0)
          · have g5 : (s != 0) = true := by simp only [bne, h5]; rfl
            go_enter Tryd.func32, Tryd.ntmps32
            go_wp2_with (first | (go_at_call 41; first | (refine (C0.out _).mono ?_; rintro e w1 ⟨rfl, hb⟩; obtain ⟨d0, d1, d2, d3, d4⟩ := N5.out.below hb LT.out; have E1 := Lib.hid hb; have F1 : Hid (Below w.heap.size w w1) := B0.out.trans (hb.mono B0.out.size); clear hb)))
            go_ret
            first | exact ⟨rfl, F1.out⟩ | exact ⟨rfl, B0.out⟩
          · have g5 : (s != 0) = false := by simp only [bne, h5]; rfl
            cases h6 : (f == 0)
            · have g6 : (f != 0) = true := by simp only [bne, h6]; rfl
              go_enter Tryd.func32, Tryd.ntmps32
              go_wp2_with (first | (go_at_call 41; first | (refine (C0.out _).mono ?_; rintro e w1 ⟨rfl, hb⟩; obtain ⟨d0, d1, d2, d3, d4⟩ := N5.out.below hb LT.out; have E1 := Lib.hid hb; have F1 : Hid (Below w.heap.size w w1) := B0.out.trans (hb.mono B0.out.size); clear hb)))
              go_ret
              first | exact ⟨rfl, F1.out⟩ | exact ⟨rfl, B0.out⟩
            · have g6 : (f != 0) = false := by simp only [bne, h6]; rfl
              cases h7 : (m == 0)
              · have g7 : (m != 0) = true := by simp only [bne, h7]; rfl
                go_enter Tryd.func32, Tryd.ntmps32
                go_wp2_with (first | (go_at_call 41; first | (refine (C0.out _).mono ?_; rintro e w1 ⟨rfl, hb⟩; obtain ⟨d0, d1, d2, d3, d4⟩ := N5.out.below hb LT.out; have E1 := Lib.hid hb; have F1 : Hid (Below w.heap.size w w1) := B0.out.trans (hb.mono B0.out.size); clear hb)))
                go_ret
                first | exact ⟨rfl, F1.out⟩ | exact ⟨rfl, B0.out⟩
              · have g7 : (m != 0) = false := by simp only [bne, h7]; rfl
                go_enter Tryd.func32, Tryd.ntmps32
                go_wp2_with (first | (go_at_call 41; first | (refine (C0.out _).mono ?_; rintro e w1 ⟨rfl, hb⟩; obtain ⟨d0, d1, d2, d3, d4⟩ := N5.out.below hb LT.out; have E1 := Lib.hid hb; have F1 : Hid (Below w.heap.size w w1) := B0.out.trans (hb.mono B0.out.size); clear hb)))
                go_ret
                first | exact ⟨rfl, F1.out⟩ | exact ⟨rfl, B0.out⟩
    · have g2 : (o != 133) = false := by simp only [bne, h2]; rfl
      cases h3 : (d == 0)
      · have g3 : (d != 0) = true := by simp only [bne, h3]; rfl
        go_enter Tryd.func32, Tryd.ntmps32
        go_wp2_with (first | (go_at_call 41; first | (refine (C0.out _).mono ?_; rintro e w1 ⟨rfl, hb⟩; obtain ⟨d0, d1, d2, d3, d4⟩ := N5.out.below hb LT.out; have E1 := Lib.hid hb; have F1 : Hid (Below w.heap.size w w1) := B0.out.trans (hb.mono B0.out.size); clear hb)))
        go_ret
        first | exact ⟨rfl, F1.out⟩ | exact ⟨rfl, B0.out⟩
      · have g3 : (d != 0) = false := by simp only [bne, h3]; rfl
        cases h4 : (s == 0)
        · have g4 : (s != 0) = true := by simp only [bne, h4]; rfl
          go_enter Tryd.func32, Tryd.ntmps32
          go_wp2_with (first | (go_at_call 41; first | (refine (C0.out _).mono ?_; rintro e w1 ⟨rfl, hb⟩; obtain ⟨d0, d1, d2, d3, d4⟩ := N5.out.below hb LT.out; have E1 := Lib.hid hb; have F1 : Hid (Below w.heap.size w w1) := B0.out.trans (hb.mono B0.out.size); clear hb)))
          go_ret
          first | exact ⟨rfl, F1.out⟩ | exact ⟨rfl, B0.out⟩
        · have g4 : (s != 0) = false := by simp only [bne, h4]; rfl
          cases h5 : (f == 0)
          · have g5 : (f != 0) = true := by simp only [bne, h5]; rfl
            go_enter Tryd.func32, Tryd.ntmps32
            go_wp2_with (first | (go_at_call 41; first | (refine (C0.out _).mono ?_; rintro e w1 ⟨rfl, hb⟩; obtain ⟨d0, d1, d2, d3, d4⟩ := N5.out.below hb LT.out; have E1 := Lib.hid hb; have F1 : Hid (Below w.heap.size w w1) := B0.out.trans (hb.mono B0.out.size); clear hb)))
            go_ret
            first | exact ⟨rfl, F1.out⟩ | exact ⟨rfl, B0.out⟩
          · have g5 : (f != 0) = false := by simp only [bne, h5]; rfl
            go_enter Tryd.func32, Tryd.ntmps32
            go_wp2_with (first | (go_at_call 41; first | (refine (C0.out _).mono ?_; rintro e w1 ⟨rfl, hb⟩; obtain ⟨d0, d1, d2, d3, d4⟩ := N5.out.below hb LT.out; have E1 := Lib.hid hb; have F1 : Hid (Below w.heap.size w w1) := B0.out.trans (hb.mono B0.out.size); clear hb)))
            go_ret
            first | exact ⟨rfl, F1.out⟩ | exact ⟨rfl, B0.out⟩
  · have g1 : (o != 5) = false := by simp only [bne, h1]; rfl
    cases h2 : (d == 0)
    · have g2 : (d != 0) = true := by simp only [bne, h2]; rfl
      go_enter Tryd.func32, Tryd.ntmps32
      go_wp2_with (first | (go_at_call 41; first | (refine (C0.out _).mono ?_; rintro e w1 ⟨rfl, hb⟩; obtain ⟨d0, d1, d2, d3, d4⟩ := N5.out.below hb LT.out; have E1 := Lib.hid hb; have F1 : Hid (Below w.heap.size w w1) := B0.out.trans (hb.mono B0.out.size); clear hb)))
      go_ret
      first | exact ⟨rfl, F1.out⟩ | exact ⟨rfl, B0.out⟩
    · have g2 : (d != 0) = false := by simp only [bne, h2]; rfl
      cases h3 : (s == 0)
      · have g3 : (s != 0) = true := by simp only [bne, h3]; rfl
        go_enter Tryd.func32, Tryd.ntmps32
        go_wp2_with (first | (go_at_call 41; first | (refine (C0.out _).mono ?_; rintro e w1 ⟨rfl, hb⟩; obtain ⟨d0, d1, d2, d3, d4⟩ := N5.out.below hb LT.out; have E1 := Lib.hid hb; have F1 : Hid (Below w.heap.size w w1) := B0.out.trans (hb.mono B0.out.size); clear hb)))
        go_ret
        first | exact ⟨rfl, F1.out⟩ | exact ⟨rfl, B0.out⟩
      · have g3 : (s != 0) = false := by simp only [bne, h3]; rfl
        cases h4 : (m == 0)
        · have g4 : (m != 0) = true := by simp only [bne, h4]; rfl
          go_enter Tryd.func32, Tryd.ntmps32
          go_wp2_with (first | (go_at_call 41; first | (refine (C0.out _).mono ?_; rintro e w1 ⟨rfl, hb⟩; obtain ⟨d0, d1, d2, d3, d4⟩ := N5.out.below hb LT.out; have E1 := Lib.hid hb; have F1 : Hid (Below w.heap.size w w1) := B0.out.trans (hb.mono B0.out.size); clear hb)))
          go_ret
          first | exact ⟨rfl, F1.out⟩ | exact ⟨rfl, B0.out⟩
        · have g4 : (m != 0) = false := by simp only [bne, h4]; rfl
          go_enter Tryd.func32, Tryd.ntmps32
          go_wp2_with (first | (go_at_call 41; first | (refine (C0.out _).mono ?_; rintro e w1 ⟨rfl, hb⟩; obtain ⟨d0, d1, d2, d3, d4⟩ := N5.out.below hb LT.out; have E1 := Lib.hid hb; have F1 : Hid (Below w.heap.size w w1) := B0.out.trans (hb.mono B0.out.size); clear hb)))
          go_ret
          first | exact ⟨rfl, F1.out⟩ | exact ⟨rfl, B0.out⟩
end Go.Proofs.YticklgoegmobbaaDoor
