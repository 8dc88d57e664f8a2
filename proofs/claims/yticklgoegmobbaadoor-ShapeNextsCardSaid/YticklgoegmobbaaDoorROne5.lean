/-
  The reference's One of layer 5.
-/
import Derived.Test.YticklgoegmobbaaDoorROne
import Derived.Test.YticklgoegmobbaaDoorSLeaf5
namespace Go.Proofs.YticklgoegmobbaaDoor
open Go Go.RowKit
set_option linter.unusedVariables false
set_option linter.unusedSimpArgs false
set_option maxRecDepth 100000
theorem ret_int {a b : Int} (h : a = b) : Ending.returned (.int .i64 a) = .returned (.int .i64 b) := by rw [h]
def writesN (o d s m : Int) : Int := if (o % 8 == 1) || ((o % 8 == 4) || (o % 8 == 7)) then d else if (o % 8 == 3) && ((o == 195) || (o == 219)) then (if m == 241 then 0 else if m.tmod 2 == 1 then s else -1) else -1
def r05Imm (o m : Int) : Bool :=
  if ((o % 8 == 4) || (o % 8 == 7)) && (bits .and .i64 o 8 == 0) then
    if (bits .and .i64 o 240 == 96) || ((bits .and .i64 o 240 == 112) || (bits .and .i64 o 240 == 192)) then decide (0 ≤ m) && (if o % 8 == 7 then decide (m ≤ 63) else decide (m ≤ 31))
    else if (bits .and .i64 o 240 == 48) || (bits .and .i64 o 240 == 144) then !(m == 0) else true
  else true
def r05B (o d s f m : Int) : Bool :=
  if o == 24 then decide (0 ≤ d) && (decide (d ≤ 9) && ((f == 0) && (((s == 0) || ((s == 1) && decide (0 ≤ m))) && (decide (-2147483648 ≤ m) && decide (m ≤ 2147483647)))))
  else if (lineL o d s f m).isEmpty then false else if writesN o d s m == 10 then false else r05Imm o m

set_option maxHeartbeats 2000000 in
theorem writes_any (o d s f m : Int) (w : World) :
    Calls Tryd.prog 47 #[insV o d s f m] w fun e w' => e = .returned (.int .i64 (writesN o d s m)) ∧ Below w.heap.size w w' := by
  obtain ⟨ans, hans⟩ : ∃ b, writesN o d s m = b := ⟨_, rfl⟩
  rw [hans]
  have ANS := Lib.hid hans
  clear hans
  have a7 := and_i64_7 o
  unfold insV
  cases h1 : (o % 8 == 1)
  · have g1 : (o % 8 != 1) = true := by simp only [bne, h1]; rfl
    cases h2 : (o % 8 == 4)
    · have g2 : (o % 8 != 4) = true := by simp only [bne, h2]; rfl
      cases h3 : (o % 8 == 7)
      · have g3 : (o % 8 != 7) = true := by simp only [bne, h3]; rfl
        cases h4 : (o % 8 == 3)
        · have g4 : (o % 8 != 3) = true := by simp only [bne, h4]; rfl
          go_enter Tryd.func47, Tryd.ntmps47
          go_wp2_with fail
          go_ret
          exact ⟨ret_int (by rw [← ANS.out]; simp [writesN, *]), (Below.refl _ w).alloc (Nat.le_refl _) _⟩
        · have g4 : (o % 8 != 3) = false := by simp only [bne, h4]; rfl
          cases h5 : (o == 195)
          · have g5 : (o != 195) = true := by simp only [bne, h5]; rfl
            cases h6 : (o == 219)
            · have g6 : (o != 219) = true := by simp only [bne, h6]; rfl
              go_enter Tryd.func47, Tryd.ntmps47
              go_wp2_with fail
              go_ret
              exact ⟨ret_int (by rw [← ANS.out]; simp [writesN, *]), (Below.refl _ w).alloc (Nat.le_refl _) _⟩
            · have g6 : (o != 219) = false := by simp only [bne, h6]; rfl
              cases h7 : (m == 241)
              · have g7 : (m != 241) = true := by simp only [bne, h7]; rfl
                cases h8 : (m.tmod 2 == 1)
                · have g8 : (m.tmod 2 != 1) = true := by simp only [bne, h8]; rfl
                  go_enter Tryd.func47, Tryd.ntmps47
                  go_wp2_with fail
                  go_ret
                  exact ⟨ret_int (by rw [← ANS.out]; simp [writesN, *]), (Below.refl _ w).alloc (Nat.le_refl _) _⟩
                · have g8 : (m.tmod 2 != 1) = false := by simp only [bne, h8]; rfl
                  go_enter Tryd.func47, Tryd.ntmps47
                  go_wp2_with fail
                  go_ret
                  exact ⟨ret_int (by rw [← ANS.out]; simp [writesN, *]), (Below.refl _ w).alloc (Nat.le_refl _) _⟩
              · have g7 : (m != 241) = false := by simp only [bne, h7]; rfl
                go_enter Tryd.func47, Tryd.ntmps47
                go_wp2_with fail
                go_ret
                exact ⟨ret_int (by rw [← ANS.out]; simp [writesN, *]), (Below.refl _ w).alloc (Nat.le_refl _) _⟩
          · have g5 : (o != 195) = false := by simp only [bne, h5]; rfl
            cases h6 : (m == 241)
            · have g6 : (m != 241) = true := by simp only [bne, h6]; rfl
              cases h7 : (m.tmod 2 == 1)
              · have g7 : (m.tmod 2 != 1) = true := by simp only [bne, h7]; rfl
                go_enter Tryd.func47, Tryd.ntmps47
                go_wp2_with fail
                go_ret
                exact ⟨ret_int (by rw [← ANS.out]; simp [writesN, *]), (Below.refl _ w).alloc (Nat.le_refl _) _⟩
              · have g7 : (m.tmod 2 != 1) = false := by simp only [bne, h7]; rfl
                go_enter Tryd.func47, Tryd.ntmps47
                go_wp2_with fail
                go_ret
                exact ⟨ret_int (by rw [← ANS.out]; simp [writesN, *]), (Below.refl _ w).alloc (Nat.le_refl _) _⟩
            · have g6 : (m != 241) = false := by simp only [bne, h6]; rfl
              go_enter Tryd.func47, Tryd.ntmps47
              go_wp2_with fail
              go_ret
              exact ⟨ret_int (by rw [← ANS.out]; simp [writesN, *]), (Below.refl _ w).alloc (Nat.le_refl _) _⟩
      · have g3 : (o % 8 != 7) = false := by simp only [bne, h3]; rfl
        go_enter Tryd.func47, Tryd.ntmps47
        go_wp2_with fail
        go_ret
        exact ⟨ret_int (by rw [← ANS.out]; simp [writesN, *]), (Below.refl _ w).alloc (Nat.le_refl _) _⟩
    · have g2 : (o % 8 != 4) = false := by simp only [bne, h2]; rfl
      go_enter Tryd.func47, Tryd.ntmps47
      go_wp2_with fail
      go_ret
      exact ⟨ret_int (by rw [← ANS.out]; simp [writesN, *]), (Below.refl _ w).alloc (Nat.le_refl _) _⟩
  · have g1 : (o % 8 != 1) = false := by simp only [bne, h1]; rfl
    go_enter Tryd.func47, Tryd.ntmps47
    go_wp2_with fail
    go_ret
    exact ⟨ret_int (by rw [← ANS.out]; simp [writesN, *]), (Below.refl _ w).alloc (Nat.le_refl _) _⟩
set_option maxHeartbeats 2000000 in
theorem one05_any (o d s f m : Int) (w : World) :
    Calls Tryd.prog 37 #[insV o d s f m] w fun e w' => e = .returned (.bool (r05B o d s f m)) ∧ Below w.heap.size w w' := by
  obtain ⟨ans, hans⟩ : ∃ b, r05B o d s f m = b := ⟨_, rfl⟩
  rw [hans]
  have ANS := Lib.hid hans
  clear hans
  have a7 := and_i64_7 o
  have n5 := Cells5.new w ⟨o, d, s, f, m⟩ 39
  have N5 := Lib.hid n5
  clear n5
  have LT := Lib.hid (lt_box w (.cells #[.int .i64 o, .int .i64 d, .int .i64 s, .int .i64 f, .int .i64 m] 39))
  have B0 : Hid (Below w.heap.size w (w.alloc (.cells #[.int .i64 o, .int .i64 d, .int .i64 s, .int .i64 f, .int .i64 m] 39))) := (Below.refl _ w).alloc (Nat.le_refl _) _
  have C0 := Lib.hid (line_any o d s f m)
  unfold insV at C0
  have C1 := Lib.hid (writes_any o d s f m)
  unfold insV at C1
  unfold insV
  cases h1 : (o == 24)
  focus
    have g1 : (o != 24) = true := by simp only [bne, h1]; rfl
    cases h2 : ((lineL o d s f m).isEmpty)
    focus
      have q2 := tx_none (lineL o d s f m)
      rw [h2] at q2
      cases h3 : (writesN o d s m == 10)
      focus
        have g3 : (writesN o d s m != 10) = true := by simp only [bne, h3]; rfl
        cases h4 : (o % 8 == 4)
        focus
          have g4 : (o % 8 != 4) = true := by simp only [bne, h4]; rfl
          cases h5 : (o % 8 == 7)
          focus
            have g5 : (o % 8 != 7) = true := by simp only [bne, h5]; rfl
          rotate_left 1
          focus
            have g5 : (o % 8 != 7) = false := by simp only [bne, h5]; rfl
            cases h6 : (bits .and .i64 o 8 == 0)
            focus
              have g6 : (bits .and .i64 o 8 != 0) = true := by simp only [bne, h6]; rfl
            rotate_left 1
            focus
              have g6 : (bits .and .i64 o 8 != 0) = false := by simp only [bne, h6]; rfl
              cases h7 : (bits .and .i64 o 240 == 96)
              focus
                have g7 : (bits .and .i64 o 240 != 96) = true := by simp only [bne, h7]; rfl
                cases h8 : (bits .and .i64 o 240 == 112)
                focus
                  have g8 : (bits .and .i64 o 240 != 112) = true := by simp only [bne, h8]; rfl
                  cases h9 : (bits .and .i64 o 240 == 192)
                  focus
                    have g9 : (bits .and .i64 o 240 != 192) = true := by simp only [bne, h9]; rfl
                    cases h10 : (bits .and .i64 o 240 == 48)
                    focus
                      have g10 : (bits .and .i64 o 240 != 48) = true := by simp only [bne, h10]; rfl
                      cases h11 : (bits .and .i64 o 240 == 144)
                      focus
                        have g11 : (bits .and .i64 o 240 != 144) = true := by simp only [bne, h11]; rfl
                      rotate_left 1
                      focus
                        have g11 : (bits .and .i64 o 240 != 144) = false := by simp only [bne, h11]; rfl
                        cases h12 : (m == 0)
                        focus
                          have g12 : (m != 0) = true := by simp only [bne, h12]; rfl
                        rotate_left 1
                        focus
                          have g12 : (m != 0) = false := by simp only [bne, h12]; rfl
                    rotate_left 3
                    focus
                      have g10 : (bits .and .i64 o 240 != 48) = false := by simp only [bne, h10]; rfl
                      cases h11 : (m == 0)
                      focus
                        have g11 : (m != 0) = true := by simp only [bne, h11]; rfl
                      rotate_left 1
                      focus
                        have g11 : (m != 0) = false := by simp only [bne, h11]; rfl
                  rotate_left 5
                  focus
                    have g9 : (bits .and .i64 o 240 != 192) = false := by simp only [bne, h9]; rfl
                    cases h10 : (o % 8 == 7)
                    focus
                      have g10 : (o % 8 != 7) = true := by simp only [bne, h10]; rfl
                      cases h11 : (decide (0 ≤ m))
                      focus
                        skip
                      rotate_left 1
                      focus
                        cases h12 : (decide (m ≤ 31))
                        focus
                          skip
                        rotate_left 1
                        focus
                          skip
                    rotate_left 3
                    focus
                      have g10 : (o % 8 != 7) = false := by simp only [bne, h10]; rfl
                      cases h11 : (decide (0 ≤ m))
                      focus
                        skip
                      rotate_left 1
                      focus
                        cases h12 : (decide (m ≤ 63))
                        focus
                          skip
                        rotate_left 1
                        focus
                          skip
                rotate_left 11
                focus
                  have g8 : (bits .and .i64 o 240 != 112) = false := by simp only [bne, h8]; rfl
                  cases h9 : (o % 8 == 7)
                  focus
                    have g9 : (o % 8 != 7) = true := by simp only [bne, h9]; rfl
                    cases h10 : (decide (0 ≤ m))
                    focus
                      skip
                    rotate_left 1
                    focus
                      cases h11 : (decide (m ≤ 31))
                      focus
                        skip
                      rotate_left 1
                      focus
                        skip
                  rotate_left 3
                  focus
                    have g9 : (o % 8 != 7) = false := by simp only [bne, h9]; rfl
                    cases h10 : (decide (0 ≤ m))
                    focus
                      skip
                    rotate_left 1
                    focus
                      cases h11 : (decide (m ≤ 63))
                      focus
                        skip
                      rotate_left 1
                      focus
                        skip
              rotate_left 17
              focus
                have g7 : (bits .and .i64 o 240 != 96) = false := by simp only [bne, h7]; rfl
                cases h8 : (o % 8 == 7)
                focus
                  have g8 : (o % 8 != 7) = true := by simp only [bne, h8]; rfl
                  cases h9 : (decide (0 ≤ m))
                  focus
                    skip
                  rotate_left 1
                  focus
                    cases h10 : (decide (m ≤ 31))
                    focus
                      skip
                    rotate_left 1
                    focus
                      skip
                rotate_left 3
                focus
                  have g8 : (o % 8 != 7) = false := by simp only [bne, h8]; rfl
                  cases h9 : (decide (0 ≤ m))
                  focus
                    skip
                  rotate_left 1
                  focus
                    cases h10 : (decide (m ≤ 63))
                    focus
                      skip
                    rotate_left 1
                    focus
                      skip
        rotate_left 25
        focus
          have g4 : (o % 8 != 4) = false := by simp only [bne, h4]; rfl
          cases h5 : (bits .and .i64 o 8 == 0)
          focus
            have g5 : (bits .and .i64 o 8 != 0) = true := by simp only [bne, h5]; rfl
          rotate_left 1
          focus
            have g5 : (bits .and .i64 o 8 != 0) = false := by simp only [bne, h5]; rfl
            cases h6 : (bits .and .i64 o 240 == 96)
            focus
              have g6 : (bits .and .i64 o 240 != 96) = true := by simp only [bne, h6]; rfl
              cases h7 : (bits .and .i64 o 240 == 112)
              focus
                have g7 : (bits .and .i64 o 240 != 112) = true := by simp only [bne, h7]; rfl
                cases h8 : (bits .and .i64 o 240 == 192)
                focus
                  have g8 : (bits .and .i64 o 240 != 192) = true := by simp only [bne, h8]; rfl
                  cases h9 : (bits .and .i64 o 240 == 48)
                  focus
                    have g9 : (bits .and .i64 o 240 != 48) = true := by simp only [bne, h9]; rfl
                    cases h10 : (bits .and .i64 o 240 == 144)
                    focus
                      have g10 : (bits .and .i64 o 240 != 144) = true := by simp only [bne, h10]; rfl
                    rotate_left 1
                    focus
                      have g10 : (bits .and .i64 o 240 != 144) = false := by simp only [bne, h10]; rfl
                      cases h11 : (m == 0)
                      focus
                        have g11 : (m != 0) = true := by simp only [bne, h11]; rfl
                      rotate_left 1
                      focus
                        have g11 : (m != 0) = false := by simp only [bne, h11]; rfl
                  rotate_left 3
                  focus
                    have g9 : (bits .and .i64 o 240 != 48) = false := by simp only [bne, h9]; rfl
                    cases h10 : (m == 0)
                    focus
                      have g10 : (m != 0) = true := by simp only [bne, h10]; rfl
                    rotate_left 1
                    focus
                      have g10 : (m != 0) = false := by simp only [bne, h10]; rfl
                rotate_left 5
                focus
                  have g8 : (bits .and .i64 o 240 != 192) = false := by simp only [bne, h8]; rfl
                  cases h9 : (o % 8 == 7)
                  focus
                    have g9 : (o % 8 != 7) = true := by simp only [bne, h9]; rfl
                    cases h10 : (decide (0 ≤ m))
                    focus
                      skip
                    rotate_left 1
                    focus
                      cases h11 : (decide (m ≤ 31))
                      focus
                        skip
                      rotate_left 1
                      focus
                        skip
                  rotate_left 3
                  focus
                    have g9 : (o % 8 != 7) = false := by simp only [bne, h9]; rfl
                    cases h10 : (decide (0 ≤ m))
                    focus
                      skip
                    rotate_left 1
                    focus
                      cases h11 : (decide (m ≤ 63))
                      focus
                        skip
                      rotate_left 1
                      focus
                        skip
              rotate_left 11
              focus
                have g7 : (bits .and .i64 o 240 != 112) = false := by simp only [bne, h7]; rfl
                cases h8 : (o % 8 == 7)
                focus
                  have g8 : (o % 8 != 7) = true := by simp only [bne, h8]; rfl
                  cases h9 : (decide (0 ≤ m))
                  focus
                    skip
                  rotate_left 1
                  focus
                    cases h10 : (decide (m ≤ 31))
                    focus
                      skip
                    rotate_left 1
                    focus
                      skip
                rotate_left 3
                focus
                  have g8 : (o % 8 != 7) = false := by simp only [bne, h8]; rfl
                  cases h9 : (decide (0 ≤ m))
                  focus
                    skip
                  rotate_left 1
                  focus
                    cases h10 : (decide (m ≤ 63))
                    focus
                      skip
                    rotate_left 1
                    focus
                      skip
            rotate_left 17
            focus
              have g6 : (bits .and .i64 o 240 != 96) = false := by simp only [bne, h6]; rfl
              cases h7 : (o % 8 == 7)
              focus
                have g7 : (o % 8 != 7) = true := by simp only [bne, h7]; rfl
                cases h8 : (decide (0 ≤ m))
                focus
                  skip
                rotate_left 1
                focus
                  cases h9 : (decide (m ≤ 31))
                  focus
                    skip
                  rotate_left 1
                  focus
                    skip
              rotate_left 3
              focus
                have g7 : (o % 8 != 7) = false := by simp only [bne, h7]; rfl
                cases h8 : (decide (0 ≤ m))
                focus
                  skip
                rotate_left 1
                focus
                  cases h9 : (decide (m ≤ 63))
                  focus
                    skip
                  rotate_left 1
                  focus
                    skip
      rotate_left 49
      focus
        have g3 : (writesN o d s m != 10) = false := by simp only [bne, h3]; rfl
    rotate_left 50
    focus
      have q2 := tx_none (lineL o d s f m)
      rw [h2] at q2
  rotate_left 51
  focus
    have g1 : (o != 24) = false := by simp only [bne, h1]; rfl
    cases h2 : (decide (0 ≤ d))
    focus
      skip
    rotate_left 1
    focus
      cases h3 : (decide (d ≤ 9))
      focus
        skip
      rotate_left 1
      focus
        cases h4 : (f == 0)
        focus
          have g4 : (f != 0) = true := by simp only [bne, h4]; rfl
        rotate_left 1
        focus
          have g4 : (f != 0) = false := by simp only [bne, h4]; rfl
          cases h5 : (s == 0)
          focus
            have g5 : (s != 0) = true := by simp only [bne, h5]; rfl
            cases h6 : (s == 1)
            focus
              have g6 : (s != 1) = true := by simp only [bne, h6]; rfl
            rotate_left 1
            focus
              have g6 : (s != 1) = false := by simp only [bne, h6]; rfl
              cases h7 : (decide (0 ≤ m))
              focus
                skip
              rotate_left 1
              focus
                cases h8 : (decide (-2147483648 ≤ m))
                focus
                  skip
                rotate_left 1
                focus
                  cases h9 : (decide (m ≤ 2147483647))
                  focus
                    skip
                  rotate_left 1
                  focus
                    skip
          rotate_left 5
          focus
            have g5 : (s != 0) = false := by simp only [bne, h5]; rfl
            cases h6 : (decide (-2147483648 ≤ m))
            focus
              skip
            rotate_left 1
            focus
              cases h7 : (decide (m ≤ 2147483647))
              focus
                skip
              rotate_left 1
              focus
                skip
  all_goals
    go_enter Tryd.func37, Tryd.ntmps37
    go_wp2_with (first | (go_at_call 46; first | (refine (C0.out _).mono ?_; rintro e w1 ⟨rfl, hb⟩; obtain ⟨d0, d1, d2, d3, d4⟩ := N5.out.below hb LT.out; have E1 := Lib.hid hb; have F1 : Hid (Below w.heap.size w w1) := B0.out.trans (hb.mono B0.out.size); clear hb)) | (go_at_call 47; first | (refine (C1.out w1).mono ?_; rintro e w2 ⟨rfl, hb⟩; have hc := E1.out.trans (hb.mono E1.out.size); obtain ⟨d0, d1, d2, d3, d4⟩ := N5.out.below hc LT.out; have E2 := Lib.hid hc; have F2 : Hid (Below w.heap.size w w2) := B0.out.trans (hc.mono B0.out.size); clear hb hc) | (refine (C1.out _).mono ?_; rintro e w2 ⟨rfl, hb⟩; obtain ⟨d0, d1, d2, d3, d4⟩ := N5.out.below hb LT.out; have E2 := Lib.hid hb; have F2 : Hid (Below w.heap.size w w2) := B0.out.trans (hb.mono B0.out.size); clear hb)))
    go_ret
    first | exact ⟨ret_bool (by rw [← ANS.out]; simp [r05B, r05Imm, *]), F2.out⟩ | exact ⟨ret_bool (by rw [← ANS.out]; simp [r05B, r05Imm, *]), F1.out⟩ | exact ⟨ret_bool (by rw [← ANS.out]; simp [r05B, r05Imm, *]), B0.out⟩

end Go.Proofs.YticklgoegmobbaaDoor
