/-
  Places: how many slots, what may follow, the whole instruction.
-/
import Derived.Test.YticklgoegmobbaaDoorSLeaf5
import Derived.Test.YticklgoegmobbaaDoorSMath
namespace Go.Proofs.YticklgoegmobbaaDoor
open Go Go.RowKit
set_option linter.unusedVariables false
set_option linter.unusedSimpArgs false
set_option maxRecDepth 100000

set_option maxHeartbeats 2000000 in
theorem aims_any (o d s f m : Int) (w : World) :
    Calls Tryd.prog 35 #[insV o d s f m] w fun e w' => e = .returned (.bool (aimS ⟨o, d, s, f, m⟩)) ∧ Below w.heap.size w w' := by
  unfold aimS
  have n5 := Cells5.new w ⟨o, d, s, f, m⟩ 39
  have N5 := Lib.hid n5
  clear n5
  have LT := Lib.hid (lt_box w (.cells #[.int .i64 o, .int .i64 d, .int .i64 s, .int .i64 f, .int .i64 m] 39))
  have B0 : Hid (Below w.heap.size w (w.alloc (.cells #[.int .i64 o, .int .i64 d, .int .i64 s, .int .i64 f, .int .i64 m] 39))) := (Below.refl _ w).alloc (Nat.le_refl _) _
  have C0 := Lib.hid (class_any o d s f m)
  unfold insV at C0
  unfold insV
  cases h1 : (o % 8 == 5)
  · have g1 : (o % 8 != 5) = true := by simp only [bne, h1]; rfl
    cases h2 : (o % 8 == 6)
    · have g2 : (o % 8 != 6) = true := by simp only [bne, h2]; rfl
      go_enter Tryd.func35, Tryd.ntmps35
      go_wp2_with (first | (go_at_call 27; first | (refine (C0.out _).mono ?_; rintro e w1 ⟨rfl, hb⟩; obtain ⟨d0, d1, d2, d3, d4⟩ := N5.out.below hb LT.out; have E1 := Lib.hid hb; have F1 : Hid (Below w.heap.size w w1) := B0.out.trans (hb.mono B0.out.size); clear hb)))
      go_ret
      first | exact ⟨rfl, F1.out⟩ | exact ⟨rfl, B0.out⟩
    · have g2 : (o % 8 != 6) = false := by simp only [bne, h2]; rfl
      cases h3 : (o == 133)
      · have g3 : (o != 133) = true := by simp only [bne, h3]; rfl
        cases h4 : (o == 149)
        · have g4 : (o != 149) = true := by simp only [bne, h4]; rfl
          go_enter Tryd.func35, Tryd.ntmps35
          go_wp2_with (first | (go_at_call 27; first | (refine (C0.out _).mono ?_; rintro e w1 ⟨rfl, hb⟩; obtain ⟨d0, d1, d2, d3, d4⟩ := N5.out.below hb LT.out; have E1 := Lib.hid hb; have F1 : Hid (Below w.heap.size w w1) := B0.out.trans (hb.mono B0.out.size); clear hb)))
          go_ret
          first | exact ⟨rfl, F1.out⟩ | exact ⟨rfl, B0.out⟩
        · have g4 : (o != 149) = false := by simp only [bne, h4]; rfl
          go_enter Tryd.func35, Tryd.ntmps35
          go_wp2_with (first | (go_at_call 27; first | (refine (C0.out _).mono ?_; rintro e w1 ⟨rfl, hb⟩; obtain ⟨d0, d1, d2, d3, d4⟩ := N5.out.below hb LT.out; have E1 := Lib.hid hb; have F1 : Hid (Below w.heap.size w w1) := B0.out.trans (hb.mono B0.out.size); clear hb)))
          go_ret
          first | exact ⟨rfl, F1.out⟩ | exact ⟨rfl, B0.out⟩
      · have g3 : (o != 133) = false := by simp only [bne, h3]; rfl
        go_enter Tryd.func35, Tryd.ntmps35
        go_wp2_with (first | (go_at_call 27; first | (refine (C0.out _).mono ?_; rintro e w1 ⟨rfl, hb⟩; obtain ⟨d0, d1, d2, d3, d4⟩ := N5.out.below hb LT.out; have E1 := Lib.hid hb; have F1 : Hid (Below w.heap.size w w1) := B0.out.trans (hb.mono B0.out.size); clear hb)))
        go_ret
        first | exact ⟨rfl, F1.out⟩ | exact ⟨rfl, B0.out⟩
  · have g1 : (o % 8 != 5) = false := by simp only [bne, h1]; rfl
    cases h2 : (o == 133)
    · have g2 : (o != 133) = true := by simp only [bne, h2]; rfl
      cases h3 : (o == 149)
      · have g3 : (o != 149) = true := by simp only [bne, h3]; rfl
        go_enter Tryd.func35, Tryd.ntmps35
        go_wp2_with (first | (go_at_call 27; first | (refine (C0.out _).mono ?_; rintro e w1 ⟨rfl, hb⟩; obtain ⟨d0, d1, d2, d3, d4⟩ := N5.out.below hb LT.out; have E1 := Lib.hid hb; have F1 : Hid (Below w.heap.size w w1) := B0.out.trans (hb.mono B0.out.size); clear hb)))
        go_ret
        first | exact ⟨rfl, F1.out⟩ | exact ⟨rfl, B0.out⟩
      · have g3 : (o != 149) = false := by simp only [bne, h3]; rfl
        go_enter Tryd.func35, Tryd.ntmps35
        go_wp2_with (first | (go_at_call 27; first | (refine (C0.out _).mono ?_; rintro e w1 ⟨rfl, hb⟩; obtain ⟨d0, d1, d2, d3, d4⟩ := N5.out.below hb LT.out; have E1 := Lib.hid hb; have F1 : Hid (Below w.heap.size w w1) := B0.out.trans (hb.mono B0.out.size); clear hb)))
        go_ret
        first | exact ⟨rfl, F1.out⟩ | exact ⟨rfl, B0.out⟩
    · have g2 : (o != 133) = false := by simp only [bne, h2]; rfl
      go_enter Tryd.func35, Tryd.ntmps35
      go_wp2_with (first | (go_at_call 27; first | (refine (C0.out _).mono ?_; rintro e w1 ⟨rfl, hb⟩; obtain ⟨d0, d1, d2, d3, d4⟩ := N5.out.below hb LT.out; have E1 := Lib.hid hb; have F1 : Hid (Below w.heap.size w w1) := B0.out.trans (hb.mono B0.out.size); clear hb)))
      go_ret
      first | exact ⟨rfl, F1.out⟩ | exact ⟨rfl, B0.out⟩

theorem slots_any (o d s f m : Int) (w : World) :
    Calls Tryd.prog 21 #[insV o d s f m] w fun e w' => e = .returned (.int .i64 (slN ⟨o, d, s, f, m⟩ : Nat)) ∧ Below w.heap.size w w' := by
  unfold slN wideS
  have C0 := Lib.hid (wide_any o d s f m)
  unfold insV at C0 ⊢
  have B0 : Hid (Below w.heap.size w (w.alloc (.cells #[.int .i64 o, .int .i64 d, .int .i64 s, .int .i64 f, .int .i64 m] 39))) := (Below.refl _ w).alloc (Nat.le_refl _) _
  cases h1 : (o == 24)
  all_goals
    go_enter Tryd.func21, Tryd.ntmps21
    go_wp2_with (go_at_call 22; refine (C0.out _).mono ?_; rintro e w1 ⟨rfl, hb⟩; have HB := Lib.hid hb; clear hb)
    go_ret
    exact ⟨by simp [h1], B0.out.trans (HB.out.mono B0.out.size)⟩
theorem target_any (o d s f m i : Int) (hi : 0 ≤ i ∧ i ≤ 1048576) (hf : -32768 ≤ f ∧ f ≤ 32767) (w : World) :
    Calls Tryd.prog 36 #[insV o d s f m, .int .i64 i] w fun e w' => e = .returned (.int .i64 (i + 1 + f)) ∧ Below w.heap.size w w' := by
  have e1 : wrap64 (i + 1) = i + 1 := by unfold wrap64; omega
  have e2 : wrap64 (i + 1 + f) = i + 1 + f := by unfold wrap64; omega
  unfold insV
  go_enter Tryd.func36, Tryd.ntmps36
  go_wp2_with fail
  go_ret
  exact ⟨rfl, (Below.refl _ w).alloc (Nat.le_refl _) _⟩

end Go.Proofs.YticklgoegmobbaaDoor
