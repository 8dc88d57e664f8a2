/-
  The small functions of package shape: whether a slot may be, by its fields.
-/
import Derived.Test.YticklgoegmobbaaDoorSLeaf0
import Derived.Deep.RegionHeld3
namespace Go.Proofs.YticklgoegmobbaaDoor
open Go Go.RowKit
set_option linter.unusedVariables false
set_option maxRecDepth 100000
theorem lt_box (w : World) (x : Obj) : w.heap.size < (w.alloc x).heap.size := by simp
def secondB (o s m : Int) : Bool := if !(bits .and .i64 o 8 == 0) then m == 0 else s == 0
def extendsB (o f : Int) : Bool := (f == 8) || ((f == 16) || ((f == 32) && (o % 8 == 7)))
def aluOffB (o f : Int) : Bool := if (bits .and .i64 o 240 == 48) || (bits .and .i64 o 240 == 144) then (f == 0) || (f == 1) else if bits .and .i64 o 240 == 176 then (f == 0) || (!(bits .and .i64 o 8 == 0) && extendsB o f) else f == 0
def bitsN (o : Int) : Int := if o % 8 == 7 then 64 else 32

set_option maxHeartbeats 2000000 in
theorem second_any (o d s f m : Int) (w : World) :
    Calls Tryd.prog 41 #[insV o d s f m] w fun e w' => e = .returned (.bool (secondB o s m)) ∧ Below w.heap.size w w' := by
  unfold secondB
  unfold insV
  cases h1 : (bits .and .i64 o 8 == 0)
  · have g1 : (bits .and .i64 o 8 != 0) = true := by simp only [bne, h1]; rfl
    go_enter Tryd.func41, Tryd.ntmps41
    go_wp2_with fail
    go_ret
    exact ⟨rfl, (Below.refl _ w).alloc (Nat.le_refl _) _⟩
  · have g1 : (bits .and .i64 o 8 != 0) = false := by simp only [bne, h1]; rfl
    go_enter Tryd.func41, Tryd.ntmps41
    go_wp2_with fail
    go_ret
    exact ⟨rfl, (Below.refl _ w).alloc (Nat.le_refl _) _⟩
set_option maxHeartbeats 2000000 in
theorem extends_any (o d s f m : Int) (w : World) :
    Calls Tryd.prog 53 #[insV o d s f m] w fun e w' => e = .returned (.bool (extendsB o f)) ∧ Below w.heap.size w w' := by
  unfold extendsB
  have n5 := Cells5.new w ⟨o, d, s, f, m⟩ 39
  have N5 := Lib.hid n5
  clear n5
  have LT := Lib.hid (lt_box w (.cells #[.int .i64 o, .int .i64 d, .int .i64 s, .int .i64 f, .int .i64 m] 39))
  have B0 : Hid (Below w.heap.size w (w.alloc (.cells #[.int .i64 o, .int .i64 d, .int .i64 s, .int .i64 f, .int .i64 m] 39))) := (Below.refl _ w).alloc (Nat.le_refl _) _
  have C0 := Lib.hid (class_any o d s f m)
  unfold insV at C0
  unfold insV
  cases h1 : (f == 8)
  · have g1 : (f != 8) = true := by simp only [bne, h1]; rfl
    cases h2 : (f == 16)
    · have g2 : (f != 16) = true := by simp only [bne, h2]; rfl
      cases h3 : (f == 32)
      · have g3 : (f != 32) = true := by simp only [bne, h3]; rfl
        go_enter Tryd.func53, Tryd.ntmps53
        go_wp2_with (first | (go_at_call 27; first | (refine (C0.out _).mono ?_; rintro e w1 ⟨rfl, hb⟩; obtain ⟨d0, d1, d2, d3, d4⟩ := N5.out.below hb LT.out; have E1 := Lib.hid hb; have F1 : Hid (Below w.heap.size w w1) := B0.out.trans (hb.mono B0.out.size); clear hb)))
        go_ret
        first | exact ⟨rfl, F1.out⟩ | exact ⟨rfl, B0.out⟩
      · have g3 : (f != 32) = false := by simp only [bne, h3]; rfl
        cases h4 : (o % 8 == 7)
        · have g4 : (o % 8 != 7) = true := by simp only [bne, h4]; rfl
          go_enter Tryd.func53, Tryd.ntmps53
          go_wp2_with (first | (go_at_call 27; first | (refine (C0.out _).mono ?_; rintro e w1 ⟨rfl, hb⟩; obtain ⟨d0, d1, d2, d3, d4⟩ := N5.out.below hb LT.out; have E1 := Lib.hid hb; have F1 : Hid (Below w.heap.size w w1) := B0.out.trans (hb.mono B0.out.size); clear hb)))
          go_ret
          first | exact ⟨rfl, F1.out⟩ | exact ⟨rfl, B0.out⟩
        · have g4 : (o % 8 != 7) = false := by simp only [bne, h4]; rfl
          go_enter Tryd.func53, Tryd.ntmps53
          go_wp2_with (first | (go_at_call 27; first | (refine (C0.out _).mono ?_; rintro e w1 ⟨rfl, hb⟩; obtain ⟨d0, d1, d2, d3, d4⟩ := N5.out.below hb LT.out; have E1 := Lib.hid hb; have F1 : Hid (Below w.heap.size w w1) := B0.out.trans (hb.mono B0.out.size); clear hb)))
          go_ret
          first | exact ⟨rfl, F1.out⟩ | exact ⟨rfl, B0.out⟩
    · have g2 : (f != 16) = false := by simp only [bne, h2]; rfl
      go_enter Tryd.func53, Tryd.ntmps53
      go_wp2_with (first | (go_at_call 27; first | (refine (C0.out _).mono ?_; rintro e w1 ⟨rfl, hb⟩; obtain ⟨d0, d1, d2, d3, d4⟩ := N5.out.below hb LT.out; have E1 := Lib.hid hb; have F1 : Hid (Below w.heap.size w w1) := B0.out.trans (hb.mono B0.out.size); clear hb)))
      go_ret
      first | exact ⟨rfl, F1.out⟩ | exact ⟨rfl, B0.out⟩
  · have g1 : (f != 8) = false := by simp only [bne, h1]; rfl
    go_enter Tryd.func53, Tryd.ntmps53
    go_wp2_with (first | (go_at_call 27; first | (refine (C0.out _).mono ?_; rintro e w1 ⟨rfl, hb⟩; obtain ⟨d0, d1, d2, d3, d4⟩ := N5.out.below hb LT.out; have E1 := Lib.hid hb; have F1 : Hid (Below w.heap.size w w1) := B0.out.trans (hb.mono B0.out.size); clear hb)))
    go_ret
    first | exact ⟨rfl, F1.out⟩ | exact ⟨rfl, B0.out⟩
set_option maxHeartbeats 2000000 in
theorem aluOff_any (o d s f m : Int) (w : World) :
    Calls Tryd.prog 43 #[insV o d s f m] w fun e w' => e = .returned (.bool (aluOffB o f)) ∧ Below w.heap.size w w' := by
  unfold aluOffB
  have n5 := Cells5.new w ⟨o, d, s, f, m⟩ 39
  have N5 := Lib.hid n5
  clear n5
  have LT := Lib.hid (lt_box w (.cells #[.int .i64 o, .int .i64 d, .int .i64 s, .int .i64 f, .int .i64 m] 39))
  have B0 : Hid (Below w.heap.size w (w.alloc (.cells #[.int .i64 o, .int .i64 d, .int .i64 s, .int .i64 f, .int .i64 m] 39))) := (Below.refl _ w).alloc (Nat.le_refl _) _
  have C0 := Lib.hid (extends_any o d s f m)
  unfold insV at C0
  unfold insV
  cases h1 : (bits .and .i64 o 240 == 48)
  · have g1 : (bits .and .i64 o 240 != 48) = true := by simp only [bne, h1]; rfl
    cases h2 : (bits .and .i64 o 240 == 144)
    · have g2 : (bits .and .i64 o 240 != 144) = true := by simp only [bne, h2]; rfl
      cases h3 : (bits .and .i64 o 240 == 176)
      · have g3 : (bits .and .i64 o 240 != 176) = true := by simp only [bne, h3]; rfl
        go_enter Tryd.func43, Tryd.ntmps43
        go_wp2_with (first | (go_at_call 53; first | (refine (C0.out _).mono ?_; rintro e w1 ⟨rfl, hb⟩; obtain ⟨d0, d1, d2, d3, d4⟩ := N5.out.below hb LT.out; have E1 := Lib.hid hb; have F1 : Hid (Below w.heap.size w w1) := B0.out.trans (hb.mono B0.out.size); clear hb)))
        go_ret
        first | exact ⟨rfl, F1.out⟩ | exact ⟨rfl, B0.out⟩
      · have g3 : (bits .and .i64 o 240 != 176) = false := by simp only [bne, h3]; rfl
        cases h4 : (f == 0)
        · have g4 : (f != 0) = true := by simp only [bne, h4]; rfl
          cases h5 : (bits .and .i64 o 8 == 0)
          · have g5 : (bits .and .i64 o 8 != 0) = true := by simp only [bne, h5]; rfl
            cases h6 : (extendsB o f)
            · go_enter Tryd.func43, Tryd.ntmps43
              go_wp2_with (first | (go_at_call 53; first | (refine (C0.out _).mono ?_; rintro e w1 ⟨rfl, hb⟩; obtain ⟨d0, d1, d2, d3, d4⟩ := N5.out.below hb LT.out; have E1 := Lib.hid hb; have F1 : Hid (Below w.heap.size w w1) := B0.out.trans (hb.mono B0.out.size); clear hb)))
              go_ret
              first | exact ⟨rfl, F1.out⟩ | exact ⟨rfl, B0.out⟩
            · go_enter Tryd.func43, Tryd.ntmps43
              go_wp2_with (first | (go_at_call 53; first | (refine (C0.out _).mono ?_; rintro e w1 ⟨rfl, hb⟩; obtain ⟨d0, d1, d2, d3, d4⟩ := N5.out.below hb LT.out; have E1 := Lib.hid hb; have F1 : Hid (Below w.heap.size w w1) := B0.out.trans (hb.mono B0.out.size); clear hb)))
              go_ret
              first | exact ⟨rfl, F1.out⟩ | exact ⟨rfl, B0.out⟩
          · have g5 : (bits .and .i64 o 8 != 0) = false := by simp only [bne, h5]; rfl
            go_enter Tryd.func43, Tryd.ntmps43
            go_wp2_with (first | (go_at_call 53; first | (refine (C0.out _).mono ?_; rintro e w1 ⟨rfl, hb⟩; obtain ⟨d0, d1, d2, d3, d4⟩ := N5.out.below hb LT.out; have E1 := Lib.hid hb; have F1 : Hid (Below w.heap.size w w1) := B0.out.trans (hb.mono B0.out.size); clear hb)))
            go_ret
            first | exact ⟨rfl, F1.out⟩ | exact ⟨rfl, B0.out⟩
        · have g4 : (f != 0) = false := by simp only [bne, h4]; rfl
          go_enter Tryd.func43, Tryd.ntmps43
          go_wp2_with (first | (go_at_call 53; first | (refine (C0.out _).mono ?_; rintro e w1 ⟨rfl, hb⟩; obtain ⟨d0, d1, d2, d3, d4⟩ := N5.out.below hb LT.out; have E1 := Lib.hid hb; have F1 : Hid (Below w.heap.size w w1) := B0.out.trans (hb.mono B0.out.size); clear hb)))
          go_ret
          first | exact ⟨rfl, F1.out⟩ | exact ⟨rfl, B0.out⟩
    · have g2 : (bits .and .i64 o 240 != 144) = false := by simp only [bne, h2]; rfl
      cases h3 : (f == 0)
      · have g3 : (f != 0) = true := by simp only [bne, h3]; rfl
        go_enter Tryd.func43, Tryd.ntmps43
        go_wp2_with (first | (go_at_call 53; first | (refine (C0.out _).mono ?_; rintro e w1 ⟨rfl, hb⟩; obtain ⟨d0, d1, d2, d3, d4⟩ := N5.out.below hb LT.out; have E1 := Lib.hid hb; have F1 : Hid (Below w.heap.size w w1) := B0.out.trans (hb.mono B0.out.size); clear hb)))
        go_ret
        first | exact ⟨rfl, F1.out⟩ | exact ⟨rfl, B0.out⟩
      · have g3 : (f != 0) = false := by simp only [bne, h3]; rfl
        go_enter Tryd.func43, Tryd.ntmps43
        go_wp2_with (first | (go_at_call 53; first | (refine (C0.out _).mono ?_; rintro e w1 ⟨rfl, hb⟩; obtain ⟨d0, d1, d2, d3, d4⟩ := N5.out.below hb LT.out; have E1 := Lib.hid hb; have F1 : Hid (Below w.heap.size w w1) := B0.out.trans (hb.mono B0.out.size); clear hb)))
        go_ret
        first | exact ⟨rfl, F1.out⟩ | exact ⟨rfl, B0.out⟩
  · have g1 : (bits .and .i64 o 240 != 48) = false := by simp only [bne, h1]; rfl
    cases h2 : (f == 0)
    · have g2 : (f != 0) = true := by simp only [bne, h2]; rfl
      go_enter Tryd.func43, Tryd.ntmps43
      go_wp2_with (first | (go_at_call 53; first | (refine (C0.out _).mono ?_; rintro e w1 ⟨rfl, hb⟩; obtain ⟨d0, d1, d2, d3, d4⟩ := N5.out.below hb LT.out; have E1 := Lib.hid hb; have F1 : Hid (Below w.heap.size w w1) := B0.out.trans (hb.mono B0.out.size); clear hb)))
      go_ret
      first | exact ⟨rfl, F1.out⟩ | exact ⟨rfl, B0.out⟩
    · have g2 : (f != 0) = false := by simp only [bne, h2]; rfl
      go_enter Tryd.func43, Tryd.ntmps43
      go_wp2_with (first | (go_at_call 53; first | (refine (C0.out _).mono ?_; rintro e w1 ⟨rfl, hb⟩; obtain ⟨d0, d1, d2, d3, d4⟩ := N5.out.below hb LT.out; have E1 := Lib.hid hb; have F1 : Hid (Below w.heap.size w w1) := B0.out.trans (hb.mono B0.out.size); clear hb)))
      go_ret
      first | exact ⟨rfl, F1.out⟩ | exact ⟨rfl, B0.out⟩
set_option maxHeartbeats 1000000 in
theorem bits_any (o d s f m : Int) (w : World) :
    Calls Tryd.prog 54 #[insV o d s f m] w fun e w' => e = .returned (.int .i64 (bitsN o)) ∧ Below w.heap.size w w' := by
  unfold bitsN
  have CC := Lib.hid (class_any o d s f m)
  unfold insV at CC ⊢
  have B0 : Hid (Below w.heap.size w (w.alloc (.cells #[.int .i64 o, .int .i64 d, .int .i64 s, .int .i64 f, .int .i64 m] 39))) := (Below.refl _ w).alloc (Nat.le_refl _) _
  cases h1 : (o % 8 == 7)
  all_goals
    go_enter Tryd.func54, Tryd.ntmps54
    go_wp2_with (go_at_call 27; refine (CC.out _).mono ?_; rintro e w1 ⟨rfl, hb⟩; have HB := Lib.hid hb; clear hb)
    go_ret
    exact ⟨rfl, B0.out.trans (HB.out.mono B0.out.size)⟩
end Go.Proofs.YticklgoegmobbaaDoor
