/-
  awake of layer 3: chapter 3's examples.
-/
import Derived.Test.YtkopbjjpghbkoaaDoorIDec
namespace Go.Proofs.YtkopbjjpghbkoaaDoor
open Go Go.RowKit
set_option linter.unusedVariables false
def slot1 : Slot := ⟨97, 2, 1, 4, 0⟩
theorem enc_one (g : Nat) (w : World) (hg : g < w.heap.size) (h : Cells5 w g 0 slot1) :
    Calls Tryd.prog 8 #[.slice (some ⟨g, 0, none⟩) 1 1] w fun e w' => e = .returned (.tuple #[.string ⟨#[97, 18, 4, 0, 0, 0, 0, 0]⟩, .int .i64 0]) ∧ Below w.heap.size w w' := by
  have hok : AllOk (fun _ => slot1) 1 := fun i hi => by unfold Slot.Ok Fits slot1; simp
  refine (encode_any (some ⟨g, 0, none⟩) 1 1 (fun _ => slot1) (by omega) w (fun i hi => ⟨g, 0, rfl, hg, by rw [show 0 + i * 5 = 0 by omega]; exact h⟩)).mono ?_
  rintro e w' ⟨rfl, hb⟩
  rw [encAns_ok hok]
  exact ⟨by rfl, hb⟩
theorem dec_one (w : World) :
    Calls Tryd.prog 10 #[.string ⟨#[97, 18, 4, 0, 0, 0, 0, 0]⟩] w fun e w' => ∃ g c, e = .returned (.tuple #[.slice (some ⟨g, 0, none⟩) 1 c, .int .i64 0]) ∧ Below w.heap.size w w' ∧ g < w'.heap.size ∧ Cells5 w' g 0 slot1 := by
  refine (decode_ok ⟨#[97, 18, 4, 0, 0, 0, 0, 0]⟩ 1 rfl (by omega) w).mono ?_
  rintro e w' ⟨v, rfl, hb, ho⟩
  have e1 : decAll ⟨#[97, 18, 4, 0, 0, 0, 0, 0]⟩ 1 = slot1.cells := by kernel_rfl
  rw [e1] at ho
  obtain ⟨A, c, rfl, hc⟩ := own_form_any ho
  obtain ⟨g, rfl, hg, hcell⟩ := hc (by omega)
  exact ⟨g, c, rfl, hb, hg, hcell 0 _ rfl, hcell 1 _ rfl, hcell 2 _ rfl, hcell 3 _ rfl, hcell 4 _ rfl⟩
theorem dec_abc (w : World) : Calls Tryd.prog 10 #[.string ⟨#[97, 98, 99]⟩] w fun e w' => e = .returned (.tuple #[.slice none 0 0, .int .i64 30]) ∧ w = w' :=
  decode_bad _ (by decide) (by decide) w
theorem lay_one (w : World) : Calls Tryd.prog 14 #[.int .i64 1, .int .u64 4294967303] w fun e w' => e = .returned (.agg #[.int .i64 24, .int .i64 1, .int .i64 0, .int .i64 0, .int .i64 7, .int .i64 0, .int .i64 0, .int .i64 0, .int .i64 0, .int .i64 1]) ∧ Below w.heap.size w w' := by
  refine (lay_any 1 4294967303 (by omega) w).mono ?_
  rintro e w' ⟨rfl, hb⟩
  exact ⟨by unfold layV wrap32; rfl, hb⟩
theorem imm_one (w : World) : Calls Tryd.prog 16 #[.agg #[.int .i64 24, .int .i64 1, .int .i64 0, .int .i64 0, .int .i64 7], .agg #[.int .i64 0, .int .i64 0, .int .i64 0, .int .i64 0, .int .i64 1]] w fun e w' => e = .returned (.int .u64 4294967303) ∧ Below w.heap.size w w' := imm_any 24 1 0 0 7 0 0 0 0 1 w
theorem class_one (w : World) : Calls Tryd.prog 18 #[.agg #[.int .i64 97, .int .i64 2, .int .i64 1, .int .i64 4, .int .i64 0]] w fun e w' => e = .returned (.int .i64 1) ∧ Below w.heap.size w w' := class_any 97 2 1 4 0 w
theorem size_one (w : World) (h : Sizes w) : Calls Tryd.prog 20 #[.agg #[.int .i64 97, .int .i64 2, .int .i64 1, .int .i64 4, .int .i64 0]] w fun e w' => e = .returned (.int .i64 4) ∧ Below w.heap.size w w' := size_any 97 2 1 4 0 w h
theorem wide_one (w : World) : Calls Tryd.prog 17 #[.agg #[.int .i64 24, .int .i64 1, .int .i64 0, .int .i64 0, .int .i64 7]] w fun e w' => e = .returned (.bool true) ∧ Below w.heap.size w w' := wide_any 24 1 0 0 7 w
/-- What awake looks at behind its calls. -/
def AwAt (w0 : World) (g x : Nat) (w : World) : Prop := Below w0.heap.size w0 w ∧ g < w.heap.size ∧ Cells5 w g 0 slot1 ∧ x < w.heap.size ∧ Cells5 w x 0 ⟨24, 1, 0, 0, 7⟩ ∧ Cells5 w x 5 ⟨0, 0, 0, 0, 1⟩
theorem AwAt.below {w0 : World} {g x : Nat} {w w' : World} (h : AwAt w0 g x w) (hb : Below w.heap.size w w') : AwAt w0 g x w' :=
  ⟨h.1.trans (hb.mono h.1.size), Nat.lt_of_lt_of_le h.2.1 hb.size, h.2.2.1.below hb h.2.1, Nat.lt_of_lt_of_le h.2.2.2.1 hb.size, h.2.2.2.2.1.below hb h.2.2.2.1, h.2.2.2.2.2.below hb h.2.2.2.1⟩
set_option maxRecDepth 100000 in
set_option maxHeartbeats 4000000 in
theorem awake_any (w : World) (hS : Sizes w) : Calls Tryd.prog 13 #[] w fun e w' => e = .returned (.bool true) ∧ Below w.heap.size w w' := by
  have HS := Lib.hid hS
  clear hS
  have h1 : Cells5 (w.alloc (.cells #[.int .i64 97, .int .i64 2, .int .i64 1, .int .i64 4, .int .i64 0] 37)) w.heap.size 0 slot1 := Cells5.new w slot1 _
  have CE := Lib.hid (enc_one w.heap.size (w.alloc (.cells #[.int .i64 97, .int .i64 2, .int .i64 1, .int .i64 4, .int .i64 0] 37)) (by simp) h1)
  clear h1
  have B0 : Hid (Below w.heap.size w (w.alloc (.cells #[.int .i64 97, .int .i64 2, .int .i64 1, .int .i64 4, .int .i64 0] 37))) := (Below.refl _ w).alloc (Nat.le_refl _) _
  go_enter Tryd.func13, Tryd.ntmps13
  go_wp2_with (go_at_call 8; refine CE.out.mono ?_; rintro e w1 ⟨rfl, hb1⟩; have B1 : Hid (Below w.heap.size w w1) := B0.out.trans (hb1.mono B0.out.size); clear hb1)
  go_wp2_with (go_at_call 10; refine (dec_one _).mono ?_; rintro e w2 ⟨g, c, rfl, hb2, hg2, hc2⟩; have B2 : Hid (Below w.heap.size w w2) := B1.out.trans (hb2.mono B1.out.size); have HG2 := Lib.hid (And.intro hg2 hc2); clear hb2 hg2 hc2)
  go_wp2_with (go_at_call 14; refine (lay_one _).mono ?_; rintro e w3 ⟨rfl, hb3⟩; have B3 : Hid (Below w.heap.size w w3) := B2.out.trans (hb3.mono B2.out.size); have HG3 : Hid (g < w3.heap.size ∧ Cells5 w3 g 0 slot1) := ⟨Nat.lt_of_lt_of_le HG2.out.1 hb3.size, HG2.out.2.below hb3 HG2.out.1⟩; clear hb3)
  have h4 : AwAt w g w3.heap.size (w3.alloc (.cells #[.int .i64 24, .int .i64 1, .int .i64 0, .int .i64 0, .int .i64 7, .int .i64 0, .int .i64 0, .int .i64 0, .int .i64 0, .int .i64 1] 38)) :=
    ⟨B3.out.alloc B3.out.size _, by have := HG3.out.1; simp; omega, HG3.out.2.below ((Below.refl _ w3).alloc (Nat.le_refl _) _) HG3.out.1, by simp, ⟨(Blk.new w3 _ _).cell 0, (Blk.new w3 _ _).cell 1, (Blk.new w3 _ _).cell 2, (Blk.new w3 _ _).cell 3, (Blk.new w3 _ _).cell 4⟩, ⟨(Blk.new w3 _ _).cell 5, (Blk.new w3 _ _).cell 6, (Blk.new w3 _ _).cell 7, (Blk.new w3 _ _).cell 8, (Blk.new w3 _ _).cell 9⟩⟩
  have A4 := Lib.hid h4
  clear h4 B0 B1 B2 B3 HG2 HG3
  generalize hx : w3.heap.size = x at A4 ⊢
  generalize (w3.alloc (.cells #[.int .i64 24, .int .i64 1, .int .i64 0, .int .i64 0, .int .i64 7, .int .i64 0, .int .i64 0, .int .i64 0, .int .i64 0, .int .i64 1] 38)) = w4 at A4 ⊢
  clear hx
  obtain ⟨p40, p41, p42, p43, p44⟩ := A4.out.2.2.1
  obtain ⟨q40, q41, q42, q43, q44⟩ := A4.out.2.2.2.2.1
  obtain ⟨r40, r41, r42, r43, r44⟩ := A4.out.2.2.2.2.2
  simp only [slot1] at p40 p41 p42 p43 p44 q40 q41 q42 q43 q44 r40 r41 r42 r43 r44
  go_wp2_with (go_at_call 10; refine (dec_abc _).mono ?_; rintro e w' ⟨rfl, rfl⟩)
  go_wp2_with (go_at_call 16; refine (imm_one _).mono ?_; rintro e w5 ⟨rfl, hb5⟩; have A5 := Lib.hid (A4.out.below hb5); clear hb5; obtain ⟨p50, p51, p52, p53, p54⟩ := A5.out.2.2.1; obtain ⟨q50, q51, q52, q53, q54⟩ := A5.out.2.2.2.2.1; obtain ⟨r50, r51, r52, r53, r54⟩ := A5.out.2.2.2.2.2; simp only [slot1] at p50 p51 p52 p53 p54 q50 q51 q52 q53 q54 r50 r51 r52 r53 r54)
  go_wp2_with (go_at_call 18; refine (class_one _).mono ?_; rintro e w6 ⟨rfl, hb6⟩; have A6 := Lib.hid (A5.out.below hb6); clear hb6; obtain ⟨p60, p61, p62, p63, p64⟩ := A6.out.2.2.1; obtain ⟨q60, q61, q62, q63, q64⟩ := A6.out.2.2.2.2.1; obtain ⟨r60, r61, r62, r63, r64⟩ := A6.out.2.2.2.2.2; simp only [slot1] at p60 p61 p62 p63 p64 q60 q61 q62 q63 q64 r60 r61 r62 r63 r64)
  go_wp2_with (go_at_call 20; refine (size_one _ (HS.out.below A6.out.1)).mono ?_; rintro e w7 ⟨rfl, hb7⟩; have A7 := Lib.hid (A6.out.below hb7); clear hb7; obtain ⟨p70, p71, p72, p73, p74⟩ := A7.out.2.2.1; obtain ⟨q70, q71, q72, q73, q74⟩ := A7.out.2.2.2.2.1; obtain ⟨r70, r71, r72, r73, r74⟩ := A7.out.2.2.2.2.2; simp only [slot1] at p70 p71 p72 p73 p74 q70 q71 q72 q73 q74 r70 r71 r72 r73 r74)
  go_wp2_with (go_at_call 17; refine (wide_one _).mono ?_; rintro e w8 ⟨rfl, hb8⟩; have A8 := Lib.hid (A7.out.below hb8); clear hb8; obtain ⟨p80, p81, p82, p83, p84⟩ := A8.out.2.2.1; obtain ⟨q80, q81, q82, q83, q84⟩ := A8.out.2.2.2.2.1; obtain ⟨r80, r81, r82, r83, r84⟩ := A8.out.2.2.2.2.2; simp only [slot1] at p80 p81 p82 p83 p84 q80 q81 q82 q83 q84 r80 r81 r82 r83 r84)
  go_ret
  exact ⟨rfl, A8.out.1⟩
end Go.Proofs.YtkopbjjpghbkoaaDoor
