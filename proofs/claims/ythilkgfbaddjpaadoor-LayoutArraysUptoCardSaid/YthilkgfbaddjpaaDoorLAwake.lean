/-
  Layer 7: awake.
-/
import Derived.Test.YthilkgfbaddjpaaDoorLSome2
namespace Go.Proofs.YthilkgfbaddjpaaDoor
open Go Go.RowKit
set_option linter.unusedVariables false
set_option linter.unusedSimpArgs false
set_option maxRecDepth 100000
section
variable {W : World} {a : Nat → Addr} {A : Option Addr}
theorem ex_some (W : World) : Calls Tryd.prog 12 #[] W fun e w' => ∃ A, e = .returned (.slice A 3 3) ∧ TysAt w' A exL ∧ Below W.heap.size W w' := some_any W
theorem ex_Size3 (hE : Env W a) (hT : TysAt W A exL) : Calls Tryd.prog 7 #[.slice A 3 3, .int .i64 3] W fun e w' => e = .returned (.tuple #[.int .i64 24, .int .i64 0]) ∧ Below W.heap.size W w' := by
  have := Size_good (cl := 3) hE hT (by decide) (fun _ => ex_held) ex_good 3
  rw [ex_size3] at this
  exact this
theorem ex_Size0 (hE : Env W a) (hT : TysAt W A exL) : Calls Tryd.prog 7 #[.slice A 3 3, .int .i64 0] W fun e w' => e = .returned (.tuple #[.int .i64 0, .int .i64 41]) ∧ Below W.heap.size W w' := by
  have := Size_good (cl := 3) hE hT (by decide) (fun _ => ex_held) ex_good 0
  rw [ex_size0] at this
  exact this
theorem ex_Fits (hE : Env W a) (hT : TysAt W A exL) : Calls Tryd.prog 14 #[.slice A 3 3, .int .i64 1, .int .i64 2, .agg #[.int .i64 0, .int .i64 4, .int .i64 8, .int .i64 0]] W fun e w' => e = .returned (.int .i64 0) ∧ Below W.heap.size W w' :=
  Fits_yes (cl := 3) hE hT ex_held ex_good 1 2 (by decide) (by decide) 4 8 0 0 (by rw [ex_sizes]; rfl) (by rw [ex_sizes]; rfl)
theorem ex_Field (hE : Env W a) (hT : TysAt W A exL) : Calls Tryd.prog 5 #[.slice A 3 3, .int .i64 2, .slice (some ⟨W.heap.size, 0, none⟩) 1 1] (W.alloc (.cells #[.string ⟨#[98]⟩] 9)) fun e w' => e = .returned (.tuple #[.int .i64 4, .int .i64 1, .int .i64 0]) ∧ Below W.heap.size W w' := by
  have b1 : Below W.heap.size W (W.alloc (.cells #[.string ⟨#[98]⟩] 9)) := (Below.refl _ W).alloc (Nat.le_refl _) _
  have hS : StrAt (W.alloc (.cells #[.string ⟨#[98]⟩] 9)) (some ⟨W.heap.size, 0, none⟩) [⟨#[98]⟩] := by
    have hB := Blk.new W 9 #[.string ⟨#[98]⟩]
    intro i s hs
    match i, hs with
    | 0, hs => cases hs; exact ⟨_, 0, rfl, hB.lt, hB.cell 0, by decide⟩
    | i + 1, hs => simp at hs
  have := Field_good (cl := 3) (hE.below b1) (hT.below b1) (by decide) (fun _ => ex_held) ex_good 2 (some ⟨W.heap.size, 0, none⟩) 1 [⟨#[98]⟩] hS (by decide)
  rw [ex_field] at this
  exact this.mono fun e w' h => ⟨h.1, b1.trans (h.2.mono b1.size)⟩
theorem self_tys (W : World) : TysAt (W.alloc (.cells #[.int .i64 8, .string ⟨#[116]⟩, .int .i64 0, .int .i64 1, .int .i64 0, .slice none 0 0] 34)) (some ⟨W.heap.size, 0, none⟩) selfL := by
  have hT := Blk.new W 34 #[.int .i64 8, .string ⟨#[116]⟩, .int .i64 0, .int .i64 1, .int .i64 0, .slice none 0 0]
  intro i t ht
  match i, ht with
  | 0, ht =>
    cases ht
    exact ⟨_, 0, none, 0, rfl, hT.lt, hT.cell 0, hT.cell 1, hT.cell 2, hT.cell 3, hT.cell 4, hT.cell 5, (fun i m hi => by cases hi), by decide, by decide⟩
  | i + 1, ht => simp [selfL] at ht
theorem ex_Check (hE : Env W a) : Calls Tryd.prog 13 #[.slice (some ⟨W.heap.size, 0, none⟩) 1 1] (W.alloc (.cells #[.int .i64 8, .string ⟨#[116]⟩, .int .i64 0, .int .i64 1, .int .i64 0, .slice none 0 0] 34)) fun e w' => e = .returned (.tuple #[.int .i64 1, .int .i64 41]) ∧ Below W.heap.size W w' := by
  have b1 : Below W.heap.size W (W.alloc (.cells #[.int .i64 8, .string ⟨#[116]⟩, .int .i64 0, .int .i64 1, .int .i64 0, .slice none 0 0] 34)) := (Below.refl _ W).alloc (Nat.le_refl _) _
  refine (Check_loops (cl := 1) (hE.below b1) (self_tys W) (by decide) self_held self_alone (by rw [self_loops]; decide)).mono ?_
  rintro e w' ⟨m, hm, rfl, hb⟩
  rw [self_loops] at hm
  simp only [List.mem_singleton] at hm
  subst hm
  exact ⟨rfl, b1.trans (hb.mono b1.size)⟩
end
set_option maxHeartbeats 4000000 in
theorem awake_any {w : World} {a : Nat → Addr} (hE : Env w a) :
    Calls Tryd.prog 6 #[] w fun e w' => e = .returned (.bool true) ∧ Below w.heap.size w w' := by
  have HE := Lib.hid hE
  clear hE
  go_enter Tryd.func6, Tryd.ntmps6
  go_upto_region 2 with (first
    | (go_at_call 12; refine (ex_some _).mono ?_; rintro e w1 ⟨A1, rfl, hT, hb⟩; have T1 := Lib.hid hT; have B1 := Lib.hid hb; clear hT hb)
    | (go_at_call 7; refine (ex_Size3 (HE.out.below B1.out) T1.out).mono ?_; rintro e w2 ⟨rfl, hb⟩; have B2 := Lib.hid (B1.out.trans (hb.mono B1.out.size)); clear hb))
  clear T1 B1
  go_upto_region 3 with (first
    | (go_at_call 12; refine (ex_some _).mono ?_; rintro e w3 ⟨A3, rfl, hT, hb⟩; have T3 := Lib.hid hT; have B3 := Lib.hid (B2.out.trans (hb.mono B2.out.size)); clear hT hb)
    | (go_at_call 5; refine (ex_Field (HE.out.below B3.out) T3.out).mono ?_; rintro e w4 ⟨rfl, hb⟩; have B4 := Lib.hid (B3.out.trans (hb.mono B3.out.size)); clear hb))
  clear T3 B3 B2
  go_upto_region 4 with (go_at_call 13; refine (ex_Check (HE.out.below B4.out)).mono ?_; rintro e w5 ⟨rfl, hb⟩; have B5 := Lib.hid (B4.out.trans (hb.mono B4.out.size)); clear hb)
  clear B4
  go_upto_region 5 with (first
    | (go_at_call 12; refine (ex_some _).mono ?_; rintro e w6 ⟨A6, rfl, hT, hb⟩; have T6 := Lib.hid hT; have B6 := Lib.hid (B5.out.trans (hb.mono B5.out.size)); clear hT hb)
    | (go_at_call 7; refine (ex_Size0 (HE.out.below B6.out) T6.out).mono ?_; rintro e w7 ⟨rfl, hb⟩; have B7 := Lib.hid (B6.out.trans (hb.mono B6.out.size)); clear hb))
  clear T6 B6 B5
  go_wp2_with (first
    | (go_at_call 12; refine (ex_some _).mono ?_; rintro e w8 ⟨A8, rfl, hT, hb⟩; have T8 := Lib.hid hT; have B8 := Lib.hid (B7.out.trans (hb.mono B7.out.size)); clear hT hb)
    | (go_at_call 14; refine (ex_Fits (HE.out.below B8.out) T8.out).mono ?_; rintro e w9 ⟨rfl, hb⟩; have B9 := Lib.hid (B8.out.trans (hb.mono B8.out.size)); clear hb))
  go_ret
  exact ⟨rfl, B9.out⟩
end Go.Proofs.YthilkgfbaddjpaaDoor
