/-
  The law InsnFields, walked: where all three slots fit.
-/
import Derived.Test.YtkopbjjpghbkoaaDoorIFieldsWalk
namespace Go.Proofs.YtkopbjjpghbkoaaDoor
open Go Go.RowKit
set_option linter.unusedVariables false
set_option maxRecDepth 100000 in
set_option maxHeartbeats 3000000 in
theorem fields_4 (x : Slot) (imm off : Int) (w : World) (hS : Sizes w) (hx : x.Ok) (hj : (⟨x.o, x.d, x.s, x.f, imm⟩ : Slot).Ok) (hk : (⟨x.o, x.d, x.s, off, x.m⟩ : Slot).Ok) :
    Calls Tryd.prog 7 #[x.V, .int .i64 imm, .int .i64 off] w fun e w' => e = .returned (.bool true) ∧ Below w.heap.size w w' := by
  have HS := Lib.hid hS
  clear hS
  have e1 := encE_ok hx
  have e2 := encE_ok hj
  have e3 := encE_ok hk
  have E1 := (encS_ok hx).symm
  have E2 := (encS_ok hj).symm
  have E3 := (encS_ok hk).symm
  have z1 : (encS x).size = 8 := by rw [← E1, bstr_size]; rfl
  have z2 : (encS ⟨x.o, x.d, x.s, x.f, imm⟩).size = 8 := by rw [← E2, bstr_size]; rfl
  have z3 : (encS ⟨x.o, x.d, x.s, off, x.m⟩).size = 8 := by rw [← E3, bstr_size]; rfl
  have d1 : decide (((encS x).size : Int) < 8) = false := by simp; omega
  have d2 : decide (((encS ⟨x.o, x.d, x.s, x.f, imm⟩).size : Int) < 8) = false := by simp; omega
  have d3 : decide (((encS ⟨x.o, x.d, x.s, off, x.m⟩).size : Int) < 8) = false := by simp; omega
  have q1 := head_imm x imm
  have q2 := head_off x off
  have q3 := tail_off x off
  have q4 := same_imm x imm hx hj
  have q5 := same_off x off hx hk
  rw [E1, E2] at q1 q4
  rw [E1, E3] at q2 q3 q5
  rw [← beq_toList] at q1 q2 q3 q4 q5
  obtain ⟨p4, hp4⟩ : ∃ p, (x.m == imm) = p := ⟨_, rfl⟩
  obtain ⟨p5, hp5⟩ : ∃ p, (x.f == off) = p := ⟨_, rfl⟩
  rw [hp4] at q4
  rw [hp5] at q5
  clear hx hj hk E1 E2 E3
  unfold Slot.V insV
  go_enter Tryd.func7, Tryd.ntmps7
  go_wp2_with fail
  go_region
  · go_wp2_with (first | (go_at_call 8; first | (have h := A2.out; refine (enc_at w2 w2.heap.size rfl x.o x.d x.s off x.m).mono ?_; rintro e w3 ⟨rfl, hb3⟩; have A3 := Lib.hid (h.below hb3); clear hb3 h k0 k1 k2 k3 k4) | (have h := A1.out; refine (enc_at w1 w1.heap.size rfl x.o x.d x.s x.f imm).mono ?_; rintro e w2 ⟨rfl, hb2⟩; have A2 := Lib.hid (h.below hb2); clear hb2 h j0 j1 j2 j3 j4; obtain ⟨k0, k1, k2, k3, k4⟩ := A2.out.ck) | (refine (enc_at' (((w.alloc (.cells #[.int .i64 x.o, .int .i64 x.d, .int .i64 x.s, .int .i64 x.f, .int .i64 x.m] 37)).alloc (.cells #[.int .i64 x.o, .int .i64 x.d, .int .i64 x.s, .int .i64 x.f, .int .i64 imm] 37)).alloc (.cells #[.int .i64 x.o, .int .i64 x.d, .int .i64 x.s, .int .i64 off, .int .i64 x.m] 37)) (w.heap.size + 1 + 1 + 1) (by simp) x.o x.d x.s x.f x.m).mono ?_; rintro e w1 ⟨rfl, hb1⟩; have A1 := Lib.hid ((fat_a w x imm off).below hb1); obtain ⟨j0, j1, j2, j3, j4⟩ := A1.out.cj; clear hb1)))
    have S3 : Hid (w3.drew.cell? ⟨w.heap.size, 3, none⟩ = some (.int .i64 x.f) ∧ w3.drew.cell? ⟨w.heap.size, 4, none⟩ = some (.int .i64 x.m)) := ⟨A3.out.ci.2.2.2.1, A3.out.ci.2.2.2.2⟩
    go_region_held3 (fun W => W.cell? ⟨w.heap.size, 3, none⟩ = some (.int .i64 x.f) ∧ W.cell? ⟨w.heap.size, 4, none⟩ = some (.int .i64 x.m))
      (first | exact S4.out | exact S3.out)
      ((go_at_call 13; refine (awake_any w3.drew (HS.out.below A3.out.1.drew)).mono ?_; rintro e w4 ⟨rfl, hb4⟩; have A4 := Lib.hid (A3.out.below ((Below.refl _ w3).drew.trans (hb4.mono (Nat.le_refl _)))); have S4 := Lib.hid (And.intro A4.out.ci.2.2.2.1 A4.out.ci.2.2.2.2); clear hb4))
    all_goals go_wp2_with fail
    all_goals go_ret
    all_goals exact ⟨rfl, A4.out.1⟩
  · go_wp2_with (first | (go_at_call 8; first | (have h := A2.out; refine (enc_at w2 w2.heap.size rfl x.o x.d x.s off x.m).mono ?_; rintro e w3 ⟨rfl, hb3⟩; have A3 := Lib.hid (h.below hb3); clear hb3 h k0 k1 k2 k3 k4) | (have h := A1.out; refine (enc_at w1 w1.heap.size rfl x.o x.d x.s x.f imm).mono ?_; rintro e w2 ⟨rfl, hb2⟩; have A2 := Lib.hid (h.below hb2); clear hb2 h j0 j1 j2 j3 j4; obtain ⟨k0, k1, k2, k3, k4⟩ := A2.out.ck) | (refine (enc_at' (((w.alloc (.cells #[.int .i64 x.o, .int .i64 x.d, .int .i64 x.s, .int .i64 x.f, .int .i64 x.m] 37)).alloc (.cells #[.int .i64 x.o, .int .i64 x.d, .int .i64 x.s, .int .i64 off, .int .i64 x.m] 37)).alloc (.cells #[.int .i64 x.o, .int .i64 x.d, .int .i64 x.s, .int .i64 x.f, .int .i64 imm] 37)) (w.heap.size + 1 + 1 + 1) (by simp) x.o x.d x.s x.f x.m).mono ?_; rintro e w1 ⟨rfl, hb1⟩; have A1 := Lib.hid ((fat_b w x imm off).below hb1); obtain ⟨j0, j1, j2, j3, j4⟩ := A1.out.cj; clear hb1)))
    have S3 : Hid (w3.drew.cell? ⟨w.heap.size, 3, none⟩ = some (.int .i64 x.f) ∧ w3.drew.cell? ⟨w.heap.size, 4, none⟩ = some (.int .i64 x.m)) := ⟨A3.out.ci.2.2.2.1, A3.out.ci.2.2.2.2⟩
    go_region_held3 (fun W => W.cell? ⟨w.heap.size, 3, none⟩ = some (.int .i64 x.f) ∧ W.cell? ⟨w.heap.size, 4, none⟩ = some (.int .i64 x.m))
      (first | exact S4.out | exact S3.out)
      ((go_at_call 13; refine (awake_any w3.drew (HS.out.below A3.out.1.drew)).mono ?_; rintro e w4 ⟨rfl, hb4⟩; have A4 := Lib.hid (A3.out.below ((Below.refl _ w3).drew.trans (hb4.mono (Nat.le_refl _)))); have S4 := Lib.hid (And.intro A4.out.ci.2.2.2.1 A4.out.ci.2.2.2.2); clear hb4))
    all_goals go_wp2_with fail
    all_goals go_ret
    all_goals exact ⟨rfl, A4.out.1⟩
theorem fields_walk (x : Slot) (imm off : Int) (w : World) (hS : Sizes w) :
    Calls Tryd.prog 7 #[x.V, .int .i64 imm, .int .i64 off] w fun e w' => e = .returned (.bool true) ∧ Below w.heap.size w w' := by
  by_cases hx : x.Ok
  · by_cases hj : (⟨x.o, x.d, x.s, x.f, imm⟩ : Slot).Ok
    · by_cases hk : (⟨x.o, x.d, x.s, off, x.m⟩ : Slot).Ok
      · exact fields_4 x imm off w hS hx hj hk
      · exact fields_3 x imm off w hS hx hj hk
    · exact fields_2 x imm off w hS hx hj
  · exact fields_1 x imm off w hS hx
end Go.Proofs.YtkopbjjpghbkoaaDoor
