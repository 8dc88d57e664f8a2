/-
  The law InsnFields, walked.
-/
import Derived.Test.YtkopbjjpghbkoaaDoorIFieldsKit
import Derived.Deep.RegionHeld3
import Derived.BigRegion
namespace Go.Proofs.YtkopbjjpghbkoaaDoor
open Go Go.RowKit
set_option linter.unusedVariables false
open Classical in
noncomputable def encS (x : Slot) : ByteArray := if x.Ok then bstr x.bytes else bstr []
open Classical in
noncomputable def encE (x : Slot) : Int := if x.Ok then 0 else 30
theorem encOne_eq (x : Slot) : encOne x = .returned (.tuple #[.string (encS x), .int .i64 (encE x)]) := by
  by_cases h : x.Ok
  · rw [encOne_ok h]; unfold encS encE; rw [if_pos h, if_pos h]
  · rw [encOne_bad h]; unfold encS encE; rw [if_neg h, if_neg h]
theorem encS_ok {x : Slot} (h : x.Ok) : encS x = bstr x.bytes := if_pos h
theorem encE_ok {x : Slot} (h : x.Ok) : (encE x != 0) = false := by rw [show encE x = 0 from if_pos h]; rfl
theorem encE_bad {x : Slot} (h : ¬ x.Ok) : (encE x != 0) = true := by rw [show encE x = 30 from if_neg h]; rfl
theorem enc_at (w0 : World) (N : Nat) (hN : w0.heap.size = N) (o d s f m : Int) :
    Calls Tryd.prog 8 #[.slice (some ⟨N, 0, none⟩) 1 1] (w0.alloc (.cells #[.int .i64 o, .int .i64 d, .int .i64 s, .int .i64 f, .int .i64 m] 37)) fun e w' => e = .returned (.tuple #[.string (encS ⟨o, d, s, f, m⟩), .int .i64 (encE ⟨o, d, s, f, m⟩)]) ∧ Below w0.heap.size w0 w' := by
  subst hN
  refine (enc1_any w0.heap.size _ ⟨o, d, s, f, m⟩ (by simp) (Cells5.new w0 ⟨o, d, s, f, m⟩ _)).mono ?_
  rintro e w' ⟨rfl, hb⟩
  exact ⟨encOne_eq _, ((Below.refl _ w0).alloc (Nat.le_refl _) _).trans (hb.mono (by simp))⟩
theorem enc_at' (w0 : World) (N : Nat) (hN : w0.heap.size = N) (o d s f m : Int) :
    Calls Tryd.prog 8 #[.slice (some ⟨N, 0, none⟩) 1 1] (w0.alloc (.cells #[.int .i64 o, .int .i64 d, .int .i64 s, .int .i64 f, .int .i64 m] 37)).drew fun e w' => e = .returned (.tuple #[.string (encS ⟨o, d, s, f, m⟩), .int .i64 (encE ⟨o, d, s, f, m⟩)]) ∧ Below w0.heap.size w0 w' := by
  subst hN
  refine (enc1_any w0.heap.size _ ⟨o, d, s, f, m⟩ (by simp [World.drew]) ((Cells5.new w0 ⟨o, d, s, f, m⟩ _).below ((Below.refl _ _).drew) (by simp))).mono ?_
  rintro e w' ⟨rfl, hb⟩
  exact ⟨encOne_eq _, (((Below.refl _ w0).alloc (Nat.le_refl _) _).drew).trans (hb.mono (by simp [World.drew]))⟩
/-- The three blocks as they are, the first one's number, the second's, the third's. -/
def FAt (w0 : World) (gi gj gk : Nat) (x : Slot) (imm off : Int) (w : World) : Prop := Below w0.heap.size w0 w ∧ gi < w.heap.size ∧ Cells5 w gi 0 x ∧ gj < w.heap.size ∧ Cells5 w gj 0 ⟨x.o, x.d, x.s, x.f, imm⟩ ∧ gk < w.heap.size ∧ Cells5 w gk 0 ⟨x.o, x.d, x.s, off, x.m⟩
section
variable {w0 w w' : World} {gi gj gk : Nat} {x : Slot} {imm off : Int}
theorem FAt.below (h : FAt w0 gi gj gk x imm off w) (hb : Below w.heap.size w w') : FAt w0 gi gj gk x imm off w' :=
  ⟨h.1.trans (hb.mono h.1.size), Nat.lt_of_lt_of_le h.2.1 hb.size, h.2.2.1.below hb h.2.1, Nat.lt_of_lt_of_le h.2.2.2.1 hb.size, h.2.2.2.2.1.below hb h.2.2.2.1, Nat.lt_of_lt_of_le h.2.2.2.2.2.1 hb.size, h.2.2.2.2.2.2.below hb h.2.2.2.2.2.1⟩
theorem FAt.ci (h : FAt w0 gi gj gk x imm off w) : w.cell? ⟨gi, 0, none⟩ = some (.int .i64 x.o) ∧ w.cell? ⟨gi, 1, none⟩ = some (.int .i64 x.d) ∧ w.cell? ⟨gi, 2, none⟩ = some (.int .i64 x.s) ∧ w.cell? ⟨gi, 3, none⟩ = some (.int .i64 x.f) ∧ w.cell? ⟨gi, 4, none⟩ = some (.int .i64 x.m) := by
  obtain ⟨_, _, ⟨p0, p1, p2, p3, p4⟩, _, ⟨q0, q1, q2, q3, q4⟩, _, ⟨r0, r1, r2, r3, r4⟩⟩ := h
  exact ⟨p0, p1, p2, p3, p4⟩
theorem FAt.cj (h : FAt w0 gi gj gk x imm off w) : w.cell? ⟨gj, 0, none⟩ = some (.int .i64 x.o) ∧ w.cell? ⟨gj, 1, none⟩ = some (.int .i64 x.d) ∧ w.cell? ⟨gj, 2, none⟩ = some (.int .i64 x.s) ∧ w.cell? ⟨gj, 3, none⟩ = some (.int .i64 x.f) ∧ w.cell? ⟨gj, 4, none⟩ = some (.int .i64 imm) := by
  obtain ⟨_, _, ⟨p0, p1, p2, p3, p4⟩, _, ⟨q0, q1, q2, q3, q4⟩, _, ⟨r0, r1, r2, r3, r4⟩⟩ := h
  exact ⟨q0, q1, q2, q3, q4⟩
theorem FAt.ck (h : FAt w0 gi gj gk x imm off w) : w.cell? ⟨gk, 0, none⟩ = some (.int .i64 x.o) ∧ w.cell? ⟨gk, 1, none⟩ = some (.int .i64 x.d) ∧ w.cell? ⟨gk, 2, none⟩ = some (.int .i64 x.s) ∧ w.cell? ⟨gk, 3, none⟩ = some (.int .i64 off) ∧ w.cell? ⟨gk, 4, none⟩ = some (.int .i64 x.m) := by
  obtain ⟨_, _, ⟨p0, p1, p2, p3, p4⟩, _, ⟨q0, q1, q2, q3, q4⟩, _, ⟨r0, r1, r2, r3, r4⟩⟩ := h
  exact ⟨r0, r1, r2, r3, r4⟩
end
theorem beq_toList (a b : ByteArray) : (a.toList == b.toList) = (a == b) := by
  rw [Bool.eq_iff_iff, ba_beq, beq_iff_eq, ByteArray.toList_eq, ByteArray.toList_eq]
  exact ⟨fun h => by obtain ⟨⟨a⟩⟩ := a; obtain ⟨⟨b⟩⟩ := b; simp only at h; rw [h], fun h => by rw [h]⟩
theorem cells_at1 (w : World) (B C : Obj) (o d s f m : Int) : Cells5 (((w.alloc (.cells #[.int .i64 o, .int .i64 d, .int .i64 s, .int .i64 f, .int .i64 m] 37)).alloc B).alloc C) w.heap.size 0 ⟨o, d, s, f, m⟩ :=
  (((Cells5.new w ⟨o, d, s, f, m⟩ _).below ((Below.refl _ _).alloc (Nat.le_refl _) _) (by simp)).below ((Below.refl _ _).alloc (Nat.le_refl _) _) (by simp; omega))
theorem cells_at2 (w : World) (A C : Obj) (o d s f m : Int) : Cells5 (((w.alloc A).alloc (.cells #[.int .i64 o, .int .i64 d, .int .i64 s, .int .i64 f, .int .i64 m] 37)).alloc C) (w.heap.size + 1) 0 ⟨o, d, s, f, m⟩ := by
  have h := Cells5.new (w.alloc A) ⟨o, d, s, f, m⟩ 37
  rw [show (w.alloc A).heap.size = w.heap.size + 1 by simp] at h
  exact h.below ((Below.refl _ _).alloc (Nat.le_refl _) _) (by simp)
theorem cells_at3 (w : World) (A B : Obj) (o d s f m : Int) : Cells5 (((w.alloc A).alloc B).alloc (.cells #[.int .i64 o, .int .i64 d, .int .i64 s, .int .i64 f, .int .i64 m] 37)) (w.heap.size + 1 + 1) 0 ⟨o, d, s, f, m⟩ := by
  have h := Cells5.new ((w.alloc A).alloc B) ⟨o, d, s, f, m⟩ 37
  rw [show ((w.alloc A).alloc B).heap.size = w.heap.size + 1 + 1 by simp] at h
  exact h
theorem fat_a (w : World) (x : Slot) (imm off : Int) : FAt w w.heap.size (w.heap.size + 1) (w.heap.size + 1 + 1) x imm off (((w.alloc (.cells #[.int .i64 x.o, .int .i64 x.d, .int .i64 x.s, .int .i64 x.f, .int .i64 x.m] 37)).alloc (.cells #[.int .i64 x.o, .int .i64 x.d, .int .i64 x.s, .int .i64 x.f, .int .i64 imm] 37)).alloc (.cells #[.int .i64 x.o, .int .i64 x.d, .int .i64 x.s, .int .i64 off, .int .i64 x.m] 37)) :=
  ⟨((((Below.refl _ w).alloc (Nat.le_refl _) _).alloc (by simp) _).alloc (by simp; omega) _), by simp; omega, cells_at1 w _ _ _ _ _ _ _, by simp, cells_at2 w _ _ _ _ _ _ _, by simp, cells_at3 w _ _ _ _ _ _ _⟩
theorem fat_b (w : World) (x : Slot) (imm off : Int) : FAt w w.heap.size (w.heap.size + 1 + 1) (w.heap.size + 1) x imm off (((w.alloc (.cells #[.int .i64 x.o, .int .i64 x.d, .int .i64 x.s, .int .i64 x.f, .int .i64 x.m] 37)).alloc (.cells #[.int .i64 x.o, .int .i64 x.d, .int .i64 x.s, .int .i64 off, .int .i64 x.m] 37)).alloc (.cells #[.int .i64 x.o, .int .i64 x.d, .int .i64 x.s, .int .i64 x.f, .int .i64 imm] 37)) :=
  ⟨((((Below.refl _ w).alloc (Nat.le_refl _) _).alloc (by simp) _).alloc (by simp; omega) _), by simp; omega, cells_at1 w _ _ _ _ _ _ _, by simp, cells_at3 w _ _ _ _ _ _ _, by simp, cells_at2 w _ _ _ _ _ _ _⟩
/-- What the law's last line asks of the three texts. -/
def Texts (x : Slot) (imm off : Int) : Prop := x.Ok ∧ (⟨x.o, x.d, x.s, x.f, imm⟩ : Slot).Ok ∧ (⟨x.o, x.d, x.s, off, x.m⟩ : Slot).Ok
set_option maxRecDepth 100000 in
set_option maxHeartbeats 3000000 in
theorem fields_1 (x : Slot) (imm off : Int) (w : World) (hS : Sizes w) (hx : ¬ x.Ok) :
    Calls Tryd.prog 7 #[x.V, .int .i64 imm, .int .i64 off] w fun e w' => e = .returned (.bool true) ∧ Below w.heap.size w w' := by
  have HS := Lib.hid hS
  clear hS
  have e1 := encE_bad hx
  clear hx
  unfold Slot.V insV
  go_enter Tryd.func7, Tryd.ntmps7
  go_wp2_with fail
  go_region
  · go_wp2_with (first | (go_at_call 8; first | (have h := A2.out; refine (enc_at w2 w2.heap.size rfl x.o x.d x.s off x.m).mono ?_; rintro e w3 ⟨rfl, hb3⟩; have A3 := Lib.hid (h.below hb3); clear hb3 h k0 k1 k2 k3 k4) | (have h := A1.out; refine (enc_at w1 w1.heap.size rfl x.o x.d x.s x.f imm).mono ?_; rintro e w2 ⟨rfl, hb2⟩; have A2 := Lib.hid (h.below hb2); clear hb2 h j0 j1 j2 j3 j4; obtain ⟨k0, k1, k2, k3, k4⟩ := A2.out.ck) | (refine (enc_at' (((w.alloc (.cells #[.int .i64 x.o, .int .i64 x.d, .int .i64 x.s, .int .i64 x.f, .int .i64 x.m] 37)).alloc (.cells #[.int .i64 x.o, .int .i64 x.d, .int .i64 x.s, .int .i64 x.f, .int .i64 imm] 37)).alloc (.cells #[.int .i64 x.o, .int .i64 x.d, .int .i64 x.s, .int .i64 off, .int .i64 x.m] 37)) (w.heap.size + 1 + 1 + 1) (by simp) x.o x.d x.s x.f x.m).mono ?_; rintro e w1 ⟨rfl, hb1⟩; have A1 := Lib.hid ((fat_a w x imm off).below hb1); obtain ⟨j0, j1, j2, j3, j4⟩ := A1.out.cj; clear hb1)) | (go_at_call 13; have h := A3.out; refine (awake_any w3 (HS.out.below h.1)).mono ?_; rintro e w4 ⟨rfl, hb4⟩; have A4 := Lib.hid (h.below hb4); clear hb4 h))
    go_ret
    exact ⟨rfl, A4.out.1⟩
  · go_wp2_with (first | (go_at_call 8; first | (have h := A2.out; refine (enc_at w2 w2.heap.size rfl x.o x.d x.s off x.m).mono ?_; rintro e w3 ⟨rfl, hb3⟩; have A3 := Lib.hid (h.below hb3); clear hb3 h k0 k1 k2 k3 k4) | (have h := A1.out; refine (enc_at w1 w1.heap.size rfl x.o x.d x.s x.f imm).mono ?_; rintro e w2 ⟨rfl, hb2⟩; have A2 := Lib.hid (h.below hb2); clear hb2 h j0 j1 j2 j3 j4; obtain ⟨k0, k1, k2, k3, k4⟩ := A2.out.ck) | (refine (enc_at' (((w.alloc (.cells #[.int .i64 x.o, .int .i64 x.d, .int .i64 x.s, .int .i64 x.f, .int .i64 x.m] 37)).alloc (.cells #[.int .i64 x.o, .int .i64 x.d, .int .i64 x.s, .int .i64 off, .int .i64 x.m] 37)).alloc (.cells #[.int .i64 x.o, .int .i64 x.d, .int .i64 x.s, .int .i64 x.f, .int .i64 imm] 37)) (w.heap.size + 1 + 1 + 1) (by simp) x.o x.d x.s x.f x.m).mono ?_; rintro e w1 ⟨rfl, hb1⟩; have A1 := Lib.hid ((fat_b w x imm off).below hb1); obtain ⟨j0, j1, j2, j3, j4⟩ := A1.out.cj; clear hb1)) | (go_at_call 13; have h := A3.out; refine (awake_any w3 (HS.out.below h.1)).mono ?_; rintro e w4 ⟨rfl, hb4⟩; have A4 := Lib.hid (h.below hb4); clear hb4 h))
    go_ret
    exact ⟨rfl, A4.out.1⟩
set_option maxRecDepth 100000 in
set_option maxHeartbeats 3000000 in
theorem fields_2 (x : Slot) (imm off : Int) (w : World) (hS : Sizes w) (hx : x.Ok) (hj : ¬ (⟨x.o, x.d, x.s, x.f, imm⟩ : Slot).Ok) :
    Calls Tryd.prog 7 #[x.V, .int .i64 imm, .int .i64 off] w fun e w' => e = .returned (.bool true) ∧ Below w.heap.size w w' := by
  have HS := Lib.hid hS
  clear hS
  have e1 := encE_ok hx
  have e2 := encE_bad hj
  clear hx hj
  unfold Slot.V insV
  go_enter Tryd.func7, Tryd.ntmps7
  go_wp2_with fail
  go_region
  · go_wp2_with (first | (go_at_call 8; first | (have h := A2.out; refine (enc_at w2 w2.heap.size rfl x.o x.d x.s off x.m).mono ?_; rintro e w3 ⟨rfl, hb3⟩; have A3 := Lib.hid (h.below hb3); clear hb3 h k0 k1 k2 k3 k4) | (have h := A1.out; refine (enc_at w1 w1.heap.size rfl x.o x.d x.s x.f imm).mono ?_; rintro e w2 ⟨rfl, hb2⟩; have A2 := Lib.hid (h.below hb2); clear hb2 h j0 j1 j2 j3 j4; obtain ⟨k0, k1, k2, k3, k4⟩ := A2.out.ck) | (refine (enc_at' (((w.alloc (.cells #[.int .i64 x.o, .int .i64 x.d, .int .i64 x.s, .int .i64 x.f, .int .i64 x.m] 37)).alloc (.cells #[.int .i64 x.o, .int .i64 x.d, .int .i64 x.s, .int .i64 x.f, .int .i64 imm] 37)).alloc (.cells #[.int .i64 x.o, .int .i64 x.d, .int .i64 x.s, .int .i64 off, .int .i64 x.m] 37)) (w.heap.size + 1 + 1 + 1) (by simp) x.o x.d x.s x.f x.m).mono ?_; rintro e w1 ⟨rfl, hb1⟩; have A1 := Lib.hid ((fat_a w x imm off).below hb1); obtain ⟨j0, j1, j2, j3, j4⟩ := A1.out.cj; clear hb1)) | (go_at_call 13; have h := A3.out; refine (awake_any w3 (HS.out.below h.1)).mono ?_; rintro e w4 ⟨rfl, hb4⟩; have A4 := Lib.hid (h.below hb4); clear hb4 h))
    go_ret
    exact ⟨rfl, A4.out.1⟩
  · go_wp2_with (first | (go_at_call 8; first | (have h := A2.out; refine (enc_at w2 w2.heap.size rfl x.o x.d x.s off x.m).mono ?_; rintro e w3 ⟨rfl, hb3⟩; have A3 := Lib.hid (h.below hb3); clear hb3 h k0 k1 k2 k3 k4) | (have h := A1.out; refine (enc_at w1 w1.heap.size rfl x.o x.d x.s x.f imm).mono ?_; rintro e w2 ⟨rfl, hb2⟩; have A2 := Lib.hid (h.below hb2); clear hb2 h j0 j1 j2 j3 j4; obtain ⟨k0, k1, k2, k3, k4⟩ := A2.out.ck) | (refine (enc_at' (((w.alloc (.cells #[.int .i64 x.o, .int .i64 x.d, .int .i64 x.s, .int .i64 x.f, .int .i64 x.m] 37)).alloc (.cells #[.int .i64 x.o, .int .i64 x.d, .int .i64 x.s, .int .i64 off, .int .i64 x.m] 37)).alloc (.cells #[.int .i64 x.o, .int .i64 x.d, .int .i64 x.s, .int .i64 x.f, .int .i64 imm] 37)) (w.heap.size + 1 + 1 + 1) (by simp) x.o x.d x.s x.f x.m).mono ?_; rintro e w1 ⟨rfl, hb1⟩; have A1 := Lib.hid ((fat_b w x imm off).below hb1); obtain ⟨j0, j1, j2, j3, j4⟩ := A1.out.cj; clear hb1)) | (go_at_call 13; have h := A3.out; refine (awake_any w3 (HS.out.below h.1)).mono ?_; rintro e w4 ⟨rfl, hb4⟩; have A4 := Lib.hid (h.below hb4); clear hb4 h))
    go_ret
    exact ⟨rfl, A4.out.1⟩
set_option maxRecDepth 100000 in
set_option maxHeartbeats 3000000 in
theorem fields_3 (x : Slot) (imm off : Int) (w : World) (hS : Sizes w) (hx : x.Ok) (hj : (⟨x.o, x.d, x.s, x.f, imm⟩ : Slot).Ok) (hk : ¬ (⟨x.o, x.d, x.s, off, x.m⟩ : Slot).Ok) :
    Calls Tryd.prog 7 #[x.V, .int .i64 imm, .int .i64 off] w fun e w' => e = .returned (.bool true) ∧ Below w.heap.size w w' := by
  have HS := Lib.hid hS
  clear hS
  have e1 := encE_ok hx
  have e2 := encE_ok hj
  have e3 := encE_bad hk
  clear hx hj hk
  unfold Slot.V insV
  go_enter Tryd.func7, Tryd.ntmps7
  go_wp2_with fail
  go_region
  · go_wp2_with (first | (go_at_call 8; first | (have h := A2.out; refine (enc_at w2 w2.heap.size rfl x.o x.d x.s off x.m).mono ?_; rintro e w3 ⟨rfl, hb3⟩; have A3 := Lib.hid (h.below hb3); clear hb3 h k0 k1 k2 k3 k4) | (have h := A1.out; refine (enc_at w1 w1.heap.size rfl x.o x.d x.s x.f imm).mono ?_; rintro e w2 ⟨rfl, hb2⟩; have A2 := Lib.hid (h.below hb2); clear hb2 h j0 j1 j2 j3 j4; obtain ⟨k0, k1, k2, k3, k4⟩ := A2.out.ck) | (refine (enc_at' (((w.alloc (.cells #[.int .i64 x.o, .int .i64 x.d, .int .i64 x.s, .int .i64 x.f, .int .i64 x.m] 37)).alloc (.cells #[.int .i64 x.o, .int .i64 x.d, .int .i64 x.s, .int .i64 x.f, .int .i64 imm] 37)).alloc (.cells #[.int .i64 x.o, .int .i64 x.d, .int .i64 x.s, .int .i64 off, .int .i64 x.m] 37)) (w.heap.size + 1 + 1 + 1) (by simp) x.o x.d x.s x.f x.m).mono ?_; rintro e w1 ⟨rfl, hb1⟩; have A1 := Lib.hid ((fat_a w x imm off).below hb1); obtain ⟨j0, j1, j2, j3, j4⟩ := A1.out.cj; clear hb1)) | (go_at_call 13; have h := A3.out; refine (awake_any w3 (HS.out.below h.1)).mono ?_; rintro e w4 ⟨rfl, hb4⟩; have A4 := Lib.hid (h.below hb4); clear hb4 h))
    go_ret
    exact ⟨rfl, A4.out.1⟩
  · go_wp2_with (first | (go_at_call 8; first | (have h := A2.out; refine (enc_at w2 w2.heap.size rfl x.o x.d x.s off x.m).mono ?_; rintro e w3 ⟨rfl, hb3⟩; have A3 := Lib.hid (h.below hb3); clear hb3 h k0 k1 k2 k3 k4) | (have h := A1.out; refine (enc_at w1 w1.heap.size rfl x.o x.d x.s x.f imm).mono ?_; rintro e w2 ⟨rfl, hb2⟩; have A2 := Lib.hid (h.below hb2); clear hb2 h j0 j1 j2 j3 j4; obtain ⟨k0, k1, k2, k3, k4⟩ := A2.out.ck) | (refine (enc_at' (((w.alloc (.cells #[.int .i64 x.o, .int .i64 x.d, .int .i64 x.s, .int .i64 x.f, .int .i64 x.m] 37)).alloc (.cells #[.int .i64 x.o, .int .i64 x.d, .int .i64 x.s, .int .i64 off, .int .i64 x.m] 37)).alloc (.cells #[.int .i64 x.o, .int .i64 x.d, .int .i64 x.s, .int .i64 x.f, .int .i64 imm] 37)) (w.heap.size + 1 + 1 + 1) (by simp) x.o x.d x.s x.f x.m).mono ?_; rintro e w1 ⟨rfl, hb1⟩; have A1 := Lib.hid ((fat_b w x imm off).below hb1); obtain ⟨j0, j1, j2, j3, j4⟩ := A1.out.cj; clear hb1)) | (go_at_call 13; have h := A3.out; refine (awake_any w3 (HS.out.below h.1)).mono ?_; rintro e w4 ⟨rfl, hb4⟩; have A4 := Lib.hid (h.below hb4); clear hb4 h))
    go_ret
    exact ⟨rfl, A4.out.1⟩
end Go.Proofs.YtkopbjjpghbkoaaDoor
