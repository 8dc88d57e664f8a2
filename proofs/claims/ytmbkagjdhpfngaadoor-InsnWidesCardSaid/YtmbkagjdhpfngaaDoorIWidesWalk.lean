/-
  The law InsnWides, walked.
-/
import Derived.Test.YtmbkagjdhpfngaaDoorIEqPair
import Derived.Deep.RegionHeld3
namespace Go.Proofs.YtmbkagjdhpfngaaDoor
open Go Go.RowKit
set_option linter.unusedVariables false
def WdAt (w0 : World) (gi gx : Nat) (x : Slot) (d a b : Int) (w : World) : Prop := Below w0.heap.size w0 w ∧ gi < w.heap.size ∧ Cells5 w gi 0 x ∧ gx < w.heap.size ∧ Cells5 w gx 0 ⟨24, d, 0, 0, a⟩ ∧ Cells5 w gx 5 ⟨0, 0, 0, 0, b⟩
section
variable {w0 w w' : World} {gi gx : Nat} {x : Slot} {d a b : Int}
theorem WdAt.below (h : WdAt w0 gi gx x d a b w) (hb : Below w.heap.size w w') : WdAt w0 gi gx x d a b w' :=
  ⟨h.1.trans (hb.mono h.1.size), Nat.lt_of_lt_of_le h.2.1 hb.size, h.2.2.1.below hb h.2.1, Nat.lt_of_lt_of_le h.2.2.2.1 hb.size, h.2.2.2.2.1.below hb h.2.2.2.1, h.2.2.2.2.2.below hb h.2.2.2.1⟩
theorem WdAt.S (h : WdAt w0 gi gx x d a b w) : w.cell? ⟨gi, 0, none⟩ = some (.int .i64 (x.o)) ∧ w.cell? ⟨gi, 1, none⟩ = some (.int .i64 (x.d)) ∧ w.cell? ⟨gi, 2, none⟩ = some (.int .i64 (x.s)) ∧ w.cell? ⟨gi, 3, none⟩ = some (.int .i64 (x.f)) ∧ w.cell? ⟨gi, 4, none⟩ = some (.int .i64 (x.m)) ∧ w.cell? ⟨gx, 0, none⟩ = some (.int .i64 (24)) ∧ w.cell? ⟨gx, 1, none⟩ = some (.int .i64 (d)) ∧ w.cell? ⟨gx, 2, none⟩ = some (.int .i64 (0)) ∧ w.cell? ⟨gx, 3, none⟩ = some (.int .i64 (0)) ∧ w.cell? ⟨gx, 4, none⟩ = some (.int .i64 (a)) ∧ w.cell? ⟨gx, 5, none⟩ = some (.int .i64 (0)) ∧ w.cell? ⟨gx, 6, none⟩ = some (.int .i64 (0)) ∧ w.cell? ⟨gx, 7, none⟩ = some (.int .i64 (0)) ∧ w.cell? ⟨gx, 8, none⟩ = some (.int .i64 (0)) ∧ w.cell? ⟨gx, 9, none⟩ = some (.int .i64 (b)) := by
  obtain ⟨_, _, ⟨p0, p1, p2, p3, p4⟩, _, ⟨q0, q1, q2, q3, q4⟩, ⟨r0, r1, r2, r3, r4⟩⟩ := h
  exact ⟨p0, p1, p2, p3, p4, q0, q1, q2, q3, q4, r0, r1, r2, r3, r4⟩
end
set_option maxRecDepth 100000 in
set_option maxHeartbeats 2000000 in
theorem wides_walk (d n : Int) (x : Slot) (hn : 0 ≤ n ∧ n ≤ 18446744073709551615) (w : World) (hS : Sizes w) :
    Calls Tryd.prog 5 #[.int .i64 d, .int .u64 n, x.V] w fun e w' => e = .returned (.bool true) ∧ Below w.heap.size w w' := by
  obtain ⟨a, ha⟩ : ∃ a, wrap32 n = a := ⟨_, rfl⟩
  obtain ⟨b, hb⟩ : ∃ b, wrap32 (n / 4294967296) = b := ⟨_, rfl⟩
  have hN : wideN a b = n := by
    rw [← ha, ← hb]
    unfold wideN wrap32
    omega
  have HS := Lib.hid hS
  have CA := Lib.hid (lay_any d n hn)
  have CL := Lib.hid (rlay_any d n hn)
  have CI := Lib.hid (imm_any 24 d 0 0 a 0 0 0 0 b)
  have CJ := Lib.hid (imm_any x.o x.d x.s x.f x.m 24 d 0 0 a)
  have CK := Lib.hid (rimm_any x.o x.d x.s x.f x.m 24 d 0 0 a)
  have CW := Lib.hid (wide_any 24 d 0 0 a)
  have CV := Lib.hid (wide_any x.o x.d x.s x.f x.m)
  have CC := Lib.hid (class_any x.o x.d x.s x.f x.m)
  have CD := Lib.hid (rclass_any x.o x.d x.s x.f x.m)
  have CS := Lib.hid (size_any x.o x.d x.s x.f x.m)
  have CT := Lib.hid (rsize_any x.o x.d x.s x.f x.m)
  have CZ := Lib.hid awake_any
  unfold layV at CA CL
  rw [ha, hb] at CA CL
  rw [hN] at CI
  clear hS ha hb hN hn
  unfold insV at CI CJ CK CW CV CC CD CS CT
  unfold Slot.V insV
  generalize wideN x.m a = z1 at CJ CK
  generalize sizeV x.o = z2 at CS CT
  generalize x.o % 8 = z3 at CC CD
  obtain ⟨z4, hz4⟩ : ∃ z, (x.o == 24) = z := ⟨_, rfl⟩
  rw [hz4] at CV
  have B0 : Hid (Below w.heap.size w (w.alloc (.cells #[.int .i64 x.o, .int .i64 x.d, .int .i64 x.s, .int .i64 x.f, .int .i64 x.m] 37))) := (Below.refl _ w).alloc (Nat.le_refl _) _
  have HEQ := eq_pair 24 d 0 0 a 0 0 0 0 b
  go_enter Tryd.func5, Tryd.ntmps5
  go_wp2_with (go_at_call 14; refine (CA.out _).mono ?_; rintro e w1 ⟨rfl, hb1⟩; have B1 := Lib.hid hb1; clear hb1)
  have h1 : WdAt w w.heap.size w1.heap.size x d a b (w1.alloc (.cells #[.int .i64 24, .int .i64 d, .int .i64 0, .int .i64 0, .int .i64 a, .int .i64 0, .int .i64 0, .int .i64 0, .int .i64 0, .int .i64 b] 38)).drew := by
    have hz := B1.out.size
    have hb : Below w.heap.size w w1 := B0.out.trans (B1.out.mono B0.out.size)
    have h5 : Cells5 w1 w.heap.size 0 x := (Cells5.new w x 37).below B1.out (by simp)
    have hlt : w.heap.size < w1.heap.size := by simp at hz; omega
    exact ⟨(hb.alloc hb.size _).drew, by simp [World.drew]; omega, h5.below (((Below.refl _ w1).alloc (Nat.le_refl _) _).drew) hlt, by simp [World.drew], ⟨(Blk.new w1 _ _).cell 0, (Blk.new w1 _ _).cell 1, (Blk.new w1 _ _).cell 2, (Blk.new w1 _ _).cell 3, (Blk.new w1 _ _).cell 4⟩, ⟨(Blk.new w1 _ _).cell 5, (Blk.new w1 _ _).cell 6, (Blk.new w1 _ _).cell 7, (Blk.new w1 _ _).cell 8, (Blk.new w1 _ _).cell 9⟩⟩
  have A1 := Lib.hid h1
  have F1 := Lib.hid h1.S
  clear h1 B0 B1
  go_region_held3 (fun W => W.cell? ⟨w.heap.size, 0, none⟩ = some (.int .i64 (x.o)) ∧ W.cell? ⟨w.heap.size, 1, none⟩ = some (.int .i64 (x.d)) ∧ W.cell? ⟨w.heap.size, 2, none⟩ = some (.int .i64 (x.s)) ∧ W.cell? ⟨w.heap.size, 3, none⟩ = some (.int .i64 (x.f)) ∧ W.cell? ⟨w.heap.size, 4, none⟩ = some (.int .i64 (x.m)) ∧ W.cell? ⟨w1.heap.size, 0, none⟩ = some (.int .i64 (24)) ∧ W.cell? ⟨w1.heap.size, 1, none⟩ = some (.int .i64 (d)) ∧ W.cell? ⟨w1.heap.size, 2, none⟩ = some (.int .i64 (0)) ∧ W.cell? ⟨w1.heap.size, 3, none⟩ = some (.int .i64 (0)) ∧ W.cell? ⟨w1.heap.size, 4, none⟩ = some (.int .i64 (a)) ∧ W.cell? ⟨w1.heap.size, 5, none⟩ = some (.int .i64 (0)) ∧ W.cell? ⟨w1.heap.size, 6, none⟩ = some (.int .i64 (0)) ∧ W.cell? ⟨w1.heap.size, 7, none⟩ = some (.int .i64 (0)) ∧ W.cell? ⟨w1.heap.size, 8, none⟩ = some (.int .i64 (0)) ∧ W.cell? ⟨w1.heap.size, 9, none⟩ = some (.int .i64 (b)))
      (first | exact F12.out | exact F11.out | exact F10.out | exact F9.out | exact F8.out | exact F7.out | exact F6.out | exact F5.out | exact F4.out | exact F3.out | exact F2.out | exact F1.out)
      (first
        | (go_at_call 15; (have h := A1.out; refine (CL.out _).mono ?_; rintro e w2 ⟨rfl, hb⟩; have A2 := Lib.hid (h.below hb); have F2 := Lib.hid (A2.out.S); clear hb h))
        | (go_at_call 16; first | (have h := A9.out; refine (CJ.out _).mono ?_; rintro e w10 ⟨rfl, hb⟩; have A10 := Lib.hid (h.below hb); have F10 := Lib.hid (A10.out.S); clear hb h) | (have h := A2.out; refine (CI.out _).mono ?_; rintro e w3 ⟨rfl, hb⟩; have A3 := Lib.hid (h.below hb); have F3 := Lib.hid (A3.out.S); clear hb h))
        | (go_at_call 17; first | (have h := A4.out; refine (CV.out _).mono ?_; rintro e w5 ⟨rfl, hb⟩; have A5 := Lib.hid (h.below hb); have F5 := Lib.hid (A5.out.S); clear hb h) | (have h := A3.out; refine (CW.out _).mono ?_; rintro e w4 ⟨rfl, hb⟩; have A4 := Lib.hid (h.below hb); have F4 := Lib.hid (A4.out.S); clear hb h))
        | (go_at_call 18; (have h := A5.out; refine (CC.out _).mono ?_; rintro e w6 ⟨rfl, hb⟩; have A6 := Lib.hid (h.below hb); have F6 := Lib.hid (A6.out.S); clear hb h))
        | (go_at_call 19; (have h := A6.out; refine (CD.out _).mono ?_; rintro e w7 ⟨rfl, hb⟩; have A7 := Lib.hid (h.below hb); have F7 := Lib.hid (A7.out.S); clear hb h))
        | (go_at_call 20; (have h := A7.out; refine (CS.out _ (HS.out.below h.1)).mono ?_; rintro e w8 ⟨rfl, hb⟩; have A8 := Lib.hid (h.below hb); have F8 := Lib.hid (A8.out.S); clear hb h))
        | (go_at_call 21; (have h := A8.out; refine (CT.out _).mono ?_; rintro e w9 ⟨rfl, hb⟩; have A9 := Lib.hid (h.below hb); have F9 := Lib.hid (A9.out.S); clear hb h))
        | (go_at_call 22; (have h := A10.out; refine (CK.out _).mono ?_; rintro e w11 ⟨rfl, hb⟩; have A11 := Lib.hid (h.below hb); have F11 := Lib.hid (A11.out.S); clear hb h))
        | (go_at_call 13; (have h := A11.out; refine (CZ.out _ (HS.out.below h.1)).mono ?_; rintro e w12 ⟨rfl, hb⟩; have A12 := Lib.hid (h.below hb); have F12 := Lib.hid (A12.out.S); clear hb h)))
  go_wp2_with fail
  go_ret
  exact ⟨rfl, A12.out.1⟩
end Go.Proofs.YtmbkagjdhpfngaaDoor
