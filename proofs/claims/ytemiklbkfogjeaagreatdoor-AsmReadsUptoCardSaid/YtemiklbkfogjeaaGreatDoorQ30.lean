/-
  The reference's right sides, guessed: what stands behind, of four words. The reference's right sides, guessed, whole. The reference's trim.
-/
import Derived.Test.YtemiklbkfogjeaaGreatDoorQ29
import Derived.Test.YtemiklbkfogjeaaGreatDoorQ26
namespace Go.Proofs.YtemiklbkfogjeaaGreatDoor
open Go Go.RowKit Go.Maps
set_option linter.unusedVariables false
set_option linter.unusedSimpArgs false
set_option maxRecDepth 100000
set_option maxHeartbeats 8000000 in
theorem sides_tail4 (b o c n : Nat) (w0 w1 w2 : ByteArray) (r : List ByteArray) (hn : n = r.length + 3) (hc : n ≤ c) (hc2 : c ≤ 9223372036854775807) (lead : UInt8) (cl : Int) (hcl : 0 ≤ cl ∧ cl ≤ 7) (w : World) (hA : StrsAt w (some ⟨b, o, none⟩) (w0 :: w1 :: w2 :: r)) (hb : b < w.heap.size)
  {d : Int} {b1 : Bool} {h1 : ByteArray} {e1 fi : Int} (sc : SC w0 w2 lead d b1 h1 e1 fi) {t8 t16 t32 : ByteArray} {b8 b16 b32 : Bool} {g8 g16 g32 : ByteArray} {v8 v16 v32 q1 q2 : Int} {q3 : Bool} (st : ST w2 lead t8 t16 t32 b8 b16 b32 g8 g16 g32 v8 v16 v32 q1 q2 q3) (h4 : r.length = 1) (hfi : fi = -1) :
  Calls Tryz.prog 35 #[.slice (some ⟨b, o, none⟩) n c, .int .u8 (lead.toNat : Int), .int .i64 cl] w (SaysI w (tailS d cl b8 b16 b32 v8 v16 v32 q1 q2 q3)) := by
 have C0 := Lib.hid sc.c0
 have CH := Lib.hid sc.ch
 have C1 := Lib.hid sc.c1
 have CF := Lib.hid sc.cf
 have c0 : (w.alloc (.cells #[.int .i64 0, .int .i64 0, .int .i64 0, .int .i64 0, .int .i64 0] 38)).cell? ⟨b, o, none⟩ = some (.string w0) := by
  obtain ⟨b', o', e, h1, h2⟩ := (hA.below (newI_below w)) 0 w0 rfl
  cases e; exact h2
 have S0 := Lib.hid (SA.start hA hb (176 + cl) d)
 have a1 : IntKind.i64.wrap (176 + cl) = 176 + cl := IntWalk.i64_in _ (by omega)
 have a2 : IntKind.i64.wrap (128 + cl) = 128 + cl := IntWalk.i64_in _ (by omega)
 have i0 : (0 : Int) < (n : Int) := by omega
 have i2 : (2 : Int) < (n : Int) := by omega
 have ST1 := Lib.hid st
 have a3 : IntKind.i64.wrap (184 + cl) = 184 + cl := IntWalk.i64_in _ (by omega)
 have a4 : IntKind.i64.wrap (176 + cl + 8) = 176 + cl + 8 := IntWalk.i64_in _ (by omega)
 have J2 : Hid (2 < n) := by unfold Hid; omega
 have n3 : ((n : Int) == 3) = false := by simp; omega
 have n3' : (n == 3) = false := by simp; omega
 have n4 : ((n : Int) == 4) = true := by simp; omega
 have n4' : (n == 4) = true := by simp; omega
 have n6 : ((n : Int) == 6) = false := by simp; omega
 have n6' : (n == 6) = false := by simp; omega
 subst hfi
 clear h4
 clear st
 clear sc hA hb hn
 go_enter Tryz.func35, Tryz.ntmps35
 go_upto_region 3 with (go_at_call 34; refine (C0.out _).mono ?_; rintro e w1 ⟨rfl, rfl⟩)
 obtain ⟨W2, hW2⟩ : ∃ W2, ((w.alloc (.cells #[.int .i64 0, .int .i64 0, .int .i64 0, .int .i64 0, .int .i64 0] 38)).alloc (.cells #[.int .i64 (176 + cl), .int .i64 d, .int .i64 0, .int .i64 0, .int .i64 0] 38)) = W2 := ⟨_, rfl⟩
 rw [hW2] at S0 ⊢
 clear hW2 c0
 have q2 : W2.cell? ⟨b, o + 2, none⟩ = some (.string w2) := S0.out.word 2 w2 rfl
 have S2 := Lib.hid (S0.out.grow (below_alloc' W2 (.cells #[.string ⟨#[108, 101, 49, 54]⟩, .string ⟨#[108, 101, 51, 50]⟩, .string ⟨#[108, 101, 54, 52]⟩, .string ⟨#[98, 101, 49, 54]⟩, .string ⟨#[98, 101, 51, 50]⟩, .string ⟨#[98, 101, 54, 52]⟩, .string ⟨#[98, 115, 119, 97, 112, 49, 54]⟩, .string ⟨#[98, 115, 119, 97, 112, 51, 50]⟩, .string ⟨#[98, 115, 119, 97, 112, 54, 52]⟩] 9)))
 have q3 : (W2.alloc (.cells #[.string ⟨#[108, 101, 49, 54]⟩, .string ⟨#[108, 101, 51, 50]⟩, .string ⟨#[108, 101, 54, 52]⟩, .string ⟨#[98, 101, 49, 54]⟩, .string ⟨#[98, 101, 51, 50]⟩, .string ⟨#[98, 101, 54, 52]⟩, .string ⟨#[98, 115, 119, 97, 112, 49, 54]⟩, .string ⟨#[98, 115, 119, 97, 112, 51, 50]⟩, .string ⟨#[98, 115, 119, 97, 112, 54, 52]⟩] 9)).cell? ⟨b, o + 2, none⟩ = some (.string w2) := S2.out.word 2 w2 rfl
 cases b1
 all_goals
  go_upto_region 17 with (first
   | (go_at_call 36; refine (CH.out _).mono ?_; rintro e w1 ⟨rfl, rfl⟩)
   | (go_at_call 37; refine (CF.out _).mono ?_; rintro e w3 ⟨rfl, rfl⟩))
  obtain ⟨W3, hW3⟩ : ∃ W3, (W2.alloc (.cells #[.string ⟨#[108, 101, 49, 54]⟩, .string ⟨#[108, 101, 51, 50]⟩, .string ⟨#[108, 101, 54, 52]⟩, .string ⟨#[98, 101, 49, 54]⟩, .string ⟨#[98, 101, 51, 50]⟩, .string ⟨#[98, 101, 54, 52]⟩, .string ⟨#[98, 115, 119, 97, 112, 49, 54]⟩, .string ⟨#[98, 115, 119, 97, 112, 51, 50]⟩, .string ⟨#[98, 115, 119, 97, 112, 54, 52]⟩] 9)) = W3 := ⟨_, rfl⟩
  rw [hW3] at S2 ⊢
  have S9 := S2
  clear S0 q2 q3 S2 hW3
  go_wp2_with fail
  have ST0 := ST1
  go_loopw [18] (fun v wr => ∃ i : Int, v = .int .i64 i ∧ (i = 8 ∨ (i = 16 ∧ b8 = false) ∨ (i = 32 ∧ b8 = false ∧ b16 = false) ∨ (i = 64 ∧ b8 = false ∧ b16 = false ∧ b32 = false)) ∧ SA w b o (w0 :: w1 :: w2 :: r) (176 + cl) d wr) (fun v _ => (64 - intOf v).toNat)
  case atStart => exact ⟨8, rfl, .inl rfl, S9.out⟩
  case round =>
   obtain ⟨i, rfl, hi, hs⟩ := hrel
   have S3 := Lib.hid hs
   clear hs S9
   rcases hi with rfl | ⟨rfl, rfl⟩ | ⟨rfl, rfl, rfl⟩ | ⟨rfl, rfl, rfl, rfl⟩
   ·cases b8
    ·have PA := Lib.hid (fun W => cat_run (P := Tryz.prog) (a := ⟨#[40, 115]⟩) (b := t8) (x := 2) (y := 2) (by decide) ST0.out.s8 (by decide) W)
     have PB := Lib.hid (fun W => cat_run (P := Tryz.prog) (a := (⟨#[40, 115]⟩ : ByteArray) ++ t8) (b := ⟨#[41]⟩) (x := 4) (y := 1) (by rw [ByteArray.size_append, show (⟨#[40, 115]⟩ : ByteArray).size = 2 from rfl]; have := ST0.out.s8; omega) (by decide) (by decide) W)
     have pa := PA.out
     have pb := PB.out
     have K0 : Hid (wr.drew.cell? ⟨b, o + 2, none⟩ = some (.string w2)) := S3.out.word 2 w2 rfl
     go_wp2_with fail
     have j2 : 2 < n := J2.out
     go_region_held3 (fun W' => W'.cell? ⟨b, o + 2, none⟩ = some (.string w2))
      (first | with_reducible exact K0.out | with_reducible exact K1.out)
      (first | (go_at_call 44; refine (ST0.out.d8 _).mono ?_; rintro e' w3 ⟨rfl, hb3⟩; have S4 := Lib.hid (S3.out.grow (below_undrew' hb3)); clear hb3; have K1 : Hid (w3.cell? ⟨b, o + 2, none⟩ = some (.string w2)) := S4.out.word 2 w2 rfl) | (go_at_call 36; refine (ST0.out.h8 _).mono ?_; rintro e' w4 ⟨rfl, rfl⟩))
     go_wp2_with fail
     exact ⟨⟨16, rfl, .inr (.inl ⟨rfl, by first | rfl | trivial⟩), S4.out⟩, by decide⟩
    ·have PA := Lib.hid (fun W => cat_run (P := Tryz.prog) (a := ⟨#[40, 115]⟩) (b := t8) (x := 2) (y := 2) (by decide) ST0.out.s8 (by decide) W)
     have PB := Lib.hid (fun W => cat_run (P := Tryz.prog) (a := (⟨#[40, 115]⟩ : ByteArray) ++ t8) (b := ⟨#[41]⟩) (x := 4) (y := 1) (by rw [ByteArray.size_append, show (⟨#[40, 115]⟩ : ByteArray).size = 2 from rfl]; have := ST0.out.s8; omega) (by decide) (by decide) W)
     have pa := PA.out
     have pb := PB.out
     have K0 : Hid (wr.drew.cell? ⟨b, o + 2, none⟩ = some (.string w2)) := S3.out.word 2 w2 rfl
     go_wp2_with fail
     have j2 : 2 < n := J2.out
     go_region_held3 (fun W' => W'.cell? ⟨b, o + 2, none⟩ = some (.string w2))
      (first | with_reducible exact K0.out | with_reducible exact K1.out)
      (first | (go_at_call 44; refine (ST0.out.d8 _).mono ?_; rintro e' w3 ⟨rfl, hb3⟩; have S4 := Lib.hid (S3.out.grow (below_undrew' hb3)); clear hb3; have K1 : Hid (w3.cell? ⟨b, o + 2, none⟩ = some (.string w2)) := S4.out.word 2 w2 rfl) | (go_at_call 36; refine (ST0.out.h8 _).mono ?_; rintro e' w4 ⟨rfl, rfl⟩))
     have z0 := S4.out.res.frozen 0
     have z1 := S4.out.res.frozen 1
     have z2 := S4.out.res.frozen 2
     have z3 := S4.out.res.frozen 3
     have z4 := S4.out.res.frozen 4
     have k0 := S4.out.res.cell 0
     have k1 := S4.out.res.cell 1
     have k2 := S4.out.res.cell 2
     have k3 := S4.out.res.cell 3
     have k4 := S4.out.res.cell 4
     go_wp2_with (go_at_call 34; refine (ST0.out.r8 _).mono ?_; rintro e w5 ⟨rfl, rfl⟩)
     refine bodyPost_ret (results_cell_row rfl _ _ w.heap.size isT' _ (0, 0) _ rfl (own_five (Nat.le_refl _) S4.out.below S4.out.res _ _ _ _ _).2 Tryz.underlying38 rfl (by kernel_rfl)) rfl ?_
     exact ⟨rfl, (own_five (Nat.le_refl _) S4.out.below S4.out.res _ _ _ _ _).1⟩
   ·cases b16
    ·have PA := Lib.hid (fun W => cat_run (P := Tryz.prog) (a := ⟨#[40, 115]⟩) (b := t16) (x := 2) (y := 2) (by decide) ST0.out.s16 (by decide) W)
     have PB := Lib.hid (fun W => cat_run (P := Tryz.prog) (a := (⟨#[40, 115]⟩ : ByteArray) ++ t16) (b := ⟨#[41]⟩) (x := 4) (y := 1) (by rw [ByteArray.size_append, show (⟨#[40, 115]⟩ : ByteArray).size = 2 from rfl]; have := ST0.out.s16; omega) (by decide) (by decide) W)
     have pa := PA.out
     have pb := PB.out
     have K0 : Hid (wr.drew.cell? ⟨b, o + 2, none⟩ = some (.string w2)) := S3.out.word 2 w2 rfl
     go_wp2_with fail
     have j2 : 2 < n := J2.out
     go_region_held3 (fun W' => W'.cell? ⟨b, o + 2, none⟩ = some (.string w2))
      (first | with_reducible exact K0.out | with_reducible exact K1.out)
      (first | (go_at_call 44; refine (ST0.out.d16 _).mono ?_; rintro e' w3 ⟨rfl, hb3⟩; have S4 := Lib.hid (S3.out.grow (below_undrew' hb3)); clear hb3; have K1 : Hid (w3.cell? ⟨b, o + 2, none⟩ = some (.string w2)) := S4.out.word 2 w2 rfl) | (go_at_call 36; refine (ST0.out.h16 _).mono ?_; rintro e' w4 ⟨rfl, rfl⟩))
     go_wp2_with fail
     exact ⟨⟨32, rfl, .inr (.inr (.inl ⟨rfl, by first | rfl | trivial, by first | rfl | trivial⟩)), S4.out⟩, by decide⟩
    ·have PA := Lib.hid (fun W => cat_run (P := Tryz.prog) (a := ⟨#[40, 115]⟩) (b := t16) (x := 2) (y := 2) (by decide) ST0.out.s16 (by decide) W)
     have PB := Lib.hid (fun W => cat_run (P := Tryz.prog) (a := (⟨#[40, 115]⟩ : ByteArray) ++ t16) (b := ⟨#[41]⟩) (x := 4) (y := 1) (by rw [ByteArray.size_append, show (⟨#[40, 115]⟩ : ByteArray).size = 2 from rfl]; have := ST0.out.s16; omega) (by decide) (by decide) W)
     have pa := PA.out
     have pb := PB.out
     have K0 : Hid (wr.drew.cell? ⟨b, o + 2, none⟩ = some (.string w2)) := S3.out.word 2 w2 rfl
     go_wp2_with fail
     have j2 : 2 < n := J2.out
     go_region_held3 (fun W' => W'.cell? ⟨b, o + 2, none⟩ = some (.string w2))
      (first | with_reducible exact K0.out | with_reducible exact K1.out)
      (first | (go_at_call 44; refine (ST0.out.d16 _).mono ?_; rintro e' w3 ⟨rfl, hb3⟩; have S4 := Lib.hid (S3.out.grow (below_undrew' hb3)); clear hb3; have K1 : Hid (w3.cell? ⟨b, o + 2, none⟩ = some (.string w2)) := S4.out.word 2 w2 rfl) | (go_at_call 36; refine (ST0.out.h16 _).mono ?_; rintro e' w4 ⟨rfl, rfl⟩))
     have z0 := S4.out.res.frozen 0
     have z1 := S4.out.res.frozen 1
     have z2 := S4.out.res.frozen 2
     have z3 := S4.out.res.frozen 3
     have z4 := S4.out.res.frozen 4
     have k0 := S4.out.res.cell 0
     have k1 := S4.out.res.cell 1
     have k2 := S4.out.res.cell 2
     have k3 := S4.out.res.cell 3
     have k4 := S4.out.res.cell 4
     go_wp2_with (go_at_call 34; refine (ST0.out.r16 _).mono ?_; rintro e w5 ⟨rfl, rfl⟩)
     refine bodyPost_ret (results_cell_row rfl _ _ w.heap.size isT' _ (0, 0) _ rfl (own_five (Nat.le_refl _) S4.out.below S4.out.res _ _ _ _ _).2 Tryz.underlying38 rfl (by kernel_rfl)) rfl ?_
     exact ⟨rfl, (own_five (Nat.le_refl _) S4.out.below S4.out.res _ _ _ _ _).1⟩
   ·cases b32
    ·have PA := Lib.hid (fun W => cat_run (P := Tryz.prog) (a := ⟨#[40, 115]⟩) (b := t32) (x := 2) (y := 2) (by decide) ST0.out.s32 (by decide) W)
     have PB := Lib.hid (fun W => cat_run (P := Tryz.prog) (a := (⟨#[40, 115]⟩ : ByteArray) ++ t32) (b := ⟨#[41]⟩) (x := 4) (y := 1) (by rw [ByteArray.size_append, show (⟨#[40, 115]⟩ : ByteArray).size = 2 from rfl]; have := ST0.out.s32; omega) (by decide) (by decide) W)
     have pa := PA.out
     have pb := PB.out
     have K0 : Hid (wr.drew.cell? ⟨b, o + 2, none⟩ = some (.string w2)) := S3.out.word 2 w2 rfl
     go_wp2_with fail
     have j2 : 2 < n := J2.out
     go_region_held3 (fun W' => W'.cell? ⟨b, o + 2, none⟩ = some (.string w2))
      (first | with_reducible exact K0.out | with_reducible exact K1.out)
      (first | (go_at_call 44; refine (ST0.out.d32 _).mono ?_; rintro e' w3 ⟨rfl, hb3⟩; have S4 := Lib.hid (S3.out.grow (below_undrew' hb3)); clear hb3; have K1 : Hid (w3.cell? ⟨b, o + 2, none⟩ = some (.string w2)) := S4.out.word 2 w2 rfl) | (go_at_call 36; refine (ST0.out.h32 _).mono ?_; rintro e' w4 ⟨rfl, rfl⟩))
     go_wp2_with fail
     exact ⟨⟨64, rfl, .inr (.inr (.inr ⟨rfl, by first | rfl | trivial, by first | rfl | trivial, by first | rfl | trivial⟩)), S4.out⟩, by decide⟩
    ·have PA := Lib.hid (fun W => cat_run (P := Tryz.prog) (a := ⟨#[40, 115]⟩) (b := t32) (x := 2) (y := 2) (by decide) ST0.out.s32 (by decide) W)
     have PB := Lib.hid (fun W => cat_run (P := Tryz.prog) (a := (⟨#[40, 115]⟩ : ByteArray) ++ t32) (b := ⟨#[41]⟩) (x := 4) (y := 1) (by rw [ByteArray.size_append, show (⟨#[40, 115]⟩ : ByteArray).size = 2 from rfl]; have := ST0.out.s32; omega) (by decide) (by decide) W)
     have pa := PA.out
     have pb := PB.out
     have K0 : Hid (wr.drew.cell? ⟨b, o + 2, none⟩ = some (.string w2)) := S3.out.word 2 w2 rfl
     go_wp2_with fail
     have j2 : 2 < n := J2.out
     go_region_held3 (fun W' => W'.cell? ⟨b, o + 2, none⟩ = some (.string w2))
      (first | with_reducible exact K0.out | with_reducible exact K1.out)
      (first | (go_at_call 44; refine (ST0.out.d32 _).mono ?_; rintro e' w3 ⟨rfl, hb3⟩; have S4 := Lib.hid (S3.out.grow (below_undrew' hb3)); clear hb3; have K1 : Hid (w3.cell? ⟨b, o + 2, none⟩ = some (.string w2)) := S4.out.word 2 w2 rfl) | (go_at_call 36; refine (ST0.out.h32 _).mono ?_; rintro e' w4 ⟨rfl, rfl⟩))
     have z0 := S4.out.res.frozen 0
     have z1 := S4.out.res.frozen 1
     have z2 := S4.out.res.frozen 2
     have z3 := S4.out.res.frozen 3
     have z4 := S4.out.res.frozen 4
     have k0 := S4.out.res.cell 0
     have k1 := S4.out.res.cell 1
     have k2 := S4.out.res.cell 2
     have k3 := S4.out.res.cell 3
     have k4 := S4.out.res.cell 4
     go_wp2_with (go_at_call 34; refine (ST0.out.r32 _).mono ?_; rintro e w5 ⟨rfl, rfl⟩)
     refine bodyPost_ret (results_cell_row rfl _ _ w.heap.size isT' _ (0, 0) _ rfl (own_five (Nat.le_refl _) S4.out.below S4.out.res _ _ _ _ _).2 Tryz.underlying38 rfl (by kernel_rfl)) rfl ?_
     exact ⟨rfl, (own_five (Nat.le_refl _) S4.out.below S4.out.res _ _ _ _ _).1⟩
   ·have q3c : wr.cell? ⟨b, o + 2, none⟩ = some (.string w2) := S3.out.word 2 w2 rfl
    have z0 := S3.out.res.frozen 0
    have z1 := S3.out.res.frozen 1
    have z2 := S3.out.res.frozen 2
    have z3 := S3.out.res.frozen 3
    have z4 := S3.out.res.frozen 4
    have k0 := S3.out.res.cell 0
    have k1 := S3.out.res.cell 1
    have k2 := S3.out.res.cell 2
    have k3 := S3.out.res.cell 3
    have k4 := S3.out.res.cell 4
    have x0 := S3.out.x.cell 0
    have x1 := S3.out.x.cell 1
    have x2 := S3.out.x.cell 2
    have x3 := S3.out.x.cell 3
    have x4 := S3.out.x.cell 4
    have y0 := S3.out.x.frozen 0
    have y1 := S3.out.x.frozen 1
    have y2 := S3.out.x.frozen 2
    have y3 := S3.out.x.frozen 3
    have y4 := S3.out.x.frozen 4
    have hne : w.heap.size ≠ w.heap.size + 1 := by omega
    have hne' : w.heap.size + 1 ≠ w.heap.size := by omega
    cases q3
    ·go_wp2_with (go_at_call 38; refine (ST0.out.op _).mono ?_; rintro e w5 ⟨rfl, rfl⟩)
     refine bodyPost_ret (results_cell_row rfl _ _ w.heap.size isT' _ (0, 0) _ rfl (own_five (Nat.le_refl _) (S3.out.xset2 (.int .i64 q1) (.int .i64 q2)).1 (S3.out.xset2 (.int .i64 q1) (.int .i64 q2)).2 _ _ _ _ _).2 Tryz.underlying38 rfl (by kernel_rfl)) rfl ?_
     exact ⟨rfl, (own_five (Nat.le_refl _) (S3.out.xset2 (.int .i64 q1) (.int .i64 q2)).1 (S3.out.xset2 (.int .i64 q1) (.int .i64 q2)).2 _ _ _ _ _).1⟩
    ·go_wp2_with (go_at_call 38; refine (ST0.out.op _).mono ?_; rintro e w5 ⟨rfl, rfl⟩)
     refine bodyPost_ret (results_cell_row rfl _ _ w.heap.size isT' _ (0, 0) _ rfl (own_five (Nat.le_refl _) (S3.out.xset (.int .i64 (176 + cl + 8)) (.int .i64 q1) (.int .i64 q2)).1 (S3.out.xset (.int .i64 (176 + cl + 8)) (.int .i64 q1) (.int .i64 q2)).2 _ _ _ _ _).2 Tryz.underlying38 rfl (by kernel_rfl)) rfl ?_
     exact ⟨rfl, (own_five (Nat.le_refl _) (S3.out.xset (.int .i64 (176 + cl + 8)) (.int .i64 q1) (.int .i64 q2)).1 (S3.out.xset (.int .i64 (176 + cl + 8)) (.int .i64 q1) (.int .i64 q2)).2 _ _ _ _ _).1⟩
theorem sides04_any (b o c : Nat) (L : List ByteArray) (hn : 3 ≤ L.length) (hc : L.length ≤ c) (hc2 : c ≤ 9223372036854775807) (hs : ∀ x ∈ L, x.size ≤ 4611686018427387904) (lead : UInt8) (cl : Int) (hcl : 0 ≤ cl ∧ cl ≤ 7) (w : World) (hA : StrsAt w (some ⟨b, o, none⟩) L) (hb : b < w.heap.size) :
  Calls Tryz.prog 35 #[.slice (some ⟨b, o, none⟩) L.length c, .int .u8 (lead.toNat : Int), .int .i64 cl] w (SaysI w (sidesG L lead cl)) := by
 obtain ⟨w0, w1, w2, r, rfl⟩ := list_three hn
 have s0 := hs w0 (by simp)
 have s2 := hs w2 (by simp)
 have sc := sc_any w0 w2 lead s0 s2
 have st := st_any w2 lead s2
 have hlen : (w0 :: w1 :: w2 :: r).length = r.length + 3 := by simp
 by_cases h1 : begins w2 minT = true ∧ r.length = 0 ∧ regR (headR w2 minT) lead = regR w0 lead
 ·have e : sidesG (w0 :: w1 :: w2 :: r) lead cl = ⟨128 + cl, regR w0 lead, 0, 0, 0⟩ := if_pos h1
  rw [e]
  exact sides_minus b o c _ w0 w1 w2 r hlen hc hc2 lead cl hcl w hA hb sc h1.2.1 h1.1 h1.2.2
 by_cases h2 : r.length = 1 ∧ 0 ≤ findR w2 endsNames 0
 ·have e : sidesG (w0 :: w1 :: w2 :: r) lead cl = ⟨endOp (findR w2 endsNames 0), regR w0 lead, 0, 0, endBits (findR w2 endsNames 0)⟩ := (if_neg h1).trans (if_pos h2)
  rw [e]
  have hf : findR w2 endsNames 0 = 0 ∨ findR w2 endsNames 0 = 1 ∨ findR w2 endsNames 0 = 2 ∨ findR w2 endsNames 0 = 3 ∨ findR w2 endsNames 0 = 4 ∨ findR w2 endsNames 0 = 5 ∨ findR w2 endsNames 0 = 6 ∨ findR w2 endsNames 0 = 7 ∨ findR w2 endsNames 0 = 8 := by
   rcases findR_ways w2 endsNames 0 with h | ⟨j, hj, h⟩
   ·omega
   ·have : j < 9 := hj
    omega
  exact sides_turn b o c _ w0 w1 w2 r hlen hc hc2 lead cl hcl w hA hb sc h2.1 hf
 by_cases h3 : r.length = 3
 ·have e : sidesG (w0 :: w1 :: w2 :: r) lead cl = ⟨(if (atR (w2 :: r)).sign = true then 129 else 97) + (atR (w2 :: r)).size, regR w0 lead, (atR (w2 :: r)).reg, (atR (w2 :: r)).off, 0⟩ := (if_neg h1).trans ((if_neg h2).trans (if_pos h3))
  rw [e]
  refine sides_load b o c _ w0 w1 w2 r hlen hc hc2 lead cl hcl w hA hb sc (A := atR (w2 :: r)) (atR_le _).1 h3 (fun W hW => ?_)
  have e2 : (w0 :: w1 :: w2 :: r).length - 2 = (w2 :: r).length := by simp
  rw [e2]
  exact at04_any _ (c - 2) (w2 :: r) (fun x hx => hs x (List.mem_cons_of_mem _ (List.mem_cons_of_mem _ hx))) W (strs_tail (strs_tail hW))
 have e : sidesG (w0 :: w1 :: w2 :: r) lead cl = tailS (regR w0 lead) cl (begins w2 ext8) (begins w2 ext16) (begins w2 ext32) (regR (headR w2 ext8) lead) (regR (headR w2 ext16) lead) (regR (headR w2 ext32) lead) (opdR w2 lead).1 (opdR w2 lead).2.1 (opdR w2 lead).2.2 := (if_neg h1).trans ((if_neg h2).trans (if_neg h3))
 rw [e]
 by_cases h0 : r.length = 0
 ·cases hb1 : begins w2 minT with
  | false =>
   rw [hb1] at sc
   exact sides_tail3 b o c _ w0 w1 w2 r hlen hc hc2 lead cl hcl w hA hb sc st (.inl ⟨h0, .inl rfl⟩)
  | true =>
   have he : regR (headR w2 minT) lead ≠ regR w0 lead := fun he => h1 ⟨hb1, h0, he⟩
   rw [hb1] at sc
   exact sides_tail3 b o c _ w0 w1 w2 r hlen hc hc2 lead cl hcl w hA hb sc st (.inl ⟨h0, .inr ⟨rfl, he⟩⟩)
 by_cases h4 : r.length = 1
 ·have hf : findR w2 endsNames 0 = -1 := by
   rcases findR_ways w2 endsNames 0 with h | ⟨j, hj, h⟩
   ·exact h
   ·exact absurd ⟨h4, by omega⟩ h2
  exact sides_tail4 b o c _ w0 w1 w2 r hlen hc hc2 lead cl hcl w hA hb sc st h4 hf
 ·exact sides_tail3 b o c _ w0 w1 w2 r hlen hc hc2 lead cl hcl w hA hb sc st (.inr ⟨h0, h4, h3⟩)
def dropB : List UInt8 → List UInt8
 | [] => []
 | b :: r => if b = 32 then dropB r else b :: r
def frontR (s : ByteArray) : ByteArray := bstr (dropB s.data.toList)
def backR (s : ByteArray) : ByteArray := bstr (dropB s.data.toList.reverse).reverse
def trimR (s : ByteArray) : ByteArray := backR (frontR s)
theorem list_zero {s : ByteArray} (h : s.size = 0) : s.data.toList = [] := List.length_eq_zero_iff.1 (by rw [size_list]; exact h)
theorem list_head {s : ByteArray} (h : 0 < s.size) : s.data.toList = (s[0]'h) :: (tl1 s).data.toList := by
 have := drop_cons (s := s) (pos := 0) h
 rw [List.drop_zero] at this
 rw [this]
 unfold tl1
 rw [extract_list, List.take_of_length_le (by simp)]
theorem list_last {s : ByteArray} (q : Nat) (hq : q < s.size) (h : s.size = q + 1) : s.data.toList = (s.extract 0 q).data.toList ++ [s[q]'hq] := by
 have e := extract_snoc s 0 q (Nat.zero_le _) hq
 rw [← e, extract_list, List.drop_zero, List.take_of_length_le (by rw [size_list]; omega)]
theorem front_zero {s : ByteArray} (h : s.size = 0) : s = frontR s := by
 unfold frontR
 rw [list_zero h]
 apply ByteArray.ext
 exact Array.toList_inj.1 (list_zero h)
theorem front_stop {s : ByteArray} (h : 0 < s.size) (hb : (s[0]'h).toNat ≠ 32) : s = frontR s := by
 unfold frontR
 have e : dropB s.data.toList = s.data.toList := by
  rw [list_head h, dropB, if_neg (fun e => hb (by rw [e]; rfl))]
 rw [e, bstr_self]
theorem front_step {s : ByteArray} (h : 0 < s.size) (hb : (s[0]'h).toNat = 32) : frontR (tl1 s) = frontR s := by
 unfold frontR
 rw [list_head h, dropB, if_pos (UInt8.toNat_inj.1 hb)]
theorem back_zero {s : ByteArray} (h : s.size = 0) : s = backR s := by
 unfold backR
 rw [list_zero h]
 apply ByteArray.ext
 exact Array.toList_inj.1 (list_zero h)
theorem back_stop {s : ByteArray} (q : Nat) (hq : q < s.size) (h : s.size = q + 1) (hb : (s[q]'hq).toNat ≠ 32) : s = backR s := by
 unfold backR
 have e : dropB s.data.toList.reverse = s.data.toList.reverse := by
  rw [list_last q hq h, List.reverse_append, List.reverse_singleton, List.singleton_append, dropB, if_neg (fun e => hb (by rw [e]; rfl))]
 rw [e, List.reverse_reverse, bstr_self]
theorem back_step {s : ByteArray} (q : Nat) (hq : q < s.size) (h : s.size = q + 1) (hb : (s[q]'hq).toNat = 32) : backR (s.extract 0 q) = backR s := by
 unfold backR
 rw [list_last q hq h, List.reverse_append, List.reverse_singleton, List.singleton_append, dropB, if_pos (UInt8.toNat_inj.1 hb)]
def sizeV' : Value → Nat
 | .string s => s.size
 | _ => 0
theorem tl1_size {s : ByteArray} (h : 0 < s.size) : (tl1 s).size + 1 = s.size := by unfold tl1; rw [ByteArray.size_extract]; omega
set_option maxHeartbeats 4000000 in
theorem trim04_any (s : ByteArray) (hs : s.size ≤ 4611686018427387904) (w : World) :
  Calls Tryz.prog 10 #[.string s] w fun e w' => e = .returned (.string (trimR s)) ∧ w = w' := by
 go_enter Tryz.func10, Tryz.ntmps10
 go_wp2_with fail
 go_loopw [0] (fun t wr => ∃ x : ByteArray, wr = w ∧ t = .string x ∧ x.size ≤ 4611686018427387904 ∧ frontR x = frontR s) (fun t _ => sizeV' t)
 case atStart => exact ⟨s, rfl, rfl, hs, rfl⟩
 case round =>
  obtain ⟨x, rfl, rfl, hx, hf⟩ := hrel
  have HF := Lib.hid hf
  clear hf
  have hE := eq_nil x
  have hE1 := isEmpty_size x
  have second : ∀ y : ByteArray, y = frontR s → backR y = trimR s := fun y h => by rw [h]; rfl
  have HSEC := Lib.hid second
  clear second
  by_cases h0 : x.size = 0
  ·rw [decide_eq_true h0] at hE hE1
   have HB := Lib.hid (HSEC.out x ((front_zero h0).trans HF.out))
   clear HF HSEC h0
   go_wp2_with fail
   go_loopw [0] (fun t wr2 => ∃ y : ByteArray, wr2 = wr ∧ t = .string y ∧ y.size ≤ 4611686018427387904 ∧ backR y = trimR s) (fun t _ => sizeV' t)
   case atStart => exact ⟨x, (by first | rfl | trivial), (by first | rfl | trivial), hx, HB.out⟩
   case round =>
    clear hE hE1 hx
    obtain ⟨y, rfl, rfl, hy, hf⟩ := hrel
    have HF := Lib.hid hf
    clear hf HB
    have hE := eq_nil y
    have hE1 := isEmpty_size y
    by_cases h0 : y.size = 0
    ·rw [decide_eq_true h0] at hE hE1
     have HX := Lib.hid ((back_zero h0).trans HF.out)
     clear HF h0
     go_wp2_with fail
     go_ret
     exact ⟨by rw [← HX.out]; rfl, rfl⟩
    ·rw [decide_eq_false h0] at hE hE1
     obtain ⟨q, hq1⟩ : ∃ q, y.size = q + 1 := ⟨y.size - 1, by omega⟩
     have hq : q < y.size := by omega
     have e1 : IntKind.i64.wrap ((y.size : Int) - 1) = (q : Int) := by rw [IntWalk.i64_in _ (by omega)]; omega
     have e2 : (q : Int) ≤ (y.size : Int) := by omega
     have e3 : (q : Int) < (y.size : Int) := by omega
     have xq := fun w => idx_at y q hq w
     by_cases hb : (y[q]'hq).toNat = 32
     ·have HN := Lib.hid ((back_step q hq hq1 hb).trans HF.out)
      have HZ : Hid ((y.extract 0 q).size + 1 = y.size) := by unfold Hid; rw [ByteArray.size_extract]; omega
      have d1 : (((y[q]'hq).toNat : Int) == 32) = true := by rw [hb]; rfl
      have d2 : ((y[q]'hq).toNat == 32) = true := by rw [hb]; rfl
      clear HF h0 hb
      go_wp2_with fail
      go_roundw
      case rel => exact ⟨y.extract 0 q, (by first | rfl | trivial), (by first | rfl | trivial), by have := HZ.out; omega, HN.out⟩
      case measure => have := HZ.out; simp only [sizeV', Int.toNat_natCast]; omega
     ·have HX := Lib.hid ((back_stop q hq hq1 hb).trans HF.out)
      have d1 : (((y[q]'hq).toNat : Int) == 32) = false := by simp; omega
      have d2 : ((y[q]'hq).toNat == 32) = false := by simpa using hb
      clear HF h0 hb
      go_wp2_with fail
      go_ret
      exact ⟨by rw [← HX.out]; rfl, rfl⟩
  ·rw [decide_eq_false h0] at hE hE1
   have hpos : 0 < x.size := by omega
   have j1 : (1 : Int) ≤ (x.size : Int) := by omega
   have j0 : (0 : Int) < (x.size : Int) := by omega
   by_cases hb : (x[0]'hpos).toNat = 32
   ·have HN := Lib.hid ((front_step hpos hb).trans HF.out)
    have HZ := Lib.hid (tl1_size hpos)
    have x1 : ∀ w : World, (Instr.slice 9 (.string x) (some (.int .i64 1)) none none).run Tryz.prog w = .ok (.string (tl1 x)) w := fun w =>
     run_slice_string_l (P := Tryz.prog) (w := w) (t := 9) (s := x) Tryz.underlying9 .i64 1 (by omega) (by omega)
    have d1 : (((x[0]'hpos).toNat : Int) == 32) = true := by rw [hb]; rfl
    have d2 : ((x[0]'hpos).toNat == 32) = true := by rw [hb]; rfl
    clear HF HSEC h0 hb
    go_wp2_with fail
    go_roundw
    case rel => exact ⟨tl1 x, (by first | rfl | trivial), (by first | rfl | trivial), by have := HZ.out; omega, HN.out⟩
    case measure => have := HZ.out; simp only [sizeV']; omega
   ·have HB := Lib.hid (HSEC.out x ((front_stop hpos hb).trans HF.out))
    have d1 : (((x[0]'hpos).toNat : Int) == 32) = false := by simp; omega
    have d2 : ((x[0]'hpos).toNat == 32) = false := by simpa using hb
    clear HF HSEC h0 hb
    go_wp2_with fail
    go_loopw [0] (fun t wr2 => ∃ y : ByteArray, wr2 = wr ∧ t = .string y ∧ y.size ≤ 4611686018427387904 ∧ backR y = trimR s) (fun t _ => sizeV' t)
    case atStart => exact ⟨x, (by first | rfl | trivial), (by first | rfl | trivial), hx, HB.out⟩
    case round =>
     clear hE hE1 hx
     obtain ⟨y, rfl, rfl, hy, hf⟩ := hrel
     have HF := Lib.hid hf
     clear hf HB
     have hE := eq_nil y
     have hE1 := isEmpty_size y
     by_cases h0 : y.size = 0
     ·rw [decide_eq_true h0] at hE hE1
      have HX := Lib.hid ((back_zero h0).trans HF.out)
      clear HF h0
      go_wp2_with fail
      go_ret
      exact ⟨by rw [← HX.out]; rfl, rfl⟩
     ·rw [decide_eq_false h0] at hE hE1
      obtain ⟨q, hq1⟩ : ∃ q, y.size = q + 1 := ⟨y.size - 1, by omega⟩
      have hq : q < y.size := by omega
      have e1 : IntKind.i64.wrap ((y.size : Int) - 1) = (q : Int) := by rw [IntWalk.i64_in _ (by omega)]; omega
      have e2 : (q : Int) ≤ (y.size : Int) := by omega
      have e3 : (q : Int) < (y.size : Int) := by omega
      have xq := fun w => idx_at y q hq w
      by_cases hb : (y[q]'hq).toNat = 32
      ·have HN := Lib.hid ((back_step q hq hq1 hb).trans HF.out)
       have HZ : Hid ((y.extract 0 q).size + 1 = y.size) := by unfold Hid; rw [ByteArray.size_extract]; omega
       have d1 : (((y[q]'hq).toNat : Int) == 32) = true := by rw [hb]; rfl
       have d2 : ((y[q]'hq).toNat == 32) = true := by rw [hb]; rfl
       clear HF h0 hb
       go_wp2_with fail
       go_roundw
       case rel => exact ⟨y.extract 0 q, (by first | rfl | trivial), (by first | rfl | trivial), by have := HZ.out; omega, HN.out⟩
       case measure => have := HZ.out; simp only [sizeV', Int.toNat_natCast]; omega
      ·have HX := Lib.hid ((back_stop q hq hq1 hb).trans HF.out)
       have d1 : (((y[q]'hq).toNat : Int) == 32) = false := by simp; omega
       have d2 : ((y[q]'hq).toNat == 32) = false := by simpa using hb
       clear HF h0 hb
       go_wp2_with fail
       go_ret
       exact ⟨by rw [← HX.out]; rfl, rfl⟩
end Go.Proofs.YtemiklbkfogjeaaGreatDoor
