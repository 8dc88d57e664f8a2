/-
  The reference's right sides, guessed: what stands behind.
-/
import Derived.Test.YtemiklbkfogjeaaGreatDoorQ28
import Derived.Laws.Concat
namespace Go.Proofs.YtemiklbkfogjeaaGreatDoor
open Go Go.RowKit Go.Maps
set_option linter.unusedVariables false
set_option linter.unusedSimpArgs false
set_option maxRecDepth 100000
theorem cat_run {P : Program} {a b : ByteArray} {x y : Nat} (ha : a.size ≤ x) (hb : b.size ≤ y) (h : x + y ≤ 10000) (W : World) :
  (Op.stringOp .add a b).run P W = .ok (.string (a ++ b)) W := by
 exact run_string_add_sum W a b (by omega)
/-- The calls that the loop and what stands behind it make. -/
structure ST (w2 : ByteArray) (lead : UInt8) (t8 t16 t32 : ByteArray) (b8 b16 b32 : Bool) (g8 g16 g32 : ByteArray) (v8 v16 v32 : Int) (q1 q2 : Int) (q3 : Bool) : Prop where
 s8 : t8.size ≤ 2
 s16 : t16.size ≤ 2
 s32 : t32.size ≤ 2
 d8 : ∀ W, Calls Tryz.prog 44 #[.int .i64 8] W fun e w' => e = .returned (.string t8) ∧ Below W.heap.size W w'
 d16 : ∀ W, Calls Tryz.prog 44 #[.int .i64 16] W fun e w' => e = .returned (.string t16) ∧ Below W.heap.size W w'
 d32 : ∀ W, Calls Tryz.prog 44 #[.int .i64 32] W fun e w' => e = .returned (.string t32) ∧ Below W.heap.size W w'
 h8 : ∀ W, Calls Tryz.prog 36 #[.string w2, .string ((⟨#[40, 115]⟩ : ByteArray) ++ t8 ++ ⟨#[41]⟩)] W fun e w' => e = .returned (.tuple #[.string g8, .bool b8]) ∧ W = w'
 h16 : ∀ W, Calls Tryz.prog 36 #[.string w2, .string ((⟨#[40, 115]⟩ : ByteArray) ++ t16 ++ ⟨#[41]⟩)] W fun e w' => e = .returned (.tuple #[.string g16, .bool b16]) ∧ W = w'
 h32 : ∀ W, Calls Tryz.prog 36 #[.string w2, .string ((⟨#[40, 115]⟩ : ByteArray) ++ t32 ++ ⟨#[41]⟩)] W fun e w' => e = .returned (.tuple #[.string g32, .bool b32]) ∧ W = w'
 r8 : ∀ W, Calls Tryz.prog 34 #[.string g8, .int .u8 (lead.toNat : Int)] W fun e w' => e = .returned (.int .i64 v8) ∧ W = w'
 r16 : ∀ W, Calls Tryz.prog 34 #[.string g16, .int .u8 (lead.toNat : Int)] W fun e w' => e = .returned (.int .i64 v16) ∧ W = w'
 r32 : ∀ W, Calls Tryz.prog 34 #[.string g32, .int .u8 (lead.toNat : Int)] W fun e w' => e = .returned (.int .i64 v32) ∧ W = w'
 op : ∀ W, Calls Tryz.prog 38 #[.string w2, .int .u8 (lead.toNat : Int)] W fun e w' => e = .returned (.tuple #[.int .i64 q1, .int .i64 q2, .bool q3]) ∧ W = w'
theorem dig8 : tx (Ln.digL 8) = ⟨#[56]⟩ := by rw [show Ln.digL 8 = [56] by (unfold Ln.digL; rw [if_neg (by decide), decL_lt (by decide)]; rfl)]; rfl
theorem dig16 : tx (Ln.digL 16) = ⟨#[49, 54]⟩ := by rw [show Ln.digL 16 = [49, 54] by (unfold Ln.digL; rw [if_neg (by decide), decL_ge (by decide), decL_lt (by decide)]; rfl)]; rfl
theorem dig32 : tx (Ln.digL 32) = ⟨#[51, 50]⟩ := by rw [show Ln.digL 32 = [51, 50] by (unfold Ln.digL; rw [if_neg (by decide), decL_ge (by decide), decL_lt (by decide)]; rfl)]; rfl
theorem st_any (w2 : ByteArray) (lead : UInt8) (h2 : w2.size ≤ 4611686018427387904) : ST w2 lead ⟨#[56]⟩ ⟨#[49, 54]⟩ ⟨#[51, 50]⟩ (begins w2 ext8) (begins w2 ext16) (begins w2 ext32) (headR w2 ext8) (headR w2 ext16) (headR w2 ext32) (regR (headR w2 ext8) lead) (regR (headR w2 ext16) lead) (regR (headR w2 ext32) lead) (opdR w2 lead).1 (opdR w2 lead).2.1 (opdR w2 lead).2.2 where
 s8 := by decide
 s16 := by decide
 s32 := by decide
 d8 W := (Ln.digits_any 8 (by decide) W).mono fun e w' h => ⟨by rw [h.1, dig8], h.2⟩
 d16 W := (Ln.digits_any 16 (by decide) W).mono fun e w' h => ⟨by rw [h.1, dig16], h.2⟩
 d32 W := (Ln.digits_any 32 (by decide) W).mono fun e w' h => ⟨by rw [h.1, dig32], h.2⟩
 h8 W := by
  rw [show ((⟨#[40, 115]⟩ : ByteArray) ++ ⟨#[56]⟩ ++ ⟨#[41]⟩) = ext8 by rfl]
  exact head04_any w2 ext8 h2 (by decide) W
 h16 W := by
  rw [show ((⟨#[40, 115]⟩ : ByteArray) ++ ⟨#[49, 54]⟩ ++ ⟨#[41]⟩) = ext16 by rfl]
  exact head04_any w2 ext16 h2 (by decide) W
 h32 W := by
  rw [show ((⟨#[40, 115]⟩ : ByteArray) ++ ⟨#[51, 50]⟩ ++ ⟨#[41]⟩) = ext32 by rfl]
  exact head04_any w2 ext32 h2 (by decide) W
 r8 W := regOf04_any _ lead (Nat.le_trans (headR_le _ _) h2) W
 r16 W := regOf04_any _ lead (Nat.le_trans (headR_le _ _) h2) W
 r32 W := regOf04_any _ lead (Nat.le_trans (headR_le _ _) h2) W
 op W := operand04_any w2 lead h2 W
def tailS (d cl : Int) (b8 b16 b32 : Bool) (v8 v16 v32 q1 q2 : Int) (q3 : Bool) : Slot :=
 if b8 = true then ⟨184 + cl, d, v8, 8, 0⟩ else if b16 = true then ⟨184 + cl, d, v16, 16, 0⟩ else if b32 = true then ⟨184 + cl, d, v32, 32, 0⟩ else ⟨if q3 = true then 176 + cl + 8 else 176 + cl, d, q1, 0, q2⟩
theorem below_undrew' {w w1 : World} (h : Below w.drew.heap.size w.drew w1) : Below w.heap.size w w1 := ⟨h.os, h.tape, h.output, h.size, h.block⟩
/-- Behind the slot x was turned. -/
theorem SA.xset {w : World} {b o : Nat} {L : List ByteArray} {p d : Int} {wr : World} (h : SA w b o L p d wr) (a0 a2 a4 : Value) :
  Below w.heap.size w (((wr.setCell ⟨w.heap.size + 1, 0, none⟩ a0).setCell ⟨w.heap.size + 1, 2, none⟩ a2).setCell ⟨w.heap.size + 1, 4, none⟩ a4) ∧ Blk (((wr.setCell ⟨w.heap.size + 1, 0, none⟩ a0).setCell ⟨w.heap.size + 1, 2, none⟩ a2).setCell ⟨w.heap.size + 1, 4, none⟩ a4) w.heap.size isT' #[.int .i64 0, .int .i64 0, .int .i64 0, .int .i64 0, .int .i64 0] := by
 have hne : w.heap.size ≠ w.heap.size + 1 := by omega
 exact ⟨((h.below.setCell (p := ⟨w.heap.size + 1, 0, none⟩) (Nat.le_succ _) a0).setCell (p := ⟨w.heap.size + 1, 2, none⟩) (Nat.le_succ _) a2).setCell (p := ⟨w.heap.size + 1, 4, none⟩) (Nat.le_succ _) a4, ((h.res.far hne a0).far hne a2).far hne a4⟩
theorem SA.xset2 {w : World} {b o : Nat} {L : List ByteArray} {p d : Int} {wr : World} (h : SA w b o L p d wr) (a2 a4 : Value) :
  Below w.heap.size w ((wr.setCell ⟨w.heap.size + 1, 2, none⟩ a2).setCell ⟨w.heap.size + 1, 4, none⟩ a4) ∧ Blk ((wr.setCell ⟨w.heap.size + 1, 2, none⟩ a2).setCell ⟨w.heap.size + 1, 4, none⟩ a4) w.heap.size isT' #[.int .i64 0, .int .i64 0, .int .i64 0, .int .i64 0, .int .i64 0] := by
 have hne : w.heap.size ≠ w.heap.size + 1 := by omega
 exact ⟨(h.below.setCell (p := ⟨w.heap.size + 1, 2, none⟩) (Nat.le_succ _) a2).setCell (p := ⟨w.heap.size + 1, 4, none⟩) (Nat.le_succ _) a4, (h.res.far hne a2).far hne a4⟩
set_option maxHeartbeats 8000000 in
theorem sides_tail3 (b o c n : Nat) (w0 w1 w2 : ByteArray) (r : List ByteArray) (hn : n = r.length + 3) (hc : n ≤ c) (hc2 : c ≤ 9223372036854775807) (lead : UInt8) (cl : Int) (hcl : 0 ≤ cl ∧ cl ≤ 7) (w : World) (hA : StrsAt w (some ⟨b, o, none⟩) (w0 :: w1 :: w2 :: r)) (hb : b < w.heap.size)
  {d : Int} {b1 : Bool} {h1 : ByteArray} {e1 fi : Int} (sc : SC w0 w2 lead d b1 h1 e1 fi) {t8 t16 t32 : ByteArray} {b8 b16 b32 : Bool} {g8 g16 g32 : ByteArray} {v8 v16 v32 q1 q2 : Int} {q3 : Bool} (st : ST w2 lead t8 t16 t32 b8 b16 b32 g8 g16 g32 v8 v16 v32 q1 q2 q3) (hbe : (r.length = 0 ∧ (b1 = false ∨ (b1 = true ∧ e1 ≠ d))) ∨ (r.length ≠ 0 ∧ r.length ≠ 1 ∧ r.length ≠ 3)) :
  Calls Tryz.prog 35 #[.slice (some ⟨b, o, none⟩) n c, .int .u8 (lead.toNat : Int), .int .i64 cl] w (SaysI w (tailS d cl b8 b16 b32 v8 v16 v32 q1 q2 q3)) := by
 have C0 := Lib.hid sc.c0
 have CH := Lib.hid sc.ch
 have C1 := Lib.hid sc.c1
 have CF := Lib.hid sc.cf
 have c0 : (w.alloc (.cells #[.int .i64 0, .int .i64 0, .int .i64 0, .int .i64 0, .int .i64 0] 38)).cell? ⟨b, o, none⟩ = some (.string w0) := by
  obtain ⟨b', o', e, h1, h2⟩ := (hA.below (newI_below w)) 0 w0 rfl
  cases e; exact h2
 have S0 := Lib.hid (SA.start hA hb (176 + cl) d)
 have a1 : IntKind.i64.wrap (176 + cl) = 176 + cl := IntWalk.i64_in _ (by omega)
 have a2 : IntKind.i64.wrap (128 + cl) = 128 + cl := IntWalk.i64_in _ (by omega)
 have i0 : (0 : Int) < (n : Int) := by omega
 have i2 : (2 : Int) < (n : Int) := by omega
 have ST1 := Lib.hid st
 have a3 : IntKind.i64.wrap (184 + cl) = 184 + cl := IntWalk.i64_in _ (by omega)
 have a4 : IntKind.i64.wrap (176 + cl + 8) = 176 + cl + 8 := IntWalk.i64_in _ (by omega)
 have J2 : Hid (2 < n) := by unfold Hid; omega
 rcases hbe with ⟨h3, rfl | ⟨rfl, he1⟩⟩ | h3
 focus
  have n3 : ((n : Int) == 3) = true := by simp; omega
  have n3' : (n == 3) = true := by simp; omega
 rotate_left 1
 focus
  have n3 : ((n : Int) == 3) = true := by simp; omega
  have n3' : (n == 3) = true := by simp; omega
  have ee : (e1 == d) = false := by simp [he1]
  clear he1
 rotate_left 1
 focus
  have n3 : ((n : Int) == 3) = false := by simp; omega
  have n3' : (n == 3) = false := by simp; omega
  cases b1
 rotate_left 2
 all_goals
  have n4 : ((n : Int) == 4) = false := by simp; omega
  have n4' : (n == 4) = false := by simp; omega
  have n6 : ((n : Int) == 6) = false := by simp; omega
  have n6' : (n == 6) = false := by simp; omega
  clear h3
  clear st
  clear sc hA hb hn
  go_enter Tryz.func35, Tryz.ntmps35
  go_upto_region 3 with (go_at_call 34; refine (C0.out _).mono ?_; rintro e w1 ⟨rfl, rfl⟩)
  obtain ⟨W2, hW2⟩ : ∃ W2, ((w.alloc (.cells #[.int .i64 0, .int .i64 0, .int .i64 0, .int .i64 0, .int .i64 0] 38)).alloc (.cells #[.int .i64 (176 + cl), .int .i64 d, .int .i64 0, .int .i64 0, .int .i64 0] 38)) = W2 := ⟨_, rfl⟩
  rw [hW2] at S0 ⊢
  clear hW2 c0
  have q2 : W2.cell? ⟨b, o + 2, none⟩ = some (.string w2) := S0.out.word 2 w2 rfl
  go_upto_region 17 with (first
   | (go_at_call 36; refine (CH.out _).mono ?_; rintro e w1 ⟨rfl, rfl⟩)
   | (go_at_call 34; refine (C1.out _).mono ?_; rintro e w1 ⟨rfl, rfl⟩))
  have S9 := S0
  clear S0 q2
  go_wp2_with fail
  have ST0 := ST1
  go_loopw [18] (fun v wr => ∃ i : Int, v = .int .i64 i ∧ (i = 8 ∨ (i = 16 ∧ b8 = false) ∨ (i = 32 ∧ b8 = false ∧ b16 = false) ∨ (i = 64 ∧ b8 = false ∧ b16 = false ∧ b32 = false)) ∧ SA w b o (w0 :: w1 :: w2 :: r) (176 + cl) d wr) (fun v _ => (64 - intOf v).toNat)
  case atStart => exact ⟨8, rfl, .inl rfl, S9.out⟩
  case round =>
   obtain ⟨i, rfl, hi, hs⟩ := hrel
   have S3 := Lib.hid hs
   clear hs S9
   rcases hi with rfl | ⟨rfl, rfl⟩ | ⟨rfl, rfl, rfl⟩ | ⟨rfl, rfl, rfl, rfl⟩
   ·cases b8
    ·have PA := Lib.hid (fun W => cat_run (P := Tryz.prog) (a := ⟨#[40, 115]⟩) (b := t8) (x := 2) (y := 2) (by decide) ST0.out.s8 (by decide) W)
     have PB := Lib.hid (fun W => cat_run (P := Tryz.prog) (a := (⟨#[40, 115]⟩ : ByteArray) ++ t8) (b := ⟨#[41]⟩) (x := 4) (y := 1) (by rw [ByteArray.size_append, show (⟨#[40, 115]⟩ : ByteArray).size = 2 from rfl]; have := ST0.out.s8; omega) (by decide) (by decide) W)
     have pa := PA.out
     have pb := PB.out
     have K0 : Hid (wr.drew.cell? ⟨b, o + 2, none⟩ = some (.string w2)) := S3.out.word 2 w2 rfl
     go_wp2_with fail
     have j2 : 2 < n := J2.out
     go_region_held3 (fun W' => W'.cell? ⟨b, o + 2, none⟩ = some (.string w2))
      (first | with_reducible exact K0.out | with_reducible exact K1.out)
      (first | (go_at_call 44; refine (ST0.out.d8 _).mono ?_; rintro e' w3 ⟨rfl, hb3⟩; have S4 := Lib.hid (S3.out.grow (below_undrew' hb3)); clear hb3; have K1 : Hid (w3.cell? ⟨b, o + 2, none⟩ = some (.string w2)) := S4.out.word 2 w2 rfl) | (go_at_call 36; refine (ST0.out.h8 _).mono ?_; rintro e' w4 ⟨rfl, rfl⟩))
     go_wp2_with fail
     exact ⟨⟨16, rfl, .inr (.inl ⟨rfl, by first | rfl | trivial⟩), S4.out⟩, by decide⟩
    ·have PA := Lib.hid (fun W => cat_run (P := Tryz.prog) (a := ⟨#[40, 115]⟩) (b := t8) (x := 2) (y := 2) (by decide) ST0.out.s8 (by decide) W)
     have PB := Lib.hid (fun W => cat_run (P := Tryz.prog) (a := (⟨#[40, 115]⟩ : ByteArray) ++ t8) (b := ⟨#[41]⟩) (x := 4) (y := 1) (by rw [ByteArray.size_append, show (⟨#[40, 115]⟩ : ByteArray).size = 2 from rfl]; have := ST0.out.s8; omega) (by decide) (by decide) W)
     have pa := PA.out
     have pb := PB.out
     have K0 : Hid (wr.drew.cell? ⟨b, o + 2, none⟩ = some (.string w2)) := S3.out.word 2 w2 rfl
     go_wp2_with fail
     have j2 : 2 < n := J2.out
     go_region_held3 (fun W' => W'.cell? ⟨b, o + 2, none⟩ = some (.string w2))
      (first | with_reducible exact K0.out | with_reducible exact K1.out)
      (first | (go_at_call 44; refine (ST0.out.d8 _).mono ?_; rintro e' w3 ⟨rfl, hb3⟩; have S4 := Lib.hid (S3.out.grow (below_undrew' hb3)); clear hb3; have K1 : Hid (w3.cell? ⟨b, o + 2, none⟩ = some (.string w2)) := S4.out.word 2 w2 rfl) | (go_at_call 36; refine (ST0.out.h8 _).mono ?_; rintro e' w4 ⟨rfl, rfl⟩))
     have z0 := S4.out.res.frozen 0
     have z1 := S4.out.res.frozen 1
     have z2 := S4.out.res.frozen 2
     have z3 := S4.out.res.frozen 3
     have z4 := S4.out.res.frozen 4
     have k0 := S4.out.res.cell 0
     have k1 := S4.out.res.cell 1
     have k2 := S4.out.res.cell 2
     have k3 := S4.out.res.cell 3
     have k4 := S4.out.res.cell 4
     go_wp2_with (go_at_call 34; refine (ST0.out.r8 _).mono ?_; rintro e w5 ⟨rfl, rfl⟩)
     refine bodyPost_ret (results_cell_row rfl _ _ w.heap.size isT' _ (0, 0) _ rfl (own_five (Nat.le_refl _) S4.out.below S4.out.res _ _ _ _ _).2 Tryz.underlying38 rfl (by kernel_rfl)) rfl ?_
     exact ⟨rfl, (own_five (Nat.le_refl _) S4.out.below S4.out.res _ _ _ _ _).1⟩
   ·cases b16
    ·have PA := Lib.hid (fun W => cat_run (P := Tryz.prog) (a := ⟨#[40, 115]⟩) (b := t16) (x := 2) (y := 2) (by decide) ST0.out.s16 (by decide) W)
     have PB := Lib.hid (fun W => cat_run (P := Tryz.prog) (a := (⟨#[40, 115]⟩ : ByteArray) ++ t16) (b := ⟨#[41]⟩) (x := 4) (y := 1) (by rw [ByteArray.size_append, show (⟨#[40, 115]⟩ : ByteArray).size = 2 from rfl]; have := ST0.out.s16; omega) (by decide) (by decide) W)
     have pa := PA.out
     have pb := PB.out
     have K0 : Hid (wr.drew.cell? ⟨b, o + 2, none⟩ = some (.string w2)) := S3.out.word 2 w2 rfl
     go_wp2_with fail
     have j2 : 2 < n := J2.out
     go_region_held3 (fun W' => W'.cell? ⟨b, o + 2, none⟩ = some (.string w2))
      (first | with_reducible exact K0.out | with_reducible exact K1.out)
      (first | (go_at_call 44; refine (ST0.out.d16 _).mono ?_; rintro e' w3 ⟨rfl, hb3⟩; have S4 := Lib.hid (S3.out.grow (below_undrew' hb3)); clear hb3; have K1 : Hid (w3.cell? ⟨b, o + 2, none⟩ = some (.string w2)) := S4.out.word 2 w2 rfl) | (go_at_call 36; refine (ST0.out.h16 _).mono ?_; rintro e' w4 ⟨rfl, rfl⟩))
     go_wp2_with fail
     exact ⟨⟨32, rfl, .inr (.inr (.inl ⟨rfl, by first | rfl | trivial, by first | rfl | trivial⟩)), S4.out⟩, by decide⟩
    ·have PA := Lib.hid (fun W => cat_run (P := Tryz.prog) (a := ⟨#[40, 115]⟩) (b := t16) (x := 2) (y := 2) (by decide) ST0.out.s16 (by decide) W)
     have PB := Lib.hid (fun W => cat_run (P := Tryz.prog) (a := (⟨#[40, 115]⟩ : ByteArray) ++ t16) (b := ⟨#[41]⟩) (x := 4) (y := 1) (by rw [ByteArray.size_append, show (⟨#[40, 115]⟩ : ByteArray).size = 2 from rfl]; have := ST0.out.s16; omega) (by decide) (by decide) W)
     have pa := PA.out
     have pb := PB.out
     have K0 : Hid (wr.drew.cell? ⟨b, o + 2, none⟩ = some (.string w2)) := S3.out.word 2 w2 rfl
     go_wp2_with fail
     have j2 : 2 < n := J2.out
     go_region_held3 (fun W' => W'.cell? ⟨b, o + 2, none⟩ = some (.string w2))
      (first | with_reducible exact K0.out | with_reducible exact K1.out)
      (first | (go_at_call 44; refine (ST0.out.d16 _).mono ?_; rintro e' w3 ⟨rfl, hb3⟩; have S4 := Lib.hid (S3.out.grow (below_undrew' hb3)); clear hb3; have K1 : Hid (w3.cell? ⟨b, o + 2, none⟩ = some (.string w2)) := S4.out.word 2 w2 rfl) | (go_at_call 36; refine (ST0.out.h16 _).mono ?_; rintro e' w4 ⟨rfl, rfl⟩))
     have z0 := S4.out.res.frozen 0
     have z1 := S4.out.res.frozen 1
     have z2 := S4.out.res.frozen 2
     have z3 := S4.out.res.frozen 3
     have z4 := S4.out.res.frozen 4
     have k0 := S4.out.res.cell 0
     have k1 := S4.out.res.cell 1
     have k2 := S4.out.res.cell 2
     have k3 := S4.out.res.cell 3
     have k4 := S4.out.res.cell 4
     go_wp2_with (go_at_call 34; refine (ST0.out.r16 _).mono ?_; rintro e w5 ⟨rfl, rfl⟩)
     refine bodyPost_ret (results_cell_row rfl _ _ w.heap.size isT' _ (0, 0) _ rfl (own_five (Nat.le_refl _) S4.out.below S4.out.res _ _ _ _ _).2 Tryz.underlying38 rfl (by kernel_rfl)) rfl ?_
     exact ⟨rfl, (own_five (Nat.le_refl _) S4.out.below S4.out.res _ _ _ _ _).1⟩
   ·cases b32
    ·have PA := Lib.hid (fun W => cat_run (P := Tryz.prog) (a := ⟨#[40, 115]⟩) (b := t32) (x := 2) (y := 2) (by decide) ST0.out.s32 (by decide) W)
     have PB := Lib.hid (fun W => cat_run (P := Tryz.prog) (a := (⟨#[40, 115]⟩ : ByteArray) ++ t32) (b := ⟨#[41]⟩) (x := 4) (y := 1) (by rw [ByteArray.size_append, show (⟨#[40, 115]⟩ : ByteArray).size = 2 from rfl]; have := ST0.out.s32; omega) (by decide) (by decide) W)
     have pa := PA.out
     have pb := PB.out
     have K0 : Hid (wr.drew.cell? ⟨b, o + 2, none⟩ = some (.string w2)) := S3.out.word 2 w2 rfl
     go_wp2_with fail
     have j2 : 2 < n := J2.out
     go_region_held3 (fun W' => W'.cell? ⟨b, o + 2, none⟩ = some (.string w2))
      (first | with_reducible exact K0.out | with_reducible exact K1.out)
      (first | (go_at_call 44; refine (ST0.out.d32 _).mono ?_; rintro e' w3 ⟨rfl, hb3⟩; have S4 := Lib.hid (S3.out.grow (below_undrew' hb3)); clear hb3; have K1 : Hid (w3.cell? ⟨b, o + 2, none⟩ = some (.string w2)) := S4.out.word 2 w2 rfl) | (go_at_call 36; refine (ST0.out.h32 _).mono ?_; rintro e' w4 ⟨rfl, rfl⟩))
     go_wp2_with fail
     exact ⟨⟨64, rfl, .inr (.inr (.inr ⟨rfl, by first | rfl | trivial, by first | rfl | trivial, by first | rfl | trivial⟩)), S4.out⟩, by decide⟩
    ·have PA := Lib.hid (fun W => cat_run (P := Tryz.prog) (a := ⟨#[40, 115]⟩) (b := t32) (x := 2) (y := 2) (by decide) ST0.out.s32 (by decide) W)
     have PB := Lib.hid (fun W => cat_run (P := Tryz.prog) (a := (⟨#[40, 115]⟩ : ByteArray) ++ t32) (b := ⟨#[41]⟩) (x := 4) (y := 1) (by rw [ByteArray.size_append, show (⟨#[40, 115]⟩ : ByteArray).size = 2 from rfl]; have := ST0.out.s32; omega) (by decide) (by decide) W)
     have pa := PA.out
     have pb := PB.out
     have K0 : Hid (wr.drew.cell? ⟨b, o + 2, none⟩ = some (.string w2)) := S3.out.word 2 w2 rfl
     go_wp2_with fail
     have j2 : 2 < n := J2.out
     go_region_held3 (fun W' => W'.cell? ⟨b, o + 2, none⟩ = some (.string w2))
      (first | with_reducible exact K0.out | with_reducible exact K1.out)
      (first | (go_at_call 44; refine (ST0.out.d32 _).mono ?_; rintro e' w3 ⟨rfl, hb3⟩; have S4 := Lib.hid (S3.out.grow (below_undrew' hb3)); clear hb3; have K1 : Hid (w3.cell? ⟨b, o + 2, none⟩ = some (.string w2)) := S4.out.word 2 w2 rfl) | (go_at_call 36; refine (ST0.out.h32 _).mono ?_; rintro e' w4 ⟨rfl, rfl⟩))
     have z0 := S4.out.res.frozen 0
     have z1 := S4.out.res.frozen 1
     have z2 := S4.out.res.frozen 2
     have z3 := S4.out.res.frozen 3
     have z4 := S4.out.res.frozen 4
     have k0 := S4.out.res.cell 0
     have k1 := S4.out.res.cell 1
     have k2 := S4.out.res.cell 2
     have k3 := S4.out.res.cell 3
     have k4 := S4.out.res.cell 4
     go_wp2_with (go_at_call 34; refine (ST0.out.r32 _).mono ?_; rintro e w5 ⟨rfl, rfl⟩)
     refine bodyPost_ret (results_cell_row rfl _ _ w.heap.size isT' _ (0, 0) _ rfl (own_five (Nat.le_refl _) S4.out.below S4.out.res _ _ _ _ _).2 Tryz.underlying38 rfl (by kernel_rfl)) rfl ?_
     exact ⟨rfl, (own_five (Nat.le_refl _) S4.out.below S4.out.res _ _ _ _ _).1⟩
   ·have q3c : wr.cell? ⟨b, o + 2, none⟩ = some (.string w2) := S3.out.word 2 w2 rfl
    have z0 := S3.out.res.frozen 0
    have z1 := S3.out.res.frozen 1
    have z2 := S3.out.res.frozen 2
    have z3 := S3.out.res.frozen 3
    have z4 := S3.out.res.frozen 4
    have k0 := S3.out.res.cell 0
    have k1 := S3.out.res.cell 1
    have k2 := S3.out.res.cell 2
    have k3 := S3.out.res.cell 3
    have k4 := S3.out.res.cell 4
    have x0 := S3.out.x.cell 0
    have x1 := S3.out.x.cell 1
    have x2 := S3.out.x.cell 2
    have x3 := S3.out.x.cell 3
    have x4 := S3.out.x.cell 4
    have y0 := S3.out.x.frozen 0
    have y1 := S3.out.x.frozen 1
    have y2 := S3.out.x.frozen 2
    have y3 := S3.out.x.frozen 3
    have y4 := S3.out.x.frozen 4
    have hne : w.heap.size ≠ w.heap.size + 1 := by omega
    have hne' : w.heap.size + 1 ≠ w.heap.size := by omega
    cases q3
    ·go_wp2_with (go_at_call 38; refine (ST0.out.op _).mono ?_; rintro e w5 ⟨rfl, rfl⟩)
     refine bodyPost_ret (results_cell_row rfl _ _ w.heap.size isT' _ (0, 0) _ rfl (own_five (Nat.le_refl _) (S3.out.xset2 (.int .i64 q1) (.int .i64 q2)).1 (S3.out.xset2 (.int .i64 q1) (.int .i64 q2)).2 _ _ _ _ _).2 Tryz.underlying38 rfl (by kernel_rfl)) rfl ?_
     exact ⟨rfl, (own_five (Nat.le_refl _) (S3.out.xset2 (.int .i64 q1) (.int .i64 q2)).1 (S3.out.xset2 (.int .i64 q1) (.int .i64 q2)).2 _ _ _ _ _).1⟩
    ·go_wp2_with (go_at_call 38; refine (ST0.out.op _).mono ?_; rintro e w5 ⟨rfl, rfl⟩)
     refine bodyPost_ret (results_cell_row rfl _ _ w.heap.size isT' _ (0, 0) _ rfl (own_five (Nat.le_refl _) (S3.out.xset (.int .i64 (176 + cl + 8)) (.int .i64 q1) (.int .i64 q2)).1 (S3.out.xset (.int .i64 (176 + cl + 8)) (.int .i64 q1) (.int .i64 q2)).2 _ _ _ _ _).2 Tryz.underlying38 rfl (by kernel_rfl)) rfl ?_
     exact ⟨rfl, (own_five (Nat.le_refl _) (S3.out.xset (.int .i64 (176 + cl + 8)) (.int .i64 q1) (.int .i64 q2)).1 (S3.out.xset (.int .i64 (176 + cl + 8)) (.int .i64 q1) (.int .i64 q2)).2 _ _ _ _ _).1⟩
end Go.Proofs.YtemiklbkfogjeaaGreatDoor
