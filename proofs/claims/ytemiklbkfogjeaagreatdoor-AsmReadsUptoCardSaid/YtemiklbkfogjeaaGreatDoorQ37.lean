/-
  The reference's lines: what is done in one go.
-/
import Derived.Test.YtemiklbkfogjeaaGreatDoorQ36
namespace Go.Proofs.YtemiklbkfogjeaaGreatDoor.Ln
open Go Go.RowKit
set_option linter.unusedVariables false
set_option linter.unusedSimpArgs false
set_option maxRecDepth 100000
set_option maxHeartbeats 4000000 in
theorem moves_lockB (o d s f m : Int) (w : World) (hc : (o % 8 == 1) = false) (hc2 : (o % 8 == 2) = false) (hm : (o / 32 == 3) = false) (hB : (o == 195) = true ∨ ((o == 195) = false ∧ (o == 219) = true)) :
  Calls Tryz.prog 64 #[insV o d s f m] w fun e w' => e = .returned (.string (tx (movesL o d s f m))) ∧ Below w.heap.size w w' := by
 obtain ⟨ans, hans⟩ : ∃ b, movesL o d s f m = b := ⟨_, rfl⟩
 rw [hans]
 have ANS := Lib.hid hans
 clear hans
 have n5 := Cells5.new w ⟨o, d, s, f, m⟩ 38
 have SB0 := Lib.hid (show CB w.heap.size o d s f m (w.alloc (.cells #[.int .i64 o, .int .i64 d, .int .i64 s, .int .i64 f, .int .i64 m] 38)) from n5)
 clear n5
 have FB0 : Hid (Below w.heap.size w (w.alloc (.cells #[.int .i64 o, .int .i64 d, .int .i64 s, .int .i64 f, .int .i64 m] 38))) := (Below.refl _ w).alloc (Nat.le_refl _) _
 have CR := Lib.hid (fun n w' => reg_any [114] (by simp) n w')
 have CO := Lib.hid (off04_any f)
 have CI := Lib.hid (imm04_any m)
 have CB4 := Lib.hid (bits04_any o d s f m)
 unfold insV at CB4
 have CP := Lib.hid (fun h r w' => place_any r f h w')
 have CD := Lib.hid (fun h w' => digits_any m (imm_b h) w')
 have hrd := reg_sz d
 have hrs := reg_sz s
 have a7 := and_i64_7 o
 rcases hB with ho | ⟨ho1, ho⟩
 focus
  have go : (o != 195) = false := by simp only [bne, ho]; rfl
  have ho1 := ho
 rotate_left 1
 focus
  have go : (o != 219) = false := by simp only [bne, ho]; rfl
  have go1 : (o != 195) = true := by simp only [bne, ho1]; rfl
 rotate_left 1
 all_goals
  unfold insV
  cases h1 : (regIn d)
  focus
   have q1 := reg_none [114] d
   rw [h1] at q1
   simp only [Bool.not_true, Bool.not_false] at q1
   have blkA := True.intro
  rotate_left 1
  focus
   have q1 := reg_none [114] d
   rw [h1] at q1
   simp only [Bool.not_true, Bool.not_false] at q1
   cases h2 : (regIn s)
   focus
    have q2 := reg_none [114] s
    rw [h2] at q2
    simp only [Bool.not_true, Bool.not_false] at q2
    have blkA := True.intro
   rotate_left 1
   focus
    have q2 := reg_none [114] s
    rw [h2] at q2
    simp only [Bool.not_true, Bool.not_false] at q2
    cases h3 : (offIn f)
    focus
     have blkA := True.intro
    rotate_left 1
    focus
     cases h4 : (immIn m)
     focus
      have blkA := True.intro
     rotate_left 1
     focus
      cases h5 : (m == 0)
      focus
       have g5 : (m != 0) = true := by simp only [bne, h5]; rfl
       cases h6 : (m == 1)
       focus
        have g6 : (m != 1) = true := by simp only [bne, h6]; rfl
        cases h7 : (m == 64)
        focus
         have g7 : (m != 64) = true := by simp only [bne, h7]; rfl
         cases h8 : (m == 65)
         focus
          have g8 : (m != 65) = true := by simp only [bne, h8]; rfl
          cases h9 : (m == 80)
          focus
           have g9 : (m != 80) = true := by simp only [bne, h9]; rfl
           cases h10 : (m == 81)
           focus
            have g10 : (m != 81) = true := by simp only [bne, h10]; rfl
            cases h11 : (m == 160)
            focus
             have g11 : (m != 160) = true := by simp only [bne, h11]; rfl
             cases h12 : (m == 161)
             focus
              have g12 : (m != 161) = true := by simp only [bne, h12]; rfl
              cases h13 : (m == 225)
              focus
               have g13 : (m != 225) = true := by simp only [bne, h13]; rfl
               cases h14 : (m == 241)
               focus
                have g14 : (m != 241) = true := by simp only [bne, h14]; rfl
                have blkA := True.intro
               rotate_left 1
               focus
                have g14 : (m != 241) = false := by simp only [bne, h14]; rfl
                have e1 : (m.tmod 2 == 1) = true := (by have hm0 := ‹(m == 241) = true›; rw [eq_of_beq hm0]; rfl)
                have e2 : decide (m < 200) = false := (by have hm0 := ‹(m == 241) = true›; rw [eq_of_beq hm0]; rfl)
                obtain ⟨k0_0, z0_0⟩ := cat_ok (P := Tryz.prog) (show ({ data := #[99, 109, 112, 120, 99, 104, 103, 32] } : ByteArray).size ≤ 8 by decide) (reg_sz s) (by decide)
                clear z0_0
                obtain ⟨k1_0, z1_0⟩ := cat_ok (P := Tryz.prog) (show ({ data := #[108, 111, 99, 107, 32, 42, 40, 117] } : ByteArray).size ≤ 8 by decide) (bits_sz o) (by decide)
                obtain ⟨k1_1, z1_1⟩ := cat_ok (P := Tryz.prog) z1_0 (show ({ data := #[32, 42, 41] } : ByteArray).size ≤ 3 by decide) (by decide)
                obtain ⟨k1_2, z1_2⟩ := cat_ok (P := Tryz.prog) z1_1 (place_sz d f (by assumption)) (by decide)
                obtain ⟨k1_3, z1_3⟩ := cat_ok (P := Tryz.prog) z1_2 (show ({ data := #[32] } : ByteArray).size ≤ 1 by decide) (by decide)
                obtain ⟨k1_4, z1_4⟩ := cat_ok (P := Tryz.prog) z1_3 (lk241_sz s) (by decide)
                clear z1_0 z1_1 z1_2 z1_3 z1_4
              rotate_left 2
              focus
               have g13 : (m != 225) = false := by simp only [bne, h13]; rfl
               have e1 : (m.tmod 2 == 1) = true := (by have hm0 := ‹(m == 225) = true›; rw [eq_of_beq hm0]; rfl)
               have e2 : decide (m < 200) = false := (by have hm0 := ‹(m == 225) = true›; rw [eq_of_beq hm0]; rfl)
               obtain ⟨k0_0, z0_0⟩ := cat_ok (P := Tryz.prog) (show ({ data := #[120, 99, 104, 103, 32] } : ByteArray).size ≤ 5 by decide) (reg_sz s) (by decide)
               clear z0_0
               obtain ⟨k1_0, z1_0⟩ := cat_ok (P := Tryz.prog) (show ({ data := #[108, 111, 99, 107, 32, 42, 40, 117] } : ByteArray).size ≤ 8 by decide) (bits_sz o) (by decide)
               obtain ⟨k1_1, z1_1⟩ := cat_ok (P := Tryz.prog) z1_0 (show ({ data := #[32, 42, 41] } : ByteArray).size ≤ 3 by decide) (by decide)
               obtain ⟨k1_2, z1_2⟩ := cat_ok (P := Tryz.prog) z1_1 (place_sz d f (by assumption)) (by decide)
               obtain ⟨k1_3, z1_3⟩ := cat_ok (P := Tryz.prog) z1_2 (show ({ data := #[32] } : ByteArray).size ≤ 1 by decide) (by decide)
               obtain ⟨k1_4, z1_4⟩ := cat_ok (P := Tryz.prog) z1_3 (lk225_sz s) (by decide)
               clear z1_0 z1_1 z1_2 z1_3 z1_4
             rotate_left 3
             focus
              have g12 : (m != 161) = false := by simp only [bne, h12]; rfl
              have e1 : (m.tmod 2 == 1) = true := (by have hm0 := ‹(m == 161) = true›; rw [eq_of_beq hm0]; rfl)
              have e2 : decide (m < 200) = true := (by have hm0 := ‹(m == 161) = true›; rw [eq_of_beq hm0]; rfl)
              obtain ⟨k0_0, z0_0⟩ := cat_ok (P := Tryz.prog) (show ({ data := #[94, 61, 32] } : ByteArray).size ≤ 3 by decide) (reg_sz s) (by decide)
              obtain ⟨k0_1, z0_1⟩ := cat_ok (P := Tryz.prog) z0_0 (show ({ data := #[32, 102, 101, 116, 99, 104] } : ByteArray).size ≤ 6 by decide) (by decide)
              clear z0_0 z0_1
              obtain ⟨k1_0, z1_0⟩ := cat_ok (P := Tryz.prog) (show ({ data := #[108, 111, 99, 107, 32, 42, 40, 117] } : ByteArray).size ≤ 8 by decide) (bits_sz o) (by decide)
              obtain ⟨k1_1, z1_1⟩ := cat_ok (P := Tryz.prog) z1_0 (show ({ data := #[32, 42, 41] } : ByteArray).size ≤ 3 by decide) (by decide)
              obtain ⟨k1_2, z1_2⟩ := cat_ok (P := Tryz.prog) z1_1 (place_sz d f (by assumption)) (by decide)
              obtain ⟨k1_3, z1_3⟩ := cat_ok (P := Tryz.prog) z1_2 (show ({ data := #[32] } : ByteArray).size ≤ 1 by decide) (by decide)
              obtain ⟨k1_4, z1_4⟩ := cat_ok (P := Tryz.prog) z1_3 (lk161_sz s) (by decide)
              clear z1_0 z1_1 z1_2 z1_3 z1_4
            rotate_left 4
            focus
             have g11 : (m != 160) = false := by simp only [bne, h11]; rfl
             have e1 : (m.tmod 2 == 1) = false := (by have hm0 := ‹(m == 160) = true›; rw [eq_of_beq hm0]; rfl)
             have e2 : decide (m < 200) = true := (by have hm0 := ‹(m == 160) = true›; rw [eq_of_beq hm0]; rfl)
             obtain ⟨k0_0, z0_0⟩ := cat_ok (P := Tryz.prog) (show ({ data := #[94, 61, 32] } : ByteArray).size ≤ 3 by decide) (reg_sz s) (by decide)
             clear z0_0
             obtain ⟨k1_0, z1_0⟩ := cat_ok (P := Tryz.prog) (show ({ data := #[108, 111, 99, 107, 32, 42, 40, 117] } : ByteArray).size ≤ 8 by decide) (bits_sz o) (by decide)
             obtain ⟨k1_1, z1_1⟩ := cat_ok (P := Tryz.prog) z1_0 (show ({ data := #[32, 42, 41] } : ByteArray).size ≤ 3 by decide) (by decide)
             obtain ⟨k1_2, z1_2⟩ := cat_ok (P := Tryz.prog) z1_1 (place_sz d f (by assumption)) (by decide)
             obtain ⟨k1_3, z1_3⟩ := cat_ok (P := Tryz.prog) z1_2 (show ({ data := #[32] } : ByteArray).size ≤ 1 by decide) (by decide)
             obtain ⟨k1_4, z1_4⟩ := cat_ok (P := Tryz.prog) z1_3 (lk160_sz s) (by decide)
             clear z1_0 z1_1 z1_2 z1_3 z1_4
           rotate_left 5
           focus
            have g10 : (m != 81) = false := by simp only [bne, h10]; rfl
            have e1 : (m.tmod 2 == 1) = true := (by have hm0 := ‹(m == 81) = true›; rw [eq_of_beq hm0]; rfl)
            have e2 : decide (m < 200) = true := (by have hm0 := ‹(m == 81) = true›; rw [eq_of_beq hm0]; rfl)
            obtain ⟨k0_0, z0_0⟩ := cat_ok (P := Tryz.prog) (show ({ data := #[38, 61, 32] } : ByteArray).size ≤ 3 by decide) (reg_sz s) (by decide)
            obtain ⟨k0_1, z0_1⟩ := cat_ok (P := Tryz.prog) z0_0 (show ({ data := #[32, 102, 101, 116, 99, 104] } : ByteArray).size ≤ 6 by decide) (by decide)
            clear z0_0 z0_1
            obtain ⟨k1_0, z1_0⟩ := cat_ok (P := Tryz.prog) (show ({ data := #[108, 111, 99, 107, 32, 42, 40, 117] } : ByteArray).size ≤ 8 by decide) (bits_sz o) (by decide)
            obtain ⟨k1_1, z1_1⟩ := cat_ok (P := Tryz.prog) z1_0 (show ({ data := #[32, 42, 41] } : ByteArray).size ≤ 3 by decide) (by decide)
            obtain ⟨k1_2, z1_2⟩ := cat_ok (P := Tryz.prog) z1_1 (place_sz d f (by assumption)) (by decide)
            obtain ⟨k1_3, z1_3⟩ := cat_ok (P := Tryz.prog) z1_2 (show ({ data := #[32] } : ByteArray).size ≤ 1 by decide) (by decide)
            obtain ⟨k1_4, z1_4⟩ := cat_ok (P := Tryz.prog) z1_3 (lk81_sz s) (by decide)
            clear z1_0 z1_1 z1_2 z1_3 z1_4
          rotate_left 6
          focus
           have g9 : (m != 80) = false := by simp only [bne, h9]; rfl
           have e1 : (m.tmod 2 == 1) = false := (by have hm0 := ‹(m == 80) = true›; rw [eq_of_beq hm0]; rfl)
           have e2 : decide (m < 200) = true := (by have hm0 := ‹(m == 80) = true›; rw [eq_of_beq hm0]; rfl)
           obtain ⟨k0_0, z0_0⟩ := cat_ok (P := Tryz.prog) (show ({ data := #[38, 61, 32] } : ByteArray).size ≤ 3 by decide) (reg_sz s) (by decide)
           clear z0_0
           obtain ⟨k1_0, z1_0⟩ := cat_ok (P := Tryz.prog) (show ({ data := #[108, 111, 99, 107, 32, 42, 40, 117] } : ByteArray).size ≤ 8 by decide) (bits_sz o) (by decide)
           obtain ⟨k1_1, z1_1⟩ := cat_ok (P := Tryz.prog) z1_0 (show ({ data := #[32, 42, 41] } : ByteArray).size ≤ 3 by decide) (by decide)
           obtain ⟨k1_2, z1_2⟩ := cat_ok (P := Tryz.prog) z1_1 (place_sz d f (by assumption)) (by decide)
           obtain ⟨k1_3, z1_3⟩ := cat_ok (P := Tryz.prog) z1_2 (show ({ data := #[32] } : ByteArray).size ≤ 1 by decide) (by decide)
           obtain ⟨k1_4, z1_4⟩ := cat_ok (P := Tryz.prog) z1_3 (lk80_sz s) (by decide)
           clear z1_0 z1_1 z1_2 z1_3 z1_4
         rotate_left 7
         focus
          have g8 : (m != 65) = false := by simp only [bne, h8]; rfl
          have e1 : (m.tmod 2 == 1) = true := (by have hm0 := ‹(m == 65) = true›; rw [eq_of_beq hm0]; rfl)
          have e2 : decide (m < 200) = true := (by have hm0 := ‹(m == 65) = true›; rw [eq_of_beq hm0]; rfl)
          obtain ⟨k0_0, z0_0⟩ := cat_ok (P := Tryz.prog) (show ({ data := #[124, 61, 32] } : ByteArray).size ≤ 3 by decide) (reg_sz s) (by decide)
          obtain ⟨k0_1, z0_1⟩ := cat_ok (P := Tryz.prog) z0_0 (show ({ data := #[32, 102, 101, 116, 99, 104] } : ByteArray).size ≤ 6 by decide) (by decide)
          clear z0_0 z0_1
          obtain ⟨k1_0, z1_0⟩ := cat_ok (P := Tryz.prog) (show ({ data := #[108, 111, 99, 107, 32, 42, 40, 117] } : ByteArray).size ≤ 8 by decide) (bits_sz o) (by decide)
          obtain ⟨k1_1, z1_1⟩ := cat_ok (P := Tryz.prog) z1_0 (show ({ data := #[32, 42, 41] } : ByteArray).size ≤ 3 by decide) (by decide)
          obtain ⟨k1_2, z1_2⟩ := cat_ok (P := Tryz.prog) z1_1 (place_sz d f (by assumption)) (by decide)
          obtain ⟨k1_3, z1_3⟩ := cat_ok (P := Tryz.prog) z1_2 (show ({ data := #[32] } : ByteArray).size ≤ 1 by decide) (by decide)
          obtain ⟨k1_4, z1_4⟩ := cat_ok (P := Tryz.prog) z1_3 (lk65_sz s) (by decide)
          clear z1_0 z1_1 z1_2 z1_3 z1_4
        rotate_left 8
        focus
         have g7 : (m != 64) = false := by simp only [bne, h7]; rfl
         have e1 : (m.tmod 2 == 1) = false := (by have hm0 := ‹(m == 64) = true›; rw [eq_of_beq hm0]; rfl)
         have e2 : decide (m < 200) = true := (by have hm0 := ‹(m == 64) = true›; rw [eq_of_beq hm0]; rfl)
         obtain ⟨k0_0, z0_0⟩ := cat_ok (P := Tryz.prog) (show ({ data := #[124, 61, 32] } : ByteArray).size ≤ 3 by decide) (reg_sz s) (by decide)
         clear z0_0
         obtain ⟨k1_0, z1_0⟩ := cat_ok (P := Tryz.prog) (show ({ data := #[108, 111, 99, 107, 32, 42, 40, 117] } : ByteArray).size ≤ 8 by decide) (bits_sz o) (by decide)
         obtain ⟨k1_1, z1_1⟩ := cat_ok (P := Tryz.prog) z1_0 (show ({ data := #[32, 42, 41] } : ByteArray).size ≤ 3 by decide) (by decide)
         obtain ⟨k1_2, z1_2⟩ := cat_ok (P := Tryz.prog) z1_1 (place_sz d f (by assumption)) (by decide)
         obtain ⟨k1_3, z1_3⟩ := cat_ok (P := Tryz.prog) z1_2 (show ({ data := #[32] } : ByteArray).size ≤ 1 by decide) (by decide)
         obtain ⟨k1_4, z1_4⟩ := cat_ok (P := Tryz.prog) z1_3 (lk64_sz s) (by decide)
         clear z1_0 z1_1 z1_2 z1_3 z1_4
       rotate_left 9
       focus
        have g6 : (m != 1) = false := by simp only [bne, h6]; rfl
        have e1 : (m.tmod 2 == 1) = true := (by have hm0 := ‹(m == 1) = true›; rw [eq_of_beq hm0]; rfl)
        have e2 : decide (m < 200) = true := (by have hm0 := ‹(m == 1) = true›; rw [eq_of_beq hm0]; rfl)
        obtain ⟨k0_0, z0_0⟩ := cat_ok (P := Tryz.prog) (show ({ data := #[43, 61, 32] } : ByteArray).size ≤ 3 by decide) (reg_sz s) (by decide)
        obtain ⟨k0_1, z0_1⟩ := cat_ok (P := Tryz.prog) z0_0 (show ({ data := #[32, 102, 101, 116, 99, 104] } : ByteArray).size ≤ 6 by decide) (by decide)
        clear z0_0 z0_1
        obtain ⟨k1_0, z1_0⟩ := cat_ok (P := Tryz.prog) (show ({ data := #[108, 111, 99, 107, 32, 42, 40, 117] } : ByteArray).size ≤ 8 by decide) (bits_sz o) (by decide)
        obtain ⟨k1_1, z1_1⟩ := cat_ok (P := Tryz.prog) z1_0 (show ({ data := #[32, 42, 41] } : ByteArray).size ≤ 3 by decide) (by decide)
        obtain ⟨k1_2, z1_2⟩ := cat_ok (P := Tryz.prog) z1_1 (place_sz d f (by assumption)) (by decide)
        obtain ⟨k1_3, z1_3⟩ := cat_ok (P := Tryz.prog) z1_2 (show ({ data := #[32] } : ByteArray).size ≤ 1 by decide) (by decide)
        obtain ⟨k1_4, z1_4⟩ := cat_ok (P := Tryz.prog) z1_3 (lk1_sz s) (by decide)
        clear z1_0 z1_1 z1_2 z1_3 z1_4
      rotate_left 10
      focus
       have g5 : (m != 0) = false := by simp only [bne, h5]; rfl
       have e1 : (m.tmod 2 == 1) = false := (by have hm0 := ‹(m == 0) = true›; rw [eq_of_beq hm0]; rfl)
       have e2 : decide (m < 200) = true := (by have hm0 := ‹(m == 0) = true›; rw [eq_of_beq hm0]; rfl)
       obtain ⟨k0_0, z0_0⟩ := cat_ok (P := Tryz.prog) (show ({ data := #[43, 61, 32] } : ByteArray).size ≤ 3 by decide) (reg_sz s) (by decide)
       clear z0_0
       obtain ⟨k1_0, z1_0⟩ := cat_ok (P := Tryz.prog) (show ({ data := #[108, 111, 99, 107, 32, 42, 40, 117] } : ByteArray).size ≤ 8 by decide) (bits_sz o) (by decide)
       obtain ⟨k1_1, z1_1⟩ := cat_ok (P := Tryz.prog) z1_0 (show ({ data := #[32, 42, 41] } : ByteArray).size ≤ 3 by decide) (by decide)
       obtain ⟨k1_2, z1_2⟩ := cat_ok (P := Tryz.prog) z1_1 (place_sz d f (by assumption)) (by decide)
       obtain ⟨k1_3, z1_3⟩ := cat_ok (P := Tryz.prog) z1_2 (show ({ data := #[32] } : ByteArray).size ≤ 1 by decide) (by decide)
       obtain ⟨k1_4, z1_4⟩ := cat_ok (P := Tryz.prog) z1_3 (lk0_sz s) (by decide)
       clear z1_0 z1_1 z1_2 z1_3 z1_4
  all_goals first
   |clear blkA
    go_enter Tryz.func64, Tryz.ntmps64
    go_wp2_with (first | (go_at_call 40; refine (CR.out _ _).mono ?_; rintro e w1 ⟨rfl, hb⟩; (try have hb := Below.undrew hb); first | (have hx := FB0.out.trans (hb.mono FB0.out.size); have hc := CB.below2 SB0.out hb; have FB0 := Lib.hid hx; have SB0 := Lib.hid hc; obtain ⟨d0, d1, d2, d3, d4⟩ := hc; clear hb hx)) | (go_at_call 90; refine (CO.out _).mono ?_; rintro e w1 ⟨rfl, rfl⟩) | (go_at_call 41; refine (CI.out _).mono ?_; rintro e w1 ⟨rfl, rfl⟩) | (go_at_call 91; refine (CB4.out _).mono ?_; rintro e w1 ⟨rfl, hb⟩; (try have hb := Below.undrew hb); first | (have hx := FB0.out.trans (hb.mono FB0.out.size); have hc := CB.below2 SB0.out hb; have FB0 := Lib.hid hx; have SB0 := Lib.hid hc; obtain ⟨d0, d1, d2, d3, d4⟩ := hc; clear hb hx)) | (go_at_call 92; refine (CP.out (by assumption) _ _).mono ?_; rintro e w1 ⟨rfl, hb⟩; (try have hb := Below.undrew hb); first | (have hx := FB0.out.trans (hb.mono FB0.out.size); have hc := CB.below2 SB0.out hb; have FB0 := Lib.hid hx; have SB0 := Lib.hid hc; obtain ⟨d0, d1, d2, d3, d4⟩ := hc; clear hb hx)) | (go_at_call 44; refine (CD.out (by assumption) _).mono ?_; rintro e w1 ⟨rfl, hb⟩; (try have hb := Below.undrew hb); first | (have hx := FB0.out.trans (hb.mono FB0.out.size); have hc := CB.below2 SB0.out hb; have FB0 := Lib.hid hx; have SB0 := Lib.hid hc; obtain ⟨d0, d1, d2, d3, d4⟩ := hc; clear hb hx)))
    all_goals go_region_held3 (fun W => W.cell? ⟨w.heap.size, 0, none⟩ = some (.int .i64 o) ∧ W.cell? ⟨w.heap.size, 1, none⟩ = some (.int .i64 d) ∧ W.cell? ⟨w.heap.size, 2, none⟩ = some (.int .i64 s) ∧ W.cell? ⟨w.heap.size, 3, none⟩ = some (.int .i64 f) ∧ W.cell? ⟨w.heap.size, 4, none⟩ = some (.int .i64 m)) (first | exact SB0.out) ((first | (go_at_call 40; refine (CR.out _ _).mono ?_; rintro e w1 ⟨rfl, hb⟩; (try have hb := Below.undrew hb); first | (have hx := FB0.out.trans (hb.mono FB0.out.size); have hc := CB.below2 SB0.out hb; have FB0 := Lib.hid hx; have SB0 := Lib.hid hc; obtain ⟨d0, d1, d2, d3, d4⟩ := hc; clear hb hx)) | (go_at_call 90; refine (CO.out _).mono ?_; rintro e w1 ⟨rfl, rfl⟩) | (go_at_call 41; refine (CI.out _).mono ?_; rintro e w1 ⟨rfl, rfl⟩) | (go_at_call 91; refine (CB4.out _).mono ?_; rintro e w1 ⟨rfl, hb⟩; (try have hb := Below.undrew hb); first | (have hx := FB0.out.trans (hb.mono FB0.out.size); have hc := CB.below2 SB0.out hb; have FB0 := Lib.hid hx; have SB0 := Lib.hid hc; obtain ⟨d0, d1, d2, d3, d4⟩ := hc; clear hb hx)) | (go_at_call 92; refine (CP.out (by assumption) _ _).mono ?_; rintro e w1 ⟨rfl, hb⟩; (try have hb := Below.undrew hb); first | (have hx := FB0.out.trans (hb.mono FB0.out.size); have hc := CB.below2 SB0.out hb; have FB0 := Lib.hid hx; have SB0 := Lib.hid hc; obtain ⟨d0, d1, d2, d3, d4⟩ := hc; clear hb hx)) | (go_at_call 44; refine (CD.out (by assumption) _).mono ?_; rintro e w1 ⟨rfl, hb⟩; (try have hb := Below.undrew hb); first | (have hx := FB0.out.trans (hb.mono FB0.out.size); have hc := CB.below2 SB0.out hb; have FB0 := Lib.hid hx; have SB0 := Lib.hid hc; obtain ⟨d0, d1, d2, d3, d4⟩ := hc; clear hb hx))))
    all_goals go_wp2_with (first | (go_at_call 40; refine (CR.out _ _).mono ?_; rintro e w1 ⟨rfl, hb⟩; (try have hb := Below.undrew hb); first | (have hx := FB0.out.trans (hb.mono FB0.out.size); have hc := CB.below2 SB0.out hb; have FB0 := Lib.hid hx; have SB0 := Lib.hid hc; obtain ⟨d0, d1, d2, d3, d4⟩ := hc; clear hb hx)) | (go_at_call 90; refine (CO.out _).mono ?_; rintro e w1 ⟨rfl, rfl⟩) | (go_at_call 41; refine (CI.out _).mono ?_; rintro e w1 ⟨rfl, rfl⟩) | (go_at_call 91; refine (CB4.out _).mono ?_; rintro e w1 ⟨rfl, hb⟩; (try have hb := Below.undrew hb); first | (have hx := FB0.out.trans (hb.mono FB0.out.size); have hc := CB.below2 SB0.out hb; have FB0 := Lib.hid hx; have SB0 := Lib.hid hc; obtain ⟨d0, d1, d2, d3, d4⟩ := hc; clear hb hx)) | (go_at_call 92; refine (CP.out (by assumption) _ _).mono ?_; rintro e w1 ⟨rfl, hb⟩; (try have hb := Below.undrew hb); first | (have hx := FB0.out.trans (hb.mono FB0.out.size); have hc := CB.below2 SB0.out hb; have FB0 := Lib.hid hx; have SB0 := Lib.hid hc; obtain ⟨d0, d1, d2, d3, d4⟩ := hc; clear hb hx)) | (go_at_call 44; refine (CD.out (by assumption) _).mono ?_; rintro e w1 ⟨rfl, hb⟩; (try have hb := Below.undrew hb); first | (have hx := FB0.out.trans (hb.mono FB0.out.size); have hc := CB.below2 SB0.out hb; have FB0 := Lib.hid hx; have SB0 := Lib.hid hc; obtain ⟨d0, d1, d2, d3, d4⟩ := hc; clear hb hx)))
    all_goals go_ret
    first
     | (have hgd := h14; clear hgd; all_goals first | exact ⟨ret_str (by rw [← ANS.out]; simp [movesL, moveOk, lockW, hc, hc2, hm, ho, ho1, tx, ByteArray.data_append, h1, h2, h3, h4, h5, h6, h7, h8, h9, h10, h11, h12, h13, h14]), FB0.out⟩)
     | (have hgd := h4; clear hgd; all_goals first | exact ⟨ret_str (by rw [← ANS.out]; simp [movesL, moveOk, lockW, hc, hc2, hm, ho, ho1, tx, ByteArray.data_append, h1, h2, h3, h4]), FB0.out⟩)
     | (have hgd := h3; clear hgd; all_goals first | exact ⟨ret_str (by rw [← ANS.out]; simp [movesL, moveOk, lockW, hc, hc2, hm, ho, ho1, tx, ByteArray.data_append, h1, h2, h3]), FB0.out⟩)
     | (have hgd := h2; clear hgd; all_goals first | exact ⟨ret_str (by rw [← ANS.out]; simp [movesL, moveOk, lockW, hc, hc2, hm, ho, ho1, tx, ByteArray.data_append, h1, h2]), FB0.out⟩)
     | (have hgd := h1; clear hgd; all_goals first | exact ⟨ret_str (by rw [← ANS.out]; simp [movesL, moveOk, lockW, hc, hc2, hm, ho, ho1, tx, ByteArray.data_append, h1]), FB0.out⟩)
   |go_enter Tryz.func64, Tryz.ntmps64
    go_wp2_with (first | (go_at_call 40; refine (CR.out _ _).mono ?_; rintro e w1 ⟨rfl, hb⟩; (try have hb := Below.undrew hb); first | (have hx := FB0.out.trans (hb.mono FB0.out.size); have hc := CB.below2 SB0.out hb; have FB0 := Lib.hid hx; have SB0 := Lib.hid hc; obtain ⟨d0, d1, d2, d3, d4⟩ := hc; clear hb hx)) | (go_at_call 90; refine (CO.out _).mono ?_; rintro e w1 ⟨rfl, rfl⟩) | (go_at_call 41; refine (CI.out _).mono ?_; rintro e w1 ⟨rfl, rfl⟩) | (go_at_call 91; refine (CB4.out _).mono ?_; rintro e w1 ⟨rfl, hb⟩; (try have hb := Below.undrew hb); first | (have hx := FB0.out.trans (hb.mono FB0.out.size); have hc := CB.below2 SB0.out hb; have FB0 := Lib.hid hx; have SB0 := Lib.hid hc; obtain ⟨d0, d1, d2, d3, d4⟩ := hc; clear hb hx)) | (go_at_call 92; refine (CP.out (by assumption) _ _).mono ?_; rintro e w1 ⟨rfl, hb⟩; (try have hb := Below.undrew hb); first | (have hx := FB0.out.trans (hb.mono FB0.out.size); have hc := CB.below2 SB0.out hb; have FB0 := Lib.hid hx; have SB0 := Lib.hid hc; obtain ⟨d0, d1, d2, d3, d4⟩ := hc; clear hb hx)) | (go_at_call 44; refine (CD.out (by assumption) _).mono ?_; rintro e w1 ⟨rfl, hb⟩; (try have hb := Below.undrew hb); first | (have hx := FB0.out.trans (hb.mono FB0.out.size); have hc := CB.below2 SB0.out hb; have FB0 := Lib.hid hx; have SB0 := Lib.hid hc; obtain ⟨d0, d1, d2, d3, d4⟩ := hc; clear hb hx)))
    iterate 2
     all_goals go_region_held3 (fun W => W.cell? ⟨w.heap.size, 0, none⟩ = some (.int .i64 o) ∧ W.cell? ⟨w.heap.size, 1, none⟩ = some (.int .i64 d) ∧ W.cell? ⟨w.heap.size, 2, none⟩ = some (.int .i64 s) ∧ W.cell? ⟨w.heap.size, 3, none⟩ = some (.int .i64 f) ∧ W.cell? ⟨w.heap.size, 4, none⟩ = some (.int .i64 m)) (first | exact SB0.out) ((first | (go_at_call 40; refine (CR.out _ _).mono ?_; rintro e w1 ⟨rfl, hb⟩; (try have hb := Below.undrew hb); first | (have hx := FB0.out.trans (hb.mono FB0.out.size); have hc := CB.below2 SB0.out hb; have FB0 := Lib.hid hx; have SB0 := Lib.hid hc; obtain ⟨d0, d1, d2, d3, d4⟩ := hc; clear hb hx)) | (go_at_call 90; refine (CO.out _).mono ?_; rintro e w1 ⟨rfl, rfl⟩) | (go_at_call 41; refine (CI.out _).mono ?_; rintro e w1 ⟨rfl, rfl⟩) | (go_at_call 91; refine (CB4.out _).mono ?_; rintro e w1 ⟨rfl, hb⟩; (try have hb := Below.undrew hb); first | (have hx := FB0.out.trans (hb.mono FB0.out.size); have hc := CB.below2 SB0.out hb; have FB0 := Lib.hid hx; have SB0 := Lib.hid hc; obtain ⟨d0, d1, d2, d3, d4⟩ := hc; clear hb hx)) | (go_at_call 92; refine (CP.out (by assumption) _ _).mono ?_; rintro e w1 ⟨rfl, hb⟩; (try have hb := Below.undrew hb); first | (have hx := FB0.out.trans (hb.mono FB0.out.size); have hc := CB.below2 SB0.out hb; have FB0 := Lib.hid hx; have SB0 := Lib.hid hc; obtain ⟨d0, d1, d2, d3, d4⟩ := hc; clear hb hx)) | (go_at_call 44; refine (CD.out (by assumption) _).mono ?_; rintro e w1 ⟨rfl, hb⟩; (try have hb := Below.undrew hb); first | (have hx := FB0.out.trans (hb.mono FB0.out.size); have hc := CB.below2 SB0.out hb; have FB0 := Lib.hid hx; have SB0 := Lib.hid hc; obtain ⟨d0, d1, d2, d3, d4⟩ := hc; clear hb hx))))
     all_goals go_wp2_with (first | (go_at_call 40; refine (CR.out _ _).mono ?_; rintro e w1 ⟨rfl, hb⟩; (try have hb := Below.undrew hb); first | (have hx := FB0.out.trans (hb.mono FB0.out.size); have hc := CB.below2 SB0.out hb; have FB0 := Lib.hid hx; have SB0 := Lib.hid hc; obtain ⟨d0, d1, d2, d3, d4⟩ := hc; clear hb hx)) | (go_at_call 90; refine (CO.out _).mono ?_; rintro e w1 ⟨rfl, rfl⟩) | (go_at_call 41; refine (CI.out _).mono ?_; rintro e w1 ⟨rfl, rfl⟩) | (go_at_call 91; refine (CB4.out _).mono ?_; rintro e w1 ⟨rfl, hb⟩; (try have hb := Below.undrew hb); first | (have hx := FB0.out.trans (hb.mono FB0.out.size); have hc := CB.below2 SB0.out hb; have FB0 := Lib.hid hx; have SB0 := Lib.hid hc; obtain ⟨d0, d1, d2, d3, d4⟩ := hc; clear hb hx)) | (go_at_call 92; refine (CP.out (by assumption) _ _).mono ?_; rintro e w1 ⟨rfl, hb⟩; (try have hb := Below.undrew hb); first | (have hx := FB0.out.trans (hb.mono FB0.out.size); have hc := CB.below2 SB0.out hb; have FB0 := Lib.hid hx; have SB0 := Lib.hid hc; obtain ⟨d0, d1, d2, d3, d4⟩ := hc; clear hb hx)) | (go_at_call 44; refine (CD.out (by assumption) _).mono ?_; rintro e w1 ⟨rfl, hb⟩; (try have hb := Below.undrew hb); first | (have hx := FB0.out.trans (hb.mono FB0.out.size); have hc := CB.below2 SB0.out hb; have FB0 := Lib.hid hx; have SB0 := Lib.hid hc; obtain ⟨d0, d1, d2, d3, d4⟩ := hc; clear hb hx)))
    all_goals go_ret
    first
     | (have hgd := h14; clear hgd; all_goals first | exact ⟨ret_str (by rw [← ANS.out]; simp [movesL, moveOk, lockW, hc, hc2, hm, ho, ho1, tx, ByteArray.data_append, h1, h2, h3, h4, h5, h6, h7, h8, h9, h10, h11, h12, h13, h14]), FB0.out⟩)
     | (have hgd := h13; clear hgd; all_goals first | exact ⟨ret_str (by rw [← ANS.out]; simp [movesL, moveOk, lockW, hc, hc2, hm, ho, ho1, tx, ByteArray.data_append, h1, h2, h3, h4, h5, h6, h7, h8, h9, h10, h11, h12, h13]), FB0.out⟩)
     | (have hgd := h12; clear hgd; all_goals first | exact ⟨ret_str (by rw [← ANS.out]; simp [movesL, moveOk, lockW, hc, hc2, hm, ho, ho1, tx, ByteArray.data_append, h1, h2, h3, h4, h5, h6, h7, h8, h9, h10, h11, h12]), FB0.out⟩)
     | (have hgd := h11; clear hgd; all_goals first | exact ⟨ret_str (by rw [← ANS.out]; simp [movesL, moveOk, lockW, hc, hc2, hm, ho, ho1, tx, ByteArray.data_append, h1, h2, h3, h4, h5, h6, h7, h8, h9, h10, h11]), FB0.out⟩)
     | (have hgd := h10; clear hgd; all_goals first | exact ⟨ret_str (by rw [← ANS.out]; simp [movesL, moveOk, lockW, hc, hc2, hm, ho, ho1, tx, ByteArray.data_append, h1, h2, h3, h4, h5, h6, h7, h8, h9, h10]), FB0.out⟩)
     | (have hgd := h9; clear hgd; all_goals first | exact ⟨ret_str (by rw [← ANS.out]; simp [movesL, moveOk, lockW, hc, hc2, hm, ho, ho1, tx, ByteArray.data_append, h1, h2, h3, h4, h5, h6, h7, h8, h9]), FB0.out⟩)
     | (have hgd := h8; clear hgd; all_goals first | exact ⟨ret_str (by rw [← ANS.out]; simp [movesL, moveOk, lockW, hc, hc2, hm, ho, ho1, tx, ByteArray.data_append, h1, h2, h3, h4, h5, h6, h7, h8]), FB0.out⟩)
     | (have hgd := h7; clear hgd; all_goals first | exact ⟨ret_str (by rw [← ANS.out]; simp [movesL, moveOk, lockW, hc, hc2, hm, ho, ho1, tx, ByteArray.data_append, h1, h2, h3, h4, h5, h6, h7]), FB0.out⟩)
     | (have hgd := h6; clear hgd; all_goals first | exact ⟨ret_str (by rw [← ANS.out]; simp [movesL, moveOk, lockW, hc, hc2, hm, ho, ho1, tx, ByteArray.data_append, h1, h2, h3, h4, h5, h6]), FB0.out⟩)
     | (have hgd := h5; clear hgd; all_goals first | exact ⟨ret_str (by rw [← ANS.out]; simp [movesL, moveOk, lockW, hc, hc2, hm, ho, ho1, tx, ByteArray.data_append, h1, h2, h3, h4, h5]), FB0.out⟩)
theorem moves_lock195 (o d s f m : Int) (w : World) (hc : (o % 8 == 1) = false) (hc2 : (o % 8 == 2) = false) (hm : (o / 32 == 3) = false) (ho : (o == 195) = true) :
  Calls Tryz.prog 64 #[insV o d s f m] w fun e w' => e = .returned (.string (tx (movesL o d s f m))) ∧ Below w.heap.size w w' := 
 moves_lockB o d s f m w hc hc2 hm (.inl ho)
theorem moves_lock219 (o d s f m : Int) (w : World) (hc : (o % 8 == 1) = false) (hc2 : (o % 8 == 2) = false) (hm : (o / 32 == 3) = false) (ho1 : (o == 195) = false) (ho : (o == 219) = true) :
  Calls Tryz.prog 64 #[insV o d s f m] w fun e w' => e = .returned (.string (tx (movesL o d s f m))) ∧ Below w.heap.size w w' := 
 moves_lockB o d s f m w hc hc2 hm (.inr ⟨ho1, ho⟩)
end Go.Proofs.YtemiklbkfogjeaaGreatDoor.Ln
