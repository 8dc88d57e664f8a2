/-
  The reference's lines: stores of a register. The reference's lines: what is done in one go.
-/
import Derived.Test.YtemiklbkfogjeaaGreatDoorQ35
namespace Go.Proofs.YtemiklbkfogjeaaGreatDoor.Ln
open Go Go.RowKit
set_option linter.unusedVariables false
set_option linter.unusedSimpArgs false
set_option maxRecDepth 100000
set_option maxHeartbeats 4000000 in
theorem moves_stx (o d s f m : Int) (w : World) (hc : (o % 8 == 1) = false) (hc2 : (o % 8 == 2) = false) (hm : (o / 32 == 3) = true) :
  Calls Tryz.prog 64 #[insV o d s f m] w fun e w' => e = .returned (.string (tx (movesL o d s f m))) ∧ Below w.heap.size w w' := by
 obtain ⟨ans, hans⟩ : ∃ b, movesL o d s f m = b := ⟨_, rfl⟩
 rw [hans]
 have ANS := Lib.hid hans
 clear hans
 have n5 := Cells5.new w ⟨o, d, s, f, m⟩ 38
 have SB0 := Lib.hid (show CB w.heap.size o d s f m (w.alloc (.cells #[.int .i64 o, .int .i64 d, .int .i64 s, .int .i64 f, .int .i64 m] 38)) from n5)
 clear n5
 have FB0 : Hid (Below w.heap.size w (w.alloc (.cells #[.int .i64 o, .int .i64 d, .int .i64 s, .int .i64 f, .int .i64 m] 38))) := (Below.refl _ w).alloc (Nat.le_refl _) _
 have CR := Lib.hid (fun n w' => reg_any [114] (by simp) n w')
 have CO := Lib.hid (off04_any f)
 have CI := Lib.hid (imm04_any m)
 have CB4 := Lib.hid (bits04_any o d s f m)
 unfold insV at CB4
 have CP := Lib.hid (fun h r w' => place_any r f h w')
 have CD := Lib.hid (fun h w' => digits_any m (imm_b h) w')
 have hrd := reg_sz d
 have hrs := reg_sz s
 have a7 := and_i64_7 o
 unfold insV
 cases h1 : (regIn d)
 focus
  have q1 := reg_none [114] d
  rw [h1] at q1
  simp only [Bool.not_true, Bool.not_false] at q1
  have blkA := True.intro
 rotate_left 1
 focus
  have q1 := reg_none [114] d
  rw [h1] at q1
  simp only [Bool.not_true, Bool.not_false] at q1
  cases h2 : (regIn s)
  focus
   have q2 := reg_none [114] s
   rw [h2] at q2
   simp only [Bool.not_true, Bool.not_false] at q2
   have blkA := True.intro
  rotate_left 1
  focus
   have q2 := reg_none [114] s
   rw [h2] at q2
   simp only [Bool.not_true, Bool.not_false] at q2
   cases h3 : (offIn f)
   focus
    have blkA := True.intro
   rotate_left 1
   focus
    cases h4 : (immIn m)
    focus
     have blkA := True.intro
    rotate_left 1
    focus
     cases h5 : (m == 0)
     focus
      have g5 : (m != 0) = true := by simp only [bne, h5]; rfl
      cases h6 : (o == 195)
      focus
       have g6 : (o != 195) = true := by simp only [bne, h6]; rfl
       cases h7 : (o == 219)
       focus
        have g7 : (o != 219) = true := by simp only [bne, h7]; rfl
        have blkA := True.intro
       rotate_left 1
       focus
        have g7 : (o != 219) = false := by simp only [bne, h7]; rfl
        exfalso
        simp only [beq_iff_eq] at *
        omega
      rotate_left 1
      focus
       have g6 : (o != 195) = false := by simp only [bne, h6]; rfl
       exfalso
       simp only [beq_iff_eq] at *
       omega
     rotate_left 1
     focus
      have g5 : (m != 0) = false := by simp only [bne, h5]; rfl
      obtain ⟨k0_0, z0_0⟩ := cat_ok (P := Tryz.prog) (show ({ data := #[42, 40, 117] } : ByteArray).size ≤ 3 by decide) (bits_sz o) (by decide)
      obtain ⟨k0_1, z0_1⟩ := cat_ok (P := Tryz.prog) z0_0 (show ({ data := #[32, 42, 41] } : ByteArray).size ≤ 3 by decide) (by decide)
      obtain ⟨k0_2, z0_2⟩ := cat_ok (P := Tryz.prog) z0_1 (place_sz d f (by assumption)) (by decide)
      obtain ⟨k0_3, z0_3⟩ := cat_ok (P := Tryz.prog) z0_2 (show ({ data := #[32, 61, 32] } : ByteArray).size ≤ 3 by decide) (by decide)
      obtain ⟨k0_4, z0_4⟩ := cat_ok (P := Tryz.prog) z0_3 (reg_sz s) (by decide)
      clear z0_0 z0_1 z0_2 z0_3 z0_4
 all_goals first
  |clear blkA
   go_enter Tryz.func64, Tryz.ntmps64
   go_wp2_with (first | (go_at_call 40; refine (CR.out _ _).mono ?_; rintro e w1 ⟨rfl, hb⟩; (try have hb := Below.undrew hb); first | (have hx := FB0.out.trans (hb.mono FB0.out.size); have hc := CB.below2 SB0.out hb; have FB0 := Lib.hid hx; have SB0 := Lib.hid hc; obtain ⟨d0, d1, d2, d3, d4⟩ := hc; clear hb hx)) | (go_at_call 90; refine (CO.out _).mono ?_; rintro e w1 ⟨rfl, rfl⟩) | (go_at_call 41; refine (CI.out _).mono ?_; rintro e w1 ⟨rfl, rfl⟩) | (go_at_call 91; refine (CB4.out _).mono ?_; rintro e w1 ⟨rfl, hb⟩; (try have hb := Below.undrew hb); first | (have hx := FB0.out.trans (hb.mono FB0.out.size); have hc := CB.below2 SB0.out hb; have FB0 := Lib.hid hx; have SB0 := Lib.hid hc; obtain ⟨d0, d1, d2, d3, d4⟩ := hc; clear hb hx)) | (go_at_call 92; refine (CP.out (by assumption) _ _).mono ?_; rintro e w1 ⟨rfl, hb⟩; (try have hb := Below.undrew hb); first | (have hx := FB0.out.trans (hb.mono FB0.out.size); have hc := CB.below2 SB0.out hb; have FB0 := Lib.hid hx; have SB0 := Lib.hid hc; obtain ⟨d0, d1, d2, d3, d4⟩ := hc; clear hb hx)) | (go_at_call 44; refine (CD.out (by assumption) _).mono ?_; rintro e w1 ⟨rfl, hb⟩; (try have hb := Below.undrew hb); first | (have hx := FB0.out.trans (hb.mono FB0.out.size); have hc := CB.below2 SB0.out hb; have FB0 := Lib.hid hx; have SB0 := Lib.hid hc; obtain ⟨d0, d1, d2, d3, d4⟩ := hc; clear hb hx)))
   all_goals go_region_held3 (fun W => W.cell? ⟨w.heap.size, 0, none⟩ = some (.int .i64 o) ∧ W.cell? ⟨w.heap.size, 1, none⟩ = some (.int .i64 d) ∧ W.cell? ⟨w.heap.size, 2, none⟩ = some (.int .i64 s) ∧ W.cell? ⟨w.heap.size, 3, none⟩ = some (.int .i64 f) ∧ W.cell? ⟨w.heap.size, 4, none⟩ = some (.int .i64 m)) (first | exact SB0.out) ((first | (go_at_call 40; refine (CR.out _ _).mono ?_; rintro e w1 ⟨rfl, hb⟩; (try have hb := Below.undrew hb); first | (have hx := FB0.out.trans (hb.mono FB0.out.size); have hc := CB.below2 SB0.out hb; have FB0 := Lib.hid hx; have SB0 := Lib.hid hc; obtain ⟨d0, d1, d2, d3, d4⟩ := hc; clear hb hx)) | (go_at_call 90; refine (CO.out _).mono ?_; rintro e w1 ⟨rfl, rfl⟩) | (go_at_call 41; refine (CI.out _).mono ?_; rintro e w1 ⟨rfl, rfl⟩) | (go_at_call 91; refine (CB4.out _).mono ?_; rintro e w1 ⟨rfl, hb⟩; (try have hb := Below.undrew hb); first | (have hx := FB0.out.trans (hb.mono FB0.out.size); have hc := CB.below2 SB0.out hb; have FB0 := Lib.hid hx; have SB0 := Lib.hid hc; obtain ⟨d0, d1, d2, d3, d4⟩ := hc; clear hb hx)) | (go_at_call 92; refine (CP.out (by assumption) _ _).mono ?_; rintro e w1 ⟨rfl, hb⟩; (try have hb := Below.undrew hb); first | (have hx := FB0.out.trans (hb.mono FB0.out.size); have hc := CB.below2 SB0.out hb; have FB0 := Lib.hid hx; have SB0 := Lib.hid hc; obtain ⟨d0, d1, d2, d3, d4⟩ := hc; clear hb hx)) | (go_at_call 44; refine (CD.out (by assumption) _).mono ?_; rintro e w1 ⟨rfl, hb⟩; (try have hb := Below.undrew hb); first | (have hx := FB0.out.trans (hb.mono FB0.out.size); have hc := CB.below2 SB0.out hb; have FB0 := Lib.hid hx; have SB0 := Lib.hid hc; obtain ⟨d0, d1, d2, d3, d4⟩ := hc; clear hb hx))))
   all_goals go_wp2_with (first | (go_at_call 40; refine (CR.out _ _).mono ?_; rintro e w1 ⟨rfl, hb⟩; (try have hb := Below.undrew hb); first | (have hx := FB0.out.trans (hb.mono FB0.out.size); have hc := CB.below2 SB0.out hb; have FB0 := Lib.hid hx; have SB0 := Lib.hid hc; obtain ⟨d0, d1, d2, d3, d4⟩ := hc; clear hb hx)) | (go_at_call 90; refine (CO.out _).mono ?_; rintro e w1 ⟨rfl, rfl⟩) | (go_at_call 41; refine (CI.out _).mono ?_; rintro e w1 ⟨rfl, rfl⟩) | (go_at_call 91; refine (CB4.out _).mono ?_; rintro e w1 ⟨rfl, hb⟩; (try have hb := Below.undrew hb); first | (have hx := FB0.out.trans (hb.mono FB0.out.size); have hc := CB.below2 SB0.out hb; have FB0 := Lib.hid hx; have SB0 := Lib.hid hc; obtain ⟨d0, d1, d2, d3, d4⟩ := hc; clear hb hx)) | (go_at_call 92; refine (CP.out (by assumption) _ _).mono ?_; rintro e w1 ⟨rfl, hb⟩; (try have hb := Below.undrew hb); first | (have hx := FB0.out.trans (hb.mono FB0.out.size); have hc := CB.below2 SB0.out hb; have FB0 := Lib.hid hx; have SB0 := Lib.hid hc; obtain ⟨d0, d1, d2, d3, d4⟩ := hc; clear hb hx)) | (go_at_call 44; refine (CD.out (by assumption) _).mono ?_; rintro e w1 ⟨rfl, hb⟩; (try have hb := Below.undrew hb); first | (have hx := FB0.out.trans (hb.mono FB0.out.size); have hc := CB.below2 SB0.out hb; have FB0 := Lib.hid hx; have SB0 := Lib.hid hc; obtain ⟨d0, d1, d2, d3, d4⟩ := hc; clear hb hx)))
   all_goals go_ret
   first
    | (have hgd := h7; clear hgd; all_goals first | exact ⟨ret_str (by rw [← ANS.out]; simp [movesL, moveOk, hc, hc2, hm, tx, ByteArray.data_append, h1, h2, h3, h4, h5, h6, h7]), FB0.out⟩)
    | (have hgd := h4; clear hgd; all_goals first | exact ⟨ret_str (by rw [← ANS.out]; simp [movesL, moveOk, hc, hc2, hm, tx, ByteArray.data_append, h1, h2, h3, h4]), FB0.out⟩)
    | (have hgd := h3; clear hgd; all_goals first | exact ⟨ret_str (by rw [← ANS.out]; simp [movesL, moveOk, hc, hc2, hm, tx, ByteArray.data_append, h1, h2, h3]), FB0.out⟩)
    | (have hgd := h2; clear hgd; all_goals first | exact ⟨ret_str (by rw [← ANS.out]; simp [movesL, moveOk, hc, hc2, hm, tx, ByteArray.data_append, h1, h2]), FB0.out⟩)
    | (have hgd := h1; clear hgd; all_goals first | exact ⟨ret_str (by rw [← ANS.out]; simp [movesL, moveOk, hc, hc2, hm, tx, ByteArray.data_append, h1]), FB0.out⟩)
  |go_enter Tryz.func64, Tryz.ntmps64
   go_wp2_with (first | (go_at_call 40; refine (CR.out _ _).mono ?_; rintro e w1 ⟨rfl, hb⟩; (try have hb := Below.undrew hb); first | (have hx := FB0.out.trans (hb.mono FB0.out.size); have hc := CB.below2 SB0.out hb; have FB0 := Lib.hid hx; have SB0 := Lib.hid hc; obtain ⟨d0, d1, d2, d3, d4⟩ := hc; clear hb hx)) | (go_at_call 90; refine (CO.out _).mono ?_; rintro e w1 ⟨rfl, rfl⟩) | (go_at_call 41; refine (CI.out _).mono ?_; rintro e w1 ⟨rfl, rfl⟩) | (go_at_call 91; refine (CB4.out _).mono ?_; rintro e w1 ⟨rfl, hb⟩; (try have hb := Below.undrew hb); first | (have hx := FB0.out.trans (hb.mono FB0.out.size); have hc := CB.below2 SB0.out hb; have FB0 := Lib.hid hx; have SB0 := Lib.hid hc; obtain ⟨d0, d1, d2, d3, d4⟩ := hc; clear hb hx)) | (go_at_call 92; refine (CP.out (by assumption) _ _).mono ?_; rintro e w1 ⟨rfl, hb⟩; (try have hb := Below.undrew hb); first | (have hx := FB0.out.trans (hb.mono FB0.out.size); have hc := CB.below2 SB0.out hb; have FB0 := Lib.hid hx; have SB0 := Lib.hid hc; obtain ⟨d0, d1, d2, d3, d4⟩ := hc; clear hb hx)) | (go_at_call 44; refine (CD.out (by assumption) _).mono ?_; rintro e w1 ⟨rfl, hb⟩; (try have hb := Below.undrew hb); first | (have hx := FB0.out.trans (hb.mono FB0.out.size); have hc := CB.below2 SB0.out hb; have FB0 := Lib.hid hx; have SB0 := Lib.hid hc; obtain ⟨d0, d1, d2, d3, d4⟩ := hc; clear hb hx)))
   iterate 2
    all_goals go_region_held3 (fun W => W.cell? ⟨w.heap.size, 0, none⟩ = some (.int .i64 o) ∧ W.cell? ⟨w.heap.size, 1, none⟩ = some (.int .i64 d) ∧ W.cell? ⟨w.heap.size, 2, none⟩ = some (.int .i64 s) ∧ W.cell? ⟨w.heap.size, 3, none⟩ = some (.int .i64 f) ∧ W.cell? ⟨w.heap.size, 4, none⟩ = some (.int .i64 m)) (first | exact SB0.out) ((first | (go_at_call 40; refine (CR.out _ _).mono ?_; rintro e w1 ⟨rfl, hb⟩; (try have hb := Below.undrew hb); first | (have hx := FB0.out.trans (hb.mono FB0.out.size); have hc := CB.below2 SB0.out hb; have FB0 := Lib.hid hx; have SB0 := Lib.hid hc; obtain ⟨d0, d1, d2, d3, d4⟩ := hc; clear hb hx)) | (go_at_call 90; refine (CO.out _).mono ?_; rintro e w1 ⟨rfl, rfl⟩) | (go_at_call 41; refine (CI.out _).mono ?_; rintro e w1 ⟨rfl, rfl⟩) | (go_at_call 91; refine (CB4.out _).mono ?_; rintro e w1 ⟨rfl, hb⟩; (try have hb := Below.undrew hb); first | (have hx := FB0.out.trans (hb.mono FB0.out.size); have hc := CB.below2 SB0.out hb; have FB0 := Lib.hid hx; have SB0 := Lib.hid hc; obtain ⟨d0, d1, d2, d3, d4⟩ := hc; clear hb hx)) | (go_at_call 92; refine (CP.out (by assumption) _ _).mono ?_; rintro e w1 ⟨rfl, hb⟩; (try have hb := Below.undrew hb); first | (have hx := FB0.out.trans (hb.mono FB0.out.size); have hc := CB.below2 SB0.out hb; have FB0 := Lib.hid hx; have SB0 := Lib.hid hc; obtain ⟨d0, d1, d2, d3, d4⟩ := hc; clear hb hx)) | (go_at_call 44; refine (CD.out (by assumption) _).mono ?_; rintro e w1 ⟨rfl, hb⟩; (try have hb := Below.undrew hb); first | (have hx := FB0.out.trans (hb.mono FB0.out.size); have hc := CB.below2 SB0.out hb; have FB0 := Lib.hid hx; have SB0 := Lib.hid hc; obtain ⟨d0, d1, d2, d3, d4⟩ := hc; clear hb hx))))
    all_goals go_wp2_with (first | (go_at_call 40; refine (CR.out _ _).mono ?_; rintro e w1 ⟨rfl, hb⟩; (try have hb := Below.undrew hb); first | (have hx := FB0.out.trans (hb.mono FB0.out.size); have hc := CB.below2 SB0.out hb; have FB0 := Lib.hid hx; have SB0 := Lib.hid hc; obtain ⟨d0, d1, d2, d3, d4⟩ := hc; clear hb hx)) | (go_at_call 90; refine (CO.out _).mono ?_; rintro e w1 ⟨rfl, rfl⟩) | (go_at_call 41; refine (CI.out _).mono ?_; rintro e w1 ⟨rfl, rfl⟩) | (go_at_call 91; refine (CB4.out _).mono ?_; rintro e w1 ⟨rfl, hb⟩; (try have hb := Below.undrew hb); first | (have hx := FB0.out.trans (hb.mono FB0.out.size); have hc := CB.below2 SB0.out hb; have FB0 := Lib.hid hx; have SB0 := Lib.hid hc; obtain ⟨d0, d1, d2, d3, d4⟩ := hc; clear hb hx)) | (go_at_call 92; refine (CP.out (by assumption) _ _).mono ?_; rintro e w1 ⟨rfl, hb⟩; (try have hb := Below.undrew hb); first | (have hx := FB0.out.trans (hb.mono FB0.out.size); have hc := CB.below2 SB0.out hb; have FB0 := Lib.hid hx; have SB0 := Lib.hid hc; obtain ⟨d0, d1, d2, d3, d4⟩ := hc; clear hb hx)) | (go_at_call 44; refine (CD.out (by assumption) _).mono ?_; rintro e w1 ⟨rfl, hb⟩; (try have hb := Below.undrew hb); first | (have hx := FB0.out.trans (hb.mono FB0.out.size); have hc := CB.below2 SB0.out hb; have FB0 := Lib.hid hx; have SB0 := Lib.hid hc; obtain ⟨d0, d1, d2, d3, d4⟩ := hc; clear hb hx)))
   all_goals go_ret
   all_goals first | exact ⟨ret_str (by rw [← ANS.out]; simp [movesL, moveOk, hc, hc2, hm, tx, ByteArray.data_append, h1, h2, h3, h4, h5]), FB0.out⟩

set_option maxHeartbeats 4000000 in
theorem moves_none (o d s f m : Int) (w : World) (hc : (o % 8 == 1) = false) (hc2 : (o % 8 == 2) = false) (hm : (o / 32 == 3) = false) (ho : (o == 195) = false) (ho2 : (o == 219) = false) :
  Calls Tryz.prog 64 #[insV o d s f m] w fun e w' => e = .returned (.string (tx (movesL o d s f m))) ∧ Below w.heap.size w w' := by
 obtain ⟨ans, hans⟩ : ∃ b, movesL o d s f m = b := ⟨_, rfl⟩
 rw [hans]
 have ANS := Lib.hid hans
 clear hans
 have n5 := Cells5.new w ⟨o, d, s, f, m⟩ 38
 have SB0 := Lib.hid (show CB w.heap.size o d s f m (w.alloc (.cells #[.int .i64 o, .int .i64 d, .int .i64 s, .int .i64 f, .int .i64 m] 38)) from n5)
 clear n5
 have FB0 : Hid (Below w.heap.size w (w.alloc (.cells #[.int .i64 o, .int .i64 d, .int .i64 s, .int .i64 f, .int .i64 m] 38))) := (Below.refl _ w).alloc (Nat.le_refl _) _
 have CR := Lib.hid (fun n w' => reg_any [114] (by simp) n w')
 have CO := Lib.hid (off04_any f)
 have CI := Lib.hid (imm04_any m)
 have CB4 := Lib.hid (bits04_any o d s f m)
 unfold insV at CB4
 have CP := Lib.hid (fun h r w' => place_any r f h w')
 have CD := Lib.hid (fun h w' => digits_any m (imm_b h) w')
 have hrd := reg_sz d
 have hrs := reg_sz s
 have a7 := and_i64_7 o
 have go : (o != 195) = true := by simp only [bne, ho]; rfl
 have go2 : (o != 219) = true := by simp only [bne, ho2]; rfl
 unfold insV
 cases h1 : (regIn d)
 focus
  have q1 := reg_none [114] d
  rw [h1] at q1
  simp only [Bool.not_true, Bool.not_false] at q1
 rotate_left 1
 focus
  have q1 := reg_none [114] d
  rw [h1] at q1
  simp only [Bool.not_true, Bool.not_false] at q1
  cases h2 : (regIn s)
  focus
   have q2 := reg_none [114] s
   rw [h2] at q2
   simp only [Bool.not_true, Bool.not_false] at q2
  rotate_left 1
  focus
   have q2 := reg_none [114] s
   rw [h2] at q2
   simp only [Bool.not_true, Bool.not_false] at q2
   cases h3 : (offIn f)
   focus
    skip
   rotate_left 1
   focus
    cases h4 : (immIn m)
    focus
     skip
    rotate_left 1
    focus
     skip
 all_goals
  go_enter Tryz.func64, Tryz.ntmps64
  go_wp2_with (first | (go_at_call 40; refine (CR.out _ _).mono ?_; rintro e w1 ⟨rfl, hb⟩; (try have hb := Below.undrew hb); first | (have hx := FB0.out.trans (hb.mono FB0.out.size); have hc := CB.below2 SB0.out hb; have FB0 := Lib.hid hx; have SB0 := Lib.hid hc; obtain ⟨d0, d1, d2, d3, d4⟩ := hc; clear hb hx)) | (go_at_call 90; refine (CO.out _).mono ?_; rintro e w1 ⟨rfl, rfl⟩) | (go_at_call 41; refine (CI.out _).mono ?_; rintro e w1 ⟨rfl, rfl⟩) | (go_at_call 91; refine (CB4.out _).mono ?_; rintro e w1 ⟨rfl, hb⟩; (try have hb := Below.undrew hb); first | (have hx := FB0.out.trans (hb.mono FB0.out.size); have hc := CB.below2 SB0.out hb; have FB0 := Lib.hid hx; have SB0 := Lib.hid hc; obtain ⟨d0, d1, d2, d3, d4⟩ := hc; clear hb hx)) | (go_at_call 92; refine (CP.out (by assumption) _ _).mono ?_; rintro e w1 ⟨rfl, hb⟩; (try have hb := Below.undrew hb); first | (have hx := FB0.out.trans (hb.mono FB0.out.size); have hc := CB.below2 SB0.out hb; have FB0 := Lib.hid hx; have SB0 := Lib.hid hc; obtain ⟨d0, d1, d2, d3, d4⟩ := hc; clear hb hx)) | (go_at_call 44; refine (CD.out (by assumption) _).mono ?_; rintro e w1 ⟨rfl, hb⟩; (try have hb := Below.undrew hb); first | (have hx := FB0.out.trans (hb.mono FB0.out.size); have hc := CB.below2 SB0.out hb; have FB0 := Lib.hid hx; have SB0 := Lib.hid hc; obtain ⟨d0, d1, d2, d3, d4⟩ := hc; clear hb hx)))
  all_goals go_region_held3 (fun W => W.cell? ⟨w.heap.size, 0, none⟩ = some (.int .i64 o) ∧ W.cell? ⟨w.heap.size, 1, none⟩ = some (.int .i64 d) ∧ W.cell? ⟨w.heap.size, 2, none⟩ = some (.int .i64 s) ∧ W.cell? ⟨w.heap.size, 3, none⟩ = some (.int .i64 f) ∧ W.cell? ⟨w.heap.size, 4, none⟩ = some (.int .i64 m)) (first | exact SB0.out) ((first | (go_at_call 40; refine (CR.out _ _).mono ?_; rintro e w1 ⟨rfl, hb⟩; (try have hb := Below.undrew hb); first | (have hx := FB0.out.trans (hb.mono FB0.out.size); have hc := CB.below2 SB0.out hb; have FB0 := Lib.hid hx; have SB0 := Lib.hid hc; obtain ⟨d0, d1, d2, d3, d4⟩ := hc; clear hb hx)) | (go_at_call 90; refine (CO.out _).mono ?_; rintro e w1 ⟨rfl, rfl⟩) | (go_at_call 41; refine (CI.out _).mono ?_; rintro e w1 ⟨rfl, rfl⟩) | (go_at_call 91; refine (CB4.out _).mono ?_; rintro e w1 ⟨rfl, hb⟩; (try have hb := Below.undrew hb); first | (have hx := FB0.out.trans (hb.mono FB0.out.size); have hc := CB.below2 SB0.out hb; have FB0 := Lib.hid hx; have SB0 := Lib.hid hc; obtain ⟨d0, d1, d2, d3, d4⟩ := hc; clear hb hx)) | (go_at_call 92; refine (CP.out (by assumption) _ _).mono ?_; rintro e w1 ⟨rfl, hb⟩; (try have hb := Below.undrew hb); first | (have hx := FB0.out.trans (hb.mono FB0.out.size); have hc := CB.below2 SB0.out hb; have FB0 := Lib.hid hx; have SB0 := Lib.hid hc; obtain ⟨d0, d1, d2, d3, d4⟩ := hc; clear hb hx)) | (go_at_call 44; refine (CD.out (by assumption) _).mono ?_; rintro e w1 ⟨rfl, hb⟩; (try have hb := Below.undrew hb); first | (have hx := FB0.out.trans (hb.mono FB0.out.size); have hc := CB.below2 SB0.out hb; have FB0 := Lib.hid hx; have SB0 := Lib.hid hc; obtain ⟨d0, d1, d2, d3, d4⟩ := hc; clear hb hx))))
  all_goals go_wp2_with (first | (go_at_call 40; refine (CR.out _ _).mono ?_; rintro e w1 ⟨rfl, hb⟩; (try have hb := Below.undrew hb); first | (have hx := FB0.out.trans (hb.mono FB0.out.size); have hc := CB.below2 SB0.out hb; have FB0 := Lib.hid hx; have SB0 := Lib.hid hc; obtain ⟨d0, d1, d2, d3, d4⟩ := hc; clear hb hx)) | (go_at_call 90; refine (CO.out _).mono ?_; rintro e w1 ⟨rfl, rfl⟩) | (go_at_call 41; refine (CI.out _).mono ?_; rintro e w1 ⟨rfl, rfl⟩) | (go_at_call 91; refine (CB4.out _).mono ?_; rintro e w1 ⟨rfl, hb⟩; (try have hb := Below.undrew hb); first | (have hx := FB0.out.trans (hb.mono FB0.out.size); have hc := CB.below2 SB0.out hb; have FB0 := Lib.hid hx; have SB0 := Lib.hid hc; obtain ⟨d0, d1, d2, d3, d4⟩ := hc; clear hb hx)) | (go_at_call 92; refine (CP.out (by assumption) _ _).mono ?_; rintro e w1 ⟨rfl, hb⟩; (try have hb := Below.undrew hb); first | (have hx := FB0.out.trans (hb.mono FB0.out.size); have hc := CB.below2 SB0.out hb; have FB0 := Lib.hid hx; have SB0 := Lib.hid hc; obtain ⟨d0, d1, d2, d3, d4⟩ := hc; clear hb hx)) | (go_at_call 44; refine (CD.out (by assumption) _).mono ?_; rintro e w1 ⟨rfl, hb⟩; (try have hb := Below.undrew hb); first | (have hx := FB0.out.trans (hb.mono FB0.out.size); have hc := CB.below2 SB0.out hb; have FB0 := Lib.hid hx; have SB0 := Lib.hid hc; obtain ⟨d0, d1, d2, d3, d4⟩ := hc; clear hb hx)))
  all_goals go_ret
  first
   | (have hgd := h4; clear hgd; all_goals first | exact ⟨ret_str (by rw [← ANS.out]; simp [movesL, moveOk, hc, hc2, hm, ho, ho2, tx, ByteArray.data_append, h1, h2, h3, h4]), FB0.out⟩)
   | (have hgd := h3; clear hgd; all_goals first | exact ⟨ret_str (by rw [← ANS.out]; simp [movesL, moveOk, hc, hc2, hm, ho, ho2, tx, ByteArray.data_append, h1, h2, h3]), FB0.out⟩)
   | (have hgd := h2; clear hgd; all_goals first | exact ⟨ret_str (by rw [← ANS.out]; simp [movesL, moveOk, hc, hc2, hm, ho, ho2, tx, ByteArray.data_append, h1, h2]), FB0.out⟩)
   | (have hgd := h1; clear hgd; all_goals first | exact ⟨ret_str (by rw [← ANS.out]; simp [movesL, moveOk, hc, hc2, hm, ho, ho2, tx, ByteArray.data_append, h1]), FB0.out⟩)

theorem lk0_sz (s : Int) : ((({ data := #[43, 61, 32] } : ByteArray) ++ tx (regL [114] s))).size ≤ 15 := by
 have h := reg_sz s
 have h1 : ({ data := #[43, 61, 32] } : ByteArray).size = 3 := rfl
 rw [ByteArray.size_append, h1]
 omega
theorem lk1_sz (s : Int) : ((({ data := #[43, 61, 32] } : ByteArray) ++ tx (regL [114] s)) ++ ({ data := #[32, 102, 101, 116, 99, 104] } : ByteArray)).size ≤ 21 := by
 have h := reg_sz s
 have h1 : ({ data := #[43, 61, 32] } : ByteArray).size = 3 := rfl
 have h2 : ({ data := #[32, 102, 101, 116, 99, 104] } : ByteArray).size = 6 := rfl
 rw [ByteArray.size_append, ByteArray.size_append, h1, h2]
 omega
theorem lk64_sz (s : Int) : ((({ data := #[124, 61, 32] } : ByteArray) ++ tx (regL [114] s))).size ≤ 15 := by
 have h := reg_sz s
 have h1 : ({ data := #[124, 61, 32] } : ByteArray).size = 3 := rfl
 rw [ByteArray.size_append, h1]
 omega
theorem lk65_sz (s : Int) : ((({ data := #[124, 61, 32] } : ByteArray) ++ tx (regL [114] s)) ++ ({ data := #[32, 102, 101, 116, 99, 104] } : ByteArray)).size ≤ 21 := by
 have h := reg_sz s
 have h1 : ({ data := #[124, 61, 32] } : ByteArray).size = 3 := rfl
 have h2 : ({ data := #[32, 102, 101, 116, 99, 104] } : ByteArray).size = 6 := rfl
 rw [ByteArray.size_append, ByteArray.size_append, h1, h2]
 omega
theorem lk80_sz (s : Int) : ((({ data := #[38, 61, 32] } : ByteArray) ++ tx (regL [114] s))).size ≤ 15 := by
 have h := reg_sz s
 have h1 : ({ data := #[38, 61, 32] } : ByteArray).size = 3 := rfl
 rw [ByteArray.size_append, h1]
 omega
theorem lk81_sz (s : Int) : ((({ data := #[38, 61, 32] } : ByteArray) ++ tx (regL [114] s)) ++ ({ data := #[32, 102, 101, 116, 99, 104] } : ByteArray)).size ≤ 21 := by
 have h := reg_sz s
 have h1 : ({ data := #[38, 61, 32] } : ByteArray).size = 3 := rfl
 have h2 : ({ data := #[32, 102, 101, 116, 99, 104] } : ByteArray).size = 6 := rfl
 rw [ByteArray.size_append, ByteArray.size_append, h1, h2]
 omega
theorem lk160_sz (s : Int) : ((({ data := #[94, 61, 32] } : ByteArray) ++ tx (regL [114] s))).size ≤ 15 := by
 have h := reg_sz s
 have h1 : ({ data := #[94, 61, 32] } : ByteArray).size = 3 := rfl
 rw [ByteArray.size_append, h1]
 omega
theorem lk161_sz (s : Int) : ((({ data := #[94, 61, 32] } : ByteArray) ++ tx (regL [114] s)) ++ ({ data := #[32, 102, 101, 116, 99, 104] } : ByteArray)).size ≤ 21 := by
 have h := reg_sz s
 have h1 : ({ data := #[94, 61, 32] } : ByteArray).size = 3 := rfl
 have h2 : ({ data := #[32, 102, 101, 116, 99, 104] } : ByteArray).size = 6 := rfl
 rw [ByteArray.size_append, ByteArray.size_append, h1, h2]
 omega
theorem lk225_sz (s : Int) : ((({ data := #[120, 99, 104, 103, 32] } : ByteArray) ++ tx (regL [114] s))).size ≤ 17 := by
 have h := reg_sz s
 have h1 : ({ data := #[120, 99, 104, 103, 32] } : ByteArray).size = 5 := rfl
 rw [ByteArray.size_append, h1]
 omega
theorem lk241_sz (s : Int) : ((({ data := #[99, 109, 112, 120, 99, 104, 103, 32] } : ByteArray) ++ tx (regL [114] s))).size ≤ 20 := by
 have h := reg_sz s
 have h1 : ({ data := #[99, 109, 112, 120, 99, 104, 103, 32] } : ByteArray).size = 8 := rfl
 rw [ByteArray.size_append, h1]
 omega
end Go.Proofs.YtemiklbkfogjeaaGreatDoor.Ln
