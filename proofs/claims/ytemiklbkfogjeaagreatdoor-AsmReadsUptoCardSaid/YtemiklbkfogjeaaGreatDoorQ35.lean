/-
  The reference's lines: loads and stores.
-/
import Derived.Test.YtemiklbkfogjeaaGreatDoorQ34
namespace Go.Proofs.YtemiklbkfogjeaaGreatDoor.Ln
open Go Go.RowKit
set_option linter.unusedVariables false
set_option linter.unusedSimpArgs false
set_option maxRecDepth 100000
theorem reg_sz (n : Int) : (tx (regL [114] n)).size ≤ 12 := by rw [tx_size]; exact regL_len [114] n
theorem bits_sz (o : Int) : (tx (bitsL o)).size ≤ 11 := by rw [tx_size]; exact bitsL_len o
theorem place_sz (r off : Int) (h : offIn off = true) : (tx (placeL r off)).size ≤ 30 := by rw [tx_size]; exact placeL_len r off h
theorem imm_b {m : Int} (h : immIn m = true) : -10000000000 < m ∧ m < 10000000000 := by
 unfold immIn at h
 simp at h
 omega
theorem imm_sz (m : Int) (h : immIn m = true) : (tx (digL m)).size ≤ 11 := by rw [tx_size]; exact digL_len m (imm_b h)
def moveOk (d s f m : Int) : Bool := regIn d && (regIn s && (offIn f && immIn m))
/-- What a lock's line says behind the place. -/
def lockW (s m : Int) : List UInt8 :=
 if m == 0 then [43, 61, 32] ++ regL [114] s else if m == 1 then [43, 61, 32] ++ regL [114] s ++ [32, 102, 101, 116, 99, 104] else
 if m == 64 then [124, 61, 32] ++ regL [114] s else if m == 65 then [124, 61, 32] ++ regL [114] s ++ [32, 102, 101, 116, 99, 104] else
 if m == 80 then [38, 61, 32] ++ regL [114] s else if m == 81 then [38, 61, 32] ++ regL [114] s ++ [32, 102, 101, 116, 99, 104] else
 if m == 160 then [94, 61, 32] ++ regL [114] s else if m == 161 then [94, 61, 32] ++ regL [114] s ++ [32, 102, 101, 116, 99, 104] else
 if m == 225 then [120, 99, 104, 103, 32] ++ regL [114] s else if m == 241 then [99, 109, 112, 120, 99, 104, 103, 32] ++ regL [114] s else []
def movesL (o d s f m : Int) : List UInt8 :=
 if !moveOk d s f m then [] else
 if o % 8 == 1 then
  if o / 32 == 4 && !(o == 153) then (if m == 0 then regL [114] d ++ [32, 61, 32, 42, 40] ++ [115] ++ bitsL o ++ [32, 42, 41] ++ placeL s f else [])
  else if o / 32 == 3 then (if m == 0 then regL [114] d ++ [32, 61, 32, 42, 40] ++ [117] ++ bitsL o ++ [32, 42, 41] ++ placeL s f else [])
  else []
 else if o % 8 == 2 then (if o / 32 == 3 then (if s == 0 then [42, 40, 117] ++ bitsL o ++ [32, 42, 41] ++ placeL d f ++ [32, 61, 32] ++ digL m else []) else [])
 else if o / 32 == 3 && m == 0 then [42, 40, 117] ++ bitsL o ++ [32, 42, 41] ++ placeL d f ++ [32, 61, 32] ++ regL [114] s
 else if o == 195 || o == 219 then (if lockW s m = [] then [] else [108, 111, 99, 107, 32, 42, 40, 117] ++ bitsL o ++ [32, 42, 41] ++ placeL d f ++ [32] ++ lockW s m)
 else []

set_option maxHeartbeats 4000000 in
theorem moves_load (o d s f m : Int) (w : World) (hc : (o % 8 == 1) = true) :
  Calls Tryz.prog 64 #[insV o d s f m] w fun e w' => e = .returned (.string (tx (movesL o d s f m))) ∧ Below w.heap.size w w' := by
 obtain ⟨ans, hans⟩ : ∃ b, movesL o d s f m = b := ⟨_, rfl⟩
 rw [hans]
 have ANS := Lib.hid hans
 clear hans
 have n5 := Cells5.new w ⟨o, d, s, f, m⟩ 38
 have SB0 := Lib.hid (show CB w.heap.size o d s f m (w.alloc (.cells #[.int .i64 o, .int .i64 d, .int .i64 s, .int .i64 f, .int .i64 m] 38)) from n5)
 clear n5
 have FB0 : Hid (Below w.heap.size w (w.alloc (.cells #[.int .i64 o, .int .i64 d, .int .i64 s, .int .i64 f, .int .i64 m] 38))) := (Below.refl _ w).alloc (Nat.le_refl _) _
 have CR := Lib.hid (fun n w' => reg_any [114] (by simp) n w')
 have CO := Lib.hid (off04_any f)
 have CI := Lib.hid (imm04_any m)
 have CB4 := Lib.hid (bits04_any o d s f m)
 unfold insV at CB4
 have CP := Lib.hid (fun h r w' => place_any r f h w')
 have CD := Lib.hid (fun h w' => digits_any m (imm_b h) w')
 have hrd := reg_sz d
 have hrs := reg_sz s
 have a7 := and_i64_7 o
 unfold insV
 cases h1 : (regIn d)
 focus
  have q1 := reg_none [114] d
  rw [h1] at q1
  simp only [Bool.not_true, Bool.not_false] at q1
  have blkA := True.intro
 rotate_left 1
 focus
  have q1 := reg_none [114] d
  rw [h1] at q1
  simp only [Bool.not_true, Bool.not_false] at q1
  cases h2 : (regIn s)
  focus
   have q2 := reg_none [114] s
   rw [h2] at q2
   simp only [Bool.not_true, Bool.not_false] at q2
   have blkA := True.intro
  rotate_left 1
  focus
   have q2 := reg_none [114] s
   rw [h2] at q2
   simp only [Bool.not_true, Bool.not_false] at q2
   cases h3 : (offIn f)
   focus
    have blkA := True.intro
   rotate_left 1
   focus
    cases h4 : (immIn m)
    focus
     have blkA := True.intro
    rotate_left 1
    focus
     cases h5 : (o / 32 == 4)
     focus
      have g5 : (o / 32 != 4) = true := by simp only [bne, h5]; rfl
      cases h6 : (o / 32 == 3)
      focus
       have g6 : (o / 32 != 3) = true := by simp only [bne, h6]; rfl
       have blkA := True.intro
      rotate_left 1
      focus
       have g6 : (o / 32 != 3) = false := by simp only [bne, h6]; rfl
       cases h7 : (m == 0)
       focus
        have g7 : (m != 0) = true := by simp only [bne, h7]; rfl
        have blkA := True.intro
       rotate_left 1
       focus
        have g7 : (m != 0) = false := by simp only [bne, h7]; rfl
        obtain ⟨k0_0, z0_0⟩ := cat_ok (P := Tryz.prog) (reg_sz d) (show ({ data := #[32, 61, 32, 42, 40] } : ByteArray).size ≤ 5 by decide) (by decide)
        obtain ⟨k0_1, z0_1⟩ := cat_ok (P := Tryz.prog) z0_0 (show ({ data := #[117] } : ByteArray).size ≤ 1 by decide) (by decide)
        obtain ⟨k0_2, z0_2⟩ := cat_ok (P := Tryz.prog) z0_1 (bits_sz o) (by decide)
        obtain ⟨k0_3, z0_3⟩ := cat_ok (P := Tryz.prog) z0_2 (show ({ data := #[32, 42, 41] } : ByteArray).size ≤ 3 by decide) (by decide)
        obtain ⟨k0_4, z0_4⟩ := cat_ok (P := Tryz.prog) z0_3 (place_sz s f (by assumption)) (by decide)
        clear z0_0 z0_1 z0_2 z0_3 z0_4
     rotate_left 3
     focus
      have g5 : (o / 32 != 4) = false := by simp only [bne, h5]; rfl
      cases h6 : (o == 153)
      focus
       have g6 : (o != 153) = true := by simp only [bne, h6]; rfl
       cases h7 : (m == 0)
       focus
        have g7 : (m != 0) = true := by simp only [bne, h7]; rfl
        have blkA := True.intro
       rotate_left 1
       focus
        have g7 : (m != 0) = false := by simp only [bne, h7]; rfl
        obtain ⟨k0_0, z0_0⟩ := cat_ok (P := Tryz.prog) (reg_sz d) (show ({ data := #[32, 61, 32, 42, 40] } : ByteArray).size ≤ 5 by decide) (by decide)
        obtain ⟨k0_1, z0_1⟩ := cat_ok (P := Tryz.prog) z0_0 (show ({ data := #[115] } : ByteArray).size ≤ 1 by decide) (by decide)
        obtain ⟨k0_2, z0_2⟩ := cat_ok (P := Tryz.prog) z0_1 (bits_sz o) (by decide)
        obtain ⟨k0_3, z0_3⟩ := cat_ok (P := Tryz.prog) z0_2 (show ({ data := #[32, 42, 41] } : ByteArray).size ≤ 3 by decide) (by decide)
        obtain ⟨k0_4, z0_4⟩ := cat_ok (P := Tryz.prog) z0_3 (place_sz s f (by assumption)) (by decide)
        clear z0_0 z0_1 z0_2 z0_3 z0_4
      rotate_left 2
      focus
       have g6 : (o != 153) = false := by simp only [bne, h6]; rfl
       cases h7 : (o / 32 == 3)
       focus
        have g7 : (o / 32 != 3) = true := by simp only [bne, h7]; rfl
        have blkA := True.intro
       rotate_left 1
       focus
        have g7 : (o / 32 != 3) = false := by simp only [bne, h7]; rfl
        exfalso
        simp only [beq_iff_eq] at *
        omega
 all_goals first
  |clear blkA
   go_enter Tryz.func64, Tryz.ntmps64
   go_wp2_with (first | (go_at_call 40; refine (CR.out _ _).mono ?_; rintro e w1 ⟨rfl, hb⟩; (try have hb := Below.undrew hb); first | (have hx := FB0.out.trans (hb.mono FB0.out.size); have hc := CB.below2 SB0.out hb; have FB0 := Lib.hid hx; have SB0 := Lib.hid hc; obtain ⟨d0, d1, d2, d3, d4⟩ := hc; clear hb hx)) | (go_at_call 90; refine (CO.out _).mono ?_; rintro e w1 ⟨rfl, rfl⟩) | (go_at_call 41; refine (CI.out _).mono ?_; rintro e w1 ⟨rfl, rfl⟩) | (go_at_call 91; refine (CB4.out _).mono ?_; rintro e w1 ⟨rfl, hb⟩; (try have hb := Below.undrew hb); first | (have hx := FB0.out.trans (hb.mono FB0.out.size); have hc := CB.below2 SB0.out hb; have FB0 := Lib.hid hx; have SB0 := Lib.hid hc; obtain ⟨d0, d1, d2, d3, d4⟩ := hc; clear hb hx)) | (go_at_call 92; refine (CP.out (by assumption) _ _).mono ?_; rintro e w1 ⟨rfl, hb⟩; (try have hb := Below.undrew hb); first | (have hx := FB0.out.trans (hb.mono FB0.out.size); have hc := CB.below2 SB0.out hb; have FB0 := Lib.hid hx; have SB0 := Lib.hid hc; obtain ⟨d0, d1, d2, d3, d4⟩ := hc; clear hb hx)) | (go_at_call 44; refine (CD.out (by assumption) _).mono ?_; rintro e w1 ⟨rfl, hb⟩; (try have hb := Below.undrew hb); first | (have hx := FB0.out.trans (hb.mono FB0.out.size); have hc := CB.below2 SB0.out hb; have FB0 := Lib.hid hx; have SB0 := Lib.hid hc; obtain ⟨d0, d1, d2, d3, d4⟩ := hc; clear hb hx)))
   all_goals go_region_held3 (fun W => W.cell? ⟨w.heap.size, 0, none⟩ = some (.int .i64 o) ∧ W.cell? ⟨w.heap.size, 1, none⟩ = some (.int .i64 d) ∧ W.cell? ⟨w.heap.size, 2, none⟩ = some (.int .i64 s) ∧ W.cell? ⟨w.heap.size, 3, none⟩ = some (.int .i64 f) ∧ W.cell? ⟨w.heap.size, 4, none⟩ = some (.int .i64 m)) (first | exact SB0.out) ((first | (go_at_call 40; refine (CR.out _ _).mono ?_; rintro e w1 ⟨rfl, hb⟩; (try have hb := Below.undrew hb); first | (have hx := FB0.out.trans (hb.mono FB0.out.size); have hc := CB.below2 SB0.out hb; have FB0 := Lib.hid hx; have SB0 := Lib.hid hc; obtain ⟨d0, d1, d2, d3, d4⟩ := hc; clear hb hx)) | (go_at_call 90; refine (CO.out _).mono ?_; rintro e w1 ⟨rfl, rfl⟩) | (go_at_call 41; refine (CI.out _).mono ?_; rintro e w1 ⟨rfl, rfl⟩) | (go_at_call 91; refine (CB4.out _).mono ?_; rintro e w1 ⟨rfl, hb⟩; (try have hb := Below.undrew hb); first | (have hx := FB0.out.trans (hb.mono FB0.out.size); have hc := CB.below2 SB0.out hb; have FB0 := Lib.hid hx; have SB0 := Lib.hid hc; obtain ⟨d0, d1, d2, d3, d4⟩ := hc; clear hb hx)) | (go_at_call 92; refine (CP.out (by assumption) _ _).mono ?_; rintro e w1 ⟨rfl, hb⟩; (try have hb := Below.undrew hb); first | (have hx := FB0.out.trans (hb.mono FB0.out.size); have hc := CB.below2 SB0.out hb; have FB0 := Lib.hid hx; have SB0 := Lib.hid hc; obtain ⟨d0, d1, d2, d3, d4⟩ := hc; clear hb hx)) | (go_at_call 44; refine (CD.out (by assumption) _).mono ?_; rintro e w1 ⟨rfl, hb⟩; (try have hb := Below.undrew hb); first | (have hx := FB0.out.trans (hb.mono FB0.out.size); have hc := CB.below2 SB0.out hb; have FB0 := Lib.hid hx; have SB0 := Lib.hid hc; obtain ⟨d0, d1, d2, d3, d4⟩ := hc; clear hb hx))))
   all_goals go_wp2_with (first | (go_at_call 40; refine (CR.out _ _).mono ?_; rintro e w1 ⟨rfl, hb⟩; (try have hb := Below.undrew hb); first | (have hx := FB0.out.trans (hb.mono FB0.out.size); have hc := CB.below2 SB0.out hb; have FB0 := Lib.hid hx; have SB0 := Lib.hid hc; obtain ⟨d0, d1, d2, d3, d4⟩ := hc; clear hb hx)) | (go_at_call 90; refine (CO.out _).mono ?_; rintro e w1 ⟨rfl, rfl⟩) | (go_at_call 41; refine (CI.out _).mono ?_; rintro e w1 ⟨rfl, rfl⟩) | (go_at_call 91; refine (CB4.out _).mono ?_; rintro e w1 ⟨rfl, hb⟩; (try have hb := Below.undrew hb); first | (have hx := FB0.out.trans (hb.mono FB0.out.size); have hc := CB.below2 SB0.out hb; have FB0 := Lib.hid hx; have SB0 := Lib.hid hc; obtain ⟨d0, d1, d2, d3, d4⟩ := hc; clear hb hx)) | (go_at_call 92; refine (CP.out (by assumption) _ _).mono ?_; rintro e w1 ⟨rfl, hb⟩; (try have hb := Below.undrew hb); first | (have hx := FB0.out.trans (hb.mono FB0.out.size); have hc := CB.below2 SB0.out hb; have FB0 := Lib.hid hx; have SB0 := Lib.hid hc; obtain ⟨d0, d1, d2, d3, d4⟩ := hc; clear hb hx)) | (go_at_call 44; refine (CD.out (by assumption) _).mono ?_; rintro e w1 ⟨rfl, hb⟩; (try have hb := Below.undrew hb); first | (have hx := FB0.out.trans (hb.mono FB0.out.size); have hc := CB.below2 SB0.out hb; have FB0 := Lib.hid hx; have SB0 := Lib.hid hc; obtain ⟨d0, d1, d2, d3, d4⟩ := hc; clear hb hx)))
   all_goals go_ret
   first
    | (have hgd := h7; clear hgd; all_goals first | exact ⟨ret_str (by rw [← ANS.out]; simp [movesL, moveOk, hc, tx, ByteArray.data_append, h1, h2, h3, h4, h5, h6, h7]), FB0.out⟩)
    | (have hgd := h6; clear hgd; all_goals first | exact ⟨ret_str (by rw [← ANS.out]; simp [movesL, moveOk, hc, tx, ByteArray.data_append, h1, h2, h3, h4, h5, h6]), FB0.out⟩)
    | (have hgd := h4; clear hgd; all_goals first | exact ⟨ret_str (by rw [← ANS.out]; simp [movesL, moveOk, hc, tx, ByteArray.data_append, h1, h2, h3, h4]), FB0.out⟩)
    | (have hgd := h3; clear hgd; all_goals first | exact ⟨ret_str (by rw [← ANS.out]; simp [movesL, moveOk, hc, tx, ByteArray.data_append, h1, h2, h3]), FB0.out⟩)
    | (have hgd := h2; clear hgd; all_goals first | exact ⟨ret_str (by rw [← ANS.out]; simp [movesL, moveOk, hc, tx, ByteArray.data_append, h1, h2]), FB0.out⟩)
    | (have hgd := h1; clear hgd; all_goals first | exact ⟨ret_str (by rw [← ANS.out]; simp [movesL, moveOk, hc, tx, ByteArray.data_append, h1]), FB0.out⟩)
  |go_enter Tryz.func64, Tryz.ntmps64
   go_wp2_with (first | (go_at_call 40; refine (CR.out _ _).mono ?_; rintro e w1 ⟨rfl, hb⟩; (try have hb := Below.undrew hb); first | (have hx := FB0.out.trans (hb.mono FB0.out.size); have hc := CB.below2 SB0.out hb; have FB0 := Lib.hid hx; have SB0 := Lib.hid hc; obtain ⟨d0, d1, d2, d3, d4⟩ := hc; clear hb hx)) | (go_at_call 90; refine (CO.out _).mono ?_; rintro e w1 ⟨rfl, rfl⟩) | (go_at_call 41; refine (CI.out _).mono ?_; rintro e w1 ⟨rfl, rfl⟩) | (go_at_call 91; refine (CB4.out _).mono ?_; rintro e w1 ⟨rfl, hb⟩; (try have hb := Below.undrew hb); first | (have hx := FB0.out.trans (hb.mono FB0.out.size); have hc := CB.below2 SB0.out hb; have FB0 := Lib.hid hx; have SB0 := Lib.hid hc; obtain ⟨d0, d1, d2, d3, d4⟩ := hc; clear hb hx)) | (go_at_call 92; refine (CP.out (by assumption) _ _).mono ?_; rintro e w1 ⟨rfl, hb⟩; (try have hb := Below.undrew hb); first | (have hx := FB0.out.trans (hb.mono FB0.out.size); have hc := CB.below2 SB0.out hb; have FB0 := Lib.hid hx; have SB0 := Lib.hid hc; obtain ⟨d0, d1, d2, d3, d4⟩ := hc; clear hb hx)) | (go_at_call 44; refine (CD.out (by assumption) _).mono ?_; rintro e w1 ⟨rfl, hb⟩; (try have hb := Below.undrew hb); first | (have hx := FB0.out.trans (hb.mono FB0.out.size); have hc := CB.below2 SB0.out hb; have FB0 := Lib.hid hx; have SB0 := Lib.hid hc; obtain ⟨d0, d1, d2, d3, d4⟩ := hc; clear hb hx)))
   iterate 2
    all_goals go_region_held3 (fun W => W.cell? ⟨w.heap.size, 0, none⟩ = some (.int .i64 o) ∧ W.cell? ⟨w.heap.size, 1, none⟩ = some (.int .i64 d) ∧ W.cell? ⟨w.heap.size, 2, none⟩ = some (.int .i64 s) ∧ W.cell? ⟨w.heap.size, 3, none⟩ = some (.int .i64 f) ∧ W.cell? ⟨w.heap.size, 4, none⟩ = some (.int .i64 m)) (first | exact SB0.out) ((first | (go_at_call 40; refine (CR.out _ _).mono ?_; rintro e w1 ⟨rfl, hb⟩; (try have hb := Below.undrew hb); first | (have hx := FB0.out.trans (hb.mono FB0.out.size); have hc := CB.below2 SB0.out hb; have FB0 := Lib.hid hx; have SB0 := Lib.hid hc; obtain ⟨d0, d1, d2, d3, d4⟩ := hc; clear hb hx)) | (go_at_call 90; refine (CO.out _).mono ?_; rintro e w1 ⟨rfl, rfl⟩) | (go_at_call 41; refine (CI.out _).mono ?_; rintro e w1 ⟨rfl, rfl⟩) | (go_at_call 91; refine (CB4.out _).mono ?_; rintro e w1 ⟨rfl, hb⟩; (try have hb := Below.undrew hb); first | (have hx := FB0.out.trans (hb.mono FB0.out.size); have hc := CB.below2 SB0.out hb; have FB0 := Lib.hid hx; have SB0 := Lib.hid hc; obtain ⟨d0, d1, d2, d3, d4⟩ := hc; clear hb hx)) | (go_at_call 92; refine (CP.out (by assumption) _ _).mono ?_; rintro e w1 ⟨rfl, hb⟩; (try have hb := Below.undrew hb); first | (have hx := FB0.out.trans (hb.mono FB0.out.size); have hc := CB.below2 SB0.out hb; have FB0 := Lib.hid hx; have SB0 := Lib.hid hc; obtain ⟨d0, d1, d2, d3, d4⟩ := hc; clear hb hx)) | (go_at_call 44; refine (CD.out (by assumption) _).mono ?_; rintro e w1 ⟨rfl, hb⟩; (try have hb := Below.undrew hb); first | (have hx := FB0.out.trans (hb.mono FB0.out.size); have hc := CB.below2 SB0.out hb; have FB0 := Lib.hid hx; have SB0 := Lib.hid hc; obtain ⟨d0, d1, d2, d3, d4⟩ := hc; clear hb hx))))
    all_goals go_wp2_with (first | (go_at_call 40; refine (CR.out _ _).mono ?_; rintro e w1 ⟨rfl, hb⟩; (try have hb := Below.undrew hb); first | (have hx := FB0.out.trans (hb.mono FB0.out.size); have hc := CB.below2 SB0.out hb; have FB0 := Lib.hid hx; have SB0 := Lib.hid hc; obtain ⟨d0, d1, d2, d3, d4⟩ := hc; clear hb hx)) | (go_at_call 90; refine (CO.out _).mono ?_; rintro e w1 ⟨rfl, rfl⟩) | (go_at_call 41; refine (CI.out _).mono ?_; rintro e w1 ⟨rfl, rfl⟩) | (go_at_call 91; refine (CB4.out _).mono ?_; rintro e w1 ⟨rfl, hb⟩; (try have hb := Below.undrew hb); first | (have hx := FB0.out.trans (hb.mono FB0.out.size); have hc := CB.below2 SB0.out hb; have FB0 := Lib.hid hx; have SB0 := Lib.hid hc; obtain ⟨d0, d1, d2, d3, d4⟩ := hc; clear hb hx)) | (go_at_call 92; refine (CP.out (by assumption) _ _).mono ?_; rintro e w1 ⟨rfl, hb⟩; (try have hb := Below.undrew hb); first | (have hx := FB0.out.trans (hb.mono FB0.out.size); have hc := CB.below2 SB0.out hb; have FB0 := Lib.hid hx; have SB0 := Lib.hid hc; obtain ⟨d0, d1, d2, d3, d4⟩ := hc; clear hb hx)) | (go_at_call 44; refine (CD.out (by assumption) _).mono ?_; rintro e w1 ⟨rfl, hb⟩; (try have hb := Below.undrew hb); first | (have hx := FB0.out.trans (hb.mono FB0.out.size); have hc := CB.below2 SB0.out hb; have FB0 := Lib.hid hx; have SB0 := Lib.hid hc; obtain ⟨d0, d1, d2, d3, d4⟩ := hc; clear hb hx)))
   all_goals go_ret
   all_goals first | exact ⟨ret_str (by rw [← ANS.out]; simp [movesL, moveOk, hc, tx, ByteArray.data_append, h1, h2, h3, h4, h5, h6, h7]), FB0.out⟩

set_option maxHeartbeats 4000000 in
theorem moves_st (o d s f m : Int) (w : World) (hc : (o % 8 == 2) = true) (hc2 : (o % 8 == 1) = false) :
  Calls Tryz.prog 64 #[insV o d s f m] w fun e w' => e = .returned (.string (tx (movesL o d s f m))) ∧ Below w.heap.size w w' := by
 obtain ⟨ans, hans⟩ : ∃ b, movesL o d s f m = b := ⟨_, rfl⟩
 rw [hans]
 have ANS := Lib.hid hans
 clear hans
 have n5 := Cells5.new w ⟨o, d, s, f, m⟩ 38
 have SB0 := Lib.hid (show CB w.heap.size o d s f m (w.alloc (.cells #[.int .i64 o, .int .i64 d, .int .i64 s, .int .i64 f, .int .i64 m] 38)) from n5)
 clear n5
 have FB0 : Hid (Below w.heap.size w (w.alloc (.cells #[.int .i64 o, .int .i64 d, .int .i64 s, .int .i64 f, .int .i64 m] 38))) := (Below.refl _ w).alloc (Nat.le_refl _) _
 have CR := Lib.hid (fun n w' => reg_any [114] (by simp) n w')
 have CO := Lib.hid (off04_any f)
 have CI := Lib.hid (imm04_any m)
 have CB4 := Lib.hid (bits04_any o d s f m)
 unfold insV at CB4
 have CP := Lib.hid (fun h r w' => place_any r f h w')
 have CD := Lib.hid (fun h w' => digits_any m (imm_b h) w')
 have hrd := reg_sz d
 have hrs := reg_sz s
 have a7 := and_i64_7 o
 unfold insV
 cases h1 : (regIn d)
 focus
  have q1 := reg_none [114] d
  rw [h1] at q1
  simp only [Bool.not_true, Bool.not_false] at q1
  have blkA := True.intro
 rotate_left 1
 focus
  have q1 := reg_none [114] d
  rw [h1] at q1
  simp only [Bool.not_true, Bool.not_false] at q1
  cases h2 : (regIn s)
  focus
   have q2 := reg_none [114] s
   rw [h2] at q2
   simp only [Bool.not_true, Bool.not_false] at q2
   have blkA := True.intro
  rotate_left 1
  focus
   have q2 := reg_none [114] s
   rw [h2] at q2
   simp only [Bool.not_true, Bool.not_false] at q2
   cases h3 : (offIn f)
   focus
    have blkA := True.intro
   rotate_left 1
   focus
    cases h4 : (immIn m)
    focus
     have blkA := True.intro
    rotate_left 1
    focus
     cases h5 : (o / 32 == 3)
     focus
      have g5 : (o / 32 != 3) = true := by simp only [bne, h5]; rfl
      have blkA := True.intro
     rotate_left 1
     focus
      have g5 : (o / 32 != 3) = false := by simp only [bne, h5]; rfl
      cases h6 : (s == 0)
      focus
       have g6 : (s != 0) = true := by simp only [bne, h6]; rfl
       have blkA := True.intro
      rotate_left 1
      focus
       have g6 : (s != 0) = false := by simp only [bne, h6]; rfl
       obtain ⟨k0_0, z0_0⟩ := cat_ok (P := Tryz.prog) (show ({ data := #[42, 40, 117] } : ByteArray).size ≤ 3 by decide) (bits_sz o) (by decide)
       obtain ⟨k0_1, z0_1⟩ := cat_ok (P := Tryz.prog) z0_0 (show ({ data := #[32, 42, 41] } : ByteArray).size ≤ 3 by decide) (by decide)
       obtain ⟨k0_2, z0_2⟩ := cat_ok (P := Tryz.prog) z0_1 (place_sz d f (by assumption)) (by decide)
       obtain ⟨k0_3, z0_3⟩ := cat_ok (P := Tryz.prog) z0_2 (show ({ data := #[32, 61, 32] } : ByteArray).size ≤ 3 by decide) (by decide)
       obtain ⟨k0_4, z0_4⟩ := cat_ok (P := Tryz.prog) z0_3 (imm_sz m (by assumption)) (by decide)
       clear z0_0 z0_1 z0_2 z0_3 z0_4
 all_goals first
  |clear blkA
   go_enter Tryz.func64, Tryz.ntmps64
   go_wp2_with (first | (go_at_call 40; refine (CR.out _ _).mono ?_; rintro e w1 ⟨rfl, hb⟩; (try have hb := Below.undrew hb); first | (have hx := FB0.out.trans (hb.mono FB0.out.size); have hc := CB.below2 SB0.out hb; have FB0 := Lib.hid hx; have SB0 := Lib.hid hc; obtain ⟨d0, d1, d2, d3, d4⟩ := hc; clear hb hx)) | (go_at_call 90; refine (CO.out _).mono ?_; rintro e w1 ⟨rfl, rfl⟩) | (go_at_call 41; refine (CI.out _).mono ?_; rintro e w1 ⟨rfl, rfl⟩) | (go_at_call 91; refine (CB4.out _).mono ?_; rintro e w1 ⟨rfl, hb⟩; (try have hb := Below.undrew hb); first | (have hx := FB0.out.trans (hb.mono FB0.out.size); have hc := CB.below2 SB0.out hb; have FB0 := Lib.hid hx; have SB0 := Lib.hid hc; obtain ⟨d0, d1, d2, d3, d4⟩ := hc; clear hb hx)) | (go_at_call 92; refine (CP.out (by assumption) _ _).mono ?_; rintro e w1 ⟨rfl, hb⟩; (try have hb := Below.undrew hb); first | (have hx := FB0.out.trans (hb.mono FB0.out.size); have hc := CB.below2 SB0.out hb; have FB0 := Lib.hid hx; have SB0 := Lib.hid hc; obtain ⟨d0, d1, d2, d3, d4⟩ := hc; clear hb hx)) | (go_at_call 44; refine (CD.out (by assumption) _).mono ?_; rintro e w1 ⟨rfl, hb⟩; (try have hb := Below.undrew hb); first | (have hx := FB0.out.trans (hb.mono FB0.out.size); have hc := CB.below2 SB0.out hb; have FB0 := Lib.hid hx; have SB0 := Lib.hid hc; obtain ⟨d0, d1, d2, d3, d4⟩ := hc; clear hb hx)))
   all_goals go_region_held3 (fun W => W.cell? ⟨w.heap.size, 0, none⟩ = some (.int .i64 o) ∧ W.cell? ⟨w.heap.size, 1, none⟩ = some (.int .i64 d) ∧ W.cell? ⟨w.heap.size, 2, none⟩ = some (.int .i64 s) ∧ W.cell? ⟨w.heap.size, 3, none⟩ = some (.int .i64 f) ∧ W.cell? ⟨w.heap.size, 4, none⟩ = some (.int .i64 m)) (first | exact SB0.out) ((first | (go_at_call 40; refine (CR.out _ _).mono ?_; rintro e w1 ⟨rfl, hb⟩; (try have hb := Below.undrew hb); first | (have hx := FB0.out.trans (hb.mono FB0.out.size); have hc := CB.below2 SB0.out hb; have FB0 := Lib.hid hx; have SB0 := Lib.hid hc; obtain ⟨d0, d1, d2, d3, d4⟩ := hc; clear hb hx)) | (go_at_call 90; refine (CO.out _).mono ?_; rintro e w1 ⟨rfl, rfl⟩) | (go_at_call 41; refine (CI.out _).mono ?_; rintro e w1 ⟨rfl, rfl⟩) | (go_at_call 91; refine (CB4.out _).mono ?_; rintro e w1 ⟨rfl, hb⟩; (try have hb := Below.undrew hb); first | (have hx := FB0.out.trans (hb.mono FB0.out.size); have hc := CB.below2 SB0.out hb; have FB0 := Lib.hid hx; have SB0 := Lib.hid hc; obtain ⟨d0, d1, d2, d3, d4⟩ := hc; clear hb hx)) | (go_at_call 92; refine (CP.out (by assumption) _ _).mono ?_; rintro e w1 ⟨rfl, hb⟩; (try have hb := Below.undrew hb); first | (have hx := FB0.out.trans (hb.mono FB0.out.size); have hc := CB.below2 SB0.out hb; have FB0 := Lib.hid hx; have SB0 := Lib.hid hc; obtain ⟨d0, d1, d2, d3, d4⟩ := hc; clear hb hx)) | (go_at_call 44; refine (CD.out (by assumption) _).mono ?_; rintro e w1 ⟨rfl, hb⟩; (try have hb := Below.undrew hb); first | (have hx := FB0.out.trans (hb.mono FB0.out.size); have hc := CB.below2 SB0.out hb; have FB0 := Lib.hid hx; have SB0 := Lib.hid hc; obtain ⟨d0, d1, d2, d3, d4⟩ := hc; clear hb hx))))
   all_goals go_wp2_with (first | (go_at_call 40; refine (CR.out _ _).mono ?_; rintro e w1 ⟨rfl, hb⟩; (try have hb := Below.undrew hb); first | (have hx := FB0.out.trans (hb.mono FB0.out.size); have hc := CB.below2 SB0.out hb; have FB0 := Lib.hid hx; have SB0 := Lib.hid hc; obtain ⟨d0, d1, d2, d3, d4⟩ := hc; clear hb hx)) | (go_at_call 90; refine (CO.out _).mono ?_; rintro e w1 ⟨rfl, rfl⟩) | (go_at_call 41; refine (CI.out _).mono ?_; rintro e w1 ⟨rfl, rfl⟩) | (go_at_call 91; refine (CB4.out _).mono ?_; rintro e w1 ⟨rfl, hb⟩; (try have hb := Below.undrew hb); first | (have hx := FB0.out.trans (hb.mono FB0.out.size); have hc := CB.below2 SB0.out hb; have FB0 := Lib.hid hx; have SB0 := Lib.hid hc; obtain ⟨d0, d1, d2, d3, d4⟩ := hc; clear hb hx)) | (go_at_call 92; refine (CP.out (by assumption) _ _).mono ?_; rintro e w1 ⟨rfl, hb⟩; (try have hb := Below.undrew hb); first | (have hx := FB0.out.trans (hb.mono FB0.out.size); have hc := CB.below2 SB0.out hb; have FB0 := Lib.hid hx; have SB0 := Lib.hid hc; obtain ⟨d0, d1, d2, d3, d4⟩ := hc; clear hb hx)) | (go_at_call 44; refine (CD.out (by assumption) _).mono ?_; rintro e w1 ⟨rfl, hb⟩; (try have hb := Below.undrew hb); first | (have hx := FB0.out.trans (hb.mono FB0.out.size); have hc := CB.below2 SB0.out hb; have FB0 := Lib.hid hx; have SB0 := Lib.hid hc; obtain ⟨d0, d1, d2, d3, d4⟩ := hc; clear hb hx)))
   all_goals go_ret
   first
    | (have hgd := h6; clear hgd; all_goals first | exact ⟨ret_str (by rw [← ANS.out]; simp [movesL, moveOk, hc, hc2, tx, ByteArray.data_append, h1, h2, h3, h4, h5, h6]), FB0.out⟩)
    | (have hgd := h5; clear hgd; all_goals first | exact ⟨ret_str (by rw [← ANS.out]; simp [movesL, moveOk, hc, hc2, tx, ByteArray.data_append, h1, h2, h3, h4, h5]), FB0.out⟩)
    | (have hgd := h4; clear hgd; all_goals first | exact ⟨ret_str (by rw [← ANS.out]; simp [movesL, moveOk, hc, hc2, tx, ByteArray.data_append, h1, h2, h3, h4]), FB0.out⟩)
    | (have hgd := h3; clear hgd; all_goals first | exact ⟨ret_str (by rw [← ANS.out]; simp [movesL, moveOk, hc, hc2, tx, ByteArray.data_append, h1, h2, h3]), FB0.out⟩)
    | (have hgd := h2; clear hgd; all_goals first | exact ⟨ret_str (by rw [← ANS.out]; simp [movesL, moveOk, hc, hc2, tx, ByteArray.data_append, h1, h2]), FB0.out⟩)
    | (have hgd := h1; clear hgd; all_goals first | exact ⟨ret_str (by rw [← ANS.out]; simp [movesL, moveOk, hc, hc2, tx, ByteArray.data_append, h1]), FB0.out⟩)
  |go_enter Tryz.func64, Tryz.ntmps64
   go_wp2_with (first | (go_at_call 40; refine (CR.out _ _).mono ?_; rintro e w1 ⟨rfl, hb⟩; (try have hb := Below.undrew hb); first | (have hx := FB0.out.trans (hb.mono FB0.out.size); have hc := CB.below2 SB0.out hb; have FB0 := Lib.hid hx; have SB0 := Lib.hid hc; obtain ⟨d0, d1, d2, d3, d4⟩ := hc; clear hb hx)) | (go_at_call 90; refine (CO.out _).mono ?_; rintro e w1 ⟨rfl, rfl⟩) | (go_at_call 41; refine (CI.out _).mono ?_; rintro e w1 ⟨rfl, rfl⟩) | (go_at_call 91; refine (CB4.out _).mono ?_; rintro e w1 ⟨rfl, hb⟩; (try have hb := Below.undrew hb); first | (have hx := FB0.out.trans (hb.mono FB0.out.size); have hc := CB.below2 SB0.out hb; have FB0 := Lib.hid hx; have SB0 := Lib.hid hc; obtain ⟨d0, d1, d2, d3, d4⟩ := hc; clear hb hx)) | (go_at_call 92; refine (CP.out (by assumption) _ _).mono ?_; rintro e w1 ⟨rfl, hb⟩; (try have hb := Below.undrew hb); first | (have hx := FB0.out.trans (hb.mono FB0.out.size); have hc := CB.below2 SB0.out hb; have FB0 := Lib.hid hx; have SB0 := Lib.hid hc; obtain ⟨d0, d1, d2, d3, d4⟩ := hc; clear hb hx)) | (go_at_call 44; refine (CD.out (by assumption) _).mono ?_; rintro e w1 ⟨rfl, hb⟩; (try have hb := Below.undrew hb); first | (have hx := FB0.out.trans (hb.mono FB0.out.size); have hc := CB.below2 SB0.out hb; have FB0 := Lib.hid hx; have SB0 := Lib.hid hc; obtain ⟨d0, d1, d2, d3, d4⟩ := hc; clear hb hx)))
   iterate 2
    all_goals go_region_held3 (fun W => W.cell? ⟨w.heap.size, 0, none⟩ = some (.int .i64 o) ∧ W.cell? ⟨w.heap.size, 1, none⟩ = some (.int .i64 d) ∧ W.cell? ⟨w.heap.size, 2, none⟩ = some (.int .i64 s) ∧ W.cell? ⟨w.heap.size, 3, none⟩ = some (.int .i64 f) ∧ W.cell? ⟨w.heap.size, 4, none⟩ = some (.int .i64 m)) (first | exact SB0.out) ((first | (go_at_call 40; refine (CR.out _ _).mono ?_; rintro e w1 ⟨rfl, hb⟩; (try have hb := Below.undrew hb); first | (have hx := FB0.out.trans (hb.mono FB0.out.size); have hc := CB.below2 SB0.out hb; have FB0 := Lib.hid hx; have SB0 := Lib.hid hc; obtain ⟨d0, d1, d2, d3, d4⟩ := hc; clear hb hx)) | (go_at_call 90; refine (CO.out _).mono ?_; rintro e w1 ⟨rfl, rfl⟩) | (go_at_call 41; refine (CI.out _).mono ?_; rintro e w1 ⟨rfl, rfl⟩) | (go_at_call 91; refine (CB4.out _).mono ?_; rintro e w1 ⟨rfl, hb⟩; (try have hb := Below.undrew hb); first | (have hx := FB0.out.trans (hb.mono FB0.out.size); have hc := CB.below2 SB0.out hb; have FB0 := Lib.hid hx; have SB0 := Lib.hid hc; obtain ⟨d0, d1, d2, d3, d4⟩ := hc; clear hb hx)) | (go_at_call 92; refine (CP.out (by assumption) _ _).mono ?_; rintro e w1 ⟨rfl, hb⟩; (try have hb := Below.undrew hb); first | (have hx := FB0.out.trans (hb.mono FB0.out.size); have hc := CB.below2 SB0.out hb; have FB0 := Lib.hid hx; have SB0 := Lib.hid hc; obtain ⟨d0, d1, d2, d3, d4⟩ := hc; clear hb hx)) | (go_at_call 44; refine (CD.out (by assumption) _).mono ?_; rintro e w1 ⟨rfl, hb⟩; (try have hb := Below.undrew hb); first | (have hx := FB0.out.trans (hb.mono FB0.out.size); have hc := CB.below2 SB0.out hb; have FB0 := Lib.hid hx; have SB0 := Lib.hid hc; obtain ⟨d0, d1, d2, d3, d4⟩ := hc; clear hb hx))))
    all_goals go_wp2_with (first | (go_at_call 40; refine (CR.out _ _).mono ?_; rintro e w1 ⟨rfl, hb⟩; (try have hb := Below.undrew hb); first | (have hx := FB0.out.trans (hb.mono FB0.out.size); have hc := CB.below2 SB0.out hb; have FB0 := Lib.hid hx; have SB0 := Lib.hid hc; obtain ⟨d0, d1, d2, d3, d4⟩ := hc; clear hb hx)) | (go_at_call 90; refine (CO.out _).mono ?_; rintro e w1 ⟨rfl, rfl⟩) | (go_at_call 41; refine (CI.out _).mono ?_; rintro e w1 ⟨rfl, rfl⟩) | (go_at_call 91; refine (CB4.out _).mono ?_; rintro e w1 ⟨rfl, hb⟩; (try have hb := Below.undrew hb); first | (have hx := FB0.out.trans (hb.mono FB0.out.size); have hc := CB.below2 SB0.out hb; have FB0 := Lib.hid hx; have SB0 := Lib.hid hc; obtain ⟨d0, d1, d2, d3, d4⟩ := hc; clear hb hx)) | (go_at_call 92; refine (CP.out (by assumption) _ _).mono ?_; rintro e w1 ⟨rfl, hb⟩; (try have hb := Below.undrew hb); first | (have hx := FB0.out.trans (hb.mono FB0.out.size); have hc := CB.below2 SB0.out hb; have FB0 := Lib.hid hx; have SB0 := Lib.hid hc; obtain ⟨d0, d1, d2, d3, d4⟩ := hc; clear hb hx)) | (go_at_call 44; refine (CD.out (by assumption) _).mono ?_; rintro e w1 ⟨rfl, hb⟩; (try have hb := Below.undrew hb); first | (have hx := FB0.out.trans (hb.mono FB0.out.size); have hc := CB.below2 SB0.out hb; have FB0 := Lib.hid hx; have SB0 := Lib.hid hc; obtain ⟨d0, d1, d2, d3, d4⟩ := hc; clear hb hx)))
   all_goals go_ret
   all_goals first | exact ⟨ret_str (by rw [← ANS.out]; simp [movesL, moveOk, hc, hc2, tx, ByteArray.data_append, h1, h2, h3, h4, h5, h6]), FB0.out⟩

end Go.Proofs.YtemiklbkfogjeaaGreatDoor.Ln
