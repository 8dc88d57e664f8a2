/-
  The reference's line of an instruction of one slot.
-/
import Derived.Test.YtemiklbkfogjeaaGreatDoorQ38
import Derived.Test.YtemiklbkfogjeaaGreatDoorQ39
import Derived.Test.YtemiklbkfogjeaaGreatDoorQ40
namespace Go.Proofs.YtemiklbkfogjeaaGreatDoor.Ln
open Go Go.RowKit
set_option linter.unusedVariables false
set_option linter.unusedSimpArgs false
set_option maxRecDepth 100000
theorem jumps_any (o d s f m : Int) (ho : 0 ≤ o) (w : World) :
  Calls Tryz.prog 65 #[insV o d s f m] w fun e w' => e = .returned (.string (tx (jumpsL o d s f m))) ∧ Below w.heap.size w w' := by
 cases h5 : (o == 5)
 ·cases h133 : (o == 133)
  ·cases h149 : (o == 149)
   ·obtain ⟨k, hk⟩ := Int.eq_ofNat_of_zero_le (show 0 ≤ o / 16 by omega)
    cases h6 : (o % 8 == 6)
    ·by_cases h14 : k < 14
     ·exact jumps_r o d s f m k w h5 h133 h149 h6 hk h14
     ·exact jumps_big_r o d s f m k w h5 h133 h149 h6 hk (by omega)
    ·by_cases h14 : k < 14
     ·exact jumps_w o d s f m k w h5 h133 h149 h6 hk h14
     ·exact jumps_big_w o d s f m k w h5 h133 h149 h6 hk (by omega)
   ·exact jumps_go o d s f m w (.inr (.inr h149))
  ·exact jumps_go o d s f m w (.inr (.inl h133))
 ·exact jumps_go o d s f m w (.inl h5)
theorem and240_all : ((List.range 256).all fun (n : Nat) => bits .and .i64 (n : Int) 240 == ((n / 16 * 16 : Nat) : Int)) = true := by kernel_rfl
theorem and240 {o : Int} (h : 0 ≤ o ∧ o ≤ 255) : bits .and .i64 o 240 = o / 16 * 16 := by
 obtain ⟨n, rfl⟩ := Int.eq_ofNat_of_zero_le h.1
 have := List.all_eq_true.1 and240_all n (List.mem_range.2 (by omega))
 rw [eq_of_beq this]
 omega
theorem alu04_any (o d s f m : Int) (ho : 0 ≤ o ∧ o ≤ 255) (w : World) :
  Calls Tryz.prog 63 #[insV o d s f m] w fun e w' => e = .returned (.string (tx (aluT o d s f m))) ∧ Below w.heap.size w w' := by
 obtain ⟨k, hk⟩ := Int.eq_ofNat_of_zero_le (show 0 ≤ o / 16 by omega)
 have hK : bits .and .i64 o 240 / 16 = (k : Int) := by rw [and240 ho]; omega
 by_cases h13 : k < 13
 ·cases h7 : (o % 8 == 7)
  ·exact alu_w o d s f m k w h7 hK h13
  ·exact alu_r o d s f m k w h7 hK h13
 ·have e : ∀ c : Int, c = 48 ∨ c = 144 ∨ c = 176 ∨ c = 128 → (bits .and .i64 o 240 == c) = false := by
   intro c hc
   rw [and240 ho]
   simp only [beq_eq_false_iff_ne, ne_eq]
   omega
  cases h7 : (o % 8 == 7)
  ·exact alu_big_w o d s f m k w h7 hK (by omega) (e 48 (by simp)) (e 144 (by simp)) (e 176 (by simp)) (e 128 (by simp))
  ·exact alu_big_r o d s f m k w h7 hK (by omega) (e 48 (by simp)) (e 144 (by simp)) (e 176 (by simp)) (e 128 (by simp))
/-- The line of an instruction of one slot; none, if there is none. -/
def lineL (o d s f m : Int) : List UInt8 :=
 if decide (o < 0) then [] else if decide (255 < o) then [] else
 if (o % 8 == 4) || (o % 8 == 7) then aluT o d s f m
 else if (o % 8 == 1) || ((o % 8 == 2) || (o % 8 == 3)) then movesL o d s f m
 else if (o % 8 == 5) || (o % 8 == 6) then jumpsL o d s f m
 else []
theorem ho_b {o : Int} (h : decide (o < 0) = false) (h2 : decide (255 < o) = false) : 0 ≤ o ∧ o ≤ 255 := by
 have := of_decide_eq_false h
 have := of_decide_eq_false h2
 omega

set_option maxHeartbeats 4000000 in
theorem line_any (o d s f m : Int) (w : World) :
  Calls Tryz.prog 39 #[insV o d s f m] w fun e w' => e = .returned (.string (tx (lineL o d s f m))) ∧ Below w.heap.size w w' := by
 obtain ⟨ans, hans⟩ : ∃ b, lineL o d s f m = b := ⟨_, rfl⟩
 rw [hans]
 have ANS := Lib.hid hans
 clear hans
 have n5 := Cells5.new w ⟨o, d, s, f, m⟩ 38
 have SB0 := Lib.hid (show CB w.heap.size o d s f m (w.alloc (.cells #[.int .i64 o, .int .i64 d, .int .i64 s, .int .i64 f, .int .i64 m] 38)) from n5)
 clear n5
 have FB0 : Hid (Below w.heap.size w (w.alloc (.cells #[.int .i64 o, .int .i64 d, .int .i64 s, .int .i64 f, .int .i64 m] 38))) := (Below.refl _ w).alloc (Nat.le_refl _) _
 have CAL := Lib.hid (fun h w' => alu04_any o d s f m h w')
 have CM := Lib.hid (moves_any o d s f m)
 have CJ := Lib.hid (fun h w' => jumps_any o d s f m h w')
 unfold insV at CAL CM CJ
 have a7 := and_i64_7 o
 unfold insV
 cases h1 : (decide (o < 0))
 ·cases h2 : (decide (255 < o))
  ·cases h3 : (o % 8 == 4)
   ·have g3 : (o % 8 != 4) = true := by simp only [bne, h3]; rfl
    cases h4 : (o % 8 == 7)
    ·have g4 : (o % 8 != 7) = true := by simp only [bne, h4]; rfl
     cases h5 : (o % 8 == 1)
     ·have g5 : (o % 8 != 1) = true := by simp only [bne, h5]; rfl
      cases h6 : (o % 8 == 2)
      ·have g6 : (o % 8 != 2) = true := by simp only [bne, h6]; rfl
       cases h7 : (o % 8 == 3)
       ·have g7 : (o % 8 != 3) = true := by simp only [bne, h7]; rfl
        cases h8 : (o % 8 == 5)
        ·have g8 : (o % 8 != 5) = true := by simp only [bne, h8]; rfl
         cases h9 : (o % 8 == 6)
         ·have g9 : (o % 8 != 6) = true := by simp only [bne, h9]; rfl
          go_enter Tryz.func39, Tryz.ntmps39
          go_wp2_with (first | (go_at_call 63; refine (CAL.out (ho_b (by assumption) (by assumption)) _).mono ?_; rintro e w1 ⟨rfl, hb⟩; (try have hb := Below.undrew hb); (try have hb := Below.undrew hb); first | (have hx := FB0.out.trans (hb.mono FB0.out.size); have hc := CB.below2 SB0.out hb; have FB0 := Lib.hid hx; have SB0 := Lib.hid hc; obtain ⟨d0, d1, d2, d3, d4⟩ := hc; clear hb hx)) | (go_at_call 64; refine (CM.out _).mono ?_; rintro e w1 ⟨rfl, hb⟩; (try have hb := Below.undrew hb); (try have hb := Below.undrew hb); first | (have hx := FB0.out.trans (hb.mono FB0.out.size); have hc := CB.below2 SB0.out hb; have FB0 := Lib.hid hx; have SB0 := Lib.hid hc; obtain ⟨d0, d1, d2, d3, d4⟩ := hc; clear hb hx)) | (go_at_call 65; refine (CJ.out (ho_b (by assumption) (by assumption)).1 _).mono ?_; rintro e w1 ⟨rfl, hb⟩; (try have hb := Below.undrew hb); (try have hb := Below.undrew hb); first | (have hx := FB0.out.trans (hb.mono FB0.out.size); have hc := CB.below2 SB0.out hb; have FB0 := Lib.hid hx; have SB0 := Lib.hid hc; obtain ⟨d0, d1, d2, d3, d4⟩ := hc; clear hb hx)))
          all_goals go_ret
          all_goals refine ⟨ret_str ?_, ?_⟩
          any_goals (first | exact FB0.out | exact FB0.out.drew | exact FB0.out.alloc FB0.out.size _ | exact FB0.out.drew.alloc FB0.out.size _ | exact (Below.refl _ w).alloc (Nat.le_refl _) _)
          all_goals (rw [← ANS.out]; simp [lineL, tx, ByteArray.data_append, h1, h2, h3, h4, h5, h6, h7, h8, h9])
         ·have g9 : (o % 8 != 6) = false := by simp only [bne, h9]; rfl
          go_enter Tryz.func39, Tryz.ntmps39
          go_wp2_with (first | (go_at_call 63; refine (CAL.out (ho_b (by assumption) (by assumption)) _).mono ?_; rintro e w1 ⟨rfl, hb⟩; (try have hb := Below.undrew hb); (try have hb := Below.undrew hb); first | (have hx := FB0.out.trans (hb.mono FB0.out.size); have hc := CB.below2 SB0.out hb; have FB0 := Lib.hid hx; have SB0 := Lib.hid hc; obtain ⟨d0, d1, d2, d3, d4⟩ := hc; clear hb hx)) | (go_at_call 64; refine (CM.out _).mono ?_; rintro e w1 ⟨rfl, hb⟩; (try have hb := Below.undrew hb); (try have hb := Below.undrew hb); first | (have hx := FB0.out.trans (hb.mono FB0.out.size); have hc := CB.below2 SB0.out hb; have FB0 := Lib.hid hx; have SB0 := Lib.hid hc; obtain ⟨d0, d1, d2, d3, d4⟩ := hc; clear hb hx)) | (go_at_call 65; refine (CJ.out (ho_b (by assumption) (by assumption)).1 _).mono ?_; rintro e w1 ⟨rfl, hb⟩; (try have hb := Below.undrew hb); (try have hb := Below.undrew hb); first | (have hx := FB0.out.trans (hb.mono FB0.out.size); have hc := CB.below2 SB0.out hb; have FB0 := Lib.hid hx; have SB0 := Lib.hid hc; obtain ⟨d0, d1, d2, d3, d4⟩ := hc; clear hb hx)))
          all_goals go_ret
          all_goals refine ⟨ret_str ?_, ?_⟩
          any_goals (first | exact FB0.out | exact FB0.out.drew | exact FB0.out.alloc FB0.out.size _ | exact FB0.out.drew.alloc FB0.out.size _ | exact (Below.refl _ w).alloc (Nat.le_refl _) _)
          all_goals (rw [← ANS.out]; simp [lineL, tx, ByteArray.data_append, h1, h2, h3, h4, h5, h6, h7, h8, h9])
        ·have g8 : (o % 8 != 5) = false := by simp only [bne, h8]; rfl
         go_enter Tryz.func39, Tryz.ntmps39
         go_wp2_with (first | (go_at_call 63; refine (CAL.out (ho_b (by assumption) (by assumption)) _).mono ?_; rintro e w1 ⟨rfl, hb⟩; (try have hb := Below.undrew hb); (try have hb := Below.undrew hb); first | (have hx := FB0.out.trans (hb.mono FB0.out.size); have hc := CB.below2 SB0.out hb; have FB0 := Lib.hid hx; have SB0 := Lib.hid hc; obtain ⟨d0, d1, d2, d3, d4⟩ := hc; clear hb hx)) | (go_at_call 64; refine (CM.out _).mono ?_; rintro e w1 ⟨rfl, hb⟩; (try have hb := Below.undrew hb); (try have hb := Below.undrew hb); first | (have hx := FB0.out.trans (hb.mono FB0.out.size); have hc := CB.below2 SB0.out hb; have FB0 := Lib.hid hx; have SB0 := Lib.hid hc; obtain ⟨d0, d1, d2, d3, d4⟩ := hc; clear hb hx)) | (go_at_call 65; refine (CJ.out (ho_b (by assumption) (by assumption)).1 _).mono ?_; rintro e w1 ⟨rfl, hb⟩; (try have hb := Below.undrew hb); (try have hb := Below.undrew hb); first | (have hx := FB0.out.trans (hb.mono FB0.out.size); have hc := CB.below2 SB0.out hb; have FB0 := Lib.hid hx; have SB0 := Lib.hid hc; obtain ⟨d0, d1, d2, d3, d4⟩ := hc; clear hb hx)))
         all_goals go_ret
         all_goals refine ⟨ret_str ?_, ?_⟩
         any_goals (first | exact FB0.out | exact FB0.out.drew | exact FB0.out.alloc FB0.out.size _ | exact FB0.out.drew.alloc FB0.out.size _ | exact (Below.refl _ w).alloc (Nat.le_refl _) _)
         all_goals (rw [← ANS.out]; simp [lineL, tx, ByteArray.data_append, h1, h2, h3, h4, h5, h6, h7, h8])
       ·have g7 : (o % 8 != 3) = false := by simp only [bne, h7]; rfl
        go_enter Tryz.func39, Tryz.ntmps39
        go_wp2_with (first | (go_at_call 63; refine (CAL.out (ho_b (by assumption) (by assumption)) _).mono ?_; rintro e w1 ⟨rfl, hb⟩; (try have hb := Below.undrew hb); (try have hb := Below.undrew hb); first | (have hx := FB0.out.trans (hb.mono FB0.out.size); have hc := CB.below2 SB0.out hb; have FB0 := Lib.hid hx; have SB0 := Lib.hid hc; obtain ⟨d0, d1, d2, d3, d4⟩ := hc; clear hb hx)) | (go_at_call 64; refine (CM.out _).mono ?_; rintro e w1 ⟨rfl, hb⟩; (try have hb := Below.undrew hb); (try have hb := Below.undrew hb); first | (have hx := FB0.out.trans (hb.mono FB0.out.size); have hc := CB.below2 SB0.out hb; have FB0 := Lib.hid hx; have SB0 := Lib.hid hc; obtain ⟨d0, d1, d2, d3, d4⟩ := hc; clear hb hx)) | (go_at_call 65; refine (CJ.out (ho_b (by assumption) (by assumption)).1 _).mono ?_; rintro e w1 ⟨rfl, hb⟩; (try have hb := Below.undrew hb); (try have hb := Below.undrew hb); first | (have hx := FB0.out.trans (hb.mono FB0.out.size); have hc := CB.below2 SB0.out hb; have FB0 := Lib.hid hx; have SB0 := Lib.hid hc; obtain ⟨d0, d1, d2, d3, d4⟩ := hc; clear hb hx)))
        all_goals go_ret
        all_goals refine ⟨ret_str ?_, ?_⟩
        any_goals (first | exact FB0.out | exact FB0.out.drew | exact FB0.out.alloc FB0.out.size _ | exact FB0.out.drew.alloc FB0.out.size _ | exact (Below.refl _ w).alloc (Nat.le_refl _) _)
        all_goals (rw [← ANS.out]; simp [lineL, tx, ByteArray.data_append, h1, h2, h3, h4, h5, h6, h7])
      ·have g6 : (o % 8 != 2) = false := by simp only [bne, h6]; rfl
       go_enter Tryz.func39, Tryz.ntmps39
       go_wp2_with (first | (go_at_call 63; refine (CAL.out (ho_b (by assumption) (by assumption)) _).mono ?_; rintro e w1 ⟨rfl, hb⟩; (try have hb := Below.undrew hb); (try have hb := Below.undrew hb); first | (have hx := FB0.out.trans (hb.mono FB0.out.size); have hc := CB.below2 SB0.out hb; have FB0 := Lib.hid hx; have SB0 := Lib.hid hc; obtain ⟨d0, d1, d2, d3, d4⟩ := hc; clear hb hx)) | (go_at_call 64; refine (CM.out _).mono ?_; rintro e w1 ⟨rfl, hb⟩; (try have hb := Below.undrew hb); (try have hb := Below.undrew hb); first | (have hx := FB0.out.trans (hb.mono FB0.out.size); have hc := CB.below2 SB0.out hb; have FB0 := Lib.hid hx; have SB0 := Lib.hid hc; obtain ⟨d0, d1, d2, d3, d4⟩ := hc; clear hb hx)) | (go_at_call 65; refine (CJ.out (ho_b (by assumption) (by assumption)).1 _).mono ?_; rintro e w1 ⟨rfl, hb⟩; (try have hb := Below.undrew hb); (try have hb := Below.undrew hb); first | (have hx := FB0.out.trans (hb.mono FB0.out.size); have hc := CB.below2 SB0.out hb; have FB0 := Lib.hid hx; have SB0 := Lib.hid hc; obtain ⟨d0, d1, d2, d3, d4⟩ := hc; clear hb hx)))
       all_goals go_ret
       all_goals refine ⟨ret_str ?_, ?_⟩
       any_goals (first | exact FB0.out | exact FB0.out.drew | exact FB0.out.alloc FB0.out.size _ | exact FB0.out.drew.alloc FB0.out.size _ | exact (Below.refl _ w).alloc (Nat.le_refl _) _)
       all_goals (rw [← ANS.out]; simp [lineL, tx, ByteArray.data_append, h1, h2, h3, h4, h5, h6])
     ·have g5 : (o % 8 != 1) = false := by simp only [bne, h5]; rfl
      go_enter Tryz.func39, Tryz.ntmps39
      go_wp2_with (first | (go_at_call 63; refine (CAL.out (ho_b (by assumption) (by assumption)) _).mono ?_; rintro e w1 ⟨rfl, hb⟩; (try have hb := Below.undrew hb); (try have hb := Below.undrew hb); first | (have hx := FB0.out.trans (hb.mono FB0.out.size); have hc := CB.below2 SB0.out hb; have FB0 := Lib.hid hx; have SB0 := Lib.hid hc; obtain ⟨d0, d1, d2, d3, d4⟩ := hc; clear hb hx)) | (go_at_call 64; refine (CM.out _).mono ?_; rintro e w1 ⟨rfl, hb⟩; (try have hb := Below.undrew hb); (try have hb := Below.undrew hb); first | (have hx := FB0.out.trans (hb.mono FB0.out.size); have hc := CB.below2 SB0.out hb; have FB0 := Lib.hid hx; have SB0 := Lib.hid hc; obtain ⟨d0, d1, d2, d3, d4⟩ := hc; clear hb hx)) | (go_at_call 65; refine (CJ.out (ho_b (by assumption) (by assumption)).1 _).mono ?_; rintro e w1 ⟨rfl, hb⟩; (try have hb := Below.undrew hb); (try have hb := Below.undrew hb); first | (have hx := FB0.out.trans (hb.mono FB0.out.size); have hc := CB.below2 SB0.out hb; have FB0 := Lib.hid hx; have SB0 := Lib.hid hc; obtain ⟨d0, d1, d2, d3, d4⟩ := hc; clear hb hx)))
      all_goals go_ret
      all_goals refine ⟨ret_str ?_, ?_⟩
      any_goals (first | exact FB0.out | exact FB0.out.drew | exact FB0.out.alloc FB0.out.size _ | exact FB0.out.drew.alloc FB0.out.size _ | exact (Below.refl _ w).alloc (Nat.le_refl _) _)
      all_goals (rw [← ANS.out]; simp [lineL, tx, ByteArray.data_append, h1, h2, h3, h4, h5])
    ·have g4 : (o % 8 != 7) = false := by simp only [bne, h4]; rfl
     go_enter Tryz.func39, Tryz.ntmps39
     go_wp2_with (first | (go_at_call 63; refine (CAL.out (ho_b (by assumption) (by assumption)) _).mono ?_; rintro e w1 ⟨rfl, hb⟩; (try have hb := Below.undrew hb); (try have hb := Below.undrew hb); first | (have hx := FB0.out.trans (hb.mono FB0.out.size); have hc := CB.below2 SB0.out hb; have FB0 := Lib.hid hx; have SB0 := Lib.hid hc; obtain ⟨d0, d1, d2, d3, d4⟩ := hc; clear hb hx)) | (go_at_call 64; refine (CM.out _).mono ?_; rintro e w1 ⟨rfl, hb⟩; (try have hb := Below.undrew hb); (try have hb := Below.undrew hb); first | (have hx := FB0.out.trans (hb.mono FB0.out.size); have hc := CB.below2 SB0.out hb; have FB0 := Lib.hid hx; have SB0 := Lib.hid hc; obtain ⟨d0, d1, d2, d3, d4⟩ := hc; clear hb hx)) | (go_at_call 65; refine (CJ.out (ho_b (by assumption) (by assumption)).1 _).mono ?_; rintro e w1 ⟨rfl, hb⟩; (try have hb := Below.undrew hb); (try have hb := Below.undrew hb); first | (have hx := FB0.out.trans (hb.mono FB0.out.size); have hc := CB.below2 SB0.out hb; have FB0 := Lib.hid hx; have SB0 := Lib.hid hc; obtain ⟨d0, d1, d2, d3, d4⟩ := hc; clear hb hx)))
     all_goals go_ret
     all_goals refine ⟨ret_str ?_, ?_⟩
     any_goals (first | exact FB0.out | exact FB0.out.drew | exact FB0.out.alloc FB0.out.size _ | exact FB0.out.drew.alloc FB0.out.size _ | exact (Below.refl _ w).alloc (Nat.le_refl _) _)
     all_goals (rw [← ANS.out]; simp [lineL, tx, ByteArray.data_append, h1, h2, h3, h4])
   ·have g3 : (o % 8 != 4) = false := by simp only [bne, h3]; rfl
    go_enter Tryz.func39, Tryz.ntmps39
    go_wp2_with (first | (go_at_call 63; refine (CAL.out (ho_b (by assumption) (by assumption)) _).mono ?_; rintro e w1 ⟨rfl, hb⟩; (try have hb := Below.undrew hb); (try have hb := Below.undrew hb); first | (have hx := FB0.out.trans (hb.mono FB0.out.size); have hc := CB.below2 SB0.out hb; have FB0 := Lib.hid hx; have SB0 := Lib.hid hc; obtain ⟨d0, d1, d2, d3, d4⟩ := hc; clear hb hx)) | (go_at_call 64; refine (CM.out _).mono ?_; rintro e w1 ⟨rfl, hb⟩; (try have hb := Below.undrew hb); (try have hb := Below.undrew hb); first | (have hx := FB0.out.trans (hb.mono FB0.out.size); have hc := CB.below2 SB0.out hb; have FB0 := Lib.hid hx; have SB0 := Lib.hid hc; obtain ⟨d0, d1, d2, d3, d4⟩ := hc; clear hb hx)) | (go_at_call 65; refine (CJ.out (ho_b (by assumption) (by assumption)).1 _).mono ?_; rintro e w1 ⟨rfl, hb⟩; (try have hb := Below.undrew hb); (try have hb := Below.undrew hb); first | (have hx := FB0.out.trans (hb.mono FB0.out.size); have hc := CB.below2 SB0.out hb; have FB0 := Lib.hid hx; have SB0 := Lib.hid hc; obtain ⟨d0, d1, d2, d3, d4⟩ := hc; clear hb hx)))
    all_goals go_ret
    all_goals refine ⟨ret_str ?_, ?_⟩
    any_goals (first | exact FB0.out | exact FB0.out.drew | exact FB0.out.alloc FB0.out.size _ | exact FB0.out.drew.alloc FB0.out.size _ | exact (Below.refl _ w).alloc (Nat.le_refl _) _)
    all_goals (rw [← ANS.out]; simp [lineL, tx, ByteArray.data_append, h1, h2, h3])
  ·go_enter Tryz.func39, Tryz.ntmps39
   go_wp2_with (first | (go_at_call 63; refine (CAL.out (ho_b (by assumption) (by assumption)) _).mono ?_; rintro e w1 ⟨rfl, hb⟩; (try have hb := Below.undrew hb); (try have hb := Below.undrew hb); first | (have hx := FB0.out.trans (hb.mono FB0.out.size); have hc := CB.below2 SB0.out hb; have FB0 := Lib.hid hx; have SB0 := Lib.hid hc; obtain ⟨d0, d1, d2, d3, d4⟩ := hc; clear hb hx)) | (go_at_call 64; refine (CM.out _).mono ?_; rintro e w1 ⟨rfl, hb⟩; (try have hb := Below.undrew hb); (try have hb := Below.undrew hb); first | (have hx := FB0.out.trans (hb.mono FB0.out.size); have hc := CB.below2 SB0.out hb; have FB0 := Lib.hid hx; have SB0 := Lib.hid hc; obtain ⟨d0, d1, d2, d3, d4⟩ := hc; clear hb hx)) | (go_at_call 65; refine (CJ.out (ho_b (by assumption) (by assumption)).1 _).mono ?_; rintro e w1 ⟨rfl, hb⟩; (try have hb := Below.undrew hb); (try have hb := Below.undrew hb); first | (have hx := FB0.out.trans (hb.mono FB0.out.size); have hc := CB.below2 SB0.out hb; have FB0 := Lib.hid hx; have SB0 := Lib.hid hc; obtain ⟨d0, d1, d2, d3, d4⟩ := hc; clear hb hx)))
   all_goals go_ret
   all_goals refine ⟨ret_str ?_, ?_⟩
   any_goals (first | exact FB0.out | exact FB0.out.drew | exact FB0.out.alloc FB0.out.size _ | exact FB0.out.drew.alloc FB0.out.size _ | exact (Below.refl _ w).alloc (Nat.le_refl _) _)
   all_goals (rw [← ANS.out]; simp [lineL, tx, ByteArray.data_append, h1, h2])
 ·go_enter Tryz.func39, Tryz.ntmps39
  go_wp2_with (first | (go_at_call 63; refine (CAL.out (ho_b (by assumption) (by assumption)) _).mono ?_; rintro e w1 ⟨rfl, hb⟩; (try have hb := Below.undrew hb); (try have hb := Below.undrew hb); first | (have hx := FB0.out.trans (hb.mono FB0.out.size); have hc := CB.below2 SB0.out hb; have FB0 := Lib.hid hx; have SB0 := Lib.hid hc; obtain ⟨d0, d1, d2, d3, d4⟩ := hc; clear hb hx)) | (go_at_call 64; refine (CM.out _).mono ?_; rintro e w1 ⟨rfl, hb⟩; (try have hb := Below.undrew hb); (try have hb := Below.undrew hb); first | (have hx := FB0.out.trans (hb.mono FB0.out.size); have hc := CB.below2 SB0.out hb; have FB0 := Lib.hid hx; have SB0 := Lib.hid hc; obtain ⟨d0, d1, d2, d3, d4⟩ := hc; clear hb hx)) | (go_at_call 65; refine (CJ.out (ho_b (by assumption) (by assumption)).1 _).mono ?_; rintro e w1 ⟨rfl, hb⟩; (try have hb := Below.undrew hb); (try have hb := Below.undrew hb); first | (have hx := FB0.out.trans (hb.mono FB0.out.size); have hc := CB.below2 SB0.out hb; have FB0 := Lib.hid hx; have SB0 := Lib.hid hc; obtain ⟨d0, d1, d2, d3, d4⟩ := hc; clear hb hx)))
  all_goals go_ret
  all_goals refine ⟨ret_str ?_, ?_⟩
  any_goals (first | exact FB0.out | exact FB0.out.drew | exact FB0.out.alloc FB0.out.size _ | exact FB0.out.drew.alloc FB0.out.size _ | exact (Below.refl _ w).alloc (Nat.le_refl _) _)
  all_goals (rw [← ANS.out]; simp [lineL, tx, ByteArray.data_append, h1])
end Go.Proofs.YtemiklbkfogjeaaGreatDoor.Ln
