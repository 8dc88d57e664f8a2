/-
  The reference's lines: all loads and stores. The reference's lines: jumps that are no tests.
-/
import Derived.Test.YtemiklbkfogjeaaGreatDoorQ36
import Derived.Test.YtemiklbkfogjeaaGreatDoorQ37
import Derived.Test.YtemiklbkfogjeaaGreatDoorQ35
namespace Go.Proofs.YtemiklbkfogjeaaGreatDoor.Ln
open Go Go.RowKit
set_option linter.unusedVariables false
set_option linter.unusedSimpArgs false
theorem moves_any (o d s f m : Int) (w : World) :
  Calls Tryz.prog 64 #[insV o d s f m] w fun e w' => e = .returned (.string (tx (movesL o d s f m))) ∧ Below w.heap.size w w' := by
 cases hc : (o % 8 == 1)
 ·cases hc2 : (o % 8 == 2)
  ·cases hm : (o / 32 == 3)
   ·cases ho : (o == 195)
    ·cases ho2 : (o == 219)
     ·exact moves_none o d s f m w hc hc2 hm ho ho2
     ·exact moves_lock219 o d s f m w hc hc2 hm ho ho2
    ·exact moves_lock195 o d s f m w hc hc2 hm ho
   ·exact moves_stx o d s f m w hc hc2 hm
  ·exact moves_st o d s f m w hc2 hc
 ·exact moves_load o d s f m w hc
end Go.Proofs.YtemiklbkfogjeaaGreatDoor.Ln
namespace Go.Proofs.YtemiklbkfogjeaaGreatDoor.Ln
open Go Go.RowKit
set_option linter.unusedVariables false
set_option linter.unusedSimpArgs false
set_option maxRecDepth 100000
theorem off_b {f : Int} (h : offIn f = true) : -10000000000 < f ∧ f < 10000000000 := by
 unfold offIn at h
 simp at h
 omega
theorem sgn_sz (f : Int) (h : offIn f = true) : (tx (signedL f)).size ≤ 12 := by rw [tx_size]; exact signedL_len f (off_b h)
/-- A test's sign. -/
def nameJ : Nat → List UInt8
 | 1 => [61, 61] | 2 => [62] | 3 => [62, 61] | 4 => [38] | 5 => [33, 61] | 6 => [115, 62] | 7 => [115, 62, 61]
 | 10 => [60] | 11 => [60, 61] | 12 => [115, 60] | 13 => [115, 60, 61] | _ => []
def leadL (o : Int) : List UInt8 := if o % 8 == 6 then [119] else [114]
def jumpsL (o d s f m : Int) : List UInt8 :=
 if !(offIn f && immIn m) then [] else
 if o == 5 then (if (d == 0) && ((s == 0) && (m == 0)) then [103, 111, 116, 111, 32] ++ signedL f else [])
 else if o == 133 then (if (d == 0) && ((s == 0) && (f == 0)) then [99, 97, 108, 108, 32] ++ digL m else [])
 else if o == 149 then (if (d == 0) && ((s == 0) && ((f == 0) && (m == 0))) then [101, 120, 105, 116] else [])
 else if (nameJ (o / 16).toNat).isEmpty then []
 else if !(regIn d && regIn s) then []
 else if bits .and .i64 o 8 == 0 then (if s == 0 then [105, 102, 32] ++ regL (leadL o) d ++ [32] ++ nameJ (o / 16).toNat ++ [32] ++ digL m ++ [32, 103, 111, 116, 111, 32] ++ signedL f else [])
 else (if m == 0 then [105, 102, 32] ++ regL (leadL o) d ++ [32] ++ nameJ (o / 16).toNat ++ [32] ++ regL (leadL o) s ++ [32, 103, 111, 116, 111, 32] ++ signedL f else [])

set_option maxHeartbeats 4000000 in
theorem jumps_go (o d s f m : Int) (w : World) (hx : (o == 5) = true ∨ (o == 133) = true ∨ (o == 149) = true) :
  Calls Tryz.prog 65 #[insV o d s f m] w fun e w' => e = .returned (.string (tx (jumpsL o d s f m))) ∧ Below w.heap.size w w' := by
 obtain ⟨ans, hans⟩ : ∃ b, jumpsL o d s f m = b := ⟨_, rfl⟩
 rw [hans]
 have ANS := Lib.hid hans
 clear hans
 have n5 := Cells5.new w ⟨o, d, s, f, m⟩ 38
 have SB0 := Lib.hid (show CB w.heap.size o d s f m (w.alloc (.cells #[.int .i64 o, .int .i64 d, .int .i64 s, .int .i64 f, .int .i64 m] 38)) from n5)
 clear n5
 have FB0 : Hid (Below w.heap.size w (w.alloc (.cells #[.int .i64 o, .int .i64 d, .int .i64 s, .int .i64 f, .int .i64 m] 38))) := (Below.refl _ w).alloc (Nat.le_refl _) _
 have CO := Lib.hid (off04_any f)
 have CI := Lib.hid (imm04_any m)
 have CS := Lib.hid (fun h w' => signed_any f (off_b h) w')
 have CD := Lib.hid (fun h w' => digits_any m (imm_b h) w')
 have a7 := and_i64_7 o
 unfold insV
 cases h1 : (offIn f)
 ·go_enter Tryz.func65, Tryz.ntmps65
  go_wp2_with (first | (go_at_call 90; refine (CO.out _).mono ?_; rintro e w1 ⟨rfl, rfl⟩) | (go_at_call 41; refine (CI.out _).mono ?_; rintro e w1 ⟨rfl, rfl⟩) | (go_at_call 93; refine (CS.out (by assumption) _).mono ?_; rintro e w1 ⟨rfl, hb⟩; (try have hb := Below.undrew hb); first | (have hx := FB0.out.trans (hb.mono FB0.out.size); have hc := CB.below2 SB0.out hb; have FB0 := Lib.hid hx; have SB0 := Lib.hid hc; obtain ⟨d0, d1, d2, d3, d4⟩ := hc; clear hb hx)) | (go_at_call 44; refine (CD.out (by assumption) _).mono ?_; rintro e w1 ⟨rfl, hb⟩; (try have hb := Below.undrew hb); first | (have hx := FB0.out.trans (hb.mono FB0.out.size); have hc := CB.below2 SB0.out hb; have FB0 := Lib.hid hx; have SB0 := Lib.hid hc; obtain ⟨d0, d1, d2, d3, d4⟩ := hc; clear hb hx)))
  all_goals go_ret
  all_goals first | exact ⟨ret_str (by rw [← ANS.out]; simp [jumpsL, tx, ByteArray.data_append, h1]), FB0.out⟩
 ·cases h2 : (immIn m)
  ·go_enter Tryz.func65, Tryz.ntmps65
   go_wp2_with (first | (go_at_call 90; refine (CO.out _).mono ?_; rintro e w1 ⟨rfl, rfl⟩) | (go_at_call 41; refine (CI.out _).mono ?_; rintro e w1 ⟨rfl, rfl⟩) | (go_at_call 93; refine (CS.out (by assumption) _).mono ?_; rintro e w1 ⟨rfl, hb⟩; (try have hb := Below.undrew hb); first | (have hx := FB0.out.trans (hb.mono FB0.out.size); have hc := CB.below2 SB0.out hb; have FB0 := Lib.hid hx; have SB0 := Lib.hid hc; obtain ⟨d0, d1, d2, d3, d4⟩ := hc; clear hb hx)) | (go_at_call 44; refine (CD.out (by assumption) _).mono ?_; rintro e w1 ⟨rfl, hb⟩; (try have hb := Below.undrew hb); first | (have hx := FB0.out.trans (hb.mono FB0.out.size); have hc := CB.below2 SB0.out hb; have FB0 := Lib.hid hx; have SB0 := Lib.hid hc; obtain ⟨d0, d1, d2, d3, d4⟩ := hc; clear hb hx)))
   all_goals go_ret
   all_goals first | exact ⟨ret_str (by rw [← ANS.out]; simp [jumpsL, tx, ByteArray.data_append, h1, h2]), FB0.out⟩
  ·cases h3 : (o == 5)
   ·have g3 : (o != 5) = true := by simp only [bne, h3]; rfl
    cases h4 : (o == 133)
    ·have g4 : (o != 133) = true := by simp only [bne, h4]; rfl
     cases h5 : (o == 149)
     ·have g5 : (o != 149) = true := by simp only [bne, h5]; rfl
      exfalso
      rcases hx with hx | hx | hx <;> simp [h3, h4, h5] at hx
     ·have g5 : (o != 149) = false := by simp only [bne, h5]; rfl
      cases h6 : (d == 0)
      ·have g6 : (d != 0) = true := by simp only [bne, h6]; rfl
       go_enter Tryz.func65, Tryz.ntmps65
       go_wp2_with (first | (go_at_call 90; refine (CO.out _).mono ?_; rintro e w1 ⟨rfl, rfl⟩) | (go_at_call 41; refine (CI.out _).mono ?_; rintro e w1 ⟨rfl, rfl⟩) | (go_at_call 93; refine (CS.out (by assumption) _).mono ?_; rintro e w1 ⟨rfl, hb⟩; (try have hb := Below.undrew hb); first | (have hx := FB0.out.trans (hb.mono FB0.out.size); have hc := CB.below2 SB0.out hb; have FB0 := Lib.hid hx; have SB0 := Lib.hid hc; obtain ⟨d0, d1, d2, d3, d4⟩ := hc; clear hb hx)) | (go_at_call 44; refine (CD.out (by assumption) _).mono ?_; rintro e w1 ⟨rfl, hb⟩; (try have hb := Below.undrew hb); first | (have hx := FB0.out.trans (hb.mono FB0.out.size); have hc := CB.below2 SB0.out hb; have FB0 := Lib.hid hx; have SB0 := Lib.hid hc; obtain ⟨d0, d1, d2, d3, d4⟩ := hc; clear hb hx)))
       all_goals go_ret
       all_goals first | exact ⟨ret_str (by rw [← ANS.out]; simp [jumpsL, tx, ByteArray.data_append, h1, h2, h3, h4, h5, h6]), FB0.out⟩
      ·have g6 : (d != 0) = false := by simp only [bne, h6]; rfl
       cases h7 : (s == 0)
       ·have g7 : (s != 0) = true := by simp only [bne, h7]; rfl
        go_enter Tryz.func65, Tryz.ntmps65
        go_wp2_with (first | (go_at_call 90; refine (CO.out _).mono ?_; rintro e w1 ⟨rfl, rfl⟩) | (go_at_call 41; refine (CI.out _).mono ?_; rintro e w1 ⟨rfl, rfl⟩) | (go_at_call 93; refine (CS.out (by assumption) _).mono ?_; rintro e w1 ⟨rfl, hb⟩; (try have hb := Below.undrew hb); first | (have hx := FB0.out.trans (hb.mono FB0.out.size); have hc := CB.below2 SB0.out hb; have FB0 := Lib.hid hx; have SB0 := Lib.hid hc; obtain ⟨d0, d1, d2, d3, d4⟩ := hc; clear hb hx)) | (go_at_call 44; refine (CD.out (by assumption) _).mono ?_; rintro e w1 ⟨rfl, hb⟩; (try have hb := Below.undrew hb); first | (have hx := FB0.out.trans (hb.mono FB0.out.size); have hc := CB.below2 SB0.out hb; have FB0 := Lib.hid hx; have SB0 := Lib.hid hc; obtain ⟨d0, d1, d2, d3, d4⟩ := hc; clear hb hx)))
        all_goals go_ret
        all_goals first | exact ⟨ret_str (by rw [← ANS.out]; simp [jumpsL, tx, ByteArray.data_append, h1, h2, h3, h4, h5, h6, h7]), FB0.out⟩
       ·have g7 : (s != 0) = false := by simp only [bne, h7]; rfl
        cases h8 : (f == 0)
        ·have g8 : (f != 0) = true := by simp only [bne, h8]; rfl
         go_enter Tryz.func65, Tryz.ntmps65
         go_wp2_with (first | (go_at_call 90; refine (CO.out _).mono ?_; rintro e w1 ⟨rfl, rfl⟩) | (go_at_call 41; refine (CI.out _).mono ?_; rintro e w1 ⟨rfl, rfl⟩) | (go_at_call 93; refine (CS.out (by assumption) _).mono ?_; rintro e w1 ⟨rfl, hb⟩; (try have hb := Below.undrew hb); first | (have hx := FB0.out.trans (hb.mono FB0.out.size); have hc := CB.below2 SB0.out hb; have FB0 := Lib.hid hx; have SB0 := Lib.hid hc; obtain ⟨d0, d1, d2, d3, d4⟩ := hc; clear hb hx)) | (go_at_call 44; refine (CD.out (by assumption) _).mono ?_; rintro e w1 ⟨rfl, hb⟩; (try have hb := Below.undrew hb); first | (have hx := FB0.out.trans (hb.mono FB0.out.size); have hc := CB.below2 SB0.out hb; have FB0 := Lib.hid hx; have SB0 := Lib.hid hc; obtain ⟨d0, d1, d2, d3, d4⟩ := hc; clear hb hx)))
         all_goals go_ret
         all_goals first | exact ⟨ret_str (by rw [← ANS.out]; simp [jumpsL, tx, ByteArray.data_append, h1, h2, h3, h4, h5, h6, h7, h8]), FB0.out⟩
        ·have g8 : (f != 0) = false := by simp only [bne, h8]; rfl
         cases h9 : (m == 0)
         ·have g9 : (m != 0) = true := by simp only [bne, h9]; rfl
          go_enter Tryz.func65, Tryz.ntmps65
          go_wp2_with (first | (go_at_call 90; refine (CO.out _).mono ?_; rintro e w1 ⟨rfl, rfl⟩) | (go_at_call 41; refine (CI.out _).mono ?_; rintro e w1 ⟨rfl, rfl⟩) | (go_at_call 93; refine (CS.out (by assumption) _).mono ?_; rintro e w1 ⟨rfl, hb⟩; (try have hb := Below.undrew hb); first | (have hx := FB0.out.trans (hb.mono FB0.out.size); have hc := CB.below2 SB0.out hb; have FB0 := Lib.hid hx; have SB0 := Lib.hid hc; obtain ⟨d0, d1, d2, d3, d4⟩ := hc; clear hb hx)) | (go_at_call 44; refine (CD.out (by assumption) _).mono ?_; rintro e w1 ⟨rfl, hb⟩; (try have hb := Below.undrew hb); first | (have hx := FB0.out.trans (hb.mono FB0.out.size); have hc := CB.below2 SB0.out hb; have FB0 := Lib.hid hx; have SB0 := Lib.hid hc; obtain ⟨d0, d1, d2, d3, d4⟩ := hc; clear hb hx)))
          all_goals go_ret
          all_goals first | exact ⟨ret_str (by rw [← ANS.out]; simp [jumpsL, tx, ByteArray.data_append, h1, h2, h3, h4, h5, h6, h7, h8, h9]), FB0.out⟩
         ·have g9 : (m != 0) = false := by simp only [bne, h9]; rfl
          go_enter Tryz.func65, Tryz.ntmps65
          go_wp2_with (first | (go_at_call 90; refine (CO.out _).mono ?_; rintro e w1 ⟨rfl, rfl⟩) | (go_at_call 41; refine (CI.out _).mono ?_; rintro e w1 ⟨rfl, rfl⟩) | (go_at_call 93; refine (CS.out (by assumption) _).mono ?_; rintro e w1 ⟨rfl, hb⟩; (try have hb := Below.undrew hb); first | (have hx := FB0.out.trans (hb.mono FB0.out.size); have hc := CB.below2 SB0.out hb; have FB0 := Lib.hid hx; have SB0 := Lib.hid hc; obtain ⟨d0, d1, d2, d3, d4⟩ := hc; clear hb hx)) | (go_at_call 44; refine (CD.out (by assumption) _).mono ?_; rintro e w1 ⟨rfl, hb⟩; (try have hb := Below.undrew hb); first | (have hx := FB0.out.trans (hb.mono FB0.out.size); have hc := CB.below2 SB0.out hb; have FB0 := Lib.hid hx; have SB0 := Lib.hid hc; obtain ⟨d0, d1, d2, d3, d4⟩ := hc; clear hb hx)))
          all_goals go_ret
          all_goals first | exact ⟨ret_str (by rw [← ANS.out]; simp [jumpsL, tx, ByteArray.data_append, h1, h2, h3, h4, h5, h6, h7, h8, h9]), FB0.out⟩
    ·have g4 : (o != 133) = false := by simp only [bne, h4]; rfl
     cases h5 : (d == 0)
     ·have g5 : (d != 0) = true := by simp only [bne, h5]; rfl
      go_enter Tryz.func65, Tryz.ntmps65
      go_wp2_with (first | (go_at_call 90; refine (CO.out _).mono ?_; rintro e w1 ⟨rfl, rfl⟩) | (go_at_call 41; refine (CI.out _).mono ?_; rintro e w1 ⟨rfl, rfl⟩) | (go_at_call 93; refine (CS.out (by assumption) _).mono ?_; rintro e w1 ⟨rfl, hb⟩; (try have hb := Below.undrew hb); first | (have hx := FB0.out.trans (hb.mono FB0.out.size); have hc := CB.below2 SB0.out hb; have FB0 := Lib.hid hx; have SB0 := Lib.hid hc; obtain ⟨d0, d1, d2, d3, d4⟩ := hc; clear hb hx)) | (go_at_call 44; refine (CD.out (by assumption) _).mono ?_; rintro e w1 ⟨rfl, hb⟩; (try have hb := Below.undrew hb); first | (have hx := FB0.out.trans (hb.mono FB0.out.size); have hc := CB.below2 SB0.out hb; have FB0 := Lib.hid hx; have SB0 := Lib.hid hc; obtain ⟨d0, d1, d2, d3, d4⟩ := hc; clear hb hx)))
      all_goals go_ret
      all_goals first | exact ⟨ret_str (by rw [← ANS.out]; simp [jumpsL, tx, ByteArray.data_append, h1, h2, h3, h4, h5]), FB0.out⟩
     ·have g5 : (d != 0) = false := by simp only [bne, h5]; rfl
      cases h6 : (s == 0)
      ·have g6 : (s != 0) = true := by simp only [bne, h6]; rfl
       go_enter Tryz.func65, Tryz.ntmps65
       go_wp2_with (first | (go_at_call 90; refine (CO.out _).mono ?_; rintro e w1 ⟨rfl, rfl⟩) | (go_at_call 41; refine (CI.out _).mono ?_; rintro e w1 ⟨rfl, rfl⟩) | (go_at_call 93; refine (CS.out (by assumption) _).mono ?_; rintro e w1 ⟨rfl, hb⟩; (try have hb := Below.undrew hb); first | (have hx := FB0.out.trans (hb.mono FB0.out.size); have hc := CB.below2 SB0.out hb; have FB0 := Lib.hid hx; have SB0 := Lib.hid hc; obtain ⟨d0, d1, d2, d3, d4⟩ := hc; clear hb hx)) | (go_at_call 44; refine (CD.out (by assumption) _).mono ?_; rintro e w1 ⟨rfl, hb⟩; (try have hb := Below.undrew hb); first | (have hx := FB0.out.trans (hb.mono FB0.out.size); have hc := CB.below2 SB0.out hb; have FB0 := Lib.hid hx; have SB0 := Lib.hid hc; obtain ⟨d0, d1, d2, d3, d4⟩ := hc; clear hb hx)))
       all_goals go_ret
       all_goals first | exact ⟨ret_str (by rw [← ANS.out]; simp [jumpsL, tx, ByteArray.data_append, h1, h2, h3, h4, h5, h6]), FB0.out⟩
      ·have g6 : (s != 0) = false := by simp only [bne, h6]; rfl
       cases h7 : (f == 0)
       ·have g7 : (f != 0) = true := by simp only [bne, h7]; rfl
        go_enter Tryz.func65, Tryz.ntmps65
        go_wp2_with (first | (go_at_call 90; refine (CO.out _).mono ?_; rintro e w1 ⟨rfl, rfl⟩) | (go_at_call 41; refine (CI.out _).mono ?_; rintro e w1 ⟨rfl, rfl⟩) | (go_at_call 93; refine (CS.out (by assumption) _).mono ?_; rintro e w1 ⟨rfl, hb⟩; (try have hb := Below.undrew hb); first | (have hx := FB0.out.trans (hb.mono FB0.out.size); have hc := CB.below2 SB0.out hb; have FB0 := Lib.hid hx; have SB0 := Lib.hid hc; obtain ⟨d0, d1, d2, d3, d4⟩ := hc; clear hb hx)) | (go_at_call 44; refine (CD.out (by assumption) _).mono ?_; rintro e w1 ⟨rfl, hb⟩; (try have hb := Below.undrew hb); first | (have hx := FB0.out.trans (hb.mono FB0.out.size); have hc := CB.below2 SB0.out hb; have FB0 := Lib.hid hx; have SB0 := Lib.hid hc; obtain ⟨d0, d1, d2, d3, d4⟩ := hc; clear hb hx)))
        all_goals go_ret
        all_goals first | exact ⟨ret_str (by rw [← ANS.out]; simp [jumpsL, tx, ByteArray.data_append, h1, h2, h3, h4, h5, h6, h7]), FB0.out⟩
       ·have g7 : (f != 0) = false := by simp only [bne, h7]; rfl
        obtain ⟨k0_0, z0_0⟩ := cat_ok (P := Tryz.prog) (show ({ data := #[99, 97, 108, 108, 32] } : ByteArray).size ≤ 5 by decide) (imm_sz m (by assumption)) (by decide)
        clear z0_0
        go_enter Tryz.func65, Tryz.ntmps65
        go_wp2_with (first | (go_at_call 90; refine (CO.out _).mono ?_; rintro e w1 ⟨rfl, rfl⟩) | (go_at_call 41; refine (CI.out _).mono ?_; rintro e w1 ⟨rfl, rfl⟩) | (go_at_call 93; refine (CS.out (by assumption) _).mono ?_; rintro e w1 ⟨rfl, hb⟩; (try have hb := Below.undrew hb); first | (have hx := FB0.out.trans (hb.mono FB0.out.size); have hc := CB.below2 SB0.out hb; have FB0 := Lib.hid hx; have SB0 := Lib.hid hc; obtain ⟨d0, d1, d2, d3, d4⟩ := hc; clear hb hx)) | (go_at_call 44; refine (CD.out (by assumption) _).mono ?_; rintro e w1 ⟨rfl, hb⟩; (try have hb := Below.undrew hb); first | (have hx := FB0.out.trans (hb.mono FB0.out.size); have hc := CB.below2 SB0.out hb; have FB0 := Lib.hid hx; have SB0 := Lib.hid hc; obtain ⟨d0, d1, d2, d3, d4⟩ := hc; clear hb hx)))
        all_goals go_ret
        all_goals first | exact ⟨ret_str (by rw [← ANS.out]; simp [jumpsL, tx, ByteArray.data_append, h1, h2, h3, h4, h5, h6, h7]), FB0.out⟩
   ·have g3 : (o != 5) = false := by simp only [bne, h3]; rfl
    cases h4 : (d == 0)
    ·have g4 : (d != 0) = true := by simp only [bne, h4]; rfl
     go_enter Tryz.func65, Tryz.ntmps65
     go_wp2_with (first | (go_at_call 90; refine (CO.out _).mono ?_; rintro e w1 ⟨rfl, rfl⟩) | (go_at_call 41; refine (CI.out _).mono ?_; rintro e w1 ⟨rfl, rfl⟩) | (go_at_call 93; refine (CS.out (by assumption) _).mono ?_; rintro e w1 ⟨rfl, hb⟩; (try have hb := Below.undrew hb); first | (have hx := FB0.out.trans (hb.mono FB0.out.size); have hc := CB.below2 SB0.out hb; have FB0 := Lib.hid hx; have SB0 := Lib.hid hc; obtain ⟨d0, d1, d2, d3, d4⟩ := hc; clear hb hx)) | (go_at_call 44; refine (CD.out (by assumption) _).mono ?_; rintro e w1 ⟨rfl, hb⟩; (try have hb := Below.undrew hb); first | (have hx := FB0.out.trans (hb.mono FB0.out.size); have hc := CB.below2 SB0.out hb; have FB0 := Lib.hid hx; have SB0 := Lib.hid hc; obtain ⟨d0, d1, d2, d3, d4⟩ := hc; clear hb hx)))
     all_goals go_ret
     all_goals first | exact ⟨ret_str (by rw [← ANS.out]; simp [jumpsL, tx, ByteArray.data_append, h1, h2, h3, h4]), FB0.out⟩
    ·have g4 : (d != 0) = false := by simp only [bne, h4]; rfl
     cases h5 : (s == 0)
     ·have g5 : (s != 0) = true := by simp only [bne, h5]; rfl
      go_enter Tryz.func65, Tryz.ntmps65
      go_wp2_with (first | (go_at_call 90; refine (CO.out _).mono ?_; rintro e w1 ⟨rfl, rfl⟩) | (go_at_call 41; refine (CI.out _).mono ?_; rintro e w1 ⟨rfl, rfl⟩) | (go_at_call 93; refine (CS.out (by assumption) _).mono ?_; rintro e w1 ⟨rfl, hb⟩; (try have hb := Below.undrew hb); first | (have hx := FB0.out.trans (hb.mono FB0.out.size); have hc := CB.below2 SB0.out hb; have FB0 := Lib.hid hx; have SB0 := Lib.hid hc; obtain ⟨d0, d1, d2, d3, d4⟩ := hc; clear hb hx)) | (go_at_call 44; refine (CD.out (by assumption) _).mono ?_; rintro e w1 ⟨rfl, hb⟩; (try have hb := Below.undrew hb); first | (have hx := FB0.out.trans (hb.mono FB0.out.size); have hc := CB.below2 SB0.out hb; have FB0 := Lib.hid hx; have SB0 := Lib.hid hc; obtain ⟨d0, d1, d2, d3, d4⟩ := hc; clear hb hx)))
      all_goals go_ret
      all_goals first | exact ⟨ret_str (by rw [← ANS.out]; simp [jumpsL, tx, ByteArray.data_append, h1, h2, h3, h4, h5]), FB0.out⟩
     ·have g5 : (s != 0) = false := by simp only [bne, h5]; rfl
      cases h6 : (m == 0)
      ·have g6 : (m != 0) = true := by simp only [bne, h6]; rfl
       go_enter Tryz.func65, Tryz.ntmps65
       go_wp2_with (first | (go_at_call 90; refine (CO.out _).mono ?_; rintro e w1 ⟨rfl, rfl⟩) | (go_at_call 41; refine (CI.out _).mono ?_; rintro e w1 ⟨rfl, rfl⟩) | (go_at_call 93; refine (CS.out (by assumption) _).mono ?_; rintro e w1 ⟨rfl, hb⟩; (try have hb := Below.undrew hb); first | (have hx := FB0.out.trans (hb.mono FB0.out.size); have hc := CB.below2 SB0.out hb; have FB0 := Lib.hid hx; have SB0 := Lib.hid hc; obtain ⟨d0, d1, d2, d3, d4⟩ := hc; clear hb hx)) | (go_at_call 44; refine (CD.out (by assumption) _).mono ?_; rintro e w1 ⟨rfl, hb⟩; (try have hb := Below.undrew hb); first | (have hx := FB0.out.trans (hb.mono FB0.out.size); have hc := CB.below2 SB0.out hb; have FB0 := Lib.hid hx; have SB0 := Lib.hid hc; obtain ⟨d0, d1, d2, d3, d4⟩ := hc; clear hb hx)))
       all_goals go_ret
       all_goals first | exact ⟨ret_str (by rw [← ANS.out]; simp [jumpsL, tx, ByteArray.data_append, h1, h2, h3, h4, h5, h6]), FB0.out⟩
      ·have g6 : (m != 0) = false := by simp only [bne, h6]; rfl
       obtain ⟨k0_0, z0_0⟩ := cat_ok (P := Tryz.prog) (show ({ data := #[103, 111, 116, 111, 32] } : ByteArray).size ≤ 5 by decide) (sgn_sz f (by assumption)) (by decide)
       clear z0_0
       go_enter Tryz.func65, Tryz.ntmps65
       go_wp2_with (first | (go_at_call 90; refine (CO.out _).mono ?_; rintro e w1 ⟨rfl, rfl⟩) | (go_at_call 41; refine (CI.out _).mono ?_; rintro e w1 ⟨rfl, rfl⟩) | (go_at_call 93; refine (CS.out (by assumption) _).mono ?_; rintro e w1 ⟨rfl, hb⟩; (try have hb := Below.undrew hb); first | (have hx := FB0.out.trans (hb.mono FB0.out.size); have hc := CB.below2 SB0.out hb; have FB0 := Lib.hid hx; have SB0 := Lib.hid hc; obtain ⟨d0, d1, d2, d3, d4⟩ := hc; clear hb hx)) | (go_at_call 44; refine (CD.out (by assumption) _).mono ?_; rintro e w1 ⟨rfl, hb⟩; (try have hb := Below.undrew hb); first | (have hx := FB0.out.trans (hb.mono FB0.out.size); have hc := CB.below2 SB0.out hb; have FB0 := Lib.hid hx; have SB0 := Lib.hid hc; obtain ⟨d0, d1, d2, d3, d4⟩ := hc; clear hb hx)))
       all_goals go_ret
       all_goals first | exact ⟨ret_str (by rw [← ANS.out]; simp [jumpsL, tx, ByteArray.data_append, h1, h2, h3, h4, h5, h6]), FB0.out⟩
end Go.Proofs.YtemiklbkfogjeaaGreatDoor.Ln
