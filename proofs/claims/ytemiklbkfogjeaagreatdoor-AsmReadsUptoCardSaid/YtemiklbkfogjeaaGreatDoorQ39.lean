/-
  The reference's lines: jumps that test. The reference's lines: jumps that are none.
-/
import Derived.Test.YtemiklbkfogjeaaGreatDoorQ38
namespace Go.Proofs.YtemiklbkfogjeaaGreatDoor.Ln
open Go Go.RowKit
set_option linter.unusedVariables false
set_option linter.unusedSimpArgs false
set_option maxRecDepth 100000
def CBN (b : Nat) (o d s f m : Int) (k : Nat) (w : World) : Prop := w.cell? ⟨b, 0, none⟩ = some (.int .i64 o) ∧ w.cell? ⟨b, 1, none⟩ = some (.int .i64 d) ∧ w.cell? ⟨b, 2, none⟩ = some (.int .i64 s) ∧ w.cell? ⟨b, 3, none⟩ = some (.int .i64 f) ∧ w.cell? ⟨b, 4, none⟩ = some (.int .i64 m) ∧ w.cell? ⟨b + 1, k, none⟩ = some (.string (tx (nameJ k)))
theorem CBN.below2 {w w' : World} {b k : Nat} {o d s f m : Int} (h : CBN b o d s f m k w) (hb : Below w.heap.size w w') : CBN b o d s f m k w' := by
 obtain ⟨h0, h1, h2, h3, h4, h5⟩ := h
 have l0 := World.block_lt_of_cell? w _ h0
 have l1 := World.block_lt_of_cell? w _ h5
 exact ⟨by rw [hb.cell (by simpa using l0)]; exact h0, by rw [hb.cell (by simpa using l0)]; exact h1, by rw [hb.cell (by simpa using l0)]; exact h2, by rw [hb.cell (by simpa using l0)]; exact h3, by rw [hb.cell (by simpa using l0)]; exact h4, by rw [hb.cell (by simpa using l1)]; exact h5⟩
def namesA : Array Value := #[.string { data := #[] }, .string { data := #[61, 61] }, .string { data := #[62] }, .string { data := #[62, 61] }, .string { data := #[38] }, .string { data := #[33, 61] }, .string { data := #[115, 62] }, .string { data := #[115, 62, 61] }, .string { data := #[] }, .string { data := #[] }, .string { data := #[60] }, .string { data := #[60, 61] }, .string { data := #[115, 60] }, .string { data := #[115, 60, 61] }]
theorem namesA_get (k : Nat) (h : k < 14) : namesA[k]? = some (.string (tx (nameJ k))) := by
 have : k = 0 ∨ k = 1 ∨ k = 2 ∨ k = 3 ∨ k = 4 ∨ k = 5 ∨ k = 6 ∨ k = 7 ∨ k = 8 ∨ k = 9 ∨ k = 10 ∨ k = 11 ∨ k = 12 ∨ k = 13 := by omega
 rcases this with rfl | rfl | rfl | rfl | rfl | rfl | rfl | rfl | rfl | rfl | rfl | rfl | rfl | rfl <;> rfl
theorem cbn_new (w : World) (o d s f m : Int) (k : Nat) (h : k < 14) : CBN w.heap.size o d s f m k ((w.alloc (.cells #[.int .i64 o, .int .i64 d, .int .i64 s, .int .i64 f, .int .i64 m] 38)).alloc (.cells namesA 9)) := by
 have h1 := (Blk.new w 38 #[.int .i64 o, .int .i64 d, .int .i64 s, .int .i64 f, .int .i64 m]).alloc (.cells namesA 9)
 have h2 := Blk.new (w.alloc (.cells #[.int .i64 o, .int .i64 d, .int .i64 s, .int .i64 f, .int .i64 m] 38)) 9 namesA
 rw [show (w.alloc (.cells #[.int .i64 o, .int .i64 d, .int .i64 s, .int .i64 f, .int .i64 m] 38)).heap.size = w.heap.size + 1 by simp] at h2
 exact ⟨h1.cell 0, h1.cell 1, h1.cell 2, h1.cell 3, h1.cell 4, (h2.cell k).trans (namesA_get k h)⟩
theorem nameJ_sz (k : Nat) : (tx (nameJ k)).size ≤ 3 := by
 rw [tx_size]
 unfold nameJ
 split <;> simp
theorem nameJ_int {o : Int} {k : Nat} (hk : o / 16 = (k : Int)) (h : k < 14) : nameJ (o / 16).toNat = nameJ k := by rw [hk]; rfl
theorem regl_sz (l : List UInt8) (h : l.length = 1) (n : Int) : (tx (regL l n)).size ≤ 12 := by rw [tx_size]; have := regL_len l n; omega

set_option maxHeartbeats 4000000 in
theorem jumps_b (o d s f m : Int) (k : Nat) (w : World) (ho5 : (o == 5) = false) (ho133 : (o == 133) = false) (ho149 : (o == 149) = false) (ld : UInt8) (hB : ((o % 8 == 6) = false ∧ ld = 114) ∨ ((o % 8 == 6) = true ∧ ld = 119)) (hk : o / 16 = (k : Int)) (hk14 : k < 14) :
  Calls Tryz.prog 65 #[insV o d s f m] w fun e w' => e = .returned (.string (tx (jumpsL o d s f m))) ∧ Below w.heap.size w w' := by
 rcases hB with ⟨hw6, hld⟩ | ⟨hw6, hld⟩
 all_goals
  obtain ⟨ans, hans⟩ : ∃ b, jumpsL o d s f m = b := ⟨_, rfl⟩
  rw [hans]
  have ANS := Lib.hid hans
  clear hans
  have n5 := Cells5.new w ⟨o, d, s, f, m⟩ 38
  have SB0 := Lib.hid (show CBN w.heap.size o d s f m k ((w.alloc (.cells #[.int .i64 o, .int .i64 d, .int .i64 s, .int .i64 f, .int .i64 m] 38)).alloc (.cells #[.string { data := #[] }, .string { data := #[61, 61] }, .string { data := #[62] }, .string { data := #[62, 61] }, .string { data := #[38] }, .string { data := #[33, 61] }, .string { data := #[115, 62] }, .string { data := #[115, 62, 61] }, .string { data := #[] }, .string { data := #[] }, .string { data := #[60] }, .string { data := #[60, 61] }, .string { data := #[115, 60] }, .string { data := #[115, 60, 61] }] 9)) from cbn_new w o d s f m k hk14)
  have FB0 : Hid (Below w.heap.size w ((w.alloc (.cells #[.int .i64 o, .int .i64 d, .int .i64 s, .int .i64 f, .int .i64 m] 38)).alloc (.cells #[.string { data := #[] }, .string { data := #[61, 61] }, .string { data := #[62] }, .string { data := #[62, 61] }, .string { data := #[38] }, .string { data := #[33, 61] }, .string { data := #[115, 62] }, .string { data := #[115, 62, 61] }, .string { data := #[] }, .string { data := #[] }, .string { data := #[60] }, .string { data := #[60, 61] }, .string { data := #[115, 60] }, .string { data := #[115, 60, 61] }] 9))) := ((Below.refl _ w).alloc (Nat.le_refl _) _).alloc (by simp) _
  clear n5
  have CR := Lib.hid (fun n w' => reg_any [ld] (by simp) n w')
  have CO := Lib.hid (off04_any f)
  have CI := Lib.hid (imm04_any m)
  have CS := Lib.hid (fun h w' => signed_any f (off_b h) w')
  have CD := Lib.hid (fun h w' => digits_any m (imm_b h) w')
  have a7 := and_i64_7 o
  have nn := tx_none (nameJ k)
  have gk : decide (13 < (k : Int)) = false := by simp; omega
  have j1 : (0 : Int) ≤ (k : Int) := by omega
  have j2 : (k : Int) < 14 := by omega
  unfold insV
  cases h1 : (offIn f)
  focus
   have blkA := True.intro
  rotate_left 1
  focus
   cases h2 : (immIn m)
   focus
    have blkA := True.intro
   rotate_left 1
   focus
    cases h3 : ((nameJ k).isEmpty)
    focus
     cases h4 : (regIn d)
     focus
      have q4 := reg_none [ld] d
      rw [h4] at q4
      simp only [Bool.not_true, Bool.not_false] at q4
      have blkB := True.intro
     rotate_left 1
     focus
      have q4 := reg_none [ld] d
      rw [h4] at q4
      simp only [Bool.not_true, Bool.not_false] at q4
      cases h5 : (regIn s)
      focus
       have q5 := reg_none [ld] s
       rw [h5] at q5
       simp only [Bool.not_true, Bool.not_false] at q5
       have blkB := True.intro
      rotate_left 1
      focus
       have q5 := reg_none [ld] s
       rw [h5] at q5
       simp only [Bool.not_true, Bool.not_false] at q5
       cases h6 : (bits .and .i64 o 8 == 0)
       focus
        have g6 : (bits .and .i64 o 8 != 0) = true := by simp only [bne, h6]; rfl
        cases h7 : (m == 0)
        focus
         have g7 : (m != 0) = true := by simp only [bne, h7]; rfl
         have blkB := True.intro
        rotate_left 1
        focus
         have g7 : (m != 0) = false := by simp only [bne, h7]; rfl
         obtain ⟨k0_0, z0_0⟩ := cat_ok (P := Tryz.prog) (show ({ data := #[105, 102, 32] } : ByteArray).size ≤ 3 by decide) (regl_sz [ld] rfl d) (by decide)
         obtain ⟨k0_1, z0_1⟩ := cat_ok (P := Tryz.prog) z0_0 (show ({ data := #[32] } : ByteArray).size ≤ 1 by decide) (by decide)
         obtain ⟨k0_2, z0_2⟩ := cat_ok (P := Tryz.prog) z0_1 (nameJ_sz k) (by decide)
         obtain ⟨k0_3, z0_3⟩ := cat_ok (P := Tryz.prog) z0_2 (show ({ data := #[32] } : ByteArray).size ≤ 1 by decide) (by decide)
         obtain ⟨k0_4, z0_4⟩ := cat_ok (P := Tryz.prog) z0_3 (regl_sz [ld] rfl s) (by decide)
         obtain ⟨k0_5, z0_5⟩ := cat_ok (P := Tryz.prog) z0_4 (show ({ data := #[32, 103, 111, 116, 111, 32] } : ByteArray).size ≤ 6 by decide) (by decide)
         obtain ⟨k0_6, z0_6⟩ := cat_ok (P := Tryz.prog) z0_5 (sgn_sz f (by assumption)) (by decide)
         clear z0_0 z0_1 z0_2 z0_3 z0_4 z0_5 z0_6
       rotate_left 2
       focus
        have g6 : (bits .and .i64 o 8 != 0) = false := by simp only [bne, h6]; rfl
        cases h7 : (s == 0)
        focus
         have g7 : (s != 0) = true := by simp only [bne, h7]; rfl
         have blkB := True.intro
        rotate_left 1
        focus
         have g7 : (s != 0) = false := by simp only [bne, h7]; rfl
         obtain ⟨k0_0, z0_0⟩ := cat_ok (P := Tryz.prog) (show ({ data := #[105, 102, 32] } : ByteArray).size ≤ 3 by decide) (regl_sz [ld] rfl d) (by decide)
         obtain ⟨k0_1, z0_1⟩ := cat_ok (P := Tryz.prog) z0_0 (show ({ data := #[32] } : ByteArray).size ≤ 1 by decide) (by decide)
         obtain ⟨k0_2, z0_2⟩ := cat_ok (P := Tryz.prog) z0_1 (nameJ_sz k) (by decide)
         obtain ⟨k0_3, z0_3⟩ := cat_ok (P := Tryz.prog) z0_2 (show ({ data := #[32] } : ByteArray).size ≤ 1 by decide) (by decide)
         obtain ⟨k0_4, z0_4⟩ := cat_ok (P := Tryz.prog) z0_3 (imm_sz m (by assumption)) (by decide)
         obtain ⟨k0_5, z0_5⟩ := cat_ok (P := Tryz.prog) z0_4 (show ({ data := #[32, 103, 111, 116, 111, 32] } : ByteArray).size ≤ 6 by decide) (by decide)
         obtain ⟨k0_6, z0_6⟩ := cat_ok (P := Tryz.prog) z0_5 (sgn_sz f (by assumption)) (by decide)
         clear z0_0 z0_1 z0_2 z0_3 z0_4 z0_5 z0_6
    rotate_left 6
    focus
     have blkB := True.intro
  all_goals first
   |clear blkA
    subst hld
    go_enter Tryz.func65, Tryz.ntmps65
    go_wp2_with (first | (go_at_call 90; refine (CO.out _).mono ?_; rintro e w1 ⟨rfl, rfl⟩) | (go_at_call 41; refine (CI.out _).mono ?_; rintro e w1 ⟨rfl, rfl⟩) | (go_at_call 40; refine (CR.out _ _).mono ?_; rintro e w1 ⟨rfl, hb⟩; (try have hb := Below.undrew hb); (try have hb := Below.undrew hb); first | (have hx := FB0.out.trans (hb.mono FB0.out.size); have hc := CBN.below2 SB0.out hb; have FB0 := Lib.hid hx; have SB0 := Lib.hid hc; obtain ⟨d0, d1, d2, d3, d4, d5⟩ := hc; clear hb hx)) | (go_at_call 93; refine (CS.out (by assumption) _).mono ?_; rintro e w1 ⟨rfl, hb⟩; (try have hb := Below.undrew hb); (try have hb := Below.undrew hb); first | (have hx := FB0.out.trans (hb.mono FB0.out.size); have hc := CBN.below2 SB0.out hb; have FB0 := Lib.hid hx; have SB0 := Lib.hid hc; obtain ⟨d0, d1, d2, d3, d4, d5⟩ := hc; clear hb hx)) | (go_at_call 44; refine (CD.out (by assumption) _).mono ?_; rintro e w1 ⟨rfl, hb⟩; (try have hb := Below.undrew hb); (try have hb := Below.undrew hb); first | (have hx := FB0.out.trans (hb.mono FB0.out.size); have hc := CBN.below2 SB0.out hb; have FB0 := Lib.hid hx; have SB0 := Lib.hid hc; obtain ⟨d0, d1, d2, d3, d4, d5⟩ := hc; clear hb hx)))
    all_goals go_ret
    first
     | (have hgd := h2; clear hgd; all_goals first | exact ⟨ret_str (by rw [← ANS.out]; simp [jumpsL, leadL, ho5, ho133, ho149, hw6, nameJ_int hk hk14, tx, ByteArray.data_append, h1, h2]), FB0.out⟩ | exact ⟨ret_str (by rw [← ANS.out]; simp [jumpsL, leadL, ho5, ho133, ho149, hw6, nameJ_int hk hk14, tx, ByteArray.data_append, h1, h2]), (Below.refl _ w).alloc (Nat.le_refl _) _⟩)
     | (have hgd := h1; clear hgd; all_goals first | exact ⟨ret_str (by rw [← ANS.out]; simp [jumpsL, leadL, ho5, ho133, ho149, hw6, nameJ_int hk hk14, tx, ByteArray.data_append, h1]), FB0.out⟩ | exact ⟨ret_str (by rw [← ANS.out]; simp [jumpsL, leadL, ho5, ho133, ho149, hw6, nameJ_int hk hk14, tx, ByteArray.data_append, h1]), (Below.refl _ w).alloc (Nat.le_refl _) _⟩)
   |clear blkB
    subst hld
    go_enter Tryz.func65, Tryz.ntmps65
    go_wp2_with (first | (go_at_call 90; refine (CO.out _).mono ?_; rintro e w1 ⟨rfl, rfl⟩) | (go_at_call 41; refine (CI.out _).mono ?_; rintro e w1 ⟨rfl, rfl⟩) | (go_at_call 40; refine (CR.out _ _).mono ?_; rintro e w1 ⟨rfl, hb⟩; (try have hb := Below.undrew hb); (try have hb := Below.undrew hb); first | (have hx := FB0.out.trans (hb.mono FB0.out.size); have hc := CBN.below2 SB0.out hb; have FB0 := Lib.hid hx; have SB0 := Lib.hid hc; obtain ⟨d0, d1, d2, d3, d4, d5⟩ := hc; clear hb hx)) | (go_at_call 93; refine (CS.out (by assumption) _).mono ?_; rintro e w1 ⟨rfl, hb⟩; (try have hb := Below.undrew hb); (try have hb := Below.undrew hb); first | (have hx := FB0.out.trans (hb.mono FB0.out.size); have hc := CBN.below2 SB0.out hb; have FB0 := Lib.hid hx; have SB0 := Lib.hid hc; obtain ⟨d0, d1, d2, d3, d4, d5⟩ := hc; clear hb hx)) | (go_at_call 44; refine (CD.out (by assumption) _).mono ?_; rintro e w1 ⟨rfl, hb⟩; (try have hb := Below.undrew hb); (try have hb := Below.undrew hb); first | (have hx := FB0.out.trans (hb.mono FB0.out.size); have hc := CBN.below2 SB0.out hb; have FB0 := Lib.hid hx; have SB0 := Lib.hid hc; obtain ⟨d0, d1, d2, d3, d4, d5⟩ := hc; clear hb hx)))
    iterate 2
     all_goals go_region_held3 (fun W => W.cell? ⟨w.heap.size, 0, none⟩ = some (.int .i64 o) ∧ W.cell? ⟨w.heap.size, 1, none⟩ = some (.int .i64 d) ∧ W.cell? ⟨w.heap.size, 2, none⟩ = some (.int .i64 s) ∧ W.cell? ⟨w.heap.size, 3, none⟩ = some (.int .i64 f) ∧ W.cell? ⟨w.heap.size, 4, none⟩ = some (.int .i64 m) ∧ W.cell? ⟨w.heap.size + 1, k, none⟩ = some (.string (tx (nameJ k)))) (first | exact SB0.out) ((first | (go_at_call 90; refine (CO.out _).mono ?_; rintro e w1 ⟨rfl, rfl⟩) | (go_at_call 41; refine (CI.out _).mono ?_; rintro e w1 ⟨rfl, rfl⟩) | (go_at_call 40; refine (CR.out _ _).mono ?_; rintro e w1 ⟨rfl, hb⟩; (try have hb := Below.undrew hb); (try have hb := Below.undrew hb); first | (have hx := FB0.out.trans (hb.mono FB0.out.size); have hc := CBN.below2 SB0.out hb; have FB0 := Lib.hid hx; have SB0 := Lib.hid hc; obtain ⟨d0, d1, d2, d3, d4, d5⟩ := hc; clear hb hx)) | (go_at_call 93; refine (CS.out (by assumption) _).mono ?_; rintro e w1 ⟨rfl, hb⟩; (try have hb := Below.undrew hb); (try have hb := Below.undrew hb); first | (have hx := FB0.out.trans (hb.mono FB0.out.size); have hc := CBN.below2 SB0.out hb; have FB0 := Lib.hid hx; have SB0 := Lib.hid hc; obtain ⟨d0, d1, d2, d3, d4, d5⟩ := hc; clear hb hx)) | (go_at_call 44; refine (CD.out (by assumption) _).mono ?_; rintro e w1 ⟨rfl, hb⟩; (try have hb := Below.undrew hb); (try have hb := Below.undrew hb); first | (have hx := FB0.out.trans (hb.mono FB0.out.size); have hc := CBN.below2 SB0.out hb; have FB0 := Lib.hid hx; have SB0 := Lib.hid hc; obtain ⟨d0, d1, d2, d3, d4, d5⟩ := hc; clear hb hx))))
     all_goals go_wp2_with (first | (go_at_call 90; refine (CO.out _).mono ?_; rintro e w1 ⟨rfl, rfl⟩) | (go_at_call 41; refine (CI.out _).mono ?_; rintro e w1 ⟨rfl, rfl⟩) | (go_at_call 40; refine (CR.out _ _).mono ?_; rintro e w1 ⟨rfl, hb⟩; (try have hb := Below.undrew hb); (try have hb := Below.undrew hb); first | (have hx := FB0.out.trans (hb.mono FB0.out.size); have hc := CBN.below2 SB0.out hb; have FB0 := Lib.hid hx; have SB0 := Lib.hid hc; obtain ⟨d0, d1, d2, d3, d4, d5⟩ := hc; clear hb hx)) | (go_at_call 93; refine (CS.out (by assumption) _).mono ?_; rintro e w1 ⟨rfl, hb⟩; (try have hb := Below.undrew hb); (try have hb := Below.undrew hb); first | (have hx := FB0.out.trans (hb.mono FB0.out.size); have hc := CBN.below2 SB0.out hb; have FB0 := Lib.hid hx; have SB0 := Lib.hid hc; obtain ⟨d0, d1, d2, d3, d4, d5⟩ := hc; clear hb hx)) | (go_at_call 44; refine (CD.out (by assumption) _).mono ?_; rintro e w1 ⟨rfl, hb⟩; (try have hb := Below.undrew hb); (try have hb := Below.undrew hb); first | (have hx := FB0.out.trans (hb.mono FB0.out.size); have hc := CBN.below2 SB0.out hb; have FB0 := Lib.hid hx; have SB0 := Lib.hid hc; obtain ⟨d0, d1, d2, d3, d4, d5⟩ := hc; clear hb hx)))
    all_goals go_ret
    first
     | (have hgd := h7; clear hgd; all_goals first | exact ⟨ret_str (by rw [← ANS.out]; simp [jumpsL, leadL, ho5, ho133, ho149, hw6, nameJ_int hk hk14, tx, ByteArray.data_append, h1, h2, h3, h4, h5, h6, h7]), FB0.out⟩ | exact ⟨ret_str (by rw [← ANS.out]; simp [jumpsL, leadL, ho5, ho133, ho149, hw6, nameJ_int hk hk14, tx, ByteArray.data_append, h1, h2, h3, h4, h5, h6, h7]), (Below.refl _ w).alloc (Nat.le_refl _) _⟩)
     | (have hgd := h5; clear hgd; all_goals first | exact ⟨ret_str (by rw [← ANS.out]; simp [jumpsL, leadL, ho5, ho133, ho149, hw6, nameJ_int hk hk14, tx, ByteArray.data_append, h1, h2, h3, h4, h5]), FB0.out⟩ | exact ⟨ret_str (by rw [← ANS.out]; simp [jumpsL, leadL, ho5, ho133, ho149, hw6, nameJ_int hk hk14, tx, ByteArray.data_append, h1, h2, h3, h4, h5]), (Below.refl _ w).alloc (Nat.le_refl _) _⟩)
     | (have hgd := h4; clear hgd; all_goals first | exact ⟨ret_str (by rw [← ANS.out]; simp [jumpsL, leadL, ho5, ho133, ho149, hw6, nameJ_int hk hk14, tx, ByteArray.data_append, h1, h2, h3, h4]), FB0.out⟩ | exact ⟨ret_str (by rw [← ANS.out]; simp [jumpsL, leadL, ho5, ho133, ho149, hw6, nameJ_int hk hk14, tx, ByteArray.data_append, h1, h2, h3, h4]), (Below.refl _ w).alloc (Nat.le_refl _) _⟩)
     | (have hgd := h3; clear hgd; all_goals first | exact ⟨ret_str (by rw [← ANS.out]; simp [jumpsL, leadL, ho5, ho133, ho149, hw6, nameJ_int hk hk14, tx, ByteArray.data_append, h1, h2, h3]), FB0.out⟩ | exact ⟨ret_str (by rw [← ANS.out]; simp [jumpsL, leadL, ho5, ho133, ho149, hw6, nameJ_int hk hk14, tx, ByteArray.data_append, h1, h2, h3]), (Below.refl _ w).alloc (Nat.le_refl _) _⟩)
   |subst hld
    go_enter Tryz.func65, Tryz.ntmps65
    go_wp2_with (first | (go_at_call 90; refine (CO.out _).mono ?_; rintro e w1 ⟨rfl, rfl⟩) | (go_at_call 41; refine (CI.out _).mono ?_; rintro e w1 ⟨rfl, rfl⟩) | (go_at_call 40; refine (CR.out _ _).mono ?_; rintro e w1 ⟨rfl, hb⟩; (try have hb := Below.undrew hb); (try have hb := Below.undrew hb); first | (have hx := FB0.out.trans (hb.mono FB0.out.size); have hc := CBN.below2 SB0.out hb; have FB0 := Lib.hid hx; have SB0 := Lib.hid hc; obtain ⟨d0, d1, d2, d3, d4, d5⟩ := hc; clear hb hx)) | (go_at_call 93; refine (CS.out (by assumption) _).mono ?_; rintro e w1 ⟨rfl, hb⟩; (try have hb := Below.undrew hb); (try have hb := Below.undrew hb); first | (have hx := FB0.out.trans (hb.mono FB0.out.size); have hc := CBN.below2 SB0.out hb; have FB0 := Lib.hid hx; have SB0 := Lib.hid hc; obtain ⟨d0, d1, d2, d3, d4, d5⟩ := hc; clear hb hx)) | (go_at_call 44; refine (CD.out (by assumption) _).mono ?_; rintro e w1 ⟨rfl, hb⟩; (try have hb := Below.undrew hb); (try have hb := Below.undrew hb); first | (have hx := FB0.out.trans (hb.mono FB0.out.size); have hc := CBN.below2 SB0.out hb; have FB0 := Lib.hid hx; have SB0 := Lib.hid hc; obtain ⟨d0, d1, d2, d3, d4, d5⟩ := hc; clear hb hx)))
    iterate 3
     all_goals go_region_held3 (fun W => W.cell? ⟨w.heap.size, 0, none⟩ = some (.int .i64 o) ∧ W.cell? ⟨w.heap.size, 1, none⟩ = some (.int .i64 d) ∧ W.cell? ⟨w.heap.size, 2, none⟩ = some (.int .i64 s) ∧ W.cell? ⟨w.heap.size, 3, none⟩ = some (.int .i64 f) ∧ W.cell? ⟨w.heap.size, 4, none⟩ = some (.int .i64 m) ∧ W.cell? ⟨w.heap.size + 1, k, none⟩ = some (.string (tx (nameJ k)))) (first | exact SB0.out) ((first | (go_at_call 90; refine (CO.out _).mono ?_; rintro e w1 ⟨rfl, rfl⟩) | (go_at_call 41; refine (CI.out _).mono ?_; rintro e w1 ⟨rfl, rfl⟩) | (go_at_call 40; refine (CR.out _ _).mono ?_; rintro e w1 ⟨rfl, hb⟩; (try have hb := Below.undrew hb); (try have hb := Below.undrew hb); first | (have hx := FB0.out.trans (hb.mono FB0.out.size); have hc := CBN.below2 SB0.out hb; have FB0 := Lib.hid hx; have SB0 := Lib.hid hc; obtain ⟨d0, d1, d2, d3, d4, d5⟩ := hc; clear hb hx)) | (go_at_call 93; refine (CS.out (by assumption) _).mono ?_; rintro e w1 ⟨rfl, hb⟩; (try have hb := Below.undrew hb); (try have hb := Below.undrew hb); first | (have hx := FB0.out.trans (hb.mono FB0.out.size); have hc := CBN.below2 SB0.out hb; have FB0 := Lib.hid hx; have SB0 := Lib.hid hc; obtain ⟨d0, d1, d2, d3, d4, d5⟩ := hc; clear hb hx)) | (go_at_call 44; refine (CD.out (by assumption) _).mono ?_; rintro e w1 ⟨rfl, hb⟩; (try have hb := Below.undrew hb); (try have hb := Below.undrew hb); first | (have hx := FB0.out.trans (hb.mono FB0.out.size); have hc := CBN.below2 SB0.out hb; have FB0 := Lib.hid hx; have SB0 := Lib.hid hc; obtain ⟨d0, d1, d2, d3, d4, d5⟩ := hc; clear hb hx))))
     all_goals go_wp2_with (first | (go_at_call 90; refine (CO.out _).mono ?_; rintro e w1 ⟨rfl, rfl⟩) | (go_at_call 41; refine (CI.out _).mono ?_; rintro e w1 ⟨rfl, rfl⟩) | (go_at_call 40; refine (CR.out _ _).mono ?_; rintro e w1 ⟨rfl, hb⟩; (try have hb := Below.undrew hb); (try have hb := Below.undrew hb); first | (have hx := FB0.out.trans (hb.mono FB0.out.size); have hc := CBN.below2 SB0.out hb; have FB0 := Lib.hid hx; have SB0 := Lib.hid hc; obtain ⟨d0, d1, d2, d3, d4, d5⟩ := hc; clear hb hx)) | (go_at_call 93; refine (CS.out (by assumption) _).mono ?_; rintro e w1 ⟨rfl, hb⟩; (try have hb := Below.undrew hb); (try have hb := Below.undrew hb); first | (have hx := FB0.out.trans (hb.mono FB0.out.size); have hc := CBN.below2 SB0.out hb; have FB0 := Lib.hid hx; have SB0 := Lib.hid hc; obtain ⟨d0, d1, d2, d3, d4, d5⟩ := hc; clear hb hx)) | (go_at_call 44; refine (CD.out (by assumption) _).mono ?_; rintro e w1 ⟨rfl, hb⟩; (try have hb := Below.undrew hb); (try have hb := Below.undrew hb); first | (have hx := FB0.out.trans (hb.mono FB0.out.size); have hc := CBN.below2 SB0.out hb; have FB0 := Lib.hid hx; have SB0 := Lib.hid hc; obtain ⟨d0, d1, d2, d3, d4, d5⟩ := hc; clear hb hx)))
    all_goals go_ret
    all_goals first | exact ⟨ret_str (by rw [← ANS.out]; simp [jumpsL, leadL, ho5, ho133, ho149, hw6, nameJ_int hk hk14, tx, ByteArray.data_append, h1, h2, h3, h4, h5, h6, h7]), FB0.out⟩ | exact ⟨ret_str (by rw [← ANS.out]; simp [jumpsL, leadL, ho5, ho133, ho149, hw6, nameJ_int hk hk14, tx, ByteArray.data_append, h1, h2, h3, h4, h5, h6, h7]), (Below.refl _ w).alloc (Nat.le_refl _) _⟩
theorem jumps_r (o d s f m : Int) (k : Nat) (w : World) (ho5 : (o == 5) = false) (ho133 : (o == 133) = false) (ho149 : (o == 149) = false) (hw6 : (o % 8 == 6) = false) (hk : o / 16 = (k : Int)) (hk14 : k < 14) :
  Calls Tryz.prog 65 #[insV o d s f m] w fun e w' => e = .returned (.string (tx (jumpsL o d s f m))) ∧ Below w.heap.size w w' := 
 jumps_b o d s f m k w ho5 ho133 ho149 114 (.inl ⟨hw6, rfl⟩) hk hk14
theorem jumps_w (o d s f m : Int) (k : Nat) (w : World) (ho5 : (o == 5) = false) (ho133 : (o == 133) = false) (ho149 : (o == 149) = false) (hw6 : (o % 8 == 6) = true) (hk : o / 16 = (k : Int)) (hk14 : k < 14) :
  Calls Tryz.prog 65 #[insV o d s f m] w fun e w' => e = .returned (.string (tx (jumpsL o d s f m))) ∧ Below w.heap.size w w' := 
 jumps_b o d s f m k w ho5 ho133 ho149 119 (.inr ⟨hw6, rfl⟩) hk hk14
theorem CBN.cb {w : World} {b k : Nat} {o d s f m : Int} (h : CBN b o d s f m k w) : CB b o d s f m w := ⟨h.1, h.2.1, h.2.2.1, h.2.2.2.1, h.2.2.2.2.1⟩
theorem nameJ_none (k : Nat) (h : 14 ≤ k) : nameJ k = [] := by
 unfold nameJ
 split <;> first | omega | rfl
theorem nameJ_big {o : Int} {k : Nat} (hk : o / 16 = (k : Int)) (h : 14 ≤ k) : nameJ (o / 16).toNat = [] := by rw [hk]; exact nameJ_none k h

set_option maxHeartbeats 4000000 in
theorem jumps_big_b (o d s f m : Int) (k : Nat) (w : World) (ho5 : (o == 5) = false) (ho133 : (o == 133) = false) (ho149 : (o == 149) = false) (ld : UInt8) (hB : ((o % 8 == 6) = false ∧ ld = 114) ∨ ((o % 8 == 6) = true ∧ ld = 119)) (hk : o / 16 = (k : Int)) (hk14 : 14 ≤ k) :
  Calls Tryz.prog 65 #[insV o d s f m] w fun e w' => e = .returned (.string (tx (jumpsL o d s f m))) ∧ Below w.heap.size w w' := by
 rcases hB with ⟨hw6, hld⟩ | ⟨hw6, hld⟩
 all_goals
  obtain ⟨ans, hans⟩ : ∃ b, jumpsL o d s f m = b := ⟨_, rfl⟩
  rw [hans]
  have ANS := Lib.hid hans
  clear hans
  have n5 := Cells5.new w ⟨o, d, s, f, m⟩ 38
  have SB0 := Lib.hid (show CB w.heap.size o d s f m ((w.alloc (.cells #[.int .i64 o, .int .i64 d, .int .i64 s, .int .i64 f, .int .i64 m] 38)).alloc (.cells #[.string { data := #[] }, .string { data := #[61, 61] }, .string { data := #[62] }, .string { data := #[62, 61] }, .string { data := #[38] }, .string { data := #[33, 61] }, .string { data := #[115, 62] }, .string { data := #[115, 62, 61] }, .string { data := #[] }, .string { data := #[] }, .string { data := #[60] }, .string { data := #[60, 61] }, .string { data := #[115, 60] }, .string { data := #[115, 60, 61] }] 9)) from (cbn_new w o d s f m 0 (by decide)).cb)
  have FB0 : Hid (Below w.heap.size w ((w.alloc (.cells #[.int .i64 o, .int .i64 d, .int .i64 s, .int .i64 f, .int .i64 m] 38)).alloc (.cells #[.string { data := #[] }, .string { data := #[61, 61] }, .string { data := #[62] }, .string { data := #[62, 61] }, .string { data := #[38] }, .string { data := #[33, 61] }, .string { data := #[115, 62] }, .string { data := #[115, 62, 61] }, .string { data := #[] }, .string { data := #[] }, .string { data := #[60] }, .string { data := #[60, 61] }, .string { data := #[115, 60] }, .string { data := #[115, 60, 61] }] 9))) := ((Below.refl _ w).alloc (Nat.le_refl _) _).alloc (by simp) _
  clear n5
  have CR := Lib.hid (fun n w' => reg_any [ld] (by simp) n w')
  have CO := Lib.hid (off04_any f)
  have CI := Lib.hid (imm04_any m)
  have a7 := and_i64_7 o
  have gk : decide (13 < (k : Int)) = true := by simp; omega
  unfold insV
  cases h1 : (offIn f)
  ·subst hld
   go_enter Tryz.func65, Tryz.ntmps65
   go_wp2_with (first | (go_at_call 90; refine (CO.out _).mono ?_; rintro e w1 ⟨rfl, rfl⟩) | (go_at_call 41; refine (CI.out _).mono ?_; rintro e w1 ⟨rfl, rfl⟩) | (go_at_call 40; refine (CR.out _ _).mono ?_; rintro e w1 ⟨rfl, hb⟩; (try have hb := Below.undrew hb); (try have hb := Below.undrew hb); first | (have hx := FB0.out.trans (hb.mono FB0.out.size); have hc := CB.below2 SB0.out hb; have FB0 := Lib.hid hx; have SB0 := Lib.hid hc; obtain ⟨d0, d1, d2, d3, d4⟩ := hc; clear hb hx)))
   all_goals go_ret
   all_goals first | exact ⟨ret_str (by rw [← ANS.out]; simp [jumpsL, leadL, ho5, ho133, ho149, hw6, nameJ_big hk hk14, tx, ByteArray.data_append, h1]), FB0.out⟩ | exact ⟨ret_str (by rw [← ANS.out]; simp [jumpsL, leadL, ho5, ho133, ho149, hw6, nameJ_big hk hk14, tx, ByteArray.data_append, h1]), (Below.refl _ w).alloc (Nat.le_refl _) _⟩
  ·cases h2 : (immIn m)
   ·subst hld
    go_enter Tryz.func65, Tryz.ntmps65
    go_wp2_with (first | (go_at_call 90; refine (CO.out _).mono ?_; rintro e w1 ⟨rfl, rfl⟩) | (go_at_call 41; refine (CI.out _).mono ?_; rintro e w1 ⟨rfl, rfl⟩) | (go_at_call 40; refine (CR.out _ _).mono ?_; rintro e w1 ⟨rfl, hb⟩; (try have hb := Below.undrew hb); (try have hb := Below.undrew hb); first | (have hx := FB0.out.trans (hb.mono FB0.out.size); have hc := CB.below2 SB0.out hb; have FB0 := Lib.hid hx; have SB0 := Lib.hid hc; obtain ⟨d0, d1, d2, d3, d4⟩ := hc; clear hb hx)))
    all_goals go_ret
    all_goals first | exact ⟨ret_str (by rw [← ANS.out]; simp [jumpsL, leadL, ho5, ho133, ho149, hw6, nameJ_big hk hk14, tx, ByteArray.data_append, h1, h2]), FB0.out⟩ | exact ⟨ret_str (by rw [← ANS.out]; simp [jumpsL, leadL, ho5, ho133, ho149, hw6, nameJ_big hk hk14, tx, ByteArray.data_append, h1, h2]), (Below.refl _ w).alloc (Nat.le_refl _) _⟩
   ·subst hld
    go_enter Tryz.func65, Tryz.ntmps65
    go_wp2_with (first | (go_at_call 90; refine (CO.out _).mono ?_; rintro e w1 ⟨rfl, rfl⟩) | (go_at_call 41; refine (CI.out _).mono ?_; rintro e w1 ⟨rfl, rfl⟩) | (go_at_call 40; refine (CR.out _ _).mono ?_; rintro e w1 ⟨rfl, hb⟩; (try have hb := Below.undrew hb); (try have hb := Below.undrew hb); first | (have hx := FB0.out.trans (hb.mono FB0.out.size); have hc := CB.below2 SB0.out hb; have FB0 := Lib.hid hx; have SB0 := Lib.hid hc; obtain ⟨d0, d1, d2, d3, d4⟩ := hc; clear hb hx)))
    iterate 2
     all_goals go_region_held3 (fun W => W.cell? ⟨w.heap.size, 0, none⟩ = some (.int .i64 o) ∧ W.cell? ⟨w.heap.size, 1, none⟩ = some (.int .i64 d) ∧ W.cell? ⟨w.heap.size, 2, none⟩ = some (.int .i64 s) ∧ W.cell? ⟨w.heap.size, 3, none⟩ = some (.int .i64 f) ∧ W.cell? ⟨w.heap.size, 4, none⟩ = some (.int .i64 m)) (first | exact SB0.out) ((first | (go_at_call 90; refine (CO.out _).mono ?_; rintro e w1 ⟨rfl, rfl⟩) | (go_at_call 41; refine (CI.out _).mono ?_; rintro e w1 ⟨rfl, rfl⟩) | (go_at_call 40; refine (CR.out _ _).mono ?_; rintro e w1 ⟨rfl, hb⟩; (try have hb := Below.undrew hb); (try have hb := Below.undrew hb); first | (have hx := FB0.out.trans (hb.mono FB0.out.size); have hc := CB.below2 SB0.out hb; have FB0 := Lib.hid hx; have SB0 := Lib.hid hc; obtain ⟨d0, d1, d2, d3, d4⟩ := hc; clear hb hx))))
     all_goals go_wp2_with (first | (go_at_call 90; refine (CO.out _).mono ?_; rintro e w1 ⟨rfl, rfl⟩) | (go_at_call 41; refine (CI.out _).mono ?_; rintro e w1 ⟨rfl, rfl⟩) | (go_at_call 40; refine (CR.out _ _).mono ?_; rintro e w1 ⟨rfl, hb⟩; (try have hb := Below.undrew hb); (try have hb := Below.undrew hb); first | (have hx := FB0.out.trans (hb.mono FB0.out.size); have hc := CB.below2 SB0.out hb; have FB0 := Lib.hid hx; have SB0 := Lib.hid hc; obtain ⟨d0, d1, d2, d3, d4⟩ := hc; clear hb hx)))
    all_goals go_ret
    all_goals first | exact ⟨ret_str (by rw [← ANS.out]; simp [jumpsL, leadL, ho5, ho133, ho149, hw6, nameJ_big hk hk14, tx, ByteArray.data_append, h1, h2]), FB0.out⟩ | exact ⟨ret_str (by rw [← ANS.out]; simp [jumpsL, leadL, ho5, ho133, ho149, hw6, nameJ_big hk hk14, tx, ByteArray.data_append, h1, h2]), (Below.refl _ w).alloc (Nat.le_refl _) _⟩
theorem jumps_big_r (o d s f m : Int) (k : Nat) (w : World) (ho5 : (o == 5) = false) (ho133 : (o == 133) = false) (ho149 : (o == 149) = false) (hw6 : (o % 8 == 6) = false) (hk : o / 16 = (k : Int)) (hk14 : 14 ≤ k) :
  Calls Tryz.prog 65 #[insV o d s f m] w fun e w' => e = .returned (.string (tx (jumpsL o d s f m))) ∧ Below w.heap.size w w' := 
 jumps_big_b o d s f m k w ho5 ho133 ho149 114 (.inl ⟨hw6, rfl⟩) hk hk14
theorem jumps_big_w (o d s f m : Int) (k : Nat) (w : World) (ho5 : (o == 5) = false) (ho133 : (o == 133) = false) (ho149 : (o == 149) = false) (hw6 : (o % 8 == 6) = true) (hk : o / 16 = (k : Int)) (hk14 : 14 ≤ k) :
  Calls Tryz.prog 65 #[insV o d s f m] w fun e w' => e = .returned (.string (tx (jumpsL o d s f m))) ∧ Below w.heap.size w w' := 
 jumps_big_b o d s f m k w ho5 ho133 ho149 119 (.inr ⟨hw6, rfl⟩) hk hk14
end Go.Proofs.YtemiklbkfogjeaaGreatDoor.Ln
