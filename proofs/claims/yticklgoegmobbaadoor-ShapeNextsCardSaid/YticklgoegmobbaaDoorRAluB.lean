/-
  The reference's lines: operations of 32 bits.
-/
import Derived.Test.YticklgoegmobbaaDoorRAluS
namespace Go.Proofs.YticklgoegmobbaaDoor
open Go Go.RowKit
set_option linter.unusedVariables false
set_option linter.unusedSimpArgs false
set_option maxRecDepth 100000

set_option maxHeartbeats 4000000 in
theorem alu_w (o d s f m : Int) (k : Nat) (w : World) (hw7 : (o % 8 == 7) = false) (hk : bits .and .i64 o 240 / 16 = (k : Int)) (hk13 : k < 13) :
    Calls Tryd.prog 55 #[insV o d s f m] w fun e w' => e = .returned (.string (tx (aluT o d s f m))) ∧ Below w.heap.size w w' := by
  obtain ⟨ans, hans⟩ : ∃ b, aluT o d s f m = b := ⟨_, rfl⟩
  rw [hans]
  have ANS := Lib.hid hans
  clear hans
  have n5 := Cells5.new w ⟨o, d, s, f, m⟩ 39
  have SB0 := Lib.hid (show CB w.heap.size o d s f m (w.alloc (.cells #[.int .i64 o, .int .i64 d, .int .i64 s, .int .i64 f, .int .i64 m] 39)) from n5)
  clear n5
  have FB0 : Hid (Below w.heap.size w (w.alloc (.cells #[.int .i64 o, .int .i64 d, .int .i64 s, .int .i64 f, .int .i64 m] 39))) := (Below.refl _ w).alloc (Nat.le_refl _) _
  have CR := Lib.hid (fun n w' => reg_any [119] (by simp) n w')
  have CI := Lib.hid (imm04_any m)
  have CD := Lib.hid (fun h w' => digits_any m (imm_b h) w')
  have CE := Lib.hid (ends_any o d s f m)
  unfold insV at CE
  have a7 := and_i64_7 o
  have hrd := regl1_sz [119] rfl d
  have hrs := regl1_sz [119] rfl s
  have hnm := nameA_sz k
  have nm := ops_cell k hk13
  have nm2 := opsA_get k hk13
  unfold opsA at nm nm2
  have gk : decide (12 < (k : Int)) = false := by simp; omega
  have hk13' : decide (12 < (k : Int)) = false := gk
  have j1 : (0 : Int) ≤ (k : Int) := by omega
  have j2 : (k : Int) < 13 := by omega
  unfold insV
  cases h1 : (regIn d)
  focus
    have q1 := reg_none [119] d
    rw [h1] at q1
    simp only [Bool.not_true, Bool.not_false] at q1
  rotate_left 1
  focus
    have q1 := reg_none [119] d
    rw [h1] at q1
    simp only [Bool.not_true, Bool.not_false] at q1
    cases h2 : (regIn s)
    focus
      have q2 := reg_none [119] s
      rw [h2] at q2
      simp only [Bool.not_true, Bool.not_false] at q2
    rotate_left 1
    focus
      have q2 := reg_none [119] s
      rw [h2] at q2
      simp only [Bool.not_true, Bool.not_false] at q2
      cases h3 : (bits .and .i64 o 240 == 208)
      focus
        have g3 : (bits .and .i64 o 240 != 208) = true := by simp only [bne, h3]; rfl
        cases h4 : (bits .and .i64 o 240 == 128)
        focus
          have g4 : (bits .and .i64 o 240 != 128) = true := by simp only [bne, h4]; rfl
          cases h5 : (bits .and .i64 o 8 == 0)
          focus
            have g5 : (bits .and .i64 o 8 != 0) = true := by simp only [bne, h5]; rfl
            cases h6 : (m == 0)
            focus
              have g6 : (m != 0) = true := by simp only [bne, h6]; rfl
            rotate_left 1
            focus
              have g6 : (m != 0) = false := by simp only [bne, h6]; rfl
              cases h7 : (immIn m)
              focus
                skip
              rotate_left 1
              focus
                cases h8 : (f == 0)
                focus
                  have g8 : (f != 0) = true := by simp only [bne, h8]; rfl
                  cases h9 : (f == 1)
                  focus
                    have g9 : (f != 1) = true := by simp only [bne, h9]; rfl
                    cases h10 : (bits .and .i64 o 240 == 176)
                    focus
                      have g10 : (bits .and .i64 o 240 != 176) = true := by simp only [bne, h10]; rfl
                    rotate_left 1
                    focus
                      have g10 : (bits .and .i64 o 240 != 176) = false := by simp only [bne, h10]; rfl
                      cases h11 : (f == 8)
                      focus
                        have g11 : (f != 8) = true := by simp only [bne, h11]; rfl
                        cases h12 : (f == 16)
                        focus
                          have g12 : (f != 16) = true := by simp only [bne, h12]; rfl
                          cases h13 : (f == 32)
                          focus
                            have g13 : (f != 32) = true := by simp only [bne, h13]; rfl
                          rotate_left 1
                          focus
                            have HM := Lib.hid (eq_of_beq h13)
                            have hs3 : (tx (digL f)).size ≤ 11 := by rw [tx_size]; exact digL_len f (by have := HM.out; omega)
                            have CD := Lib.hid (digits_any f (by have := HM.out; omega))
                            have g13 : (f != 32) = false := by simp only [bne, h13]; rfl
                        rotate_left 2
                        focus
                          have HM := Lib.hid (eq_of_beq h12)
                          have hs3 : (tx (digL f)).size ≤ 11 := by rw [tx_size]; exact digL_len f (by have := HM.out; omega)
                          have CD := Lib.hid (digits_any f (by have := HM.out; omega))
                          have g12 : (f != 16) = false := by simp only [bne, h12]; rfl
                      rotate_left 3
                      focus
                        have HM := Lib.hid (eq_of_beq h11)
                        have hs3 : (tx (digL f)).size ≤ 11 := by rw [tx_size]; exact digL_len f (by have := HM.out; omega)
                        have CD := Lib.hid (digits_any f (by have := HM.out; omega))
                        have g11 : (f != 8) = false := by simp only [bne, h11]; rfl
                  rotate_left 5
                  focus
                    have g9 : (f != 1) = false := by simp only [bne, h9]; rfl
                    cases h10 : (bits .and .i64 o 240 == 48)
                    focus
                      have g10 : (bits .and .i64 o 240 != 48) = true := by simp only [bne, h10]; rfl
                      cases h11 : (bits .and .i64 o 240 == 144)
                      focus
                        have g11 : (bits .and .i64 o 240 != 144) = true := by simp only [bne, h11]; rfl
                        cases h12 : (bits .and .i64 o 240 == 176)
                        focus
                          have g12 : (bits .and .i64 o 240 != 176) = true := by simp only [bne, h12]; rfl
                        rotate_left 1
                        focus
                          have g12 : (bits .and .i64 o 240 != 176) = false := by simp only [bne, h12]; rfl
                          cases h13 : (f == 8)
                          focus
                            have g13 : (f != 8) = true := by simp only [bne, h13]; rfl
                            cases h14 : (f == 16)
                            focus
                              have g14 : (f != 16) = true := by simp only [bne, h14]; rfl
                              cases h15 : (f == 32)
                              focus
                                have g15 : (f != 32) = true := by simp only [bne, h15]; rfl
                              rotate_left 1
                              focus
                                have g15 : (f != 32) = false := by simp only [bne, h15]; rfl
                                exfalso
                                simp only [beq_iff_eq] at *
                                omega
                            rotate_left 1
                            focus
                              have g14 : (f != 16) = false := by simp only [bne, h14]; rfl
                              exfalso
                              simp only [beq_iff_eq] at *
                              omega
                          rotate_left 1
                          focus
                            have g13 : (f != 8) = false := by simp only [bne, h13]; rfl
                            exfalso
                            simp only [beq_iff_eq] at *
                            omega
                      rotate_left 2
                      focus
                        have g11 : (bits .and .i64 o 240 != 144) = false := by simp only [bne, h11]; rfl
                    rotate_left 3
                    focus
                      have g10 : (bits .and .i64 o 240 != 48) = false := by simp only [bne, h10]; rfl
                rotate_left 9
                focus
                  have g8 : (f != 0) = false := by simp only [bne, h8]; rfl
          rotate_left 12
          focus
            have g5 : (bits .and .i64 o 8 != 0) = false := by simp only [bne, h5]; rfl
            cases h6 : (s == 0)
            focus
              have g6 : (s != 0) = true := by simp only [bne, h6]; rfl
            rotate_left 1
            focus
              have g6 : (s != 0) = false := by simp only [bne, h6]; rfl
              cases h7 : (immIn m)
              focus
                skip
              rotate_left 1
              focus
                cases h8 : (f == 0)
                focus
                  have g8 : (f != 0) = true := by simp only [bne, h8]; rfl
                  cases h9 : (f == 1)
                  focus
                    have g9 : (f != 1) = true := by simp only [bne, h9]; rfl
                    cases h10 : (bits .and .i64 o 240 == 176)
                    focus
                      have g10 : (bits .and .i64 o 240 != 176) = true := by simp only [bne, h10]; rfl
                      have hdm := imm_sz m (by assumption)
                    rotate_left 1
                    focus
                      have g10 : (bits .and .i64 o 240 != 176) = false := by simp only [bne, h10]; rfl
                      have hdm := imm_sz m (by assumption)
                  rotate_left 2
                  focus
                    have g9 : (f != 1) = false := by simp only [bne, h9]; rfl
                    cases h10 : (bits .and .i64 o 240 == 48)
                    focus
                      have g10 : (bits .and .i64 o 240 != 48) = true := by simp only [bne, h10]; rfl
                      cases h11 : (bits .and .i64 o 240 == 144)
                      focus
                        have g11 : (bits .and .i64 o 240 != 144) = true := by simp only [bne, h11]; rfl
                        cases h12 : (bits .and .i64 o 240 == 176)
                        focus
                          have g12 : (bits .and .i64 o 240 != 176) = true := by simp only [bne, h12]; rfl
                          have hdm := imm_sz m (by assumption)
                        rotate_left 1
                        focus
                          have g12 : (bits .and .i64 o 240 != 176) = false := by simp only [bne, h12]; rfl
                          have hdm := imm_sz m (by assumption)
                      rotate_left 2
                      focus
                        have g11 : (bits .and .i64 o 240 != 144) = false := by simp only [bne, h11]; rfl
                        have hdm := imm_sz m (by assumption)
                    rotate_left 3
                    focus
                      have g10 : (bits .and .i64 o 240 != 48) = false := by simp only [bne, h10]; rfl
                      have hdm := imm_sz m (by assumption)
                rotate_left 6
                focus
                  have g8 : (f != 0) = false := by simp only [bne, h8]; rfl
                  have hdm := imm_sz m (by assumption)
        rotate_left 21
        focus
          have g4 : (bits .and .i64 o 240 != 128) = false := by simp only [bne, h4]; rfl
          cases h5 : (bits .and .i64 o 8 == 0)
          focus
            have g5 : (bits .and .i64 o 8 != 0) = true := by simp only [bne, h5]; rfl
          rotate_left 1
          focus
            have g5 : (bits .and .i64 o 8 != 0) = false := by simp only [bne, h5]; rfl
            cases h6 : (s == 0)
            focus
              have g6 : (s != 0) = true := by simp only [bne, h6]; rfl
            rotate_left 1
            focus
              have g6 : (s != 0) = false := by simp only [bne, h6]; rfl
              cases h7 : (f == 0)
              focus
                have g7 : (f != 0) = true := by simp only [bne, h7]; rfl
              rotate_left 1
              focus
                have g7 : (f != 0) = false := by simp only [bne, h7]; rfl
                cases h8 : (m == 0)
                focus
                  have g8 : (m != 0) = true := by simp only [bne, h8]; rfl
                rotate_left 1
                focus
                  have g8 : (m != 0) = false := by simp only [bne, h8]; rfl
      rotate_left 26
      focus
        have g3 : (bits .and .i64 o 240 != 208) = false := by simp only [bne, h3]; rfl
  all_goals
    go_enter Tryd.func55, Tryd.ntmps55
    go_wp2_with (first | (go_at_call 48; refine (CR.out _ _).mono ?_; rintro e w1 ⟨rfl, hb⟩; (try have hb := Below.undrew hb); (try have hb := Below.undrew hb); first | (have hx := FB5.out.trans (hb.mono FB5.out.size); have hc := CB.below2 SB5.out hb; have FB6 := Lib.hid hx; have SB6 := Lib.hid hc; obtain ⟨d0, d1, d2, d3, d4⟩ := hc; clear hb hx) | (have hx := FB4.out.trans (hb.mono FB4.out.size); have hc := CB.below2 SB4.out hb; have FB5 := Lib.hid hx; have SB5 := Lib.hid hc; obtain ⟨d0, d1, d2, d3, d4⟩ := hc; clear hb hx) | (have hx := FB3.out.trans (hb.mono FB3.out.size); have hc := CB.below2 SB3.out hb; have FB4 := Lib.hid hx; have SB4 := Lib.hid hc; obtain ⟨d0, d1, d2, d3, d4⟩ := hc; clear hb hx) | (have hx := FB2.out.trans (hb.mono FB2.out.size); have hc := CB.below2 SB2.out hb; have FB3 := Lib.hid hx; have SB3 := Lib.hid hc; obtain ⟨d0, d1, d2, d3, d4⟩ := hc; clear hb hx) | (have hx := FB1.out.trans (hb.mono FB1.out.size); have hc := CB.below2 SB1.out hb; have FB2 := Lib.hid hx; have SB2 := Lib.hid hc; obtain ⟨d0, d1, d2, d3, d4⟩ := hc; clear hb hx) | (have hx := FB0.out.trans (hb.mono FB0.out.size); have hc := CB.below2 SB0.out hb; have FB1 := Lib.hid hx; have SB1 := Lib.hid hc; obtain ⟨d0, d1, d2, d3, d4⟩ := hc; clear hb hx)) | (go_at_call 49; refine (CI.out _).mono ?_; rintro e w1 ⟨rfl, rfl⟩) | (go_at_call 52; refine (CD.out (by assumption) _).mono ?_; rintro e w1 ⟨rfl, hb⟩; (try have hb := Below.undrew hb); (try have hb := Below.undrew hb); first | (have hx := FB5.out.trans (hb.mono FB5.out.size); have hc := CB.below2 SB5.out hb; have FB6 := Lib.hid hx; have SB6 := Lib.hid hc; obtain ⟨d0, d1, d2, d3, d4⟩ := hc; clear hb hx) | (have hx := FB4.out.trans (hb.mono FB4.out.size); have hc := CB.below2 SB4.out hb; have FB5 := Lib.hid hx; have SB5 := Lib.hid hc; obtain ⟨d0, d1, d2, d3, d4⟩ := hc; clear hb hx) | (have hx := FB3.out.trans (hb.mono FB3.out.size); have hc := CB.below2 SB3.out hb; have FB4 := Lib.hid hx; have SB4 := Lib.hid hc; obtain ⟨d0, d1, d2, d3, d4⟩ := hc; clear hb hx) | (have hx := FB2.out.trans (hb.mono FB2.out.size); have hc := CB.below2 SB2.out hb; have FB3 := Lib.hid hx; have SB3 := Lib.hid hc; obtain ⟨d0, d1, d2, d3, d4⟩ := hc; clear hb hx) | (have hx := FB1.out.trans (hb.mono FB1.out.size); have hc := CB.below2 SB1.out hb; have FB2 := Lib.hid hx; have SB2 := Lib.hid hc; obtain ⟨d0, d1, d2, d3, d4⟩ := hc; clear hb hx) | (have hx := FB0.out.trans (hb.mono FB0.out.size); have hc := CB.below2 SB0.out hb; have FB1 := Lib.hid hx; have SB1 := Lib.hid hc; obtain ⟨d0, d1, d2, d3, d4⟩ := hc; clear hb hx)) | (go_at_call 52; refine (CD.out _).mono ?_; rintro e w1 ⟨rfl, hb⟩; (try have hb := Below.undrew hb); (try have hb := Below.undrew hb); first | (have hx := FB5.out.trans (hb.mono FB5.out.size); have hc := CB.below2 SB5.out hb; have FB6 := Lib.hid hx; have SB6 := Lib.hid hc; obtain ⟨d0, d1, d2, d3, d4⟩ := hc; clear hb hx) | (have hx := FB4.out.trans (hb.mono FB4.out.size); have hc := CB.below2 SB4.out hb; have FB5 := Lib.hid hx; have SB5 := Lib.hid hc; obtain ⟨d0, d1, d2, d3, d4⟩ := hc; clear hb hx) | (have hx := FB3.out.trans (hb.mono FB3.out.size); have hc := CB.below2 SB3.out hb; have FB4 := Lib.hid hx; have SB4 := Lib.hid hc; obtain ⟨d0, d1, d2, d3, d4⟩ := hc; clear hb hx) | (have hx := FB2.out.trans (hb.mono FB2.out.size); have hc := CB.below2 SB2.out hb; have FB3 := Lib.hid hx; have SB3 := Lib.hid hc; obtain ⟨d0, d1, d2, d3, d4⟩ := hc; clear hb hx) | (have hx := FB1.out.trans (hb.mono FB1.out.size); have hc := CB.below2 SB1.out hb; have FB2 := Lib.hid hx; have SB2 := Lib.hid hc; obtain ⟨d0, d1, d2, d3, d4⟩ := hc; clear hb hx) | (have hx := FB0.out.trans (hb.mono FB0.out.size); have hc := CB.below2 SB0.out hb; have FB1 := Lib.hid hx; have SB1 := Lib.hid hc; obtain ⟨d0, d1, d2, d3, d4⟩ := hc; clear hb hx)) | (go_at_call 58; refine (CE.out _).mono ?_; rintro e w1 ⟨rfl, hb⟩; (try have hb := Below.undrew hb); (try have hb := Below.undrew hb); first | (have hx := FB5.out.trans (hb.mono FB5.out.size); have hc := CB.below2 SB5.out hb; have FB6 := Lib.hid hx; have SB6 := Lib.hid hc; obtain ⟨d0, d1, d2, d3, d4⟩ := hc; clear hb hx) | (have hx := FB4.out.trans (hb.mono FB4.out.size); have hc := CB.below2 SB4.out hb; have FB5 := Lib.hid hx; have SB5 := Lib.hid hc; obtain ⟨d0, d1, d2, d3, d4⟩ := hc; clear hb hx) | (have hx := FB3.out.trans (hb.mono FB3.out.size); have hc := CB.below2 SB3.out hb; have FB4 := Lib.hid hx; have SB4 := Lib.hid hc; obtain ⟨d0, d1, d2, d3, d4⟩ := hc; clear hb hx) | (have hx := FB2.out.trans (hb.mono FB2.out.size); have hc := CB.below2 SB2.out hb; have FB3 := Lib.hid hx; have SB3 := Lib.hid hc; obtain ⟨d0, d1, d2, d3, d4⟩ := hc; clear hb hx) | (have hx := FB1.out.trans (hb.mono FB1.out.size); have hc := CB.below2 SB1.out hb; have FB2 := Lib.hid hx; have SB2 := Lib.hid hc; obtain ⟨d0, d1, d2, d3, d4⟩ := hc; clear hb hx) | (have hx := FB0.out.trans (hb.mono FB0.out.size); have hc := CB.below2 SB0.out hb; have FB1 := Lib.hid hx; have SB1 := Lib.hid hc; obtain ⟨d0, d1, d2, d3, d4⟩ := hc; clear hb hx)))
    all_goals go_region_held3 (fun W => W.cell? ⟨w.heap.size, 0, none⟩ = some (.int .i64 o) ∧ W.cell? ⟨w.heap.size, 1, none⟩ = some (.int .i64 d) ∧ W.cell? ⟨w.heap.size, 2, none⟩ = some (.int .i64 s) ∧ W.cell? ⟨w.heap.size, 3, none⟩ = some (.int .i64 f) ∧ W.cell? ⟨w.heap.size, 4, none⟩ = some (.int .i64 m)) (first | exact SB6.out | exact SB5.out | exact SB4.out | exact SB3.out | exact SB2.out | exact SB1.out | exact SB0.out) ((first | (go_at_call 48; refine (CR.out _ _).mono ?_; rintro e w1 ⟨rfl, hb⟩; (try have hb := Below.undrew hb); (try have hb := Below.undrew hb); first | (have hx := FB5.out.trans (hb.mono FB5.out.size); have hc := CB.below2 SB5.out hb; have FB6 := Lib.hid hx; have SB6 := Lib.hid hc; obtain ⟨d0, d1, d2, d3, d4⟩ := hc; clear hb hx) | (have hx := FB4.out.trans (hb.mono FB4.out.size); have hc := CB.below2 SB4.out hb; have FB5 := Lib.hid hx; have SB5 := Lib.hid hc; obtain ⟨d0, d1, d2, d3, d4⟩ := hc; clear hb hx) | (have hx := FB3.out.trans (hb.mono FB3.out.size); have hc := CB.below2 SB3.out hb; have FB4 := Lib.hid hx; have SB4 := Lib.hid hc; obtain ⟨d0, d1, d2, d3, d4⟩ := hc; clear hb hx) | (have hx := FB2.out.trans (hb.mono FB2.out.size); have hc := CB.below2 SB2.out hb; have FB3 := Lib.hid hx; have SB3 := Lib.hid hc; obtain ⟨d0, d1, d2, d3, d4⟩ := hc; clear hb hx) | (have hx := FB1.out.trans (hb.mono FB1.out.size); have hc := CB.below2 SB1.out hb; have FB2 := Lib.hid hx; have SB2 := Lib.hid hc; obtain ⟨d0, d1, d2, d3, d4⟩ := hc; clear hb hx) | (have hx := FB0.out.trans (hb.mono FB0.out.size); have hc := CB.below2 SB0.out hb; have FB1 := Lib.hid hx; have SB1 := Lib.hid hc; obtain ⟨d0, d1, d2, d3, d4⟩ := hc; clear hb hx)) | (go_at_call 49; refine (CI.out _).mono ?_; rintro e w1 ⟨rfl, rfl⟩) | (go_at_call 52; refine (CD.out (by assumption) _).mono ?_; rintro e w1 ⟨rfl, hb⟩; (try have hb := Below.undrew hb); (try have hb := Below.undrew hb); first | (have hx := FB5.out.trans (hb.mono FB5.out.size); have hc := CB.below2 SB5.out hb; have FB6 := Lib.hid hx; have SB6 := Lib.hid hc; obtain ⟨d0, d1, d2, d3, d4⟩ := hc; clear hb hx) | (have hx := FB4.out.trans (hb.mono FB4.out.size); have hc := CB.below2 SB4.out hb; have FB5 := Lib.hid hx; have SB5 := Lib.hid hc; obtain ⟨d0, d1, d2, d3, d4⟩ := hc; clear hb hx) | (have hx := FB3.out.trans (hb.mono FB3.out.size); have hc := CB.below2 SB3.out hb; have FB4 := Lib.hid hx; have SB4 := Lib.hid hc; obtain ⟨d0, d1, d2, d3, d4⟩ := hc; clear hb hx) | (have hx := FB2.out.trans (hb.mono FB2.out.size); have hc := CB.below2 SB2.out hb; have FB3 := Lib.hid hx; have SB3 := Lib.hid hc; obtain ⟨d0, d1, d2, d3, d4⟩ := hc; clear hb hx) | (have hx := FB1.out.trans (hb.mono FB1.out.size); have hc := CB.below2 SB1.out hb; have FB2 := Lib.hid hx; have SB2 := Lib.hid hc; obtain ⟨d0, d1, d2, d3, d4⟩ := hc; clear hb hx) | (have hx := FB0.out.trans (hb.mono FB0.out.size); have hc := CB.below2 SB0.out hb; have FB1 := Lib.hid hx; have SB1 := Lib.hid hc; obtain ⟨d0, d1, d2, d3, d4⟩ := hc; clear hb hx)) | (go_at_call 52; refine (CD.out _).mono ?_; rintro e w1 ⟨rfl, hb⟩; (try have hb := Below.undrew hb); (try have hb := Below.undrew hb); first | (have hx := FB5.out.trans (hb.mono FB5.out.size); have hc := CB.below2 SB5.out hb; have FB6 := Lib.hid hx; have SB6 := Lib.hid hc; obtain ⟨d0, d1, d2, d3, d4⟩ := hc; clear hb hx) | (have hx := FB4.out.trans (hb.mono FB4.out.size); have hc := CB.below2 SB4.out hb; have FB5 := Lib.hid hx; have SB5 := Lib.hid hc; obtain ⟨d0, d1, d2, d3, d4⟩ := hc; clear hb hx) | (have hx := FB3.out.trans (hb.mono FB3.out.size); have hc := CB.below2 SB3.out hb; have FB4 := Lib.hid hx; have SB4 := Lib.hid hc; obtain ⟨d0, d1, d2, d3, d4⟩ := hc; clear hb hx) | (have hx := FB2.out.trans (hb.mono FB2.out.size); have hc := CB.below2 SB2.out hb; have FB3 := Lib.hid hx; have SB3 := Lib.hid hc; obtain ⟨d0, d1, d2, d3, d4⟩ := hc; clear hb hx) | (have hx := FB1.out.trans (hb.mono FB1.out.size); have hc := CB.below2 SB1.out hb; have FB2 := Lib.hid hx; have SB2 := Lib.hid hc; obtain ⟨d0, d1, d2, d3, d4⟩ := hc; clear hb hx) | (have hx := FB0.out.trans (hb.mono FB0.out.size); have hc := CB.below2 SB0.out hb; have FB1 := Lib.hid hx; have SB1 := Lib.hid hc; obtain ⟨d0, d1, d2, d3, d4⟩ := hc; clear hb hx)) | (go_at_call 58; refine (CE.out _).mono ?_; rintro e w1 ⟨rfl, hb⟩; (try have hb := Below.undrew hb); (try have hb := Below.undrew hb); first | (have hx := FB5.out.trans (hb.mono FB5.out.size); have hc := CB.below2 SB5.out hb; have FB6 := Lib.hid hx; have SB6 := Lib.hid hc; obtain ⟨d0, d1, d2, d3, d4⟩ := hc; clear hb hx) | (have hx := FB4.out.trans (hb.mono FB4.out.size); have hc := CB.below2 SB4.out hb; have FB5 := Lib.hid hx; have SB5 := Lib.hid hc; obtain ⟨d0, d1, d2, d3, d4⟩ := hc; clear hb hx) | (have hx := FB3.out.trans (hb.mono FB3.out.size); have hc := CB.below2 SB3.out hb; have FB4 := Lib.hid hx; have SB4 := Lib.hid hc; obtain ⟨d0, d1, d2, d3, d4⟩ := hc; clear hb hx) | (have hx := FB2.out.trans (hb.mono FB2.out.size); have hc := CB.below2 SB2.out hb; have FB3 := Lib.hid hx; have SB3 := Lib.hid hc; obtain ⟨d0, d1, d2, d3, d4⟩ := hc; clear hb hx) | (have hx := FB1.out.trans (hb.mono FB1.out.size); have hc := CB.below2 SB1.out hb; have FB2 := Lib.hid hx; have SB2 := Lib.hid hc; obtain ⟨d0, d1, d2, d3, d4⟩ := hc; clear hb hx) | (have hx := FB0.out.trans (hb.mono FB0.out.size); have hc := CB.below2 SB0.out hb; have FB1 := Lib.hid hx; have SB1 := Lib.hid hc; obtain ⟨d0, d1, d2, d3, d4⟩ := hc; clear hb hx))))
    all_goals go_wp2_with (first | (go_at_call 48; refine (CR.out _ _).mono ?_; rintro e w1 ⟨rfl, hb⟩; (try have hb := Below.undrew hb); (try have hb := Below.undrew hb); first | (have hx := FB5.out.trans (hb.mono FB5.out.size); have hc := CB.below2 SB5.out hb; have FB6 := Lib.hid hx; have SB6 := Lib.hid hc; obtain ⟨d0, d1, d2, d3, d4⟩ := hc; clear hb hx) | (have hx := FB4.out.trans (hb.mono FB4.out.size); have hc := CB.below2 SB4.out hb; have FB5 := Lib.hid hx; have SB5 := Lib.hid hc; obtain ⟨d0, d1, d2, d3, d4⟩ := hc; clear hb hx) | (have hx := FB3.out.trans (hb.mono FB3.out.size); have hc := CB.below2 SB3.out hb; have FB4 := Lib.hid hx; have SB4 := Lib.hid hc; obtain ⟨d0, d1, d2, d3, d4⟩ := hc; clear hb hx) | (have hx := FB2.out.trans (hb.mono FB2.out.size); have hc := CB.below2 SB2.out hb; have FB3 := Lib.hid hx; have SB3 := Lib.hid hc; obtain ⟨d0, d1, d2, d3, d4⟩ := hc; clear hb hx) | (have hx := FB1.out.trans (hb.mono FB1.out.size); have hc := CB.below2 SB1.out hb; have FB2 := Lib.hid hx; have SB2 := Lib.hid hc; obtain ⟨d0, d1, d2, d3, d4⟩ := hc; clear hb hx) | (have hx := FB0.out.trans (hb.mono FB0.out.size); have hc := CB.below2 SB0.out hb; have FB1 := Lib.hid hx; have SB1 := Lib.hid hc; obtain ⟨d0, d1, d2, d3, d4⟩ := hc; clear hb hx)) | (go_at_call 49; refine (CI.out _).mono ?_; rintro e w1 ⟨rfl, rfl⟩) | (go_at_call 52; refine (CD.out (by assumption) _).mono ?_; rintro e w1 ⟨rfl, hb⟩; (try have hb := Below.undrew hb); (try have hb := Below.undrew hb); first | (have hx := FB5.out.trans (hb.mono FB5.out.size); have hc := CB.below2 SB5.out hb; have FB6 := Lib.hid hx; have SB6 := Lib.hid hc; obtain ⟨d0, d1, d2, d3, d4⟩ := hc; clear hb hx) | (have hx := FB4.out.trans (hb.mono FB4.out.size); have hc := CB.below2 SB4.out hb; have FB5 := Lib.hid hx; have SB5 := Lib.hid hc; obtain ⟨d0, d1, d2, d3, d4⟩ := hc; clear hb hx) | (have hx := FB3.out.trans (hb.mono FB3.out.size); have hc := CB.below2 SB3.out hb; have FB4 := Lib.hid hx; have SB4 := Lib.hid hc; obtain ⟨d0, d1, d2, d3, d4⟩ := hc; clear hb hx) | (have hx := FB2.out.trans (hb.mono FB2.out.size); have hc := CB.below2 SB2.out hb; have FB3 := Lib.hid hx; have SB3 := Lib.hid hc; obtain ⟨d0, d1, d2, d3, d4⟩ := hc; clear hb hx) | (have hx := FB1.out.trans (hb.mono FB1.out.size); have hc := CB.below2 SB1.out hb; have FB2 := Lib.hid hx; have SB2 := Lib.hid hc; obtain ⟨d0, d1, d2, d3, d4⟩ := hc; clear hb hx) | (have hx := FB0.out.trans (hb.mono FB0.out.size); have hc := CB.below2 SB0.out hb; have FB1 := Lib.hid hx; have SB1 := Lib.hid hc; obtain ⟨d0, d1, d2, d3, d4⟩ := hc; clear hb hx)) | (go_at_call 52; refine (CD.out _).mono ?_; rintro e w1 ⟨rfl, hb⟩; (try have hb := Below.undrew hb); (try have hb := Below.undrew hb); first | (have hx := FB5.out.trans (hb.mono FB5.out.size); have hc := CB.below2 SB5.out hb; have FB6 := Lib.hid hx; have SB6 := Lib.hid hc; obtain ⟨d0, d1, d2, d3, d4⟩ := hc; clear hb hx) | (have hx := FB4.out.trans (hb.mono FB4.out.size); have hc := CB.below2 SB4.out hb; have FB5 := Lib.hid hx; have SB5 := Lib.hid hc; obtain ⟨d0, d1, d2, d3, d4⟩ := hc; clear hb hx) | (have hx := FB3.out.trans (hb.mono FB3.out.size); have hc := CB.below2 SB3.out hb; have FB4 := Lib.hid hx; have SB4 := Lib.hid hc; obtain ⟨d0, d1, d2, d3, d4⟩ := hc; clear hb hx) | (have hx := FB2.out.trans (hb.mono FB2.out.size); have hc := CB.below2 SB2.out hb; have FB3 := Lib.hid hx; have SB3 := Lib.hid hc; obtain ⟨d0, d1, d2, d3, d4⟩ := hc; clear hb hx) | (have hx := FB1.out.trans (hb.mono FB1.out.size); have hc := CB.below2 SB1.out hb; have FB2 := Lib.hid hx; have SB2 := Lib.hid hc; obtain ⟨d0, d1, d2, d3, d4⟩ := hc; clear hb hx) | (have hx := FB0.out.trans (hb.mono FB0.out.size); have hc := CB.below2 SB0.out hb; have FB1 := Lib.hid hx; have SB1 := Lib.hid hc; obtain ⟨d0, d1, d2, d3, d4⟩ := hc; clear hb hx)) | (go_at_call 58; refine (CE.out _).mono ?_; rintro e w1 ⟨rfl, hb⟩; (try have hb := Below.undrew hb); (try have hb := Below.undrew hb); first | (have hx := FB5.out.trans (hb.mono FB5.out.size); have hc := CB.below2 SB5.out hb; have FB6 := Lib.hid hx; have SB6 := Lib.hid hc; obtain ⟨d0, d1, d2, d3, d4⟩ := hc; clear hb hx) | (have hx := FB4.out.trans (hb.mono FB4.out.size); have hc := CB.below2 SB4.out hb; have FB5 := Lib.hid hx; have SB5 := Lib.hid hc; obtain ⟨d0, d1, d2, d3, d4⟩ := hc; clear hb hx) | (have hx := FB3.out.trans (hb.mono FB3.out.size); have hc := CB.below2 SB3.out hb; have FB4 := Lib.hid hx; have SB4 := Lib.hid hc; obtain ⟨d0, d1, d2, d3, d4⟩ := hc; clear hb hx) | (have hx := FB2.out.trans (hb.mono FB2.out.size); have hc := CB.below2 SB2.out hb; have FB3 := Lib.hid hx; have SB3 := Lib.hid hc; obtain ⟨d0, d1, d2, d3, d4⟩ := hc; clear hb hx) | (have hx := FB1.out.trans (hb.mono FB1.out.size); have hc := CB.below2 SB1.out hb; have FB2 := Lib.hid hx; have SB2 := Lib.hid hc; obtain ⟨d0, d1, d2, d3, d4⟩ := hc; clear hb hx) | (have hx := FB0.out.trans (hb.mono FB0.out.size); have hc := CB.below2 SB0.out hb; have FB1 := Lib.hid hx; have SB1 := Lib.hid hc; obtain ⟨d0, d1, d2, d3, d4⟩ := hc; clear hb hx)))
    all_goals go_region_held3 (fun W => W.cell? ⟨w.heap.size, 0, none⟩ = some (.int .i64 o) ∧ W.cell? ⟨w.heap.size, 1, none⟩ = some (.int .i64 d) ∧ W.cell? ⟨w.heap.size, 2, none⟩ = some (.int .i64 s) ∧ W.cell? ⟨w.heap.size, 3, none⟩ = some (.int .i64 f) ∧ W.cell? ⟨w.heap.size, 4, none⟩ = some (.int .i64 m)) (first | exact SB6.out | exact SB5.out | exact SB4.out | exact SB3.out | exact SB2.out | exact SB1.out | exact SB0.out) ((first | (go_at_call 48; refine (CR.out _ _).mono ?_; rintro e w1 ⟨rfl, hb⟩; (try have hb := Below.undrew hb); (try have hb := Below.undrew hb); first | (have hx := FB5.out.trans (hb.mono FB5.out.size); have hc := CB.below2 SB5.out hb; have FB6 := Lib.hid hx; have SB6 := Lib.hid hc; obtain ⟨d0, d1, d2, d3, d4⟩ := hc; clear hb hx) | (have hx := FB4.out.trans (hb.mono FB4.out.size); have hc := CB.below2 SB4.out hb; have FB5 := Lib.hid hx; have SB5 := Lib.hid hc; obtain ⟨d0, d1, d2, d3, d4⟩ := hc; clear hb hx) | (have hx := FB3.out.trans (hb.mono FB3.out.size); have hc := CB.below2 SB3.out hb; have FB4 := Lib.hid hx; have SB4 := Lib.hid hc; obtain ⟨d0, d1, d2, d3, d4⟩ := hc; clear hb hx) | (have hx := FB2.out.trans (hb.mono FB2.out.size); have hc := CB.below2 SB2.out hb; have FB3 := Lib.hid hx; have SB3 := Lib.hid hc; obtain ⟨d0, d1, d2, d3, d4⟩ := hc; clear hb hx) | (have hx := FB1.out.trans (hb.mono FB1.out.size); have hc := CB.below2 SB1.out hb; have FB2 := Lib.hid hx; have SB2 := Lib.hid hc; obtain ⟨d0, d1, d2, d3, d4⟩ := hc; clear hb hx) | (have hx := FB0.out.trans (hb.mono FB0.out.size); have hc := CB.below2 SB0.out hb; have FB1 := Lib.hid hx; have SB1 := Lib.hid hc; obtain ⟨d0, d1, d2, d3, d4⟩ := hc; clear hb hx)) | (go_at_call 49; refine (CI.out _).mono ?_; rintro e w1 ⟨rfl, rfl⟩) | (go_at_call 52; refine (CD.out (by assumption) _).mono ?_; rintro e w1 ⟨rfl, hb⟩; (try have hb := Below.undrew hb); (try have hb := Below.undrew hb); first | (have hx := FB5.out.trans (hb.mono FB5.out.size); have hc := CB.below2 SB5.out hb; have FB6 := Lib.hid hx; have SB6 := Lib.hid hc; obtain ⟨d0, d1, d2, d3, d4⟩ := hc; clear hb hx) | (have hx := FB4.out.trans (hb.mono FB4.out.size); have hc := CB.below2 SB4.out hb; have FB5 := Lib.hid hx; have SB5 := Lib.hid hc; obtain ⟨d0, d1, d2, d3, d4⟩ := hc; clear hb hx) | (have hx := FB3.out.trans (hb.mono FB3.out.size); have hc := CB.below2 SB3.out hb; have FB4 := Lib.hid hx; have SB4 := Lib.hid hc; obtain ⟨d0, d1, d2, d3, d4⟩ := hc; clear hb hx) | (have hx := FB2.out.trans (hb.mono FB2.out.size); have hc := CB.below2 SB2.out hb; have FB3 := Lib.hid hx; have SB3 := Lib.hid hc; obtain ⟨d0, d1, d2, d3, d4⟩ := hc; clear hb hx) | (have hx := FB1.out.trans (hb.mono FB1.out.size); have hc := CB.below2 SB1.out hb; have FB2 := Lib.hid hx; have SB2 := Lib.hid hc; obtain ⟨d0, d1, d2, d3, d4⟩ := hc; clear hb hx) | (have hx := FB0.out.trans (hb.mono FB0.out.size); have hc := CB.below2 SB0.out hb; have FB1 := Lib.hid hx; have SB1 := Lib.hid hc; obtain ⟨d0, d1, d2, d3, d4⟩ := hc; clear hb hx)) | (go_at_call 52; refine (CD.out _).mono ?_; rintro e w1 ⟨rfl, hb⟩; (try have hb := Below.undrew hb); (try have hb := Below.undrew hb); first | (have hx := FB5.out.trans (hb.mono FB5.out.size); have hc := CB.below2 SB5.out hb; have FB6 := Lib.hid hx; have SB6 := Lib.hid hc; obtain ⟨d0, d1, d2, d3, d4⟩ := hc; clear hb hx) | (have hx := FB4.out.trans (hb.mono FB4.out.size); have hc := CB.below2 SB4.out hb; have FB5 := Lib.hid hx; have SB5 := Lib.hid hc; obtain ⟨d0, d1, d2, d3, d4⟩ := hc; clear hb hx) | (have hx := FB3.out.trans (hb.mono FB3.out.size); have hc := CB.below2 SB3.out hb; have FB4 := Lib.hid hx; have SB4 := Lib.hid hc; obtain ⟨d0, d1, d2, d3, d4⟩ := hc; clear hb hx) | (have hx := FB2.out.trans (hb.mono FB2.out.size); have hc := CB.below2 SB2.out hb; have FB3 := Lib.hid hx; have SB3 := Lib.hid hc; obtain ⟨d0, d1, d2, d3, d4⟩ := hc; clear hb hx) | (have hx := FB1.out.trans (hb.mono FB1.out.size); have hc := CB.below2 SB1.out hb; have FB2 := Lib.hid hx; have SB2 := Lib.hid hc; obtain ⟨d0, d1, d2, d3, d4⟩ := hc; clear hb hx) | (have hx := FB0.out.trans (hb.mono FB0.out.size); have hc := CB.below2 SB0.out hb; have FB1 := Lib.hid hx; have SB1 := Lib.hid hc; obtain ⟨d0, d1, d2, d3, d4⟩ := hc; clear hb hx)) | (go_at_call 58; refine (CE.out _).mono ?_; rintro e w1 ⟨rfl, hb⟩; (try have hb := Below.undrew hb); (try have hb := Below.undrew hb); first | (have hx := FB5.out.trans (hb.mono FB5.out.size); have hc := CB.below2 SB5.out hb; have FB6 := Lib.hid hx; have SB6 := Lib.hid hc; obtain ⟨d0, d1, d2, d3, d4⟩ := hc; clear hb hx) | (have hx := FB4.out.trans (hb.mono FB4.out.size); have hc := CB.below2 SB4.out hb; have FB5 := Lib.hid hx; have SB5 := Lib.hid hc; obtain ⟨d0, d1, d2, d3, d4⟩ := hc; clear hb hx) | (have hx := FB3.out.trans (hb.mono FB3.out.size); have hc := CB.below2 SB3.out hb; have FB4 := Lib.hid hx; have SB4 := Lib.hid hc; obtain ⟨d0, d1, d2, d3, d4⟩ := hc; clear hb hx) | (have hx := FB2.out.trans (hb.mono FB2.out.size); have hc := CB.below2 SB2.out hb; have FB3 := Lib.hid hx; have SB3 := Lib.hid hc; obtain ⟨d0, d1, d2, d3, d4⟩ := hc; clear hb hx) | (have hx := FB1.out.trans (hb.mono FB1.out.size); have hc := CB.below2 SB1.out hb; have FB2 := Lib.hid hx; have SB2 := Lib.hid hc; obtain ⟨d0, d1, d2, d3, d4⟩ := hc; clear hb hx) | (have hx := FB0.out.trans (hb.mono FB0.out.size); have hc := CB.below2 SB0.out hb; have FB1 := Lib.hid hx; have SB1 := Lib.hid hc; obtain ⟨d0, d1, d2, d3, d4⟩ := hc; clear hb hx))))
    all_goals go_wp2_with (first | (go_at_call 48; refine (CR.out _ _).mono ?_; rintro e w1 ⟨rfl, hb⟩; (try have hb := Below.undrew hb); (try have hb := Below.undrew hb); first | (have hx := FB5.out.trans (hb.mono FB5.out.size); have hc := CB.below2 SB5.out hb; have FB6 := Lib.hid hx; have SB6 := Lib.hid hc; obtain ⟨d0, d1, d2, d3, d4⟩ := hc; clear hb hx) | (have hx := FB4.out.trans (hb.mono FB4.out.size); have hc := CB.below2 SB4.out hb; have FB5 := Lib.hid hx; have SB5 := Lib.hid hc; obtain ⟨d0, d1, d2, d3, d4⟩ := hc; clear hb hx) | (have hx := FB3.out.trans (hb.mono FB3.out.size); have hc := CB.below2 SB3.out hb; have FB4 := Lib.hid hx; have SB4 := Lib.hid hc; obtain ⟨d0, d1, d2, d3, d4⟩ := hc; clear hb hx) | (have hx := FB2.out.trans (hb.mono FB2.out.size); have hc := CB.below2 SB2.out hb; have FB3 := Lib.hid hx; have SB3 := Lib.hid hc; obtain ⟨d0, d1, d2, d3, d4⟩ := hc; clear hb hx) | (have hx := FB1.out.trans (hb.mono FB1.out.size); have hc := CB.below2 SB1.out hb; have FB2 := Lib.hid hx; have SB2 := Lib.hid hc; obtain ⟨d0, d1, d2, d3, d4⟩ := hc; clear hb hx) | (have hx := FB0.out.trans (hb.mono FB0.out.size); have hc := CB.below2 SB0.out hb; have FB1 := Lib.hid hx; have SB1 := Lib.hid hc; obtain ⟨d0, d1, d2, d3, d4⟩ := hc; clear hb hx)) | (go_at_call 49; refine (CI.out _).mono ?_; rintro e w1 ⟨rfl, rfl⟩) | (go_at_call 52; refine (CD.out (by assumption) _).mono ?_; rintro e w1 ⟨rfl, hb⟩; (try have hb := Below.undrew hb); (try have hb := Below.undrew hb); first | (have hx := FB5.out.trans (hb.mono FB5.out.size); have hc := CB.below2 SB5.out hb; have FB6 := Lib.hid hx; have SB6 := Lib.hid hc; obtain ⟨d0, d1, d2, d3, d4⟩ := hc; clear hb hx) | (have hx := FB4.out.trans (hb.mono FB4.out.size); have hc := CB.below2 SB4.out hb; have FB5 := Lib.hid hx; have SB5 := Lib.hid hc; obtain ⟨d0, d1, d2, d3, d4⟩ := hc; clear hb hx) | (have hx := FB3.out.trans (hb.mono FB3.out.size); have hc := CB.below2 SB3.out hb; have FB4 := Lib.hid hx; have SB4 := Lib.hid hc; obtain ⟨d0, d1, d2, d3, d4⟩ := hc; clear hb hx) | (have hx := FB2.out.trans (hb.mono FB2.out.size); have hc := CB.below2 SB2.out hb; have FB3 := Lib.hid hx; have SB3 := Lib.hid hc; obtain ⟨d0, d1, d2, d3, d4⟩ := hc; clear hb hx) | (have hx := FB1.out.trans (hb.mono FB1.out.size); have hc := CB.below2 SB1.out hb; have FB2 := Lib.hid hx; have SB2 := Lib.hid hc; obtain ⟨d0, d1, d2, d3, d4⟩ := hc; clear hb hx) | (have hx := FB0.out.trans (hb.mono FB0.out.size); have hc := CB.below2 SB0.out hb; have FB1 := Lib.hid hx; have SB1 := Lib.hid hc; obtain ⟨d0, d1, d2, d3, d4⟩ := hc; clear hb hx)) | (go_at_call 52; refine (CD.out _).mono ?_; rintro e w1 ⟨rfl, hb⟩; (try have hb := Below.undrew hb); (try have hb := Below.undrew hb); first | (have hx := FB5.out.trans (hb.mono FB5.out.size); have hc := CB.below2 SB5.out hb; have FB6 := Lib.hid hx; have SB6 := Lib.hid hc; obtain ⟨d0, d1, d2, d3, d4⟩ := hc; clear hb hx) | (have hx := FB4.out.trans (hb.mono FB4.out.size); have hc := CB.below2 SB4.out hb; have FB5 := Lib.hid hx; have SB5 := Lib.hid hc; obtain ⟨d0, d1, d2, d3, d4⟩ := hc; clear hb hx) | (have hx := FB3.out.trans (hb.mono FB3.out.size); have hc := CB.below2 SB3.out hb; have FB4 := Lib.hid hx; have SB4 := Lib.hid hc; obtain ⟨d0, d1, d2, d3, d4⟩ := hc; clear hb hx) | (have hx := FB2.out.trans (hb.mono FB2.out.size); have hc := CB.below2 SB2.out hb; have FB3 := Lib.hid hx; have SB3 := Lib.hid hc; obtain ⟨d0, d1, d2, d3, d4⟩ := hc; clear hb hx) | (have hx := FB1.out.trans (hb.mono FB1.out.size); have hc := CB.below2 SB1.out hb; have FB2 := Lib.hid hx; have SB2 := Lib.hid hc; obtain ⟨d0, d1, d2, d3, d4⟩ := hc; clear hb hx) | (have hx := FB0.out.trans (hb.mono FB0.out.size); have hc := CB.below2 SB0.out hb; have FB1 := Lib.hid hx; have SB1 := Lib.hid hc; obtain ⟨d0, d1, d2, d3, d4⟩ := hc; clear hb hx)) | (go_at_call 58; refine (CE.out _).mono ?_; rintro e w1 ⟨rfl, hb⟩; (try have hb := Below.undrew hb); (try have hb := Below.undrew hb); first | (have hx := FB5.out.trans (hb.mono FB5.out.size); have hc := CB.below2 SB5.out hb; have FB6 := Lib.hid hx; have SB6 := Lib.hid hc; obtain ⟨d0, d1, d2, d3, d4⟩ := hc; clear hb hx) | (have hx := FB4.out.trans (hb.mono FB4.out.size); have hc := CB.below2 SB4.out hb; have FB5 := Lib.hid hx; have SB5 := Lib.hid hc; obtain ⟨d0, d1, d2, d3, d4⟩ := hc; clear hb hx) | (have hx := FB3.out.trans (hb.mono FB3.out.size); have hc := CB.below2 SB3.out hb; have FB4 := Lib.hid hx; have SB4 := Lib.hid hc; obtain ⟨d0, d1, d2, d3, d4⟩ := hc; clear hb hx) | (have hx := FB2.out.trans (hb.mono FB2.out.size); have hc := CB.below2 SB2.out hb; have FB3 := Lib.hid hx; have SB3 := Lib.hid hc; obtain ⟨d0, d1, d2, d3, d4⟩ := hc; clear hb hx) | (have hx := FB1.out.trans (hb.mono FB1.out.size); have hc := CB.below2 SB1.out hb; have FB2 := Lib.hid hx; have SB2 := Lib.hid hc; obtain ⟨d0, d1, d2, d3, d4⟩ := hc; clear hb hx) | (have hx := FB0.out.trans (hb.mono FB0.out.size); have hc := CB.below2 SB0.out hb; have FB1 := Lib.hid hx; have SB1 := Lib.hid hc; obtain ⟨d0, d1, d2, d3, d4⟩ := hc; clear hb hx)))
    all_goals go_ret
    all_goals refine ⟨ret_str ?_, ?_⟩
    any_goals (first | exact FB6.out | exact FB6.out.drew | exact FB6.out.alloc FB6.out.size _ | exact FB6.out.drew.alloc FB6.out.size _ | exact FB5.out | exact FB5.out.drew | exact FB5.out.alloc FB5.out.size _ | exact FB5.out.drew.alloc FB5.out.size _ | exact FB4.out | exact FB4.out.drew | exact FB4.out.alloc FB4.out.size _ | exact FB4.out.drew.alloc FB4.out.size _ | exact FB3.out | exact FB3.out.drew | exact FB3.out.alloc FB3.out.size _ | exact FB3.out.drew.alloc FB3.out.size _ | exact FB2.out | exact FB2.out.drew | exact FB2.out.alloc FB2.out.size _ | exact FB2.out.drew.alloc FB2.out.size _ | exact FB1.out | exact FB1.out.drew | exact FB1.out.alloc FB1.out.size _ | exact FB1.out.drew.alloc FB1.out.size _ | exact FB0.out | exact FB0.out.drew | exact FB0.out.alloc FB0.out.size _ | exact FB0.out.drew.alloc FB0.out.size _ | exact (Below.refl _ w).alloc (Nat.le_refl _) _)
    first
      | (have hgd := h15; clear hgd; all_goals (rw [← ANS.out]; simp [aluT, aluFin, lead7, hw7, hk, hk13', tx, ByteArray.data_append, h1, h2, h3, h4, h5, h6, h7, h8, h9, h10, h11, h12, h13, h14, h15]))
      | (have hgd := h13; clear hgd; all_goals (rw [← ANS.out]; simp [aluT, aluFin, lead7, hw7, hk, hk13', tx, ByteArray.data_append, h1, h2, h3, h4, h5, h6, h7, h8, h9, h10, h11, h12, h13]))
      | (have hgd := h12; clear hgd; all_goals (rw [← ANS.out]; simp [aluT, aluFin, lead7, hw7, hk, hk13', tx, ByteArray.data_append, h1, h2, h3, h4, h5, h6, h7, h8, h9, h10, h11, h12]))
      | (have hgd := h11; clear hgd; all_goals (rw [← ANS.out]; simp [aluT, aluFin, lead7, hw7, hk, hk13', tx, ByteArray.data_append, h1, h2, h3, h4, h5, h6, h7, h8, h9, h10, h11]))
      | (have hgd := h10; clear hgd; all_goals (rw [← ANS.out]; simp [aluT, aluFin, lead7, hw7, hk, hk13', tx, ByteArray.data_append, h1, h2, h3, h4, h5, h6, h7, h8, h9, h10]))
      | (have hgd := h8; clear hgd; all_goals (rw [← ANS.out]; simp [aluT, aluFin, lead7, hw7, hk, hk13', tx, ByteArray.data_append, h1, h2, h3, h4, h5, h6, h7, h8]))
      | (have hgd := h7; clear hgd; all_goals (rw [← ANS.out]; simp [aluT, aluFin, lead7, hw7, hk, hk13', tx, ByteArray.data_append, h1, h2, h3, h4, h5, h6, h7]))
      | (have hgd := h6; clear hgd; all_goals (rw [← ANS.out]; simp [aluT, aluFin, lead7, hw7, hk, hk13', tx, ByteArray.data_append, h1, h2, h3, h4, h5, h6]))
      | (have hgd := h5; clear hgd; all_goals (rw [← ANS.out]; simp [aluT, aluFin, lead7, hw7, hk, hk13', tx, ByteArray.data_append, h1, h2, h3, h4, h5]))
      | (have hgd := h3; clear hgd; all_goals (rw [← ANS.out]; simp [aluT, aluFin, lead7, hw7, hk, hk13', tx, ByteArray.data_append, h1, h2, h3]))
      | (have hgd := h2; clear hgd; all_goals (rw [← ANS.out]; simp [aluT, aluFin, lead7, hw7, hk, hk13', tx, ByteArray.data_append, h1, h2]))
      | (have hgd := h1; clear hgd; all_goals (rw [← ANS.out]; simp [aluT, aluFin, lead7, hw7, hk, hk13', tx, ByteArray.data_append, h1]))

end Go.Proofs.YticklgoegmobbaaDoor
