/-
  The reference's lines: operations. The reference's lines: operations of 64 bits. The reference's lines: operations that are none.
-/
import Derived.Test.YtemiklbkfogjeaaGreatDoorQ35
namespace Go.Proofs.YtemiklbkfogjeaaGreatDoor.Ln
open Go Go.RowKit
set_option linter.unusedVariables false
set_option linter.unusedSimpArgs false
set_option maxRecDepth 100000
theorem regl1_sz (l : List UInt8) (h : l.length = 1) (n : Int) : (tx (regL l n)).size ≤ 12 := by rw [tx_size]; have := regL_len l n; omega
def lead7 (o : Int) : List UInt8 := if o % 8 == 7 then [114] else [119]
/-- An operation's sign. -/
def nameA : Nat → List UInt8
 | 0 => [43, 61] | 1 => [45, 61] | 2 => [42, 61] | 3 => [47, 61] | 4 => [124, 61] | 5 => [38, 61] | 6 => [60, 60, 61] | 7 => [62, 62, 61]
 | 9 => [37, 61] | 10 => [94, 61] | 11 => [61] | 12 => [115, 62, 62, 61] | _ => []
theorem nameA_sz (k : Nat) : (tx (nameA k)).size ≤ 4 := by
 rw [tx_size]
 unfold nameA
 split <;> simp
def opsA : Array Value := #[.string { data := #[43, 61] }, .string { data := #[45, 61] }, .string { data := #[42, 61] }, .string { data := #[47, 61] }, .string { data := #[124, 61] }, .string { data := #[38, 61] }, .string { data := #[60, 60, 61] }, .string { data := #[62, 62, 61] }, .string { data := #[] }, .string { data := #[37, 61] }, .string { data := #[94, 61] }, .string { data := #[61] }, .string { data := #[115, 62, 62, 61] }]
theorem opsA_get (k : Nat) (h : k < 13) : opsA[k]? = some (.string (tx (nameA k))) := by
 have : k = 0 ∨ k = 1 ∨ k = 2 ∨ k = 3 ∨ k = 4 ∨ k = 5 ∨ k = 6 ∨ k = 7 ∨ k = 8 ∨ k = 9 ∨ k = 10 ∨ k = 11 ∨ k = 12 := by omega
 rcases this with rfl | rfl | rfl | rfl | rfl | rfl | rfl | rfl | rfl | rfl | rfl | rfl | rfl <;> rfl
theorem ops_cell (k : Nat) (h : k < 13) (W : World) : (W.alloc (.cells opsA 9)).cell? ⟨W.heap.size, k, none⟩ = some (.string (tx (nameA k))) := ((Blk.new W _ _).cell k).trans (opsA_get k h)
def aluFin (o d : Int) (sign right : List UInt8) : List UInt8 := if decide (12 < bits .and .i64 o 240 / 16) then [] else regL (lead7 o) d ++ [32] ++ sign ++ nameA (bits .and .i64 o 240 / 16).toNat ++ [32] ++ right
def aluT (o d s f m : Int) : List UInt8 :=
 if !(regIn d && regIn s) then [] else
 if bits .and .i64 o 240 == 208 then endsL o d s f m else
 if bits .and .i64 o 240 == 128 then (if (bits .and .i64 o 8 == 0) && ((s == 0) && ((f == 0) && (m == 0))) then regL (lead7 o) d ++ [32, 61, 32, 45] ++ regL (lead7 o) d else []) else
 if bits .and .i64 o 8 == 0 then
  if (s == 0) && immIn m then
   (if f == 0 then aluFin o d [] (digL m) else if (f == 1) && ((bits .and .i64 o 240 == 48) || (bits .and .i64 o 240 == 144)) then aluFin o d [115] (digL m) else [])
  else []
 else
  if (m == 0) && immIn m then
   (if f == 0 then aluFin o d [] (regL (lead7 o) s) else if (f == 1) && ((bits .and .i64 o 240 == 48) || (bits .and .i64 o 240 == 144)) then aluFin o d [115] (regL (lead7 o) s)
   else if (bits .and .i64 o 240 == 176) && ((f == 8) || ((f == 16) || ((f == 32) && (o % 8 == 7)))) then aluFin o d [] ([40, 115] ++ digL f ++ [41] ++ regL (lead7 o) s) else [])
  else []
set_option maxHeartbeats 4000000 in
theorem alu_b (o d s f m : Int) (k : Nat) (w : World) (ld : UInt8) (hB : ((o % 8 == 7) = true ∧ ld = 114) ∨ ((o % 8 == 7) = false ∧ ld = 119)) (hk : bits .and .i64 o 240 / 16 = (k : Int)) (hk13 : k < 13) :
  Calls Tryz.prog 63 #[insV o d s f m] w fun e w' => e = .returned (.string (tx (aluT o d s f m))) ∧ Below w.heap.size w w' := by
 rcases hB with ⟨hw7, hld⟩ | ⟨hw7, hld⟩
 all_goals
  obtain ⟨ans, hans⟩ : ∃ b, aluT o d s f m = b := ⟨_, rfl⟩
  rw [hans]
  have ANS := Lib.hid hans
  clear hans
  have n5 := Cells5.new w ⟨o, d, s, f, m⟩ 38
  have SB0 := Lib.hid (show CB w.heap.size o d s f m (w.alloc (.cells #[.int .i64 o, .int .i64 d, .int .i64 s, .int .i64 f, .int .i64 m] 38)) from n5)
  clear n5
  have FB0 : Hid (Below w.heap.size w (w.alloc (.cells #[.int .i64 o, .int .i64 d, .int .i64 s, .int .i64 f, .int .i64 m] 38))) := (Below.refl _ w).alloc (Nat.le_refl _) _
  have CR := Lib.hid (fun n w' => reg_any [ld] (by simp) n w')
  have CI := Lib.hid (imm04_any m)
  have CD := Lib.hid (fun h w' => digits_any m (imm_b h) w')
  have CE := Lib.hid (ends_any o d s f m)
  unfold insV at CE
  have a7 := and_i64_7 o
  have hrd := regl1_sz [ld] rfl d
  have hrs := regl1_sz [ld] rfl s
  have hnm := nameA_sz k
  have nm := ops_cell k hk13
  have nm2 := opsA_get k hk13
  unfold opsA at nm nm2
  have gk : decide (12 < (k : Int)) = false := by simp; omega
  have hk13' : decide (12 < (k : Int)) = false := gk
  have j1 : (0 : Int) ≤ (k : Int) := by omega
  have j2 : (k : Int) < 13 := by omega
  unfold insV
  cases h1 : (regIn d)
  focus
   have q1 := reg_none [ld] d
   rw [h1] at q1
   simp only [Bool.not_true, Bool.not_false] at q1
  rotate_left 1
  focus
   have q1 := reg_none [ld] d
   rw [h1] at q1
   simp only [Bool.not_true, Bool.not_false] at q1
   cases h2 : (regIn s)
   focus
    have q2 := reg_none [ld] s
    rw [h2] at q2
    simp only [Bool.not_true, Bool.not_false] at q2
   rotate_left 1
   focus
    have q2 := reg_none [ld] s
    rw [h2] at q2
    simp only [Bool.not_true, Bool.not_false] at q2
    cases h3 : (bits .and .i64 o 240 == 208)
    focus
     have g3 : (bits .and .i64 o 240 != 208) = true := by simp only [bne, h3]; rfl
     cases h4 : (bits .and .i64 o 240 == 128)
     focus
      have g4 : (bits .and .i64 o 240 != 128) = true := by simp only [bne, h4]; rfl
      cases h5 : (bits .and .i64 o 8 == 0)
      focus
       have g5 : (bits .and .i64 o 8 != 0) = true := by simp only [bne, h5]; rfl
       cases h6 : (m == 0)
       focus
        have g6 : (m != 0) = true := by simp only [bne, h6]; rfl
       rotate_left 1
       focus
        have g6 : (m != 0) = false := by simp only [bne, h6]; rfl
        cases h7 : (immIn m)
        focus
         skip
        rotate_left 1
        focus
         cases h8 : (f == 0)
         focus
          have g8 : (f != 0) = true := by simp only [bne, h8]; rfl
          cases h9 : (f == 1)
          focus
           have g9 : (f != 1) = true := by simp only [bne, h9]; rfl
           cases h10 : (bits .and .i64 o 240 == 176)
           focus
            have g10 : (bits .and .i64 o 240 != 176) = true := by simp only [bne, h10]; rfl
           rotate_left 1
           focus
            have g10 : (bits .and .i64 o 240 != 176) = false := by simp only [bne, h10]; rfl
            cases h11 : (f == 8)
            focus
             have g11 : (f != 8) = true := by simp only [bne, h11]; rfl
             cases h12 : (f == 16)
             focus
              have g12 : (f != 16) = true := by simp only [bne, h12]; rfl
              cases h13 : (f == 32)
              focus
               have g13 : (f != 32) = true := by simp only [bne, h13]; rfl
              rotate_left 1
              focus
               have HM := Lib.hid (eq_of_beq h13)
               have hs3 : (tx (digL f)).size ≤ 11 := by rw [tx_size]; exact digL_len f (by have := HM.out; omega)
               have CD := Lib.hid (digits_any f (by have := HM.out; omega))
               have g13 : (f != 32) = false := by simp only [bne, h13]; rfl
             rotate_left 2
             focus
              have HM := Lib.hid (eq_of_beq h12)
              have hs3 : (tx (digL f)).size ≤ 11 := by rw [tx_size]; exact digL_len f (by have := HM.out; omega)
              have CD := Lib.hid (digits_any f (by have := HM.out; omega))
              have g12 : (f != 16) = false := by simp only [bne, h12]; rfl
            rotate_left 3
            focus
             have HM := Lib.hid (eq_of_beq h11)
             have hs3 : (tx (digL f)).size ≤ 11 := by rw [tx_size]; exact digL_len f (by have := HM.out; omega)
             have CD := Lib.hid (digits_any f (by have := HM.out; omega))
             have g11 : (f != 8) = false := by simp only [bne, h11]; rfl
          rotate_left 5
          focus
           have g9 : (f != 1) = false := by simp only [bne, h9]; rfl
           cases h10 : (bits .and .i64 o 240 == 48)
           focus
            have g10 : (bits .and .i64 o 240 != 48) = true := by simp only [bne, h10]; rfl
            cases h11 : (bits .and .i64 o 240 == 144)
            focus
             have g11 : (bits .and .i64 o 240 != 144) = true := by simp only [bne, h11]; rfl
             cases h12 : (bits .and .i64 o 240 == 176)
             focus
              have g12 : (bits .and .i64 o 240 != 176) = true := by simp only [bne, h12]; rfl
             rotate_left 1
             focus
              have g12 : (bits .and .i64 o 240 != 176) = false := by simp only [bne, h12]; rfl
              cases h13 : (f == 8)
              focus
               have g13 : (f != 8) = true := by simp only [bne, h13]; rfl
               cases h14 : (f == 16)
               focus
                have g14 : (f != 16) = true := by simp only [bne, h14]; rfl
                cases h15 : (f == 32)
                focus
                 have g15 : (f != 32) = true := by simp only [bne, h15]; rfl
                rotate_left 1
                focus
                 have g15 : (f != 32) = false := by simp only [bne, h15]; rfl
                 exfalso
                 simp only [beq_iff_eq] at *
                 omega
               rotate_left 1
               focus
                have g14 : (f != 16) = false := by simp only [bne, h14]; rfl
                exfalso
                simp only [beq_iff_eq] at *
                omega
              rotate_left 1
              focus
               have g13 : (f != 8) = false := by simp only [bne, h13]; rfl
               exfalso
               simp only [beq_iff_eq] at *
               omega
            rotate_left 2
            focus
             have g11 : (bits .and .i64 o 240 != 144) = false := by simp only [bne, h11]; rfl
           rotate_left 3
           focus
            have g10 : (bits .and .i64 o 240 != 48) = false := by simp only [bne, h10]; rfl
         rotate_left 9
         focus
          have g8 : (f != 0) = false := by simp only [bne, h8]; rfl
      rotate_left 12
      focus
       have g5 : (bits .and .i64 o 8 != 0) = false := by simp only [bne, h5]; rfl
       cases h6 : (s == 0)
       focus
        have g6 : (s != 0) = true := by simp only [bne, h6]; rfl
       rotate_left 1
       focus
        have g6 : (s != 0) = false := by simp only [bne, h6]; rfl
        cases h7 : (immIn m)
        focus
         skip
        rotate_left 1
        focus
         cases h8 : (f == 0)
         focus
          have g8 : (f != 0) = true := by simp only [bne, h8]; rfl
          cases h9 : (f == 1)
          focus
           have g9 : (f != 1) = true := by simp only [bne, h9]; rfl
           cases h10 : (bits .and .i64 o 240 == 176)
           focus
            have g10 : (bits .and .i64 o 240 != 176) = true := by simp only [bne, h10]; rfl
            have hdm := imm_sz m (by assumption)
           rotate_left 1
           focus
            have g10 : (bits .and .i64 o 240 != 176) = false := by simp only [bne, h10]; rfl
            have hdm := imm_sz m (by assumption)
          rotate_left 2
          focus
           have g9 : (f != 1) = false := by simp only [bne, h9]; rfl
           cases h10 : (bits .and .i64 o 240 == 48)
           focus
            have g10 : (bits .and .i64 o 240 != 48) = true := by simp only [bne, h10]; rfl
            cases h11 : (bits .and .i64 o 240 == 144)
            focus
             have g11 : (bits .and .i64 o 240 != 144) = true := by simp only [bne, h11]; rfl
             cases h12 : (bits .and .i64 o 240 == 176)
             focus
              have g12 : (bits .and .i64 o 240 != 176) = true := by simp only [bne, h12]; rfl
              have hdm := imm_sz m (by assumption)
             rotate_left 1
             focus
              have g12 : (bits .and .i64 o 240 != 176) = false := by simp only [bne, h12]; rfl
              have hdm := imm_sz m (by assumption)
            rotate_left 2
            focus
             have g11 : (bits .and .i64 o 240 != 144) = false := by simp only [bne, h11]; rfl
             have hdm := imm_sz m (by assumption)
           rotate_left 3
           focus
            have g10 : (bits .and .i64 o 240 != 48) = false := by simp only [bne, h10]; rfl
            have hdm := imm_sz m (by assumption)
         rotate_left 6
         focus
          have g8 : (f != 0) = false := by simp only [bne, h8]; rfl
          have hdm := imm_sz m (by assumption)
     rotate_left 21
     focus
      have g4 : (bits .and .i64 o 240 != 128) = false := by simp only [bne, h4]; rfl
      cases h5 : (bits .and .i64 o 8 == 0)
      focus
       have g5 : (bits .and .i64 o 8 != 0) = true := by simp only [bne, h5]; rfl
      rotate_left 1
      focus
       have g5 : (bits .and .i64 o 8 != 0) = false := by simp only [bne, h5]; rfl
       cases h6 : (s == 0)
       focus
        have g6 : (s != 0) = true := by simp only [bne, h6]; rfl
       rotate_left 1
       focus
        have g6 : (s != 0) = false := by simp only [bne, h6]; rfl
        cases h7 : (f == 0)
        focus
         have g7 : (f != 0) = true := by simp only [bne, h7]; rfl
        rotate_left 1
        focus
         have g7 : (f != 0) = false := by simp only [bne, h7]; rfl
         cases h8 : (m == 0)
         focus
          have g8 : (m != 0) = true := by simp only [bne, h8]; rfl
         rotate_left 1
         focus
          have g8 : (m != 0) = false := by simp only [bne, h8]; rfl
    rotate_left 26
    focus
     have g3 : (bits .and .i64 o 240 != 208) = false := by simp only [bne, h3]; rfl
  all_goals
   subst hld
   go_enter Tryz.func63, Tryz.ntmps63
   go_wp2_with (first | (go_at_call 40; refine (CR.out _ _).mono ?_; rintro e w1 ⟨rfl, hb⟩; (try have hb := Below.undrew hb); (try have hb := Below.undrew hb); first | (have hx := FB0.out.trans (hb.mono FB0.out.size); have hc := CB.below2 SB0.out hb; have FB0 := Lib.hid hx; have SB0 := Lib.hid hc; obtain ⟨d0, d1, d2, d3, d4⟩ := hc; clear hb hx)) | (go_at_call 41; refine (CI.out _).mono ?_; rintro e w1 ⟨rfl, rfl⟩) | (go_at_call 44; refine (CD.out (by assumption) _).mono ?_; rintro e w1 ⟨rfl, hb⟩; (try have hb := Below.undrew hb); (try have hb := Below.undrew hb); first | (have hx := FB0.out.trans (hb.mono FB0.out.size); have hc := CB.below2 SB0.out hb; have FB0 := Lib.hid hx; have SB0 := Lib.hid hc; obtain ⟨d0, d1, d2, d3, d4⟩ := hc; clear hb hx)) | (go_at_call 44; refine (CD.out _).mono ?_; rintro e w1 ⟨rfl, hb⟩; (try have hb := Below.undrew hb); (try have hb := Below.undrew hb); first | (have hx := FB0.out.trans (hb.mono FB0.out.size); have hc := CB.below2 SB0.out hb; have FB0 := Lib.hid hx; have SB0 := Lib.hid hc; obtain ⟨d0, d1, d2, d3, d4⟩ := hc; clear hb hx)) | (go_at_call 89; refine (CE.out _).mono ?_; rintro e w1 ⟨rfl, hb⟩; (try have hb := Below.undrew hb); (try have hb := Below.undrew hb); first | (have hx := FB0.out.trans (hb.mono FB0.out.size); have hc := CB.below2 SB0.out hb; have FB0 := Lib.hid hx; have SB0 := Lib.hid hc; obtain ⟨d0, d1, d2, d3, d4⟩ := hc; clear hb hx)))
   iterate 2
    all_goals go_region_held3 (fun W => W.cell? ⟨w.heap.size, 0, none⟩ = some (.int .i64 o) ∧ W.cell? ⟨w.heap.size, 1, none⟩ = some (.int .i64 d) ∧ W.cell? ⟨w.heap.size, 2, none⟩ = some (.int .i64 s) ∧ W.cell? ⟨w.heap.size, 3, none⟩ = some (.int .i64 f) ∧ W.cell? ⟨w.heap.size, 4, none⟩ = some (.int .i64 m)) (first | exact SB0.out) ((first | (go_at_call 40; refine (CR.out _ _).mono ?_; rintro e w1 ⟨rfl, hb⟩; (try have hb := Below.undrew hb); (try have hb := Below.undrew hb); first | (have hx := FB0.out.trans (hb.mono FB0.out.size); have hc := CB.below2 SB0.out hb; have FB0 := Lib.hid hx; have SB0 := Lib.hid hc; obtain ⟨d0, d1, d2, d3, d4⟩ := hc; clear hb hx)) | (go_at_call 41; refine (CI.out _).mono ?_; rintro e w1 ⟨rfl, rfl⟩) | (go_at_call 44; refine (CD.out (by assumption) _).mono ?_; rintro e w1 ⟨rfl, hb⟩; (try have hb := Below.undrew hb); (try have hb := Below.undrew hb); first | (have hx := FB0.out.trans (hb.mono FB0.out.size); have hc := CB.below2 SB0.out hb; have FB0 := Lib.hid hx; have SB0 := Lib.hid hc; obtain ⟨d0, d1, d2, d3, d4⟩ := hc; clear hb hx)) | (go_at_call 44; refine (CD.out _).mono ?_; rintro e w1 ⟨rfl, hb⟩; (try have hb := Below.undrew hb); (try have hb := Below.undrew hb); first | (have hx := FB0.out.trans (hb.mono FB0.out.size); have hc := CB.below2 SB0.out hb; have FB0 := Lib.hid hx; have SB0 := Lib.hid hc; obtain ⟨d0, d1, d2, d3, d4⟩ := hc; clear hb hx)) | (go_at_call 89; refine (CE.out _).mono ?_; rintro e w1 ⟨rfl, hb⟩; (try have hb := Below.undrew hb); (try have hb := Below.undrew hb); first | (have hx := FB0.out.trans (hb.mono FB0.out.size); have hc := CB.below2 SB0.out hb; have FB0 := Lib.hid hx; have SB0 := Lib.hid hc; obtain ⟨d0, d1, d2, d3, d4⟩ := hc; clear hb hx))))
    all_goals go_wp2_with (first | (go_at_call 40; refine (CR.out _ _).mono ?_; rintro e w1 ⟨rfl, hb⟩; (try have hb := Below.undrew hb); (try have hb := Below.undrew hb); first | (have hx := FB0.out.trans (hb.mono FB0.out.size); have hc := CB.below2 SB0.out hb; have FB0 := Lib.hid hx; have SB0 := Lib.hid hc; obtain ⟨d0, d1, d2, d3, d4⟩ := hc; clear hb hx)) | (go_at_call 41; refine (CI.out _).mono ?_; rintro e w1 ⟨rfl, rfl⟩) | (go_at_call 44; refine (CD.out (by assumption) _).mono ?_; rintro e w1 ⟨rfl, hb⟩; (try have hb := Below.undrew hb); (try have hb := Below.undrew hb); first | (have hx := FB0.out.trans (hb.mono FB0.out.size); have hc := CB.below2 SB0.out hb; have FB0 := Lib.hid hx; have SB0 := Lib.hid hc; obtain ⟨d0, d1, d2, d3, d4⟩ := hc; clear hb hx)) | (go_at_call 44; refine (CD.out _).mono ?_; rintro e w1 ⟨rfl, hb⟩; (try have hb := Below.undrew hb); (try have hb := Below.undrew hb); first | (have hx := FB0.out.trans (hb.mono FB0.out.size); have hc := CB.below2 SB0.out hb; have FB0 := Lib.hid hx; have SB0 := Lib.hid hc; obtain ⟨d0, d1, d2, d3, d4⟩ := hc; clear hb hx)) | (go_at_call 89; refine (CE.out _).mono ?_; rintro e w1 ⟨rfl, hb⟩; (try have hb := Below.undrew hb); (try have hb := Below.undrew hb); first | (have hx := FB0.out.trans (hb.mono FB0.out.size); have hc := CB.below2 SB0.out hb; have FB0 := Lib.hid hx; have SB0 := Lib.hid hc; obtain ⟨d0, d1, d2, d3, d4⟩ := hc; clear hb hx)))
   all_goals go_ret
   all_goals refine ⟨ret_str ?_, ?_⟩
   any_goals (first | exact FB0.out | exact FB0.out.drew | exact FB0.out.alloc FB0.out.size _ | exact FB0.out.drew.alloc FB0.out.size _ | exact (Below.refl _ w).alloc (Nat.le_refl _) _)
   first
    | (have hgd := h15; clear hgd; all_goals (rw [← ANS.out]; simp [aluT, aluFin, lead7, hw7, hk, hk13', tx, ByteArray.data_append, h1, h2, h3, h4, h5, h6, h7, h8, h9, h10, h11, h12, h13, h14, h15]))
    | (have hgd := h13; clear hgd; all_goals (rw [← ANS.out]; simp [aluT, aluFin, lead7, hw7, hk, hk13', tx, ByteArray.data_append, h1, h2, h3, h4, h5, h6, h7, h8, h9, h10, h11, h12, h13]))
    | (have hgd := h12; clear hgd; all_goals (rw [← ANS.out]; simp [aluT, aluFin, lead7, hw7, hk, hk13', tx, ByteArray.data_append, h1, h2, h3, h4, h5, h6, h7, h8, h9, h10, h11, h12]))
    | (have hgd := h11; clear hgd; all_goals (rw [← ANS.out]; simp [aluT, aluFin, lead7, hw7, hk, hk13', tx, ByteArray.data_append, h1, h2, h3, h4, h5, h6, h7, h8, h9, h10, h11]))
    | (have hgd := h10; clear hgd; all_goals (rw [← ANS.out]; simp [aluT, aluFin, lead7, hw7, hk, hk13', tx, ByteArray.data_append, h1, h2, h3, h4, h5, h6, h7, h8, h9, h10]))
    | (have hgd := h8; clear hgd; all_goals (rw [← ANS.out]; simp [aluT, aluFin, lead7, hw7, hk, hk13', tx, ByteArray.data_append, h1, h2, h3, h4, h5, h6, h7, h8]))
    | (have hgd := h7; clear hgd; all_goals (rw [← ANS.out]; simp [aluT, aluFin, lead7, hw7, hk, hk13', tx, ByteArray.data_append, h1, h2, h3, h4, h5, h6, h7]))
    | (have hgd := h6; clear hgd; all_goals (rw [← ANS.out]; simp [aluT, aluFin, lead7, hw7, hk, hk13', tx, ByteArray.data_append, h1, h2, h3, h4, h5, h6]))
    | (have hgd := h5; clear hgd; all_goals (rw [← ANS.out]; simp [aluT, aluFin, lead7, hw7, hk, hk13', tx, ByteArray.data_append, h1, h2, h3, h4, h5]))
    | (have hgd := h3; clear hgd; all_goals (rw [← ANS.out]; simp [aluT, aluFin, lead7, hw7, hk, hk13', tx, ByteArray.data_append, h1, h2, h3]))
    | (have hgd := h2; clear hgd; all_goals (rw [← ANS.out]; simp [aluT, aluFin, lead7, hw7, hk, hk13', tx, ByteArray.data_append, h1, h2]))
    | (have hgd := h1; clear hgd; all_goals (rw [← ANS.out]; simp [aluT, aluFin, lead7, hw7, hk, hk13', tx, ByteArray.data_append, h1]))
theorem alu_r (o d s f m : Int) (k : Nat) (w : World) (hw7 : (o % 8 == 7) = true) (hk : bits .and .i64 o 240 / 16 = (k : Int)) (hk13 : k < 13) :
  Calls Tryz.prog 63 #[insV o d s f m] w fun e w' => e = .returned (.string (tx (aluT o d s f m))) ∧ Below w.heap.size w w' := 
 alu_b o d s f m k w 114 (.inl ⟨hw7, rfl⟩) hk hk13
theorem alu_w (o d s f m : Int) (k : Nat) (w : World) (hw7 : (o % 8 == 7) = false) (hk : bits .and .i64 o 240 / 16 = (k : Int)) (hk13 : k < 13) :
  Calls Tryz.prog 63 #[insV o d s f m] w fun e w' => e = .returned (.string (tx (aluT o d s f m))) ∧ Below w.heap.size w w' := 
 alu_b o d s f m k w 119 (.inr ⟨hw7, rfl⟩) hk hk13
set_option maxHeartbeats 4000000 in
theorem alu_big_b (o d s f m : Int) (k : Nat) (w : World) (ld : UInt8) (hB : ((o % 8 == 7) = true ∧ ld = 114) ∨ ((o % 8 == 7) = false ∧ ld = 119)) (hk : bits .and .i64 o 240 / 16 = (k : Int)) (hk13 : 13 ≤ k) (e48 : (bits .and .i64 o 240 == 48) = false) (e144 : (bits .and .i64 o 240 == 144) = false) (e176 : (bits .and .i64 o 240 == 176) = false) (e128 : (bits .and .i64 o 240 == 128) = false) :
  Calls Tryz.prog 63 #[insV o d s f m] w fun e w' => e = .returned (.string (tx (aluT o d s f m))) ∧ Below w.heap.size w w' := by
 rcases hB with ⟨hw7, hld⟩ | ⟨hw7, hld⟩
 all_goals
  obtain ⟨ans, hans⟩ : ∃ b, aluT o d s f m = b := ⟨_, rfl⟩
  rw [hans]
  have ANS := Lib.hid hans
  clear hans
  have n5 := Cells5.new w ⟨o, d, s, f, m⟩ 38
  have SB0 := Lib.hid (show CB w.heap.size o d s f m (w.alloc (.cells #[.int .i64 o, .int .i64 d, .int .i64 s, .int .i64 f, .int .i64 m] 38)) from n5)
  clear n5
  have FB0 : Hid (Below w.heap.size w (w.alloc (.cells #[.int .i64 o, .int .i64 d, .int .i64 s, .int .i64 f, .int .i64 m] 38))) := (Below.refl _ w).alloc (Nat.le_refl _) _
  have CR := Lib.hid (fun n w' => reg_any [ld] (by simp) n w')
  have CI := Lib.hid (imm04_any m)
  have CD := Lib.hid (fun h w' => digits_any m (imm_b h) w')
  have CE := Lib.hid (ends_any o d s f m)
  unfold insV at CE
  have a7 := and_i64_7 o
  have hrd := regl1_sz [ld] rfl d
  have hrs := regl1_sz [ld] rfl s
  have gk : decide (12 < (k : Int)) = true := by simp; omega
  have hk13' : decide (12 < (k : Int)) = true := gk
  unfold insV
  cases h1 : (regIn d)
  focus
   have q1 := reg_none [ld] d
   rw [h1] at q1
   simp only [Bool.not_true, Bool.not_false] at q1
  rotate_left 1
  focus
   have q1 := reg_none [ld] d
   rw [h1] at q1
   simp only [Bool.not_true, Bool.not_false] at q1
   cases h2 : (regIn s)
   focus
    have q2 := reg_none [ld] s
    rw [h2] at q2
    simp only [Bool.not_true, Bool.not_false] at q2
   rotate_left 1
   focus
    have q2 := reg_none [ld] s
    rw [h2] at q2
    simp only [Bool.not_true, Bool.not_false] at q2
    cases h3 : (bits .and .i64 o 240 == 208)
    focus
     have g3 : (bits .and .i64 o 240 != 208) = true := by simp only [bne, h3]; rfl
     cases h4 : (bits .and .i64 o 8 == 0)
     focus
      have g4 : (bits .and .i64 o 8 != 0) = true := by simp only [bne, h4]; rfl
      cases h5 : (m == 0)
      focus
       have g5 : (m != 0) = true := by simp only [bne, h5]; rfl
      rotate_left 1
      focus
       have g5 : (m != 0) = false := by simp only [bne, h5]; rfl
       cases h6 : (immIn m)
       focus
        skip
       rotate_left 1
       focus
        cases h7 : (f == 0)
        focus
         have g7 : (f != 0) = true := by simp only [bne, h7]; rfl
         cases h8 : (f == 1)
         focus
          have g8 : (f != 1) = true := by simp only [bne, h8]; rfl
         rotate_left 1
         focus
          have g8 : (f != 1) = false := by simp only [bne, h8]; rfl
        rotate_left 2
        focus
         have g7 : (f != 0) = false := by simp only [bne, h7]; rfl
     rotate_left 5
     focus
      have g4 : (bits .and .i64 o 8 != 0) = false := by simp only [bne, h4]; rfl
      cases h5 : (s == 0)
      focus
       have g5 : (s != 0) = true := by simp only [bne, h5]; rfl
      rotate_left 1
      focus
       have g5 : (s != 0) = false := by simp only [bne, h5]; rfl
       cases h6 : (immIn m)
       focus
        skip
       rotate_left 1
       focus
        cases h7 : (f == 0)
        focus
         have g7 : (f != 0) = true := by simp only [bne, h7]; rfl
         cases h8 : (f == 1)
         focus
          have g8 : (f != 1) = true := by simp only [bne, h8]; rfl
          have hdm := imm_sz m (by assumption)
         rotate_left 1
         focus
          have g8 : (f != 1) = false := by simp only [bne, h8]; rfl
          have hdm := imm_sz m (by assumption)
        rotate_left 2
        focus
         have g7 : (f != 0) = false := by simp only [bne, h7]; rfl
         have hdm := imm_sz m (by assumption)
    rotate_left 10
    focus
     have g3 : (bits .and .i64 o 240 != 208) = false := by simp only [bne, h3]; rfl
  all_goals
   subst hld
   go_enter Tryz.func63, Tryz.ntmps63
   go_wp2_with (first | (go_at_call 40; refine (CR.out _ _).mono ?_; rintro e w1 ⟨rfl, hb⟩; (try have hb := Below.undrew hb); (try have hb := Below.undrew hb); first | (have hx := FB0.out.trans (hb.mono FB0.out.size); have hc := CB.below2 SB0.out hb; have FB0 := Lib.hid hx; have SB0 := Lib.hid hc; obtain ⟨d0, d1, d2, d3, d4⟩ := hc; clear hb hx)) | (go_at_call 41; refine (CI.out _).mono ?_; rintro e w1 ⟨rfl, rfl⟩) | (go_at_call 44; refine (CD.out (by assumption) _).mono ?_; rintro e w1 ⟨rfl, hb⟩; (try have hb := Below.undrew hb); (try have hb := Below.undrew hb); first | (have hx := FB0.out.trans (hb.mono FB0.out.size); have hc := CB.below2 SB0.out hb; have FB0 := Lib.hid hx; have SB0 := Lib.hid hc; obtain ⟨d0, d1, d2, d3, d4⟩ := hc; clear hb hx)) | (go_at_call 89; refine (CE.out _).mono ?_; rintro e w1 ⟨rfl, hb⟩; (try have hb := Below.undrew hb); (try have hb := Below.undrew hb); first | (have hx := FB0.out.trans (hb.mono FB0.out.size); have hc := CB.below2 SB0.out hb; have FB0 := Lib.hid hx; have SB0 := Lib.hid hc; obtain ⟨d0, d1, d2, d3, d4⟩ := hc; clear hb hx)))
   iterate 2
    all_goals go_region_held3 (fun W => W.cell? ⟨w.heap.size, 0, none⟩ = some (.int .i64 o) ∧ W.cell? ⟨w.heap.size, 1, none⟩ = some (.int .i64 d) ∧ W.cell? ⟨w.heap.size, 2, none⟩ = some (.int .i64 s) ∧ W.cell? ⟨w.heap.size, 3, none⟩ = some (.int .i64 f) ∧ W.cell? ⟨w.heap.size, 4, none⟩ = some (.int .i64 m)) (first | exact SB0.out) ((first | (go_at_call 40; refine (CR.out _ _).mono ?_; rintro e w1 ⟨rfl, hb⟩; (try have hb := Below.undrew hb); (try have hb := Below.undrew hb); first | (have hx := FB0.out.trans (hb.mono FB0.out.size); have hc := CB.below2 SB0.out hb; have FB0 := Lib.hid hx; have SB0 := Lib.hid hc; obtain ⟨d0, d1, d2, d3, d4⟩ := hc; clear hb hx)) | (go_at_call 41; refine (CI.out _).mono ?_; rintro e w1 ⟨rfl, rfl⟩) | (go_at_call 44; refine (CD.out (by assumption) _).mono ?_; rintro e w1 ⟨rfl, hb⟩; (try have hb := Below.undrew hb); (try have hb := Below.undrew hb); first | (have hx := FB0.out.trans (hb.mono FB0.out.size); have hc := CB.below2 SB0.out hb; have FB0 := Lib.hid hx; have SB0 := Lib.hid hc; obtain ⟨d0, d1, d2, d3, d4⟩ := hc; clear hb hx)) | (go_at_call 89; refine (CE.out _).mono ?_; rintro e w1 ⟨rfl, hb⟩; (try have hb := Below.undrew hb); (try have hb := Below.undrew hb); first | (have hx := FB0.out.trans (hb.mono FB0.out.size); have hc := CB.below2 SB0.out hb; have FB0 := Lib.hid hx; have SB0 := Lib.hid hc; obtain ⟨d0, d1, d2, d3, d4⟩ := hc; clear hb hx))))
    all_goals go_wp2_with (first | (go_at_call 40; refine (CR.out _ _).mono ?_; rintro e w1 ⟨rfl, hb⟩; (try have hb := Below.undrew hb); (try have hb := Below.undrew hb); first | (have hx := FB0.out.trans (hb.mono FB0.out.size); have hc := CB.below2 SB0.out hb; have FB0 := Lib.hid hx; have SB0 := Lib.hid hc; obtain ⟨d0, d1, d2, d3, d4⟩ := hc; clear hb hx)) | (go_at_call 41; refine (CI.out _).mono ?_; rintro e w1 ⟨rfl, rfl⟩) | (go_at_call 44; refine (CD.out (by assumption) _).mono ?_; rintro e w1 ⟨rfl, hb⟩; (try have hb := Below.undrew hb); (try have hb := Below.undrew hb); first | (have hx := FB0.out.trans (hb.mono FB0.out.size); have hc := CB.below2 SB0.out hb; have FB0 := Lib.hid hx; have SB0 := Lib.hid hc; obtain ⟨d0, d1, d2, d3, d4⟩ := hc; clear hb hx)) | (go_at_call 89; refine (CE.out _).mono ?_; rintro e w1 ⟨rfl, hb⟩; (try have hb := Below.undrew hb); (try have hb := Below.undrew hb); first | (have hx := FB0.out.trans (hb.mono FB0.out.size); have hc := CB.below2 SB0.out hb; have FB0 := Lib.hid hx; have SB0 := Lib.hid hc; obtain ⟨d0, d1, d2, d3, d4⟩ := hc; clear hb hx)))
   all_goals go_ret
   all_goals refine ⟨ret_str ?_, ?_⟩
   any_goals (first | exact FB0.out | exact FB0.out.drew | exact FB0.out.alloc FB0.out.size _ | exact FB0.out.drew.alloc FB0.out.size _ | exact (Below.refl _ w).alloc (Nat.le_refl _) _)
   first
    | (have hgd := h8; clear hgd; all_goals (rw [← ANS.out]; simp [aluT, aluFin, lead7, hw7, hk, hk13', e48, e144, e176, e128, tx, ByteArray.data_append, h1, h2, h3, h4, h5, h6, h7, h8]))
    | (have hgd := h7; clear hgd; all_goals (rw [← ANS.out]; simp [aluT, aluFin, lead7, hw7, hk, hk13', e48, e144, e176, e128, tx, ByteArray.data_append, h1, h2, h3, h4, h5, h6, h7]))
    | (have hgd := h6; clear hgd; all_goals (rw [← ANS.out]; simp [aluT, aluFin, lead7, hw7, hk, hk13', e48, e144, e176, e128, tx, ByteArray.data_append, h1, h2, h3, h4, h5, h6]))
    | (have hgd := h5; clear hgd; all_goals (rw [← ANS.out]; simp [aluT, aluFin, lead7, hw7, hk, hk13', e48, e144, e176, e128, tx, ByteArray.data_append, h1, h2, h3, h4, h5]))
    | (have hgd := h3; clear hgd; all_goals (rw [← ANS.out]; simp [aluT, aluFin, lead7, hw7, hk, hk13', e48, e144, e176, e128, tx, ByteArray.data_append, h1, h2, h3]))
    | (have hgd := h2; clear hgd; all_goals (rw [← ANS.out]; simp [aluT, aluFin, lead7, hw7, hk, hk13', e48, e144, e176, e128, tx, ByteArray.data_append, h1, h2]))
    | (have hgd := h1; clear hgd; all_goals (rw [← ANS.out]; simp [aluT, aluFin, lead7, hw7, hk, hk13', e48, e144, e176, e128, tx, ByteArray.data_append, h1]))
theorem alu_big_r (o d s f m : Int) (k : Nat) (w : World) (hw7 : (o % 8 == 7) = true) (hk : bits .and .i64 o 240 / 16 = (k : Int)) (hk13 : 13 ≤ k) (e48 : (bits .and .i64 o 240 == 48) = false) (e144 : (bits .and .i64 o 240 == 144) = false) (e176 : (bits .and .i64 o 240 == 176) = false) (e128 : (bits .and .i64 o 240 == 128) = false) :
  Calls Tryz.prog 63 #[insV o d s f m] w fun e w' => e = .returned (.string (tx (aluT o d s f m))) ∧ Below w.heap.size w w' := 
 alu_big_b o d s f m k w 114 (.inl ⟨hw7, rfl⟩) hk hk13 e48 e144 e176 e128
theorem alu_big_w (o d s f m : Int) (k : Nat) (w : World) (hw7 : (o % 8 == 7) = false) (hk : bits .and .i64 o 240 / 16 = (k : Int)) (hk13 : 13 ≤ k) (e48 : (bits .and .i64 o 240 == 48) = false) (e144 : (bits .and .i64 o 240 == 144) = false) (e176 : (bits .and .i64 o 240 == 176) = false) (e128 : (bits .and .i64 o 240 == 128) = false) :
  Calls Tryz.prog 63 #[insV o d s f m] w fun e w' => e = .returned (.string (tx (aluT o d s f m))) ∧ Below w.heap.size w w' := 
 alu_big_b o d s f m k w 119 (.inr ⟨hw7, rfl⟩) hk hk13 e48 e144 e176 e128
end Go.Proofs.YtemiklbkfogjeaaGreatDoor.Ln
