/-
  The reference's lines: bytes the other way round.
-/
import Derived.Test.YticklgoegmobbaaDoorRText2
import Derived.Deep.RegionHeld3
import Derived.Laws.Concat
namespace Go.Proofs.YticklgoegmobbaaDoor
open Go Go.RowKit
set_option linter.unusedVariables false
set_option linter.unusedSimpArgs false
set_option maxRecDepth 100000
theorem CB.below2 {w w' : World} {b : Nat} {o d s f m : Int} (h : CB b o d s f m w) (hb : Below w.heap.size w w') : CB b o d s f m w' := h.below hb (World.block_lt_of_cell? w _ h.1)
theorem CB.drew {w : World} {b : Nat} {o d s f m : Int} (h : CB b o d s f m w) : CB b o d s f m w.drew := h
theorem Below.undrew {W w1 : World} (h : Below W.drew.heap.size W.drew w1) : Below W.heap.size W w1 := ⟨h.os, h.tape, h.output, h.size, h.block⟩
theorem cat_ok {P : Program} {a b : ByteArray} {x y : Nat} (ha : a.size ≤ x) (hb : b.size ≤ y) (h : x + y ≤ 10000) :
    (∀ W : World, (Op.stringOp .add a b).run P W = .ok (.string (a ++ b)) W) ∧ (a ++ b).size ≤ x + y :=
  ⟨fun W => run_string_add_sum W a b (by omega), by rw [ByteArray.size_append]; omega⟩
def endName (o : Int) : List UInt8 := if o == 212 then [108, 101] else if o == 220 then [98, 101] else if o == 215 then [98, 115, 119, 97, 112] else []
def endsL (o d s f m : Int) : List UInt8 := if turnB o s f m then regL [114] d ++ [32, 61, 32] ++ endName o ++ digL m ++ [32] ++ regL [114] d else []

set_option maxHeartbeats 4000000 in
theorem ends_any (o d s f m : Int) (w : World) :
    Calls Tryd.prog 58 #[insV o d s f m] w fun e w' => e = .returned (.string (tx (endsL o d s f m))) ∧ Below w.heap.size w w' := by
  obtain ⟨ans, hans⟩ : ∃ b, endsL o d s f m = b := ⟨_, rfl⟩
  rw [hans]
  have ANS := Lib.hid hans
  clear hans
  have n5 := Cells5.new w ⟨o, d, s, f, m⟩ 39
  have SB0 := Lib.hid (show CB w.heap.size o d s f m (w.alloc (.cells #[.int .i64 o, .int .i64 d, .int .i64 s, .int .i64 f, .int .i64 m] 39)) from n5)
  clear n5
  have FB0 : Hid (Below w.heap.size w (w.alloc (.cells #[.int .i64 o, .int .i64 d, .int .i64 s, .int .i64 f, .int .i64 m] 39))) := (Below.refl _ w).alloc (Nat.le_refl _) _
  have CR := Lib.hid (reg_any [114] (by simp) d)
  have hs : (tx (regL [114] d)).size ≤ 12 := by rw [tx_size]; exact regL_len [114] d
  unfold insV
  cases h1 : (o == 212)
  focus
    have g1 : (o != 212) = true := by simp only [bne, h1]; rfl
    cases h2 : (o == 220)
    focus
      have g2 : (o != 220) = true := by simp only [bne, h2]; rfl
      cases h3 : (o == 215)
      focus
        have g3 : (o != 215) = true := by simp only [bne, h3]; rfl
        have blkA := True.intro
      rotate_left 1
      focus
        have g3 : (o != 215) = false := by simp only [bne, h3]; rfl
        cases h4 : (s == 0)
        focus
          have g4 : (s != 0) = true := by simp only [bne, h4]; rfl
          have blkA := True.intro
        rotate_left 1
        focus
          have g4 : (s != 0) = false := by simp only [bne, h4]; rfl
          cases h5 : (f == 0)
          focus
            have g5 : (f != 0) = true := by simp only [bne, h5]; rfl
            have blkA := True.intro
          rotate_left 1
          focus
            have g5 : (f != 0) = false := by simp only [bne, h5]; rfl
            cases h6 : (m == 16)
            focus
              have g6 : (m != 16) = true := by simp only [bne, h6]; rfl
              cases h7 : (m == 32)
              focus
                have g7 : (m != 32) = true := by simp only [bne, h7]; rfl
                cases h8 : (m == 64)
                focus
                  have g8 : (m != 64) = true := by simp only [bne, h8]; rfl
                  have blkA := True.intro
                rotate_left 1
                focus
                  have HM := Lib.hid (eq_of_beq h8)
                  have hs3 : (tx (digL m)).size ≤ 11 := by rw [tx_size]; exact digL_len m (by have := HM.out; omega)
                  have CD := Lib.hid (digits_any m (by have := HM.out; omega))
                  have g8 : (m != 64) = false := by simp only [bne, h8]; rfl
                  obtain ⟨k0_0, z0_0⟩ := cat_ok (P := Tryd.prog) hs (show ({ data := #[32, 61, 32] } : ByteArray).size ≤ 3 by decide) (by decide)
                  obtain ⟨k0_1, z0_1⟩ := cat_ok (P := Tryd.prog) z0_0 (show ({ data := #[98, 115, 119, 97, 112] } : ByteArray).size ≤ 5 by decide) (by decide)
                  obtain ⟨k0_2, z0_2⟩ := cat_ok (P := Tryd.prog) z0_1 hs3 (by decide)
                  obtain ⟨k0_3, z0_3⟩ := cat_ok (P := Tryd.prog) z0_2 (show ({ data := #[32] } : ByteArray).size ≤ 1 by decide) (by decide)
                  obtain ⟨k0_4, z0_4⟩ := cat_ok (P := Tryd.prog) z0_3 hs (by decide)
                  clear z0_0 z0_1 z0_2 z0_3 z0_4
              rotate_left 2
              focus
                have HM := Lib.hid (eq_of_beq h7)
                have hs3 : (tx (digL m)).size ≤ 11 := by rw [tx_size]; exact digL_len m (by have := HM.out; omega)
                have CD := Lib.hid (digits_any m (by have := HM.out; omega))
                have g7 : (m != 32) = false := by simp only [bne, h7]; rfl
                obtain ⟨k0_0, z0_0⟩ := cat_ok (P := Tryd.prog) hs (show ({ data := #[32, 61, 32] } : ByteArray).size ≤ 3 by decide) (by decide)
                obtain ⟨k0_1, z0_1⟩ := cat_ok (P := Tryd.prog) z0_0 (show ({ data := #[98, 115, 119, 97, 112] } : ByteArray).size ≤ 5 by decide) (by decide)
                obtain ⟨k0_2, z0_2⟩ := cat_ok (P := Tryd.prog) z0_1 hs3 (by decide)
                obtain ⟨k0_3, z0_3⟩ := cat_ok (P := Tryd.prog) z0_2 (show ({ data := #[32] } : ByteArray).size ≤ 1 by decide) (by decide)
                obtain ⟨k0_4, z0_4⟩ := cat_ok (P := Tryd.prog) z0_3 hs (by decide)
                clear z0_0 z0_1 z0_2 z0_3 z0_4
            rotate_left 3
            focus
              have HM := Lib.hid (eq_of_beq h6)
              have hs3 : (tx (digL m)).size ≤ 11 := by rw [tx_size]; exact digL_len m (by have := HM.out; omega)
              have CD := Lib.hid (digits_any m (by have := HM.out; omega))
              have g6 : (m != 16) = false := by simp only [bne, h6]; rfl
              obtain ⟨k0_0, z0_0⟩ := cat_ok (P := Tryd.prog) hs (show ({ data := #[32, 61, 32] } : ByteArray).size ≤ 3 by decide) (by decide)
              obtain ⟨k0_1, z0_1⟩ := cat_ok (P := Tryd.prog) z0_0 (show ({ data := #[98, 115, 119, 97, 112] } : ByteArray).size ≤ 5 by decide) (by decide)
              obtain ⟨k0_2, z0_2⟩ := cat_ok (P := Tryd.prog) z0_1 hs3 (by decide)
              obtain ⟨k0_3, z0_3⟩ := cat_ok (P := Tryd.prog) z0_2 (show ({ data := #[32] } : ByteArray).size ≤ 1 by decide) (by decide)
              obtain ⟨k0_4, z0_4⟩ := cat_ok (P := Tryd.prog) z0_3 hs (by decide)
              clear z0_0 z0_1 z0_2 z0_3 z0_4
    rotate_left 7
    focus
      have g2 : (o != 220) = false := by simp only [bne, h2]; rfl
      cases h3 : (s == 0)
      focus
        have g3 : (s != 0) = true := by simp only [bne, h3]; rfl
        have blkA := True.intro
      rotate_left 1
      focus
        have g3 : (s != 0) = false := by simp only [bne, h3]; rfl
        cases h4 : (f == 0)
        focus
          have g4 : (f != 0) = true := by simp only [bne, h4]; rfl
          have blkA := True.intro
        rotate_left 1
        focus
          have g4 : (f != 0) = false := by simp only [bne, h4]; rfl
          cases h5 : (m == 16)
          focus
            have g5 : (m != 16) = true := by simp only [bne, h5]; rfl
            cases h6 : (m == 32)
            focus
              have g6 : (m != 32) = true := by simp only [bne, h6]; rfl
              cases h7 : (m == 64)
              focus
                have g7 : (m != 64) = true := by simp only [bne, h7]; rfl
                have blkA := True.intro
              rotate_left 1
              focus
                have HM := Lib.hid (eq_of_beq h7)
                have hs3 : (tx (digL m)).size ≤ 11 := by rw [tx_size]; exact digL_len m (by have := HM.out; omega)
                have CD := Lib.hid (digits_any m (by have := HM.out; omega))
                have g7 : (m != 64) = false := by simp only [bne, h7]; rfl
                obtain ⟨k0_0, z0_0⟩ := cat_ok (P := Tryd.prog) hs (show ({ data := #[32, 61, 32] } : ByteArray).size ≤ 3 by decide) (by decide)
                obtain ⟨k0_1, z0_1⟩ := cat_ok (P := Tryd.prog) z0_0 (show ({ data := #[98, 101] } : ByteArray).size ≤ 2 by decide) (by decide)
                obtain ⟨k0_2, z0_2⟩ := cat_ok (P := Tryd.prog) z0_1 hs3 (by decide)
                obtain ⟨k0_3, z0_3⟩ := cat_ok (P := Tryd.prog) z0_2 (show ({ data := #[32] } : ByteArray).size ≤ 1 by decide) (by decide)
                obtain ⟨k0_4, z0_4⟩ := cat_ok (P := Tryd.prog) z0_3 hs (by decide)
                clear z0_0 z0_1 z0_2 z0_3 z0_4
            rotate_left 2
            focus
              have HM := Lib.hid (eq_of_beq h6)
              have hs3 : (tx (digL m)).size ≤ 11 := by rw [tx_size]; exact digL_len m (by have := HM.out; omega)
              have CD := Lib.hid (digits_any m (by have := HM.out; omega))
              have g6 : (m != 32) = false := by simp only [bne, h6]; rfl
              obtain ⟨k0_0, z0_0⟩ := cat_ok (P := Tryd.prog) hs (show ({ data := #[32, 61, 32] } : ByteArray).size ≤ 3 by decide) (by decide)
              obtain ⟨k0_1, z0_1⟩ := cat_ok (P := Tryd.prog) z0_0 (show ({ data := #[98, 101] } : ByteArray).size ≤ 2 by decide) (by decide)
              obtain ⟨k0_2, z0_2⟩ := cat_ok (P := Tryd.prog) z0_1 hs3 (by decide)
              obtain ⟨k0_3, z0_3⟩ := cat_ok (P := Tryd.prog) z0_2 (show ({ data := #[32] } : ByteArray).size ≤ 1 by decide) (by decide)
              obtain ⟨k0_4, z0_4⟩ := cat_ok (P := Tryd.prog) z0_3 hs (by decide)
              clear z0_0 z0_1 z0_2 z0_3 z0_4
          rotate_left 3
          focus
            have HM := Lib.hid (eq_of_beq h5)
            have hs3 : (tx (digL m)).size ≤ 11 := by rw [tx_size]; exact digL_len m (by have := HM.out; omega)
            have CD := Lib.hid (digits_any m (by have := HM.out; omega))
            have g5 : (m != 16) = false := by simp only [bne, h5]; rfl
            obtain ⟨k0_0, z0_0⟩ := cat_ok (P := Tryd.prog) hs (show ({ data := #[32, 61, 32] } : ByteArray).size ≤ 3 by decide) (by decide)
            obtain ⟨k0_1, z0_1⟩ := cat_ok (P := Tryd.prog) z0_0 (show ({ data := #[98, 101] } : ByteArray).size ≤ 2 by decide) (by decide)
            obtain ⟨k0_2, z0_2⟩ := cat_ok (P := Tryd.prog) z0_1 hs3 (by decide)
            obtain ⟨k0_3, z0_3⟩ := cat_ok (P := Tryd.prog) z0_2 (show ({ data := #[32] } : ByteArray).size ≤ 1 by decide) (by decide)
            obtain ⟨k0_4, z0_4⟩ := cat_ok (P := Tryd.prog) z0_3 hs (by decide)
            clear z0_0 z0_1 z0_2 z0_3 z0_4
  rotate_left 13
  focus
    have g1 : (o != 212) = false := by simp only [bne, h1]; rfl
    cases h2 : (s == 0)
    focus
      have g2 : (s != 0) = true := by simp only [bne, h2]; rfl
      have blkA := True.intro
    rotate_left 1
    focus
      have g2 : (s != 0) = false := by simp only [bne, h2]; rfl
      cases h3 : (f == 0)
      focus
        have g3 : (f != 0) = true := by simp only [bne, h3]; rfl
        have blkA := True.intro
      rotate_left 1
      focus
        have g3 : (f != 0) = false := by simp only [bne, h3]; rfl
        cases h4 : (m == 16)
        focus
          have g4 : (m != 16) = true := by simp only [bne, h4]; rfl
          cases h5 : (m == 32)
          focus
            have g5 : (m != 32) = true := by simp only [bne, h5]; rfl
            cases h6 : (m == 64)
            focus
              have g6 : (m != 64) = true := by simp only [bne, h6]; rfl
              have blkA := True.intro
            rotate_left 1
            focus
              have HM := Lib.hid (eq_of_beq h6)
              have hs3 : (tx (digL m)).size ≤ 11 := by rw [tx_size]; exact digL_len m (by have := HM.out; omega)
              have CD := Lib.hid (digits_any m (by have := HM.out; omega))
              have g6 : (m != 64) = false := by simp only [bne, h6]; rfl
              obtain ⟨k0_0, z0_0⟩ := cat_ok (P := Tryd.prog) hs (show ({ data := #[32, 61, 32] } : ByteArray).size ≤ 3 by decide) (by decide)
              obtain ⟨k0_1, z0_1⟩ := cat_ok (P := Tryd.prog) z0_0 (show ({ data := #[108, 101] } : ByteArray).size ≤ 2 by decide) (by decide)
              obtain ⟨k0_2, z0_2⟩ := cat_ok (P := Tryd.prog) z0_1 hs3 (by decide)
              obtain ⟨k0_3, z0_3⟩ := cat_ok (P := Tryd.prog) z0_2 (show ({ data := #[32] } : ByteArray).size ≤ 1 by decide) (by decide)
              obtain ⟨k0_4, z0_4⟩ := cat_ok (P := Tryd.prog) z0_3 hs (by decide)
              clear z0_0 z0_1 z0_2 z0_3 z0_4
          rotate_left 2
          focus
            have HM := Lib.hid (eq_of_beq h5)
            have hs3 : (tx (digL m)).size ≤ 11 := by rw [tx_size]; exact digL_len m (by have := HM.out; omega)
            have CD := Lib.hid (digits_any m (by have := HM.out; omega))
            have g5 : (m != 32) = false := by simp only [bne, h5]; rfl
            obtain ⟨k0_0, z0_0⟩ := cat_ok (P := Tryd.prog) hs (show ({ data := #[32, 61, 32] } : ByteArray).size ≤ 3 by decide) (by decide)
            obtain ⟨k0_1, z0_1⟩ := cat_ok (P := Tryd.prog) z0_0 (show ({ data := #[108, 101] } : ByteArray).size ≤ 2 by decide) (by decide)
            obtain ⟨k0_2, z0_2⟩ := cat_ok (P := Tryd.prog) z0_1 hs3 (by decide)
            obtain ⟨k0_3, z0_3⟩ := cat_ok (P := Tryd.prog) z0_2 (show ({ data := #[32] } : ByteArray).size ≤ 1 by decide) (by decide)
            obtain ⟨k0_4, z0_4⟩ := cat_ok (P := Tryd.prog) z0_3 hs (by decide)
            clear z0_0 z0_1 z0_2 z0_3 z0_4
        rotate_left 3
        focus
          have HM := Lib.hid (eq_of_beq h4)
          have hs3 : (tx (digL m)).size ≤ 11 := by rw [tx_size]; exact digL_len m (by have := HM.out; omega)
          have CD := Lib.hid (digits_any m (by have := HM.out; omega))
          have g4 : (m != 16) = false := by simp only [bne, h4]; rfl
          obtain ⟨k0_0, z0_0⟩ := cat_ok (P := Tryd.prog) hs (show ({ data := #[32, 61, 32] } : ByteArray).size ≤ 3 by decide) (by decide)
          obtain ⟨k0_1, z0_1⟩ := cat_ok (P := Tryd.prog) z0_0 (show ({ data := #[108, 101] } : ByteArray).size ≤ 2 by decide) (by decide)
          obtain ⟨k0_2, z0_2⟩ := cat_ok (P := Tryd.prog) z0_1 hs3 (by decide)
          obtain ⟨k0_3, z0_3⟩ := cat_ok (P := Tryd.prog) z0_2 (show ({ data := #[32] } : ByteArray).size ≤ 1 by decide) (by decide)
          obtain ⟨k0_4, z0_4⟩ := cat_ok (P := Tryd.prog) z0_3 hs (by decide)
          clear z0_0 z0_1 z0_2 z0_3 z0_4
  all_goals first
    | clear blkA
      go_enter Tryd.func58, Tryd.ntmps58
      go_wp2_with (first | (go_at_call 48; refine (CR.out _).mono ?_; rintro e w1 ⟨rfl, hb⟩; (try have hb := Below.undrew hb); first | (have hx := FB3.out.trans (hb.mono FB3.out.size); have hc := CB.below2 SB3.out hb; have FB4 := Lib.hid hx; have SB4 := Lib.hid hc; obtain ⟨d0, d1, d2, d3, d4⟩ := hc; clear hb hx) | (have hx := FB2.out.trans (hb.mono FB2.out.size); have hc := CB.below2 SB2.out hb; have FB3 := Lib.hid hx; have SB3 := Lib.hid hc; obtain ⟨d0, d1, d2, d3, d4⟩ := hc; clear hb hx) | (have hx := FB1.out.trans (hb.mono FB1.out.size); have hc := CB.below2 SB1.out hb; have FB2 := Lib.hid hx; have SB2 := Lib.hid hc; obtain ⟨d0, d1, d2, d3, d4⟩ := hc; clear hb hx) | (have hx := FB0.out.trans (hb.mono FB0.out.size); have hc := CB.below2 SB0.out hb; have FB1 := Lib.hid hx; have SB1 := Lib.hid hc; obtain ⟨d0, d1, d2, d3, d4⟩ := hc; clear hb hx)) | (go_at_call 52; refine (CD.out _).mono ?_; rintro e w1 ⟨rfl, hb⟩; (try have hb := Below.undrew hb); first | (have hx := FB3.out.trans (hb.mono FB3.out.size); have hc := CB.below2 SB3.out hb; have FB4 := Lib.hid hx; have SB4 := Lib.hid hc; obtain ⟨d0, d1, d2, d3, d4⟩ := hc; clear hb hx) | (have hx := FB2.out.trans (hb.mono FB2.out.size); have hc := CB.below2 SB2.out hb; have FB3 := Lib.hid hx; have SB3 := Lib.hid hc; obtain ⟨d0, d1, d2, d3, d4⟩ := hc; clear hb hx) | (have hx := FB1.out.trans (hb.mono FB1.out.size); have hc := CB.below2 SB1.out hb; have FB2 := Lib.hid hx; have SB2 := Lib.hid hc; obtain ⟨d0, d1, d2, d3, d4⟩ := hc; clear hb hx) | (have hx := FB0.out.trans (hb.mono FB0.out.size); have hc := CB.below2 SB0.out hb; have FB1 := Lib.hid hx; have SB1 := Lib.hid hc; obtain ⟨d0, d1, d2, d3, d4⟩ := hc; clear hb hx)))
      all_goals go_ret
      all_goals first | exact ⟨ret_str (by rw [← ANS.out]; simp [endsL, turnB, endName, tx, ByteArray.data_append, *]), FB4.out⟩ | exact ⟨ret_str (by rw [← ANS.out]; simp [endsL, turnB, endName, tx, ByteArray.data_append, *]), FB3.out⟩ | exact ⟨ret_str (by rw [← ANS.out]; simp [endsL, turnB, endName, tx, ByteArray.data_append, *]), FB2.out⟩ | exact ⟨ret_str (by rw [← ANS.out]; simp [endsL, turnB, endName, tx, ByteArray.data_append, *]), FB1.out⟩ | exact ⟨ret_str (by rw [← ANS.out]; simp [endsL, turnB, endName, tx, ByteArray.data_append, *]), FB0.out⟩
    | go_enter Tryd.func58, Tryd.ntmps58
      go_wp2_with (first | (go_at_call 48; refine (CR.out _).mono ?_; rintro e w1 ⟨rfl, hb⟩; (try have hb := Below.undrew hb); first | (have hx := FB3.out.trans (hb.mono FB3.out.size); have hc := CB.below2 SB3.out hb; have FB4 := Lib.hid hx; have SB4 := Lib.hid hc; obtain ⟨d0, d1, d2, d3, d4⟩ := hc; clear hb hx) | (have hx := FB2.out.trans (hb.mono FB2.out.size); have hc := CB.below2 SB2.out hb; have FB3 := Lib.hid hx; have SB3 := Lib.hid hc; obtain ⟨d0, d1, d2, d3, d4⟩ := hc; clear hb hx) | (have hx := FB1.out.trans (hb.mono FB1.out.size); have hc := CB.below2 SB1.out hb; have FB2 := Lib.hid hx; have SB2 := Lib.hid hc; obtain ⟨d0, d1, d2, d3, d4⟩ := hc; clear hb hx) | (have hx := FB0.out.trans (hb.mono FB0.out.size); have hc := CB.below2 SB0.out hb; have FB1 := Lib.hid hx; have SB1 := Lib.hid hc; obtain ⟨d0, d1, d2, d3, d4⟩ := hc; clear hb hx)) | (go_at_call 52; refine (CD.out _).mono ?_; rintro e w1 ⟨rfl, hb⟩; (try have hb := Below.undrew hb); first | (have hx := FB3.out.trans (hb.mono FB3.out.size); have hc := CB.below2 SB3.out hb; have FB4 := Lib.hid hx; have SB4 := Lib.hid hc; obtain ⟨d0, d1, d2, d3, d4⟩ := hc; clear hb hx) | (have hx := FB2.out.trans (hb.mono FB2.out.size); have hc := CB.below2 SB2.out hb; have FB3 := Lib.hid hx; have SB3 := Lib.hid hc; obtain ⟨d0, d1, d2, d3, d4⟩ := hc; clear hb hx) | (have hx := FB1.out.trans (hb.mono FB1.out.size); have hc := CB.below2 SB1.out hb; have FB2 := Lib.hid hx; have SB2 := Lib.hid hc; obtain ⟨d0, d1, d2, d3, d4⟩ := hc; clear hb hx) | (have hx := FB0.out.trans (hb.mono FB0.out.size); have hc := CB.below2 SB0.out hb; have FB1 := Lib.hid hx; have SB1 := Lib.hid hc; obtain ⟨d0, d1, d2, d3, d4⟩ := hc; clear hb hx)))
      all_goals go_region_held3 (fun W => W.cell? ⟨w.heap.size, 0, none⟩ = some (.int .i64 o) ∧ W.cell? ⟨w.heap.size, 1, none⟩ = some (.int .i64 d) ∧ W.cell? ⟨w.heap.size, 2, none⟩ = some (.int .i64 s) ∧ W.cell? ⟨w.heap.size, 3, none⟩ = some (.int .i64 f) ∧ W.cell? ⟨w.heap.size, 4, none⟩ = some (.int .i64 m)) (first | exact SB4.out | exact SB3.out | exact SB2.out | exact SB1.out | exact SB0.out) ((first | (go_at_call 48; refine (CR.out _).mono ?_; rintro e w1 ⟨rfl, hb⟩; (try have hb := Below.undrew hb); first | (have hx := FB3.out.trans (hb.mono FB3.out.size); have hc := CB.below2 SB3.out hb; have FB4 := Lib.hid hx; have SB4 := Lib.hid hc; obtain ⟨d0, d1, d2, d3, d4⟩ := hc; clear hb hx) | (have hx := FB2.out.trans (hb.mono FB2.out.size); have hc := CB.below2 SB2.out hb; have FB3 := Lib.hid hx; have SB3 := Lib.hid hc; obtain ⟨d0, d1, d2, d3, d4⟩ := hc; clear hb hx) | (have hx := FB1.out.trans (hb.mono FB1.out.size); have hc := CB.below2 SB1.out hb; have FB2 := Lib.hid hx; have SB2 := Lib.hid hc; obtain ⟨d0, d1, d2, d3, d4⟩ := hc; clear hb hx) | (have hx := FB0.out.trans (hb.mono FB0.out.size); have hc := CB.below2 SB0.out hb; have FB1 := Lib.hid hx; have SB1 := Lib.hid hc; obtain ⟨d0, d1, d2, d3, d4⟩ := hc; clear hb hx)) | (go_at_call 52; refine (CD.out _).mono ?_; rintro e w1 ⟨rfl, hb⟩; (try have hb := Below.undrew hb); first | (have hx := FB3.out.trans (hb.mono FB3.out.size); have hc := CB.below2 SB3.out hb; have FB4 := Lib.hid hx; have SB4 := Lib.hid hc; obtain ⟨d0, d1, d2, d3, d4⟩ := hc; clear hb hx) | (have hx := FB2.out.trans (hb.mono FB2.out.size); have hc := CB.below2 SB2.out hb; have FB3 := Lib.hid hx; have SB3 := Lib.hid hc; obtain ⟨d0, d1, d2, d3, d4⟩ := hc; clear hb hx) | (have hx := FB1.out.trans (hb.mono FB1.out.size); have hc := CB.below2 SB1.out hb; have FB2 := Lib.hid hx; have SB2 := Lib.hid hc; obtain ⟨d0, d1, d2, d3, d4⟩ := hc; clear hb hx) | (have hx := FB0.out.trans (hb.mono FB0.out.size); have hc := CB.below2 SB0.out hb; have FB1 := Lib.hid hx; have SB1 := Lib.hid hc; obtain ⟨d0, d1, d2, d3, d4⟩ := hc; clear hb hx))))
      all_goals go_wp2_with (first | (go_at_call 48; refine (CR.out _).mono ?_; rintro e w1 ⟨rfl, hb⟩; (try have hb := Below.undrew hb); first | (have hx := FB3.out.trans (hb.mono FB3.out.size); have hc := CB.below2 SB3.out hb; have FB4 := Lib.hid hx; have SB4 := Lib.hid hc; obtain ⟨d0, d1, d2, d3, d4⟩ := hc; clear hb hx) | (have hx := FB2.out.trans (hb.mono FB2.out.size); have hc := CB.below2 SB2.out hb; have FB3 := Lib.hid hx; have SB3 := Lib.hid hc; obtain ⟨d0, d1, d2, d3, d4⟩ := hc; clear hb hx) | (have hx := FB1.out.trans (hb.mono FB1.out.size); have hc := CB.below2 SB1.out hb; have FB2 := Lib.hid hx; have SB2 := Lib.hid hc; obtain ⟨d0, d1, d2, d3, d4⟩ := hc; clear hb hx) | (have hx := FB0.out.trans (hb.mono FB0.out.size); have hc := CB.below2 SB0.out hb; have FB1 := Lib.hid hx; have SB1 := Lib.hid hc; obtain ⟨d0, d1, d2, d3, d4⟩ := hc; clear hb hx)) | (go_at_call 52; refine (CD.out _).mono ?_; rintro e w1 ⟨rfl, hb⟩; (try have hb := Below.undrew hb); first | (have hx := FB3.out.trans (hb.mono FB3.out.size); have hc := CB.below2 SB3.out hb; have FB4 := Lib.hid hx; have SB4 := Lib.hid hc; obtain ⟨d0, d1, d2, d3, d4⟩ := hc; clear hb hx) | (have hx := FB2.out.trans (hb.mono FB2.out.size); have hc := CB.below2 SB2.out hb; have FB3 := Lib.hid hx; have SB3 := Lib.hid hc; obtain ⟨d0, d1, d2, d3, d4⟩ := hc; clear hb hx) | (have hx := FB1.out.trans (hb.mono FB1.out.size); have hc := CB.below2 SB1.out hb; have FB2 := Lib.hid hx; have SB2 := Lib.hid hc; obtain ⟨d0, d1, d2, d3, d4⟩ := hc; clear hb hx) | (have hx := FB0.out.trans (hb.mono FB0.out.size); have hc := CB.below2 SB0.out hb; have FB1 := Lib.hid hx; have SB1 := Lib.hid hc; obtain ⟨d0, d1, d2, d3, d4⟩ := hc; clear hb hx)))
      all_goals go_ret
      all_goals first | exact ⟨ret_str (by rw [← ANS.out]; simp [endsL, turnB, endName, tx, ByteArray.data_append, *]), FB4.out⟩ | exact ⟨ret_str (by rw [← ANS.out]; simp [endsL, turnB, endName, tx, ByteArray.data_append, *]), FB3.out⟩ | exact ⟨ret_str (by rw [← ANS.out]; simp [endsL, turnB, endName, tx, ByteArray.data_append, *]), FB2.out⟩ | exact ⟨ret_str (by rw [← ANS.out]; simp [endsL, turnB, endName, tx, ByteArray.data_append, *]), FB1.out⟩ | exact ⟨ret_str (by rw [← ANS.out]; simp [endsL, turnB, endName, tx, ByteArray.data_append, *]), FB0.out⟩

end Go.Proofs.YticklgoegmobbaaDoor
