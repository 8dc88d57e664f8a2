/-
  The reference's words of a line: sizes and places. The reference's lines: bytes the other way round.
-/
import Derived.Test.YtemiklbkfogjeaaGreatDoorQ28
import Derived.Deep.RegionHeld3
import Derived.Laws.Concat
namespace Go.Proofs.YtemiklbkfogjeaaGreatDoor.Ln
open Go Go.RowKit
set_option linter.unusedVariables false
set_option linter.unusedSimpArgs false
set_option maxRecDepth 100000
theorem tmod256 (o : Int) : wrap64 (o.tmod 256 + 256) = o.tmod 256 + 256 ∧ (o.tmod 256 + 256).tmod 256 = o % 256 := by
 have h1 := Int.mul_tdiv_add_tmod o 256
 have h2 := Int.tmod_lt_of_pos o (show (0 : Int) < 256 by decide)
 have h3 := Int.lt_tmod_of_pos o (show (0 : Int) < 256 by decide)
 refine ⟨by unfold wrap64; omega, ?_⟩
 rw [Int.tmod_eq_emod_of_nonneg (by omega)]
 omega
theorem rclass_any (o d s f m : Int) (w : World) :
  Calls Tryz.prog 122 #[insV o d s f m] w fun e w' => e = .returned (.int .i64 (o % 8)) ∧ Below w.heap.size w w' := by
 unfold insV
 obtain ⟨e1, e2⟩ := tmod256 o
 have h7 := and_i64_7 (o % 256)
 have h8 : o % 256 % 8 = o % 8 := by omega
 go_enter Tryz.func122, Tryz.ntmps122
 go_wp2_with fail
 go_ret
 exact ⟨rfl, (Below.refl _ w).alloc (Nat.le_refl _) _⟩
set_option maxHeartbeats 2000000 in
theorem rsize_any (o d s f m : Int) (w : World) :
  Calls Tryz.prog 114 #[insV o d s f m] w fun e w' => e = .returned (.int .i64 (sizeV o)) ∧ Below w.heap.size w w' := by
 have cc := rclass_any o d s f m
 unfold insV at cc ⊢
 obtain ⟨e1, e2⟩ := tmod256 o
 have h3 := and_i64_3 (o % 256 / 8)
 rw [show o % 256 / 8 % 4 = o / 8 % 4 by omega] at h3
 have CC := Lib.hid cc
 clear cc
 by_cases hlo : o % 8 < 1
 ·have g1 : decide (o % 8 < 1) = true := by simpa using hlo
  have e : sizeV o = 0 := by simp [sizeV, hlo]
  rw [e]
  go_enter Tryz.func114, Tryz.ntmps114
  go_wp2_with (go_at_call 122; refine (CC.out _).mono ?_; rintro e w1 ⟨rfl, hb⟩; have HB := Lib.hid hb; clear hb)
  go_ret
  exact ⟨rfl, ((Below.refl _ w).alloc (Nat.le_refl _) _).trans (HB.out.mono (by simp))⟩
 ·by_cases hhi : 3 < o % 8
  ·have g1 : decide (o % 8 < 1) = false := by simpa using hlo
   have g2 : decide (3 < o % 8) = true := by simpa using hhi
   have e : sizeV o = 0 := by simp [sizeV, hhi]
   rw [e]
   go_enter Tryz.func114, Tryz.ntmps114
   go_wp2_with (go_at_call 122; refine (CC.out _).mono ?_; rintro e w1 ⟨rfl, hb⟩; have HB := Lib.hid hb; clear hb)
   go_ret
   exact ⟨rfl, ((Below.refl _ w).alloc (Nat.le_refl _) _).trans (HB.out.mono (by simp))⟩
  ·have g1 : decide (o % 8 < 1) = false := by simpa using hlo
   have g2 : decide (3 < o % 8) = false := by simpa using hhi
   have hq : (o / 8 % 4 = 0 ∧ sizeV o = 4) ∨ (o / 8 % 4 = 1 ∧ sizeV o = 2) ∨ (o / 8 % 4 = 2 ∧ sizeV o = 1) ∨ (o / 8 % 4 = 3 ∧ sizeV o = 8) := by
    have hh : ¬ (o % 8 < 1 ∨ 3 < o % 8) := by omega
    unfold sizeV
    rw [if_neg hh]
    split
    ·omega
    ·split
     ·omega
     ·split <;> omega
   rcases hq with ⟨q, e⟩ | ⟨q, e⟩ | ⟨q, e⟩ | ⟨q, e⟩
   all_goals
    rw [q] at h3
    rw [e]
    clear e q hlo hhi
    go_enter Tryz.func114, Tryz.ntmps114
    go_wp2_with (go_at_call 122; refine (CC.out _).mono ?_; rintro e w1 ⟨rfl, hb⟩; have o0 : w1.cell? ⟨w.heap.size, 0, none⟩ = some (.int .i64 o) := (hb.cell (p := ⟨w.heap.size, 0, none⟩) (by simp)).trans ((Blk.new w 38 #[.int .i64 o, .int .i64 d, .int .i64 s, .int .i64 f, .int .i64 m]).cell 0); have o1 : ∀ ob : Obj, (w1.alloc ob).cell? ⟨w.heap.size, 0, none⟩ = some (.int .i64 o) := (fun ob => (((Below.refl w1.heap.size w1).alloc (Nat.le_refl _) ob).cell (p := ⟨w.heap.size, 0, none⟩) (by have := hb.size; simp at this; simp; omega)).trans o0); have HB := Lib.hid hb; clear hb)
    go_ret
    exact ⟨rfl, (((Below.refl _ w).alloc (Nat.le_refl _) _).trans (HB.out.mono (by simp))).alloc (by have := HB.out.size; simp at this; omega) _⟩
theorem tx_none (L : List UInt8) : (tx L).toList.isEmpty = L.isEmpty := by
 rw [ByteArray.toList_eq]
 simp [tx]
theorem reg_none (lead : List UInt8) (n : Int) : (tx (regL lead n)).toList.isEmpty = !regIn n := by
 rw [tx_none]
 cases h : regIn n
 ·rw [(regL_empty lead n).2 h]; rfl
 ·have : regL lead n ≠ [] := fun e => by rw [(regL_empty lead n).1 e] at h; cases h
  cases hl : regL lead n with
  | nil => exact absurd hl this
  | cons a l => rfl
def placeL (r off : Int) : List UInt8 := if regIn r then (if off < 0 then [40] ++ regL [114] r ++ [32, 45, 32] ++ decL (-off).toNat ++ [41] else [40] ++ regL [114] r ++ [32, 43, 32] ++ digL off ++ [41]) else []
theorem placeL_len (r off : Int) (h : offIn off = true) : (placeL r off).length ≤ 30 := by
 unfold offIn at h
 simp at h
 have h1 := regL_len [114] r
 have h2 := digL_len off (by omega)
 have h3 := decL_len 9 (-off).toNat (by show (-off).toNat < 10000000000; omega)
 simp at h1
 unfold placeL
 split
 ·split <;> (simp; omega)
 ·simp
set_option maxHeartbeats 1000000 in
theorem place_any (r off : Int) (h : offIn off = true) (w : World) :
  Calls Tryz.prog 92 #[.int .i64 r, .int .i64 off] w fun e w' => e = .returned (.string (tx (placeL r off))) ∧ Below w.heap.size w w' := by
 have hb : -32768 ≤ off ∧ off ≤ 32767 := by unfold offIn at h; simpa using h
 have CR := Lib.hid (reg_any [114] (by simp) r)
 have hs : (tx (regL [114] r)).size ≤ 12 := by rw [tx_size]; exact regL_len [114] r
 have q := reg_none [114] r
 cases hr : regIn r
 ·have e1 : placeL r off = [] := by unfold placeL; rw [hr]; rfl
  rw [e1]
  rw [hr, Bool.not_false] at q
  clear e1 hr
  go_enter Tryz.func92, Tryz.ntmps92
  go_wp2_with (go_at_call 40; refine (CR.out _).mono ?_; rintro e w1 ⟨rfl, hb⟩; have HB := Lib.hid hb; clear hb)
  go_ret
  exact ⟨rfl, HB.out⟩
 ·rw [hr, Bool.not_true] at q
  by_cases hn : off < 0
  ·have g1 : decide (off < 0) = true := by simpa using hn
   have e1 : placeL r off = [40] ++ regL [114] r ++ [32, 45, 32] ++ decL (-off).toNat ++ [41] := by unfold placeL; rw [if_pos hr, if_pos hn]
   obtain ⟨m, hm⟩ := Int.eq_ofNat_of_zero_le (show 0 ≤ -off by omega)
   have e3 : IntKind.u64.wrap (-off) = (m : Int) := by rw [IntKind.wrap_u64]; omega
   have CU := Lib.hid (udigits_any m (by omega))
   have hs2 : (tx (decL m)).size ≤ 10 := by rw [tx_size]; exact decL_len 9 _ (by show m < 10000000000; omega)
   rw [show (-off).toNat = m by omega] at e1
   rw [e1]
   clear e1 hn hr h hm
   go_enter Tryz.func92, Tryz.ntmps92
   go_wp2_with (first
    | (go_at_call 40; first
      | (refine (CR.out w1).mono ?_; rintro e w2 ⟨rfl, hb⟩; have HB2 : Hid (Below w.heap.size w w2) := HB1.out.trans (hb.mono HB1.out.size); clear hb)
      | (refine (CR.out _).mono ?_; rintro e w1 ⟨rfl, hb⟩; have HB1 := Lib.hid hb; clear hb))
    | (go_at_call 42; refine (CU.out w2).mono ?_; rintro e w3 ⟨rfl, hb⟩; have HB3 : Hid (Below w.heap.size w w3) := HB2.out.trans (hb.mono HB2.out.size); clear hb))
   go_ret
   exact ⟨ret_str (by simp [tx, ByteArray.data_append]), HB3.out⟩
  ·have g1 : decide (off < 0) = false := by simpa using hn
   have e1 : placeL r off = [40] ++ regL [114] r ++ [32, 43, 32] ++ digL off ++ [41] := by unfold placeL; rw [if_pos hr, if_neg hn]
   have CU := Lib.hid (digits_any off (by omega))
   have hs2 : (tx (digL off)).size ≤ 11 := by rw [tx_size]; exact digL_len off (by omega)
   rw [e1]
   clear e1 hn hr h
   go_enter Tryz.func92, Tryz.ntmps92
   go_wp2_with (first
    | (go_at_call 40; first
      | (refine (CR.out w1).mono ?_; rintro e w2 ⟨rfl, hb⟩; have HB2 : Hid (Below w.heap.size w w2) := HB1.out.trans (hb.mono HB1.out.size); clear hb)
      | (refine (CR.out _).mono ?_; rintro e w1 ⟨rfl, hb⟩; have HB1 := Lib.hid hb; clear hb))
    | (go_at_call 44; refine (CU.out w2).mono ?_; rintro e w3 ⟨rfl, hb⟩; have HB3 : Hid (Below w.heap.size w w3) := HB2.out.trans (hb.mono HB2.out.size); clear hb))
   go_ret
   exact ⟨ret_str (by simp [tx, ByteArray.data_append]), HB3.out⟩
def bitsL (o : Int) : List UInt8 := digL (8 * sizeV o)
theorem sizeV_le (o : Int) : 0 ≤ sizeV o ∧ sizeV o ≤ 8 := by
 unfold sizeV
 split
 ·omega
 ·split
  ·omega
  ·split
   ·omega
   ·split <;> omega
theorem bitsL_len (o : Int) : (bitsL o).length ≤ 11 := digL_len _ (by have := sizeV_le o; omega)
set_option maxHeartbeats 1000000 in
theorem bits04_any (o d s f m : Int) (w : World) :
  Calls Tryz.prog 91 #[insV o d s f m] w fun e w' => e = .returned (.string (tx (bitsL o))) ∧ Below w.heap.size w w' := by
 have B0 : Hid (Below w.heap.size w (w.alloc (.cells #[.int .i64 o, .int .i64 d, .int .i64 s, .int .i64 f, .int .i64 m] 38))) := (Below.refl _ w).alloc (Nat.le_refl _) _
 have hz := sizeV_le o
 have e8 : IntKind.i64.wrap (8 * sizeV o) = 8 * sizeV o := by rw [IntKind.wrap_i64]; omega
 have CZ := Lib.hid (rsize_any o d s f m)
 have CD := Lib.hid (digits_any (8 * sizeV o) (by omega))
 unfold bitsL
 unfold insV at CZ ⊢
 go_enter Tryz.func91, Tryz.ntmps91
 go_wp2_with (first
  | (go_at_call 114; refine (CZ.out _).mono ?_; rintro e w1 ⟨rfl, hb⟩; have HB1 : Hid (Below w.heap.size w w1) := B0.out.trans (hb.mono B0.out.size); clear hb)
  | (go_at_call 44; refine (CD.out _).mono ?_; rintro e w2 ⟨rfl, hb⟩; have HB2 : Hid (Below w.heap.size w w2) := HB1.out.trans (hb.mono HB1.out.size); clear hb))
 go_ret
 exact ⟨rfl, HB2.out⟩
theorem CB.below2 {w w' : World} {b : Nat} {o d s f m : Int} (h : CB b o d s f m w) (hb : Below w.heap.size w w') : CB b o d s f m w' := h.below hb (World.block_lt_of_cell? w _ h.1)
theorem CB.drew {w : World} {b : Nat} {o d s f m : Int} (h : CB b o d s f m w) : CB b o d s f m w.drew := h
theorem Below.undrew {W w1 : World} (h : Below W.drew.heap.size W.drew w1) : Below W.heap.size W w1 := ⟨h.os, h.tape, h.output, h.size, h.block⟩
theorem cat_ok {P : Program} {a b : ByteArray} {x y : Nat} (ha : a.size ≤ x) (hb : b.size ≤ y) (h : x + y ≤ 10000) :
  (∀ W : World, (Op.stringOp .add a b).run P W = .ok (.string (a ++ b)) W) ∧ (a ++ b).size ≤ x + y :=
 ⟨fun W => run_string_add_sum W a b (by omega), by rw [ByteArray.size_append]; omega⟩
def endName (o : Int) : List UInt8 := if o == 212 then [108, 101] else if o == 220 then [98, 101] else if o == 215 then [98, 115, 119, 97, 112] else []
def endsL (o d s f m : Int) : List UInt8 := if turnB o s f m then regL [114] d ++ [32, 61, 32] ++ endName o ++ digL m ++ [32] ++ regL [114] d else []

set_option maxHeartbeats 4000000 in
theorem ends_any (o d s f m : Int) (w : World) :
  Calls Tryz.prog 89 #[insV o d s f m] w fun e w' => e = .returned (.string (tx (endsL o d s f m))) ∧ Below w.heap.size w w' := by
 obtain ⟨ans, hans⟩ : ∃ b, endsL o d s f m = b := ⟨_, rfl⟩
 rw [hans]
 have ANS := Lib.hid hans
 clear hans
 have n5 := Cells5.new w ⟨o, d, s, f, m⟩ 38
 have SB0 := Lib.hid (show CB w.heap.size o d s f m (w.alloc (.cells #[.int .i64 o, .int .i64 d, .int .i64 s, .int .i64 f, .int .i64 m] 38)) from n5)
 clear n5
 have FB0 : Hid (Below w.heap.size w (w.alloc (.cells #[.int .i64 o, .int .i64 d, .int .i64 s, .int .i64 f, .int .i64 m] 38))) := (Below.refl _ w).alloc (Nat.le_refl _) _
 have CR := Lib.hid (reg_any [114] (by simp) d)
 have hs : (tx (regL [114] d)).size ≤ 12 := by rw [tx_size]; exact regL_len [114] d
 unfold insV
 cases h1 : (o == 212)
 focus
  have g1 : (o != 212) = true := by simp only [bne, h1]; rfl
  cases h2 : (o == 220)
  focus
   have g2 : (o != 220) = true := by simp only [bne, h2]; rfl
   cases h3 : (o == 215)
   focus
    have g3 : (o != 215) = true := by simp only [bne, h3]; rfl
    have blkA := True.intro
   rotate_left 1
   focus
    have g3 : (o != 215) = false := by simp only [bne, h3]; rfl
    cases h4 : (s == 0)
    focus
     have g4 : (s != 0) = true := by simp only [bne, h4]; rfl
     have blkA := True.intro
    rotate_left 1
    focus
     have g4 : (s != 0) = false := by simp only [bne, h4]; rfl
     cases h5 : (f == 0)
     focus
      have g5 : (f != 0) = true := by simp only [bne, h5]; rfl
      have blkA := True.intro
     rotate_left 1
     focus
      have g5 : (f != 0) = false := by simp only [bne, h5]; rfl
      cases h6 : (m == 16)
      focus
       have g6 : (m != 16) = true := by simp only [bne, h6]; rfl
       cases h7 : (m == 32)
       focus
        have g7 : (m != 32) = true := by simp only [bne, h7]; rfl
        cases h8 : (m == 64)
        focus
         have g8 : (m != 64) = true := by simp only [bne, h8]; rfl
         have blkA := True.intro
        rotate_left 1
        focus
         have HM := Lib.hid (eq_of_beq h8)
         have hs3 : (tx (digL m)).size ≤ 11 := by rw [tx_size]; exact digL_len m (by have := HM.out; omega)
         have CD := Lib.hid (digits_any m (by have := HM.out; omega))
         have g8 : (m != 64) = false := by simp only [bne, h8]; rfl
         obtain ⟨k0_0, z0_0⟩ := cat_ok (P := Tryz.prog) hs (show ({ data := #[32, 61, 32] } : ByteArray).size ≤ 3 by decide) (by decide)
         obtain ⟨k0_1, z0_1⟩ := cat_ok (P := Tryz.prog) z0_0 (show ({ data := #[98, 115, 119, 97, 112] } : ByteArray).size ≤ 5 by decide) (by decide)
         obtain ⟨k0_2, z0_2⟩ := cat_ok (P := Tryz.prog) z0_1 hs3 (by decide)
         obtain ⟨k0_3, z0_3⟩ := cat_ok (P := Tryz.prog) z0_2 (show ({ data := #[32] } : ByteArray).size ≤ 1 by decide) (by decide)
         obtain ⟨k0_4, z0_4⟩ := cat_ok (P := Tryz.prog) z0_3 hs (by decide)
         clear z0_0 z0_1 z0_2 z0_3 z0_4
       rotate_left 2
       focus
        have HM := Lib.hid (eq_of_beq h7)
        have hs3 : (tx (digL m)).size ≤ 11 := by rw [tx_size]; exact digL_len m (by have := HM.out; omega)
        have CD := Lib.hid (digits_any m (by have := HM.out; omega))
        have g7 : (m != 32) = false := by simp only [bne, h7]; rfl
        obtain ⟨k0_0, z0_0⟩ := cat_ok (P := Tryz.prog) hs (show ({ data := #[32, 61, 32] } : ByteArray).size ≤ 3 by decide) (by decide)
        obtain ⟨k0_1, z0_1⟩ := cat_ok (P := Tryz.prog) z0_0 (show ({ data := #[98, 115, 119, 97, 112] } : ByteArray).size ≤ 5 by decide) (by decide)
        obtain ⟨k0_2, z0_2⟩ := cat_ok (P := Tryz.prog) z0_1 hs3 (by decide)
        obtain ⟨k0_3, z0_3⟩ := cat_ok (P := Tryz.prog) z0_2 (show ({ data := #[32] } : ByteArray).size ≤ 1 by decide) (by decide)
        obtain ⟨k0_4, z0_4⟩ := cat_ok (P := Tryz.prog) z0_3 hs (by decide)
        clear z0_0 z0_1 z0_2 z0_3 z0_4
      rotate_left 3
      focus
       have HM := Lib.hid (eq_of_beq h6)
       have hs3 : (tx (digL m)).size ≤ 11 := by rw [tx_size]; exact digL_len m (by have := HM.out; omega)
       have CD := Lib.hid (digits_any m (by have := HM.out; omega))
       have g6 : (m != 16) = false := by simp only [bne, h6]; rfl
       obtain ⟨k0_0, z0_0⟩ := cat_ok (P := Tryz.prog) hs (show ({ data := #[32, 61, 32] } : ByteArray).size ≤ 3 by decide) (by decide)
       obtain ⟨k0_1, z0_1⟩ := cat_ok (P := Tryz.prog) z0_0 (show ({ data := #[98, 115, 119, 97, 112] } : ByteArray).size ≤ 5 by decide) (by decide)
       obtain ⟨k0_2, z0_2⟩ := cat_ok (P := Tryz.prog) z0_1 hs3 (by decide)
       obtain ⟨k0_3, z0_3⟩ := cat_ok (P := Tryz.prog) z0_2 (show ({ data := #[32] } : ByteArray).size ≤ 1 by decide) (by decide)
       obtain ⟨k0_4, z0_4⟩ := cat_ok (P := Tryz.prog) z0_3 hs (by decide)
       clear z0_0 z0_1 z0_2 z0_3 z0_4
  rotate_left 7
  focus
   have g2 : (o != 220) = false := by simp only [bne, h2]; rfl
   cases h3 : (s == 0)
   focus
    have g3 : (s != 0) = true := by simp only [bne, h3]; rfl
    have blkA := True.intro
   rotate_left 1
   focus
    have g3 : (s != 0) = false := by simp only [bne, h3]; rfl
    cases h4 : (f == 0)
    focus
     have g4 : (f != 0) = true := by simp only [bne, h4]; rfl
     have blkA := True.intro
    rotate_left 1
    focus
     have g4 : (f != 0) = false := by simp only [bne, h4]; rfl
     cases h5 : (m == 16)
     focus
      have g5 : (m != 16) = true := by simp only [bne, h5]; rfl
      cases h6 : (m == 32)
      focus
       have g6 : (m != 32) = true := by simp only [bne, h6]; rfl
       cases h7 : (m == 64)
       focus
        have g7 : (m != 64) = true := by simp only [bne, h7]; rfl
        have blkA := True.intro
       rotate_left 1
       focus
        have HM := Lib.hid (eq_of_beq h7)
        have hs3 : (tx (digL m)).size ≤ 11 := by rw [tx_size]; exact digL_len m (by have := HM.out; omega)
        have CD := Lib.hid (digits_any m (by have := HM.out; omega))
        have g7 : (m != 64) = false := by simp only [bne, h7]; rfl
        obtain ⟨k0_0, z0_0⟩ := cat_ok (P := Tryz.prog) hs (show ({ data := #[32, 61, 32] } : ByteArray).size ≤ 3 by decide) (by decide)
        obtain ⟨k0_1, z0_1⟩ := cat_ok (P := Tryz.prog) z0_0 (show ({ data := #[98, 101] } : ByteArray).size ≤ 2 by decide) (by decide)
        obtain ⟨k0_2, z0_2⟩ := cat_ok (P := Tryz.prog) z0_1 hs3 (by decide)
        obtain ⟨k0_3, z0_3⟩ := cat_ok (P := Tryz.prog) z0_2 (show ({ data := #[32] } : ByteArray).size ≤ 1 by decide) (by decide)
        obtain ⟨k0_4, z0_4⟩ := cat_ok (P := Tryz.prog) z0_3 hs (by decide)
        clear z0_0 z0_1 z0_2 z0_3 z0_4
      rotate_left 2
      focus
       have HM := Lib.hid (eq_of_beq h6)
       have hs3 : (tx (digL m)).size ≤ 11 := by rw [tx_size]; exact digL_len m (by have := HM.out; omega)
       have CD := Lib.hid (digits_any m (by have := HM.out; omega))
       have g6 : (m != 32) = false := by simp only [bne, h6]; rfl
       obtain ⟨k0_0, z0_0⟩ := cat_ok (P := Tryz.prog) hs (show ({ data := #[32, 61, 32] } : ByteArray).size ≤ 3 by decide) (by decide)
       obtain ⟨k0_1, z0_1⟩ := cat_ok (P := Tryz.prog) z0_0 (show ({ data := #[98, 101] } : ByteArray).size ≤ 2 by decide) (by decide)
       obtain ⟨k0_2, z0_2⟩ := cat_ok (P := Tryz.prog) z0_1 hs3 (by decide)
       obtain ⟨k0_3, z0_3⟩ := cat_ok (P := Tryz.prog) z0_2 (show ({ data := #[32] } : ByteArray).size ≤ 1 by decide) (by decide)
       obtain ⟨k0_4, z0_4⟩ := cat_ok (P := Tryz.prog) z0_3 hs (by decide)
       clear z0_0 z0_1 z0_2 z0_3 z0_4
     rotate_left 3
     focus
      have HM := Lib.hid (eq_of_beq h5)
      have hs3 : (tx (digL m)).size ≤ 11 := by rw [tx_size]; exact digL_len m (by have := HM.out; omega)
      have CD := Lib.hid (digits_any m (by have := HM.out; omega))
      have g5 : (m != 16) = false := by simp only [bne, h5]; rfl
      obtain ⟨k0_0, z0_0⟩ := cat_ok (P := Tryz.prog) hs (show ({ data := #[32, 61, 32] } : ByteArray).size ≤ 3 by decide) (by decide)
      obtain ⟨k0_1, z0_1⟩ := cat_ok (P := Tryz.prog) z0_0 (show ({ data := #[98, 101] } : ByteArray).size ≤ 2 by decide) (by decide)
      obtain ⟨k0_2, z0_2⟩ := cat_ok (P := Tryz.prog) z0_1 hs3 (by decide)
      obtain ⟨k0_3, z0_3⟩ := cat_ok (P := Tryz.prog) z0_2 (show ({ data := #[32] } : ByteArray).size ≤ 1 by decide) (by decide)
      obtain ⟨k0_4, z0_4⟩ := cat_ok (P := Tryz.prog) z0_3 hs (by decide)
      clear z0_0 z0_1 z0_2 z0_3 z0_4
 rotate_left 13
 focus
  have g1 : (o != 212) = false := by simp only [bne, h1]; rfl
  cases h2 : (s == 0)
  focus
   have g2 : (s != 0) = true := by simp only [bne, h2]; rfl
   have blkA := True.intro
  rotate_left 1
  focus
   have g2 : (s != 0) = false := by simp only [bne, h2]; rfl
   cases h3 : (f == 0)
   focus
    have g3 : (f != 0) = true := by simp only [bne, h3]; rfl
    have blkA := True.intro
   rotate_left 1
   focus
    have g3 : (f != 0) = false := by simp only [bne, h3]; rfl
    cases h4 : (m == 16)
    focus
     have g4 : (m != 16) = true := by simp only [bne, h4]; rfl
     cases h5 : (m == 32)
     focus
      have g5 : (m != 32) = true := by simp only [bne, h5]; rfl
      cases h6 : (m == 64)
      focus
       have g6 : (m != 64) = true := by simp only [bne, h6]; rfl
       have blkA := True.intro
      rotate_left 1
      focus
       have HM := Lib.hid (eq_of_beq h6)
       have hs3 : (tx (digL m)).size ≤ 11 := by rw [tx_size]; exact digL_len m (by have := HM.out; omega)
       have CD := Lib.hid (digits_any m (by have := HM.out; omega))
       have g6 : (m != 64) = false := by simp only [bne, h6]; rfl
       obtain ⟨k0_0, z0_0⟩ := cat_ok (P := Tryz.prog) hs (show ({ data := #[32, 61, 32] } : ByteArray).size ≤ 3 by decide) (by decide)
       obtain ⟨k0_1, z0_1⟩ := cat_ok (P := Tryz.prog) z0_0 (show ({ data := #[108, 101] } : ByteArray).size ≤ 2 by decide) (by decide)
       obtain ⟨k0_2, z0_2⟩ := cat_ok (P := Tryz.prog) z0_1 hs3 (by decide)
       obtain ⟨k0_3, z0_3⟩ := cat_ok (P := Tryz.prog) z0_2 (show ({ data := #[32] } : ByteArray).size ≤ 1 by decide) (by decide)
       obtain ⟨k0_4, z0_4⟩ := cat_ok (P := Tryz.prog) z0_3 hs (by decide)
       clear z0_0 z0_1 z0_2 z0_3 z0_4
     rotate_left 2
     focus
      have HM := Lib.hid (eq_of_beq h5)
      have hs3 : (tx (digL m)).size ≤ 11 := by rw [tx_size]; exact digL_len m (by have := HM.out; omega)
      have CD := Lib.hid (digits_any m (by have := HM.out; omega))
      have g5 : (m != 32) = false := by simp only [bne, h5]; rfl
      obtain ⟨k0_0, z0_0⟩ := cat_ok (P := Tryz.prog) hs (show ({ data := #[32, 61, 32] } : ByteArray).size ≤ 3 by decide) (by decide)
      obtain ⟨k0_1, z0_1⟩ := cat_ok (P := Tryz.prog) z0_0 (show ({ data := #[108, 101] } : ByteArray).size ≤ 2 by decide) (by decide)
      obtain ⟨k0_2, z0_2⟩ := cat_ok (P := Tryz.prog) z0_1 hs3 (by decide)
      obtain ⟨k0_3, z0_3⟩ := cat_ok (P := Tryz.prog) z0_2 (show ({ data := #[32] } : ByteArray).size ≤ 1 by decide) (by decide)
      obtain ⟨k0_4, z0_4⟩ := cat_ok (P := Tryz.prog) z0_3 hs (by decide)
      clear z0_0 z0_1 z0_2 z0_3 z0_4
    rotate_left 3
    focus
     have HM := Lib.hid (eq_of_beq h4)
     have hs3 : (tx (digL m)).size ≤ 11 := by rw [tx_size]; exact digL_len m (by have := HM.out; omega)
     have CD := Lib.hid (digits_any m (by have := HM.out; omega))
     have g4 : (m != 16) = false := by simp only [bne, h4]; rfl
     obtain ⟨k0_0, z0_0⟩ := cat_ok (P := Tryz.prog) hs (show ({ data := #[32, 61, 32] } : ByteArray).size ≤ 3 by decide) (by decide)
     obtain ⟨k0_1, z0_1⟩ := cat_ok (P := Tryz.prog) z0_0 (show ({ data := #[108, 101] } : ByteArray).size ≤ 2 by decide) (by decide)
     obtain ⟨k0_2, z0_2⟩ := cat_ok (P := Tryz.prog) z0_1 hs3 (by decide)
     obtain ⟨k0_3, z0_3⟩ := cat_ok (P := Tryz.prog) z0_2 (show ({ data := #[32] } : ByteArray).size ≤ 1 by decide) (by decide)
     obtain ⟨k0_4, z0_4⟩ := cat_ok (P := Tryz.prog) z0_3 hs (by decide)
     clear z0_0 z0_1 z0_2 z0_3 z0_4
 all_goals first
  |clear blkA
   go_enter Tryz.func89, Tryz.ntmps89
   go_wp2_with (first | (go_at_call 40; refine (CR.out _).mono ?_; rintro e w1 ⟨rfl, hb⟩; (try have hb := Below.undrew hb); first | (have hx := FB0.out.trans (hb.mono FB0.out.size); have hc := CB.below2 SB0.out hb; have FB0 := Lib.hid hx; have SB0 := Lib.hid hc; obtain ⟨d0, d1, d2, d3, d4⟩ := hc; clear hb hx)) | (go_at_call 44; refine (CD.out _).mono ?_; rintro e w1 ⟨rfl, hb⟩; (try have hb := Below.undrew hb); first | (have hx := FB0.out.trans (hb.mono FB0.out.size); have hc := CB.below2 SB0.out hb; have FB0 := Lib.hid hx; have SB0 := Lib.hid hc; obtain ⟨d0, d1, d2, d3, d4⟩ := hc; clear hb hx)))
   all_goals go_ret
   all_goals first | exact ⟨ret_str (by rw [← ANS.out]; simp [endsL, turnB, endName, tx, ByteArray.data_append, *]), FB0.out⟩
  |go_enter Tryz.func89, Tryz.ntmps89
   go_wp2_with (first | (go_at_call 40; refine (CR.out _).mono ?_; rintro e w1 ⟨rfl, hb⟩; (try have hb := Below.undrew hb); first | (have hx := FB0.out.trans (hb.mono FB0.out.size); have hc := CB.below2 SB0.out hb; have FB0 := Lib.hid hx; have SB0 := Lib.hid hc; obtain ⟨d0, d1, d2, d3, d4⟩ := hc; clear hb hx)) | (go_at_call 44; refine (CD.out _).mono ?_; rintro e w1 ⟨rfl, hb⟩; (try have hb := Below.undrew hb); first | (have hx := FB0.out.trans (hb.mono FB0.out.size); have hc := CB.below2 SB0.out hb; have FB0 := Lib.hid hx; have SB0 := Lib.hid hc; obtain ⟨d0, d1, d2, d3, d4⟩ := hc; clear hb hx)))
   all_goals go_region_held3 (fun W => W.cell? ⟨w.heap.size, 0, none⟩ = some (.int .i64 o) ∧ W.cell? ⟨w.heap.size, 1, none⟩ = some (.int .i64 d) ∧ W.cell? ⟨w.heap.size, 2, none⟩ = some (.int .i64 s) ∧ W.cell? ⟨w.heap.size, 3, none⟩ = some (.int .i64 f) ∧ W.cell? ⟨w.heap.size, 4, none⟩ = some (.int .i64 m)) (first | exact SB0.out) ((first | (go_at_call 40; refine (CR.out _).mono ?_; rintro e w1 ⟨rfl, hb⟩; (try have hb := Below.undrew hb); first | (have hx := FB0.out.trans (hb.mono FB0.out.size); have hc := CB.below2 SB0.out hb; have FB0 := Lib.hid hx; have SB0 := Lib.hid hc; obtain ⟨d0, d1, d2, d3, d4⟩ := hc; clear hb hx)) | (go_at_call 44; refine (CD.out _).mono ?_; rintro e w1 ⟨rfl, hb⟩; (try have hb := Below.undrew hb); first | (have hx := FB0.out.trans (hb.mono FB0.out.size); have hc := CB.below2 SB0.out hb; have FB0 := Lib.hid hx; have SB0 := Lib.hid hc; obtain ⟨d0, d1, d2, d3, d4⟩ := hc; clear hb hx))))
   all_goals go_wp2_with (first | (go_at_call 40; refine (CR.out _).mono ?_; rintro e w1 ⟨rfl, hb⟩; (try have hb := Below.undrew hb); first | (have hx := FB0.out.trans (hb.mono FB0.out.size); have hc := CB.below2 SB0.out hb; have FB0 := Lib.hid hx; have SB0 := Lib.hid hc; obtain ⟨d0, d1, d2, d3, d4⟩ := hc; clear hb hx)) | (go_at_call 44; refine (CD.out _).mono ?_; rintro e w1 ⟨rfl, hb⟩; (try have hb := Below.undrew hb); first | (have hx := FB0.out.trans (hb.mono FB0.out.size); have hc := CB.below2 SB0.out hb; have FB0 := Lib.hid hx; have SB0 := Lib.hid hc; obtain ⟨d0, d1, d2, d3, d4⟩ := hc; clear hb hx)))
   all_goals go_ret
   all_goals first | exact ⟨ret_str (by rw [← ANS.out]; simp [endsL, turnB, endName, tx, ByteArray.data_append, *]), FB0.out⟩

end Go.Proofs.YtemiklbkfogjeaaGreatDoor.Ln
