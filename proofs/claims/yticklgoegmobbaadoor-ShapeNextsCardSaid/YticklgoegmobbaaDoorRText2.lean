/-
  The reference's words of a line: sizes and places.
-/
import Derived.Test.YticklgoegmobbaaDoorRText
namespace Go.Proofs.YticklgoegmobbaaDoor
open Go Go.RowKit
set_option linter.unusedVariables false
set_option maxRecDepth 100000
theorem tmod256 (o : Int) : wrap64 (o.tmod 256 + 256) = o.tmod 256 + 256 ∧ (o.tmod 256 + 256).tmod 256 = o % 256 := by
  have h1 := Int.mul_tdiv_add_tmod o 256
  have h2 := Int.tmod_lt_of_pos o (show (0 : Int) < 256 by decide)
  have h3 := Int.lt_tmod_of_pos o (show (0 : Int) < 256 by decide)
  refine ⟨by unfold wrap64; omega, ?_⟩
  rw [Int.tmod_eq_emod_of_nonneg (by omega)]
  omega
theorem rclass_any (o d s f m : Int) (w : World) :
    Calls Tryd.prog 64 #[insV o d s f m] w fun e w' => e = .returned (.int .i64 (o % 8)) ∧ Below w.heap.size w w' := by
  unfold insV
  obtain ⟨e1, e2⟩ := tmod256 o
  have h7 := and_i64_7 (o % 256)
  have h8 : o % 256 % 8 = o % 8 := by omega
  go_enter Tryd.func64, Tryd.ntmps64
  go_wp2_with fail
  go_ret
  exact ⟨rfl, (Below.refl _ w).alloc (Nat.le_refl _) _⟩
set_option maxHeartbeats 2000000 in
theorem rsize_any (o d s f m : Int) (w : World) :
    Calls Tryd.prog 63 #[insV o d s f m] w fun e w' => e = .returned (.int .i64 (sizeV o)) ∧ Below w.heap.size w w' := by
  have cc := rclass_any o d s f m
  unfold insV at cc ⊢
  obtain ⟨e1, e2⟩ := tmod256 o
  have h3 := and_i64_3 (o % 256 / 8)
  rw [show o % 256 / 8 % 4 = o / 8 % 4 by omega] at h3
  have CC := Lib.hid cc
  clear cc
  by_cases hlo : o % 8 < 1
  · have g1 : decide (o % 8 < 1) = true := by simpa using hlo
    have e : sizeV o = 0 := by simp [sizeV, hlo]
    rw [e]
    go_enter Tryd.func63, Tryd.ntmps63
    go_wp2_with (go_at_call 64; refine (CC.out _).mono ?_; rintro e w1 ⟨rfl, hb⟩; have HB := Lib.hid hb; clear hb)
    go_ret
    exact ⟨rfl, ((Below.refl _ w).alloc (Nat.le_refl _) _).trans (HB.out.mono (by simp))⟩
  · by_cases hhi : 3 < o % 8
    · have g1 : decide (o % 8 < 1) = false := by simpa using hlo
      have g2 : decide (3 < o % 8) = true := by simpa using hhi
      have e : sizeV o = 0 := by simp [sizeV, hhi]
      rw [e]
      go_enter Tryd.func63, Tryd.ntmps63
      go_wp2_with (go_at_call 64; refine (CC.out _).mono ?_; rintro e w1 ⟨rfl, hb⟩; have HB := Lib.hid hb; clear hb)
      go_ret
      exact ⟨rfl, ((Below.refl _ w).alloc (Nat.le_refl _) _).trans (HB.out.mono (by simp))⟩
    · have g1 : decide (o % 8 < 1) = false := by simpa using hlo
      have g2 : decide (3 < o % 8) = false := by simpa using hhi
      have hq : (o / 8 % 4 = 0 ∧ sizeV o = 4) ∨ (o / 8 % 4 = 1 ∧ sizeV o = 2) ∨ (o / 8 % 4 = 2 ∧ sizeV o = 1) ∨ (o / 8 % 4 = 3 ∧ sizeV o = 8) := by
        have hh : ¬ (o % 8 < 1 ∨ 3 < o % 8) := by omega
        unfold sizeV
        rw [if_neg hh]
        split
        · omega
        · split
          · omega
          · split <;> omega
      rcases hq with ⟨q, e⟩ | ⟨q, e⟩ | ⟨q, e⟩ | ⟨q, e⟩
      all_goals
        rw [q] at h3
        rw [e]
        clear e q hlo hhi
        go_enter Tryd.func63, Tryd.ntmps63
        go_wp2_with (go_at_call 64; refine (CC.out _).mono ?_; rintro e w1 ⟨rfl, hb⟩; have o0 : w1.cell? ⟨w.heap.size, 0, none⟩ = some (.int .i64 o) := (hb.cell (p := ⟨w.heap.size, 0, none⟩) (by simp)).trans ((Blk.new w 39 #[.int .i64 o, .int .i64 d, .int .i64 s, .int .i64 f, .int .i64 m]).cell 0); have o1 : ∀ ob : Obj, (w1.alloc ob).cell? ⟨w.heap.size, 0, none⟩ = some (.int .i64 o) := (fun ob => (((Below.refl w1.heap.size w1).alloc (Nat.le_refl _) ob).cell (p := ⟨w.heap.size, 0, none⟩) (by have := hb.size; simp at this; simp; omega)).trans o0); have HB := Lib.hid hb; clear hb)
        go_ret
        exact ⟨rfl, (((Below.refl _ w).alloc (Nat.le_refl _) _).trans (HB.out.mono (by simp))).alloc (by have := HB.out.size; simp at this; omega) _⟩
theorem tx_none (L : List UInt8) : (tx L).toList.isEmpty = L.isEmpty := by
  rw [ByteArray.toList_eq]
  simp [tx]
theorem reg_none (lead : List UInt8) (n : Int) : (tx (regL lead n)).toList.isEmpty = !regIn n := by
  rw [tx_none]
  cases h : regIn n
  · rw [(regL_empty lead n).2 h]; rfl
  · have : regL lead n ≠ [] := fun e => by rw [(regL_empty lead n).1 e] at h; cases h
    cases hl : regL lead n with
    | nil => exact absurd hl this
    | cons a l => rfl
def placeL (r off : Int) : List UInt8 := if regIn r then (if off < 0 then [40] ++ regL [114] r ++ [32, 45, 32] ++ decL (-off).toNat ++ [41] else [40] ++ regL [114] r ++ [32, 43, 32] ++ digL off ++ [41]) else []
theorem placeL_len (r off : Int) (h : offIn off = true) : (placeL r off).length ≤ 30 := by
  unfold offIn at h
  simp at h
  have h1 := regL_len [114] r
  have h2 := digL_len off (by omega)
  have h3 := decL_len 9 (-off).toNat (by show (-off).toNat < 10000000000; omega)
  simp at h1
  unfold placeL
  split
  · split <;> (simp; omega)
  · simp
set_option maxHeartbeats 1000000 in
theorem place_any (r off : Int) (h : offIn off = true) (w : World) :
    Calls Tryd.prog 61 #[.int .i64 r, .int .i64 off] w fun e w' => e = .returned (.string (tx (placeL r off))) ∧ Below w.heap.size w w' := by
  have hb : -32768 ≤ off ∧ off ≤ 32767 := by unfold offIn at h; simpa using h
  have CR := Lib.hid (reg_any [114] (by simp) r)
  have hs : (tx (regL [114] r)).size ≤ 12 := by rw [tx_size]; exact regL_len [114] r
  have q := reg_none [114] r
  cases hr : regIn r
  · have e1 : placeL r off = [] := by unfold placeL; rw [hr]; rfl
    rw [e1]
    rw [hr, Bool.not_false] at q
    clear e1 hr
    go_enter Tryd.func61, Tryd.ntmps61
    go_wp2_with (go_at_call 48; refine (CR.out _).mono ?_; rintro e w1 ⟨rfl, hb⟩; have HB := Lib.hid hb; clear hb)
    go_ret
    exact ⟨rfl, HB.out⟩
  · rw [hr, Bool.not_true] at q
    by_cases hn : off < 0
    · have g1 : decide (off < 0) = true := by simpa using hn
      have e1 : placeL r off = [40] ++ regL [114] r ++ [32, 45, 32] ++ decL (-off).toNat ++ [41] := by unfold placeL; rw [if_pos hr, if_pos hn]
      obtain ⟨m, hm⟩ := Int.eq_ofNat_of_zero_le (show 0 ≤ -off by omega)
      have e3 : IntKind.u64.wrap (-off) = (m : Int) := by rw [IntKind.wrap_u64]; omega
      have CU := Lib.hid (udigits_any m (by omega))
      have hs2 : (tx (decL m)).size ≤ 10 := by rw [tx_size]; exact decL_len 9 _ (by show m < 10000000000; omega)
      rw [show (-off).toNat = m by omega] at e1
      rw [e1]
      clear e1 hn hr h hm
      go_enter Tryd.func61, Tryd.ntmps61
      go_wp2_with (first
        | (go_at_call 48; first
            | (refine (CR.out w1).mono ?_; rintro e w2 ⟨rfl, hb⟩; have HB2 : Hid (Below w.heap.size w w2) := HB1.out.trans (hb.mono HB1.out.size); clear hb)
            | (refine (CR.out _).mono ?_; rintro e w1 ⟨rfl, hb⟩; have HB1 := Lib.hid hb; clear hb))
        | (go_at_call 50; refine (CU.out w2).mono ?_; rintro e w3 ⟨rfl, hb⟩; have HB3 : Hid (Below w.heap.size w w3) := HB2.out.trans (hb.mono HB2.out.size); clear hb))
      go_ret
      exact ⟨ret_str (by simp [tx, ByteArray.data_append]), HB3.out⟩
    · have g1 : decide (off < 0) = false := by simpa using hn
      have e1 : placeL r off = [40] ++ regL [114] r ++ [32, 43, 32] ++ digL off ++ [41] := by unfold placeL; rw [if_pos hr, if_neg hn]
      have CU := Lib.hid (digits_any off (by omega))
      have hs2 : (tx (digL off)).size ≤ 11 := by rw [tx_size]; exact digL_len off (by omega)
      rw [e1]
      clear e1 hn hr h
      go_enter Tryd.func61, Tryd.ntmps61
      go_wp2_with (first
        | (go_at_call 48; first
            | (refine (CR.out w1).mono ?_; rintro e w2 ⟨rfl, hb⟩; have HB2 : Hid (Below w.heap.size w w2) := HB1.out.trans (hb.mono HB1.out.size); clear hb)
            | (refine (CR.out _).mono ?_; rintro e w1 ⟨rfl, hb⟩; have HB1 := Lib.hid hb; clear hb))
        | (go_at_call 52; refine (CU.out w2).mono ?_; rintro e w3 ⟨rfl, hb⟩; have HB3 : Hid (Below w.heap.size w w3) := HB2.out.trans (hb.mono HB2.out.size); clear hb))
      go_ret
      exact ⟨ret_str (by simp [tx, ByteArray.data_append]), HB3.out⟩
def bitsL (o : Int) : List UInt8 := digL (8 * sizeV o)
theorem sizeV_le (o : Int) : 0 ≤ sizeV o ∧ sizeV o ≤ 8 := by
  unfold sizeV
  split
  · omega
  · split
    · omega
    · split
      · omega
      · split <;> omega
theorem bitsL_len (o : Int) : (bitsL o).length ≤ 11 := digL_len _ (by have := sizeV_le o; omega)
set_option maxHeartbeats 1000000 in
theorem bits04_any (o d s f m : Int) (w : World) :
    Calls Tryd.prog 60 #[insV o d s f m] w fun e w' => e = .returned (.string (tx (bitsL o))) ∧ Below w.heap.size w w' := by
  have B0 : Hid (Below w.heap.size w (w.alloc (.cells #[.int .i64 o, .int .i64 d, .int .i64 s, .int .i64 f, .int .i64 m] 39))) := (Below.refl _ w).alloc (Nat.le_refl _) _
  have hz := sizeV_le o
  have e8 : IntKind.i64.wrap (8 * sizeV o) = 8 * sizeV o := by rw [IntKind.wrap_i64]; omega
  have CZ := Lib.hid (rsize_any o d s f m)
  have CD := Lib.hid (digits_any (8 * sizeV o) (by omega))
  unfold bitsL
  unfold insV at CZ ⊢
  go_enter Tryd.func60, Tryd.ntmps60
  go_wp2_with (first
    | (go_at_call 63; refine (CZ.out _).mono ?_; rintro e w1 ⟨rfl, hb⟩; have HB1 : Hid (Below w.heap.size w w1) := B0.out.trans (hb.mono B0.out.size); clear hb)
    | (go_at_call 52; refine (CD.out _).mono ?_; rintro e w2 ⟨rfl, hb⟩; have HB2 : Hid (Below w.heap.size w w2) := HB1.out.trans (hb.mono HB1.out.size); clear hb))
  go_ret
  exact ⟨rfl, HB2.out⟩
end Go.Proofs.YticklgoegmobbaaDoor
