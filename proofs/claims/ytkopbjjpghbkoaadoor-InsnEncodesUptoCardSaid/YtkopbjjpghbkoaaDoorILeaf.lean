/-
  Package insn's small functions, and the reference's.
-/
import Derived.Test.YtkopbjjpghbkoaaDoorRows
import Derived.Test.YtkopbjjpghbkoaaDoorStructs
import Derived.Test.YtkopbjjpghbkoaaDoorIArith
import Derived.Test.YtkopbjjpghbkoaaDoorBlk
import Derived.WalkKit
import Derived.Lib.Hide
import Derived.IntWalk
import Derived.Laws.Rows
import Derived.WalkSpells
namespace Go.Proofs.YtkopbjjpghbkoaaDoor
open Go Go.RowKit
set_option linter.unusedVariables false
theorem ret_bool {a b : Bool} (h : a = b) : Ending.returned (.bool a) = .returned (.bool b) := by rw [h]
theorem within_yes (n a b : Int) (h : a ≤ n ∧ n ≤ b) (w : World) :
    Calls Tryd.prog 28 #[.int .i64 n, .int .i64 a, .int .i64 b] w fun e w' => e = .returned (.bool true) ∧ w = w' := by
  have h1 : decide (a ≤ n) = true := by simp; omega
  have h2 : decide (n ≤ b) = true := by simp; omega
  go_enter Tryd.func28, Tryd.ntmps28
  go_wp2
  go_ret
  exact ⟨rfl, rfl⟩
theorem within_no (n a b : Int) (h : ¬ (a ≤ n ∧ n ≤ b)) (w : World) :
    Calls Tryd.prog 28 #[.int .i64 n, .int .i64 a, .int .i64 b] w fun e w' => e = .returned (.bool false) ∧ w = w' := by
  by_cases h1 : a ≤ n
  · have h1 : decide (a ≤ n) = true := by simp; omega
    have h2 : decide (n ≤ b) = false := by simp; omega
    go_enter Tryd.func28, Tryd.ntmps28
    go_wp2
    go_ret
    exact ⟨rfl, rfl⟩
  · have h1 : decide (a ≤ n) = false := by simp; omega
    go_enter Tryd.func28, Tryd.ntmps28
    go_wp2
    go_ret
    exact ⟨rfl, rfl⟩
def inB (n a b : Int) : Bool := decide (a ≤ n ∧ n ≤ b)
theorem within_any (n a b : Int) (w : World) :
    Calls Tryd.prog 28 #[.int .i64 n, .int .i64 a, .int .i64 b] w fun e w' => e = .returned (.bool (inB n a b)) ∧ w = w' := by
  by_cases h : a ≤ n ∧ n ≤ b
  · rw [show inB n a b = true by simp [inB, h]]; exact within_yes n a b h w
  · rw [show inB n a b = false by simp only [inB]; exact decide_eq_false h]; exact within_no n a b h w
/-- A slot. -/
def insV (o d s f m : Int) : Value := .agg #[.int .i64 o, .int .i64 d, .int .i64 s, .int .i64 f, .int .i64 m]
def Fits (o d s f m : Int) : Prop := (0 ≤ o ∧ o ≤ 255) ∧ (0 ≤ d ∧ d ≤ 15) ∧ (0 ≤ s ∧ s ≤ 15) ∧ (-32768 ≤ f ∧ f ≤ 32767) ∧ (-2147483648 ≤ m ∧ m ≤ 2147483647)
instance (o d s f m : Int) : Decidable (Fits o d s f m) := by unfold Fits; infer_instance
set_option maxHeartbeats 1000000 in
theorem fits_any (o d s f m : Int) (w : World) :
    Calls Tryd.prog 23 #[insV o d s f m] w fun e w' => e = .returned (.bool (decide (Fits o d s f m))) ∧ Below w.heap.size w w' := by
  have hF : decide (Fits o d s f m) = (inB o 0 255 && (inB d 0 15 && (inB s 0 15 && (inB f (-32768) 32767 && inB m (-2147483648) 2147483647)))) := by
    rw [Bool.eq_iff_iff]
    simp [Fits, inB, and_assoc]
  rw [hF]
  clear hF
  unfold insV
  cases h1 : inB o 0 255 <;> cases h2 : inB d 0 15 <;> cases h3 : inB s 0 15 <;> cases h4 : inB f (-32768) 32767 <;> cases h5 : inB m (-2147483648) 2147483647
  all_goals
    go_enter Tryd.func23, Tryd.ntmps23
    go_wp2_with (go_at_call 28; refine (within_any _ _ _ _).mono ?_; rintro e w' ⟨rfl, rfl⟩)
    go_ret
    exact ⟨rfl, (Below.refl _ w).alloc (Nat.le_refl _) _⟩
def cellsE (o d s f m : Int) : Array Value := #[.int .u8 o, .int .u8 (s * 16 + d), .int .u8 (f % 256), .int .u8 (f / 256 % 256), .int .u8 (m % 256), .int .u8 (m / 256 % 256), .int .u8 (m / 65536 % 256), .int .u8 (m / 16777216 % 256)]
theorem bytesOf_any (o d s f m : Int) (h : Fits o d s f m) (w : World) :
    Calls Tryd.prog 24 #[insV o d s f m] w fun e w' => e = .returned (.agg (cellsE o d s f m)) ∧ Below w.heap.size w w' := by
  unfold insV cellsE
  obtain ⟨h1, h2, h3, h4, h5⟩ := h
  have e1 : wrap64 (s * 16) = s * 16 := by unfold wrap64; omega
  have e2 := or_regs d s h2 h3
  go_enter Tryd.func24, Tryd.ntmps24
  go_wp2_with fail
  exact bodyPost_ret (results_cell_row rfl _ _ (w.heap.size + 1) 46 _ (0, 0) _ rfl (heap_alloc2_new w _ _) Tryd.underlying46 rfl (by kernel_rfl)) rfl ⟨rfl, ((Below.refl _ w).alloc (Nat.le_refl _) _).alloc (by simp) _⟩
theorem wide_any (o d s f m : Int) (w : World) :
    Calls Tryd.prog 17 #[insV o d s f m] w fun e w' => e = .returned (.bool (o == 24)) ∧ Below w.heap.size w w' := by
  unfold insV
  go_enter Tryd.func17, Tryd.ntmps17
  go_wp2_with fail
  go_ret
  exact ⟨rfl, (Below.refl _ w).alloc (Nat.le_refl _) _⟩
theorem class_any (o d s f m : Int) (w : World) :
    Calls Tryd.prog 18 #[insV o d s f m] w fun e w' => e = .returned (.int .i64 (o % 8)) ∧ Below w.heap.size w w' := by
  unfold insV
  have h7 := and_i64_7 o
  go_enter Tryd.func18, Tryd.ntmps18
  go_wp2_with fail
  go_ret
  exact ⟨rfl, (Below.refl _ w).alloc (Nat.le_refl _) _⟩
theorem tmod256 (o : Int) : wrap64 (o.tmod 256 + 256) = o.tmod 256 + 256 ∧ (o.tmod 256 + 256).tmod 256 = o % 256 := by
  have h1 := Int.mul_tdiv_add_tmod o 256
  have h2 := Int.tmod_lt_of_pos o (show (0 : Int) < 256 by decide)
  have h3 := Int.lt_tmod_of_pos o (show (0 : Int) < 256 by decide)
  refine ⟨by unfold wrap64; omega, ?_⟩
  rw [Int.tmod_eq_emod_of_nonneg (by omega)]
  omega
theorem rclass_any (o d s f m : Int) (w : World) :
    Calls Tryd.prog 19 #[insV o d s f m] w fun e w' => e = .returned (.int .i64 (o % 8)) ∧ Below w.heap.size w w' := by
  unfold insV
  obtain ⟨e1, e2⟩ := tmod256 o
  have h7 := and_i64_7 (o % 256)
  have h8 : o % 256 % 8 = o % 8 := by omega
  go_enter Tryd.func19, Tryd.ntmps19
  go_wp2_with fail
  go_ret
  exact ⟨rfl, (Below.refl _ w).alloc (Nat.le_refl _) _⟩
/-- How many bytes an Op moves. -/
def sizeV (o : Int) : Int := if o % 8 < 1 ∨ 3 < o % 8 then 0 else if o / 8 % 4 = 0 then 4 else if o / 8 % 4 = 1 then 2 else if o / 8 % 4 = 2 then 1 else 8
def Sizes (w : World) : Prop := 0 < w.heap.size ∧ w.cell? ⟨0, 0, none⟩ = some (.int .i64 4) ∧ w.cell? ⟨0, 1, none⟩ = some (.int .i64 2) ∧ w.cell? ⟨0, 2, none⟩ = some (.int .i64 1) ∧ w.cell? ⟨0, 3, none⟩ = some (.int .i64 8)
theorem Sizes.below {w w' : World} (h : Sizes w) (hb : Below w.heap.size w w') : Sizes w' := by
  obtain ⟨h0, h1, h2, h3, h4⟩ := h
  exact ⟨Nat.lt_of_lt_of_le h0 hb.size, by rw [hb.cell (by simpa using h0)]; exact h1, by rw [hb.cell (by simpa using h0)]; exact h2, by rw [hb.cell (by simpa using h0)]; exact h3, by rw [hb.cell (by simpa using h0)]; exact h4⟩
set_option maxHeartbeats 2000000 in
theorem size_any (o d s f m : Int) (w : World) (h : Sizes w) :
    Calls Tryd.prog 20 #[insV o d s f m] w fun e w' => e = .returned (.int .i64 (sizeV o)) ∧ Below w.heap.size w w' := by
  have cc := class_any o d s f m
  unfold insV at cc ⊢
  have h3 := and_i64_3 (o / 8)
  have HS := Lib.hid h
  clear h
  have CC := Lib.hid cc
  clear cc
  by_cases hlo : o % 8 < 1
  · have g1 : decide (o % 8 < 1) = true := by simpa using hlo
    have e : sizeV o = 0 := by simp [sizeV, hlo]
    rw [e]
    go_enter Tryd.func20, Tryd.ntmps20
    go_wp2_with (go_at_call 18; refine (CC.out _).mono ?_; rintro e w1 ⟨rfl, hb⟩; have HB := Lib.hid hb; clear hb)
    go_ret
    exact ⟨rfl, ((Below.refl _ w).alloc (Nat.le_refl _) _).trans (HB.out.mono (by simp))⟩
  · by_cases hhi : 3 < o % 8
    · have g1 : decide (o % 8 < 1) = false := by simpa using hlo
      have g2 : decide (3 < o % 8) = true := by simpa using hhi
      have e : sizeV o = 0 := by simp [sizeV, hhi]
      rw [e]
      go_enter Tryd.func20, Tryd.ntmps20
      go_wp2_with (go_at_call 18; refine (CC.out _).mono ?_; rintro e w1 ⟨rfl, hb⟩; have HB := Lib.hid hb; clear hb)
      go_ret
      exact ⟨rfl, ((Below.refl _ w).alloc (Nat.le_refl _) _).trans (HB.out.mono (by simp))⟩
    · have g1 : decide (o % 8 < 1) = false := by simpa using hlo
      have g2 : decide (3 < o % 8) = false := by simpa using hhi
      have hq : (o / 8 % 4 = 0 ∧ sizeV o = 4) ∨ (o / 8 % 4 = 1 ∧ sizeV o = 2) ∨ (o / 8 % 4 = 2 ∧ sizeV o = 1) ∨ (o / 8 % 4 = 3 ∧ sizeV o = 8) := by
        have hh : ¬ (o % 8 < 1 ∨ 3 < o % 8) := by omega
        unfold sizeV
        rw [if_neg hh]
        split
        · omega
        · split
          · omega
          · split <;> omega
      rcases hq with ⟨q, e⟩ | ⟨q, e⟩ | ⟨q, e⟩ | ⟨q, e⟩
      all_goals
        rw [q] at h3
        rw [e]
        clear e q hlo hhi
        go_enter Tryd.func20, Tryd.ntmps20
        go_wp2_with (go_at_call 18; refine (CC.out _).mono ?_; rintro e w1 ⟨rfl, hb⟩; obtain ⟨_, s0, s1, s2, s3⟩ := (HS.out.below ((Below.refl _ w).alloc (Nat.le_refl _) _)).below hb; have o0 : w1.cell? ⟨w.heap.size, 0, none⟩ = some (.int .i64 o) := (hb.cell (p := ⟨w.heap.size, 0, none⟩) (by simp)).trans ((Blk.new w 37 #[.int .i64 o, .int .i64 d, .int .i64 s, .int .i64 f, .int .i64 m]).cell 0); have HB := Lib.hid hb; clear hb)
        go_ret
        exact ⟨rfl, ((Below.refl _ w).alloc (Nat.le_refl _) _).trans (HB.out.mono (by simp))⟩
end Go.Proofs.YtkopbjjpghbkoaaDoor
