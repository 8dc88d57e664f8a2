/-
  Slots, and what package insn says of one.
-/
import Derived.Test.YticklgoegmobbaaDoorIArith
import Derived.Test.YticklgoegmobbaaDoorBlk
import Derived.Test.YticklgoegmobbaaDoorStructs
import Derived.WalkKit
import Derived.Lib.Hide
import Derived.IntWalk
import Derived.Laws.Rows
import Derived.WalkSpells
namespace Go.Proofs.YticklgoegmobbaaDoor
open Go Go.RowKit
set_option linter.unusedVariables false
set_option maxRecDepth 100000
/-- A slot. -/
def insV (o d s f m : Int) : Value := .agg #[.int .i64 o, .int .i64 d, .int .i64 s, .int .i64 f, .int .i64 m]
theorem i16_wrap (x : Int) : IntKind.i16.wrap x = (x + 32768) % 65536 - 32768 := by
  simp [IntKind.wrap, IntKind.bits, IntKind.signed]; split <;> omega
/-- The fields have room, the registers are there. -/
def FitsR (o d s f m : Int) : Prop := (0 ≤ o ∧ o ≤ 255) ∧ (0 ≤ d ∧ d ≤ 10) ∧ (0 ≤ s ∧ s ≤ 10) ∧ (-32768 ≤ f ∧ f ≤ 32767) ∧ (-2147483648 ≤ m ∧ m ≤ 2147483647)
instance (o d s f m : Int) : Decidable (FitsR o d s f m) := by unfold FitsR; infer_instance
set_option maxHeartbeats 1000000 in
theorem fits_any (o d s f m : Int) (w : World) :
    Calls Tryd.prog 26 #[insV o d s f m] w fun e w' => e = .returned (.bool (decide (FitsR o d s f m))) ∧ Below w.heap.size w w' := by
  have hF : decide (FitsR o d s f m) = ((o == o % 256) && (decide (0 ≤ d) && (decide (d ≤ 10) && (decide (0 ≤ s) && (decide (s ≤ 10) && ((f == IntKind.i16.wrap f) && (m == wrap32 m))))))) := by
    rw [Bool.eq_iff_iff]
    simp [FitsR, i16_wrap, wrap32, and_assoc]
    omega
  rw [hF]
  clear hF
  have e1 : IntKind.i64.wrap (IntKind.i16.wrap f) = IntKind.i16.wrap f := by rw [i16_wrap, IntKind.wrap_i64]; omega
  have e2 : wrap64 (wrap32 m) = wrap32 m := by unfold wrap64 wrap32; omega
  unfold insV
  cases h1 : (o == o % 256)
  · go_enter Tryd.func26, Tryd.ntmps26
    go_wp2_with fail
    go_ret
    exact ⟨rfl, (Below.refl _ w).alloc (Nat.le_refl _) _⟩
  · cases h2 : decide (0 ≤ d)
    · go_enter Tryd.func26, Tryd.ntmps26
      go_wp2_with fail
      go_ret
      exact ⟨rfl, (Below.refl _ w).alloc (Nat.le_refl _) _⟩
    · cases h3 : decide (d ≤ 10)
      · go_enter Tryd.func26, Tryd.ntmps26
        go_wp2_with fail
        go_ret
        exact ⟨rfl, (Below.refl _ w).alloc (Nat.le_refl _) _⟩
      · cases h4 : decide (0 ≤ s)
        · go_enter Tryd.func26, Tryd.ntmps26
          go_wp2_with fail
          go_ret
          exact ⟨rfl, (Below.refl _ w).alloc (Nat.le_refl _) _⟩
        · cases h5 : decide (s ≤ 10)
          · go_enter Tryd.func26, Tryd.ntmps26
            go_wp2_with fail
            go_ret
            exact ⟨rfl, (Below.refl _ w).alloc (Nat.le_refl _) _⟩
          · cases h6 : (f == IntKind.i16.wrap f)
            · go_enter Tryd.func26, Tryd.ntmps26
              go_wp2_with fail
              go_ret
              exact ⟨rfl, (Below.refl _ w).alloc (Nat.le_refl _) _⟩
            · cases h7 : (m == wrap32 m)
              · go_enter Tryd.func26, Tryd.ntmps26
                go_wp2_with fail
                go_ret
                exact ⟨rfl, (Below.refl _ w).alloc (Nat.le_refl _) _⟩
              · go_enter Tryd.func26, Tryd.ntmps26
                go_wp2_with fail
                go_ret
                exact ⟨rfl, (Below.refl _ w).alloc (Nat.le_refl _) _⟩
theorem wide_any (o d s f m : Int) (w : World) :
    Calls Tryd.prog 22 #[insV o d s f m] w fun e w' => e = .returned (.bool (o == 24)) ∧ Below w.heap.size w w' := by
  unfold insV
  go_enter Tryd.func22, Tryd.ntmps22
  go_wp2_with fail
  go_ret
  exact ⟨rfl, (Below.refl _ w).alloc (Nat.le_refl _) _⟩
theorem class_any (o d s f m : Int) (w : World) :
    Calls Tryd.prog 27 #[insV o d s f m] w fun e w' => e = .returned (.int .i64 (o % 8)) ∧ Below w.heap.size w w' := by
  unfold insV
  have h7 := and_i64_7 o
  go_enter Tryd.func27, Tryd.ntmps27
  go_wp2_with fail
  go_ret
  exact ⟨rfl, (Below.refl _ w).alloc (Nat.le_refl _) _⟩
def sizeV (o : Int) : Int := if o % 8 < 1 ∨ 3 < o % 8 then 0 else if o / 8 % 4 = 0 then 4 else if o / 8 % 4 = 1 then 2 else if o / 8 % 4 = 2 then 1 else 8
def Sizes (w : World) : Prop := 0 < w.heap.size ∧ w.cell? ⟨0, 0, none⟩ = some (.int .i64 4) ∧ w.cell? ⟨0, 1, none⟩ = some (.int .i64 2) ∧ w.cell? ⟨0, 2, none⟩ = some (.int .i64 1) ∧ w.cell? ⟨0, 3, none⟩ = some (.int .i64 8)
theorem Sizes.below {w w' : World} (h : Sizes w) (hb : Below w.heap.size w w') : Sizes w' := by
  obtain ⟨h0, h1, h2, h3, h4⟩ := h
  exact ⟨Nat.lt_of_lt_of_le h0 hb.size, by rw [hb.cell (by simpa using h0)]; exact h1, by rw [hb.cell (by simpa using h0)]; exact h2, by rw [hb.cell (by simpa using h0)]; exact h3, by rw [hb.cell (by simpa using h0)]; exact h4⟩
set_option maxHeartbeats 2000000 in
theorem size_any (o d s f m : Int) (w : World) (h : Sizes w) :
    Calls Tryd.prog 39 #[insV o d s f m] w fun e w' => e = .returned (.int .i64 (sizeV o)) ∧ Below w.heap.size w w' := by
  have cc := class_any o d s f m
  unfold insV at cc ⊢
  have h3 := and_i64_3 (o / 8)
  have HS := Lib.hid h
  clear h
  have CC := Lib.hid cc
  clear cc
  by_cases hlo : o % 8 < 1
  · have g1 : decide (o % 8 < 1) = true := by simpa using hlo
    have e : sizeV o = 0 := by simp [sizeV, hlo]
    rw [e]
    go_enter Tryd.func39, Tryd.ntmps39
    go_wp2_with (go_at_call 27; refine (CC.out _).mono ?_; rintro e w1 ⟨rfl, hb⟩; have HB := Lib.hid hb; clear hb)
    go_ret
    exact ⟨rfl, ((Below.refl _ w).alloc (Nat.le_refl _) _).trans (HB.out.mono (by simp))⟩
  · by_cases hhi : 3 < o % 8
    · have g1 : decide (o % 8 < 1) = false := by simpa using hlo
      have g2 : decide (3 < o % 8) = true := by simpa using hhi
      have e : sizeV o = 0 := by simp [sizeV, hhi]
      rw [e]
      go_enter Tryd.func39, Tryd.ntmps39
      go_wp2_with (go_at_call 27; refine (CC.out _).mono ?_; rintro e w1 ⟨rfl, hb⟩; have HB := Lib.hid hb; clear hb)
      go_ret
      exact ⟨rfl, ((Below.refl _ w).alloc (Nat.le_refl _) _).trans (HB.out.mono (by simp))⟩
    · have g1 : decide (o % 8 < 1) = false := by simpa using hlo
      have g2 : decide (3 < o % 8) = false := by simpa using hhi
      have hq : (o / 8 % 4 = 0 ∧ sizeV o = 4) ∨ (o / 8 % 4 = 1 ∧ sizeV o = 2) ∨ (o / 8 % 4 = 2 ∧ sizeV o = 1) ∨ (o / 8 % 4 = 3 ∧ sizeV o = 8) := by
        have hh : ¬ (o % 8 < 1 ∨ 3 < o % 8) := by omega
        unfold sizeV
        rw [if_neg hh]
        split
        · omega
        · split
          · omega
          · split <;> omega
      rcases hq with ⟨q, e⟩ | ⟨q, e⟩ | ⟨q, e⟩ | ⟨q, e⟩
      all_goals
        rw [q] at h3
        rw [e]
        clear e q hlo hhi
        go_enter Tryd.func39, Tryd.ntmps39
        go_wp2_with (go_at_call 27; refine (CC.out _).mono ?_; rintro e w1 ⟨rfl, hb⟩; obtain ⟨_, s0, s1, s2, s3⟩ := (HS.out.below ((Below.refl _ w).alloc (Nat.le_refl _) _)).below hb; have o0 : w1.cell? ⟨w.heap.size, 0, none⟩ = some (.int .i64 o) := (hb.cell (p := ⟨w.heap.size, 0, none⟩) (by simp)).trans ((Blk.new w 39 #[.int .i64 o, .int .i64 d, .int .i64 s, .int .i64 f, .int .i64 m]).cell 0); have HB := Lib.hid hb; clear hb)
        go_ret
        exact ⟨rfl, ((Below.refl _ w).alloc (Nat.le_refl _) _).trans (HB.out.mono (by simp))⟩
structure Slot where
  o : Int
  d : Int
  s : Int
  f : Int
  m : Int
def Slot.V (x : Slot) : Value := insV x.o x.d x.s x.f x.m
def Slot.cells (x : Slot) : List Value := [.int .i64 x.o, .int .i64 x.d, .int .i64 x.s, .int .i64 x.f, .int .i64 x.m]
def Cells5 (w : World) (b o : Nat) (x : Slot) : Prop :=
  w.cell? ⟨b, o, none⟩ = some (.int .i64 x.o) ∧ w.cell? ⟨b, o + 1, none⟩ = some (.int .i64 x.d) ∧ w.cell? ⟨b, o + 2, none⟩ = some (.int .i64 x.s) ∧ w.cell? ⟨b, o + 3, none⟩ = some (.int .i64 x.f) ∧ w.cell? ⟨b, o + 4, none⟩ = some (.int .i64 x.m)
/-- n slots lie behind A. -/
def Slots (w : World) (A : Option Addr) (n : Nat) (X : Nat → Slot) : Prop := ∀ i, i < n → ∃ b off, A = some ⟨b, off, none⟩ ∧ b < w.heap.size ∧ Cells5 w b (off + i * 5) (X i)
theorem Cells5.below {w w' : World} {b o : Nat} {x : Slot} (h : Cells5 w b o x) (hb : Below w.heap.size w w') (hlt : b < w.heap.size) : Cells5 w' b o x := by
  obtain ⟨h0, h1, h2, h3, h4⟩ := h
  exact ⟨by rw [hb.cell (by simpa using hlt)]; exact h0, by rw [hb.cell (by simpa using hlt)]; exact h1, by rw [hb.cell (by simpa using hlt)]; exact h2, by rw [hb.cell (by simpa using hlt)]; exact h3, by rw [hb.cell (by simpa using hlt)]; exact h4⟩
theorem Slots.below {w w' : World} {A : Option Addr} {n : Nat} {X : Nat → Slot} (h : Slots w A n X) (hb : Below w.heap.size w w') : Slots w' A n X := by
  intro i hi
  obtain ⟨b, off, rfl, hlt, hc⟩ := h i hi
  exact ⟨b, off, rfl, Nat.lt_of_lt_of_le hlt hb.size, hc.below hb hlt⟩
theorem Cells5.new (w : World) (x : Slot) (t : TypeId) : Cells5 (w.alloc (.cells #[.int .i64 x.o, .int .i64 x.d, .int .i64 x.s, .int .i64 x.f, .int .i64 x.m] t)) w.heap.size 0 x :=
  ⟨(Blk.new w _ _).cell 0, (Blk.new w _ _).cell 1, (Blk.new w _ _).cell 2, (Blk.new w _ _).cell 3, (Blk.new w _ _).cell 4⟩
end Go.Proofs.YticklgoegmobbaaDoor
