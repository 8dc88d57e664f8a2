/-
  Package insn's small functions, and the reference's: wide instructions.
-/
import Derived.Test.YtkopbjjpghbkoaaDoorILeaf
import Derived.Laws.Bits64b
namespace Go.Proofs.YtkopbjjpghbkoaaDoor
open Go Go.RowKit
set_option linter.unusedVariables false
set_option maxHeartbeats 2000000 in
theorem rsize_any (o d s f m : Int) (w : World) :
    Calls Tryd.prog 21 #[insV o d s f m] w fun e w' => e = .returned (.int .i64 (sizeV o)) ∧ Below w.heap.size w w' := by
  have cc := rclass_any o d s f m
  unfold insV at cc ⊢
  obtain ⟨e1, e2⟩ := tmod256 o
  have h3 := and_i64_3 (o % 256 / 8)
  rw [show o % 256 / 8 % 4 = o / 8 % 4 by omega] at h3
  have CC := Lib.hid cc
  clear cc
  by_cases hlo : o % 8 < 1
  · have g1 : decide (o % 8 < 1) = true := by simpa using hlo
    have e : sizeV o = 0 := by simp [sizeV, hlo]
    rw [e]
    go_enter Tryd.func21, Tryd.ntmps21
    go_wp2_with (go_at_call 19; refine (CC.out _).mono ?_; rintro e w1 ⟨rfl, hb⟩; have HB := Lib.hid hb; clear hb)
    go_ret
    exact ⟨rfl, ((Below.refl _ w).alloc (Nat.le_refl _) _).trans (HB.out.mono (by simp))⟩
  · by_cases hhi : 3 < o % 8
    · have g1 : decide (o % 8 < 1) = false := by simpa using hlo
      have g2 : decide (3 < o % 8) = true := by simpa using hhi
      have e : sizeV o = 0 := by simp [sizeV, hhi]
      rw [e]
      go_enter Tryd.func21, Tryd.ntmps21
      go_wp2_with (go_at_call 19; refine (CC.out _).mono ?_; rintro e w1 ⟨rfl, hb⟩; have HB := Lib.hid hb; clear hb)
      go_ret
      exact ⟨rfl, ((Below.refl _ w).alloc (Nat.le_refl _) _).trans (HB.out.mono (by simp))⟩
    · have g1 : decide (o % 8 < 1) = false := by simpa using hlo
      have g2 : decide (3 < o % 8) = false := by simpa using hhi
      have hq : (o / 8 % 4 = 0 ∧ sizeV o = 4) ∨ (o / 8 % 4 = 1 ∧ sizeV o = 2) ∨ (o / 8 % 4 = 2 ∧ sizeV o = 1) ∨ (o / 8 % 4 = 3 ∧ sizeV o = 8) := by
        have hh : ¬ (o % 8 < 1 ∨ 3 < o % 8) := by omega
        unfold sizeV
        rw [if_neg hh]
        split
        · omega
        · split
          · omega
          · split <;> omega
      rcases hq with ⟨q, e⟩ | ⟨q, e⟩ | ⟨q, e⟩ | ⟨q, e⟩
      all_goals
        rw [q] at h3
        rw [e]
        clear e q hlo hhi
        go_enter Tryd.func21, Tryd.ntmps21
        go_wp2_with (go_at_call 19; refine (CC.out _).mono ?_; rintro e w1 ⟨rfl, hb⟩; have o0 : w1.cell? ⟨w.heap.size, 0, none⟩ = some (.int .i64 o) := (hb.cell (p := ⟨w.heap.size, 0, none⟩) (by simp)).trans ((Blk.new w 37 #[.int .i64 o, .int .i64 d, .int .i64 s, .int .i64 f, .int .i64 m]).cell 0); have o1 : ∀ ob : Obj, (w1.alloc ob).cell? ⟨w.heap.size, 0, none⟩ = some (.int .i64 o) := (fun ob => (((Below.refl w1.heap.size w1).alloc (Nat.le_refl _) ob).cell (p := ⟨w.heap.size, 0, none⟩) (by have := hb.size; simp at this; simp; omega)).trans o0); have HB := Lib.hid hb; clear hb)
        go_ret
        exact ⟨rfl, (((Below.refl _ w).alloc (Nat.le_refl _) _).trans (HB.out.mono (by simp))).alloc (by have := HB.out.size; simp at this; omega) _⟩
theorem ret_u64 {a b : Int} (h : a = b) : Ending.returned (.int .u64 a) = .returned (.int .u64 b) := by rw [h]
/-- A wide instruction's number. -/
def wideN (m m' : Int) : Int := m % 4294967296 + m' % 4294967296 * 4294967296
theorem imm_any (o d s f m o' d' s' f' m' : Int) (w : World) :
    Calls Tryd.prog 16 #[insV o d s f m, insV o' d' s' f' m'] w fun e w' => e = .returned (.int .u64 (wideN m m')) ∧ Below w.heap.size w w' := by
  unfold insV
  have e0 : bits .or .u64 0 (m % 4294967296) = m % 4294967296 := by
    have := or_halves 0 0 (by omega) (by omega)
    obtain ⟨x, hx⟩ := Int.eq_ofNat_of_zero_le (show 0 ≤ m % 4294967296 by omega)
    rw [hx]
    have := bits_or_u64_nat 0 x (by omega) (by omega)
    rw [show ((0 : Nat) : Int) = 0 from rfl, Nat.zero_or] at this
    exact this
  have e1 := or_halves (m % 4294967296) (m' % 4294967296) (by omega) (by omega)
  have x0 : ∀ w : World, (Instr.index 38 (.agg #[.int .i64 o, .int .i64 d, .int .i64 s, .int .i64 f, .int .i64 m, .int .i64 o', .int .i64 d', .int .i64 s', .int .i64 f', .int .i64 m']) (.int .i64 0)).run Tryd.prog w = .ok (.agg #[.int .i64 o, .int .i64 d, .int .i64 s, .int .i64 f, .int .i64 m]) w := fun w => by kernel_rfl
  have x1 : ∀ w : World, (Instr.index 38 (.agg #[.int .i64 o, .int .i64 d, .int .i64 s, .int .i64 f, .int .i64 m, .int .i64 o', .int .i64 d', .int .i64 s', .int .i64 f', .int .i64 m']) (.int .i64 1)).run Tryd.prog w = .ok (.agg #[.int .i64 o', .int .i64 d', .int .i64 s', .int .i64 f', .int .i64 m']) w := fun w => by kernel_rfl
  go_enter Tryd.func16, Tryd.ntmps16
  go_wp2_with fail
  have hb0 : Below w.heap.size w ((w.alloc (.cells #[.int .i64 o, .int .i64 d, .int .i64 s, .int .i64 f, .int .i64 m] 37)).alloc (.cells #[.int .i64 o', .int .i64 d', .int .i64 s', .int .i64 f', .int .i64 m'] 37)) := ((Below.refl _ w).alloc (Nat.le_refl _) _).alloc (by simp) _
  have HB0 := Lib.hid hb0
  clear hb0
  go_loopw [5, 11] (fun n i wr => Below w.heap.size w wr ∧ ((i = .int .i64 0 ∧ n = .int .u64 0) ∨ (i = .int .i64 1 ∧ n = .int .u64 (m % 4294967296)) ∨ (i = .int .i64 2 ∧ n = .int .u64 (wideN m m')))) (fun _ i _ => 2 - (intOf i).toNat)
  case atStart => exact ⟨HB0.out, .inl ⟨rfl, rfl⟩⟩
  case round =>
    obtain ⟨hb, hr⟩ := hrel
    have HB := Lib.hid hb
    have hsz := Lib.hid hb.size
    clear hb HB0
    rcases hr with ⟨rfl, rfl⟩ | ⟨rfl, rfl⟩ | ⟨rfl, rfl⟩
    · go_wp2_with fail
      go_roundw
      case rel => exact ⟨HB.out.alloc hsz.out _, .inr (.inl ⟨rfl, rfl⟩)⟩
      case measure => simp [intOf]
    · go_wp2_with fail
      go_roundw
      case rel => exact ⟨HB.out.alloc hsz.out _, .inr (.inr ⟨rfl, rfl⟩)⟩
      case measure => simp [intOf]
    · go_wp2_with fail
      go_ret
      exact ⟨rfl, HB.out⟩
theorem rimm_any (o d s f m o' d' s' f' m' : Int) (w : World) :
    Calls Tryd.prog 22 #[insV o d s f m, insV o' d' s' f' m'] w fun e w' => e = .returned (.int .u64 (wideN m m')) ∧ Below w.heap.size w w' := by
  have em : IntKind.u64.wrap (bits .and .u64 (IntKind.u64.wrap m) 4294967295 + IntKind.u64.wrap (IntKind.u64.wrap m' * 4294967296)) = wideN m m' := by
    unfold wideN
    simp only [IntKind.wrap_u64]
    rw [and_u64_low _ (by omega) (by omega)]
    omega
  have HEM := Lib.hid em
  clear em
  unfold insV
  go_enter Tryd.func22, Tryd.ntmps22
  go_wp2_with fail
  go_ret
  exact ⟨ret_u64 HEM.out, ((Below.refl _ w).alloc (Nat.le_refl _) _).alloc (by simp) _⟩
/-- The two slots of a number. -/
def layV (d n : Int) : Value := .agg #[.int .i64 24, .int .i64 d, .int .i64 0, .int .i64 0, .int .i64 (wrap32 n), .int .i64 0, .int .i64 0, .int .i64 0, .int .i64 0, .int .i64 (wrap32 (n / 4294967296))]
theorem wrap3264 (n : Int) : wrap64 (wrap32 n) = wrap32 n := by unfold wrap64 wrap32; omega
theorem rlay_any (d n : Int) (hn : 0 ≤ n ∧ n ≤ 18446744073709551615) (w : World) :
    Calls Tryd.prog 15 #[.int .i64 d, .int .u64 n] w fun e w' => e = .returned (layV d n) ∧ Below w.heap.size w w' := by
  have e1 := wrap3264 n
  have e2 := wrap3264 (n / 4294967296)
  unfold layV
  go_enter Tryd.func15, Tryd.ntmps15
  go_wp2_with fail
  exact bodyPost_ret (results_cell_row rfl _ _ w.heap.size 38 _ (0, 0) _ rfl (heap_alloc_new w _) Tryd.underlying38 rfl (by kernel_rfl)) rfl ⟨rfl, (Below.refl _ w).alloc (Nat.le_refl _) _⟩
end Go.Proofs.YtkopbjjpghbkoaaDoor
