/-
  One of package shape and the reference's One, plainly: where there is a line.
-/
import Derived.Test.YticklgoegmobbaaDoorROne
import Derived.Test.YticklgoegmobbaaDoorSLeaf5
namespace Go.Proofs.YticklgoegmobbaaDoor
open Go Go.RowKit
set_option linter.unusedVariables false
set_option linter.unusedSimpArgs false
theorem isEmpty_app (a b : List UInt8) : (a ++ b).isEmpty = (a.isEmpty && b.isEmpty) := by cases a <;> simp
theorem regL_isEmpty (l : List UInt8) (n : Int) : (regL l n).isEmpty = !regIn n := by
  cases h : regIn n
  · rw [(regL_empty l n).2 h]; rfl
  · cases hr : regL l n with
    | nil => rw [(regL_empty l n).1 hr] at h; cases h
    | cons a t => rfl
theorem digL_isEmpty (n : Int) : (digL n).isEmpty = false := by
  have := digL_pos n
  cases h : digL n with
  | nil => rw [h] at this; simp at this
  | cons a t => rfl
/-- A text that begins with a register that is one is not empty. -/
theorem ends_empty (o d s f m : Int) : (endsL o d s f m).isEmpty = !(turnB o s f m) := by
  unfold endsL
  cases h : turnB o s f m
  · simp
  · simp
theorem lock_empty (s m : Int) : (lockW s m = []) ↔ (lockM m || lockF m) = false := by
  unfold lockW lockM lockF
  repeat' split
  all_goals simp_all
theorem moves_empty (o d s f m : Int) : (movesL o d s f m).isEmpty = !(moveOk d s f m && (if o % 8 == 1 then ((o / 32 == 4 && !(o == 153)) || o / 32 == 3) && (m == 0) else if o % 8 == 2 then (o / 32 == 3) && (s == 0) else ((o / 32 == 3) && (m == 0)) || (((o == 195) || (o == 219)) && (lockM m || lockF m)))) := by
  unfold movesL
  cases hm : moveOk d s f m
  · simp
  · have hd : regIn d = true := by unfold moveOk at hm; simp at hm; exact hm.1
    have hl := lock_empty s m
    cases h1 : (o % 8 == 1)
    · cases h2 : (o % 8 == 2)
      · cases h3 : (o / 32 == 3) <;> cases h4 : (m == 0) <;> cases h5 : (o == 195) <;> cases h6 : (o == 219) <;> cases h7 : (lockM m || lockF m) <;> rw [h7] at hl <;> simp [hl]
      · cases h3 : (o / 32 == 3) <;> cases h4 : (s == 0) <;> simp
    · cases h2 : (o / 32 == 4) <;> cases h3 : (o == 153) <;> cases h4 : (o / 32 == 3) <;> cases h5 : (m == 0) <;> simp [isEmpty_app, regL_isEmpty, hd]
theorem alu_empty (o d s f m : Int) : (aluT o d s f m).isEmpty = !((regIn d && regIn s) && (if bits .and .i64 o 240 == 208 then turnB o s f m else if bits .and .i64 o 240 == 128 then (bits .and .i64 o 8 == 0) && ((s == 0) && ((f == 0) && (m == 0))) else
    !decide (12 < bits .and .i64 o 240 / 16) && (if bits .and .i64 o 8 == 0 then ((s == 0) && immIn m) && ((f == 0) || ((f == 1) && ((bits .and .i64 o 240 == 48) || (bits .and .i64 o 240 == 144))))
      else ((m == 0) && immIn m) && ((f == 0) || (((f == 1) && ((bits .and .i64 o 240 == 48) || (bits .and .i64 o 240 == 144))) || ((bits .and .i64 o 240 == 176) && ((f == 8) || ((f == 16) || ((f == 32) && (o % 8 == 7)))))))))) := by
  unfold aluT aluFin
  cases hd : regIn d <;> cases hs : regIn s
  · simp
  · simp
  · simp
  · cases h1 : (bits .and .i64 o 240 == 208)
    · cases h2 : (bits .and .i64 o 240 == 128)
      · cases h3 : (bits .and .i64 o 8 == 0)
        · cases h5 : ((m == 0) && immIn m) <;> cases h6 : (f == 0) <;> cases h7 : ((f == 1) && ((bits .and .i64 o 240 == 48) || (bits .and .i64 o 240 == 144))) <;> cases h8 : ((bits .and .i64 o 240 == 176) && ((f == 8) || ((f == 16) || ((f == 32) && (o % 8 == 7))))) <;> cases h4 : decide (12 < bits .and .i64 o 240 / 16)
          all_goals simp only [Bool.true_and, Bool.and_true, Bool.false_and, Bool.and_false, Bool.not_true, Bool.not_false, Bool.or_true, Bool.true_or, Bool.false_or, Bool.or_false, if_true, if_false, Bool.false_eq_true, List.isEmpty_nil, isEmpty_app, regL_isEmpty, hd, reduceIte]
        · cases h5 : ((s == 0) && immIn m) <;> cases h6 : (f == 0) <;> cases h7 : ((f == 1) && ((bits .and .i64 o 240 == 48) || (bits .and .i64 o 240 == 144))) <;> cases h4 : decide (12 < bits .and .i64 o 240 / 16)
          all_goals simp only [Bool.true_and, Bool.and_true, Bool.false_and, Bool.and_false, Bool.not_true, Bool.not_false, Bool.or_true, Bool.true_or, Bool.false_or, Bool.or_false, if_true, if_false, Bool.false_eq_true, List.isEmpty_nil, isEmpty_app, regL_isEmpty, hd, reduceIte]
      · cases h3 : ((bits .and .i64 o 8 == 0) && ((s == 0) && ((f == 0) && (m == 0)))) <;> simp [isEmpty_app, regL_isEmpty, hd]
    · simp [ends_empty]
theorem jumps_empty (o d s f m : Int) : (jumpsL o d s f m).isEmpty = !((offIn f && immIn m) && (if o == 5 then (d == 0) && ((s == 0) && (m == 0)) else if o == 133 then (d == 0) && ((s == 0) && (f == 0)) else if o == 149 then (d == 0) && ((s == 0) && ((f == 0) && (m == 0)))
    else (!(nameJ (o / 16).toNat).isEmpty && ((regIn d && regIn s) && (if bits .and .i64 o 8 == 0 then s == 0 else m == 0))))) := by
  unfold jumpsL
  cases h0 : (offIn f && immIn m)
  · simp
  · cases h1 : (o == 5)
    · cases h2 : (o == 133)
      · cases h3 : (o == 149)
        · cases h4 : (nameJ (o / 16).toNat).isEmpty <;> cases h5 : (regIn d && regIn s) <;> cases h6 : (bits .and .i64 o 8 == 0) <;> cases h7 : (s == 0) <;> cases h8 : (m == 0)
          all_goals simp only [Bool.true_and, Bool.and_true, Bool.false_and, Bool.and_false, Bool.not_true, Bool.not_false, if_true, if_false, Bool.false_eq_true, List.isEmpty_nil, List.isEmpty_cons, List.cons_append, isEmpty_app, reduceIte]
        · cases h4 : ((d == 0) && ((s == 0) && ((f == 0) && (m == 0)))) <;> simp
      · cases h4 : ((d == 0) && ((s == 0) && (f == 0))) <;> simp
    · cases h4 : ((d == 0) && ((s == 0) && (m == 0))) <;> simp
theorem and8_all : ((List.range 256).all fun (n : Nat) => bits .and .i64 (n : Int) 8 == ((n / 8 % 2 * 8 : Nat) : Int)) = true := by kernel_rfl
theorem and8 {o : Int} (h : 0 ≤ o ∧ o ≤ 255) : bits .and .i64 o 8 = o / 8 % 2 * 8 := by
  obtain ⟨n, rfl⟩ := Int.eq_ofNat_of_zero_le h.1
  have := List.all_eq_true.1 and8_all n (List.mem_range.2 (by omega))
  rw [eq_of_beq this]
  omega
theorem and224_all : ((List.range 256).all fun (n : Nat) => bits .and .i64 (n : Int) 224 == ((n / 32 * 32 : Nat) : Int)) = true := by kernel_rfl
theorem and224 {o : Int} (h : 0 ≤ o ∧ o ≤ 255) : bits .and .i64 o 224 = o / 32 * 32 := by
  obtain ⟨n, rfl⟩ := Int.eq_ofNat_of_zero_le h.1
  have := List.all_eq_true.1 and224_all n (List.mem_range.2 (by omega))
  rw [eq_of_beq this]
  omega
end Go.Proofs.YticklgoegmobbaaDoor
