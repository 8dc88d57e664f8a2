/-
  The reference's Alloc.
-/
import Derived.Test.YtomhflaofipccaaP7
namespace Go.Proofs.Ytomhflaofipccaa
open Go Go.RowKit Go.Maps
set_option linter.unusedVariables false
section
variable {w w1 w2 : World} {T : Nat → Prop} {bx made fail : Nat} {vs : Nat → Option RV} {rb gb : Nat → Nat} {lv : Value}
def putn (f : Nat → Nat) (n x : Nat) : Nat → Nat := fun m => if m = n then x else f m
theorem putn_same (f : Nat → Nat) (n x : Nat) : putn f n x n = x := by simp [putn]
theorem putn_other (f : Nat → Nat) {n m : Nat} (x : Nat) (h : m ≠ n) : putn f n x m = f m := by simp [putn, h]
/-- Where Alloc's new blocks stand. -/
abbrev A1 (w : World) (size : Nat) : World := w.alloc (.cells (Array.replicate size (Value.int .u8 0)) 5)
theorem rt2_u64' {a b c : Int} (h : a = b) : Ending.returned (.tuple #[.int .u64 a, .int .i64 c]) = .returned (.tuple #[.int .u64 b, .int .i64 c]) := by rw [h]
end
end Go.Proofs.Ytomhflaofipccaa
