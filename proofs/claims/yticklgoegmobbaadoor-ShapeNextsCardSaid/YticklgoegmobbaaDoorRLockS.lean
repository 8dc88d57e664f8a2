/-
  The reference's lines: what is done in one go.
-/
import Derived.Test.YticklgoegmobbaaDoorRMoves
namespace Go.Proofs.YticklgoegmobbaaDoor
open Go Go.RowKit
set_option linter.unusedVariables false
set_option linter.unusedSimpArgs false
set_option maxRecDepth 100000
theorem lk0_sz (s : Int) : ((({ data := #[43, 61, 32] } : ByteArray) ++ tx (regL [114] s))).size ≤ 15 := by
  have h := reg_sz s
  have h1 : ({ data := #[43, 61, 32] } : ByteArray).size = 3 := rfl
  rw [ByteArray.size_append, h1]
  omega
theorem lk1_sz (s : Int) : ((({ data := #[43, 61, 32] } : ByteArray) ++ tx (regL [114] s)) ++ ({ data := #[32, 102, 101, 116, 99, 104] } : ByteArray)).size ≤ 21 := by
  have h := reg_sz s
  have h1 : ({ data := #[43, 61, 32] } : ByteArray).size = 3 := rfl
  have h2 : ({ data := #[32, 102, 101, 116, 99, 104] } : ByteArray).size = 6 := rfl
  rw [ByteArray.size_append, ByteArray.size_append, h1, h2]
  omega
theorem lk64_sz (s : Int) : ((({ data := #[124, 61, 32] } : ByteArray) ++ tx (regL [114] s))).size ≤ 15 := by
  have h := reg_sz s
  have h1 : ({ data := #[124, 61, 32] } : ByteArray).size = 3 := rfl
  rw [ByteArray.size_append, h1]
  omega
theorem lk65_sz (s : Int) : ((({ data := #[124, 61, 32] } : ByteArray) ++ tx (regL [114] s)) ++ ({ data := #[32, 102, 101, 116, 99, 104] } : ByteArray)).size ≤ 21 := by
  have h := reg_sz s
  have h1 : ({ data := #[124, 61, 32] } : ByteArray).size = 3 := rfl
  have h2 : ({ data := #[32, 102, 101, 116, 99, 104] } : ByteArray).size = 6 := rfl
  rw [ByteArray.size_append, ByteArray.size_append, h1, h2]
  omega
theorem lk80_sz (s : Int) : ((({ data := #[38, 61, 32] } : ByteArray) ++ tx (regL [114] s))).size ≤ 15 := by
  have h := reg_sz s
  have h1 : ({ data := #[38, 61, 32] } : ByteArray).size = 3 := rfl
  rw [ByteArray.size_append, h1]
  omega
theorem lk81_sz (s : Int) : ((({ data := #[38, 61, 32] } : ByteArray) ++ tx (regL [114] s)) ++ ({ data := #[32, 102, 101, 116, 99, 104] } : ByteArray)).size ≤ 21 := by
  have h := reg_sz s
  have h1 : ({ data := #[38, 61, 32] } : ByteArray).size = 3 := rfl
  have h2 : ({ data := #[32, 102, 101, 116, 99, 104] } : ByteArray).size = 6 := rfl
  rw [ByteArray.size_append, ByteArray.size_append, h1, h2]
  omega
theorem lk160_sz (s : Int) : ((({ data := #[94, 61, 32] } : ByteArray) ++ tx (regL [114] s))).size ≤ 15 := by
  have h := reg_sz s
  have h1 : ({ data := #[94, 61, 32] } : ByteArray).size = 3 := rfl
  rw [ByteArray.size_append, h1]
  omega
theorem lk161_sz (s : Int) : ((({ data := #[94, 61, 32] } : ByteArray) ++ tx (regL [114] s)) ++ ({ data := #[32, 102, 101, 116, 99, 104] } : ByteArray)).size ≤ 21 := by
  have h := reg_sz s
  have h1 : ({ data := #[94, 61, 32] } : ByteArray).size = 3 := rfl
  have h2 : ({ data := #[32, 102, 101, 116, 99, 104] } : ByteArray).size = 6 := rfl
  rw [ByteArray.size_append, ByteArray.size_append, h1, h2]
  omega
theorem lk225_sz (s : Int) : ((({ data := #[120, 99, 104, 103, 32] } : ByteArray) ++ tx (regL [114] s))).size ≤ 17 := by
  have h := reg_sz s
  have h1 : ({ data := #[120, 99, 104, 103, 32] } : ByteArray).size = 5 := rfl
  rw [ByteArray.size_append, h1]
  omega
theorem lk241_sz (s : Int) : ((({ data := #[99, 109, 112, 120, 99, 104, 103, 32] } : ByteArray) ++ tx (regL [114] s))).size ≤ 20 := by
  have h := reg_sz s
  have h1 : ({ data := #[99, 109, 112, 120, 99, 104, 103, 32] } : ByteArray).size = 8 := rfl
  rw [ByteArray.size_append, h1]
  omega
end Go.Proofs.YticklgoegmobbaaDoor
