/-
  The reference's lines: operations.
-/
import Derived.Test.YticklgoegmobbaaDoorRMoves
namespace Go.Proofs.YticklgoegmobbaaDoor
open Go Go.RowKit
set_option linter.unusedVariables false
set_option linter.unusedSimpArgs false
set_option maxRecDepth 100000
theorem regl1_sz (l : List UInt8) (h : l.length = 1) (n : Int) : (tx (regL l n)).size ≤ 12 := by rw [tx_size]; have := regL_len l n; omega
def lead7 (o : Int) : List UInt8 := if o % 8 == 7 then [114] else [119]
/-- An operation's sign. -/
def nameA : Nat → List UInt8
  | 0 => [43, 61] | 1 => [45, 61] | 2 => [42, 61] | 3 => [47, 61] | 4 => [124, 61] | 5 => [38, 61] | 6 => [60, 60, 61] | 7 => [62, 62, 61]
  | 9 => [37, 61] | 10 => [94, 61] | 11 => [61] | 12 => [115, 62, 62, 61] | _ => []
theorem nameA_sz (k : Nat) : (tx (nameA k)).size ≤ 4 := by
  rw [tx_size]
  unfold nameA
  split <;> simp
def opsA : Array Value := #[.string { data := #[43, 61] }, .string { data := #[45, 61] }, .string { data := #[42, 61] }, .string { data := #[47, 61] }, .string { data := #[124, 61] }, .string { data := #[38, 61] }, .string { data := #[60, 60, 61] }, .string { data := #[62, 62, 61] }, .string { data := #[] }, .string { data := #[37, 61] }, .string { data := #[94, 61] }, .string { data := #[61] }, .string { data := #[115, 62, 62, 61] }]
theorem opsA_get (k : Nat) (h : k < 13) : opsA[k]? = some (.string (tx (nameA k))) := by
  have : k = 0 ∨ k = 1 ∨ k = 2 ∨ k = 3 ∨ k = 4 ∨ k = 5 ∨ k = 6 ∨ k = 7 ∨ k = 8 ∨ k = 9 ∨ k = 10 ∨ k = 11 ∨ k = 12 := by omega
  rcases this with rfl | rfl | rfl | rfl | rfl | rfl | rfl | rfl | rfl | rfl | rfl | rfl | rfl <;> rfl
theorem ops_cell (k : Nat) (h : k < 13) (W : World) : (W.alloc (.cells opsA 9)).cell? ⟨W.heap.size, k, none⟩ = some (.string (tx (nameA k))) := ((Blk.new W _ _).cell k).trans (opsA_get k h)
def aluFin (o d : Int) (sign right : List UInt8) : List UInt8 := if decide (12 < bits .and .i64 o 240 / 16) then [] else regL (lead7 o) d ++ [32] ++ sign ++ nameA (bits .and .i64 o 240 / 16).toNat ++ [32] ++ right
def aluT (o d s f m : Int) : List UInt8 :=
  if !(regIn d && regIn s) then [] else
  if bits .and .i64 o 240 == 208 then endsL o d s f m else
  if bits .and .i64 o 240 == 128 then (if (bits .and .i64 o 8 == 0) && ((s == 0) && ((f == 0) && (m == 0))) then regL (lead7 o) d ++ [32, 61, 32, 45] ++ regL (lead7 o) d else []) else
  if bits .and .i64 o 8 == 0 then
    if (s == 0) && immIn m then
      (if f == 0 then aluFin o d [] (digL m) else if (f == 1) && ((bits .and .i64 o 240 == 48) || (bits .and .i64 o 240 == 144)) then aluFin o d [115] (digL m) else [])
    else []
  else
    if (m == 0) && immIn m then
      (if f == 0 then aluFin o d [] (regL (lead7 o) s) else if (f == 1) && ((bits .and .i64 o 240 == 48) || (bits .and .i64 o 240 == 144)) then aluFin o d [115] (regL (lead7 o) s)
      else if (bits .and .i64 o 240 == 176) && ((f == 8) || ((f == 16) || ((f == 32) && (o % 8 == 7)))) then aluFin o d [] ([40, 115] ++ digL f ++ [41] ++ regL (lead7 o) s) else [])
    else []
end Go.Proofs.YticklgoegmobbaaDoor
