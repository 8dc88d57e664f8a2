/-
  Which maps a list of slots names: plainly; the two lists of numbers, one by one.
-/
import Derived.Test.YticklgoegmobbaaDoorSPlace
import Derived.Test.YticklgoegmobbaaDoorSNext
import Derived.Maps.OwnSet
import Derived.Maps.AppendAt
import Derived.WalkKit
namespace Go.Proofs.YticklgoegmobbaaDoor
open Go Go.RowKit Go.Maps
set_option linter.unusedVariables false
set_option linter.unusedSimpArgs false
set_option maxRecDepth 100000
def stepM (acc : List Int) (x : Slot) : List Int := if x.o == 24 && (x.s == 1 && !acc.contains x.m) then acc ++ [x.m] else acc
/-- The numbers that the scan from the place k on still adds. -/
def restM (X : Nat → Slot) (n k : Nat) (acc : List Int) : List Int := if h : k < n then restM X n (k + slN (X k)) (stepM acc (X k)) else acc
  termination_by n - k
  decreasing_by unfold slN; split <;> omega
theorem restM_end {X : Nat → Slot} {n k : Nat} {acc : List Int} (h : ¬ k < n) : restM X n k acc = acc := by rw [restM]; simp [h]
theorem restM_step {X : Nat → Slot} {n k : Nat} {acc : List Int} (h : k < n) : restM X n k acc = restM X n (k + slN (X k)) (stepM acc (X k)) := by rw [restM]; simp [h]
def litI (x : Int) : Lit := .int .i64 x
theorem litI_key (x : Int) : WideAt.IsKeyLit (litI x) := by simp [WideAt.IsKeyLit, litI]
theorem same_lit (x y : Int) : (litI x).sameKey (litI y) = (x == y) := by
  by_cases h : x = y
  · subst h; simp [litI, Lit.sameKey]
  · rw [sameKey_ne (by simpa [litI] using h)]; simp [h]
def SdM (acc : List Int) : DataW Unit := setOf (.agg []) (acc.map litI)
theorem has_SdM (acc : List Int) (x : Int) : Maps.has (SdM acc) (.int .i64 x) = acc.contains x := by
  unfold SdM
  rw [show (Lit.int .i64 x) = litI x from rfl, has_setOf _ _ _ (by intro y hy; obtain ⟨z, _, rfl⟩ := List.mem_map.1 hy; exact litI_key z), List.any_map]
  rw [List.contains_eq_any_beq]
  congr 1
  funext y
  simp only [Function.comp, same_lit]
  first | rfl | exact BEq.comm
theorem SdM_snoc (acc : List Int) (x : Int) : SdM (acc ++ [x]) = (SdM acc).put (.int .i64 x) (.agg []) := by
  unfold SdM
  rw [List.map_append, List.map_cons, List.map_nil, setOf_snoc]
  rfl
theorem grown0_of {w w' : World} (hb : Below w.heap.size w w') : w.grownBy w' none := ⟨hb.os, hb.tape, hb.output, hb.size, fun i hi _ => hb.block i hi⟩
theorem stepM_len (acc : List Int) (x : Slot) : (stepM acc x).length ≤ acc.length + 1 := by unfold stepM; split <;> simp
end Go.Proofs.YticklgoegmobbaaDoor
