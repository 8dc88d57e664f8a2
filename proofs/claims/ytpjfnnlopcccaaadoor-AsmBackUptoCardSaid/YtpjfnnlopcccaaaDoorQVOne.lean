/-
  Package asm, reading: a line of one slot.
-/
import Derived.Test.YtpjfnnlopcccaaaDoorQVWide
namespace Go.Proofs.YtpjfnnlopcccaaaDoor
open Go Go.RowKit Go.Maps
set_option linter.unusedVariables false
set_option linter.unusedSimpArgs false
set_option maxRecDepth 100000
/-- The slot that a line's words say, of at most eight words. -/
def oneR : List ByteArray → Option Slot
  | [a] => if sameT a exitT = true then some ⟨149, 0, 0, 0, 0⟩ else none
  | [a, x] => if sameT a callT = true then (immS x).map fun m => (⟨133, 0, 0, 0, m⟩ : Slot) else if sameT a gotoT = true then (furtherS x).map fun f => (⟨5, 0, 0, f, 0⟩ : Slot) else none
  | [a, m, c] => aluR a m c
  | [a, m, c, t] => turnR a m c t
  | [a, m, p0, p1, p2, p3] => if sameT a ifT = true then jumpR m p0 p1 p2 p3 else if sameT m eqT = true then loadR a p0 p1 p2 p3 else storeR a m p0 p1 p2 p3
  | [a, p0, p1, p2, p3, k, s] => if sameT a lockW = true then lockR p0 p1 p2 p3 k s none else none
  | [a, p0, p1, p2, p3, k, s, f] => if sameT a lockW = true then lockR p0 p1 p2 p3 k s (some f) else none
  | _ => none
theorem sameT_eq {a c : ByteArray} (h : sameT a c = true) : a = c := by
  unfold sameT at h
  have h := of_decide_eq_true h
  obtain ⟨a⟩ := a
  obtain ⟨c⟩ := c
  exact congrArg ByteArray.mk (Array.toList_inj.1 h)
/-- A line's first word is one of five that say what it is, or none of them. -/
theorem first_ways (a : ByteArray) :
    (sameT a exitT = true ∧ sameT a callT = false ∧ sameT a gotoT = false ∧ sameT a ifT = false ∧ sameT a lockW = false) ∨
    (sameT a exitT = false ∧ sameT a callT = true ∧ sameT a gotoT = false ∧ sameT a ifT = false ∧ sameT a lockW = false) ∨
    (sameT a exitT = false ∧ sameT a callT = false ∧ sameT a gotoT = true ∧ sameT a ifT = false ∧ sameT a lockW = false) ∨
    (sameT a exitT = false ∧ sameT a callT = false ∧ sameT a gotoT = false ∧ sameT a ifT = true ∧ sameT a lockW = false) ∨
    (sameT a exitT = false ∧ sameT a callT = false ∧ sameT a gotoT = false ∧ sameT a ifT = false ∧ sameT a lockW = true) ∨
    (sameT a exitT = false ∧ sameT a callT = false ∧ sameT a gotoT = false ∧ sameT a ifT = false ∧ sameT a lockW = false) := by
  rcases h1 : sameT a exitT with _ | _
  · rcases h2 : sameT a callT with _ | _
    · rcases h3 : sameT a gotoT with _ | _
      · rcases h4 : sameT a ifT with _ | _
        · rcases h5 : sameT a lockW with _ | _ <;> simp
        · rw [sameT_eq h4]; decide
      · rw [sameT_eq h3]; decide
    · rw [sameT_eq h2]; decide
  · rw [sameT_eq h1]; decide
end Go.Proofs.YtpjfnnlopcccaaaDoor
