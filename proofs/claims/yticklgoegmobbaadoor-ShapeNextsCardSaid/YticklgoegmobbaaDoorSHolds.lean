/-
  Rows of truths that the call made; whether a place is told; where an instruction may go.
-/
import Derived.Test.YticklgoegmobbaaDoorSPlace
namespace Go.Proofs.YticklgoegmobbaaDoor
open Go Go.RowKit
set_option linter.unusedVariables false
set_option linter.unusedSimpArgs false
set_option maxRecDepth 100000
def rowB (n : Nat) (F : Nat → Bool) : Array Value := ((List.range n).map fun i => Value.bool (F i)).toArray
theorem rowB_get (n : Nat) (F : Nat → Bool) (i : Nat) (h : i < n) : (rowB n F)[i]? = some (.bool (F i)) := by simp [rowB, h]
theorem rowB_size (n : Nat) (F : Nat → Bool) : (rowB n F).size = n := by simp [rowB]
theorem rowB_set (n : Nat) (F : Nat → Bool) (i : Nat) (b : Bool) : (rowB n F).setIfInBounds i (.bool b) = rowB n (fun j => if j = i then b else F j) := by
  apply Array.ext_getElem?
  intro j
  rw [Array.getElem?_setIfInBounds]
  rcases Nat.lt_or_ge j n with hj | hj
  · rw [rowB_get n _ j hj]
    by_cases e : i = j
    · subst e
      rw [if_pos rfl, if_pos (by rw [rowB_size]; exact hj), rowB_get n _ i hj, if_pos rfl]
    · rw [if_neg e, rowB_get n _ j hj, if_neg (fun h => e h.symm)]
  · have h1 : (rowB n F)[j]? = none := Array.getElem?_eq_none (by rw [rowB_size]; exact hj)
    have h2 : (rowB n fun j => if j = i then b else F j)[j]? = none := Array.getElem?_eq_none (by rw [rowB_size]; exact hj)
    rw [h1, h2]
    split
    · split
      · rename_i h3 h4; rw [rowB_size] at h4; omega
      · rfl
    · rfl
theorem rowB_made (n : Nat) : madeCells (Value.bool false).cells (n * 1) = rowB n (fun _ => false) := by
  apply Array.ext_getElem?
  intro j
  rw [Nat.mul_one]
  rcases Nat.lt_or_ge j n with hj | hj
  · rw [rowB_get n _ j hj]
    simp [madeCells, hj, Value.cells, Nat.mod_one]
  · rw [Array.getElem?_eq_none (by rw [size_madeCells]; exact hj), Array.getElem?_eq_none (by rw [rowB_size]; exact hj)]
set_option maxHeartbeats 1000000 in
theorem holds_any (g n c : Nat) (F : Nat → Bool) (t : Int) (w : World) (h : Blk w g 4 (rowB n F)) :
    Calls Tryd.prog 25 #[.slice (some ⟨g, 0, none⟩) n c, .int .i64 t] w fun e w' => e = .returned (.bool (decide (0 ≤ t) && (decide (t < n) && F t.toNat))) ∧ w = w' := by
  cases h1 : decide (0 ≤ t)
  · clear h
    go_enter Tryd.func25, Tryd.ntmps25
    go_wp2_with fail
    go_ret
    exact ⟨rfl, rfl⟩
  · have h0 : 0 ≤ t := of_decide_eq_true h1
    clear h1
    obtain ⟨k, rfl⟩ := Int.eq_ofNat_of_zero_le h0
    have h1 : decide (0 ≤ (k : Int)) = true := by simp
    cases h2 : decide ((k : Int) < (n : Int))
    · have h4 : decide (k < n) = false := by simpa using h2
      clear h h0
      go_enter Tryd.func25, Tryd.ntmps25
      go_wp2_with fail
      go_ret
      exact ⟨rfl, rfl⟩
    · have h3 : (k : Int) < (n : Int) := of_decide_eq_true h2
      have h4 : decide (k < n) = true := by simpa using h2
      have hc : w.cell? ⟨g, k, none⟩ = some (.bool (F k)) := by rw [h.cell k]; exact rowB_get n F k (by omega)
      rw [show ((k : Int)).toNat = k from rfl]
      clear h
      go_enter Tryd.func25, Tryd.ntmps25
      go_wp2_with fail
      go_ret
      exact ⟨rfl, rfl⟩
end Go.Proofs.YticklgoegmobbaaDoor
