/-
  The library's sort: partialInsertionSortOrdered.
-/
import Derived.Test.YtomhflaofipccaaSortPartEq
namespace Go.Proofs.Ytomhflaofipccaa
open Go Go.RowKit Go.Maps
set_option linter.unusedVariables false

theorem ltN_true {x y : Nat} (h : x < y) : ltN x y = true := decide_eq_true h
theorem ltN_false {x y : Nat} (h : ¬ x < y) : ltN x y = false := decide_eq_false h
theorem shiftDown_on (d : Array Nat) (m : Nat) (h : 1 ≤ m) (hl : d[m]! < d[m - 1]!) : Sort.shiftDown ltN m d = Sort.shiftDown ltN (m - 1) (Sort.swp d m (m - 1)) := by
  obtain ⟨k, rfl⟩ : ∃ k, m = k + 1 := ⟨m - 1, by omega⟩
  have hl' : d[k + 1]! < d[k]! := hl
  rw [Sort.shiftDown, ltN_true hl']
  rfl
theorem shiftDown_stop (d : Array Nat) (m : Nat) (h : m < 1 ∨ ¬ d[m]! < d[m - 1]!) : Sort.shiftDown ltN m d = d := by
  rcases m with _ | k
  · rfl
  · rcases h with h | h
    · omega
    · have h' : ¬ d[k + 1]! < d[k]! := h
      rw [Sort.shiftDown, ltN_false h']
      rfl
theorem shiftUp_on (d : Array Nat) (m b : Nat) (h : m < b) (hl : d[m]! < d[m - 1]!) : Sort.shiftUp ltN b m d = Sort.shiftUp ltN b (m + 1) (Sort.swp d m (m - 1)) := by
  rw [Sort.shiftUp, if_pos h, ltN_true hl]
  rfl
theorem shiftUp_stop (d : Array Nat) (m b : Nat) (h : ¬ m < b ∨ ¬ d[m]! < d[m - 1]!) : Sort.shiftUp ltN b m d = d := by
  rw [Sort.shiftUp]
  split
  · rcases h with h | h
    · omega
    · rw [ltN_false h]; rfl
  · rfl
theorem scanSorted_on (d : Array Nat) (k b : Nat) (h : k < b) (hl : ¬ d[k]! < d[k - 1]!) : Sort.scanSorted ltN d b k = Sort.scanSorted ltN d b (k + 1) := by
  rw [Sort.scanSorted, if_pos]
  rw [ltN_false hl]; simpa using h
theorem scanSorted_stop (d : Array Nat) (k b : Nat) (h : ¬ k < b ∨ d[k]! < d[k - 1]!) : Sort.scanSorted ltN d b k = k := by
  rw [Sort.scanSorted, if_neg]
  rcases h with h | h
  · rw [Bool.and_eq_true]; rintro ⟨h1, _⟩; exact h (of_decide_eq_true h1)
  · rw [ltN_true h]; simp
theorem pis_done {d : Array Nat} {a b s i k : Nat} (hk : k = Sort.scanSorted ltN d b i) (h : k = b) : Sort.partialIns ltN a b (s + 1) i d = (d, true) := by
  subst hk; rw [Sort.partialIns]; exact if_pos h
theorem pis_short {d : Array Nat} {a b s i k : Nat} (hk : k = Sort.scanSorted ltN d b i) (h : k ≠ b) (h2 : b - a < 50) : Sort.partialIns ltN a b (s + 1) i d = (d, false) := by
  subst hk; rw [Sort.partialIns]; exact (if_neg h).trans (if_pos h2)
theorem pis_go {d X2 X3 : Array Nat} {a b s i k : Nat} (hk : k = Sort.scanSorted ltN d b i) (h : k ≠ b) (h2 : ¬ b - a < 50) (hX2 : X2 = if k - a ≥ 2 then Sort.shiftDown ltN (k - 1) (Sort.swp d k (k - 1)) else Sort.swp d k (k - 1)) (hX3 : X3 = if b - k ≥ 2 then Sort.shiftUp ltN b (k + 1) X2 else X2) :
    Sort.partialIns ltN a b (s + 1) i d = Sort.partialIns ltN a b s k X3 := by
  subst hk; subst hX3; subst hX2; rw [Sort.partialIns]; exact (if_neg h).trans (if_neg h2)
theorem size_shiftDown : ∀ (m : Nat) (d : Array Nat), (Sort.shiftDown ltN m d).size = d.size
  | 0, d => rfl
  | m + 1, d => by
    rw [Sort.shiftDown]
    split
    · rfl
    · rw [size_shiftDown m, size_swp]
theorem size_shiftUp (b : Nat) : ∀ (t m : Nat) (d : Array Nat), b - m ≤ t → (Sort.shiftUp ltN b m d).size = d.size
  | 0, m, d, h => by rw [Sort.shiftUp, if_neg (by omega)]
  | t + 1, m, d, h => by
    rw [Sort.shiftUp]
    split
    · split
      · rfl
      · rw [size_shiftUp b t (m + 1) _ (by omega), size_swp]
    · rfl
def PisPost (w0 : World) (g : Nat) (sp : List Value) (r : Array Nat × Bool) (e : Ending) (w' : World) : Prop := e = .returned (.bool r.2) ∧ SRow w0 w' g sp r.1
end Go.Proofs.Ytomhflaofipccaa
