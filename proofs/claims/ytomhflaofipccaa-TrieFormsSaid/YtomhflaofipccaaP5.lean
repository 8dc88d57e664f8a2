/-
  The library's sort: siftDownOrdered, heapSortOrdered. The library's sort: heapSortOrdered, reverseRangeOrdered. The library's sort: (*xorshift).Next, nextPowerOfTwo, breakPatternsOrdered (some permutation of its part, whichever).
-/
import Derived.Test.YtomhflaofipccaaSortPiv
import Derived.Test.YtomhflaofipccaaSortPis
import Derived.Sort.Lot0
import Derived.Laws.Bits64
import Derived.Laws.Bits64b
namespace Go.Proofs.Ytomhflaofipccaa
open Go Go.RowKit Go.Maps
set_option linter.unusedVariables false

theorem quiet_add_left {P : Program} {f : FuncId} {args : Array Value} {w : World} {a n : Nat} {v : Value}
    (h : Calls P f args (w.drewN (a + n)) fun e w' => e = .returned v ∧ w.drewN (a + n) = w') :
    Calls P f args (w.drewN (a + n)) fun e w'' => e = .returned v ∧ ∃ m, w'' = w.drewN (a + m) :=
  h.mono fun _ _ ⟨he, hm⟩ => ⟨he, n, hm.symm⟩
theorem siftDown_stop0 (hi f r : Nat) (d : Array Nat) (h : 2 * r + 1 ≥ hi) : Sort.siftDown ltN hi f r d = d := by
  rw [Sort.siftDown, dif_pos h]
theorem siftDown_hi (hi f r : Nat) (d : Array Nat) (h : ¬ 2 * r + 1 ≥ hi) (h1 : 2 * r + 1 + 1 < hi) (h2 : d[f + (2 * r + 1)]! < d[f + (2 * r + 1) + 1]!) :
    Sort.siftDown ltN hi f r d = if d[f + r]! < d[f + (2 * r + 1) + 1]! then Sort.siftDown ltN hi f (2 * r + 1 + 1) (Sort.swp d (f + r) (f + (2 * r + 1) + 1)) else d := by
  rw [Sort.siftDown, dif_neg h, if_pos (by rw [Bool.and_eq_true]; exact ⟨by simpa using h1, decide_eq_true h2⟩)]
  have e : f + (2 * r + 2) = f + (2 * r + 1) + 1 := by omega
  rw [e]
  by_cases h3 : d[f + r]! < d[f + (2 * r + 1) + 1]!
  · rw [if_pos h3, if_neg (by simp [ltN, h3]), dif_pos (by omega)]
  · rw [if_neg h3, if_pos (by simp [ltN]; omega)]
theorem siftDown_lo (hi f r : Nat) (d : Array Nat) (h : ¬ 2 * r + 1 ≥ hi) (h1 : ¬ (2 * r + 1 + 1 < hi ∧ d[f + (2 * r + 1)]! < d[f + (2 * r + 1) + 1]!)) :
    Sort.siftDown ltN hi f r d = if d[f + r]! < d[f + (2 * r + 1)]! then Sort.siftDown ltN hi f (2 * r + 1) (Sort.swp d (f + r) (f + (2 * r + 1))) else d := by
  rw [Sort.siftDown, dif_neg h, if_neg (by rw [Bool.and_eq_true]; rintro ⟨a, b⟩; exact h1 ⟨by simpa using a, of_decide_eq_true b⟩)]
  by_cases h3 : d[f + r]! < d[f + (2 * r + 1)]!
  · rw [if_pos h3, if_neg (by simp [ltN, h3])]
  · rw [if_neg h3, if_pos (by simp [ltN]; omega)]
/-- An index that is reckoned: what the walk wants to know of a sum. -/
def Idx (z : Int) (k n : Nat) : Prop := IntKind.i64.wrap z = z ∧ 0 ≤ z ∧ z < (n : Int) ∧ z.toNat = k
theorem Idx.mk' {z : Int} {k n : Nat} (h : z = (k : Int)) (hk : k < n) (hn : n ≤ 4611686018427387904) : Idx z k n := ⟨IntWalk.i64_in _ (by omega), by omega, by omega, by omega⟩
end Go.Proofs.Ytomhflaofipccaa
namespace Go.Proofs.Ytomhflaofipccaa
open Go Go.RowKit Go.Maps
set_option linter.unusedVariables false

theorem size_siftDown' (hi f : Nat) : ∀ (m r : Nat) (d : Array Nat), hi - r ≤ m → (Sort.siftDown ltN hi f r d).size = d.size
  | 0, r, d, h => by rw [siftDown_stop0 _ _ _ _ (by omega)]
  | m + 1, r, d, h => by
    by_cases h0 : 2 * r + 1 ≥ hi
    · rw [siftDown_stop0 _ _ _ _ h0]
    · by_cases h1 : 2 * r + 1 + 1 < hi ∧ d[f + (2 * r + 1)]! < d[f + (2 * r + 1) + 1]!
      · rw [siftDown_hi _ _ _ _ h0 h1.1 h1.2]
        split
        · rw [size_siftDown' hi f m _ _ (by omega), size_swp]
        · rfl
      · rw [siftDown_lo _ _ _ _ h0 h1]
        split
        · rw [size_siftDown' hi f m _ _ (by omega), size_swp]
        · rfl
theorem size_siftDown (hi f r : Nat) (d : Array Nat) : (Sort.siftDown ltN hi f r d).size = d.size := size_siftDown' hi f _ r d (Nat.le_refl _)
end Go.Proofs.Ytomhflaofipccaa
namespace Go.Proofs.Ytomhflaofipccaa
open Go Go.RowKit Go.Maps
set_option linter.unusedVariables false

theorem setCell_twice (w : World) (s : Nat) (v v' : Value) : (w.setCell ⟨s, 0, none⟩ v).setCell ⟨s, 0, none⟩ v' = w.setCell ⟨s, 0, none⟩ v' := by
  simp only [World.setCell]
  congr 1
  apply Array.ext_getElem?
  intro i
  simp only [Array.getElem?_modify]
  by_cases h : s = i
  · subst h
    simp only [if_true]
    rcases w.heap[s]? with _ | o
    · rfl
    · cases o <;> simp
  · simp [h]
theorem pow_bitLen : ∀ (t n : Nat), n ≤ t → 0 < n → n < 18446744073709551616 → 2 ^ Lib.bitLen n ≤ 2 * n
  | 0, n, h, h0, _ => by omega
  | t + 1, n, h, h0, h1 => by
    rw [Lib.bitLen_half n (by omega) (by omega), Nat.pow_add]
    by_cases h2 : n < 2
    · have : n = 1 := by omega
      subst this
      decide
    · have := pow_bitLen t (n / 2) (by omega) (by omega) (by omega)
      omega
def BrkPost (w0 : World) (g : Nat) (sp : List Value) (d : Array Nat) (a b : Nat) (e : Ending) (w' : World) : Prop :=
  e = .returned (.tuple #[]) ∧ ∃ d', Sort.PermIn a b d d' ∧ SRow w0 w' g sp d'
end Go.Proofs.Ytomhflaofipccaa
