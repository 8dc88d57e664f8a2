/-
  The library's sort: partitionOrdered.
-/
import Derived.Test.YtomhflaofipccaaSortPiv
import Derived.Sort.LotC
namespace Go.Proofs.Ytomhflaofipccaa
open Go Go.RowKit Go.Maps
set_option linter.unusedVariables false

theorem scanUp_on (p : Nat → Bool) (d : Array Nat) (j i : Nat) (h : i ≤ j) (hp : p d[i]! = true) : Sort.scanUp p d j i = Sort.scanUp p d j (i + 1) := by
  rw [Sort.scanUp, if_pos (by rw [hp]; simpa using h)]
theorem scanUp_stop (p : Nat → Bool) (d : Array Nat) (j i : Nat) (h : ¬ i ≤ j ∨ p d[i]! = false) : Sort.scanUp p d j i = i := by
  rw [Sort.scanUp, if_neg]
  rcases h with h | h
  · rw [Bool.and_eq_true]; rintro ⟨h1, _⟩; exact h (of_decide_eq_true h1)
  · rw [h]; simp
theorem scanDown_on (p : Nat → Bool) (d : Array Nat) (i j : Nat) (h : i ≤ j) (h0 : 0 < j) (hp : p d[j]! = true) : Sort.scanDown p d i j = Sort.scanDown p d i (j - 1) := by
  obtain ⟨m, rfl⟩ : ∃ m, j = m + 1 := ⟨j - 1, by omega⟩
  rw [Sort.scanDown, if_pos (by rw [hp]; simpa using h)]
  rfl
theorem scanDown_stop (p : Nat → Bool) (d : Array Nat) (i j : Nat) (h : ¬ i ≤ j ∨ p d[j]! = false) : Sort.scanDown p d i j = j := by
  rcases j with _ | j
  · rfl
  · rw [Sort.scanDown, if_neg]
    rcases h with h | h
    · rw [Bool.and_eq_true]; rintro ⟨h1, _⟩; exact h (of_decide_eq_true h1)
    · rw [h]; simp
theorem part_first {d d1 : Array Nat} {a b pv i2 j2 : Nat} (hd : d1 = Sort.swp d a pv) (hi : i2 = Sort.scanUp (fun x => ltN x d1[a]!) d1 (b - 1) (a + 1)) (hj : j2 = Sort.scanDown (fun x => !ltN x d1[a]!) d1 i2 (b - 1)) :
    Sort.partition ltN d a b pv = if i2 > j2 then (j2, true, Sort.swp d1 j2 a) else ((Sort.partLoop ltN a (i2 + 1) (j2 - 1) (Sort.swp d1 i2 j2)).1, false, Sort.swp (Sort.partLoop ltN a (i2 + 1) (j2 - 1) (Sort.swp d1 i2 j2)).2 (Sort.partLoop ltN a (i2 + 1) (j2 - 1) (Sort.swp d1 i2 j2)).1 a) := by
  subst hd; subst hi; subst hj; rfl
theorem part_next {d : Array Nat} {a i j i2 j2 : Nat} (hi : i2 = Sort.scanUp (fun x => ltN x d[a]!) d j i) (hj : j2 = Sort.scanDown (fun x => !ltN x d[a]!) d i2 j) :
    Sort.partLoop ltN a i j d = if i2 > j2 then (j2, d) else Sort.partLoop ltN a (i2 + 1) (j2 - 1) (Sort.swp d i2 j2) := by
  subst hi; subst hj; rw [Sort.partLoop_eq]
theorem partEq_next {d : Array Nat} {a i j i2 j2 : Nat} (hi : i2 = Sort.scanUp (fun x => !ltN d[a]! x) d j i) (hj : j2 = Sort.scanDown (fun x => ltN d[a]! x) d i2 j) :
    Sort.partEqLoop ltN a i j d = if i2 > j2 then (i2, d) else Sort.partEqLoop ltN a (i2 + 1) (j2 - 1) (Sort.swp d i2 j2) := by
  subst hi; subst hj; rw [Sort.partEqLoop_eq]
def PartPost (w0 : World) (g : Nat) (sp : List Value) (r : Nat × Bool × Array Nat) (e : Ending) (w' : World) : Prop :=
  e = .returned (.tuple #[.int .i64 (r.1 : Int), .bool r.2.1]) ∧ SRow w0 w' g sp r.2.2
def PartEqPost (w0 : World) (g : Nat) (sp : List Value) (r : Nat × Array Nat) (e : Ending) (w' : World) : Prop :=
  e = .returned (.int .i64 (r.1 : Int)) ∧ SRow w0 w' g sp r.2
end Go.Proofs.Ytomhflaofipccaa
