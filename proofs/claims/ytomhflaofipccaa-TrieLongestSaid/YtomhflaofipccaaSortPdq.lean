/-
  The library's sort: pdqsortOrdered and Sort: the row is permuted and rises.
-/
import Derived.Test.YtomhflaofipccaaP5
import Derived.Sort.LotD3
import Derived.Sort.LotB
import Derived.Sort.LotA
import Derived.Sort.LotD1
import Derived.Deep.Cut
import Derived.Deep.CutRange
import Derived.Deep.LoopGhost
namespace Go.Proofs.Ytomhflaofipccaa
open Go Go.RowKit Go.Maps
set_option linter.unusedVariables false

theorem swo_ltN : Sort.SWO ltN where
  irrefl x := by simp [ltN]
  trans x y z h1 h2 := by simp [ltN] at *; omega
  ntrans x y z h1 h2 := by simp [ltN] at *; omega
/-- Within [a', b') dk is still to be sorted; once that is done, [a, b) of d is. -/
structure PQ (n : Nat) (d : Array Nat) (a b a' b' : Nat) (dk : Array Nat) : Prop where
  size : dk.size = n
  ab : a' ≤ b'
  hi : b' ≤ n
  bel : Sort.Below ltN a' b' dk
  fin : ∀ R, Sort.PermIn a' b' dk R → Sort.SortedIn ltN a' b' R → Sort.PermIn a b d R ∧ Sort.SortedIn ltN a b R
theorem PQ.perm {n : Nat} {d dk dk' : Array Nat} {a b a' b' : Nat} (h : PQ n d a b a' b' dk) (hp : Sort.PermIn a' b' dk dk') : PQ n d a b a' b' dk' :=
  ⟨hp.1.trans h.size, h.ab, h.hi, h.bel.perm (by rw [h.size]; exact h.hi) hp, fun R h1 h2 => h.fin R (Sort.permIn_trans _ _ _ _ _ hp h1) h2⟩
def PdqPost (w0 : World) (g : Nat) (sp : List Value) (d : Array Nat) (a b : Nat) (e : Ending) (w' : World) : Prop :=
  e = .returned (.tuple #[]) ∧ ∃ d', Sort.PermIn a b d d' ∧ Sort.SortedIn ltN a b d' ∧ SRow w0 w' g sp d'
theorem PQ.done {n : Nat} {d dk dk' : Array Nat} {a b a' b' : Nat} {w0 w : World} {g : Nat} {sp : List Value} (h : PQ n d a b a' b' dk) (hp : Sort.PermIn a' b' dk dk' ∧ Sort.SortedIn ltN a' b' dk') (hr : SRow w0 w g sp dk') :
    PdqPost w0 g sp d a b (.returned (.tuple #[])) w := by
  obtain ⟨h1, h2⟩ := h.fin dk' hp.1 hp.2
  exact ⟨rfl, dk', h1, h2, hr⟩
theorem bitLen_le : ∀ (k n : Nat), n < 2 ^ k → k ≤ 64 → Lib.bitLen n ≤ k
  | 0, n, h, _ => by
    have : n = 0 := by simpa using h
    subst this
    decide
  | k + 1, n, h, h2 => by
    by_cases h0 : n = 0
    · subst h0; exact Nat.le_trans (by decide : Lib.bitLen 0 ≤ 0) (by omega)
    · have h64 : n < 2 ^ 64 := Nat.lt_of_lt_of_le h (Nat.pow_le_pow_right (by decide) h2)
      rw [Lib.bitLen_half n h0 h64]
      have := bitLen_le k (n / 2) (by rw [Nat.pow_succ] at h; omega) (by omega)
      omega
def SortPost (w0 : World) (g : Nat) (sp : List Value) (d : Array Nat) (e : Ending) (w' : World) : Prop :=
  e = .returned (.tuple #[]) ∧ ∃ d', d'.toList.Perm d.toList ∧ Sort.SortedIn ltN 0 d.size d' ∧ SRow w0 w' g sp d'
end Go.Proofs.Ytomhflaofipccaa
