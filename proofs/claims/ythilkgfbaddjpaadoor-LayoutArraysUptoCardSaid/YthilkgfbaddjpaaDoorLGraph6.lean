/-
  Layer 7, plainly: the walk over all types.
-/
import Derived.Test.YthilkgfbaddjpaaDoorLGraph5
namespace Go.Proofs.YthilkgfbaddjpaaDoor
set_option linter.unusedVariables false
set_option linter.unusedSimpArgs false
section
variable {E : Nat → List Nat} {N : Nat}
theorem tot_all : ∀ k, tot (allF E N k (start N))
  | 0 => rfl
  | k + 1 => tot_visit E (N + 1) (k + 1) _ (tot_all k)
theorem fuel_ok {s : WK} (h : Inv E N s) : unmet N s < N + 1 := by have := h.cnt; omega
theorem pot_all (hN6 : N ≤ 1000000) (hE : ∀ x, 1 ≤ x → x ≤ N → ∀ p ∈ E x, 1 ≤ p ∧ p ≤ N) : ∀ k, k ≤ N → pot E N (allF E N k (start N)) ≤ pot E N (start N)
  | 0, _ => Nat.le_refl _
  | k + 1, hk => by
    have hi := (all_spec hN6 hE k (by omega)).1
    exact Nat.le_trans (pot_visit hN6 hE (N + 1) (k + 1) _ hi (by omega) hk (fuel_ok hi)) (pot_all hN6 hE k (by omega))
end
end Go.Proofs.YthilkgfbaddjpaaDoor
