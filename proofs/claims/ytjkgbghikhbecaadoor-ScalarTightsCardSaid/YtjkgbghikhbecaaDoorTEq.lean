/-
  Two tnums compared.
-/
import Derived.Test.YtjkgbghikhbecaaDoorTRef2
import Derived.Maps.OwnSet
namespace Go.Proofs.YtjkgbghikhbecaaDoor
open Go Go.RowKit Go.Maps Tn
set_option linter.unusedVariables false
set_option linter.unusedSimpArgs false
set_option maxRecDepth 100000
theorem tn_eq (a b : TN) (w : World) : (binOp .eql tnT (tv a) (tv b)).run Tryd.prog w = .ok (.bool (decide (a = b))) w := by
  obtain ⟨v, m⟩ := a
  obtain ⟨p, q⟩ := b
  have key : ∀ c : Bool, decide (n64 v = n64 p ∧ n64 m = n64 q) = c → (binOp .eql tnT (tv (v, m)) (tv (p, q))).run Tryd.prog w = .ok (.bool c) w := by
    intro c hc
    go_simp
    rw [← hc]
    by_cases h1 : n64 v = n64 p
    · by_cases h2 : n64 m = n64 q
      · rw [if_pos h1, if_pos h2, decide_eq_true ⟨h1, h2⟩]
      · rw [if_pos h1, if_neg h2, decide_eq_false (fun h => h2 h.2)]
    · rw [if_neg h1, decide_eq_false (fun h => h1 h.1)]
  refine key _ ?_
  rw [decide_eq_decide, n64_inj, n64_inj, Prod.mk.injEq]
theorem tn_neq (a b : TN) (w : World) : (binOp .neq tnT (tv a) (tv b)).run Tryd.prog w = .ok (.bool (!decide (a = b))) w := by
  have h := tn_eq a b w
  rw [run_eql_struct] at h
  rw [run_neq_struct]
  revert h
  generalize (Op.equalIn 10000 tnT (tv a) (tv b)).run Tryd.prog w = r
  intro h
  cases r with
  | ok b w' =>
    simp only [Result.andThen_ok, Result.ok.injEq, Value.bool.injEq] at h ⊢
    exact ⟨by rw [h.1], h.2⟩
  | halt x w' => cases h
end Go.Proofs.YtjkgbghikhbecaaDoor
