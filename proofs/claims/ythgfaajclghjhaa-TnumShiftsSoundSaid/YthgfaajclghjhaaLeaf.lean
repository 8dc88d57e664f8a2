/-
  The leaves of package alu and of the document's answers for layer 1: what each of these small functions returns, for any arguments.
-/
import Derived.Test.YthgfaajclghjhaaArith
import Derived.Test.YthgfaajclghjhaaRows
import Derived.Below
import Derived.Lib.Hide
namespace Go.Proofs.Ythgfaajclghjhaa
open Go.RowKit (wrap32 wrap64 Below)
set_option linter.unusedVariables false

theorem low_any (a : Int) (ha : 0 ≤ a) (hb : a ≤ 18446744073709551615) (w : World) : Calls Try.prog 38 #[.int .u64 a] w fun e w' => e = .returned (.int .u64 (cut false a)) ∧ w = w' := by
  go_enter Try.func38, Try.ntmps38
  go_wp2
  go_ret
  exact ⟨ret_u64 (and_low a ha hb), rfl⟩
end Go.Proofs.Ythgfaajclghjhaa
