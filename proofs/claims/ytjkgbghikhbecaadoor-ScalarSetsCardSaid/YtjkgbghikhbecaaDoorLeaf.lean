/-
  The leaves of package alu and of the document's answers for layer 1: what each of these small functions returns, for any arguments.
-/
import Derived.Test.YtjkgbghikhbecaaDoorArith
import Derived.Test.YtjkgbghikhbecaaDoorRows
import Derived.Below
import Derived.Lib.Hide
namespace Go.Proofs.YtjkgbghikhbecaaDoor
open Go.RowKit (wrap32 wrap64 Below)
set_option linter.unusedVariables false

theorem mask_any (wide : Bool) (w : World) : Calls Tryd.prog 48 #[.bool wide] w fun e w' => e = .returned (.int .u64 (mask wide)) ∧ w = w' := by
  cases wide
  · go_enter Tryd.func48, Tryd.ntmps48
    go_wp2
    go_ret
    exact ⟨rfl, rfl⟩
  · go_enter Tryd.func48, Tryd.ntmps48
    go_wp2
    go_ret
    exact ⟨rfl, rfl⟩
theorem sign_any (wide : Bool) (a : Int) (ha : 0 ≤ a) (hb : a ≤ 18446744073709551615) (w : World) : Calls Tryd.prog 60 #[.bool wide, .int .u64 a] w fun e w' => e = .returned (.int .i64 (sgn wide a)) ∧ w = w' := by
  cases wide
  · go_enter Tryd.func60, Tryd.ntmps60
    go_wp2
    go_ret
    exact ⟨ret_i64 (wrap32_64 a), rfl⟩
  · go_enter Tryd.func60, Tryd.ntmps60
    go_wp2
    go_ret
    exact ⟨rfl, rfl⟩
theorem quotient_u (wide : Bool) (a b : Int) (ha : 0 ≤ a) (ha' : a ≤ 18446744073709551615) (hb : 1 ≤ b) (hb' : b ≤ 18446744073709551615) (w : World) :
    Calls Tryd.prog 58 #[.bool wide, .bool false, .int .u64 a, .int .u64 b] w fun e w' => e = .returned (.int .u64 (a / b)) ∧ w = w' := by
  go_enter Tryd.func58, Tryd.ntmps58
  go_wp2
  go_ret
  exact ⟨rfl, rfl⟩
theorem rest_u (wide : Bool) (a b : Int) (ha : 0 ≤ a) (ha' : a ≤ 18446744073709551615) (hb : 1 ≤ b) (hb' : b ≤ 18446744073709551615) (w : World) :
    Calls Tryd.prog 59 #[.bool wide, .bool false, .int .u64 a, .int .u64 b] w fun e w' => e = .returned (.int .u64 (a % b)) ∧ w = w' := by
  go_enter Tryd.func59, Tryd.ntmps59
  go_wp2
  go_ret
  exact ⟨rfl, rfl⟩
theorem quotient_s (wide : Bool) (a b : Int) (ha : 0 ≤ a) (ha' : a ≤ 18446744073709551615) (hb : 0 ≤ b) (hb' : b ≤ 18446744073709551615) (h0 : sgn wide b ≠ 0) (w : World) :
    Calls Tryd.prog 58 #[.bool wide, .bool true, .int .u64 a, .int .u64 b] w fun e w' => e = .returned (.int .u64 ((sgn wide a).tdiv (sgn wide b) % 18446744073709551616)) ∧ w = w' := by
  go_enter Tryd.func58, Tryd.ntmps58
  go_wp2_with fail
  refine (sign_any _ _ ha ha' _).mono ?_
  rintro e w' ⟨rfl, rfl⟩
  go_wp2_with fail
  refine (sign_any _ _ hb hb' _).mono ?_
  rintro e w' ⟨rfl, rfl⟩
  go_wp2
  go_ret
  exact ⟨ret_u64 (u64_wrap64 _), rfl⟩
theorem rest_s (wide : Bool) (a b : Int) (ha : 0 ≤ a) (ha' : a ≤ 18446744073709551615) (hb : 0 ≤ b) (hb' : b ≤ 18446744073709551615) (h0 : sgn wide b ≠ 0) (w : World) :
    Calls Tryd.prog 59 #[.bool wide, .bool true, .int .u64 a, .int .u64 b] w fun e w' => e = .returned (.int .u64 ((sgn wide a).tmod (sgn wide b) % 18446744073709551616)) ∧ w = w' := by
  go_enter Tryd.func59, Tryd.ntmps59
  go_wp2_with fail
  refine (sign_any _ _ ha ha' _).mono ?_
  rintro e w' ⟨rfl, rfl⟩
  go_wp2_with fail
  refine (sign_any _ _ hb hb' _).mono ?_
  rintro e w' ⟨rfl, rfl⟩
  go_wp2
  go_ret
  exact ⟨ret_u64 (IntKind.wrap_u64 _), rfl⟩
end Go.Proofs.YtjkgbghikhbecaaDoor
