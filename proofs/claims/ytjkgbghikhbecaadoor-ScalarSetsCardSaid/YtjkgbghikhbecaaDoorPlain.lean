/-
  Package alu's inner functions plain, part and meet: what each returns, for any arguments in range.
-/
import Derived.Test.YtjkgbghikhbecaaDoorLeaf
namespace Go.Proofs.YtjkgbghikhbecaaDoor
open Go.RowKit (wrap32 wrap64 Below)
set_option linter.unusedVariables false

theorem plain_add (wide signed : Bool) (a b : Int) (ha : 0 ≤ a) (ha' : a ≤ 18446744073709551615) (hb : 0 ≤ b) (hb' : b ≤ 18446744073709551615) (w : World) :
    Calls Tryd.prog 51 #[.int .i64 0, .bool wide, .bool signed, .int .u64 a, .int .u64 b] w fun e w' => e = .returned (.int .u64 ((a + b) % 18446744073709551616)) ∧ w = w' := by
  go_enter Tryd.func51, Tryd.ntmps51
  go_wp2
  go_ret
  exact ⟨ret_u64 (IntKind.wrap_u64 _), rfl⟩
theorem plain_sub (wide signed : Bool) (a b : Int) (ha : 0 ≤ a) (ha' : a ≤ 18446744073709551615) (hb : 0 ≤ b) (hb' : b ≤ 18446744073709551615) (w : World) :
    Calls Tryd.prog 51 #[.int .i64 16, .bool wide, .bool signed, .int .u64 a, .int .u64 b] w fun e w' => e = .returned (.int .u64 ((a - b) % 18446744073709551616)) ∧ w = w' := by
  go_enter Tryd.func51, Tryd.ntmps51
  go_wp2
  go_ret
  exact ⟨ret_u64 (IntKind.wrap_u64 _), rfl⟩
theorem plain_mul (wide signed : Bool) (a b : Int) (ha : 0 ≤ a) (ha' : a ≤ 18446744073709551615) (hb : 0 ≤ b) (hb' : b ≤ 18446744073709551615) (w : World) :
    Calls Tryd.prog 51 #[.int .i64 32, .bool wide, .bool signed, .int .u64 a, .int .u64 b] w fun e w' => e = .returned (.int .u64 ((a * b) % 18446744073709551616)) ∧ w = w' := by
  go_enter Tryd.func51, Tryd.ntmps51
  go_wp2
  go_ret
  exact ⟨ret_u64 (IntKind.wrap_u64 _), rfl⟩
theorem plain_or (wide signed : Bool) (a b : Int) (ha : 0 ≤ a) (ha' : a ≤ 18446744073709551615) (hb : 0 ≤ b) (hb' : b ≤ 18446744073709551615) (w : World) :
    Calls Tryd.prog 51 #[.int .i64 64, .bool wide, .bool signed, .int .u64 a, .int .u64 b] w fun e w' => e = .returned (.int .u64 (bits .or .u64 a b)) ∧ w = w' := by
  go_enter Tryd.func51, Tryd.ntmps51
  go_wp2
  go_ret
  exact ⟨rfl, rfl⟩
theorem plain_and (wide signed : Bool) (a b : Int) (ha : 0 ≤ a) (ha' : a ≤ 18446744073709551615) (hb : 0 ≤ b) (hb' : b ≤ 18446744073709551615) (w : World) :
    Calls Tryd.prog 51 #[.int .i64 80, .bool wide, .bool signed, .int .u64 a, .int .u64 b] w fun e w' => e = .returned (.int .u64 (bits .and .u64 a b)) ∧ w = w' := by
  go_enter Tryd.func51, Tryd.ntmps51
  go_wp2
  go_ret
  exact ⟨rfl, rfl⟩
theorem plain_xor (wide signed : Bool) (a b : Int) (ha : 0 ≤ a) (ha' : a ≤ 18446744073709551615) (hb : 0 ≤ b) (hb' : b ≤ 18446744073709551615) (w : World) :
    Calls Tryd.prog 51 #[.int .i64 160, .bool wide, .bool signed, .int .u64 a, .int .u64 b] w fun e w' => e = .returned (.int .u64 (bits .xor .u64 a b)) ∧ w = w' := by
  go_enter Tryd.func51, Tryd.ntmps51
  go_wp2
  go_ret
  exact ⟨rfl, rfl⟩
theorem plain_neg (wide signed : Bool) (a b : Int) (ha : 0 ≤ a) (ha' : a ≤ 18446744073709551615) (hb : 0 ≤ b) (hb' : b ≤ 18446744073709551615) (w : World) :
    Calls Tryd.prog 51 #[.int .i64 128, .bool wide, .bool signed, .int .u64 a, .int .u64 b] w fun e w' => e = .returned (.int .u64 ((-a) % 18446744073709551616)) ∧ w = w' := by
  go_enter Tryd.func51, Tryd.ntmps51
  go_wp2
  go_ret
  exact ⟨ret_u64 (IntKind.wrap_u64 _), rfl⟩
theorem plain_mov (wide signed : Bool) (a b : Int) (ha : 0 ≤ a) (ha' : a ≤ 18446744073709551615) (hb : 0 ≤ b) (hb' : b ≤ 18446744073709551615) (w : World) :
    Calls Tryd.prog 51 #[.int .i64 176, .bool wide, .bool signed, .int .u64 a, .int .u64 b] w fun e w' => e = .returned (.int .u64 b) ∧ w = w' := by
  go_enter Tryd.func51, Tryd.ntmps51
  go_wp2
  go_ret
  exact ⟨rfl, rfl⟩
theorem plain_shl (wide signed : Bool) (a b : Int) (ha : 0 ≤ a) (ha' : a ≤ 18446744073709551615) (hb : 0 ≤ b) (hb' : b ≤ 63) (w : World) :
    Calls Tryd.prog 51 #[.int .i64 96, .bool wide, .bool signed, .int .u64 a, .int .u64 b] w fun e w' => e = .returned (.int .u64 (a * 2 ^ b.toNat % 18446744073709551616)) ∧ w = w' := by
  go_enter Tryd.func51, Tryd.ntmps51
  go_wp2
  go_ret
  exact ⟨rfl, rfl⟩
theorem plain_shr (wide signed : Bool) (a b : Int) (ha : 0 ≤ a) (ha' : a ≤ 18446744073709551615) (hb : 0 ≤ b) (hb' : b ≤ 63) (w : World) :
    Calls Tryd.prog 51 #[.int .i64 112, .bool wide, .bool signed, .int .u64 a, .int .u64 b] w fun e w' => e = .returned (.int .u64 (a / 2 ^ b.toNat)) ∧ w = w' := by
  go_enter Tryd.func51, Tryd.ntmps51
  go_wp2
  go_ret
  exact ⟨rfl, rfl⟩
theorem plain_sar (wide signed : Bool) (a b : Int) (ha : 0 ≤ a) (ha' : a ≤ 18446744073709551615) (hb : 0 ≤ b) (hb' : b ≤ 63) (w : World) :
    Calls Tryd.prog 51 #[.int .i64 192, .bool wide, .bool signed, .int .u64 a, .int .u64 b] w fun e w' => e = .returned (.int .u64 (sgn wide a / 2 ^ b.toNat % 18446744073709551616)) ∧ w = w' := by
  go_enter Tryd.func51, Tryd.ntmps51
  go_wp2_with fail
  refine (sign_any _ _ ha ha' _).mono ?_
  rintro e w' ⟨rfl, rfl⟩
  go_wp2
  go_ret
  exact ⟨rfl, rfl⟩
theorem plain_div_u (wide : Bool) (a b : Int) (ha : 0 ≤ a) (ha' : a ≤ 18446744073709551615) (hb : 1 ≤ b) (hb' : b ≤ 18446744073709551615) (w : World) :
    Calls Tryd.prog 51 #[.int .i64 48, .bool wide, .bool false, .int .u64 a, .int .u64 b] w fun e w' => e = .returned (.int .u64 (a / b)) ∧ w = w' := by
  go_enter Tryd.func51, Tryd.ntmps51
  go_wp2_with fail
  refine (quotient_u _ _ _ ha ha' hb hb' _).mono ?_
  rintro e w' ⟨rfl, rfl⟩
  go_wp2
  go_ret
  exact ⟨rfl, rfl⟩
theorem plain_rest_u (wide : Bool) (a b : Int) (ha : 0 ≤ a) (ha' : a ≤ 18446744073709551615) (hb : 1 ≤ b) (hb' : b ≤ 18446744073709551615) (w : World) :
    Calls Tryd.prog 51 #[.int .i64 144, .bool wide, .bool false, .int .u64 a, .int .u64 b] w fun e w' => e = .returned (.int .u64 (a % b)) ∧ w = w' := by
  go_enter Tryd.func51, Tryd.ntmps51
  go_wp2_with fail
  refine (rest_u _ _ _ ha ha' hb hb' _).mono ?_
  rintro e w' ⟨rfl, rfl⟩
  go_wp2
  go_ret
  exact ⟨rfl, rfl⟩
theorem plain_div_s (wide : Bool) (a b : Int) (ha : 0 ≤ a) (ha' : a ≤ 18446744073709551615) (hb : 0 ≤ b) (hb' : b ≤ 18446744073709551615) (h0 : sgn wide b ≠ 0) (w : World) :
    Calls Tryd.prog 51 #[.int .i64 48, .bool wide, .bool true, .int .u64 a, .int .u64 b] w fun e w' => e = .returned (.int .u64 ((sgn wide a).tdiv (sgn wide b) % 18446744073709551616)) ∧ w = w' := by
  go_enter Tryd.func51, Tryd.ntmps51
  go_wp2_with fail
  refine (quotient_s _ _ _ ha ha' hb hb' h0 _).mono ?_
  rintro e w' ⟨rfl, rfl⟩
  go_wp2
  go_ret
  exact ⟨rfl, rfl⟩
theorem plain_rest_s (wide : Bool) (a b : Int) (ha : 0 ≤ a) (ha' : a ≤ 18446744073709551615) (hb : 0 ≤ b) (hb' : b ≤ 18446744073709551615) (h0 : sgn wide b ≠ 0) (w : World) :
    Calls Tryd.prog 51 #[.int .i64 144, .bool wide, .bool true, .int .u64 a, .int .u64 b] w fun e w' => e = .returned (.int .u64 ((sgn wide a).tmod (sgn wide b) % 18446744073709551616)) ∧ w = w' := by
  go_enter Tryd.func51, Tryd.ntmps51
  go_wp2_with fail
  refine (rest_s _ _ _ ha ha' hb hb' h0 _).mono ?_
  rintro e w' ⟨rfl, rfl⟩
  go_wp2
  go_ret
  exact ⟨rfl, rfl⟩
end Go.Proofs.YtjkgbghikhbecaaDoor
