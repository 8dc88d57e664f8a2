/-
  The document's own Bin for layer 1, walked: it returns the answer of the plain definition 'binV', and ErrArg just where 'binOk' says no.
-/
import Derived.Test.YthgfaajclghjhaaLeaf
namespace Go.Proofs.Ythgfaajclghjhaa
open Go.RowKit (wrap32 wrap64 Below Hid)
set_option linter.unusedVariables false

abbrev DivGives (rest signed wide : Bool) (a b : Int) (w : World) (r : Int) : Prop :=
  Calls Try.prog 39 #[.bool rest, .bool signed, .bool wide, .int .u64 a, .int .u64 b] w fun e w' => e = .returned (.int .u64 r) ∧ w = w'
theorem u64_i64_wrap (x : Int) : IntKind.u64.wrap (wrap64 x) = x % 18446744073709551616 := u64_wrap64 x
theorem div_z_t (signed wide : Bool) (a : Int) (w : World) : DivGives true signed wide a 0 w (a) := by
  go_enter Try.func39, Try.ntmps39
  go_wp2
  go_ret
  exact ⟨rfl, rfl⟩
theorem div_z_f (signed wide : Bool) (a : Int) (w : World) : DivGives false signed wide a 0 w (0) := by
  go_enter Try.func39, Try.ntmps39
  go_wp2
  go_ret
  exact ⟨rfl, rfl⟩
theorem div_u_t (wide : Bool) (a b : Int) (ha : 0 ≤ a) (ha' : a ≤ 18446744073709551615) (hb : 1 ≤ b) (hb' : b ≤ 18446744073709551615) (w : World) : DivGives true false wide a b w (a % b) := by
  go_enter Try.func39, Try.ntmps39
  go_wp2
  go_ret
  exact ⟨rfl, rfl⟩
theorem div_u_f (wide : Bool) (a b : Int) (ha : 0 ≤ a) (ha' : a ≤ 18446744073709551615) (hb : 1 ≤ b) (hb' : b ≤ 18446744073709551615) (w : World) : DivGives false false wide a b w (a / b) := by
  go_enter Try.func39, Try.ntmps39
  go_wp2
  go_ret
  exact ⟨rfl, rfl⟩
theorem div_m_tt (a b : Int) (ha : 0 ≤ a) (ha' : a ≤ 18446744073709551615) (hb : 1 ≤ b) (hb' : b ≤ 18446744073709551615) (hm : (wrap64 b == -1) = true) (w : World) : DivGives true true true a b w (0) := by
  go_enter Try.func39, Try.ntmps39
  go_wp2
  go_ret
  exact ⟨rfl, rfl⟩
theorem div_m_ft (a b : Int) (ha : 0 ≤ a) (ha' : a ≤ 18446744073709551615) (hb : 1 ≤ b) (hb' : b ≤ 18446744073709551615) (hm : (wrap64 b == -1) = true) (w : World) : DivGives false true true a b w ((-(wrap64 a)) % 18446744073709551616) := by
  go_enter Try.func39, Try.ntmps39
  go_wp2
  go_ret
  exact ⟨ret_u64 (u64_wrap64 _), rfl⟩
theorem div_s_tt (a b : Int) (ha : 0 ≤ a) (ha' : a ≤ 18446744073709551615) (hb : 1 ≤ b) (hb' : b ≤ 18446744073709551615) (h0 : wrap64 b ≠ 0) (hm : (wrap64 b == -1) = false) (w : World) : DivGives true true true a b w ((wrap64 a).tmod (wrap64 b) % 18446744073709551616) := by
  go_enter Try.func39, Try.ntmps39
  go_wp2
  go_ret
  exact ⟨ret_u64 (IntKind.wrap_u64 _), rfl⟩
theorem div_s_ft (a b : Int) (ha : 0 ≤ a) (ha' : a ≤ 18446744073709551615) (hb : 1 ≤ b) (hb' : b ≤ 18446744073709551615) (h0 : wrap64 b ≠ 0) (hm : (wrap64 b == -1) = false) (w : World) : DivGives false true true a b w ((wrap64 a).tdiv (wrap64 b) % 18446744073709551616) := by
  go_enter Try.func39, Try.ntmps39
  go_wp2
  go_ret
  exact ⟨ret_u64 (u64_wrap64 _), rfl⟩
theorem div_m_tf (a b : Int) (ha : 0 ≤ a) (ha' : a ≤ 18446744073709551615) (hb : 1 ≤ b) (hb' : b ≤ 18446744073709551615) (hm : (wrap64 (wrap32 b) == -1) = true) (w : World) : DivGives true true false a b w (0) := by
  go_enter Try.func39, Try.ntmps39
  go_wp2
  go_ret
  exact ⟨rfl, rfl⟩
theorem div_m_ff (a b : Int) (ha : 0 ≤ a) (ha' : a ≤ 18446744073709551615) (hb : 1 ≤ b) (hb' : b ≤ 18446744073709551615) (hm : (wrap64 (wrap32 b) == -1) = true) (w : World) : DivGives false true false a b w ((-(wrap64 (wrap32 a))) % 18446744073709551616) := by
  go_enter Try.func39, Try.ntmps39
  go_wp2
  go_ret
  exact ⟨ret_u64 (u64_wrap64 _), rfl⟩
theorem div_s_tf (a b : Int) (ha : 0 ≤ a) (ha' : a ≤ 18446744073709551615) (hb : 1 ≤ b) (hb' : b ≤ 18446744073709551615) (h0 : wrap64 (wrap32 b) ≠ 0) (hm : (wrap64 (wrap32 b) == -1) = false) (w : World) : DivGives true true false a b w ((wrap64 (wrap32 a)).tmod (wrap64 (wrap32 b)) % 18446744073709551616) := by
  go_enter Try.func39, Try.ntmps39
  go_wp2
  go_ret
  exact ⟨ret_u64 (IntKind.wrap_u64 _), rfl⟩
theorem div_s_ff (a b : Int) (ha : 0 ≤ a) (ha' : a ≤ 18446744073709551615) (hb : 1 ≤ b) (hb' : b ≤ 18446744073709551615) (h0 : wrap64 (wrap32 b) ≠ 0) (hm : (wrap64 (wrap32 b) == -1) = false) (w : World) : DivGives false true false a b w ((wrap64 (wrap32 a)).tdiv (wrap64 (wrap32 b)) % 18446744073709551616) := by
  go_enter Try.func39, Try.ntmps39
  go_wp2
  go_ret
  exact ⟨ret_u64 (u64_wrap64 _), rfl⟩
end Go.Proofs.Ythgfaajclghjhaa
