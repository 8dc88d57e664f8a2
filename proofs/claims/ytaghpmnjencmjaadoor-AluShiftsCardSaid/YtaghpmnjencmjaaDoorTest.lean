/-
  Package alu's Test and the document's own Test: for every op, of 64 and of 32 bits, and any two numbers both return the answer of the plain definition 'testV', and ErrArg just where 'testOk' says no.
-/
import Derived.Test.YtaghpmnjencmjaaDoorLeaf
namespace Go.Proofs.YtaghpmnjencmjaaDoor
open Go.RowKit (wrap32 wrap64 Below Hid)
set_option linter.unusedVariables false

/-- A condition of two numbers A and B, whose signed numbers are X and Y. -/
def tstV (op A B X Y : Int) : Bool :=
  if op = 16 then A == B
  else if op = 32 then decide (B < A)
  else if op = 48 then decide (B ≤ A)
  else if op = 64 then bits .and .u64 A B != 0
  else if op = 80 then A != B
  else if op = 96 then decide (Y < X)
  else if op = 112 then decide (Y ≤ X)
  else if op = 160 then decide (A < B)
  else if op = 176 then decide (A ≤ B)
  else if op = 192 then decide (X < Y)
  else decide (X ≤ Y)
def testOk (op : Int) : Bool := decide (op = 16 ∨ op = 32 ∨ op = 48 ∨ op = 64 ∨ op = 80 ∨ op = 96 ∨ op = 112 ∨ op = 160 ∨ op = 176 ∨ op = 192 ∨ op = 208)
def testV (op : Int) (wide : Bool) (a b : Int) : Bool := if testOk op then tstV op (cut wide a) (cut wide b) (sgn wide (cut wide a)) (sgn wide (cut wide b)) else false
def testE (op : Int) : Int := if testOk op then 0 else 1

abbrev TestGives (op : Int) (wide : Bool) (a b : Int) (w : World) (r : Bool) (err : Int) : Prop :=
  Calls Tryd.prog 18 #[.int .i64 op, .bool wide, .int .u64 a, .int .u64 b] w fun e w' => e = .returned (.tuple #[.bool r, .int .i64 err]) ∧ w = w'
abbrev RefTestGives (op : Int) (wide : Bool) (a b : Int) (w : World) (r : Bool) (err : Int) : Prop :=
  Calls Tryd.prog 19 #[.int .i64 op, .bool wide, .int .u64 a, .int .u64 b] w fun e w' => e = .returned (.tuple #[.bool r, .int .i64 err]) ∧ w = w'

theorem band_lo (wide : Bool) (a : Int) (ha : 0 ≤ a) (ha' : a ≤ 18446744073709551615) : 0 ≤ bits .and .u64 a (mask wide) := by rw [and_mask wide a ha ha']; exact cut_lo _ _
theorem band_hi (wide : Bool) (a : Int) (ha : 0 ≤ a) (ha' : a ≤ 18446744073709551615) : bits .and .u64 a (mask wide) ≤ 18446744073709551615 := by rw [and_mask wide a ha ha']; exact cut_hi _ _
theorem at_16 (wide : Bool) (a b : Int) (ha : 0 ≤ a) (ha' : a ≤ 18446744073709551615) (hb : 0 ≤ b) (hb' : b ≤ 18446744073709551615) (w : World) : TestGives 16 wide a b w (tstV 16 (bits .and .u64 a (mask wide)) (bits .and .u64 b (mask wide)) (sgn wide (bits .and .u64 a (mask wide))) (sgn wide (bits .and .u64 b (mask wide)))) 0 := by
  go_enter Tryd.func18, Tryd.ntmps18
  go_wp2_with fail
  refine (mask_any _ _).mono ?_
  rintro e w' ⟨rfl, rfl⟩
  go_wp2_with fail
  refine (mask_any _ _).mono ?_
  rintro e w' ⟨rfl, rfl⟩
  go_wp2_with fail
  refine (sign_any _ _ (band_lo _ _ ha ha') (band_hi _ _ ha ha') _).mono ?_
  rintro e w' ⟨rfl, rfl⟩
  go_wp2_with fail
  refine (sign_any _ _ (band_lo _ _ hb hb') (band_hi _ _ hb hb') _).mono ?_
  rintro e w' ⟨rfl, rfl⟩
  go_wp2
  go_ret2
  exact ⟨rfl, rfl⟩
theorem at_32 (wide : Bool) (a b : Int) (ha : 0 ≤ a) (ha' : a ≤ 18446744073709551615) (hb : 0 ≤ b) (hb' : b ≤ 18446744073709551615) (w : World) : TestGives 32 wide a b w (tstV 32 (bits .and .u64 a (mask wide)) (bits .and .u64 b (mask wide)) (sgn wide (bits .and .u64 a (mask wide))) (sgn wide (bits .and .u64 b (mask wide)))) 0 := by
  go_enter Tryd.func18, Tryd.ntmps18
  go_wp2_with fail
  refine (mask_any _ _).mono ?_
  rintro e w' ⟨rfl, rfl⟩
  go_wp2_with fail
  refine (mask_any _ _).mono ?_
  rintro e w' ⟨rfl, rfl⟩
  go_wp2_with fail
  refine (sign_any _ _ (band_lo _ _ ha ha') (band_hi _ _ ha ha') _).mono ?_
  rintro e w' ⟨rfl, rfl⟩
  go_wp2_with fail
  refine (sign_any _ _ (band_lo _ _ hb hb') (band_hi _ _ hb hb') _).mono ?_
  rintro e w' ⟨rfl, rfl⟩
  go_wp2
  go_ret2
  exact ⟨rfl, rfl⟩
theorem at_48 (wide : Bool) (a b : Int) (ha : 0 ≤ a) (ha' : a ≤ 18446744073709551615) (hb : 0 ≤ b) (hb' : b ≤ 18446744073709551615) (w : World) : TestGives 48 wide a b w (tstV 48 (bits .and .u64 a (mask wide)) (bits .and .u64 b (mask wide)) (sgn wide (bits .and .u64 a (mask wide))) (sgn wide (bits .and .u64 b (mask wide)))) 0 := by
  go_enter Tryd.func18, Tryd.ntmps18
  go_wp2_with fail
  refine (mask_any _ _).mono ?_
  rintro e w' ⟨rfl, rfl⟩
  go_wp2_with fail
  refine (mask_any _ _).mono ?_
  rintro e w' ⟨rfl, rfl⟩
  go_wp2_with fail
  refine (sign_any _ _ (band_lo _ _ ha ha') (band_hi _ _ ha ha') _).mono ?_
  rintro e w' ⟨rfl, rfl⟩
  go_wp2_with fail
  refine (sign_any _ _ (band_lo _ _ hb hb') (band_hi _ _ hb hb') _).mono ?_
  rintro e w' ⟨rfl, rfl⟩
  go_wp2
  go_ret2
  exact ⟨rfl, rfl⟩
theorem at_64 (wide : Bool) (a b : Int) (ha : 0 ≤ a) (ha' : a ≤ 18446744073709551615) (hb : 0 ≤ b) (hb' : b ≤ 18446744073709551615) (w : World) : TestGives 64 wide a b w (tstV 64 (bits .and .u64 a (mask wide)) (bits .and .u64 b (mask wide)) (sgn wide (bits .and .u64 a (mask wide))) (sgn wide (bits .and .u64 b (mask wide)))) 0 := by
  go_enter Tryd.func18, Tryd.ntmps18
  go_wp2_with fail
  refine (mask_any _ _).mono ?_
  rintro e w' ⟨rfl, rfl⟩
  go_wp2_with fail
  refine (mask_any _ _).mono ?_
  rintro e w' ⟨rfl, rfl⟩
  go_wp2_with fail
  refine (sign_any _ _ (band_lo _ _ ha ha') (band_hi _ _ ha ha') _).mono ?_
  rintro e w' ⟨rfl, rfl⟩
  go_wp2_with fail
  refine (sign_any _ _ (band_lo _ _ hb hb') (band_hi _ _ hb hb') _).mono ?_
  rintro e w' ⟨rfl, rfl⟩
  go_wp2
  go_ret2
  exact ⟨rfl, rfl⟩
theorem at_80 (wide : Bool) (a b : Int) (ha : 0 ≤ a) (ha' : a ≤ 18446744073709551615) (hb : 0 ≤ b) (hb' : b ≤ 18446744073709551615) (w : World) : TestGives 80 wide a b w (tstV 80 (bits .and .u64 a (mask wide)) (bits .and .u64 b (mask wide)) (sgn wide (bits .and .u64 a (mask wide))) (sgn wide (bits .and .u64 b (mask wide)))) 0 := by
  go_enter Tryd.func18, Tryd.ntmps18
  go_wp2_with fail
  refine (mask_any _ _).mono ?_
  rintro e w' ⟨rfl, rfl⟩
  go_wp2_with fail
  refine (mask_any _ _).mono ?_
  rintro e w' ⟨rfl, rfl⟩
  go_wp2_with fail
  refine (sign_any _ _ (band_lo _ _ ha ha') (band_hi _ _ ha ha') _).mono ?_
  rintro e w' ⟨rfl, rfl⟩
  go_wp2_with fail
  refine (sign_any _ _ (band_lo _ _ hb hb') (band_hi _ _ hb hb') _).mono ?_
  rintro e w' ⟨rfl, rfl⟩
  go_wp2
  go_ret2
  exact ⟨rfl, rfl⟩
theorem at_96 (wide : Bool) (a b : Int) (ha : 0 ≤ a) (ha' : a ≤ 18446744073709551615) (hb : 0 ≤ b) (hb' : b ≤ 18446744073709551615) (w : World) : TestGives 96 wide a b w (tstV 96 (bits .and .u64 a (mask wide)) (bits .and .u64 b (mask wide)) (sgn wide (bits .and .u64 a (mask wide))) (sgn wide (bits .and .u64 b (mask wide)))) 0 := by
  go_enter Tryd.func18, Tryd.ntmps18
  go_wp2_with fail
  refine (mask_any _ _).mono ?_
  rintro e w' ⟨rfl, rfl⟩
  go_wp2_with fail
  refine (mask_any _ _).mono ?_
  rintro e w' ⟨rfl, rfl⟩
  go_wp2_with fail
  refine (sign_any _ _ (band_lo _ _ ha ha') (band_hi _ _ ha ha') _).mono ?_
  rintro e w' ⟨rfl, rfl⟩
  go_wp2_with fail
  refine (sign_any _ _ (band_lo _ _ hb hb') (band_hi _ _ hb hb') _).mono ?_
  rintro e w' ⟨rfl, rfl⟩
  go_wp2
  go_ret2
  exact ⟨rfl, rfl⟩
theorem at_112 (wide : Bool) (a b : Int) (ha : 0 ≤ a) (ha' : a ≤ 18446744073709551615) (hb : 0 ≤ b) (hb' : b ≤ 18446744073709551615) (w : World) : TestGives 112 wide a b w (tstV 112 (bits .and .u64 a (mask wide)) (bits .and .u64 b (mask wide)) (sgn wide (bits .and .u64 a (mask wide))) (sgn wide (bits .and .u64 b (mask wide)))) 0 := by
  go_enter Tryd.func18, Tryd.ntmps18
  go_wp2_with fail
  refine (mask_any _ _).mono ?_
  rintro e w' ⟨rfl, rfl⟩
  go_wp2_with fail
  refine (mask_any _ _).mono ?_
  rintro e w' ⟨rfl, rfl⟩
  go_wp2_with fail
  refine (sign_any _ _ (band_lo _ _ ha ha') (band_hi _ _ ha ha') _).mono ?_
  rintro e w' ⟨rfl, rfl⟩
  go_wp2_with fail
  refine (sign_any _ _ (band_lo _ _ hb hb') (band_hi _ _ hb hb') _).mono ?_
  rintro e w' ⟨rfl, rfl⟩
  go_wp2
  go_ret2
  exact ⟨rfl, rfl⟩
theorem at_160 (wide : Bool) (a b : Int) (ha : 0 ≤ a) (ha' : a ≤ 18446744073709551615) (hb : 0 ≤ b) (hb' : b ≤ 18446744073709551615) (w : World) : TestGives 160 wide a b w (tstV 160 (bits .and .u64 a (mask wide)) (bits .and .u64 b (mask wide)) (sgn wide (bits .and .u64 a (mask wide))) (sgn wide (bits .and .u64 b (mask wide)))) 0 := by
  go_enter Tryd.func18, Tryd.ntmps18
  go_wp2_with fail
  refine (mask_any _ _).mono ?_
  rintro e w' ⟨rfl, rfl⟩
  go_wp2_with fail
  refine (mask_any _ _).mono ?_
  rintro e w' ⟨rfl, rfl⟩
  go_wp2_with fail
  refine (sign_any _ _ (band_lo _ _ ha ha') (band_hi _ _ ha ha') _).mono ?_
  rintro e w' ⟨rfl, rfl⟩
  go_wp2_with fail
  refine (sign_any _ _ (band_lo _ _ hb hb') (band_hi _ _ hb hb') _).mono ?_
  rintro e w' ⟨rfl, rfl⟩
  go_wp2
  go_ret2
  exact ⟨rfl, rfl⟩
theorem at_176 (wide : Bool) (a b : Int) (ha : 0 ≤ a) (ha' : a ≤ 18446744073709551615) (hb : 0 ≤ b) (hb' : b ≤ 18446744073709551615) (w : World) : TestGives 176 wide a b w (tstV 176 (bits .and .u64 a (mask wide)) (bits .and .u64 b (mask wide)) (sgn wide (bits .and .u64 a (mask wide))) (sgn wide (bits .and .u64 b (mask wide)))) 0 := by
  go_enter Tryd.func18, Tryd.ntmps18
  go_wp2_with fail
  refine (mask_any _ _).mono ?_
  rintro e w' ⟨rfl, rfl⟩
  go_wp2_with fail
  refine (mask_any _ _).mono ?_
  rintro e w' ⟨rfl, rfl⟩
  go_wp2_with fail
  refine (sign_any _ _ (band_lo _ _ ha ha') (band_hi _ _ ha ha') _).mono ?_
  rintro e w' ⟨rfl, rfl⟩
  go_wp2_with fail
  refine (sign_any _ _ (band_lo _ _ hb hb') (band_hi _ _ hb hb') _).mono ?_
  rintro e w' ⟨rfl, rfl⟩
  go_wp2
  go_ret2
  exact ⟨rfl, rfl⟩
theorem at_192 (wide : Bool) (a b : Int) (ha : 0 ≤ a) (ha' : a ≤ 18446744073709551615) (hb : 0 ≤ b) (hb' : b ≤ 18446744073709551615) (w : World) : TestGives 192 wide a b w (tstV 192 (bits .and .u64 a (mask wide)) (bits .and .u64 b (mask wide)) (sgn wide (bits .and .u64 a (mask wide))) (sgn wide (bits .and .u64 b (mask wide)))) 0 := by
  go_enter Tryd.func18, Tryd.ntmps18
  go_wp2_with fail
  refine (mask_any _ _).mono ?_
  rintro e w' ⟨rfl, rfl⟩
  go_wp2_with fail
  refine (mask_any _ _).mono ?_
  rintro e w' ⟨rfl, rfl⟩
  go_wp2_with fail
  refine (sign_any _ _ (band_lo _ _ ha ha') (band_hi _ _ ha ha') _).mono ?_
  rintro e w' ⟨rfl, rfl⟩
  go_wp2_with fail
  refine (sign_any _ _ (band_lo _ _ hb hb') (band_hi _ _ hb hb') _).mono ?_
  rintro e w' ⟨rfl, rfl⟩
  go_wp2
  go_ret2
  exact ⟨rfl, rfl⟩
theorem at_208 (wide : Bool) (a b : Int) (ha : 0 ≤ a) (ha' : a ≤ 18446744073709551615) (hb : 0 ≤ b) (hb' : b ≤ 18446744073709551615) (w : World) : TestGives 208 wide a b w (tstV 208 (bits .and .u64 a (mask wide)) (bits .and .u64 b (mask wide)) (sgn wide (bits .and .u64 a (mask wide))) (sgn wide (bits .and .u64 b (mask wide)))) 0 := by
  go_enter Tryd.func18, Tryd.ntmps18
  go_wp2_with fail
  refine (mask_any _ _).mono ?_
  rintro e w' ⟨rfl, rfl⟩
  go_wp2_with fail
  refine (mask_any _ _).mono ?_
  rintro e w' ⟨rfl, rfl⟩
  go_wp2_with fail
  refine (sign_any _ _ (band_lo _ _ ha ha') (band_hi _ _ ha ha') _).mono ?_
  rintro e w' ⟨rfl, rfl⟩
  go_wp2_with fail
  refine (sign_any _ _ (band_lo _ _ hb hb') (band_hi _ _ hb hb') _).mono ?_
  rintro e w' ⟨rfl, rfl⟩
  go_wp2
  go_ret2
  exact ⟨rfl, rfl⟩
theorem at_no (op : Int) (h16 : (op == 16) = false) (h32 : (op == 32) = false) (h48 : (op == 48) = false) (h64 : (op == 64) = false) (h80 : (op == 80) = false) (h96 : (op == 96) = false) (h112 : (op == 112) = false) (h160 : (op == 160) = false) (h176 : (op == 176) = false) (h192 : (op == 192) = false) (h208 : (op == 208) = false) (wide : Bool) (a b : Int) (ha : 0 ≤ a) (ha' : a ≤ 18446744073709551615) (hb : 0 ≤ b) (hb' : b ≤ 18446744073709551615) (w : World) : TestGives op wide a b w false 1 := by
  go_enter Tryd.func18, Tryd.ntmps18
  go_wp2_with fail
  refine (mask_any _ _).mono ?_
  rintro e w' ⟨rfl, rfl⟩
  go_wp2_with fail
  refine (mask_any _ _).mono ?_
  rintro e w' ⟨rfl, rfl⟩
  go_wp2_with fail
  refine (sign_any _ _ (band_lo _ _ ha ha') (band_hi _ _ ha ha') _).mono ?_
  rintro e w' ⟨rfl, rfl⟩
  go_wp2_with fail
  refine (sign_any _ _ (band_lo _ _ hb hb') (band_hi _ _ hb hb') _).mono ?_
  rintro e w' ⟨rfl, rfl⟩
  go_wp2
  go_ret2
  exact ⟨rfl, rfl⟩
theorem dt_16 (a b : Int) (ha : 0 ≤ a) (ha' : a ≤ 18446744073709551615) (hb : 0 ≤ b) (hb' : b ≤ 18446744073709551615) (w : World) : RefTestGives 16 true a b w (tstV 16 a b (wrap64 a) (wrap64 b)) 0 := by
  go_enter Tryd.func19, Tryd.ntmps19
  go_wp2
  go_ret2
  exact ⟨rfl, rfl⟩
theorem df_16 (a b : Int) (ha : 0 ≤ a) (ha' : a ≤ 18446744073709551615) (hb : 0 ≤ b) (hb' : b ≤ 18446744073709551615) (w : World) : RefTestGives 16 false a b w (tstV 16 (cut false a) (cut false b) (wrap64 (wrap32 (cut false a))) (wrap64 (wrap32 (cut false b)))) 0 := by
  go_enter Tryd.func19, Tryd.ntmps19
  go_wp2_with fail
  refine (low_any _ ha ha' _).mono ?_
  rintro e w' ⟨rfl, rfl⟩
  go_wp2_with fail
  refine (low_any _ hb hb' _).mono ?_
  rintro e w' ⟨rfl, rfl⟩
  go_wp2
  go_ret2
  exact ⟨rfl, rfl⟩
theorem dt_32 (a b : Int) (ha : 0 ≤ a) (ha' : a ≤ 18446744073709551615) (hb : 0 ≤ b) (hb' : b ≤ 18446744073709551615) (w : World) : RefTestGives 32 true a b w (tstV 32 a b (wrap64 a) (wrap64 b)) 0 := by
  go_enter Tryd.func19, Tryd.ntmps19
  go_wp2
  go_ret2
  exact ⟨rfl, rfl⟩
theorem df_32 (a b : Int) (ha : 0 ≤ a) (ha' : a ≤ 18446744073709551615) (hb : 0 ≤ b) (hb' : b ≤ 18446744073709551615) (w : World) : RefTestGives 32 false a b w (tstV 32 (cut false a) (cut false b) (wrap64 (wrap32 (cut false a))) (wrap64 (wrap32 (cut false b)))) 0 := by
  go_enter Tryd.func19, Tryd.ntmps19
  go_wp2_with fail
  refine (low_any _ ha ha' _).mono ?_
  rintro e w' ⟨rfl, rfl⟩
  go_wp2_with fail
  refine (low_any _ hb hb' _).mono ?_
  rintro e w' ⟨rfl, rfl⟩
  go_wp2
  go_ret2
  exact ⟨rfl, rfl⟩
theorem dt_48 (a b : Int) (ha : 0 ≤ a) (ha' : a ≤ 18446744073709551615) (hb : 0 ≤ b) (hb' : b ≤ 18446744073709551615) (w : World) : RefTestGives 48 true a b w (tstV 48 a b (wrap64 a) (wrap64 b)) 0 := by
  go_enter Tryd.func19, Tryd.ntmps19
  go_wp2
  go_ret2
  exact ⟨rfl, rfl⟩
theorem df_48 (a b : Int) (ha : 0 ≤ a) (ha' : a ≤ 18446744073709551615) (hb : 0 ≤ b) (hb' : b ≤ 18446744073709551615) (w : World) : RefTestGives 48 false a b w (tstV 48 (cut false a) (cut false b) (wrap64 (wrap32 (cut false a))) (wrap64 (wrap32 (cut false b)))) 0 := by
  go_enter Tryd.func19, Tryd.ntmps19
  go_wp2_with fail
  refine (low_any _ ha ha' _).mono ?_
  rintro e w' ⟨rfl, rfl⟩
  go_wp2_with fail
  refine (low_any _ hb hb' _).mono ?_
  rintro e w' ⟨rfl, rfl⟩
  go_wp2
  go_ret2
  exact ⟨rfl, rfl⟩
theorem dt_64 (a b : Int) (ha : 0 ≤ a) (ha' : a ≤ 18446744073709551615) (hb : 0 ≤ b) (hb' : b ≤ 18446744073709551615) (w : World) : RefTestGives 64 true a b w (tstV 64 a b (wrap64 a) (wrap64 b)) 0 := by
  go_enter Tryd.func19, Tryd.ntmps19
  go_wp2
  go_ret2
  exact ⟨rfl, rfl⟩
theorem df_64 (a b : Int) (ha : 0 ≤ a) (ha' : a ≤ 18446744073709551615) (hb : 0 ≤ b) (hb' : b ≤ 18446744073709551615) (w : World) : RefTestGives 64 false a b w (tstV 64 (cut false a) (cut false b) (wrap64 (wrap32 (cut false a))) (wrap64 (wrap32 (cut false b)))) 0 := by
  go_enter Tryd.func19, Tryd.ntmps19
  go_wp2_with fail
  refine (low_any _ ha ha' _).mono ?_
  rintro e w' ⟨rfl, rfl⟩
  go_wp2_with fail
  refine (low_any _ hb hb' _).mono ?_
  rintro e w' ⟨rfl, rfl⟩
  go_wp2
  go_ret2
  exact ⟨rfl, rfl⟩
theorem dt_80 (a b : Int) (ha : 0 ≤ a) (ha' : a ≤ 18446744073709551615) (hb : 0 ≤ b) (hb' : b ≤ 18446744073709551615) (w : World) : RefTestGives 80 true a b w (tstV 80 a b (wrap64 a) (wrap64 b)) 0 := by
  go_enter Tryd.func19, Tryd.ntmps19
  go_wp2
  go_ret2
  exact ⟨rfl, rfl⟩
theorem df_80 (a b : Int) (ha : 0 ≤ a) (ha' : a ≤ 18446744073709551615) (hb : 0 ≤ b) (hb' : b ≤ 18446744073709551615) (w : World) : RefTestGives 80 false a b w (tstV 80 (cut false a) (cut false b) (wrap64 (wrap32 (cut false a))) (wrap64 (wrap32 (cut false b)))) 0 := by
  go_enter Tryd.func19, Tryd.ntmps19
  go_wp2_with fail
  refine (low_any _ ha ha' _).mono ?_
  rintro e w' ⟨rfl, rfl⟩
  go_wp2_with fail
  refine (low_any _ hb hb' _).mono ?_
  rintro e w' ⟨rfl, rfl⟩
  go_wp2
  go_ret2
  exact ⟨rfl, rfl⟩
theorem dt_96 (a b : Int) (ha : 0 ≤ a) (ha' : a ≤ 18446744073709551615) (hb : 0 ≤ b) (hb' : b ≤ 18446744073709551615) (w : World) : RefTestGives 96 true a b w (tstV 96 a b (wrap64 a) (wrap64 b)) 0 := by
  go_enter Tryd.func19, Tryd.ntmps19
  go_wp2
  go_ret2
  exact ⟨rfl, rfl⟩
theorem df_96 (a b : Int) (ha : 0 ≤ a) (ha' : a ≤ 18446744073709551615) (hb : 0 ≤ b) (hb' : b ≤ 18446744073709551615) (w : World) : RefTestGives 96 false a b w (tstV 96 (cut false a) (cut false b) (wrap64 (wrap32 (cut false a))) (wrap64 (wrap32 (cut false b)))) 0 := by
  go_enter Tryd.func19, Tryd.ntmps19
  go_wp2_with fail
  refine (low_any _ ha ha' _).mono ?_
  rintro e w' ⟨rfl, rfl⟩
  go_wp2_with fail
  refine (low_any _ hb hb' _).mono ?_
  rintro e w' ⟨rfl, rfl⟩
  go_wp2
  go_ret2
  exact ⟨rfl, rfl⟩
theorem dt_112 (a b : Int) (ha : 0 ≤ a) (ha' : a ≤ 18446744073709551615) (hb : 0 ≤ b) (hb' : b ≤ 18446744073709551615) (w : World) : RefTestGives 112 true a b w (tstV 112 a b (wrap64 a) (wrap64 b)) 0 := by
  go_enter Tryd.func19, Tryd.ntmps19
  go_wp2
  go_ret2
  exact ⟨rfl, rfl⟩
theorem df_112 (a b : Int) (ha : 0 ≤ a) (ha' : a ≤ 18446744073709551615) (hb : 0 ≤ b) (hb' : b ≤ 18446744073709551615) (w : World) : RefTestGives 112 false a b w (tstV 112 (cut false a) (cut false b) (wrap64 (wrap32 (cut false a))) (wrap64 (wrap32 (cut false b)))) 0 := by
  go_enter Tryd.func19, Tryd.ntmps19
  go_wp2_with fail
  refine (low_any _ ha ha' _).mono ?_
  rintro e w' ⟨rfl, rfl⟩
  go_wp2_with fail
  refine (low_any _ hb hb' _).mono ?_
  rintro e w' ⟨rfl, rfl⟩
  go_wp2
  go_ret2
  exact ⟨rfl, rfl⟩
theorem dt_160 (a b : Int) (ha : 0 ≤ a) (ha' : a ≤ 18446744073709551615) (hb : 0 ≤ b) (hb' : b ≤ 18446744073709551615) (w : World) : RefTestGives 160 true a b w (tstV 160 a b (wrap64 a) (wrap64 b)) 0 := by
  go_enter Tryd.func19, Tryd.ntmps19
  go_wp2
  go_ret2
  exact ⟨rfl, rfl⟩
theorem df_160 (a b : Int) (ha : 0 ≤ a) (ha' : a ≤ 18446744073709551615) (hb : 0 ≤ b) (hb' : b ≤ 18446744073709551615) (w : World) : RefTestGives 160 false a b w (tstV 160 (cut false a) (cut false b) (wrap64 (wrap32 (cut false a))) (wrap64 (wrap32 (cut false b)))) 0 := by
  go_enter Tryd.func19, Tryd.ntmps19
  go_wp2_with fail
  refine (low_any _ ha ha' _).mono ?_
  rintro e w' ⟨rfl, rfl⟩
  go_wp2_with fail
  refine (low_any _ hb hb' _).mono ?_
  rintro e w' ⟨rfl, rfl⟩
  go_wp2
  go_ret2
  exact ⟨rfl, rfl⟩
theorem dt_176 (a b : Int) (ha : 0 ≤ a) (ha' : a ≤ 18446744073709551615) (hb : 0 ≤ b) (hb' : b ≤ 18446744073709551615) (w : World) : RefTestGives 176 true a b w (tstV 176 a b (wrap64 a) (wrap64 b)) 0 := by
  go_enter Tryd.func19, Tryd.ntmps19
  go_wp2
  go_ret2
  exact ⟨rfl, rfl⟩
theorem df_176 (a b : Int) (ha : 0 ≤ a) (ha' : a ≤ 18446744073709551615) (hb : 0 ≤ b) (hb' : b ≤ 18446744073709551615) (w : World) : RefTestGives 176 false a b w (tstV 176 (cut false a) (cut false b) (wrap64 (wrap32 (cut false a))) (wrap64 (wrap32 (cut false b)))) 0 := by
  go_enter Tryd.func19, Tryd.ntmps19
  go_wp2_with fail
  refine (low_any _ ha ha' _).mono ?_
  rintro e w' ⟨rfl, rfl⟩
  go_wp2_with fail
  refine (low_any _ hb hb' _).mono ?_
  rintro e w' ⟨rfl, rfl⟩
  go_wp2
  go_ret2
  exact ⟨rfl, rfl⟩
theorem dt_192 (a b : Int) (ha : 0 ≤ a) (ha' : a ≤ 18446744073709551615) (hb : 0 ≤ b) (hb' : b ≤ 18446744073709551615) (w : World) : RefTestGives 192 true a b w (tstV 192 a b (wrap64 a) (wrap64 b)) 0 := by
  go_enter Tryd.func19, Tryd.ntmps19
  go_wp2
  go_ret2
  exact ⟨rfl, rfl⟩
theorem df_192 (a b : Int) (ha : 0 ≤ a) (ha' : a ≤ 18446744073709551615) (hb : 0 ≤ b) (hb' : b ≤ 18446744073709551615) (w : World) : RefTestGives 192 false a b w (tstV 192 (cut false a) (cut false b) (wrap64 (wrap32 (cut false a))) (wrap64 (wrap32 (cut false b)))) 0 := by
  go_enter Tryd.func19, Tryd.ntmps19
  go_wp2_with fail
  refine (low_any _ ha ha' _).mono ?_
  rintro e w' ⟨rfl, rfl⟩
  go_wp2_with fail
  refine (low_any _ hb hb' _).mono ?_
  rintro e w' ⟨rfl, rfl⟩
  go_wp2
  go_ret2
  exact ⟨rfl, rfl⟩
theorem dt_208 (a b : Int) (ha : 0 ≤ a) (ha' : a ≤ 18446744073709551615) (hb : 0 ≤ b) (hb' : b ≤ 18446744073709551615) (w : World) : RefTestGives 208 true a b w (tstV 208 a b (wrap64 a) (wrap64 b)) 0 := by
  go_enter Tryd.func19, Tryd.ntmps19
  go_wp2
  go_ret2
  exact ⟨rfl, rfl⟩
theorem df_208 (a b : Int) (ha : 0 ≤ a) (ha' : a ≤ 18446744073709551615) (hb : 0 ≤ b) (hb' : b ≤ 18446744073709551615) (w : World) : RefTestGives 208 false a b w (tstV 208 (cut false a) (cut false b) (wrap64 (wrap32 (cut false a))) (wrap64 (wrap32 (cut false b)))) 0 := by
  go_enter Tryd.func19, Tryd.ntmps19
  go_wp2_with fail
  refine (low_any _ ha ha' _).mono ?_
  rintro e w' ⟨rfl, rfl⟩
  go_wp2_with fail
  refine (low_any _ hb hb' _).mono ?_
  rintro e w' ⟨rfl, rfl⟩
  go_wp2
  go_ret2
  exact ⟨rfl, rfl⟩
theorem dt_no (op : Int) (h16 : (op == 16) = false) (h32 : (op == 32) = false) (h48 : (op == 48) = false) (h64 : (op == 64) = false) (h80 : (op == 80) = false) (h96 : (op == 96) = false) (h112 : (op == 112) = false) (h160 : (op == 160) = false) (h176 : (op == 176) = false) (h192 : (op == 192) = false) (h208 : (op == 208) = false) (a b : Int) (ha : 0 ≤ a) (ha' : a ≤ 18446744073709551615) (hb : 0 ≤ b) (hb' : b ≤ 18446744073709551615) (w : World) : RefTestGives op true a b w false 1 := by
  go_enter Tryd.func19, Tryd.ntmps19
  go_wp2
  go_ret2
  exact ⟨rfl, rfl⟩
theorem df_no (op : Int) (h16 : (op == 16) = false) (h32 : (op == 32) = false) (h48 : (op == 48) = false) (h64 : (op == 64) = false) (h80 : (op == 80) = false) (h96 : (op == 96) = false) (h112 : (op == 112) = false) (h160 : (op == 160) = false) (h176 : (op == 176) = false) (h192 : (op == 192) = false) (h208 : (op == 208) = false) (a b : Int) (ha : 0 ≤ a) (ha' : a ≤ 18446744073709551615) (hb : 0 ≤ b) (hb' : b ≤ 18446744073709551615) (w : World) : RefTestGives op false a b w false 1 := by
  go_enter Tryd.func19, Tryd.ntmps19
  go_wp2_with fail
  refine (low_any _ ha ha' _).mono ?_
  rintro e w' ⟨rfl, rfl⟩
  go_wp2_with fail
  refine (low_any _ hb hb' _).mono ?_
  rintro e w' ⟨rfl, rfl⟩
  go_wp2
  go_ret2
  exact ⟨rfl, rfl⟩

section
variable (a b : Int) (ha : 0 ≤ a) (ha' : a ≤ 18446744073709551615) (hb : 0 ≤ b) (hb' : b ≤ 18446744073709551615) (w : World)
include ha ha' hb hb'
/-- ALL OF Test. -/
theorem test_any (op : Int) (wide : Bool) : TestGives op wide a b w (testV op wide a b) (testE op) := by
  by_cases hok : testOk op = true
  · rw [show testV op wide a b = tstV op (cut wide a) (cut wide b) (sgn wide (cut wide a)) (sgn wide (cut wide b)) by simp [testV, hok], show testE op = 0 by simp [testE, hok], ← and_mask wide a ha ha', ← and_mask wide b hb hb']
    have h : op = 16 ∨ op = 32 ∨ op = 48 ∨ op = 64 ∨ op = 80 ∨ op = 96 ∨ op = 112 ∨ op = 160 ∨ op = 176 ∨ op = 192 ∨ op = 208 := of_decide_eq_true hok
    rcases h with rfl | rfl | rfl | rfl | rfl | rfl | rfl | rfl | rfl | rfl | rfl
    · exact at_16 wide a b ha ha' hb hb' w
    · exact at_32 wide a b ha ha' hb hb' w
    · exact at_48 wide a b ha ha' hb hb' w
    · exact at_64 wide a b ha ha' hb hb' w
    · exact at_80 wide a b ha ha' hb hb' w
    · exact at_96 wide a b ha ha' hb hb' w
    · exact at_112 wide a b ha ha' hb hb' w
    · exact at_160 wide a b ha ha' hb hb' w
    · exact at_176 wide a b ha ha' hb hb' w
    · exact at_192 wide a b ha ha' hb hb' w
    · exact at_208 wide a b ha ha' hb hb' w
  · have hf : testOk op = false := by simpa using hok
    rw [show testV op wide a b = false by simp [testV, hf], show testE op = 1 by simp [testE, hf]]
    have h : ¬ (op = 16 ∨ op = 32 ∨ op = 48 ∨ op = 64 ∨ op = 80 ∨ op = 96 ∨ op = 112 ∨ op = 160 ∨ op = 176 ∨ op = 192 ∨ op = 208) := of_decide_eq_false hf
    have h16 : (op == 16) = false := by simp; omega
    have h32 : (op == 32) = false := by simp; omega
    have h48 : (op == 48) = false := by simp; omega
    have h64 : (op == 64) = false := by simp; omega
    have h80 : (op == 80) = false := by simp; omega
    have h96 : (op == 96) = false := by simp; omega
    have h112 : (op == 112) = false := by simp; omega
    have h160 : (op == 160) = false := by simp; omega
    have h176 : (op == 176) = false := by simp; omega
    have h192 : (op == 192) = false := by simp; omega
    have h208 : (op == 208) = false := by simp; omega
    exact at_no op h16 h32 h48 h64 h80 h96 h112 h160 h176 h192 h208 wide a b ha ha' hb hb' w
/-- ALL OF the document's Test. -/
theorem reftest_any (op : Int) (wide : Bool) : RefTestGives op wide a b w (testV op wide a b) (testE op) := by
  by_cases hok : testOk op = true
  · rw [show testV op wide a b = tstV op (cut wide a) (cut wide b) (sgn wide (cut wide a)) (sgn wide (cut wide b)) by simp [testV, hok], show testE op = 0 by simp [testE, hok]]
    have h : op = 16 ∨ op = 32 ∨ op = 48 ∨ op = 64 ∨ op = 80 ∨ op = 96 ∨ op = 112 ∨ op = 160 ∨ op = 176 ∨ op = 192 ∨ op = 208 := of_decide_eq_true hok
    have e1 : sgn false (cut false a) = wrap64 (wrap32 (cut false a)) := (wrap32_64 _).symm
    have e2 : sgn false (cut false b) = wrap64 (wrap32 (cut false b)) := (wrap32_64 _).symm
    have ca := cut_t a ha ha'
    have cb := cut_t b hb hb'
    cases wide
    · rw [e1, e2]
      rcases h with rfl | rfl | rfl | rfl | rfl | rfl | rfl | rfl | rfl | rfl | rfl
      · exact df_16 a b ha ha' hb hb' w
      · exact df_32 a b ha ha' hb hb' w
      · exact df_48 a b ha ha' hb hb' w
      · exact df_64 a b ha ha' hb hb' w
      · exact df_80 a b ha ha' hb hb' w
      · exact df_96 a b ha ha' hb hb' w
      · exact df_112 a b ha ha' hb hb' w
      · exact df_160 a b ha ha' hb hb' w
      · exact df_176 a b ha ha' hb hb' w
      · exact df_192 a b ha ha' hb hb' w
      · exact df_208 a b ha ha' hb hb' w
    · rw [ca, cb]
      rcases h with rfl | rfl | rfl | rfl | rfl | rfl | rfl | rfl | rfl | rfl | rfl
      · exact dt_16 a b ha ha' hb hb' w
      · exact dt_32 a b ha ha' hb hb' w
      · exact dt_48 a b ha ha' hb hb' w
      · exact dt_64 a b ha ha' hb hb' w
      · exact dt_80 a b ha ha' hb hb' w
      · exact dt_96 a b ha ha' hb hb' w
      · exact dt_112 a b ha ha' hb hb' w
      · exact dt_160 a b ha ha' hb hb' w
      · exact dt_176 a b ha ha' hb hb' w
      · exact dt_192 a b ha ha' hb hb' w
      · exact dt_208 a b ha ha' hb hb' w
  · have hf : testOk op = false := by simpa using hok
    rw [show testV op wide a b = false by simp [testV, hf], show testE op = 1 by simp [testE, hf]]
    have h : ¬ (op = 16 ∨ op = 32 ∨ op = 48 ∨ op = 64 ∨ op = 80 ∨ op = 96 ∨ op = 112 ∨ op = 160 ∨ op = 176 ∨ op = 192 ∨ op = 208) := of_decide_eq_false hf
    have h16 : (op == 16) = false := by simp; omega
    have h32 : (op == 32) = false := by simp; omega
    have h48 : (op == 48) = false := by simp; omega
    have h64 : (op == 64) = false := by simp; omega
    have h80 : (op == 80) = false := by simp; omega
    have h96 : (op == 96) = false := by simp; omega
    have h112 : (op == 112) = false := by simp; omega
    have h160 : (op == 160) = false := by simp; omega
    have h176 : (op == 176) = false := by simp; omega
    have h192 : (op == 192) = false := by simp; omega
    have h208 : (op == 208) = false := by simp; omega
    cases wide
    · exact df_no op h16 h32 h48 h64 h80 h96 h112 h160 h176 h192 h208 a b ha ha' hb hb' w
    · exact dt_no op h16 h32 h48 h64 h80 h96 h112 h160 h176 h192 h208 a b ha ha' hb hb' w
end
end Go.Proofs.YtaghpmnjencmjaaDoor
