/-
  Numbers alone, for layer 1: what masks, shifts, wraps, quotients and rests of 32 and of 64 bits are, as plain arithmetic on integers.
-/
import Derived.WalkKit
namespace Go.Proofs.YtjkgbghikhbecaaDoor
open Go.RowKit (wrap32 wrap64)
set_option linter.unusedVariables false

theorem ret_u64 {a b : Int} (h : a = b) : Ending.returned (.int .u64 a) = .returned (.int .u64 b) := by rw [h]
theorem ret_i64 {a b : Int} (h : a = b) : Ending.returned (.int .i64 a) = .returned (.int .i64 b) := by rw [h]
theorem ret_bool {a b : Bool} (h : a = b) : Ending.returned (.bool a) = .returned (.bool b) := by rw [h]

theorem and_low (a : Int) (h : 0 ≤ a) (h' : a ≤ 18446744073709551615) : bits .and .u64 a 4294967295 = a % 4294967296 := by
  rw [u64_and a _ h (by omega) (by decide) (by decide)]
  have := Nat.and_two_pow_sub_one_eq_mod a.toNat 32
  have e : (4294967295 : Int).toNat = 2 ^ 32 - 1 := by decide
  rw [e, this]
  omega
theorem and_all (a : Int) (h : 0 ≤ a) (h' : a ≤ 18446744073709551615) : bits .and .u64 a 18446744073709551615 = a := by
  rw [u64_and a _ h (by omega) (by decide) (by decide)]
  have := Nat.and_two_pow_sub_one_eq_mod a.toNat 64
  have e : (18446744073709551615 : Int).toNat = 2 ^ 64 - 1 := by decide
  rw [e, this]
  omega
theorem and_63 (a : Int) (h : 0 ≤ a) (h' : a ≤ 18446744073709551615) : bits .and .u64 a 63 = a % 64 := by
  rw [u64_and a _ h (by omega) (by decide) (by decide)]
  have := Nat.and_two_pow_sub_one_eq_mod a.toNat 6
  have e : (63 : Int).toNat = 2 ^ 6 - 1 := by decide
  rw [e, this]
  omega
theorem and_31 (a : Int) (h : 0 ≤ a) (h' : a ≤ 18446744073709551615) : bits .and .u64 a 31 = a % 32 := by
  rw [u64_and a _ h (by omega) (by decide) (by decide)]
  have := Nat.and_two_pow_sub_one_eq_mod a.toNat 5
  have e : (31 : Int).toNat = 2 ^ 5 - 1 := by decide
  rw [e, this]
  omega
theorem and_255 (a : Int) (h : 0 ≤ a) (h' : a ≤ 18446744073709551615) : bits .and .u64 a 255 = a % 256 := by
  rw [u64_and a _ h (by omega) (by decide) (by decide)]
  have := Nat.and_two_pow_sub_one_eq_mod a.toNat 8
  have e : (255 : Int).toNat = 2 ^ 8 - 1 := by decide
  rw [e, this]
  omega
theorem and_65535 (a : Int) (h : 0 ≤ a) (h' : a ≤ 18446744073709551615) : bits .and .u64 a 65535 = a % 65536 := by
  rw [u64_and a _ h (by omega) (by decide) (by decide)]
  have := Nat.and_two_pow_sub_one_eq_mod a.toNat 16
  have e : (65535 : Int).toNat = 2 ^ 16 - 1 := by decide
  rw [e, this]
  omega

/-- The bits that play a part: all of 64, or the lower 32. -/
def cut (wide : Bool) (n : Int) : Int := if wide then n % 18446744073709551616 else n % 4294967296
/-- The signed number of n's 64 bits, or of its lower 32. -/
def sgn (wide : Bool) (n : Int) : Int := if wide then wrap64 n else wrap32 n

theorem cut_lo (wide : Bool) (n : Int) : 0 ≤ cut wide n := by unfold cut; split <;> omega
theorem cut_hi (wide : Bool) (n : Int) : cut wide n ≤ 18446744073709551615 := by unfold cut; split <;> omega
theorem cut_f_hi (n : Int) : cut false n ≤ 4294967295 := by simp [cut]; omega
theorem cut_cut (wide : Bool) (n : Int) : cut wide (cut wide n) = cut wide n := by unfold cut; split <;> omega
theorem cut_t (a : Int) (h : 0 ≤ a) (h' : a ≤ 18446744073709551615) : cut true a = a := by simp [cut]; omega
theorem cut_f (a : Int) (h : 0 ≤ a) (h' : a ≤ 4294967295) : cut false a = a := by simp [cut]; omega
theorem cut_u64 (wide : Bool) (n : Int) : cut wide (n % 18446744073709551616) = cut wide n := by unfold cut; split <;> omega

/-- The mask of the bits that play a part. -/
def mask (wide : Bool) : Int := if wide then 18446744073709551615 else 4294967295
theorem and_mask (wide : Bool) (a : Int) (h : 0 ≤ a) (h' : a ≤ 18446744073709551615) : bits .and .u64 a (mask wide) = cut wide a := by
  cases wide
  · exact and_low a h h'
  · show bits .and .u64 a 18446744073709551615 = _
    rw [and_all a h h', cut_t a h h']

theorem wrap32_64 (a : Int) : wrap64 (wrap32 a) = wrap32 a := by unfold wrap64 wrap32; omega
theorem sgn_zero (wide : Bool) (b : Int) (h : b ≠ 0) (h1 : 0 ≤ b) (h2 : b ≤ mask wide) : sgn wide b ≠ 0 := by
  cases wide <;> simp [sgn, wrap64, wrap32, mask] at * <;> omega
theorem u64_wrap64 (x : Int) : IntKind.u64.wrap (wrap64 x) = x % 18446744073709551616 := by rw [IntKind.wrap_u64]; unfold wrap64; omega

/-- How far a shift goes: by the lowest six bits of b, or the lowest five. -/
def shc (wide : Bool) (b : Int) : Int := if wide then b % 64 else b % 32
theorem shc_lo (wide : Bool) (b : Int) : 0 ≤ shc wide b := by unfold shc; split <;> omega
theorem shc_hi (wide : Bool) (b : Int) : shc wide b ≤ 63 := by unfold shc; split <;> omega
theorem shc_cut (wide : Bool) (b : Int) : shc wide (cut wide b) = shc wide b := by unfold shc cut; split <;> omega

/-- An operation's plain answer for two numbers of which only the bits that play a part are left. -/
def opV (op : Int) (wide signed : Bool) (a b : Int) : Int :=
  if op = 0 then a + b
  else if op = 16 then a - b
  else if op = 32 then a * b
  else if op = 48 then (if b = 0 then 0 else if signed then (sgn wide a).tdiv (sgn wide b) else a / b)
  else if op = 64 then bits .or .u64 a b
  else if op = 80 then bits .and .u64 a b
  else if op = 96 then a * 2 ^ (shc wide b).toNat
  else if op = 112 then a / 2 ^ (shc wide b).toNat
  else if op = 128 then -a
  else if op = 144 then (if b = 0 then a else if signed then (sgn wide a).tmod (sgn wide b) else a % b)
  else if op = 160 then bits .xor .u64 a b
  else if op = 176 then b
  else sgn wide a / 2 ^ (shc wide b).toNat
/-- Is it an operation, and may it be of signed numbers where it is asked for so? -/
def binOk (op : Int) (signed : Bool) : Bool :=
  decide (0 ≤ op ∧ op ≤ 192 ∧ op % 16 = 0) && (!signed || decide (op = 48) || decide (op = 144))
def binV (op : Int) (wide signed : Bool) (a b : Int) : Int := if binOk op signed then cut wide (opV op wide signed (cut wide a) (cut wide b)) else 0
def binE (op : Int) (signed : Bool) : Int := if binOk op signed then 0 else 1
theorem binV_lo (op : Int) (wide signed : Bool) (a b : Int) : 0 ≤ binV op wide signed a b := by
  unfold binV; split
  · exact cut_lo _ _
  · omega
theorem binV_hi (op : Int) (wide signed : Bool) (a b : Int) : binV op wide signed a b ≤ 18446744073709551615 := by
  unfold binV; split
  · exact cut_hi _ _
  · omega

theorem bits_lo (o : BinOp) (a b : Int) (h : o = .or ∨ o = .and ∨ o = .xor) (ha : 0 ≤ a) (ha' : a ≤ 18446744073709551615) (hb : 0 ≤ b) (hb' : b ≤ 18446744073709551615) : 0 ≤ bits o .u64 a b := by
  rcases h with rfl | rfl | rfl
  · rw [u64_or a b ha (by omega) hb (by omega)]; omega
  · rw [u64_and a b ha (by omega) hb (by omega)]; omega
  · rw [u64_xor a b ha (by omega) hb (by omega)]; omega
theorem bits_hi (o : BinOp) (a b : Int) (h : o = .or ∨ o = .and ∨ o = .xor) (ha : 0 ≤ a) (ha' : a ≤ 18446744073709551615) (hb : 0 ≤ b) (hb' : b ≤ 18446744073709551615) : bits o .u64 a b ≤ 18446744073709551615 := by
  have h1 : a.toNat < 2 ^ 64 := by omega
  have h2 : b.toNat < 2 ^ 64 := by omega
  rcases h with rfl | rfl | rfl
  · rw [u64_or a b ha (by omega) hb (by omega)]; have := Nat.or_lt_two_pow h1 h2; omega
  · rw [u64_and a b ha (by omega) hb (by omega)]; have := Nat.and_lt_two_pow a.toNat h2; omega
  · rw [u64_xor a b ha (by omega) hb (by omega)]; have := Nat.xor_lt_two_pow h1 h2; omega
theorem shr_lo (a : Int) (k : Nat) (h : 0 ≤ a) : 0 ≤ a / 2 ^ k := Int.ediv_nonneg h (Int.le_of_lt (Int.pow_pos (by decide)))
theorem shr_hi (a : Int) (k : Nat) (h : 0 ≤ a) (h' : a ≤ 18446744073709551615) : a / 2 ^ k ≤ 18446744073709551615 := Int.le_trans (Int.ediv_le_self _ h) h'
end Go.Proofs.YtjkgbghikhbecaaDoor
