/-
  Package alu's Extend and Cut and the document's own: for any number of bits and any number both return the plain definitions' answers 'extV' and 'cutV', and ErrArg elsewhere.
-/
import Derived.Test.YtaghpmnjencmjaaDoorLeaf
namespace Go.Proofs.YtaghpmnjencmjaaDoor
open Go.RowKit (wrap32 wrap64 Below Hid)
set_option linter.unusedVariables false

def cutV (bits n : Int) : Int := if bits = 16 then n % 65536 else if bits = 32 then n % 4294967296 else if bits = 64 then n else 0
def cutE (bits : Int) : Int := if bits = 16 ∨ bits = 32 ∨ bits = 64 then 0 else 1
def extOk (bits : Int) (wide : Bool) : Bool := decide (bits = 8 ∨ bits = 16 ∨ (bits = 32 ∧ wide = true))
def sx (bits n : Int) : Int := if bits = 8 then (n + 128) % 256 - 128 else if bits = 16 then (n + 32768) % 65536 - 32768 else (n + 2147483648) % 4294967296 - 2147483648
def extV (bits : Int) (wide : Bool) (n : Int) : Int := if extOk bits wide then cut wide (sx bits n) else 0
def extE (bits : Int) (wide : Bool) : Int := if extOk bits wide then 0 else 1
abbrev Gives2 (f : Nat) (args : Array Value) (w : World) (r err : Int) : Prop :=
  Calls Tryd.prog f args w fun e w' => e = .returned (.tuple #[.int .u64 r, .int .i64 err]) ∧ w = w'
theorem rt2_u64 {a b c : Int} (h : a = b) : Ending.returned (.tuple #[.int .u64 a, .int .i64 c]) = .returned (.tuple #[.int .u64 b, .int .i64 c]) := by rw [h]
theorem i8w (n : Int) : IntKind.i8.wrap n = (n + 128) % 256 - 128 := by simp [IntKind.wrap, IntKind.bits, IntKind.signed]; split <;> omega
theorem i16w (n : Int) : IntKind.i16.wrap n = (n + 32768) % 65536 - 32768 := by simp [IntKind.wrap, IntKind.bits, IntKind.signed]; split <;> omega
theorem sx_u64 (n : Int) (wide : Bool) (x : Int) : cut wide (IntKind.u64.wrap x) = cut wide x := by rw [IntKind.wrap_u64, cut_u64]
theorem uw_lo (x : Int) : 0 ≤ IntKind.u64.wrap x := by rw [IntKind.wrap_u64]; omega
theorem uw_hi (x : Int) : IntKind.u64.wrap x ≤ 18446744073709551615 := by rw [IntKind.wrap_u64]; omega
theorem cut_16  (n : Int) (h : 0 ≤ n) (h' : n ≤ 18446744073709551615) (w : World) : Gives2 16 #[.int .u64 n, .int .i64 16] w (n % 65536) 0 := by
  go_enter Tryd.func16, Tryd.ntmps16
  go_wp2
  go_ret2
  refine ⟨rt2_u64 ?_, rfl⟩
  rw [IntKind.wrap_u64, IntKind.wrap_u16]; omega
theorem cut_32  (n : Int) (h : 0 ≤ n) (h' : n ≤ 18446744073709551615) (w : World) : Gives2 16 #[.int .u64 n, .int .i64 32] w (n % 4294967296) 0 := by
  go_enter Tryd.func16, Tryd.ntmps16
  go_wp2
  go_ret2
  refine ⟨rt2_u64 ?_, rfl⟩
  rfl
theorem cut_64  (n : Int) (h : 0 ≤ n) (h' : n ≤ 18446744073709551615) (w : World) : Gives2 16 #[.int .u64 n, .int .i64 64] w (n) 0 := by
  go_enter Tryd.func16, Tryd.ntmps16
  go_wp2
  go_ret2
  refine ⟨rt2_u64 ?_, rfl⟩
  rfl
theorem cut_no (bits : Int) (h16 : (bits == 16) = false) (h32 : (bits == 32) = false) (h64 : (bits == 64) = false) (n : Int) (h : 0 ≤ n) (h' : n ≤ 18446744073709551615) (w : World) : Gives2 16 #[.int .u64 n, .int .i64 bits] w (0) 1 := by
  go_enter Tryd.func16, Tryd.ntmps16
  go_wp2
  go_ret2
  refine ⟨rt2_u64 ?_, rfl⟩
  rfl
theorem rcut_16  (n : Int) (h : 0 ≤ n) (h' : n ≤ 18446744073709551615) (w : World) : Gives2 17 #[.int .u64 n, .int .i64 16] w (n % 65536) 0 := by
  go_enter Tryd.func17, Tryd.ntmps17
  go_wp2
  go_ret2
  refine ⟨rt2_u64 ?_, rfl⟩
  exact and_65535 n h h'
theorem rcut_32  (n : Int) (h : 0 ≤ n) (h' : n ≤ 18446744073709551615) (w : World) : Gives2 17 #[.int .u64 n, .int .i64 32] w (n % 4294967296) 0 := by
  go_enter Tryd.func17, Tryd.ntmps17
  go_wp2_with fail
  refine (low_any _ h h' _).mono ?_
  rintro e w' ⟨rfl, rfl⟩
  go_wp2
  go_ret2
  refine ⟨rt2_u64 ?_, rfl⟩
  rfl
theorem rcut_64  (n : Int) (h : 0 ≤ n) (h' : n ≤ 18446744073709551615) (w : World) : Gives2 17 #[.int .u64 n, .int .i64 64] w (n) 0 := by
  go_enter Tryd.func17, Tryd.ntmps17
  go_wp2
  go_ret2
  refine ⟨rt2_u64 ?_, rfl⟩
  rfl
theorem rcut_no (bits : Int) (h16 : (bits == 16) = false) (h32 : (bits == 32) = false) (h64 : (bits == 64) = false) (n : Int) (h : 0 ≤ n) (h' : n ≤ 18446744073709551615) (w : World) : Gives2 17 #[.int .u64 n, .int .i64 bits] w (0) 1 := by
  go_enter Tryd.func17, Tryd.ntmps17
  go_wp2
  go_ret2
  refine ⟨rt2_u64 ?_, rfl⟩
  rfl
theorem ext_8 (wide : Bool) (n : Int) (h : 0 ≤ n) (h' : n ≤ 18446744073709551615) (w : World) : Gives2 12 #[.int .u64 n, .int .i64 8, .bool wide] w (cut wide (sx 8 n)) 0 := by
  go_enter Tryd.func12, Tryd.ntmps12
  go_wp2_with fail
  refine (mask_any _ _).mono ?_
  rintro e w' ⟨rfl, rfl⟩
  go_wp2
  go_ret2
  refine ⟨rt2_u64 ?_, rfl⟩
  rw [and_mask _ _ (uw_lo _) (uw_hi _), sx_u64 n, i8w]; rfl
theorem ext_16 (wide : Bool) (n : Int) (h : 0 ≤ n) (h' : n ≤ 18446744073709551615) (w : World) : Gives2 12 #[.int .u64 n, .int .i64 16, .bool wide] w (cut wide (sx 16 n)) 0 := by
  go_enter Tryd.func12, Tryd.ntmps12
  go_wp2_with fail
  refine (mask_any _ _).mono ?_
  rintro e w' ⟨rfl, rfl⟩
  go_wp2
  go_ret2
  refine ⟨rt2_u64 ?_, rfl⟩
  rw [and_mask _ _ (uw_lo _) (uw_hi _), sx_u64 n, i16w]; rfl
theorem ext_32  (n : Int) (h : 0 ≤ n) (h' : n ≤ 18446744073709551615) (w : World) : Gives2 12 #[.int .u64 n, .int .i64 32, .bool true] w (cut true (sx 32 n)) 0 := by
  go_enter Tryd.func12, Tryd.ntmps12
  go_wp2
  go_ret2
  refine ⟨rt2_u64 ?_, rfl⟩
  rw [IntKind.wrap_u64]; unfold wrap32; rfl
theorem ext_no (bits : Int) (wide : Bool) (h8 : (bits == 8) = false) (h16 : (bits == 16) = false) (h32 : (bits == 32) = false) (n : Int) (h : 0 ≤ n) (h' : n ≤ 18446744073709551615) (w : World) : Gives2 12 #[.int .u64 n, .int .i64 bits, .bool wide] w (0) 1 := by
  go_enter Tryd.func12, Tryd.ntmps12
  go_wp2
  go_ret2
  refine ⟨rt2_u64 ?_, rfl⟩
  rfl
theorem ext_no32  (n : Int) (h : 0 ≤ n) (h' : n ≤ 18446744073709551615) (w : World) : Gives2 12 #[.int .u64 n, .int .i64 32, .bool false] w (0) 1 := by
  go_enter Tryd.func12, Tryd.ntmps12
  go_wp2
  go_ret2
  refine ⟨rt2_u64 ?_, rfl⟩
  rfl
theorem rext_8_t  (n : Int) (h : 0 ≤ n) (h' : n ≤ 18446744073709551615) (w : World) : Gives2 13 #[.int .u64 n, .int .i64 8, .bool true] w (cut true (sx 8 n)) 0 := by
  go_enter Tryd.func13, Tryd.ntmps13
  go_wp2
  go_ret2
  refine ⟨rt2_u64 ?_, rfl⟩
  simp only [IntKind.wrap_u64, sx, cut]; unfold wrap64; simp; omega
theorem rext_16_t  (n : Int) (h : 0 ≤ n) (h' : n ≤ 18446744073709551615) (w : World) : Gives2 13 #[.int .u64 n, .int .i64 16, .bool true] w (cut true (sx 16 n)) 0 := by
  go_enter Tryd.func13, Tryd.ntmps13
  go_wp2
  go_ret2
  refine ⟨rt2_u64 ?_, rfl⟩
  simp only [IntKind.wrap_u64, sx, cut]; unfold wrap64; simp; omega
theorem rext_32_t  (n : Int) (h : 0 ≤ n) (h' : n ≤ 18446744073709551615) (w : World) : Gives2 13 #[.int .u64 n, .int .i64 32, .bool true] w (cut true (sx 32 n)) 0 := by
  go_enter Tryd.func13, Tryd.ntmps13
  go_wp2
  go_ret2
  refine ⟨rt2_u64 ?_, rfl⟩
  simp only [IntKind.wrap_u64, sx, cut]; unfold wrap64; simp; omega
theorem rext_8_f  (n : Int) (h : 0 ≤ n) (h' : n ≤ 18446744073709551615) (w : World) : Gives2 13 #[.int .u64 n, .int .i64 8, .bool false] w (cut false (sx 8 n)) 0 := by
  go_enter Tryd.func13, Tryd.ntmps13
  go_wp2_with fail
  refine (low_any _ (uw_lo _) (uw_hi _) _).mono ?_
  rintro e w' ⟨rfl, rfl⟩
  go_wp2
  go_ret2
  refine ⟨rt2_u64 ?_, rfl⟩
  simp only [IntKind.wrap_u64, sx, cut]; unfold wrap64; simp; omega
theorem rext_16_f  (n : Int) (h : 0 ≤ n) (h' : n ≤ 18446744073709551615) (w : World) : Gives2 13 #[.int .u64 n, .int .i64 16, .bool false] w (cut false (sx 16 n)) 0 := by
  go_enter Tryd.func13, Tryd.ntmps13
  go_wp2_with fail
  refine (low_any _ (uw_lo _) (uw_hi _) _).mono ?_
  rintro e w' ⟨rfl, rfl⟩
  go_wp2
  go_ret2
  refine ⟨rt2_u64 ?_, rfl⟩
  simp only [IntKind.wrap_u64, sx, cut]; unfold wrap64; simp; omega
theorem rext_no (bits : Int) (wide : Bool) (h8 : (bits != 8) = true) (h16 : (bits != 16) = true) (h32 : (bits == 32) = false) (n : Int) (h : 0 ≤ n) (h' : n ≤ 18446744073709551615) (w : World) : Gives2 13 #[.int .u64 n, .int .i64 bits, .bool wide] w (0) 1 := by
  go_enter Tryd.func13, Tryd.ntmps13
  go_wp2
  go_ret2
  refine ⟨rt2_u64 ?_, rfl⟩
  rfl
theorem rext_no32  (n : Int) (h : 0 ≤ n) (h' : n ≤ 18446744073709551615) (w : World) : Gives2 13 #[.int .u64 n, .int .i64 32, .bool false] w (0) 1 := by
  go_enter Tryd.func13, Tryd.ntmps13
  go_wp2
  go_ret2
  refine ⟨rt2_u64 ?_, rfl⟩
  rfl
theorem cut_any (bits : Int) (n : Int) (h : 0 ≤ n) (h' : n ≤ 18446744073709551615) (w : World) : Gives2 16 #[.int .u64 n, .int .i64 bits] w (cutV bits n) (cutE bits) := by
  by_cases h1 : bits = 16
  · subst h1; exact cut_16 n h h' w
  · by_cases h2 : bits = 32
    · subst h2; exact cut_32 n h h' w
    · by_cases h3 : bits = 64
      · subst h3; exact cut_64 n h h' w
      · rw [show cutV bits n = 0 by simp [cutV, h1, h2, h3], show cutE bits = 1 by simp [cutE, h1, h2, h3]]
        exact cut_no bits (by simpa using h1) (by simpa using h2) (by simpa using h3) n h h' w
theorem rcut_any (bits : Int) (n : Int) (h : 0 ≤ n) (h' : n ≤ 18446744073709551615) (w : World) : Gives2 17 #[.int .u64 n, .int .i64 bits] w (cutV bits n) (cutE bits) := by
  by_cases h1 : bits = 16
  · subst h1; exact rcut_16 n h h' w
  · by_cases h2 : bits = 32
    · subst h2; exact rcut_32 n h h' w
    · by_cases h3 : bits = 64
      · subst h3; exact rcut_64 n h h' w
      · rw [show cutV bits n = 0 by simp [cutV, h1, h2, h3], show cutE bits = 1 by simp [cutE, h1, h2, h3]]
        exact rcut_no bits (by simpa using h1) (by simpa using h2) (by simpa using h3) n h h' w
theorem ext_any (bits : Int) (wide : Bool) (n : Int) (h : 0 ≤ n) (h' : n ≤ 18446744073709551615) (w : World) : Gives2 12 #[.int .u64 n, .int .i64 bits, .bool wide] w (extV bits wide n) (extE bits wide) := by
  by_cases h1 : bits = 8
  · subst h1; exact ext_8 wide n h h' w
  · by_cases h2 : bits = 16
    · subst h2; exact ext_16 wide n h h' w
    · by_cases h3 : bits = 32
      · subst h3
        cases wide
        · exact ext_no32 n h h' w
        · exact ext_32 n h h' w
      · have e : extOk bits wide = false := by simp [extOk, h1, h2, h3]
        rw [show extV bits wide n = 0 by simp [extV, e], show extE bits wide = 1 by simp [extE, e]]
        exact ext_no bits wide (by simpa using h1) (by simpa using h2) (by simpa using h3) n h h' w
theorem rext_any (bits : Int) (wide : Bool) (n : Int) (h : 0 ≤ n) (h' : n ≤ 18446744073709551615) (w : World) : Gives2 13 #[.int .u64 n, .int .i64 bits, .bool wide] w (extV bits wide n) (extE bits wide) := by
  by_cases h1 : bits = 8
  · subst h1
    cases wide
    · exact rext_8_f n h h' w
    · exact rext_8_t n h h' w
  · by_cases h2 : bits = 16
    · subst h2
      cases wide
      · exact rext_16_f n h h' w
      · exact rext_16_t n h h' w
    · by_cases h3 : bits = 32
      · subst h3
        cases wide
        · exact rext_no32 n h h' w
        · exact rext_32_t n h h' w
      · have e : extOk bits wide = false := by simp [extOk, h1, h2, h3]
        rw [show extV bits wide n = 0 by simp [extV, e], show extE bits wide = 1 by simp [extE, e]]
        exact rext_no bits wide (by simpa using h1) (by simpa using h2) (by simpa using h3) n h h' w
end Go.Proofs.YtaghpmnjencmjaaDoor
