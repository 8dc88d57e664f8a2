/-
  Package alu's inner functions part and meet: what each returns, for any arguments in range.
-/
import Derived.Test.YtjkgbghikhbecaaDoorPlain
namespace Go.Proofs.YtjkgbghikhbecaaDoor
open Go.RowKit (wrap32 wrap64 Below)
set_option linter.unusedVariables false

theorem part_t (o p q z v : Int) (s : Bool) (w : World) :
    Calls Tryd.prog 49 #[.agg #[.int .i64 o, .bool s, .int .u64 p, .int .u64 q, .int .i64 z, .int .i64 v], .bool true] w
      fun e w' => e = .returned (.int .u64 p) ∧ Below w.heap.size w w' := by
  go_enter Tryd.func49, Tryd.ntmps49
  go_wp2
  go_ret
  exact ⟨rfl, (Below.refl _ _).alloc (Nat.le_refl _) _⟩
theorem part_f (o p q z v : Int) (s : Bool) (w : World) :
    Calls Tryd.prog 49 #[.agg #[.int .i64 o, .bool s, .int .u64 p, .int .u64 q, .int .i64 z, .int .i64 v], .bool false] w
      fun e w' => e = .returned (.int .u64 q) ∧ Below w.heap.size w w' := by
  go_enter Tryd.func49, Tryd.ntmps49
  go_wp2
  go_ret
  exact ⟨rfl, (Below.refl _ _).alloc (Nat.le_refl _) _⟩
theorem meet_zero (o p q z v : Int) (s wide signed : Bool) (a : Int) (w : World) :
    Calls Tryd.prog 50 #[.agg #[.int .i64 o, .bool s, .int .u64 p, .int .u64 q, .int .i64 z, .int .i64 v], .bool wide, .bool signed, .int .u64 a, .int .u64 0] w
      fun e w' => e = .returned (.int .i64 z) ∧ Below w.heap.size w w' := by
  go_enter Tryd.func50, Tryd.ntmps50
  go_wp2
  go_ret
  exact ⟨rfl, (Below.refl _ _).alloc (Nat.le_refl _) _⟩
theorem meet_u (o p q z v : Int) (s wide : Bool) (a b : Int) (hb : 1 ≤ b) (w : World) :
    Calls Tryd.prog 50 #[.agg #[.int .i64 o, .bool s, .int .u64 p, .int .u64 q, .int .i64 z, .int .i64 v], .bool wide, .bool false, .int .u64 a, .int .u64 b] w
      fun e w' => e = .returned (.int .i64 0) ∧ Below w.heap.size w w' := by
  go_enter Tryd.func50, Tryd.ntmps50
  go_wp2_with fail
  refine (mask_any _ _).mono ?_
  rintro e w' ⟨rfl, rfl⟩
  go_wp2
  go_ret
  exact ⟨rfl, (Below.refl _ _).alloc (Nat.le_refl _) _⟩
theorem mask_t (w : World) : Calls Tryd.prog 48 #[.bool true] w fun e w' => e = .returned (.int .u64 18446744073709551615) ∧ w = w' := mask_any true w
theorem mask_f (w : World) : Calls Tryd.prog 48 #[.bool false] w fun e w' => e = .returned (.int .u64 4294967295) ∧ w = w' := mask_any false w
theorem meet_over_t (o p q z v : Int) (s : Bool)  (w : World) :
    Calls Tryd.prog 50 #[.agg #[.int .i64 o, .bool s, .int .u64 p, .int .u64 q, .int .i64 z, .int .i64 v], .bool true, .bool true, .int .u64 9223372036854775808, .int .u64 18446744073709551615] w
      fun e w' => e = .returned (.int .i64 v) ∧ Below w.heap.size w w' := by
  go_enter Tryd.func50, Tryd.ntmps50
  go_wp2_with fail
  refine (mask_t _).mono ?_
  rintro e w' ⟨rfl, rfl⟩
  go_wp2_with fail
  refine (mask_t _).mono ?_
  rintro e w' ⟨rfl, rfl⟩
  go_wp2
  go_ret
  exact ⟨rfl, (Below.refl _ _).alloc (Nat.le_refl _) _⟩
theorem meet_a_t (o p q z v : Int) (s : Bool) (a b : Int) (hb : 1 ≤ b) (ha : (a == 9223372036854775808) = false) (w : World) :
    Calls Tryd.prog 50 #[.agg #[.int .i64 o, .bool s, .int .u64 p, .int .u64 q, .int .i64 z, .int .i64 v], .bool true, .bool true, .int .u64 a, .int .u64 b] w
      fun e w' => e = .returned (.int .i64 0) ∧ Below w.heap.size w w' := by
  go_enter Tryd.func50, Tryd.ntmps50
  go_wp2_with fail
  refine (mask_t _).mono ?_
  rintro e w' ⟨rfl, rfl⟩
  go_wp2
  go_ret
  exact ⟨rfl, (Below.refl _ _).alloc (Nat.le_refl _) _⟩
theorem meet_b_t (o p q z v : Int) (s : Bool) (b : Int) (hb : 1 ≤ b) (hm : (b == 18446744073709551615) = false) (w : World) :
    Calls Tryd.prog 50 #[.agg #[.int .i64 o, .bool s, .int .u64 p, .int .u64 q, .int .i64 z, .int .i64 v], .bool true, .bool true, .int .u64 9223372036854775808, .int .u64 b] w
      fun e w' => e = .returned (.int .i64 0) ∧ Below w.heap.size w w' := by
  go_enter Tryd.func50, Tryd.ntmps50
  go_wp2_with fail
  refine (mask_t _).mono ?_
  rintro e w' ⟨rfl, rfl⟩
  go_wp2_with fail
  refine (mask_t _).mono ?_
  rintro e w' ⟨rfl, rfl⟩
  go_wp2
  go_ret
  exact ⟨rfl, (Below.refl _ _).alloc (Nat.le_refl _) _⟩
theorem meet_over_f (o p q z v : Int) (s : Bool)  (w : World) :
    Calls Tryd.prog 50 #[.agg #[.int .i64 o, .bool s, .int .u64 p, .int .u64 q, .int .i64 z, .int .i64 v], .bool false, .bool true, .int .u64 2147483648, .int .u64 4294967295] w
      fun e w' => e = .returned (.int .i64 v) ∧ Below w.heap.size w w' := by
  go_enter Tryd.func50, Tryd.ntmps50
  go_wp2_with fail
  refine (mask_f _).mono ?_
  rintro e w' ⟨rfl, rfl⟩
  go_wp2_with fail
  refine (mask_f _).mono ?_
  rintro e w' ⟨rfl, rfl⟩
  go_wp2
  go_ret
  exact ⟨rfl, (Below.refl _ _).alloc (Nat.le_refl _) _⟩
theorem meet_a_f (o p q z v : Int) (s : Bool) (a b : Int) (hb : 1 ≤ b) (ha : (a == 2147483648) = false) (w : World) :
    Calls Tryd.prog 50 #[.agg #[.int .i64 o, .bool s, .int .u64 p, .int .u64 q, .int .i64 z, .int .i64 v], .bool false, .bool true, .int .u64 a, .int .u64 b] w
      fun e w' => e = .returned (.int .i64 0) ∧ Below w.heap.size w w' := by
  go_enter Tryd.func50, Tryd.ntmps50
  go_wp2_with fail
  refine (mask_f _).mono ?_
  rintro e w' ⟨rfl, rfl⟩
  go_wp2
  go_ret
  exact ⟨rfl, (Below.refl _ _).alloc (Nat.le_refl _) _⟩
theorem meet_b_f (o p q z v : Int) (s : Bool) (b : Int) (hb : 1 ≤ b) (hm : (b == 4294967295) = false) (w : World) :
    Calls Tryd.prog 50 #[.agg #[.int .i64 o, .bool s, .int .u64 p, .int .u64 q, .int .i64 z, .int .i64 v], .bool false, .bool true, .int .u64 2147483648, .int .u64 b] w
      fun e w' => e = .returned (.int .i64 0) ∧ Below w.heap.size w w' := by
  go_enter Tryd.func50, Tryd.ntmps50
  go_wp2_with fail
  refine (mask_f _).mono ?_
  rintro e w' ⟨rfl, rfl⟩
  go_wp2_with fail
  refine (mask_f _).mono ?_
  rintro e w' ⟨rfl, rfl⟩
  go_wp2
  go_ret
  exact ⟨rfl, (Below.refl _ _).alloc (Nat.le_refl _) _⟩
end Go.Proofs.YtjkgbghikhbecaaDoor
