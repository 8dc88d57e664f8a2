/-
  Package tnum: shifts of a number, and what an op does with one (a method value).
-/
import Derived.Test.YthgfaajclghjhaaPBin
namespace Go.Proofs.Ythgfaajclghjhaa
open Go Go.RowKit Go.Maps Tn
set_option linter.unusedVariables false
set_option linter.unusedSimpArgs false
set_option maxRecDepth 100000
abbrev shTy : TypeId := 62
/-- By how many bits, and of how many. -/
abbrev sv (k : Nat) (wide : Bool) : Value := .agg #[.int .u64 (k : Int), .bool wide]
theorem nar_left (x : B64) (k : Nat) : n64 x % 4294967296 * 2 ^ k % 4294967296 = n64 (up32 (lo32 x <<< k)) := by
  rw [n64_low, up_shl]
theorem nar_right (x : B64) (k : Nat) : IntKind.u64.wrap (n64 x % 4294967296 / 2 ^ k) = n64 (up32 (lo32 x >>> k)) := by
  rw [n64_low, ← up_shr, IntKind.wrap_u64]
  have h4 := (lo32 x).isLt
  have h5 : (n64 (up32 (lo32 x)) / 2 ^ k) = (((lo32 x).toNat / 2 ^ k : Nat) : Int) := by rw [n64_up]; simp
  have h6 : (lo32 x).toNat / 2 ^ k ≤ (lo32 x).toNat := Nat.div_le_self _ _
  rw [h5]
  generalize (lo32 x).toNat / 2 ^ k = z at *
  omega
theorem nar_signed (x : B64) (k : Nat) : wrap32 (n64 x) / 2 ^ k % 4294967296 = n64 (up32 ((lo32 x).sshiftRight k)) := by
  rw [← up_sshr, n32_int, n32_int]
  have e : lo32 (up32 (lo32 x)) = lo32 x := by
    apply BitVec.eq_of_toNat_eq
    unfold lo32 up32
    simp only [BitVec.toNat_setWidth]
    omega
  rw [e]
theorem sleft_any (wide : Bool) {k : Nat} (hk : k ≤ if wide then 63 else 31) (x : B64) (w : World) : Calls Try.prog 46 #[sv k wide, uv x] w fun e w' => e = .returned (uv (sop 96 wide k x)) ∧ Below w.heap.size w w' := by
  have B := Lib.hid (below_new w (.cells #[.int .u64 (k : Int), .bool wide] shTy))
  cases wide
  · have E := Lib.hid (nar_left x k)
    have hk31 : k ≤ 31 := by simpa using hk
    clear hk
    go_enter Try.func46, Try.ntmps46
    go_wp2_with fail
    go_ret
    exact ⟨by show Ending.returned (Value.int .u64 _) = _; rw [E.out]; rfl, B.out⟩
  · have E := Lib.hid (wide_shl x k)
    have hk63 : k ≤ 63 := by simpa using hk
    clear hk
    go_enter Try.func46, Try.ntmps46
    go_wp2_with fail
    go_ret
    exact ⟨by show Ending.returned (Value.int .u64 _) = _; rw [E.out]; rfl, B.out⟩
theorem sright_any (wide : Bool) {k : Nat} (hk : k ≤ if wide then 63 else 31) (x : B64) (w : World) : Calls Try.prog 47 #[sv k wide, uv x] w fun e w' => e = .returned (uv (sop 112 wide k x)) ∧ Below w.heap.size w w' := by
  have B := Lib.hid (below_new w (.cells #[.int .u64 (k : Int), .bool wide] shTy))
  cases wide
  · have E := Lib.hid (nar_right x k)
    have hk31 : k ≤ 31 := by simpa using hk
    clear hk
    go_enter Try.func47, Try.ntmps47
    go_wp2_with fail
    go_ret
    exact ⟨by show Ending.returned (Value.int .u64 _) = _; rw [E.out]; rfl, B.out⟩
  · have E := Lib.hid (n64_shr x k)
    have hk63 : k ≤ 63 := by simpa using hk
    clear hk
    go_enter Try.func47, Try.ntmps47
    go_wp2_with fail
    go_ret
    exact ⟨by show Ending.returned (Value.int .u64 _) = _; rw [E.out]; rfl, B.out⟩
theorem srightWithSign_any (wide : Bool) {k : Nat} (hk : k ≤ if wide then 63 else 31) (x : B64) (w : World) : Calls Try.prog 48 #[sv k wide, uv x] w fun e w' => e = .returned (uv (sop 192 wide k x)) ∧ Below w.heap.size w w' := by
  have B := Lib.hid (below_new w (.cells #[.int .u64 (k : Int), .bool wide] shTy))
  cases wide
  · have E := Lib.hid (nar_signed x k)
    have hk31 : k ≤ 31 := by simpa using hk
    clear hk
    go_enter Try.func48, Try.ntmps48
    go_wp2_with fail
    go_ret
    exact ⟨by show Ending.returned (Value.int .u64 _) = _; rw [E.out]; rfl, B.out⟩
  · have E := Lib.hid (wide_sshr x k)
    have hk63 : k ≤ 63 := by simpa using hk
    clear hk
    go_enter Try.func48, Try.ntmps48
    go_wp2_with fail
    go_ret
    exact ⟨by show Ending.returned (Value.int .u64 _) = _; rw [E.out]; rfl, B.out⟩
theorem sop_96 (k : Nat) (wide : Bool) (w : World) : Calls Try.prog 34 #[sv k wide, .int .i64 96] w fun e w' => e = .returned (.func (.func 46) #[sv k wide] #[]) ∧ Below w.heap.size w w' := by
  have B := Lib.hid (below_new w (.cells #[.int .u64 (k : Int), .bool wide] shTy))
  have hmf : ∀ (fn : Fn) (first cap : Array Value) (w : World), (Instr.makeFunc fn first cap).run Try.prog w = .ok (.func fn first cap) w := fun _ _ _ _ => rfl
  go_enter Try.func34, Try.ntmps34
  go_wp2_with fail
  go_ret
  exact ⟨rfl, B.out⟩
theorem sop_112 (k : Nat) (wide : Bool) (w : World) : Calls Try.prog 34 #[sv k wide, .int .i64 112] w fun e w' => e = .returned (.func (.func 47) #[sv k wide] #[]) ∧ Below w.heap.size w w' := by
  have B := Lib.hid (below_new w (.cells #[.int .u64 (k : Int), .bool wide] shTy))
  have hmf : ∀ (fn : Fn) (first cap : Array Value) (w : World), (Instr.makeFunc fn first cap).run Try.prog w = .ok (.func fn first cap) w := fun _ _ _ _ => rfl
  go_enter Try.func34, Try.ntmps34
  go_wp2_with fail
  go_ret
  exact ⟨rfl, B.out⟩
theorem sop_192 (k : Nat) (wide : Bool) (w : World) : Calls Try.prog 34 #[sv k wide, .int .i64 192] w fun e w' => e = .returned (.func (.func 48) #[sv k wide] #[]) ∧ Below w.heap.size w w' := by
  have B := Lib.hid (below_new w (.cells #[.int .u64 (k : Int), .bool wide] shTy))
  have hmf : ∀ (fn : Fn) (first cap : Array Value) (w : World), (Instr.makeFunc fn first cap).run Try.prog w = .ok (.func fn first cap) w := fun _ _ _ _ => rfl
  go_enter Try.func34, Try.ntmps34
  go_wp2_with fail
  go_ret
  exact ⟨rfl, B.out⟩
theorem sop_no {op : Int} (h : ¬ (op = 96 ∨ op = 112 ∨ op = 192)) (k : Nat) (wide : Bool) (w : World) : Calls Try.prog 34 #[sv k wide, .int .i64 op] w fun e w' => e = .returned .nilFunc ∧ Below w.heap.size w w' := by
  have B := Lib.hid (below_new w (.cells #[.int .u64 (k : Int), .bool wide] shTy))
  have e0 : (op == 96) = false := by simp; exact fun e => h (.inl e)
  have e1 : (op == 112) = false := by simp; exact fun e => h (.inr (.inl e))
  have e2 : (op == 192) = false := by simp; exact fun e => h (.inr (.inr e))
  clear h
  have hmf : ∀ (fn : Fn) (first cap : Array Value) (w : World), (Instr.makeFunc fn first cap).run Try.prog w = .ok (.func fn first cap) w := fun _ _ _ _ => rfl
  go_enter Try.func34, Try.ntmps34
  go_wp2_with fail
  go_ret
  exact ⟨rfl, B.out⟩
end Go.Proofs.Ythgfaajclghjhaa
