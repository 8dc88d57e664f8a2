/-
  Package tnum: shifts of a number, and what an op does with one (a method value).
-/
import Derived.Test.YtjkgbghikhbecaaDoorPBin
namespace Go.Proofs.YtjkgbghikhbecaaDoor
open Go Go.RowKit Go.Maps Tn
set_option linter.unusedVariables false
set_option linter.unusedSimpArgs false
set_option maxRecDepth 100000
abbrev shTy : TypeId := 96
/-- By how many bits, and of how many. -/
abbrev shv (k : Nat) (wide : Bool) : Value := .agg #[.int .u64 (k : Int), .bool wide]
theorem nar_left (x : B64) (k : Nat) : n64 x % 4294967296 * 2 ^ k % 4294967296 = n64 (up32 (lo32 x <<< k)) := by
  rw [n64_low, up_shl]
theorem sleft_any (wide : Bool) {k : Nat} (hk : k ≤ if wide then 63 else 31) (x : B64) (w : World) : Calls Tryd.prog 77 #[shv k wide, uv x] w fun e w' => e = .returned (uv (sop 96 wide k x)) ∧ Below w.heap.size w w' := by
  have B := Lib.hid (below_new w (.cells #[.int .u64 (k : Int), .bool wide] shTy))
  cases wide
  · have E := Lib.hid (nar_left x k)
    have hk31 : k ≤ 31 := by simpa using hk
    clear hk
    go_enter Tryd.func77, Tryd.ntmps77
    go_wp2_with fail
    go_ret
    exact ⟨by show Ending.returned (Value.int .u64 _) = _; rw [E.out]; rfl, B.out⟩
  · have E := Lib.hid (wide_shl x k)
    have hk63 : k ≤ 63 := by simpa using hk
    clear hk
    go_enter Tryd.func77, Tryd.ntmps77
    go_wp2_with fail
    go_ret
    exact ⟨by show Ending.returned (Value.int .u64 _) = _; rw [E.out]; rfl, B.out⟩
theorem sop_96 (k : Nat) (wide : Bool) (w : World) : Calls Tryd.prog 71 #[shv k wide, .int .i64 96] w fun e w' => e = .returned (.func (.func 77) #[shv k wide] #[]) ∧ Below w.heap.size w w' := by
  have B := Lib.hid (below_new w (.cells #[.int .u64 (k : Int), .bool wide] shTy))
  have hmf : ∀ (fn : Fn) (first cap : Array Value) (w : World), (Instr.makeFunc fn first cap).run Tryd.prog w = .ok (.func fn first cap) w := fun _ _ _ _ => rfl
  go_enter Tryd.func71, Tryd.ntmps71
  go_wp2_with fail
  go_ret
  exact ⟨rfl, B.out⟩
end Go.Proofs.YtjkgbghikhbecaaDoor
