/-
  The reference of layer 15: Shift.
-/
import Derived.Test.YthgfaajclghjhaaTSh
import Derived.StillTailTactics
namespace Go.Proofs.Ythgfaajclghjhaa
open Go Go.RowKit Tn
set_option linter.unusedVariables false
set_option linter.unusedSimpArgs false
set_option maxRecDepth 100000
/-- May it be shifted so far, so? -/
def shIs (op by_ : Int) (wide : Bool) : Prop := (op = 96 ∨ op = 112 ∨ op = 192) ∧ 0 ≤ by_ ∧ by_ ≤ if wide then 63 else 31
instance (op by_ : Int) (wide : Bool) : Decidable (shIs op by_ wide) := by unfold shIs; infer_instance
def shT (op by_ : Int) (wide : Bool) (a : TN) : TN := if shIs op by_ wide then tShift op wide by_.toNat a else (0, 0)
def shX (op by_ : Int) (wide : Bool) : Int := if shIs op by_ wide then 0 else 1
theorem shift_still {op : Int} (h : op = 96 ∨ op = 112 ∨ op = 192) (wide : Bool) {k : Nat} (hk : k ≤ if wide then 63 else 31) (x : B64) (w : World) : Calls Try.prog 35 #[.int .i64 op, uv x, .int .u64 (k : Int), .bool wide] w fun e w' => e = .returned (uv (sop op wide k x)) ∧ w' = w :=
  (xshift_any h wide hk x w).mono fun e w' ⟨h1, h2⟩ => ⟨h1, h2.symm⟩
theorem xShift_96n {k : Nat} (hk : k ≤ 31) (a : TN) (w : World) : Calls Try.prog 14 #[.int .i64 96, tv a, .int .i64 (k : Int), .bool false] w fun e w' => e = .returned (.tuple #[tv (tShift 96 false k a), .int .i64 0]) ∧ Below w.heap.size w w' := by
  obtain ⟨v, m⟩ := a
  have F := Lib.hid (one_box (v, m) w)
  have CV := Lib.hid (fun W => shift_still (op := 96) (by decide) false (k := k) hk v W)
  have CM := Lib.hid (fun W => shift_still (op := 96) (by decide) false (k := k) hk m W)
  unfold tShift
  have k2 : IntKind.u64.wrap (k : Int) = (k : Int) := by rw [IntKind.wrap_u64]; omega
  have k3 : decide ((31 : Int) < (k : Int)) = false := decide_eq_false (by omega)
  have k5 : decide ((k : Int) < 0) = false := decide_eq_false (by omega)
  clear hk
  dsimp only
  generalize sop 96 false k v = sv at *
  generalize sop 96 false k m = sm at *
  go_enter Try.func14, Try.ntmps14
  go_upto_region 1 with fail
  obtain ⟨⟨c0, c1⟩, hr⟩ := F.out
  clear F
  generalize (w.alloc (.cells #[uv v, uv m] tnT)).alloc (.cells #[.int .u64 0, .int .u64 0] tnT) = wz at *
  have HR := Lib.hid hr
  clear hr
  go_upto_region 6 with fail
  go_still_tail 14, (by kernel_rfl)
  still_call (CV.out _)
  repeat still_step
  still_call (CM.out _)
  repeat still_step
  refine wpStill_nil ?_
  change wpList _ _ _ _ _ wz.drew
  have hr := HR.out.keeps (keeps_drew wz)
  clear HR c0 c1
  generalize wz.drew = wy at *
  obtain ⟨f0, f1⟩ := hr.frozen
  obtain ⟨x0, x1, d0, d1⟩ := hr.cells
  have HR := Lib.hid hr
  clear hr
  go_wp2_with fail
  obtain ⟨k1, k2⟩ := HR.out.fill (uv sv) (uv sm)
  refine bodyPost_ret (results_row_tmp rfl _ _ (w.heap.size + 1) tnT _ (0, 0) _ rfl k1 Try.underlying24 rfl (by kernel_rfl)) rfl ?_
  exact ⟨rfl, k2⟩
theorem xShift_96w {k : Nat} (hk : k ≤ 63) (a : TN) (w : World) : Calls Try.prog 14 #[.int .i64 96, tv a, .int .i64 (k : Int), .bool true] w fun e w' => e = .returned (.tuple #[tv (tShift 96 true k a), .int .i64 0]) ∧ Below w.heap.size w w' := by
  obtain ⟨v, m⟩ := a
  have F := Lib.hid (one_box (v, m) w)
  have CV := Lib.hid (fun W => shift_still (op := 96) (by decide) true (k := k) hk v W)
  have CM := Lib.hid (fun W => shift_still (op := 96) (by decide) true (k := k) hk m W)
  unfold tShift
  have k2 : IntKind.u64.wrap (k : Int) = (k : Int) := by rw [IntKind.wrap_u64]; omega
  have k3 : decide ((63 : Int) < (k : Int)) = false := decide_eq_false (by omega)
  have k5 : decide ((k : Int) < 0) = false := decide_eq_false (by omega)
  clear hk
  dsimp only
  generalize sop 96 true k v = sv at *
  generalize sop 96 true k m = sm at *
  go_enter Try.func14, Try.ntmps14
  go_upto_region 1 with fail
  obtain ⟨⟨c0, c1⟩, hr⟩ := F.out
  clear F
  generalize (w.alloc (.cells #[uv v, uv m] tnT)).alloc (.cells #[.int .u64 0, .int .u64 0] tnT) = wz at *
  have HR := Lib.hid hr
  clear hr
  go_upto_region 6 with fail
  go_still_tail 14, (by kernel_rfl)
  still_call (CV.out _)
  repeat still_step
  still_call (CM.out _)
  repeat still_step
  refine wpStill_nil ?_
  change wpList _ _ _ _ _ wz.drew
  have hr := HR.out.keeps (keeps_drew wz)
  clear HR c0 c1
  generalize wz.drew = wy at *
  obtain ⟨f0, f1⟩ := hr.frozen
  obtain ⟨x0, x1, d0, d1⟩ := hr.cells
  have HR := Lib.hid hr
  clear hr
  go_wp2_with fail
  obtain ⟨k1, k2⟩ := HR.out.fill (uv sv) (uv sm)
  refine bodyPost_ret (results_row_tmp rfl _ _ (w.heap.size + 1) tnT _ (0, 0) _ rfl k1 Try.underlying24 rfl (by kernel_rfl)) rfl ?_
  exact ⟨rfl, k2⟩
theorem xShift_112n {k : Nat} (hk : k ≤ 31) (a : TN) (w : World) : Calls Try.prog 14 #[.int .i64 112, tv a, .int .i64 (k : Int), .bool false] w fun e w' => e = .returned (.tuple #[tv (tShift 112 false k a), .int .i64 0]) ∧ Below w.heap.size w w' := by
  obtain ⟨v, m⟩ := a
  have F := Lib.hid (one_box (v, m) w)
  have CV := Lib.hid (fun W => shift_still (op := 112) (by decide) false (k := k) hk v W)
  have CM := Lib.hid (fun W => shift_still (op := 112) (by decide) false (k := k) hk m W)
  unfold tShift
  have k2 : IntKind.u64.wrap (k : Int) = (k : Int) := by rw [IntKind.wrap_u64]; omega
  have k3 : decide ((31 : Int) < (k : Int)) = false := decide_eq_false (by omega)
  have k5 : decide ((k : Int) < 0) = false := decide_eq_false (by omega)
  clear hk
  dsimp only
  generalize sop 112 false k v = sv at *
  generalize sop 112 false k m = sm at *
  go_enter Try.func14, Try.ntmps14
  go_upto_region 1 with fail
  obtain ⟨⟨c0, c1⟩, hr⟩ := F.out
  clear F
  generalize (w.alloc (.cells #[uv v, uv m] tnT)).alloc (.cells #[.int .u64 0, .int .u64 0] tnT) = wz at *
  have HR := Lib.hid hr
  clear hr
  go_upto_region 6 with fail
  go_still_tail 14, (by kernel_rfl)
  still_call (CV.out _)
  repeat still_step
  still_call (CM.out _)
  repeat still_step
  refine wpStill_nil ?_
  change wpList _ _ _ _ _ wz.drew
  have hr := HR.out.keeps (keeps_drew wz)
  clear HR c0 c1
  generalize wz.drew = wy at *
  obtain ⟨f0, f1⟩ := hr.frozen
  obtain ⟨x0, x1, d0, d1⟩ := hr.cells
  have HR := Lib.hid hr
  clear hr
  go_wp2_with fail
  obtain ⟨k1, k2⟩ := HR.out.fill (uv sv) (uv sm)
  refine bodyPost_ret (results_row_tmp rfl _ _ (w.heap.size + 1) tnT _ (0, 0) _ rfl k1 Try.underlying24 rfl (by kernel_rfl)) rfl ?_
  exact ⟨rfl, k2⟩
theorem xShift_112w {k : Nat} (hk : k ≤ 63) (a : TN) (w : World) : Calls Try.prog 14 #[.int .i64 112, tv a, .int .i64 (k : Int), .bool true] w fun e w' => e = .returned (.tuple #[tv (tShift 112 true k a), .int .i64 0]) ∧ Below w.heap.size w w' := by
  obtain ⟨v, m⟩ := a
  have F := Lib.hid (one_box (v, m) w)
  have CV := Lib.hid (fun W => shift_still (op := 112) (by decide) true (k := k) hk v W)
  have CM := Lib.hid (fun W => shift_still (op := 112) (by decide) true (k := k) hk m W)
  unfold tShift
  have k2 : IntKind.u64.wrap (k : Int) = (k : Int) := by rw [IntKind.wrap_u64]; omega
  have k3 : decide ((63 : Int) < (k : Int)) = false := decide_eq_false (by omega)
  have k5 : decide ((k : Int) < 0) = false := decide_eq_false (by omega)
  clear hk
  dsimp only
  generalize sop 112 true k v = sv at *
  generalize sop 112 true k m = sm at *
  go_enter Try.func14, Try.ntmps14
  go_upto_region 1 with fail
  obtain ⟨⟨c0, c1⟩, hr⟩ := F.out
  clear F
  generalize (w.alloc (.cells #[uv v, uv m] tnT)).alloc (.cells #[.int .u64 0, .int .u64 0] tnT) = wz at *
  have HR := Lib.hid hr
  clear hr
  go_upto_region 6 with fail
  go_still_tail 14, (by kernel_rfl)
  still_call (CV.out _)
  repeat still_step
  still_call (CM.out _)
  repeat still_step
  refine wpStill_nil ?_
  change wpList _ _ _ _ _ wz.drew
  have hr := HR.out.keeps (keeps_drew wz)
  clear HR c0 c1
  generalize wz.drew = wy at *
  obtain ⟨f0, f1⟩ := hr.frozen
  obtain ⟨x0, x1, d0, d1⟩ := hr.cells
  have HR := Lib.hid hr
  clear hr
  go_wp2_with fail
  obtain ⟨k1, k2⟩ := HR.out.fill (uv sv) (uv sm)
  refine bodyPost_ret (results_row_tmp rfl _ _ (w.heap.size + 1) tnT _ (0, 0) _ rfl k1 Try.underlying24 rfl (by kernel_rfl)) rfl ?_
  exact ⟨rfl, k2⟩
theorem xShift_192n {k : Nat} (hk : k ≤ 31) (a : TN) (w : World) : Calls Try.prog 14 #[.int .i64 192, tv a, .int .i64 (k : Int), .bool false] w fun e w' => e = .returned (.tuple #[tv (tShift 192 false k a), .int .i64 0]) ∧ Below w.heap.size w w' := by
  obtain ⟨v, m⟩ := a
  have F := Lib.hid (one_box (v, m) w)
  have CV := Lib.hid (fun W => shift_still (op := 192) (by decide) false (k := k) hk v W)
  have CM := Lib.hid (fun W => shift_still (op := 192) (by decide) false (k := k) hk m W)
  unfold tShift
  have k2 : IntKind.u64.wrap (k : Int) = (k : Int) := by rw [IntKind.wrap_u64]; omega
  have k3 : decide ((31 : Int) < (k : Int)) = false := decide_eq_false (by omega)
  have k5 : decide ((k : Int) < 0) = false := decide_eq_false (by omega)
  clear hk
  dsimp only
  generalize sop 192 false k v = sv at *
  generalize sop 192 false k m = sm at *
  go_enter Try.func14, Try.ntmps14
  go_upto_region 1 with fail
  obtain ⟨⟨c0, c1⟩, hr⟩ := F.out
  clear F
  generalize (w.alloc (.cells #[uv v, uv m] tnT)).alloc (.cells #[.int .u64 0, .int .u64 0] tnT) = wz at *
  have HR := Lib.hid hr
  clear hr
  go_upto_region 6 with fail
  go_still_tail 14, (by kernel_rfl)
  still_call (CV.out _)
  repeat still_step
  still_call (CM.out _)
  repeat still_step
  refine wpStill_nil ?_
  change wpList _ _ _ _ _ wz.drew
  have hr := HR.out.keeps (keeps_drew wz)
  clear HR c0 c1
  generalize wz.drew = wy at *
  obtain ⟨f0, f1⟩ := hr.frozen
  obtain ⟨x0, x1, d0, d1⟩ := hr.cells
  have HR := Lib.hid hr
  clear hr
  go_wp2_with fail
  obtain ⟨k1, k2⟩ := HR.out.fill (uv sv) (uv sm)
  refine bodyPost_ret (results_row_tmp rfl _ _ (w.heap.size + 1) tnT _ (0, 0) _ rfl k1 Try.underlying24 rfl (by kernel_rfl)) rfl ?_
  exact ⟨rfl, k2⟩
theorem xShift_192w {k : Nat} (hk : k ≤ 63) (a : TN) (w : World) : Calls Try.prog 14 #[.int .i64 192, tv a, .int .i64 (k : Int), .bool true] w fun e w' => e = .returned (.tuple #[tv (tShift 192 true k a), .int .i64 0]) ∧ Below w.heap.size w w' := by
  obtain ⟨v, m⟩ := a
  have F := Lib.hid (one_box (v, m) w)
  have CV := Lib.hid (fun W => shift_still (op := 192) (by decide) true (k := k) hk v W)
  have CM := Lib.hid (fun W => shift_still (op := 192) (by decide) true (k := k) hk m W)
  unfold tShift
  have k2 : IntKind.u64.wrap (k : Int) = (k : Int) := by rw [IntKind.wrap_u64]; omega
  have k3 : decide ((63 : Int) < (k : Int)) = false := decide_eq_false (by omega)
  have k5 : decide ((k : Int) < 0) = false := decide_eq_false (by omega)
  clear hk
  dsimp only
  generalize sop 192 true k v = sv at *
  generalize sop 192 true k m = sm at *
  go_enter Try.func14, Try.ntmps14
  go_upto_region 1 with fail
  obtain ⟨⟨c0, c1⟩, hr⟩ := F.out
  clear F
  generalize (w.alloc (.cells #[uv v, uv m] tnT)).alloc (.cells #[.int .u64 0, .int .u64 0] tnT) = wz at *
  have HR := Lib.hid hr
  clear hr
  go_upto_region 6 with fail
  go_still_tail 14, (by kernel_rfl)
  still_call (CV.out _)
  repeat still_step
  still_call (CM.out _)
  repeat still_step
  refine wpStill_nil ?_
  change wpList _ _ _ _ _ wz.drew
  have hr := HR.out.keeps (keeps_drew wz)
  clear HR c0 c1
  generalize wz.drew = wy at *
  obtain ⟨f0, f1⟩ := hr.frozen
  obtain ⟨x0, x1, d0, d1⟩ := hr.cells
  have HR := Lib.hid hr
  clear hr
  go_wp2_with fail
  obtain ⟨k1, k2⟩ := HR.out.fill (uv sv) (uv sm)
  refine bodyPost_ret (results_row_tmp rfl _ _ (w.heap.size + 1) tnT _ (0, 0) _ rfl k1 Try.underlying24 rfl (by kernel_rfl)) rfl ?_
  exact ⟨rfl, k2⟩
theorem xShift_op_n {op by_ : Int} (h1 : (op != 96) = true) (h2 : (op != 112) = true) (h3 : (op != 192) = true) (a : TN) (w : World) : Calls Try.prog 14 #[.int .i64 op, tv a, .int .i64 by_, .bool false] w fun e w' => e = .returned (.tuple #[tv (0, 0), .int .i64 1]) ∧ Below w.heap.size w w' := by
  obtain ⟨v, m⟩ := a
  have F := Lib.hid (one_box (v, m) w)
  go_enter Try.func14, Try.ntmps14
  go_upto_region 1 with fail
  obtain ⟨_, hr⟩ := F.out
  clear F
  generalize (w.alloc (.cells #[uv v, uv m] tnT)).alloc (.cells #[.int .u64 0, .int .u64 0] tnT) = wz at *
  obtain ⟨f0, f1⟩ := hr.frozen
  obtain ⟨x0, x1, d0, d1⟩ := hr.cells
  have HR := Lib.hid hr
  clear hr
  go_wp2_with fail
  obtain ⟨k1, k2⟩ := HR.out.fill (uv 0) (uv 0)
  refine bodyPost_ret (results_row_tmp rfl _ _ (w.heap.size + 1) tnT _ (0, 0) _ rfl k1 Try.underlying24 rfl (by kernel_rfl)) rfl ?_
  exact ⟨rfl, k2⟩
theorem xShift_neg_96n {by_ : Int} (h : by_ < 0) (a : TN) (w : World) : Calls Try.prog 14 #[.int .i64 96, tv a, .int .i64 by_, .bool false] w fun e w' => e = .returned (.tuple #[tv (0, 0), .int .i64 1]) ∧ Below w.heap.size w w' := by
  obtain ⟨v, m⟩ := a
  have F := Lib.hid (one_box (v, m) w)
  have e1 : decide (by_ < 0) = true := decide_eq_true h
  clear h
  go_enter Try.func14, Try.ntmps14
  go_upto_region 1 with fail
  obtain ⟨_, hr⟩ := F.out
  clear F
  generalize (w.alloc (.cells #[uv v, uv m] tnT)).alloc (.cells #[.int .u64 0, .int .u64 0] tnT) = wz at *
  obtain ⟨f0, f1⟩ := hr.frozen
  obtain ⟨x0, x1, d0, d1⟩ := hr.cells
  have HR := Lib.hid hr
  clear hr
  go_wp2_with fail
  obtain ⟨k1, k2⟩ := HR.out.fill (uv 0) (uv 0)
  refine bodyPost_ret (results_row_tmp rfl _ _ (w.heap.size + 1) tnT _ (0, 0) _ rfl k1 Try.underlying24 rfl (by kernel_rfl)) rfl ?_
  exact ⟨rfl, k2⟩
theorem xShift_far_96n {by_ : Int} (h0 : ¬ by_ < 0) (h : 31 < by_) (a : TN) (w : World) : Calls Try.prog 14 #[.int .i64 96, tv a, .int .i64 by_, .bool false] w fun e w' => e = .returned (.tuple #[tv (0, 0), .int .i64 1]) ∧ Below w.heap.size w w' := by
  obtain ⟨v, m⟩ := a
  have F := Lib.hid (one_box (v, m) w)
  have e1 : decide (by_ < 0) = false := decide_eq_false h0
  have e2 : decide ((31 : Int) < by_) = true := decide_eq_true h
  clear h h0
  go_enter Try.func14, Try.ntmps14
  go_upto_region 1 with fail
  obtain ⟨_, hr⟩ := F.out
  clear F
  generalize (w.alloc (.cells #[uv v, uv m] tnT)).alloc (.cells #[.int .u64 0, .int .u64 0] tnT) = wz at *
  obtain ⟨f0, f1⟩ := hr.frozen
  obtain ⟨x0, x1, d0, d1⟩ := hr.cells
  have HR := Lib.hid hr
  clear hr
  go_wp2_with fail
  obtain ⟨k1, k2⟩ := HR.out.fill (uv 0) (uv 0)
  refine bodyPost_ret (results_row_tmp rfl _ _ (w.heap.size + 1) tnT _ (0, 0) _ rfl k1 Try.underlying24 rfl (by kernel_rfl)) rfl ?_
  exact ⟨rfl, k2⟩
theorem xShift_neg_112n {by_ : Int} (h : by_ < 0) (a : TN) (w : World) : Calls Try.prog 14 #[.int .i64 112, tv a, .int .i64 by_, .bool false] w fun e w' => e = .returned (.tuple #[tv (0, 0), .int .i64 1]) ∧ Below w.heap.size w w' := by
  obtain ⟨v, m⟩ := a
  have F := Lib.hid (one_box (v, m) w)
  have e1 : decide (by_ < 0) = true := decide_eq_true h
  clear h
  go_enter Try.func14, Try.ntmps14
  go_upto_region 1 with fail
  obtain ⟨_, hr⟩ := F.out
  clear F
  generalize (w.alloc (.cells #[uv v, uv m] tnT)).alloc (.cells #[.int .u64 0, .int .u64 0] tnT) = wz at *
  obtain ⟨f0, f1⟩ := hr.frozen
  obtain ⟨x0, x1, d0, d1⟩ := hr.cells
  have HR := Lib.hid hr
  clear hr
  go_wp2_with fail
  obtain ⟨k1, k2⟩ := HR.out.fill (uv 0) (uv 0)
  refine bodyPost_ret (results_row_tmp rfl _ _ (w.heap.size + 1) tnT _ (0, 0) _ rfl k1 Try.underlying24 rfl (by kernel_rfl)) rfl ?_
  exact ⟨rfl, k2⟩
theorem xShift_far_112n {by_ : Int} (h0 : ¬ by_ < 0) (h : 31 < by_) (a : TN) (w : World) : Calls Try.prog 14 #[.int .i64 112, tv a, .int .i64 by_, .bool false] w fun e w' => e = .returned (.tuple #[tv (0, 0), .int .i64 1]) ∧ Below w.heap.size w w' := by
  obtain ⟨v, m⟩ := a
  have F := Lib.hid (one_box (v, m) w)
  have e1 : decide (by_ < 0) = false := decide_eq_false h0
  have e2 : decide ((31 : Int) < by_) = true := decide_eq_true h
  clear h h0
  go_enter Try.func14, Try.ntmps14
  go_upto_region 1 with fail
  obtain ⟨_, hr⟩ := F.out
  clear F
  generalize (w.alloc (.cells #[uv v, uv m] tnT)).alloc (.cells #[.int .u64 0, .int .u64 0] tnT) = wz at *
  obtain ⟨f0, f1⟩ := hr.frozen
  obtain ⟨x0, x1, d0, d1⟩ := hr.cells
  have HR := Lib.hid hr
  clear hr
  go_wp2_with fail
  obtain ⟨k1, k2⟩ := HR.out.fill (uv 0) (uv 0)
  refine bodyPost_ret (results_row_tmp rfl _ _ (w.heap.size + 1) tnT _ (0, 0) _ rfl k1 Try.underlying24 rfl (by kernel_rfl)) rfl ?_
  exact ⟨rfl, k2⟩
theorem xShift_neg_192n {by_ : Int} (h : by_ < 0) (a : TN) (w : World) : Calls Try.prog 14 #[.int .i64 192, tv a, .int .i64 by_, .bool false] w fun e w' => e = .returned (.tuple #[tv (0, 0), .int .i64 1]) ∧ Below w.heap.size w w' := by
  obtain ⟨v, m⟩ := a
  have F := Lib.hid (one_box (v, m) w)
  have e1 : decide (by_ < 0) = true := decide_eq_true h
  clear h
  go_enter Try.func14, Try.ntmps14
  go_upto_region 1 with fail
  obtain ⟨_, hr⟩ := F.out
  clear F
  generalize (w.alloc (.cells #[uv v, uv m] tnT)).alloc (.cells #[.int .u64 0, .int .u64 0] tnT) = wz at *
  obtain ⟨f0, f1⟩ := hr.frozen
  obtain ⟨x0, x1, d0, d1⟩ := hr.cells
  have HR := Lib.hid hr
  clear hr
  go_wp2_with fail
  obtain ⟨k1, k2⟩ := HR.out.fill (uv 0) (uv 0)
  refine bodyPost_ret (results_row_tmp rfl _ _ (w.heap.size + 1) tnT _ (0, 0) _ rfl k1 Try.underlying24 rfl (by kernel_rfl)) rfl ?_
  exact ⟨rfl, k2⟩
theorem xShift_far_192n {by_ : Int} (h0 : ¬ by_ < 0) (h : 31 < by_) (a : TN) (w : World) : Calls Try.prog 14 #[.int .i64 192, tv a, .int .i64 by_, .bool false] w fun e w' => e = .returned (.tuple #[tv (0, 0), .int .i64 1]) ∧ Below w.heap.size w w' := by
  obtain ⟨v, m⟩ := a
  have F := Lib.hid (one_box (v, m) w)
  have e1 : decide (by_ < 0) = false := decide_eq_false h0
  have e2 : decide ((31 : Int) < by_) = true := decide_eq_true h
  clear h h0
  go_enter Try.func14, Try.ntmps14
  go_upto_region 1 with fail
  obtain ⟨_, hr⟩ := F.out
  clear F
  generalize (w.alloc (.cells #[uv v, uv m] tnT)).alloc (.cells #[.int .u64 0, .int .u64 0] tnT) = wz at *
  obtain ⟨f0, f1⟩ := hr.frozen
  obtain ⟨x0, x1, d0, d1⟩ := hr.cells
  have HR := Lib.hid hr
  clear hr
  go_wp2_with fail
  obtain ⟨k1, k2⟩ := HR.out.fill (uv 0) (uv 0)
  refine bodyPost_ret (results_row_tmp rfl _ _ (w.heap.size + 1) tnT _ (0, 0) _ rfl k1 Try.underlying24 rfl (by kernel_rfl)) rfl ?_
  exact ⟨rfl, k2⟩
theorem xShift_op_w {op by_ : Int} (h1 : (op != 96) = true) (h2 : (op != 112) = true) (h3 : (op != 192) = true) (a : TN) (w : World) : Calls Try.prog 14 #[.int .i64 op, tv a, .int .i64 by_, .bool true] w fun e w' => e = .returned (.tuple #[tv (0, 0), .int .i64 1]) ∧ Below w.heap.size w w' := by
  obtain ⟨v, m⟩ := a
  have F := Lib.hid (one_box (v, m) w)
  go_enter Try.func14, Try.ntmps14
  go_upto_region 1 with fail
  obtain ⟨_, hr⟩ := F.out
  clear F
  generalize (w.alloc (.cells #[uv v, uv m] tnT)).alloc (.cells #[.int .u64 0, .int .u64 0] tnT) = wz at *
  obtain ⟨f0, f1⟩ := hr.frozen
  obtain ⟨x0, x1, d0, d1⟩ := hr.cells
  have HR := Lib.hid hr
  clear hr
  go_wp2_with fail
  obtain ⟨k1, k2⟩ := HR.out.fill (uv 0) (uv 0)
  refine bodyPost_ret (results_row_tmp rfl _ _ (w.heap.size + 1) tnT _ (0, 0) _ rfl k1 Try.underlying24 rfl (by kernel_rfl)) rfl ?_
  exact ⟨rfl, k2⟩
theorem xShift_neg_96w {by_ : Int} (h : by_ < 0) (a : TN) (w : World) : Calls Try.prog 14 #[.int .i64 96, tv a, .int .i64 by_, .bool true] w fun e w' => e = .returned (.tuple #[tv (0, 0), .int .i64 1]) ∧ Below w.heap.size w w' := by
  obtain ⟨v, m⟩ := a
  have F := Lib.hid (one_box (v, m) w)
  have e1 : decide (by_ < 0) = true := decide_eq_true h
  clear h
  go_enter Try.func14, Try.ntmps14
  go_upto_region 1 with fail
  obtain ⟨_, hr⟩ := F.out
  clear F
  generalize (w.alloc (.cells #[uv v, uv m] tnT)).alloc (.cells #[.int .u64 0, .int .u64 0] tnT) = wz at *
  obtain ⟨f0, f1⟩ := hr.frozen
  obtain ⟨x0, x1, d0, d1⟩ := hr.cells
  have HR := Lib.hid hr
  clear hr
  go_wp2_with fail
  obtain ⟨k1, k2⟩ := HR.out.fill (uv 0) (uv 0)
  refine bodyPost_ret (results_row_tmp rfl _ _ (w.heap.size + 1) tnT _ (0, 0) _ rfl k1 Try.underlying24 rfl (by kernel_rfl)) rfl ?_
  exact ⟨rfl, k2⟩
theorem xShift_far_96w {by_ : Int} (h0 : ¬ by_ < 0) (h : 63 < by_) (a : TN) (w : World) : Calls Try.prog 14 #[.int .i64 96, tv a, .int .i64 by_, .bool true] w fun e w' => e = .returned (.tuple #[tv (0, 0), .int .i64 1]) ∧ Below w.heap.size w w' := by
  obtain ⟨v, m⟩ := a
  have F := Lib.hid (one_box (v, m) w)
  have e1 : decide (by_ < 0) = false := decide_eq_false h0
  have e2 : decide ((63 : Int) < by_) = true := decide_eq_true h
  clear h h0
  go_enter Try.func14, Try.ntmps14
  go_upto_region 1 with fail
  obtain ⟨_, hr⟩ := F.out
  clear F
  generalize (w.alloc (.cells #[uv v, uv m] tnT)).alloc (.cells #[.int .u64 0, .int .u64 0] tnT) = wz at *
  obtain ⟨f0, f1⟩ := hr.frozen
  obtain ⟨x0, x1, d0, d1⟩ := hr.cells
  have HR := Lib.hid hr
  clear hr
  go_wp2_with fail
  obtain ⟨k1, k2⟩ := HR.out.fill (uv 0) (uv 0)
  refine bodyPost_ret (results_row_tmp rfl _ _ (w.heap.size + 1) tnT _ (0, 0) _ rfl k1 Try.underlying24 rfl (by kernel_rfl)) rfl ?_
  exact ⟨rfl, k2⟩
theorem xShift_neg_112w {by_ : Int} (h : by_ < 0) (a : TN) (w : World) : Calls Try.prog 14 #[.int .i64 112, tv a, .int .i64 by_, .bool true] w fun e w' => e = .returned (.tuple #[tv (0, 0), .int .i64 1]) ∧ Below w.heap.size w w' := by
  obtain ⟨v, m⟩ := a
  have F := Lib.hid (one_box (v, m) w)
  have e1 : decide (by_ < 0) = true := decide_eq_true h
  clear h
  go_enter Try.func14, Try.ntmps14
  go_upto_region 1 with fail
  obtain ⟨_, hr⟩ := F.out
  clear F
  generalize (w.alloc (.cells #[uv v, uv m] tnT)).alloc (.cells #[.int .u64 0, .int .u64 0] tnT) = wz at *
  obtain ⟨f0, f1⟩ := hr.frozen
  obtain ⟨x0, x1, d0, d1⟩ := hr.cells
  have HR := Lib.hid hr
  clear hr
  go_wp2_with fail
  obtain ⟨k1, k2⟩ := HR.out.fill (uv 0) (uv 0)
  refine bodyPost_ret (results_row_tmp rfl _ _ (w.heap.size + 1) tnT _ (0, 0) _ rfl k1 Try.underlying24 rfl (by kernel_rfl)) rfl ?_
  exact ⟨rfl, k2⟩
theorem xShift_far_112w {by_ : Int} (h0 : ¬ by_ < 0) (h : 63 < by_) (a : TN) (w : World) : Calls Try.prog 14 #[.int .i64 112, tv a, .int .i64 by_, .bool true] w fun e w' => e = .returned (.tuple #[tv (0, 0), .int .i64 1]) ∧ Below w.heap.size w w' := by
  obtain ⟨v, m⟩ := a
  have F := Lib.hid (one_box (v, m) w)
  have e1 : decide (by_ < 0) = false := decide_eq_false h0
  have e2 : decide ((63 : Int) < by_) = true := decide_eq_true h
  clear h h0
  go_enter Try.func14, Try.ntmps14
  go_upto_region 1 with fail
  obtain ⟨_, hr⟩ := F.out
  clear F
  generalize (w.alloc (.cells #[uv v, uv m] tnT)).alloc (.cells #[.int .u64 0, .int .u64 0] tnT) = wz at *
  obtain ⟨f0, f1⟩ := hr.frozen
  obtain ⟨x0, x1, d0, d1⟩ := hr.cells
  have HR := Lib.hid hr
  clear hr
  go_wp2_with fail
  obtain ⟨k1, k2⟩ := HR.out.fill (uv 0) (uv 0)
  refine bodyPost_ret (results_row_tmp rfl _ _ (w.heap.size + 1) tnT _ (0, 0) _ rfl k1 Try.underlying24 rfl (by kernel_rfl)) rfl ?_
  exact ⟨rfl, k2⟩
theorem xShift_neg_192w {by_ : Int} (h : by_ < 0) (a : TN) (w : World) : Calls Try.prog 14 #[.int .i64 192, tv a, .int .i64 by_, .bool true] w fun e w' => e = .returned (.tuple #[tv (0, 0), .int .i64 1]) ∧ Below w.heap.size w w' := by
  obtain ⟨v, m⟩ := a
  have F := Lib.hid (one_box (v, m) w)
  have e1 : decide (by_ < 0) = true := decide_eq_true h
  clear h
  go_enter Try.func14, Try.ntmps14
  go_upto_region 1 with fail
  obtain ⟨_, hr⟩ := F.out
  clear F
  generalize (w.alloc (.cells #[uv v, uv m] tnT)).alloc (.cells #[.int .u64 0, .int .u64 0] tnT) = wz at *
  obtain ⟨f0, f1⟩ := hr.frozen
  obtain ⟨x0, x1, d0, d1⟩ := hr.cells
  have HR := Lib.hid hr
  clear hr
  go_wp2_with fail
  obtain ⟨k1, k2⟩ := HR.out.fill (uv 0) (uv 0)
  refine bodyPost_ret (results_row_tmp rfl _ _ (w.heap.size + 1) tnT _ (0, 0) _ rfl k1 Try.underlying24 rfl (by kernel_rfl)) rfl ?_
  exact ⟨rfl, k2⟩
theorem xShift_far_192w {by_ : Int} (h0 : ¬ by_ < 0) (h : 63 < by_) (a : TN) (w : World) : Calls Try.prog 14 #[.int .i64 192, tv a, .int .i64 by_, .bool true] w fun e w' => e = .returned (.tuple #[tv (0, 0), .int .i64 1]) ∧ Below w.heap.size w w' := by
  obtain ⟨v, m⟩ := a
  have F := Lib.hid (one_box (v, m) w)
  have e1 : decide (by_ < 0) = false := decide_eq_false h0
  have e2 : decide ((63 : Int) < by_) = true := decide_eq_true h
  clear h h0
  go_enter Try.func14, Try.ntmps14
  go_upto_region 1 with fail
  obtain ⟨_, hr⟩ := F.out
  clear F
  generalize (w.alloc (.cells #[uv v, uv m] tnT)).alloc (.cells #[.int .u64 0, .int .u64 0] tnT) = wz at *
  obtain ⟨f0, f1⟩ := hr.frozen
  obtain ⟨x0, x1, d0, d1⟩ := hr.cells
  have HR := Lib.hid hr
  clear hr
  go_wp2_with fail
  obtain ⟨k1, k2⟩ := HR.out.fill (uv 0) (uv 0)
  refine bodyPost_ret (results_row_tmp rfl _ _ (w.heap.size + 1) tnT _ (0, 0) _ rfl k1 Try.underlying24 rfl (by kernel_rfl)) rfl ?_
  exact ⟨rfl, k2⟩
theorem xShift_any (op by_ : Int) (wide : Bool) (a : TN) (w : World) : Calls Try.prog 14 #[.int .i64 op, tv a, .int .i64 by_, .bool wide] w fun e w' => e = .returned (.tuple #[tv (shT op by_ wide a), .int .i64 (shX op by_ wide)]) ∧ Below w.heap.size w w' := by
  unfold shT shX
  by_cases h : shIs op by_ wide
  · rw [if_pos h, if_pos h]
    obtain ⟨ho, h0, h1⟩ := h
    obtain ⟨k, rfl⟩ : ∃ k : Nat, by_ = (k : Int) := ⟨by_.toNat, by omega⟩
    rw [Int.toNat_natCast]
    cases wide
    · have hk : k ≤ 31 := by simp at h1; omega
      rcases ho with rfl | rfl | rfl
      · exact xShift_96n hk a w
      · exact xShift_112n hk a w
      · exact xShift_192n hk a w
    · have hk : k ≤ 63 := by simp at h1; omega
      rcases ho with rfl | rfl | rfl
      · exact xShift_96w hk a w
      · exact xShift_112w hk a w
      · exact xShift_192w hk a w
  · rw [if_neg h, if_neg h]
    by_cases ho : op = 96 ∨ op = 112 ∨ op = 192
    · by_cases h0 : by_ < 0
      · cases wide
        · rcases ho with rfl | rfl | rfl
          · exact xShift_neg_96n h0 a w
          · exact xShift_neg_112n h0 a w
          · exact xShift_neg_192n h0 a w
        · rcases ho with rfl | rfl | rfl
          · exact xShift_neg_96w h0 a w
          · exact xShift_neg_112w h0 a w
          · exact xShift_neg_192w h0 a w
      · cases wide
        · have h1 : 31 < by_ := by
            have := fun h1 => h ⟨ho, by omega, h1⟩
            simp at this; omega
          rcases ho with rfl | rfl | rfl
          · exact xShift_far_96n h0 h1 a w
          · exact xShift_far_112n h0 h1 a w
          · exact xShift_far_192n h0 h1 a w
        · have h1 : 63 < by_ := by
            have := fun h1 => h ⟨ho, by omega, h1⟩
            simp at this; omega
          rcases ho with rfl | rfl | rfl
          · exact xShift_far_96w h0 h1 a w
          · exact xShift_far_112w h0 h1 a w
          · exact xShift_far_192w h0 h1 a w
    · have e1 : (op != 96) = true := by simp; exact fun e => ho (.inl e)
      have e2 : (op != 112) = true := by simp; exact fun e => ho (.inr (.inl e))
      have e3 : (op != 192) = true := by simp; exact fun e => ho (.inr (.inr e))
      cases wide
      · exact xShift_op_n e1 e2 e3 a w
      · exact xShift_op_w e1 e2 e3 a w
end Go.Proofs.Ythgfaajclghjhaa
