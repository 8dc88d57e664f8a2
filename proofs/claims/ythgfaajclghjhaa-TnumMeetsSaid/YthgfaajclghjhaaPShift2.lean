/-
  Package tnum: Shift, where it refuses; Shift.
-/
import Derived.Test.YthgfaajclghjhaaPShift
namespace Go.Proofs.Ythgfaajclghjhaa
open Go Go.RowKit Go.Maps Tn
set_option linter.unusedVariables false
set_option linter.unusedSimpArgs false
set_option maxRecDepth 100000
theorem pShift_neg_f (op : Int) {by_ : Int} (h : by_ < 0) (a : TN) (w : World) : Calls Try.prog 13 #[.int .i64 op, tv a, .int .i64 by_, .bool false] w fun e w' => e = .returned (.tuple #[tv (0, 0), .int .i64 1]) ∧ Below w.heap.size w w' := by
  obtain ⟨v, m⟩ := a
  have F := Lib.hid (SB.new v m w)
  have e1 : decide (by_ < 0) = true := decide_eq_true h
  clear h
  go_enter Try.func13, Try.ntmps13
  go_upto_region 1 with fail
  have hs := F.out
  clear F
  generalize (w.alloc (.cells #[uv v, uv m] tnT)).alloc (.cells #[.int .u64 0, .int .u64 0] tnT) = wz at *
  have HS := Lib.hid hs
  clear hs
  have ff := HS.out.r.frozen
  obtain ⟨f0, f1⟩ := ff
  have cc := HS.out.r.cells
  obtain ⟨x0, x1, d0, d1⟩ := cc
  go_wp2_with fail
  obtain ⟨k1, k2⟩ := HS.out.r.fill (uv 0) (uv 0)
  refine bodyPost_ret (results_row_tmp rfl _ _ (w.heap.size + 1) tnT _ (0, 0) _ rfl k1 Try.underlying24 rfl (by kernel_rfl)) rfl ?_
  exact ⟨rfl, k2⟩
theorem pShift_far_f (op : Int) {by_ : Int} (h0 : ¬ by_ < 0) (h : 63 < by_) (a : TN) (w : World) : Calls Try.prog 13 #[.int .i64 op, tv a, .int .i64 by_, .bool false] w fun e w' => e = .returned (.tuple #[tv (0, 0), .int .i64 1]) ∧ Below w.heap.size w w' := by
  obtain ⟨v, m⟩ := a
  have F := Lib.hid (SB.new v m w)
  have e1 : decide (by_ < 0) = false := decide_eq_false h0
  have e2 : decide ((63 : Int) < by_) = true := decide_eq_true h
  clear h h0
  go_enter Try.func13, Try.ntmps13
  go_upto_region 1 with fail
  have hs := F.out
  clear F
  generalize (w.alloc (.cells #[uv v, uv m] tnT)).alloc (.cells #[.int .u64 0, .int .u64 0] tnT) = wz at *
  have HS := Lib.hid hs
  clear hs
  have ff := HS.out.r.frozen
  obtain ⟨f0, f1⟩ := ff
  have cc := HS.out.r.cells
  obtain ⟨x0, x1, d0, d1⟩ := cc
  go_wp2_with fail
  obtain ⟨k1, k2⟩ := HS.out.r.fill (uv 0) (uv 0)
  refine bodyPost_ret (results_row_tmp rfl _ _ (w.heap.size + 1) tnT _ (0, 0) _ rfl k1 Try.underlying24 rfl (by kernel_rfl)) rfl ?_
  exact ⟨rfl, k2⟩
theorem pShift_neg_t (op : Int) {by_ : Int} (h : by_ < 0) (a : TN) (w : World) : Calls Try.prog 13 #[.int .i64 op, tv a, .int .i64 by_, .bool true] w fun e w' => e = .returned (.tuple #[tv (0, 0), .int .i64 1]) ∧ Below w.heap.size w w' := by
  obtain ⟨v, m⟩ := a
  have F := Lib.hid (SB.new v m w)
  have e1 : decide (by_ < 0) = true := decide_eq_true h
  clear h
  go_enter Try.func13, Try.ntmps13
  go_upto_region 1 with fail
  have hs := F.out
  clear F
  generalize (w.alloc (.cells #[uv v, uv m] tnT)).alloc (.cells #[.int .u64 0, .int .u64 0] tnT) = wz at *
  have HS := Lib.hid hs
  clear hs
  have ff := HS.out.r.frozen
  obtain ⟨f0, f1⟩ := ff
  have cc := HS.out.r.cells
  obtain ⟨x0, x1, d0, d1⟩ := cc
  go_wp2_with fail
  obtain ⟨k1, k2⟩ := HS.out.r.fill (uv 0) (uv 0)
  refine bodyPost_ret (results_row_tmp rfl _ _ (w.heap.size + 1) tnT _ (0, 0) _ rfl k1 Try.underlying24 rfl (by kernel_rfl)) rfl ?_
  exact ⟨rfl, k2⟩
theorem pShift_far_t (op : Int) {by_ : Int} (h0 : ¬ by_ < 0) (h : 63 < by_) (a : TN) (w : World) : Calls Try.prog 13 #[.int .i64 op, tv a, .int .i64 by_, .bool true] w fun e w' => e = .returned (.tuple #[tv (0, 0), .int .i64 1]) ∧ Below w.heap.size w w' := by
  obtain ⟨v, m⟩ := a
  have F := Lib.hid (SB.new v m w)
  have e1 : decide (by_ < 0) = false := decide_eq_false h0
  have e2 : decide ((63 : Int) < by_) = true := decide_eq_true h
  clear h h0
  go_enter Try.func13, Try.ntmps13
  go_upto_region 1 with fail
  have hs := F.out
  clear F
  generalize (w.alloc (.cells #[uv v, uv m] tnT)).alloc (.cells #[.int .u64 0, .int .u64 0] tnT) = wz at *
  have HS := Lib.hid hs
  clear hs
  have ff := HS.out.r.frozen
  obtain ⟨f0, f1⟩ := ff
  have cc := HS.out.r.cells
  obtain ⟨x0, x1, d0, d1⟩ := cc
  go_wp2_with fail
  obtain ⟨k1, k2⟩ := HS.out.r.fill (uv 0) (uv 0)
  refine bodyPost_ret (results_row_tmp rfl _ _ (w.heap.size + 1) tnT _ (0, 0) _ rfl k1 Try.underlying24 rfl (by kernel_rfl)) rfl ?_
  exact ⟨rfl, k2⟩
theorem pShift_half (op : Int) {by_ : Int} (h0 : ¬ by_ < 0) (h1 : ¬ 63 < by_) (h : 31 < by_) (a : TN) (w : World) : Calls Try.prog 13 #[.int .i64 op, tv a, .int .i64 by_, .bool false] w fun e w' => e = .returned (.tuple #[tv (0, 0), .int .i64 1]) ∧ Below w.heap.size w w' := by
  obtain ⟨v, m⟩ := a
  have F := Lib.hid (SB.new v m w)
  have e1 : decide (by_ < 0) = false := decide_eq_false h0
  have e2 : decide ((63 : Int) < by_) = false := decide_eq_false h1
  have e3 : decide ((31 : Int) < by_) = true := decide_eq_true h
  clear h h0 h1
  go_enter Try.func13, Try.ntmps13
  go_upto_region 1 with fail
  have hs := F.out
  clear F
  generalize (w.alloc (.cells #[uv v, uv m] tnT)).alloc (.cells #[.int .u64 0, .int .u64 0] tnT) = wz at *
  have HS := Lib.hid hs
  clear hs
  have ff := HS.out.r.frozen
  obtain ⟨f0, f1⟩ := ff
  have cc := HS.out.r.cells
  obtain ⟨x0, x1, d0, d1⟩ := cc
  go_wp2_with fail
  obtain ⟨k1, k2⟩ := HS.out.r.fill (uv 0) (uv 0)
  refine bodyPost_ret (results_row_tmp rfl _ _ (w.heap.size + 1) tnT _ (0, 0) _ rfl k1 Try.underlying24 rfl (by kernel_rfl)) rfl ?_
  exact ⟨rfl, k2⟩
theorem pShift_no_f {op : Int} (ho : ¬ (op = 96 ∨ op = 112 ∨ op = 192)) {k : Nat} (hk : k ≤ 31) (a : TN) (w : World) : Calls Try.prog 13 #[.int .i64 op, tv a, .int .i64 (k : Int), .bool false] w fun e w' => e = .returned (.tuple #[tv (0, 0), .int .i64 1]) ∧ Below w.heap.size w w' := by
  obtain ⟨v, m⟩ := a
  have F := Lib.hid (SB.new v m w)
  have CO := Lib.hid (sop_no ho k false)
  have hn : ∀ W, (binOp .eql 59 .nilFunc .nilFunc).run Try.prog W = .ok (.bool true) W := fun W => rfl
  have k2 : IntKind.u64.wrap (k : Int) = (k : Int) := by rw [IntKind.wrap_u64]; omega
  have k3 : decide ((63 : Int) < (k : Int)) = false := decide_eq_false (by omega)
  have k5 : decide ((k : Int) < 0) = false := decide_eq_false (by omega)
  have k4 : decide ((31 : Int) < (k : Int)) = false := decide_eq_false (by omega)
  clear hk ho
  go_enter Try.func13, Try.ntmps13
  go_upto_region 1 with fail
  have hs := F.out
  clear F
  generalize (w.alloc (.cells #[uv v, uv m] tnT)).alloc (.cells #[.int .u64 0, .int .u64 0] tnT) = wz at *
  have HS := Lib.hid hs
  clear hs
  go_upto_region 4 with (go_at_call 34; refine (CO.out wz).mono ?_; rintro e w1 ⟨rfl, hb⟩; have HS1 := Lib.hid (HS.out.call hb); clear hb)
  clear CO HS
  have HS := Lib.hid HS1.out
  clear HS1
  have ff := HS.out.r.frozen
  obtain ⟨f0, f1⟩ := ff
  have cc := HS.out.r.cells
  obtain ⟨x0, x1, d0, d1⟩ := cc
  go_wp2_with fail
  obtain ⟨k1, k2⟩ := HS.out.r.fill (uv 0) (uv 0)
  refine bodyPost_ret (results_row_tmp rfl _ _ (w.heap.size + 1) tnT _ (0, 0) _ rfl k1 Try.underlying24 rfl (by kernel_rfl)) rfl ?_
  exact ⟨rfl, k2⟩
theorem pShift_no_t {op : Int} (ho : ¬ (op = 96 ∨ op = 112 ∨ op = 192)) {k : Nat} (hk : k ≤ 63) (a : TN) (w : World) : Calls Try.prog 13 #[.int .i64 op, tv a, .int .i64 (k : Int), .bool true] w fun e w' => e = .returned (.tuple #[tv (0, 0), .int .i64 1]) ∧ Below w.heap.size w w' := by
  obtain ⟨v, m⟩ := a
  have F := Lib.hid (SB.new v m w)
  have CO := Lib.hid (sop_no ho k true)
  have hn : ∀ W, (binOp .eql 59 .nilFunc .nilFunc).run Try.prog W = .ok (.bool true) W := fun W => rfl
  have k2 : IntKind.u64.wrap (k : Int) = (k : Int) := by rw [IntKind.wrap_u64]; omega
  have k3 : decide ((63 : Int) < (k : Int)) = false := decide_eq_false (by omega)
  have k5 : decide ((k : Int) < 0) = false := decide_eq_false (by omega)
  clear hk ho
  go_enter Try.func13, Try.ntmps13
  go_upto_region 1 with fail
  have hs := F.out
  clear F
  generalize (w.alloc (.cells #[uv v, uv m] tnT)).alloc (.cells #[.int .u64 0, .int .u64 0] tnT) = wz at *
  have HS := Lib.hid hs
  clear hs
  go_upto_region 4 with (go_at_call 34; refine (CO.out wz).mono ?_; rintro e w1 ⟨rfl, hb⟩; have HS1 := Lib.hid (HS.out.call hb); clear hb)
  clear CO HS
  have HS := Lib.hid HS1.out
  clear HS1
  have ff := HS.out.r.frozen
  obtain ⟨f0, f1⟩ := ff
  have cc := HS.out.r.cells
  obtain ⟨x0, x1, d0, d1⟩ := cc
  go_wp2_with fail
  obtain ⟨k1, k2⟩ := HS.out.r.fill (uv 0) (uv 0)
  refine bodyPost_ret (results_row_tmp rfl _ _ (w.heap.size + 1) tnT _ (0, 0) _ rfl k1 Try.underlying24 rfl (by kernel_rfl)) rfl ?_
  exact ⟨rfl, k2⟩
theorem pShift_any (op by_ : Int) (wide : Bool) (a : TN) (w : World) : Calls Try.prog 13 #[.int .i64 op, tv a, .int .i64 by_, .bool wide] w fun e w' => e = .returned (.tuple #[tv (shT op by_ wide a), .int .i64 (shX op by_ wide)]) ∧ Below w.heap.size w w' := by
  unfold shT shX
  by_cases h : shIs op by_ wide
  · rw [if_pos h, if_pos h]
    obtain ⟨ho, h0, h1⟩ := h
    obtain ⟨k, rfl⟩ : ∃ k : Nat, by_ = (k : Int) := ⟨by_.toNat, by omega⟩
    rw [Int.toNat_natCast]
    cases wide
    · have hk : k ≤ 31 := by simp at h1; omega
      rcases ho with rfl | rfl | rfl
      · exact pShift_96n hk a w
      · exact pShift_112n hk a w
      · exact pShift_192n hk a w
    · have hk : k ≤ 63 := by simp at h1; omega
      rcases ho with rfl | rfl | rfl
      · exact pShift_96w hk a w
      · exact pShift_112w hk a w
      · exact pShift_192w hk a w
  · rw [if_neg h, if_neg h]
    by_cases h0 : by_ < 0
    · cases wide
      · exact pShift_neg_f op h0 a w
      · exact pShift_neg_t op h0 a w
    by_cases h1 : 63 < by_
    · cases wide
      · exact pShift_far_f op h0 h1 a w
      · exact pShift_far_t op h0 h1 a w
    obtain ⟨k, rfl⟩ : ∃ k : Nat, by_ = (k : Int) := ⟨by_.toNat, by omega⟩
    cases wide
    · by_cases h2 : (31 : Int) < (k : Int)
      · exact pShift_half op h0 h1 h2 a w
      · exact pShift_no_f (fun ho => h ⟨ho, by omega, by simp; omega⟩) (by omega) a w
    · exact pShift_no_t (fun ho => h ⟨ho, by omega, by simp; omega⟩) (by omega) a w
end Go.Proofs.Ythgfaajclghjhaa
