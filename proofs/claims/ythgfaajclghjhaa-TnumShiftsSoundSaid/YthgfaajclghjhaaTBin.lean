/-
  The reference of layer 15: Bin, Cast, shift, Shift.
-/
import Derived.Test.YthgfaajclghjhaaTTimes
namespace Go.Proofs.Ythgfaajclghjhaa
open Go Go.RowKit Tn
set_option linter.unusedVariables false
set_option linter.unusedSimpArgs false
set_option maxRecDepth 100000
/-- What Bin answers, and its error. -/
def binT (op : Int) (a b : TN) : TN := if opIs op then tBin op a b else (0, 0)
def binX (op : Int) : Int := if opIs op then 0 else 1
theorem not_op {op : Int} (h : ¬ opIs op) : op ≠ 0 ∧ op ≠ 16 ∧ op ≠ 32 ∧ op ≠ 64 ∧ op ≠ 80 ∧ op ≠ 160 := by
  unfold opIs at h
  refine ⟨fun e => h (.inl e), fun e => h (.inr (.inl e)), fun e => h (.inr (.inr (.inl e))), fun e => h (.inr (.inr (.inr (.inl e)))), fun e => h (.inr (.inr (.inr (.inr (.inl e))))), fun e => h (.inr (.inr (.inr (.inr (.inr e)))))⟩
set_option maxHeartbeats 1000000 in
theorem xbin_any (op : Int) (a b : TN) (w : World) : Calls Try.prog 11 #[.int .i64 op, tv a, tv b] w fun e w' => e = .returned (.tuple #[tv (binT op a b), .int .i64 (binX op)]) ∧ Below w.heap.size w w' := by
  have F := Lib.hid (two_boxes a b w)
  by_cases ho : opIs op
  · unfold binT binX
    rw [if_pos ho, if_pos ho]
    rcases ho with rfl | rfl | rfl | rfl | rfl | rfl
    · have CA := Lib.hid (xadd_any a b)
      obtain ⟨v, m⟩ := a
      obtain ⟨p, q⟩ := b
      go_enter Try.func11, Try.ntmps11
      go_upto_region 1 with fail
      obtain ⟨⟨c0, c1, c2, c3⟩, hr⟩ := F.out
      clear F
      generalize ((w.alloc (.cells #[uv v, uv m] tnT)).alloc (.cells #[uv p, uv q] tnT)).alloc (.cells #[.int .u64 0, .int .u64 0] tnT) = wz at *
      have HR := Lib.hid hr
      clear hr
      go_wp2_with (go_at_call 31; refine (CA.out wz).mono ?_; rintro e w1 ⟨rfl, hb⟩; have hr := HR.out.keeps (keeps_below hb); have ff := hr.frozen; obtain ⟨f0, f1⟩ := ff; have cc := hr.cells; obtain ⟨x0, x1, d0, d1⟩ := cc; have HR1 := Lib.hid hr; clear hr hb)
      obtain ⟨k1, k2⟩ := HR1.out.fill (uv ((tAdd v m p q).1)) (uv ((tAdd v m p q).2))
      refine bodyPost_ret (results_row_tmp rfl _ _ (w.heap.size + 1 + 1) tnT _ (0, 0) _ rfl k1 Try.underlying24 rfl (by kernel_rfl)) rfl ?_
      exact ⟨rfl, k2⟩
    · obtain ⟨v, m⟩ := a
      obtain ⟨p, q⟩ := b
      have r1 := n64_xor
      have r2 := n64_andNot
      have r3 := n64_or
      have r4 := n64_and
      have r5 := n64_addw
      have r6 := n64_subw
      have r7 := n64_add
      have r8 := n64_sub
      go_enter Try.func11, Try.ntmps11
      go_upto_region 1 with fail
      obtain ⟨⟨c0, c1, c2, c3⟩, hr⟩ := F.out
      clear F
      generalize ((w.alloc (.cells #[uv v, uv m] tnT)).alloc (.cells #[uv p, uv q] tnT)).alloc (.cells #[.int .u64 0, .int .u64 0] tnT) = wz at *
      obtain ⟨f0, f1⟩ := hr.frozen
      obtain ⟨x0, x1, d0, d1⟩ := hr.cells
      have HR := Lib.hid hr
      clear hr
      go_wp2_with fail
      obtain ⟨k1, k2⟩ := HR.out.fill (uv ((tSub v m p q).1)) (uv ((tSub v m p q).2))
      refine bodyPost_ret (results_row_tmp rfl _ _ (w.heap.size + 1 + 1) tnT _ (0, 0) _ rfl k1 Try.underlying24 rfl (by kernel_rfl)) rfl ?_
      exact ⟨rfl, k2⟩
    · have CA := Lib.hid (xtimes_any a b)
      obtain ⟨v, m⟩ := a
      obtain ⟨p, q⟩ := b
      go_enter Try.func11, Try.ntmps11
      go_upto_region 1 with fail
      obtain ⟨⟨c0, c1, c2, c3⟩, hr⟩ := F.out
      clear F
      generalize ((w.alloc (.cells #[uv v, uv m] tnT)).alloc (.cells #[uv p, uv q] tnT)).alloc (.cells #[.int .u64 0, .int .u64 0] tnT) = wz at *
      have HR := Lib.hid hr
      clear hr
      go_wp2_with (go_at_call 32; refine (CA.out wz).mono ?_; rintro e w1 ⟨rfl, hb⟩; have hr := HR.out.keeps (keeps_below hb); have ff := hr.frozen; obtain ⟨f0, f1⟩ := ff; have cc := hr.cells; obtain ⟨x0, x1, d0, d1⟩ := cc; have HR1 := Lib.hid hr; clear hr hb)
      obtain ⟨k1, k2⟩ := HR1.out.fill (uv ((tMul (v, m) (p, q)).1)) (uv ((tMul (v, m) (p, q)).2))
      refine bodyPost_ret (results_row_tmp rfl _ _ (w.heap.size + 1 + 1) tnT _ (0, 0) _ rfl k1 Try.underlying24 rfl (by kernel_rfl)) rfl ?_
      exact ⟨rfl, k2⟩
    · obtain ⟨v, m⟩ := a
      obtain ⟨p, q⟩ := b
      have r1 := n64_xor
      have r2 := n64_andNot
      have r3 := n64_or
      have r4 := n64_and
      have r5 := n64_addw
      have r6 := n64_subw
      have r7 := n64_add
      have r8 := n64_sub
      go_enter Try.func11, Try.ntmps11
      go_upto_region 1 with fail
      obtain ⟨⟨c0, c1, c2, c3⟩, hr⟩ := F.out
      clear F
      generalize ((w.alloc (.cells #[uv v, uv m] tnT)).alloc (.cells #[uv p, uv q] tnT)).alloc (.cells #[.int .u64 0, .int .u64 0] tnT) = wz at *
      obtain ⟨f0, f1⟩ := hr.frozen
      obtain ⟨x0, x1, d0, d1⟩ := hr.cells
      have HR := Lib.hid hr
      clear hr
      go_wp2_with fail
      obtain ⟨k1, k2⟩ := HR.out.fill (uv (v ||| p)) (uv ((m ||| q) &&& ~~~(v ||| p)))
      refine bodyPost_ret (results_row_tmp rfl _ _ (w.heap.size + 1 + 1) tnT _ (0, 0) _ rfl k1 Try.underlying24 rfl (by kernel_rfl)) rfl ?_
      exact ⟨rfl, k2⟩
    · obtain ⟨v, m⟩ := a
      obtain ⟨p, q⟩ := b
      have r1 := n64_xor
      have r2 := n64_andNot
      have r3 := n64_or
      have r4 := n64_and
      have r5 := n64_addw
      have r6 := n64_subw
      have r7 := n64_add
      have r8 := n64_sub
      go_enter Try.func11, Try.ntmps11
      go_upto_region 1 with fail
      obtain ⟨⟨c0, c1, c2, c3⟩, hr⟩ := F.out
      clear F
      generalize ((w.alloc (.cells #[uv v, uv m] tnT)).alloc (.cells #[uv p, uv q] tnT)).alloc (.cells #[.int .u64 0, .int .u64 0] tnT) = wz at *
      obtain ⟨f0, f1⟩ := hr.frozen
      obtain ⟨x0, x1, d0, d1⟩ := hr.cells
      have HR := Lib.hid hr
      clear hr
      go_wp2_with fail
      obtain ⟨k1, k2⟩ := HR.out.fill (uv (v &&& p)) (uv (((v ||| m) &&& (p ||| q)) &&& ~~~(v &&& p)))
      refine bodyPost_ret (results_row_tmp rfl _ _ (w.heap.size + 1 + 1) tnT _ (0, 0) _ rfl k1 Try.underlying24 rfl (by kernel_rfl)) rfl ?_
      exact ⟨rfl, k2⟩
    · obtain ⟨v, m⟩ := a
      obtain ⟨p, q⟩ := b
      have r1 := n64_xor
      have r2 := n64_andNot
      have r3 := n64_or
      have r4 := n64_and
      have r5 := n64_addw
      have r6 := n64_subw
      have r7 := n64_add
      have r8 := n64_sub
      go_enter Try.func11, Try.ntmps11
      go_upto_region 1 with fail
      obtain ⟨⟨c0, c1, c2, c3⟩, hr⟩ := F.out
      clear F
      generalize ((w.alloc (.cells #[uv v, uv m] tnT)).alloc (.cells #[uv p, uv q] tnT)).alloc (.cells #[.int .u64 0, .int .u64 0] tnT) = wz at *
      obtain ⟨f0, f1⟩ := hr.frozen
      obtain ⟨x0, x1, d0, d1⟩ := hr.cells
      have HR := Lib.hid hr
      clear hr
      go_wp2_with fail
      obtain ⟨k1, k2⟩ := HR.out.fill (uv ((v ^^^ p) &&& ~~~(m ||| q))) (uv (m ||| q))
      refine bodyPost_ret (results_row_tmp rfl _ _ (w.heap.size + 1 + 1) tnT _ (0, 0) _ rfl k1 Try.underlying24 rfl (by kernel_rfl)) rfl ?_
      exact ⟨rfl, k2⟩
  · unfold binT binX
    rw [if_neg ho, if_neg ho]
    obtain ⟨n1, n2, n3, n4, n5, n6⟩ := not_op ho
    have m1 : (op == 0) = false := by simpa using n1
    have m2 : (op == 16) = false := by simpa using n2
    have m3 : (op == 32) = false := by simpa using n3
    have m4 : (op == 64) = false := by simpa using n4
    have m5 : (op == 80) = false := by simpa using n5
    have m6 : (op == 160) = false := by simpa using n6
    clear ho n1 n2 n3 n4 n5 n6
    obtain ⟨v, m⟩ := a
    obtain ⟨p, q⟩ := b
    go_enter Try.func11, Try.ntmps11
    go_upto_region 1 with fail
    obtain ⟨⟨c0, c1, c2, c3⟩, hr⟩ := F.out
    clear F
    generalize ((w.alloc (.cells #[uv v, uv m] tnT)).alloc (.cells #[uv p, uv q] tnT)).alloc (.cells #[.int .u64 0, .int .u64 0] tnT) = wz at *
    obtain ⟨f0, f1⟩ := hr.frozen
    obtain ⟨x0, x1, d0, d1⟩ := hr.cells
    have HR := Lib.hid hr
    clear hr
    go_wp2_with fail
    obtain ⟨k1, k2⟩ := HR.out.fill (uv 0) (uv 0)
    refine bodyPost_ret (results_row_tmp rfl _ _ (w.heap.size + 1 + 1) tnT _ (0, 0) _ rfl k1 Try.underlying24 rfl (by kernel_rfl)) rfl ?_
    exact ⟨rfl, k2⟩
end Go.Proofs.Ythgfaajclghjhaa
