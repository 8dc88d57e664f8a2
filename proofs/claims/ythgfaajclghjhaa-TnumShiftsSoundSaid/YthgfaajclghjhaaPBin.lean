/-
  Package tnum: what an op does (a method value), and Bin.
-/
import Derived.Test.YthgfaajclghjhaaPTimes
namespace Go.Proofs.Ythgfaajclghjhaa
open Go Go.RowKit Go.Maps Tn
set_option linter.unusedVariables false
set_option linter.unusedSimpArgs false
set_option maxRecDepth 100000
theorem kop_0 (a : TN) (w : World) : Calls Try.prog 30 #[tv a, .int .i64 0] w fun e w' => e = .returned (.func (.func 40) #[tv a] #[]) ∧ Below w.heap.size w w' := by
  have B := Lib.hid (below_new w (.cells #[uv a.1, uv a.2] knT))
  obtain ⟨v, m⟩ := a
  have hmf : ∀ (fn : Fn) (first cap : Array Value) (w : World), (Instr.makeFunc fn first cap).run Try.prog w = .ok (.func fn first cap) w := fun _ _ _ _ => rfl
  go_enter Try.func30, Try.ntmps30
  go_wp2_with fail
  go_ret
  exact ⟨rfl, B.out⟩
theorem kop_16 (a : TN) (w : World) : Calls Try.prog 30 #[tv a, .int .i64 16] w fun e w' => e = .returned (.func (.func 41) #[tv a] #[]) ∧ Below w.heap.size w w' := by
  have B := Lib.hid (below_new w (.cells #[uv a.1, uv a.2] knT))
  obtain ⟨v, m⟩ := a
  have hmf : ∀ (fn : Fn) (first cap : Array Value) (w : World), (Instr.makeFunc fn first cap).run Try.prog w = .ok (.func fn first cap) w := fun _ _ _ _ => rfl
  go_enter Try.func30, Try.ntmps30
  go_wp2_with fail
  go_ret
  exact ⟨rfl, B.out⟩
theorem kop_32 (a : TN) (w : World) : Calls Try.prog 30 #[tv a, .int .i64 32] w fun e w' => e = .returned (.func (.func 42) #[tv a] #[]) ∧ Below w.heap.size w w' := by
  have B := Lib.hid (below_new w (.cells #[uv a.1, uv a.2] knT))
  obtain ⟨v, m⟩ := a
  have hmf : ∀ (fn : Fn) (first cap : Array Value) (w : World), (Instr.makeFunc fn first cap).run Try.prog w = .ok (.func fn first cap) w := fun _ _ _ _ => rfl
  go_enter Try.func30, Try.ntmps30
  go_wp2_with fail
  go_ret
  exact ⟨rfl, B.out⟩
theorem kop_64 (a : TN) (w : World) : Calls Try.prog 30 #[tv a, .int .i64 64] w fun e w' => e = .returned (.func (.func 43) #[tv a] #[]) ∧ Below w.heap.size w w' := by
  have B := Lib.hid (below_new w (.cells #[uv a.1, uv a.2] knT))
  obtain ⟨v, m⟩ := a
  have hmf : ∀ (fn : Fn) (first cap : Array Value) (w : World), (Instr.makeFunc fn first cap).run Try.prog w = .ok (.func fn first cap) w := fun _ _ _ _ => rfl
  go_enter Try.func30, Try.ntmps30
  go_wp2_with fail
  go_ret
  exact ⟨rfl, B.out⟩
theorem kop_80 (a : TN) (w : World) : Calls Try.prog 30 #[tv a, .int .i64 80] w fun e w' => e = .returned (.func (.func 44) #[tv a] #[]) ∧ Below w.heap.size w w' := by
  have B := Lib.hid (below_new w (.cells #[uv a.1, uv a.2] knT))
  obtain ⟨v, m⟩ := a
  have hmf : ∀ (fn : Fn) (first cap : Array Value) (w : World), (Instr.makeFunc fn first cap).run Try.prog w = .ok (.func fn first cap) w := fun _ _ _ _ => rfl
  go_enter Try.func30, Try.ntmps30
  go_wp2_with fail
  go_ret
  exact ⟨rfl, B.out⟩
theorem kop_160 (a : TN) (w : World) : Calls Try.prog 30 #[tv a, .int .i64 160] w fun e w' => e = .returned (.func (.func 45) #[tv a] #[]) ∧ Below w.heap.size w w' := by
  have B := Lib.hid (below_new w (.cells #[uv a.1, uv a.2] knT))
  obtain ⟨v, m⟩ := a
  have hmf : ∀ (fn : Fn) (first cap : Array Value) (w : World), (Instr.makeFunc fn first cap).run Try.prog w = .ok (.func fn first cap) w := fun _ _ _ _ => rfl
  go_enter Try.func30, Try.ntmps30
  go_wp2_with fail
  go_ret
  exact ⟨rfl, B.out⟩
theorem kop_no {op : Int} (h : ¬ opIs op) (a : TN) (w : World) : Calls Try.prog 30 #[tv a, .int .i64 op] w fun e w' => e = .returned .nilFunc ∧ Below w.heap.size w w' := by
  have B := Lib.hid (below_new w (.cells #[uv a.1, uv a.2] knT))
  obtain ⟨v, m⟩ := a
  obtain ⟨h0, h1, h2, h3, h4, h5⟩ := not_op h
  have e0 : (op == 0) = false := by simpa using h0
  have e1 : (op == 16) = false := by simpa using h1
  have e2 : (op == 32) = false := by simpa using h2
  have e3 : (op == 64) = false := by simpa using h3
  have e4 : (op == 80) = false := by simpa using h4
  have e5 : (op == 160) = false := by simpa using h5
  clear h h0 h1 h2 h3 h4 h5
  have hmf : ∀ (fn : Fn) (first cap : Array Value) (w : World), (Instr.makeFunc fn first cap).run Try.prog w = .ok (.func fn first cap) w := fun _ _ _ _ => rfl
  go_enter Try.func30, Try.ntmps30
  go_wp2_with fail
  go_ret
  exact ⟨rfl, B.out⟩
set_option maxHeartbeats 1000000 in
theorem pbin_0 (a b : TN) (w : World) : Calls Try.prog 10 #[.int .i64 0, tv a, tv b] w fun e w' => e = .returned (.tuple #[tv (tAdd a.1 a.2 b.1 b.2), .int .i64 0]) ∧ Below w.heap.size w w' := by
  have F := Lib.hid (two_boxes a b w)
  have CO := Lib.hid (kop_0 a)
  have CA := Lib.hid (kadd_any a b)
  have hn : ∀ W, (binOp .eql 55 (.func (.func 40) #[tv a] #[]) .nilFunc).run Try.prog W = .ok (.bool false) W := fun W => rfl
  have bb := Lib.hid ((Blk.new (w.alloc (.cells #[uv a.1, uv a.2] tnT)) tnT #[uv b.1, uv b.2]).alloc (.cells #[.int .u64 0, .int .u64 0] tnT))
  generalize tAdd a.1 a.2 b.1 b.2 = U at *
  obtain ⟨v, m⟩ := a
  obtain ⟨p, q⟩ := b
  go_enter Try.func10, Try.ntmps10
  go_upto_region 1 with fail
  obtain ⟨⟨c0, c1, c2, c3⟩, hr⟩ := F.out
  have hbb := bb.out
  rw [show (w.alloc (.cells #[uv v, uv m] tnT)).heap.size = w.heap.size + 1 by simp] at hbb
  clear F bb
  generalize ((w.alloc (.cells #[uv v, uv m] tnT)).alloc (.cells #[uv p, uv q] tnT)).alloc (.cells #[.int .u64 0, .int .u64 0] tnT) = wz at *
  have HR := Lib.hid hr
  have BB := Lib.hid hbb
  clear hr hbb c2 c3
  go_upto_region 2 with (go_at_call 30; refine (CO.out wz).mono ?_; rintro e w1 ⟨rfl, hb⟩; have hr1 := HR.out.keeps (keeps_below hb); have HR1 := Lib.hid hr1; have cc := (BB.out.keeps (keeps_below hb) (fun h => h)); have c2 := cc.cell 0; have c3 := cc.cell 1; have BB1 := Lib.hid cc; clear cc hr1 hb)
  clear c0 c1 CO HR BB
  go_wp2_with (go_at_call 40; refine (CA.out w1).mono ?_; rintro e w2 ⟨rfl, hb⟩; have hr := HR1.out.keeps (keeps_below hb); have ff := hr.frozen; obtain ⟨f0, f1⟩ := ff; have cc := hr.cells; obtain ⟨x0, x1, d0, d1⟩ := cc; have HR2 := Lib.hid hr; clear hr hb)
  obtain ⟨k1, k2⟩ := HR2.out.fill (uv U.1) (uv U.2)
  refine bodyPost_ret (results_row_tmp rfl _ _ (w.heap.size + 1 + 1) tnT _ (0, 0) _ rfl k1 Try.underlying24 rfl (by kernel_rfl)) rfl ?_
  exact ⟨rfl, k2⟩
set_option maxHeartbeats 1000000 in
theorem pbin_16 (a b : TN) (w : World) : Calls Try.prog 10 #[.int .i64 16, tv a, tv b] w fun e w' => e = .returned (.tuple #[tv (tSub a.1 a.2 b.1 b.2), .int .i64 0]) ∧ Below w.heap.size w w' := by
  have F := Lib.hid (two_boxes a b w)
  have CO := Lib.hid (kop_16 a)
  have CA := Lib.hid (kless_any a b)
  have hn : ∀ W, (binOp .eql 55 (.func (.func 41) #[tv a] #[]) .nilFunc).run Try.prog W = .ok (.bool false) W := fun W => rfl
  have bb := Lib.hid ((Blk.new (w.alloc (.cells #[uv a.1, uv a.2] tnT)) tnT #[uv b.1, uv b.2]).alloc (.cells #[.int .u64 0, .int .u64 0] tnT))
  generalize tSub a.1 a.2 b.1 b.2 = U at *
  obtain ⟨v, m⟩ := a
  obtain ⟨p, q⟩ := b
  go_enter Try.func10, Try.ntmps10
  go_upto_region 1 with fail
  obtain ⟨⟨c0, c1, c2, c3⟩, hr⟩ := F.out
  have hbb := bb.out
  rw [show (w.alloc (.cells #[uv v, uv m] tnT)).heap.size = w.heap.size + 1 by simp] at hbb
  clear F bb
  generalize ((w.alloc (.cells #[uv v, uv m] tnT)).alloc (.cells #[uv p, uv q] tnT)).alloc (.cells #[.int .u64 0, .int .u64 0] tnT) = wz at *
  have HR := Lib.hid hr
  have BB := Lib.hid hbb
  clear hr hbb c2 c3
  go_upto_region 2 with (go_at_call 30; refine (CO.out wz).mono ?_; rintro e w1 ⟨rfl, hb⟩; have hr1 := HR.out.keeps (keeps_below hb); have HR1 := Lib.hid hr1; have cc := (BB.out.keeps (keeps_below hb) (fun h => h)); have c2 := cc.cell 0; have c3 := cc.cell 1; have BB1 := Lib.hid cc; clear cc hr1 hb)
  clear c0 c1 CO HR BB
  go_wp2_with (go_at_call 41; refine (CA.out w1).mono ?_; rintro e w2 ⟨rfl, hb⟩; have hr := HR1.out.keeps (keeps_below hb); have ff := hr.frozen; obtain ⟨f0, f1⟩ := ff; have cc := hr.cells; obtain ⟨x0, x1, d0, d1⟩ := cc; have HR2 := Lib.hid hr; clear hr hb)
  obtain ⟨k1, k2⟩ := HR2.out.fill (uv U.1) (uv U.2)
  refine bodyPost_ret (results_row_tmp rfl _ _ (w.heap.size + 1 + 1) tnT _ (0, 0) _ rfl k1 Try.underlying24 rfl (by kernel_rfl)) rfl ?_
  exact ⟨rfl, k2⟩
set_option maxHeartbeats 1000000 in
theorem pbin_32 (a b : TN) (w : World) : Calls Try.prog 10 #[.int .i64 32, tv a, tv b] w fun e w' => e = .returned (.tuple #[tv (tMul a b), .int .i64 0]) ∧ Below w.heap.size w w' := by
  have F := Lib.hid (two_boxes a b w)
  have CO := Lib.hid (kop_32 a)
  have CA := Lib.hid (ktimes_any a b)
  have hn : ∀ W, (binOp .eql 55 (.func (.func 42) #[tv a] #[]) .nilFunc).run Try.prog W = .ok (.bool false) W := fun W => rfl
  have bb := Lib.hid ((Blk.new (w.alloc (.cells #[uv a.1, uv a.2] tnT)) tnT #[uv b.1, uv b.2]).alloc (.cells #[.int .u64 0, .int .u64 0] tnT))
  generalize tMul a b = U at *
  obtain ⟨v, m⟩ := a
  obtain ⟨p, q⟩ := b
  go_enter Try.func10, Try.ntmps10
  go_upto_region 1 with fail
  obtain ⟨⟨c0, c1, c2, c3⟩, hr⟩ := F.out
  have hbb := bb.out
  rw [show (w.alloc (.cells #[uv v, uv m] tnT)).heap.size = w.heap.size + 1 by simp] at hbb
  clear F bb
  generalize ((w.alloc (.cells #[uv v, uv m] tnT)).alloc (.cells #[uv p, uv q] tnT)).alloc (.cells #[.int .u64 0, .int .u64 0] tnT) = wz at *
  have HR := Lib.hid hr
  have BB := Lib.hid hbb
  clear hr hbb c2 c3
  go_upto_region 2 with (go_at_call 30; refine (CO.out wz).mono ?_; rintro e w1 ⟨rfl, hb⟩; have hr1 := HR.out.keeps (keeps_below hb); have HR1 := Lib.hid hr1; have cc := (BB.out.keeps (keeps_below hb) (fun h => h)); have c2 := cc.cell 0; have c3 := cc.cell 1; have BB1 := Lib.hid cc; clear cc hr1 hb)
  clear c0 c1 CO HR BB
  go_wp2_with (go_at_call 42; refine (CA.out w1).mono ?_; rintro e w2 ⟨rfl, hb⟩; have hr := HR1.out.keeps (keeps_below hb); have ff := hr.frozen; obtain ⟨f0, f1⟩ := ff; have cc := hr.cells; obtain ⟨x0, x1, d0, d1⟩ := cc; have HR2 := Lib.hid hr; clear hr hb)
  obtain ⟨k1, k2⟩ := HR2.out.fill (uv U.1) (uv U.2)
  refine bodyPost_ret (results_row_tmp rfl _ _ (w.heap.size + 1 + 1) tnT _ (0, 0) _ rfl k1 Try.underlying24 rfl (by kernel_rfl)) rfl ?_
  exact ⟨rfl, k2⟩
set_option maxHeartbeats 1000000 in
theorem pbin_64 (a b : TN) (w : World) : Calls Try.prog 10 #[.int .i64 64, tv a, tv b] w fun e w' => e = .returned (.tuple #[tv (tOr a b), .int .i64 0]) ∧ Below w.heap.size w w' := by
  have F := Lib.hid (two_boxes a b w)
  have CO := Lib.hid (kop_64 a)
  have CA := Lib.hid (kor_any a b)
  have hn : ∀ W, (binOp .eql 55 (.func (.func 43) #[tv a] #[]) .nilFunc).run Try.prog W = .ok (.bool false) W := fun W => rfl
  have bb := Lib.hid ((Blk.new (w.alloc (.cells #[uv a.1, uv a.2] tnT)) tnT #[uv b.1, uv b.2]).alloc (.cells #[.int .u64 0, .int .u64 0] tnT))
  generalize tOr a b = U at *
  obtain ⟨v, m⟩ := a
  obtain ⟨p, q⟩ := b
  go_enter Try.func10, Try.ntmps10
  go_upto_region 1 with fail
  obtain ⟨⟨c0, c1, c2, c3⟩, hr⟩ := F.out
  have hbb := bb.out
  rw [show (w.alloc (.cells #[uv v, uv m] tnT)).heap.size = w.heap.size + 1 by simp] at hbb
  clear F bb
  generalize ((w.alloc (.cells #[uv v, uv m] tnT)).alloc (.cells #[uv p, uv q] tnT)).alloc (.cells #[.int .u64 0, .int .u64 0] tnT) = wz at *
  have HR := Lib.hid hr
  have BB := Lib.hid hbb
  clear hr hbb c2 c3
  go_upto_region 2 with (go_at_call 30; refine (CO.out wz).mono ?_; rintro e w1 ⟨rfl, hb⟩; have hr1 := HR.out.keeps (keeps_below hb); have HR1 := Lib.hid hr1; have cc := (BB.out.keeps (keeps_below hb) (fun h => h)); have c2 := cc.cell 0; have c3 := cc.cell 1; have BB1 := Lib.hid cc; clear cc hr1 hb)
  clear c0 c1 CO HR BB
  go_wp2_with (go_at_call 43; refine (CA.out w1).mono ?_; rintro e w2 ⟨rfl, hb⟩; have hr := HR1.out.keeps (keeps_below hb); have ff := hr.frozen; obtain ⟨f0, f1⟩ := ff; have cc := hr.cells; obtain ⟨x0, x1, d0, d1⟩ := cc; have HR2 := Lib.hid hr; clear hr hb)
  obtain ⟨k1, k2⟩ := HR2.out.fill (uv U.1) (uv U.2)
  refine bodyPost_ret (results_row_tmp rfl _ _ (w.heap.size + 1 + 1) tnT _ (0, 0) _ rfl k1 Try.underlying24 rfl (by kernel_rfl)) rfl ?_
  exact ⟨rfl, k2⟩
set_option maxHeartbeats 1000000 in
theorem pbin_80 (a b : TN) (w : World) : Calls Try.prog 10 #[.int .i64 80, tv a, tv b] w fun e w' => e = .returned (.tuple #[tv (tAnd a b), .int .i64 0]) ∧ Below w.heap.size w w' := by
  have F := Lib.hid (two_boxes a b w)
  have CO := Lib.hid (kop_80 a)
  have CA := Lib.hid (kand_any a b)
  have hn : ∀ W, (binOp .eql 55 (.func (.func 44) #[tv a] #[]) .nilFunc).run Try.prog W = .ok (.bool false) W := fun W => rfl
  have bb := Lib.hid ((Blk.new (w.alloc (.cells #[uv a.1, uv a.2] tnT)) tnT #[uv b.1, uv b.2]).alloc (.cells #[.int .u64 0, .int .u64 0] tnT))
  generalize tAnd a b = U at *
  obtain ⟨v, m⟩ := a
  obtain ⟨p, q⟩ := b
  go_enter Try.func10, Try.ntmps10
  go_upto_region 1 with fail
  obtain ⟨⟨c0, c1, c2, c3⟩, hr⟩ := F.out
  have hbb := bb.out
  rw [show (w.alloc (.cells #[uv v, uv m] tnT)).heap.size = w.heap.size + 1 by simp] at hbb
  clear F bb
  generalize ((w.alloc (.cells #[uv v, uv m] tnT)).alloc (.cells #[uv p, uv q] tnT)).alloc (.cells #[.int .u64 0, .int .u64 0] tnT) = wz at *
  have HR := Lib.hid hr
  have BB := Lib.hid hbb
  clear hr hbb c2 c3
  go_upto_region 2 with (go_at_call 30; refine (CO.out wz).mono ?_; rintro e w1 ⟨rfl, hb⟩; have hr1 := HR.out.keeps (keeps_below hb); have HR1 := Lib.hid hr1; have cc := (BB.out.keeps (keeps_below hb) (fun h => h)); have c2 := cc.cell 0; have c3 := cc.cell 1; have BB1 := Lib.hid cc; clear cc hr1 hb)
  clear c0 c1 CO HR BB
  go_wp2_with (go_at_call 44; refine (CA.out w1).mono ?_; rintro e w2 ⟨rfl, hb⟩; have hr := HR1.out.keeps (keeps_below hb); have ff := hr.frozen; obtain ⟨f0, f1⟩ := ff; have cc := hr.cells; obtain ⟨x0, x1, d0, d1⟩ := cc; have HR2 := Lib.hid hr; clear hr hb)
  obtain ⟨k1, k2⟩ := HR2.out.fill (uv U.1) (uv U.2)
  refine bodyPost_ret (results_row_tmp rfl _ _ (w.heap.size + 1 + 1) tnT _ (0, 0) _ rfl k1 Try.underlying24 rfl (by kernel_rfl)) rfl ?_
  exact ⟨rfl, k2⟩
set_option maxHeartbeats 1000000 in
theorem pbin_160 (a b : TN) (w : World) : Calls Try.prog 10 #[.int .i64 160, tv a, tv b] w fun e w' => e = .returned (.tuple #[tv (tXor a b), .int .i64 0]) ∧ Below w.heap.size w w' := by
  have F := Lib.hid (two_boxes a b w)
  have CO := Lib.hid (kop_160 a)
  have CA := Lib.hid (kxor_any a b)
  have hn : ∀ W, (binOp .eql 55 (.func (.func 45) #[tv a] #[]) .nilFunc).run Try.prog W = .ok (.bool false) W := fun W => rfl
  have bb := Lib.hid ((Blk.new (w.alloc (.cells #[uv a.1, uv a.2] tnT)) tnT #[uv b.1, uv b.2]).alloc (.cells #[.int .u64 0, .int .u64 0] tnT))
  generalize tXor a b = U at *
  obtain ⟨v, m⟩ := a
  obtain ⟨p, q⟩ := b
  go_enter Try.func10, Try.ntmps10
  go_upto_region 1 with fail
  obtain ⟨⟨c0, c1, c2, c3⟩, hr⟩ := F.out
  have hbb := bb.out
  rw [show (w.alloc (.cells #[uv v, uv m] tnT)).heap.size = w.heap.size + 1 by simp] at hbb
  clear F bb
  generalize ((w.alloc (.cells #[uv v, uv m] tnT)).alloc (.cells #[uv p, uv q] tnT)).alloc (.cells #[.int .u64 0, .int .u64 0] tnT) = wz at *
  have HR := Lib.hid hr
  have BB := Lib.hid hbb
  clear hr hbb c2 c3
  go_upto_region 2 with (go_at_call 30; refine (CO.out wz).mono ?_; rintro e w1 ⟨rfl, hb⟩; have hr1 := HR.out.keeps (keeps_below hb); have HR1 := Lib.hid hr1; have cc := (BB.out.keeps (keeps_below hb) (fun h => h)); have c2 := cc.cell 0; have c3 := cc.cell 1; have BB1 := Lib.hid cc; clear cc hr1 hb)
  clear c0 c1 CO HR BB
  go_wp2_with (go_at_call 45; refine (CA.out w1).mono ?_; rintro e w2 ⟨rfl, hb⟩; have hr := HR1.out.keeps (keeps_below hb); have ff := hr.frozen; obtain ⟨f0, f1⟩ := ff; have cc := hr.cells; obtain ⟨x0, x1, d0, d1⟩ := cc; have HR2 := Lib.hid hr; clear hr hb)
  obtain ⟨k1, k2⟩ := HR2.out.fill (uv U.1) (uv U.2)
  refine bodyPost_ret (results_row_tmp rfl _ _ (w.heap.size + 1 + 1) tnT _ (0, 0) _ rfl k1 Try.underlying24 rfl (by kernel_rfl)) rfl ?_
  exact ⟨rfl, k2⟩
theorem pbin_no {op : Int} (h : ¬ opIs op) (a b : TN) (w : World) : Calls Try.prog 10 #[.int .i64 op, tv a, tv b] w fun e w' => e = .returned (.tuple #[tv (0, 0), .int .i64 1]) ∧ Below w.heap.size w w' := by
  have F := Lib.hid (two_boxes a b w)
  have CO := Lib.hid (kop_no h a)
  have hn : ∀ W, (binOp .eql 55 .nilFunc .nilFunc).run Try.prog W = .ok (.bool true) W := fun W => rfl
  clear h
  obtain ⟨v, m⟩ := a
  obtain ⟨p, q⟩ := b
  go_enter Try.func10, Try.ntmps10
  go_upto_region 1 with fail
  obtain ⟨⟨c0, c1, c2, c3⟩, hr⟩ := F.out
  clear F c2 c3
  generalize ((w.alloc (.cells #[uv v, uv m] tnT)).alloc (.cells #[uv p, uv q] tnT)).alloc (.cells #[.int .u64 0, .int .u64 0] tnT) = wz at *
  have HR := Lib.hid hr
  clear hr
  go_upto_region 2 with (go_at_call 30; refine (CO.out wz).mono ?_; rintro e w1 ⟨rfl, hb⟩; have hr := HR.out.keeps (keeps_below hb); have ff := hr.frozen; obtain ⟨f0, f1⟩ := ff; have cc := hr.cells; obtain ⟨x0, x1, d0, d1⟩ := cc; have HR1 := Lib.hid hr; clear hr hb)
  clear c0 c1 CO HR
  go_wp2_with fail
  obtain ⟨k1, k2⟩ := HR1.out.fill (uv 0) (uv 0)
  refine bodyPost_ret (results_row_tmp rfl _ _ (w.heap.size + 1 + 1) tnT _ (0, 0) _ rfl k1 Try.underlying24 rfl (by kernel_rfl)) rfl ?_
  exact ⟨rfl, k2⟩
theorem pbin_any (op : Int) (a b : TN) (w : World) : Calls Try.prog 10 #[.int .i64 op, tv a, tv b] w fun e w' => e = .returned (.tuple #[tv (binT op a b), .int .i64 (binX op)]) ∧ Below w.heap.size w w' := by
  by_cases ho : opIs op
  · unfold binT binX
    rw [if_pos ho, if_pos ho]
    rcases ho with rfl | rfl | rfl | rfl | rfl | rfl
    · exact pbin_0 a b w
    · exact pbin_16 a b w
    · exact pbin_32 a b w
    · exact pbin_64 a b w
    · exact pbin_80 a b w
    · exact pbin_160 a b w
  · unfold binT binX
    rw [if_neg ho, if_neg ho]
    exact pbin_no ho a b w
end Go.Proofs.Ythgfaajclghjhaa
