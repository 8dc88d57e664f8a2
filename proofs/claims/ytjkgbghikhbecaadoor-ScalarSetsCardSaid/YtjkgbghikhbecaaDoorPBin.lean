/-
  Package tnum: what an op does (a method value), and Bin.
-/
import Derived.Test.YtjkgbghikhbecaaDoorPAdd
namespace Go.Proofs.YtjkgbghikhbecaaDoor
open Go Go.RowKit Go.Maps Tn
set_option linter.unusedVariables false
set_option linter.unusedSimpArgs false
set_option maxRecDepth 100000
theorem kop_0 (a : TN) (w : World) : Calls Tryd.prog 72 #[tv a, .int .i64 0] w fun e w' => e = .returned (.func (.func 80) #[tv a] #[]) ∧ Below w.heap.size w w' := by
  have B := Lib.hid (below_new w (.cells #[uv a.1, uv a.2] knT))
  obtain ⟨v, m⟩ := a
  have hmf : ∀ (fn : Fn) (first cap : Array Value) (w : World), (Instr.makeFunc fn first cap).run Tryd.prog w = .ok (.func fn first cap) w := fun _ _ _ _ => rfl
  go_enter Tryd.func72, Tryd.ntmps72
  go_wp2_with fail
  go_ret
  exact ⟨rfl, B.out⟩
theorem kop_80 (a : TN) (w : World) : Calls Tryd.prog 72 #[tv a, .int .i64 80] w fun e w' => e = .returned (.func (.func 84) #[tv a] #[]) ∧ Below w.heap.size w w' := by
  have B := Lib.hid (below_new w (.cells #[uv a.1, uv a.2] knT))
  obtain ⟨v, m⟩ := a
  have hmf : ∀ (fn : Fn) (first cap : Array Value) (w : World), (Instr.makeFunc fn first cap).run Tryd.prog w = .ok (.func fn first cap) w := fun _ _ _ _ => rfl
  go_enter Tryd.func72, Tryd.ntmps72
  go_wp2_with fail
  go_ret
  exact ⟨rfl, B.out⟩
set_option maxHeartbeats 1000000 in
theorem pbin_0 (a b : TN) (w : World) : Calls Tryd.prog 69 #[.int .i64 0, tv a, tv b] w fun e w' => e = .returned (.tuple #[tv (tAdd a.1 a.2 b.1 b.2), .int .i64 0]) ∧ Below w.heap.size w w' := by
  have F := Lib.hid (two_boxes a b w)
  have CO := Lib.hid (kop_0 a)
  have CA := Lib.hid (kadd_any a b)
  have hn : ∀ W, (binOp .eql 98 (.func (.func 80) #[tv a] #[]) .nilFunc).run Tryd.prog W = .ok (.bool false) W := fun W => rfl
  have bb := Lib.hid ((Blk.new (w.alloc (.cells #[uv a.1, uv a.2] tnT)) tnT #[uv b.1, uv b.2]).alloc (.cells #[.int .u64 0, .int .u64 0] tnT))
  generalize tAdd a.1 a.2 b.1 b.2 = U at *
  obtain ⟨v, m⟩ := a
  obtain ⟨p, q⟩ := b
  go_enter Tryd.func69, Tryd.ntmps69
  go_upto_region 1 with fail
  obtain ⟨⟨c0, c1, c2, c3⟩, hr⟩ := F.out
  have hbb := bb.out
  rw [show (w.alloc (.cells #[uv v, uv m] tnT)).heap.size = w.heap.size + 1 by simp] at hbb
  clear F bb
  generalize ((w.alloc (.cells #[uv v, uv m] tnT)).alloc (.cells #[uv p, uv q] tnT)).alloc (.cells #[.int .u64 0, .int .u64 0] tnT) = wz at *
  have HR := Lib.hid hr
  have BB := Lib.hid hbb
  clear hr hbb c2 c3
  go_upto_region 2 with (go_at_call 72; refine (CO.out wz).mono ?_; rintro e w1 ⟨rfl, hb⟩; have hr1 := HR.out.keeps (keeps_below hb); have HR1 := Lib.hid hr1; have cc := (BB.out.keeps (keeps_below hb) (fun h => h)); have c2 := cc.cell 0; have c3 := cc.cell 1; have BB1 := Lib.hid cc; clear cc hr1 hb)
  clear c0 c1 CO HR BB
  go_wp2_with (go_at_call 80; refine (CA.out w1).mono ?_; rintro e w2 ⟨rfl, hb⟩; have hr := HR1.out.keeps (keeps_below hb); have ff := hr.frozen; obtain ⟨f0, f1⟩ := ff; have cc := hr.cells; obtain ⟨x0, x1, d0, d1⟩ := cc; have HR2 := Lib.hid hr; clear hr hb)
  obtain ⟨k1, k2⟩ := HR2.out.fill (uv U.1) (uv U.2)
  refine bodyPost_ret (results_row_tmp rfl _ _ (w.heap.size + 1 + 1) tnT _ (0, 0) _ rfl k1 Tryd.underlying24 rfl (by kernel_rfl)) rfl ?_
  exact ⟨rfl, k2⟩
set_option maxHeartbeats 1000000 in
theorem pbin_80 (a b : TN) (w : World) : Calls Tryd.prog 69 #[.int .i64 80, tv a, tv b] w fun e w' => e = .returned (.tuple #[tv (tAnd a b), .int .i64 0]) ∧ Below w.heap.size w w' := by
  have F := Lib.hid (two_boxes a b w)
  have CO := Lib.hid (kop_80 a)
  have CA := Lib.hid (kand_any a b)
  have hn : ∀ W, (binOp .eql 98 (.func (.func 84) #[tv a] #[]) .nilFunc).run Tryd.prog W = .ok (.bool false) W := fun W => rfl
  have bb := Lib.hid ((Blk.new (w.alloc (.cells #[uv a.1, uv a.2] tnT)) tnT #[uv b.1, uv b.2]).alloc (.cells #[.int .u64 0, .int .u64 0] tnT))
  generalize tAnd a b = U at *
  obtain ⟨v, m⟩ := a
  obtain ⟨p, q⟩ := b
  go_enter Tryd.func69, Tryd.ntmps69
  go_upto_region 1 with fail
  obtain ⟨⟨c0, c1, c2, c3⟩, hr⟩ := F.out
  have hbb := bb.out
  rw [show (w.alloc (.cells #[uv v, uv m] tnT)).heap.size = w.heap.size + 1 by simp] at hbb
  clear F bb
  generalize ((w.alloc (.cells #[uv v, uv m] tnT)).alloc (.cells #[uv p, uv q] tnT)).alloc (.cells #[.int .u64 0, .int .u64 0] tnT) = wz at *
  have HR := Lib.hid hr
  have BB := Lib.hid hbb
  clear hr hbb c2 c3
  go_upto_region 2 with (go_at_call 72; refine (CO.out wz).mono ?_; rintro e w1 ⟨rfl, hb⟩; have hr1 := HR.out.keeps (keeps_below hb); have HR1 := Lib.hid hr1; have cc := (BB.out.keeps (keeps_below hb) (fun h => h)); have c2 := cc.cell 0; have c3 := cc.cell 1; have BB1 := Lib.hid cc; clear cc hr1 hb)
  clear c0 c1 CO HR BB
  go_wp2_with (go_at_call 84; refine (CA.out w1).mono ?_; rintro e w2 ⟨rfl, hb⟩; have hr := HR1.out.keeps (keeps_below hb); have ff := hr.frozen; obtain ⟨f0, f1⟩ := ff; have cc := hr.cells; obtain ⟨x0, x1, d0, d1⟩ := cc; have HR2 := Lib.hid hr; clear hr hb)
  obtain ⟨k1, k2⟩ := HR2.out.fill (uv U.1) (uv U.2)
  refine bodyPost_ret (results_row_tmp rfl _ _ (w.heap.size + 1 + 1) tnT _ (0, 0) _ rfl k1 Tryd.underlying24 rfl (by kernel_rfl)) rfl ?_
  exact ⟨rfl, k2⟩
end Go.Proofs.YtjkgbghikhbecaaDoor
