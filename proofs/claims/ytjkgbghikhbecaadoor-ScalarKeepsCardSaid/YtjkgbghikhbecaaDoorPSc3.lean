/-
  Package scalar: what is done to both halves of a span.
-/
import Derived.Test.YtjkgbghikhbecaaDoorPSc2
import Derived.Test.YtjkgbghikhbecaaDoorPShift
import Derived.Test.YtjkgbghikhbecaaDoorBinAll
import Derived.Deep.RegionHeld3
import Derived.StillTailTactics
namespace Go.Proofs.YtjkgbghikhbecaaDoor
open Go Go.RowKit Go.Maps Tn
set_option linter.unusedVariables false
set_option linter.unusedSimpArgs false
set_option maxRecDepth 100000
theorem plus_any (x y : B64) (w : World) : Calls Tryd.prog 73 #[uv x, uv y] w fun e w' => e = .returned (uv (x + y)) ∧ w = w' := by
  have r1 := n64_add
  go_enter Tryd.func73, Tryd.ntmps73
  go_wp2_with fail
  go_ret
  first | exact ⟨rfl, rfl⟩ | trivial
theorem left_two (x : B64) (w : World) : Calls Tryd.prog 65 #[uv x, .int .u64 2] w fun e w' => e = .returned (uv (x <<< 2)) ∧ w = w' := by
  have r1 : IntKind.u64.wrap (n64 x * 4) = n64 (x <<< 2) := by rw [IntKind.wrap_u64]; unfold n64; rw [BitVec.toNat_shiftLeft, Nat.shiftLeft_eq]; omega
  go_enter Tryd.func65, Tryd.ntmps65
  go_wp2_with fail
  go_ret
  first | exact ⟨rfl, rfl⟩ | trivial
theorem right_two (w : World) : Calls Tryd.prog 63 #[.int .u64 18446744073709551615, .int .u64 2] w fun e w' => e = .returned (.int .u64 4611686018427387903) ∧ w = w' := by
  go_enter Tryd.func63, Tryd.ntmps63
  go_wp2_with fail
  go_ret
  first | exact ⟨rfl, rfl⟩ | trivial
theorem alone_two (w : World) : Calls Tryd.prog 66 #[.int .u64 2] w fun e w' => e = .returned (spv (2, 2)) ∧ Below w.heap.size w w' := by
  have F := Lib.hid ((HL.start w).push spT #[.int .u64 0, .int .u64 0])
  go_enter Tryd.func66, Tryd.ntmps66
  go_upto_region 1 with fail
  have hr := F.out.rp rfl (Nat.le_refl _)
  clear F
  generalize w.alloc (.cells #[.int .u64 0, .int .u64 0] spT) = wz at *
  obtain ⟨r0, r1⟩ := hr.frozen
  obtain ⟨y0, y1, z0, z1⟩ := hr.cells
  have HR := Lib.hid hr
  clear hr
  go_wp2_with fail
  obtain ⟨k1, k2⟩ := HR.out.fill (.int .u64 2) (.int .u64 2)
  refine bodyPost_ret (results_cell_row rfl _ _ w.heap.size spT _ (0, 0) _ rfl k1 Tryd.underlying53 rfl (by kernel_rfl)) rfl ?_
  exact ⟨rfl, k2⟩
abbrev opT : TypeId := 72
abbrev opC (op : Int) : Array Value := #[.int .i64 op, .bool true, .bool false]
abbrev opv (op : Int) : Value := .agg (opC op)
theorem places_any (op : Int) (w : World) : Calls Tryd.prog 53 #[opv op] w fun e w' => e = .returned (.int .u64 63) ∧ Below w.heap.size w w' := by
  have B := Lib.hid (HL.push (HL.start w) opT (opC op))
  go_enter Tryd.func53, Tryd.ntmps53
  go_wp2_with fail
  go_ret
  exact ⟨rfl, B.out.below⟩
theorem greatest_any (op : Int) (w : World) : Calls Tryd.prog 62 #[opv op] w fun e w' => e = .returned (.int .u64 18446744073709551615) ∧ Below w.heap.size w w' := by
  have B := Lib.hid (HL.push (HL.start w) opT (opC op))
  go_enter Tryd.func62, Tryd.ntmps62
  go_wp2_with fail
  go_ret
  exact ⟨rfl, B.out.below⟩
/-- What is done to both halves, where it is done by a call that leaves the world alone. -/
theorem both_plus (a b : B64 × B64) (w : World) : Calls Tryd.prog 64 #[spv a, .func (.func 73) #[] #[], spv b] w fun e w' => e = .returned (spv (a.1 + b.1, a.2 + b.2)) ∧ Below w.heap.size w w' := by
  have F := Lib.hid (HL.three w spT spT spT (spC a) (spC b) #[.int .u64 0, .int .u64 0])
  have CP := Lib.hid (fun x y W => (plus_any x y W).mono fun e w' (hh : e = .returned (uv (x + y)) ∧ W = w') => (⟨hh.1, hh.2.symm⟩ : e = .returned (uv (x + y)) ∧ w' = W))
  go_enter Tryd.func64, Tryd.ntmps64
  go_upto_region 1 with fail
  have hb := F.out
  clear F
  generalize ((w.alloc (.cells #[uv a.1, uv a.2] spT)).alloc (.cells #[uv b.1, uv b.2] spT)).alloc (.cells #[.int .u64 0, .int .u64 0] spT) = wz at *
  obtain ⟨c0, c1⟩ := hb.all.2.2.1.two
  obtain ⟨d0, d1⟩ := hb.all.2.1.two
  have hr := hb.rp rfl (by omega)
  obtain ⟨r0, r1⟩ := hr.frozen
  obtain ⟨y0, y1, z0, z1⟩ := hr.cells
  have HR := Lib.hid hr
  clear hb hr
  go_still_tail 13, (by kernel_rfl)
  repeat still_step
  still_call (CP.out _ _ _)
  repeat still_step
  still_call (CP.out _ _ _)
  repeat still_step
  refine wpStill_nil ?_
  change wpList _ _ _ _ _ wz.drew
  have hr := HR.out.keeps (keeps_drew wz)
  clear HR c0 c1 d0 d1 r0 r1 y0 y1 z0 z1
  generalize wz.drew = wy at *
  obtain ⟨r0, r1⟩ := hr.frozen
  obtain ⟨y0, y1, z0, z1⟩ := hr.cells
  have HR := Lib.hid hr
  clear hr
  go_wp2_with fail
  obtain ⟨k1, k2⟩ := HR.out.fill (uv (a.1 + b.1)) (uv (a.2 + b.2))
  refine bodyPost_ret (results_cell_row rfl _ _ (w.heap.size + 1 + 1) spT _ (0, 0) _ rfl k1 Tryd.underlying53 rfl (by kernel_rfl)) rfl ?_
  exact ⟨rfl, k2⟩
theorem both_left (a : B64 × B64) (w : World) : Calls Tryd.prog 64 #[spv a, .func (.func 65) #[] #[], spv (2, 2)] w fun e w' => e = .returned (spv (a.1 <<< 2, a.2 <<< 2)) ∧ Below w.heap.size w w' := by
  have F := Lib.hid (HL.three w spT spT spT (spC a) #[.int .u64 2, .int .u64 2] #[.int .u64 0, .int .u64 0])
  have CP := Lib.hid (fun x W => (left_two x W).mono fun e w' (hh : e = .returned (uv (x <<< 2)) ∧ W = w') => (⟨hh.1, hh.2.symm⟩ : e = .returned (uv (x <<< 2)) ∧ w' = W))
  rw [show spv (2, 2) = .agg #[.int .u64 2, .int .u64 2] from rfl]
  go_enter Tryd.func64, Tryd.ntmps64
  go_upto_region 1 with fail
  have hb := F.out
  clear F
  generalize ((w.alloc (.cells #[uv a.1, uv a.2] spT)).alloc (.cells #[.int .u64 2, .int .u64 2] spT)).alloc (.cells #[.int .u64 0, .int .u64 0] spT) = wz at *
  obtain ⟨c0, c1⟩ := hb.all.2.2.1.two
  obtain ⟨d0, d1⟩ := hb.all.2.1.two
  have hr := hb.rp rfl (by omega)
  obtain ⟨r0, r1⟩ := hr.frozen
  obtain ⟨y0, y1, z0, z1⟩ := hr.cells
  have HR := Lib.hid hr
  clear hb hr
  go_still_tail 13, (by kernel_rfl)
  repeat still_step
  still_call (CP.out _ _)
  repeat still_step
  still_call (CP.out _ _)
  repeat still_step
  refine wpStill_nil ?_
  change wpList _ _ _ _ _ wz.drew
  have hr := HR.out.keeps (keeps_drew wz)
  clear HR c0 c1 d0 d1 r0 r1 y0 y1 z0 z1
  generalize wz.drew = wy at *
  obtain ⟨r0, r1⟩ := hr.frozen
  obtain ⟨y0, y1, z0, z1⟩ := hr.cells
  have HR := Lib.hid hr
  clear hr
  go_wp2_with fail
  obtain ⟨k1, k2⟩ := HR.out.fill (uv (a.1 <<< 2)) (uv (a.2 <<< 2))
  refine bodyPost_ret (results_cell_row rfl _ _ (w.heap.size + 1 + 1) spT _ (0, 0) _ rfl k1 Tryd.underlying53 rfl (by kernel_rfl)) rfl ?_
  exact ⟨rfl, k2⟩
theorem reach_0 (a b : B64 × B64) (h : a.2.toNat + b.2.toNat < 18446744073709551616) (w : World) : Calls Tryd.prog 70 #[.int .i64 0, spv a, spv b] w fun e w' => e = .returned (spv (a.1 + b.1, a.2 + b.2)) ∧ Below w.heap.size w w' := by
  have F := Lib.hid (HL.three w spT spT spT (spC a) (spC b) #[.int .u64 0, .int .u64 0])
  have CB := Lib.hid (fun W => both_plus a b W)
  have g0 : IntKind.u64.wrap (18446744073709551615 - n64 b.2) = 18446744073709551615 - n64 b.2 := by rw [IntKind.wrap_u64]; unfold n64; omega
  have g1 : decide (n64 a.2 ≤ 18446744073709551615 - n64 b.2) = true := decide_eq_true (by unfold n64; omega)
  clear h
  go_enter Tryd.func70, Tryd.ntmps70
  go_upto_region 1 with fail
  have hb := F.out
  clear F
  generalize ((w.alloc (.cells #[uv a.1, uv a.2] spT)).alloc (.cells #[uv b.1, uv b.2] spT)).alloc (.cells #[.int .u64 0, .int .u64 0] spT) = wz at *
  obtain ⟨c0, c1⟩ := hb.all.2.2.1.two
  obtain ⟨d0, d1⟩ := hb.all.2.1.two
  have hr := hb.rp rfl (by omega)
  have HR := Lib.hid hr
  clear hb hr
  go_wp2_with (go_at_call 64; refine (CB.out _).mono ?_; rintro e w1 ⟨rfl, hb⟩; have hr := HR.out.call hb; have rr := hr.frozen; obtain ⟨r0, r1⟩ := rr; have cc := hr.cells; obtain ⟨y0, y1, z0, z1⟩ := cc; have HR := Lib.hid hr; clear hr hb)
  obtain ⟨k1, k2⟩ := HR.out.fill (uv (a.1 + b.1)) (uv (a.2 + b.2))
  refine bodyPost_ret (results_cell_row rfl _ _ (w.heap.size + 1 + 1) spT _ (0, 0) _ rfl k1 Tryd.underlying53 rfl (by kernel_rfl)) rfl ?_
  exact ⟨rfl, k2⟩
theorem reach_80 (a b : B64 × B64) (w : World) : Calls Tryd.prog 70 #[.int .i64 80, spv a, spv b] w fun e w' => e = .returned (spv (0, minB a.2 b.2)) ∧ Below w.heap.size w w' := by
  have F := Lib.hid (HL.three w spT spT spT (spC a) (spC b) #[.int .u64 0, .int .u64 0])
  have q1 := n64_min a.2 b.2
  go_enter Tryd.func70, Tryd.ntmps70
  go_upto_region 1 with fail
  have hb := F.out
  clear F
  generalize ((w.alloc (.cells #[uv a.1, uv a.2] spT)).alloc (.cells #[uv b.1, uv b.2] spT)).alloc (.cells #[.int .u64 0, .int .u64 0] spT) = wz at *
  obtain ⟨c0, c1⟩ := hb.all.2.2.1.two
  obtain ⟨d0, d1⟩ := hb.all.2.1.two
  have hr := hb.rp rfl (by omega)
  obtain ⟨r0, r1⟩ := hr.frozen
  obtain ⟨y0, y1, z0, z1⟩ := hr.cells
  have HR := Lib.hid hr
  clear hb hr
  go_wp2_with fail
  obtain ⟨k1, k2⟩ := HR.out.fill (uv 0) (uv (minB a.2 b.2))
  refine bodyPost_ret (results_cell_row rfl _ _ (w.heap.size + 1 + 1) spT _ (0, 0) _ rfl k1 Tryd.underlying53 rfl (by kernel_rfl)) rfl ?_
  exact ⟨rfl, k2⟩
end Go.Proofs.YtjkgbghikhbecaaDoor
