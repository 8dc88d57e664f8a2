/-
  Package tnum: add, less, and, or, xor of known.
-/
import Derived.Test.YtjkgbghikhbecaaDoorPSmall
namespace Go.Proofs.YtjkgbghikhbecaaDoor
open Go Go.RowKit Go.Maps Tn
set_option linter.unusedVariables false
set_option linter.unusedSimpArgs false
set_option maxRecDepth 100000
theorem kadd_any (a b : TN) (w : World) : Calls Tryd.prog 80 #[tv a, tv b] w fun e w' => e = .returned (tv (tAdd a.1 a.2 b.1 b.2)) ∧ Below w.heap.size w w' := by
  obtain ⟨v, m⟩ := a
  obtain ⟨p, q⟩ := b
  have F := Lib.hid (ktwo_boxes (v, m) (p, q) w)
  have CP := Lib.hid partly_any
  have r1 := n64_xor
  have r2 := n64_andNot
  have r3 := n64_or
  have r4 := n64_and
  have r5 := n64_addw
  have r6 := n64_subw
  have r7 := n64_add
  have r8 := n64_sub
  go_enter Tryd.func80, Tryd.ntmps80
  go_upto_region 1 with fail
  obtain ⟨⟨c0, c1, c2, c3⟩, hr⟩ := F.out
  clear F
  generalize ((w.alloc (.cells #[uv v, uv m] knT)).alloc (.cells #[uv p, uv q] knT)).alloc (.cells #[.int .u64 0, .int .u64 0] knT) = wz at *
  have HR := Lib.hid hr
  clear hr
  go_wp2_with (go_at_call 44; refine (CP.out _ _ _).mono ?_; rintro e w1 ⟨rfl, hb⟩; have hr := HR.out.keeps (keeps_below hb); have ff := hr.frozen; obtain ⟨f0, f1⟩ := ff; have cc := hr.cells; obtain ⟨x0, x1, d0, d1⟩ := cc; have HR1 := Lib.hid hr; clear hr hb)
  obtain ⟨k1, k2⟩ := HR1.out.fill (uv ((v + p) &&& ~~~((((v + p) + (m + q)) ^^^ (v + p)) ||| m ||| q))) (uv ((((v + p) + (m + q)) ^^^ (v + p)) ||| m ||| q))
  refine bodyPost_ret (results_cell_row rfl _ _ (w.heap.size + 1 + 1) knT _ (0, 0) _ rfl k1 Tryd.underlying66 rfl (by kernel_rfl)) rfl ?_
  exact ⟨rfl, k2⟩
theorem kand_any (a b : TN) (w : World) : Calls Tryd.prog 84 #[tv a, tv b] w fun e w' => e = .returned (tv (tAnd a b)) ∧ Below w.heap.size w w' := by
  obtain ⟨v, m⟩ := a
  obtain ⟨p, q⟩ := b
  have F := Lib.hid (ktwo_boxes (v, m) (p, q) w)
  have r1 := n64_xor
  have r2 := n64_andNot
  have r3 := n64_or
  have r4 := n64_and
  have r5 := n64_addw
  have r6 := n64_subw
  have r7 := n64_add
  have r8 := n64_sub
  go_enter Tryd.func84, Tryd.ntmps84
  go_upto_region 1 with fail
  obtain ⟨⟨c0, c1, c2, c3⟩, hr⟩ := F.out
  clear F
  generalize ((w.alloc (.cells #[uv v, uv m] knT)).alloc (.cells #[uv p, uv q] knT)).alloc (.cells #[.int .u64 0, .int .u64 0] knT) = wz at *
  obtain ⟨f0, f1⟩ := hr.frozen
  obtain ⟨x0, x1, d0, d1⟩ := hr.cells
  have HR := Lib.hid hr
  clear hr
  go_wp2_with fail
  obtain ⟨k1, k2⟩ := HR.out.fill (uv ((tAnd (v, m) (p, q)).1)) (uv ((tAnd (v, m) (p, q)).2))
  refine bodyPost_ret (results_cell_row rfl _ _ (w.heap.size + 1 + 1) knT _ (0, 0) _ rfl k1 Tryd.underlying66 rfl (by kernel_rfl)) rfl ?_
  exact ⟨rfl, k2⟩
end Go.Proofs.YtjkgbghikhbecaaDoor
