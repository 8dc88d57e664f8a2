/-
  Package tnum: partly, Has, In, Cast, Meet, Join, Const, Unknown.
-/
import Derived.Test.YtjkgbghikhbecaaDoorPKit
namespace Go.Proofs.YtjkgbghikhbecaaDoor
open Go Go.RowKit Go.Maps Tn
set_option linter.unusedVariables false
set_option linter.unusedSimpArgs false
set_option maxRecDepth 100000
theorem partly_any (a b : B64) (w : World) : Calls Tryd.prog 44 #[uv a, uv b] w fun e w' => e = .returned (tv (a &&& ~~~b, b)) ∧ Below w.heap.size w w' := by
  have F := Lib.hid (kres_box w)
  have r2 := n64_andNot
  go_enter Tryd.func44, Tryd.ntmps44
  go_upto_region 1 with fail
  have hr := F.out
  clear F
  generalize w.alloc (.cells #[.int .u64 0, .int .u64 0] knT) = wz at *
  obtain ⟨f0, f1⟩ := hr.frozen
  obtain ⟨x0, x1, d0, d1⟩ := hr.cells
  have HR := Lib.hid hr
  clear hr
  go_wp2_with fail
  obtain ⟨k1, k2⟩ := HR.out.fill (uv (a &&& ~~~b)) (uv b)
  refine bodyPost_ret (results_cell_row rfl _ _ (w.heap.size) knT _ (0, 0) _ rfl k1 Tryd.underlying66 rfl (by kernel_rfl)) rfl ?_
  exact ⟨rfl, k2⟩
theorem phas_any (t : TN) (n : B64) (w : World) : Calls Tryd.prog 37 #[tv t, uv n] w fun e w' => e = .returned (.bool (decide (has t n))) ∧ Below w.heap.size w w' := by
  have B := Lib.hid (below_new w (.cells #[uv t.1, uv t.2] tnT))
  obtain ⟨v, m⟩ := t
  have E : Hid ((n64 ((v ^^^ n) &&& ~~~m) == 0) = decide (has (v, m) n)) := by
    rw [BitVec.xor_comm]
    exact n64_eq0 _
  have r1 := n64_xor
  have r2 := n64_andNot
  go_enter Tryd.func37, Tryd.ntmps37
  go_wp2_with fail
  go_ret
  exact ⟨by rw [E.out]; rfl, B.out⟩
theorem pin_any (a b : TN) (w : World) : Calls Tryd.prog 39 #[tv a, tv b] w fun e w' => e = .returned (.bool (decide (tIn a b))) ∧ Below w.heap.size w w' := by
  have B := Lib.hid (((Below.refl w.heap.size w).alloc (Nat.le_refl _) (.cells #[uv a.1, uv a.2] tnT)).alloc (by simp) (.cells #[uv b.1, uv b.2] tnT))
  have CH := Lib.hid (fun W => phas_any a b.1 W)
  obtain ⟨⟨c0, c1, c2, c3⟩, _⟩ := two_boxes a b w
  clear c0 c1 c2 c3
  obtain ⟨v, m⟩ := a
  obtain ⟨p, q⟩ := b
  have E1 := n64_eq0 (q &&& ~~~m)
  have E : Hid ((decide (q &&& ~~~m = 0) && decide (has (v, m) p)) = decide (tIn (v, m) (p, q))) := by
    rw [← Bool.decide_and]
    refine decide_eq_decide.2 ?_
    unfold tIn Tn.has
    rw [BitVec.xor_comm]
  have r2 := n64_andNot
  by_cases h1 : q &&& ~~~m = 0
  · rw [decide_eq_true h1] at E1 E
    rw [Bool.true_and] at E
    clear h1
    go_enter Tryd.func39, Tryd.ntmps39
    go_wp2_with (go_at_call 37; refine (CH.out _).mono ?_; rintro e w1 ⟨rfl, hb⟩; have HB := Lib.hid hb; clear hb)
    go_ret
    exact ⟨by rw [← E.out]; rfl, B.out.trans (HB.out.mono (by have := B.out.size; omega))⟩
  · rw [decide_eq_false h1] at E1 E
    rw [Bool.false_and] at E
    clear h1
    go_enter Tryd.func39, Tryd.ntmps39
    go_wp2_with fail
    go_ret
    exact ⟨by rw [← E.out]; rfl, B.out⟩
theorem pcast_any (a : TN) (b : Int) (w : World) : Calls Tryd.prog 33 #[tv a, .int .i64 b] w fun e w' => e = .returned (tv (tCast a b)) ∧ Below w.heap.size w w' := by
  obtain ⟨v, m⟩ := a
  have F := Lib.hid (one_box (v, m) w)
  have q8 := tand_8
  have q16 := tand_16
  have q32 := tand_32
  by_cases h8 : b = 8
  · subst h8
    go_enter Tryd.func33, Tryd.ntmps33
    go_upto_region 1 with fail
    obtain ⟨⟨c0, c1⟩, hr⟩ := F.out
    clear F
    generalize (w.alloc (.cells #[uv v, uv m] tnT)).alloc (.cells #[.int .u64 0, .int .u64 0] tnT) = wz at *
    obtain ⟨f0, f1⟩ := hr.frozen
    obtain ⟨x0, x1, d0, d1⟩ := hr.cells
    have HR := Lib.hid hr
    clear hr
    go_wp2_with fail
    obtain ⟨k1, k2⟩ := HR.out.fill (uv (v &&& lowM 8)) (uv (m &&& lowM 8))
    refine bodyPost_ret (results_cell_row rfl _ _ (w.heap.size + 1) tnT _ (0, 0) _ rfl k1 Tryd.underlying24 rfl (by kernel_rfl)) rfl ?_
    exact ⟨rfl, k2⟩
  by_cases h16 : b = 16
  · subst h16
    go_enter Tryd.func33, Tryd.ntmps33
    go_upto_region 1 with fail
    obtain ⟨⟨c0, c1⟩, hr⟩ := F.out
    clear F
    generalize (w.alloc (.cells #[uv v, uv m] tnT)).alloc (.cells #[.int .u64 0, .int .u64 0] tnT) = wz at *
    obtain ⟨f0, f1⟩ := hr.frozen
    obtain ⟨x0, x1, d0, d1⟩ := hr.cells
    have HR := Lib.hid hr
    clear hr
    go_wp2_with fail
    obtain ⟨k1, k2⟩ := HR.out.fill (uv (v &&& lowM 16)) (uv (m &&& lowM 16))
    refine bodyPost_ret (results_cell_row rfl _ _ (w.heap.size + 1) tnT _ (0, 0) _ rfl k1 Tryd.underlying24 rfl (by kernel_rfl)) rfl ?_
    exact ⟨rfl, k2⟩
  by_cases h32 : b = 32
  · subst h32
    go_enter Tryd.func33, Tryd.ntmps33
    go_upto_region 1 with fail
    obtain ⟨⟨c0, c1⟩, hr⟩ := F.out
    clear F
    generalize (w.alloc (.cells #[uv v, uv m] tnT)).alloc (.cells #[.int .u64 0, .int .u64 0] tnT) = wz at *
    obtain ⟨f0, f1⟩ := hr.frozen
    obtain ⟨x0, x1, d0, d1⟩ := hr.cells
    have HR := Lib.hid hr
    clear hr
    go_wp2_with fail
    obtain ⟨k1, k2⟩ := HR.out.fill (uv (v &&& lowM 32)) (uv (m &&& lowM 32))
    refine bodyPost_ret (results_cell_row rfl _ _ (w.heap.size + 1) tnT _ (0, 0) _ rfl k1 Tryd.underlying24 rfl (by kernel_rfl)) rfl ?_
    exact ⟨rfl, k2⟩
  have e8 : (b == 8) = false := by simpa using h8
  have e16 : (b == 16) = false := by simpa using h16
  have e32 : (b == 32) = false := by simpa using h32
  have E : Hid (tCast (v, m) b = (v, m)) := if_neg (by omega)
  clear h8 h16 h32 q8 q16 q32
  go_enter Tryd.func33, Tryd.ntmps33
  go_upto_region 1 with fail
  obtain ⟨⟨c0, c1⟩, hr⟩ := F.out
  clear F
  generalize (w.alloc (.cells #[uv v, uv m] tnT)).alloc (.cells #[.int .u64 0, .int .u64 0] tnT) = wz at *
  obtain ⟨f0, f1⟩ := hr.frozen
  obtain ⟨x0, x1, d0, d1⟩ := hr.cells
  have HR := Lib.hid hr
  clear hr
  go_wp2_with fail
  obtain ⟨k1, k2⟩ := HR.out.fill (uv v) (uv m)
  refine bodyPost_ret (results_cell_row rfl _ _ (w.heap.size + 1) tnT _ (0, 0) _ rfl k1 Tryd.underlying24 rfl (by kernel_rfl)) rfl ?_
  exact ⟨by rw [E.out], k2⟩
theorem agree_or (x m q : B64) : x &&& ~~~(m ||| q) = x &&& ~~~m &&& ~~~q := by
  rw [BitVec.not_or, BitVec.and_assoc]
theorem pmeet_any (a b : TN) (w : World) : Calls Tryd.prog 25 #[tv a, tv b] w fun e w' => e = .returned (.tuple #[tv (meetV a b), .bool (decide (agree a b))]) ∧ Below w.heap.size w w' := by
  obtain ⟨v, m⟩ := a
  obtain ⟨p, q⟩ := b
  have F := Lib.hid (two_boxes (v, m) (p, q) w)
  have CP := Lib.hid partly_any
  have r1 := n64_xor
  have r2 := n64_andNot
  have r4 := n64_or
  have r5 := n64_and
  by_cases h : agree (v, m) (p, q)
  · have e2 : (n64 ((v ^^^ p) &&& ~~~(m ||| q)) != 0) = false := by rw [n64_ne0, agree_or]; simp; exact h
    unfold meetV
    rw [if_pos h, decide_eq_true h]
    clear h
    go_enter Tryd.func25, Tryd.ntmps25
    go_upto_region 1 with fail
    obtain ⟨⟨c0, c1, c2, c3⟩, hr⟩ := F.out
    clear F
    generalize ((w.alloc (.cells #[uv v, uv m] tnT)).alloc (.cells #[uv p, uv q] tnT)).alloc (.cells #[.int .u64 0, .int .u64 0] tnT) = wz at *
    have HR := Lib.hid hr
    clear hr
    go_wp2_with (go_at_call 44; refine (CP.out _ _ _).mono ?_; rintro e w1 ⟨rfl, hb⟩; have hr := HR.out.keeps (keeps_below hb); have ff := hr.frozen; obtain ⟨f0, f1⟩ := ff; have cc := hr.cells; obtain ⟨x0, x1, d0, d1⟩ := cc; have HR1 := Lib.hid hr; clear hr hb)
    obtain ⟨k1, k2⟩ := HR1.out.fill (uv ((v ||| p) &&& ~~~(m &&& q))) (uv (m &&& q))
    refine bodyPost_ret (results_row_tmp rfl _ _ (w.heap.size + 1 + 1) tnT _ (0, 0) _ rfl k1 Tryd.underlying24 rfl (by kernel_rfl)) rfl ?_
    exact ⟨rfl, k2⟩
  · have e2 : (n64 ((v ^^^ p) &&& ~~~(m ||| q)) != 0) = true := by rw [n64_ne0, agree_or]; simp; exact h
    unfold meetV
    rw [if_neg h, decide_eq_false h]
    clear h
    go_enter Tryd.func25, Tryd.ntmps25
    go_upto_region 1 with fail
    obtain ⟨⟨c0, c1, c2, c3⟩, hr⟩ := F.out
    clear F
    generalize ((w.alloc (.cells #[uv v, uv m] tnT)).alloc (.cells #[uv p, uv q] tnT)).alloc (.cells #[.int .u64 0, .int .u64 0] tnT) = wz at *
    obtain ⟨f0, f1⟩ := hr.frozen
    obtain ⟨x0, x1, d0, d1⟩ := hr.cells
    have HR := Lib.hid hr
    clear hr
    go_wp2_with fail
    obtain ⟨k1, k2⟩ := HR.out.fill (uv 0) (uv 0)
    refine bodyPost_ret (results_row_tmp rfl _ _ (w.heap.size + 1 + 1) tnT _ (0, 0) _ rfl k1 Tryd.underlying24 rfl (by kernel_rfl)) rfl ?_
    exact ⟨rfl, k2⟩
theorem pconst_any (n : B64) (w : World) : Calls Tryd.prog 43 #[uv n] w fun e w' => e = .returned (tv (n, 0)) ∧ Below w.heap.size w w' := by
  have F := Lib.hid (res_box w)
  go_enter Tryd.func43, Tryd.ntmps43
  go_upto_region 1 with fail
  have hr := F.out
  clear F
  generalize w.alloc (.cells #[.int .u64 0, .int .u64 0] tnT) = wz at *
  obtain ⟨f0, f1⟩ := hr.frozen
  obtain ⟨x0, x1, d0, d1⟩ := hr.cells
  have HR := Lib.hid hr
  clear hr
  go_wp2_with fail
  obtain ⟨k1, k2⟩ := HR.out.fill (uv n) (uv 0)
  refine bodyPost_ret (results_cell_row rfl _ _ (w.heap.size) tnT _ (0, 0) _ rfl k1 Tryd.underlying24 rfl (by kernel_rfl)) rfl ?_
  exact ⟨rfl, k2⟩
theorem punknown_any (w : World) : Calls Tryd.prog 41 #[] w fun e w' => e = .returned (tv (0, ~~~0)) ∧ Below w.heap.size w w' := by
  have F := Lib.hid (res_box w)
  go_enter Tryd.func41, Tryd.ntmps41
  go_upto_region 1 with fail
  have hr := F.out
  clear F
  generalize w.alloc (.cells #[.int .u64 0, .int .u64 0] tnT) = wz at *
  obtain ⟨f0, f1⟩ := hr.frozen
  obtain ⟨x0, x1, d0, d1⟩ := hr.cells
  have HR := Lib.hid hr
  clear hr
  go_wp2_with fail
  obtain ⟨k1, k2⟩ := HR.out.fill (uv 0) (uv (~~~0))
  refine bodyPost_ret (results_cell_row rfl _ _ (w.heap.size) tnT _ (0, 0) _ rfl k1 Tryd.underlying24 rfl (by kernel_rfl)) rfl ?_
  exact ⟨rfl, k2⟩
end Go.Proofs.YtjkgbghikhbecaaDoor
