/-
  The reference of layer 15: Meet, Join, Cast, Of; the law's may and one.
-/
import Derived.Test.YtjkgbghikhbecaaDoorTRef
import Derived.Lib.Strings
namespace Go.Proofs.YtjkgbghikhbecaaDoor
open Go Go.RowKit Tn
set_option linter.unusedVariables false
set_option linter.unusedSimpArgs false
set_option maxRecDepth 100000
theorem results_row_tmp {P : Program} {fn : Func} {p u : Tmp} {ty : TypeId} (h : fn.results = #[.cell p ty, .tmp u]) (tmps : Array Value) (w : World) (g : Nat) (t : TypeId) (cs : Array Value) (fr : Nat × Nat) (d : TypeDesc)
    (hp : tmps.getD p undef = .pointer (some ⟨g, 0, none⟩)) (hg : w.heap[g]? = some (.cells cs t fr))
    (hu : P.underlying ty = some d) (hd : (match d with | .struct _ | .array _ _ => true | _ => false) = true) (hi : (P.info? ty).map (·.size) = some cs.size) :
    (results fn tmps).run P w = .ok (.tuple #[.agg cs, tmps.getD u undef]) w := by
  rw [results_cell_tmp h, hp]
  simp [asAddr, Result.andThen, run_loadVar_row w g t ty cs fr d hg hu hd hi]
/-- What Meet answers. -/
def meetV (a b : TN) : TN := if agree a b then tMeet a b else (0, 0)
theorem xmeet_any (a b : TN) (w : World) : Calls Tryd.prog 28 #[tv a, tv b] w fun e w' => e = .returned (.tuple #[tv (meetV a b), .bool (decide (agree a b))]) ∧ Below w.heap.size w w' := by
  obtain ⟨v, m⟩ := a
  obtain ⟨p, q⟩ := b
  have F := Lib.hid (two_boxes (v, m) (p, q) w)
  have r1 := n64_xor
  have r2 := n64_andNot
  have r4 := n64_or
  have r5 := n64_and
  by_cases h : agree (v, m) (p, q)
  · have e1 : (n64 ((v ^^^ p) &&& ~~~m &&& ~~~q) == 0) = true := by rw [n64_eq0]; exact decide_eq_true h
    have e2 : (n64 ((v ^^^ p) &&& ~~~m &&& ~~~q) != 0) = false := by rw [n64_ne0]; simp; exact h
    unfold meetV
    rw [if_pos h, decide_eq_true h]
    clear h
    go_enter Tryd.func28, Tryd.ntmps28
    go_upto_region 1 with fail
    obtain ⟨⟨c0, c1, c2, c3⟩, hr⟩ := F.out
    clear F
    generalize ((w.alloc (.cells #[uv v, uv m] tnT)).alloc (.cells #[uv p, uv q] tnT)).alloc (.cells #[.int .u64 0, .int .u64 0] tnT) = wz at *
    obtain ⟨f0, f1⟩ := hr.frozen
    obtain ⟨x0, x1, d0, d1⟩ := hr.cells
    have HR := Lib.hid hr
    clear hr
    go_wp2_with fail
    obtain ⟨k1, k2⟩ := HR.out.fill (uv ((v ||| p) &&& ~~~(m &&& q))) (uv (m &&& q))
    refine bodyPost_ret (results_row_tmp rfl _ _ (w.heap.size + 1 + 1) tnT _ (0, 0) _ rfl k1 Tryd.underlying24 rfl (by kernel_rfl)) rfl ?_
    exact ⟨rfl, k2⟩
  · have e1 : (n64 ((v ^^^ p) &&& ~~~m &&& ~~~q) == 0) = false := by rw [n64_eq0]; exact decide_eq_false h
    have e2 : (n64 ((v ^^^ p) &&& ~~~m &&& ~~~q) != 0) = true := by rw [n64_ne0]; simp; exact h
    unfold meetV
    rw [if_neg h, decide_eq_false h]
    clear h
    go_enter Tryd.func28, Tryd.ntmps28
    go_upto_region 1 with fail
    obtain ⟨⟨c0, c1, c2, c3⟩, hr⟩ := F.out
    clear F
    generalize ((w.alloc (.cells #[uv v, uv m] tnT)).alloc (.cells #[uv p, uv q] tnT)).alloc (.cells #[.int .u64 0, .int .u64 0] tnT) = wz at *
    obtain ⟨f0, f1⟩ := hr.frozen
    obtain ⟨x0, x1, d0, d1⟩ := hr.cells
    have HR := Lib.hid hr
    clear hr
    go_wp2_with fail
    obtain ⟨k1, k2⟩ := HR.out.fill (uv 0) (uv 0)
    refine bodyPost_ret (results_row_tmp rfl _ _ (w.heap.size + 1 + 1) tnT _ (0, 0) _ rfl k1 Tryd.underlying24 rfl (by kernel_rfl)) rfl ?_
    exact ⟨rfl, k2⟩
theorem res_box (w : World) : RB w w.heap.size (w.alloc (.cells #[.int .u64 0, .int .u64 0] tnT)) := ⟨⟨_, rfl, Blk.new w tnT #[.int .u64 0, .int .u64 0]⟩, below_new w _, Nat.le_refl _⟩
def u64Of : Value → Nat
  | .int _ q => q.toNat
  | _ => 0
theorem half_lt {x : B64} (h : x ≠ 0) : (n64 (x >>> 1)).toNat < (n64 x).toNat := by
  unfold n64
  rw [BitVec.toNat_ushiftRight, Nat.shiftRight_eq_div_pow]
  have : x.toNat ≠ 0 := fun e => h (BitVec.eq_of_toNat_eq (by rw [e]; rfl))
  omega
theorem n64_one : n64 1 = 1 := rfl
theorem xof_any (lo hi : B64) (w : World) : Calls Tryd.prog 29 #[uv lo, uv hi] w fun e w' => e = .returned (tv (tRange lo hi)) ∧ Below w.heap.size w w' := by
  have F := Lib.hid (res_box w)
  have r1 := n64_xor
  have r2 := n64_andNot
  go_enter Tryd.func29, Tryd.ntmps29
  go_upto_region 1 with fail
  have hr := F.out
  clear F
  generalize w.alloc (.cells #[.int .u64 0, .int .u64 0] tnT) = wz at *
  obtain ⟨f0, f1⟩ := hr.frozen
  obtain ⟨x0, x1, d0, d1⟩ := hr.cells
  have HR := Lib.hid hr
  clear hr
  go_wp2_with fail
  go_loopw [5, 6] (fun vx vm wr => wr = wz ∧ ∃ j : Nat, vx = uv ((lo ^^^ hi) >>> j) ∧ vm = uv (lowM j) ∧ j + blen ((lo ^^^ hi) >>> j) = blen (lo ^^^ hi)) (fun vx _ _ => u64Of vx)
  case atStart => exact ⟨rfl, 0, by simp, rfl, by simp⟩
  case round =>
    obtain ⟨rfl, j, rfl, rfl, hj⟩ := hrel
    have HJ := Lib.hid hj
    have hle := blen_le (lo ^^^ hi)
    have ess : ((lo ^^^ hi) >>> j) >>> 1 = (lo ^^^ hi) >>> (j + 1) := by rw [BitVec.shiftRight_add]
    have HE := Lib.hid ess
    have r3 := n64_dblw
    have r3' := n64_dbl
    have r4 := n64_half
    have r5 := n64_or1
    by_cases hx : (lo ^^^ hi) >>> j = 0
    · rw [hx, blen_zero, Nat.add_zero] at hj
      have e1 : (n64 ((lo ^^^ hi) >>> j) == 0) = true := by rw [n64_eq0]; exact decide_eq_true hx
      have e2 : (n64 ((lo ^^^ hi) >>> j) != 0) = false := by rw [n64_ne0]; simp; exact hx
      have HJ2 := Lib.hid hj
      clear hj hx HJ ess hle
      generalize (lo ^^^ hi) >>> j = xj at *
      go_wp2_with fail
      obtain ⟨k1, k2⟩ := HR.out.fill (uv (lo &&& ~~~lowM j)) (uv (lowM j))
      refine bodyPost_ret (results_cell_row rfl _ _ w.heap.size tnT _ (0, 0) _ rfl k1 Tryd.underlying24 rfl (by kernel_rfl)) rfl ?_
      exact ⟨by rw [HJ2.out]; rfl, k2⟩
    · have hb := blen_shr hx
      have hp := blen_pos hx
      rw [ess] at hb
      have e1 : (n64 ((lo ^^^ hi) >>> j) == 0) = false := by rw [n64_eq0]; exact decide_eq_false hx
      have e2 : (n64 ((lo ^^^ hi) >>> j) != 0) = true := by rw [n64_ne0]; simp; exact hx
      have HS := Lib.hid (lowM_succ (k := j) (by omega))
      have HB := Lib.hid hb
      have HX := Lib.hid hx
      clear hj hx ess hle hb hp
      go_wp2_with fail
      go_roundw
      case rel => exact ⟨trivial, j + 1, by rw [HE.out], by rw [← HS.out]; rfl, by have := HJ.out; have := HB.out; omega⟩
      case measure => exact half_lt HX.out
end Go.Proofs.YtjkgbghikhbecaaDoor
