/-
  Package tnum: Shift.
-/
import Derived.Test.YtjkgbghikhbecaaDoorPSh
import Derived.Deep.RegionHeld3
namespace Go.Proofs.YtjkgbghikhbecaaDoor
open Go Go.RowKit Go.Maps Tn
set_option linter.unusedVariables false
set_option linter.unusedSimpArgs false
set_option maxRecDepth 100000
/-- The box of what is shifted, and the result's. -/
structure SB (w : World) (v m : B64) (W : World) : Prop where
  a : Blk W w.heap.size tnT #[uv v, uv m]
  r : RB w (w.heap.size + 1) W
theorem SB.keeps {w W W' : World} {v m : B64} (h : SB w v m W) (k : Keeps (fun _ => False) W W') : SB w v m W' := ⟨h.a.keeps k (fun h => h), h.r.keeps k⟩
theorem SB.call {w W W' : World} {v m : B64} (h : SB w v m W) (k : Below W.heap.size W W') : SB w v m W' := h.keeps (keeps_below k)
theorem SB.cells {w W : World} {v m : B64} (h : SB w v m W) : W.cell? ⟨w.heap.size, 0, none⟩ = some (uv v) ∧ W.cell? ⟨w.heap.size, 1, none⟩ = some (uv m) := ⟨h.a.cell 0, h.a.cell 1⟩
theorem SB.new (v m : B64) (w : World) : SB w v m ((w.alloc (.cells #[uv v, uv m] tnT)).alloc (.cells #[.int .u64 0, .int .u64 0] tnT)) := ⟨(Blk.new w tnT #[uv v, uv m]).alloc _, (one_box (v, m) w).2⟩
set_option maxHeartbeats 1000000 in
theorem pShift_96w {k : Nat} (hk : k ≤ 63) (a : TN) (w : World) : Calls Tryd.prog 61 #[.int .i64 96, tv a, .int .i64 (k : Int), .bool true] w fun e w' => e = .returned (.tuple #[tv (tShift 96 true k a), .int .i64 0]) ∧ Below w.heap.size w w' := by
  obtain ⟨v, m⟩ := a
  have F := Lib.hid (SB.new v m w)
  have CO := Lib.hid (sop_96 k true)
  have CA := Lib.hid (fun x W => sleft_any true (k := k) hk x W)
  have hn : ∀ W, (binOp .eql 94 (.func (.func 77) #[shv k true] #[]) .nilFunc).run Tryd.prog W = .ok (.bool false) W := fun W => rfl
  unfold tShift
  have k2 : IntKind.u64.wrap (k : Int) = (k : Int) := by rw [IntKind.wrap_u64]; omega
  have k3 : decide ((63 : Int) < (k : Int)) = false := decide_eq_false (by omega)
  have k5 : decide ((k : Int) < 0) = false := decide_eq_false (by omega)
  clear hk
  dsimp only
  generalize sop 96 true k = sh at *
  go_enter Tryd.func61, Tryd.ntmps61
  go_upto_region 1 with fail
  have hs := F.out
  clear F
  generalize (w.alloc (.cells #[uv v, uv m] tnT)).alloc (.cells #[.int .u64 0, .int .u64 0] tnT) = wz at *
  have HS := Lib.hid hs
  clear hs
  go_upto_region 4 with (go_at_call 71; refine (CO.out wz).mono ?_; rintro e w1 ⟨rfl, hb⟩; have HS1 := Lib.hid (HS.out.call hb); clear hb)
  clear CO HS
  have HS := Lib.hid HS1.out
  clear HS1
  obtain ⟨c0, c1⟩ := HS.out.cells
  have ff := HS.out.r.frozen
  obtain ⟨f0, f1⟩ := ff
  have cc := HS.out.r.cells
  obtain ⟨x0, x1, d0, d1⟩ := cc
  go_upto_region 6 with fail
  go_region_with (go_at_call 77; refine (CA.out _ _).mono ?_; rintro e w2 ⟨rfl, hb⟩; have hB : SB w v m w2 := (by first | exact (HS.out.keeps (keeps_drew _)).call hb | exact HS.out.call hb); have cc := hB.cells; obtain ⟨c0, c1⟩ := cc; have ff := hB.r.frozen; obtain ⟨f0, f1⟩ := ff; have dd := hB.r.cells; obtain ⟨x0, x1, d0, d1⟩ := dd; have HS := Lib.hid hB; clear hB hb)
  all_goals
    go_wp2_with fail
    obtain ⟨k1, k2⟩ := HS.out.r.fill (uv (sh v)) (uv (sh m))
    refine bodyPost_ret (results_row_tmp rfl _ _ (w.heap.size + 1) tnT _ (0, 0) _ rfl k1 Tryd.underlying24 rfl (by kernel_rfl)) rfl ?_
    exact ⟨rfl, k2⟩
end Go.Proofs.YtjkgbghikhbecaaDoor
