/-
  The law TnumBins, walked.
-/
import Derived.Test.YthgfaajclghjhaaTBox
import Derived.Deep.RegionWith
namespace Go.Proofs.Ythgfaajclghjhaa
open Go Go.RowKit Go.Maps Tn
set_option linter.unusedVariables false
set_option linter.unusedSimpArgs false
set_option maxRecDepth 100000
set_option maxHeartbeats 1000000 in
theorem bins_any (op : Int) (a b : TN) (w : World) : Calls Try.prog 3 #[.int .i64 op, tv a, tv b] w fun e w' => e = .returned (.bool true) ∧ Below w.heap.size w w' := by
  have F := Lib.hid (BB.new a b w)
  go_enter Try.func3, Try.ntmps3
  go_upto_region 1 with fail
  have hb := F.out
  clear F
  generalize (w.alloc (.cells #[uv a.1, uv a.2] tnT)).alloc (.cells #[uv b.1, uv b.2] tnT) = wz at *
  obtain ⟨c0, c1, c2, c3⟩ := hb.cells
  have HB := Lib.hid hb
  clear hb
  go_region_with (go_at_call 9; refine (may_any _ _).mono ?_; rintro e w1 ⟨rfl, hb1⟩; have hB : BB w a b w1 := (by first | exact (HB.out.keeps (keeps_drew _)).call hb1 | exact HB.out.call hb1); have cc := hB.cells; obtain ⟨c0, c1, c2, c3⟩ := cc; have ff := hB.soft; obtain ⟨f0, f1, f2, f3⟩ := ff; have HB := Lib.hid hB; clear hB hb1)
  all_goals
    have hB2 := (HB.out.setA (tMay a)).setB (tMay b)
    generalize (((w1.setCell ⟨w.heap.size, 0, none⟩ (uv (tMay a).1)).setCell ⟨w.heap.size, 1, none⟩ (uv (tMay a).2)).setCell ⟨w.heap.size + 1, 0, none⟩ (uv (tMay b).1)).setCell ⟨w.heap.size + 1, 1, none⟩ (uv (tMay b).2) = wy at *
    clear c0 c1 c2 c3 f0 f1 f2 f3 HB
    obtain ⟨c0, c1, c2, c3⟩ := hB2.cells
    have HB2 := Lib.hid hB2
    have CP := Lib.hid (fun W => pbin_any op (tMay a) (tMay b) W)
    have CX := Lib.hid (fun W => xbin_any op (tMay a) (tMay b) W)
    clear hB2
    generalize tMay a = a' at *
    generalize tMay b = b' at *
    generalize binT op a' b' = X at *
    generalize binX op = ex at *
    have q0 : ∀ W, (binOp .eql tnT (.agg #[uv X.1, uv X.2]) (.agg #[uv X.1, uv X.2])).run Try.prog W = .ok (.bool true) W := fun W => (tn_eq X X W).trans (by simp)
    go_upto_region 3 with (go_at_call 10; refine (CP.out _).mono ?_; rintro e w2 ⟨rfl, hb⟩; have HB3 := Lib.hid (HB2.out.call hb); clear hb)
    have hB4 := HB3.out.keeps ((Keeps.refl (fun _ => False) w2).alloc (.cells #[uv X.1, uv X.2] tnT))
    have hX := Blk.new w2 tnT #[uv X.1, uv X.2]
    generalize w2.heap.size = g7 at *
    generalize w2.alloc (.cells #[uv X.1, uv X.2] tnT) = w3 at *
    clear c0 c1 c2 c3 HB2 HB3
    obtain ⟨c0, c1, c2, c3⟩ := hB4.cells
    have HB4 := Lib.hid hB4
    have HX := Lib.hid hX
    clear hB4 hX
    go_upto_region 4 with (go_at_call 11; refine (CX.out _).mono ?_; rintro e w4 ⟨rfl, hb⟩; have HB5 := Lib.hid (HB4.out.call hb); have HX5 := Lib.hid (HX.out.keeps (keeps_below hb) (fun h => h)); clear hb)
    have k : Keeps (fun _ => False) w4 (w4.alloc (.cells #[uv X.1, uv X.2] tnT)) := (Keeps.refl (fun _ => False) w4).alloc (.cells #[uv X.1, uv X.2] tnT)
    have hB6 := HB5.out.keeps k
    have hX6 := HX5.out.keeps k (fun h => h)
    have hY6 := Blk.new w4 tnT #[uv X.1, uv X.2]
    clear k
    generalize w4.heap.size = g9 at *
    generalize w4.alloc (.cells #[uv X.1, uv X.2] tnT) = w5 at *
    clear c0 c1 c2 c3
    have d0 := hX6.cell 0
    have d1 := hX6.cell 1
    have e0 := hY6.cell 0
    have e1 := hY6.cell 1
    simp only [List.getElem?_toArray, List.getElem?_cons_zero, List.getElem?_cons_succ] at d0 d1 e0 e1
    have HB6 := Lib.hid hB6
    clear hB6 hX6 hY6
    go_wp2_with (go_at_call 12; refine (awake_later HB6.out.below HB6.out.below.size).mono ?_; rintro e w7 ⟨rfl, hb⟩; have B7 := Lib.hid hb; clear hb)
    go_ret
    exact ⟨rfl, B7.out⟩
end Go.Proofs.Ythgfaajclghjhaa
