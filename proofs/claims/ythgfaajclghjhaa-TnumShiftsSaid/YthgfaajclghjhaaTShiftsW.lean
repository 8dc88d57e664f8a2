/-
  The law TnumShifts, walked.
-/
import Derived.Test.YthgfaajclghjhaaTHeld
import Derived.Deep.RegionHeld3
namespace Go.Proofs.Ythgfaajclghjhaa
open Go Go.RowKit Go.Maps Tn
set_option linter.unusedVariables false
set_option linter.unusedSimpArgs false
set_option maxRecDepth 100000
abbrev i2T : TypeId := 33
abbrev i2 (a b : Int) : Array Value := #[.int .i64 a, .int .i64 b]
set_option maxHeartbeats 2000000 in
theorem shifts_any (op : Int) (a : TN) (n0 n1 : Int) (w : World) : Calls Try.prog 4 #[.int .i64 op, tv a, .agg (i2 n0 n1)] w fun e w' => e = .returned (.bool true) ∧ Below w.heap.size w w' := by
  have F := Lib.hid (HL.two w tnT i2T (tC a) (i2 n0 n1))
  go_enter Try.func4, Try.ntmps4
  go_upto_region 1 with fail
  have hb := F.out
  clear F
  generalize (w.alloc (.cells #[uv a.1, uv a.2] tnT)).alloc (.cells #[.int .i64 n0, .int .i64 n1] i2T) = wz at *
  have HB := Lib.hid hb
  obtain ⟨⟨hn, ha, _⟩, _⟩ := hb
  obtain ⟨c0, c1⟩ := ha.two
  clear hn ha
  go_upto_region 2 with (go_at_call 9; refine (may_any a _).mono ?_; rintro e w1 ⟨rfl, hb1⟩; have hB := HB.out.call hb1; have f0 := hB.all.2.1.frozen 0; have f1 := hB.all.2.1.frozen 1; have d0 := hB.all.2.1.cell 0; have d1 := hB.all.2.1.cell 1; simp only [List.getElem?_toArray, List.getElem?_cons_zero, List.getElem?_cons_succ] at d0 d1; have HB1 := Lib.hid hB; clear hB hb1)
  have hb := HB1.out.set0 (tMay a)
  clear c0 c1 d0 d1 f0 f1 HB HB1
  generalize (w1.setCell ⟨w.heap.size, 0, none⟩ (uv (tMay a).1)).setCell ⟨w.heap.size, 1, none⟩ (uv (tMay a).2) = wy at *
  have CP := Lib.hid (fun W => pShift_any op n0 true (tMay a) W)
  have CX := Lib.hid (fun W => xShift_any op n0 true (tMay a) W)
  have CQ := Lib.hid (fun W => pShift_any op n0 false (tMay a) W)
  have CY := Lib.hid (fun W => xShift_any op n0 false (tMay a) W)
  have CC := Lib.hid (fun W => pcast_any (tMay a) n1 W)
  have CD := Lib.hid (fun W => xcast_any (tMay a) n1 W)
  generalize tMay a = a' at *
  generalize shT op n0 true a' = X at *
  generalize shX op n0 true = ex at *
  generalize shT op n0 false a' = Z at *
  generalize shX op n0 false = ez at *
  generalize tCast a' n1 = C at *
  have qX := eq_self X
  have qZ := eq_self Z
  have qC := eq_self C
  have HB := Lib.hid hb
  obtain ⟨⟨hn, ha, _⟩, _⟩ := hb
  obtain ⟨c0, c1⟩ := ha.two
  obtain ⟨n0c, n1c⟩ := hn.two
  clear hn ha
  go_upto_region 3 with (go_at_call 13; refine (CP.out _).mono ?_; rintro e w2 ⟨rfl, hb⟩; have HB2 := Lib.hid (HB.out.call hb); clear hb)
  have hb := HB2.out.push tnT (tC X)
  clear c0 c1 n0c n1c HB HB2 CP
  generalize w2.heap.size = g1 at *
  generalize w2.alloc (.cells #[uv X.1, uv X.2] tnT) = w3 at *
  have HB := Lib.hid hb
  obtain ⟨⟨hx, hn, ha, _⟩, _⟩ := hb
  obtain ⟨c0, c1⟩ := ha.two
  obtain ⟨n0c, n1c⟩ := hn.two
  clear hx hn ha
  go_upto_region 4 with (go_at_call 14; refine (CX.out _).mono ?_; rintro e w4 ⟨rfl, hb⟩; have HB2 := Lib.hid (HB.out.call hb); clear hb)
  have hb := HB2.out.push tnT (tC X)
  clear c0 c1 n0c n1c HB HB2 CX
  generalize w4.heap.size = g2 at *
  generalize w4.alloc (.cells #[uv X.1, uv X.2] tnT) = w5 at *
  have HB := Lib.hid hb
  obtain ⟨⟨hy, hx, hn, ha, _⟩, _⟩ := hb
  obtain ⟨c0, c1⟩ := ha.two
  obtain ⟨n0c, n1c⟩ := hn.two
  clear hx hy hn ha
  go_upto_region 5 with (go_at_call 13; refine (CQ.out _).mono ?_; rintro e w6 ⟨rfl, hb⟩; have HB2 := Lib.hid (HB.out.call hb); clear hb)
  have hb := HB2.out.push tnT (tC Z)
  clear c0 c1 n0c n1c HB HB2 CQ
  generalize w6.heap.size = g3 at *
  generalize w6.alloc (.cells #[uv Z.1, uv Z.2] tnT) = w7 at *
  have HB := Lib.hid hb
  obtain ⟨⟨hz, hy, hx, hn, ha, _⟩, _⟩ := hb
  obtain ⟨c0, c1⟩ := ha.two
  obtain ⟨n0c, n1c⟩ := hn.two
  clear hx hy hz hn ha
  go_upto_region 6 with (go_at_call 14; refine (CY.out _).mono ?_; rintro e w8 ⟨rfl, hb⟩; have HB2 := Lib.hid (HB.out.call hb); clear hb)
  have hb := HB2.out.push tnT (tC Z)
  clear c0 c1 n0c n1c HB HB2 CY
  generalize w8.heap.size = g4 at *
  generalize w8.alloc (.cells #[uv Z.1, uv Z.2] tnT) = w9 at *
  have key : ∀ W, HL w [(g4, tnT, tC Z), (g3, tnT, tC Z), (g2, tnT, tC X), (g1, tnT, tC X), (w.heap.size + 1, i2T, i2 n0 n1), (w.heap.size, tnT, tC a')] W → ((W.cell? ⟨g4, 0, none⟩ = some (uv Z.1) ∧ W.cell? ⟨g4, 1, none⟩ = some (uv Z.2)) ∧ (W.cell? ⟨g3, 0, none⟩ = some (uv Z.1) ∧ W.cell? ⟨g3, 1, none⟩ = some (uv Z.2)) ∧ (W.cell? ⟨g2, 0, none⟩ = some (uv X.1) ∧ W.cell? ⟨g2, 1, none⟩ = some (uv X.2)) ∧ (W.cell? ⟨g1, 0, none⟩ = some (uv X.1) ∧ W.cell? ⟨g1, 1, none⟩ = some (uv X.2)) ∧ W.cell? ⟨w.heap.size + 1, 1, none⟩ = some (.int .i64 n1) ∧ (W.cell? ⟨w.heap.size, 0, none⟩ = some (uv a'.1) ∧ W.cell? ⟨w.heap.size, 1, none⟩ = some (uv a'.2))) := by
    rintro W ⟨⟨h4, h3, h2, h1, hn, ha, _⟩, _⟩
    exact ⟨h4.two, h3.two, h2.two, h1.two, hn.two.2, ha.two⟩
  have KEY := Lib.hid key
  have HB := Lib.hid hb
  have S0 := Lib.hid (key _ hb)
  obtain ⟨⟨z0, z1⟩, ⟨y0, y1⟩, ⟨v0, v1⟩, ⟨x0, x1⟩, m1, c0, c1⟩ := key _ hb
  clear hb key
  have CA := Lib.hid awake_any
  go_region_held3 (fun W => (W.cell? ⟨g4, 0, none⟩ = some (uv Z.1) ∧ W.cell? ⟨g4, 1, none⟩ = some (uv Z.2)) ∧ (W.cell? ⟨g3, 0, none⟩ = some (uv Z.1) ∧ W.cell? ⟨g3, 1, none⟩ = some (uv Z.2)) ∧ (W.cell? ⟨g2, 0, none⟩ = some (uv X.1) ∧ W.cell? ⟨g2, 1, none⟩ = some (uv X.2)) ∧ (W.cell? ⟨g1, 0, none⟩ = some (uv X.1) ∧ W.cell? ⟨g1, 1, none⟩ = some (uv X.2)) ∧ W.cell? ⟨w.heap.size + 1, 1, none⟩ = some (.int .i64 n1) ∧ (W.cell? ⟨w.heap.size, 0, none⟩ = some (uv a'.1) ∧ W.cell? ⟨w.heap.size, 1, none⟩ = some (uv a'.2)))
    (first | exact S0.out)
    (first
      | (go_at_call 15; refine (CC.out _).mono ?_; rintro e w10 ⟨rfl, hb⟩; have ha := (by first | exact HB.out.call hb | exact (HB.out.keeps (keeps_drewN _ _)).call hb | exact (HB.out.keeps (keeps_drew _)).call hb); have HB := Lib.hid ha; have S0 := Lib.hid (KEY.out _ ha); clear ha hb)
      | (go_at_call 16; refine (CD.out _).mono ?_; rintro e w10 ⟨rfl, hb⟩; have ha := (by first | exact HB.out.call hb | exact (HB.out.keeps (keeps_drewN _ _)).call hb | exact (HB.out.keeps (keeps_drew _)).call hb); have HB := Lib.hid ha; have S0 := Lib.hid (KEY.out _ ha); clear ha hb)
      | (go_at_call 12; refine (CA.out _).mono ?_; rintro e w10 ⟨rfl, hb⟩; have ha := (by first | exact HB.out.call hb | exact (HB.out.keeps (keeps_drewN _ _)).call hb | exact (HB.out.keeps (keeps_drew _)).call hb); have HB := Lib.hid ha; have S0 := Lib.hid (KEY.out _ ha); clear ha hb))
  go_wp2_with fail
  go_ret
  exact ⟨rfl, HB.out.below⟩
end Go.Proofs.Ythgfaajclghjhaa
