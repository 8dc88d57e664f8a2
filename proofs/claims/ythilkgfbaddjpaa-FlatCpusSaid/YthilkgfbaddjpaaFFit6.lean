/-
  Package flat: fits and New of an array for each CPU.
-/
import Derived.Test.YthilkgfbaddjpaaFMap
namespace Go.Proofs.Ythilkgfbaddjpaa
open Go Go.RowKit
set_option linter.unusedVariables false
set_option linter.unusedSimpArgs false
set_option maxRecDepth 100000
set_option maxHeartbeats 1000000 in
theorem fits_cpu (v mx : Nat) (c : Int) (h1 : 1 ≤ v) (h2 : v ≤ 4096) (h3 : 1 ≤ mx) (h4 : mx ≤ 4096) (h5 : 1 ≤ c) (h6 : c ≤ 8) (h7 : mx * wide v ≤ 1048576) (w : World) :
    Calls Try.prog 25 #[specV 6 4 v mx, .int .i64 c] w fun e w' => e = .returned (.bool true) ∧ Below w.heap.size w w' := by
  have g1 : decide ((1 : Int) ≤ (v : Int)) = true := by simp; omega
  have g2 : decide ((v : Int) ≤ 4096) = true := by simp; omega
  have g3 : decide ((1 : Int) ≤ (mx : Int)) = true := by simp; omega
  have g4 : decide ((mx : Int) ≤ 4096) = true := by simp; omega
  have g5 : decide (1 ≤ c) = true := by simp; omega
  have g6 : decide (c ≤ 8) = true := by simp; omega
  have n1 : decide (1 ≤ v) = true := by simp; omega
  have n2 : decide (v ≤ 4096) = true := by simp; omega
  have n3 : decide (1 ≤ mx) = true := by simp; omega
  have n4 : decide (mx ≤ 4096) = true := by simp; omega
  obtain ⟨q, hq⟩ : ∃ q, mx * wide v = q := ⟨_, rfl⟩
  have e0 : (mx : Int) * (wide v : Int) = (q : Int) := by rw [← hq]; simp
  have g7 : decide ((q : Int) ≤ 1048576) = true := by simp; omega
  have n7 : decide (q ≤ 1048576) = true := by simp; omega
  have e3 : IntKind.i64.wrap ((mx : Int) * (wide v : Int)) = (q : Int) := by rw [e0]; exact IntWalk.i64_in _ (by omega)
  have CW := Lib.hid (width_any 6 4 mx v h2)
  have B := Lib.hid (below_alloc w (.cells #[.int .i64 6, .int .i64 4, .int .i64 v, .int .i64 mx] 23))
  have HB := Lib.hid (Blk.new w 23 #[.int .i64 6, .int .i64 4, .int .i64 v, .int .i64 mx])
  have S0 : Hid ((w.alloc (.cells #[.int .i64 6, .int .i64 4, .int .i64 v, .int .i64 mx] 23)).cell? ⟨w.heap.size, 0, none⟩ = some (.int .i64 6) ∧ (w.alloc (.cells #[.int .i64 6, .int .i64 4, .int .i64 v, .int .i64 mx] 23)).cell? ⟨w.heap.size, 1, none⟩ = some (.int .i64 4) ∧ (w.alloc (.cells #[.int .i64 6, .int .i64 4, .int .i64 v, .int .i64 mx] 23)).cell? ⟨w.heap.size, 2, none⟩ = some (.int .i64 v) ∧ (w.alloc (.cells #[.int .i64 6, .int .i64 4, .int .i64 v, .int .i64 mx] 23)).cell? ⟨w.heap.size, 3, none⟩ = some (.int .i64 mx)) := ⟨HB.out.cell 0, HB.out.cell 1, HB.out.cell 2, HB.out.cell 3⟩
  clear h1 h2 h3 h4 h5 h6 h7 e0 hq
  generalize wide v = d at *
  go_enter Try.func25, Try.ntmps25
  go_wp2_with fail
  go_region_held3 (fun W => W.cell? ⟨w.heap.size, 0, none⟩ = some (.int .i64 6) ∧ W.cell? ⟨w.heap.size, 1, none⟩ = some (.int .i64 4) ∧ W.cell? ⟨w.heap.size, 2, none⟩ = some (.int .i64 v) ∧ W.cell? ⟨w.heap.size, 3, none⟩ = some (.int .i64 mx))
    (first | exact S0.out | exact S1.out)
    (first | (go_at_call 28; refine (CW.out _).mono ?_; rintro e w1 ⟨rfl, hb⟩; have B1 := Lib.hid (below_then (below_drew1 B.out) hb); have HB1 := Lib.hid (blk_below (blk_drew HB.out) hb); have S1 : Hid (w1.cell? ⟨w.heap.size, 0, none⟩ = some (.int .i64 6) ∧ w1.cell? ⟨w.heap.size, 1, none⟩ = some (.int .i64 4) ∧ w1.cell? ⟨w.heap.size, 2, none⟩ = some (.int .i64 v) ∧ w1.cell? ⟨w.heap.size, 3, none⟩ = some (.int .i64 mx)) := ⟨HB1.out.cell 0, HB1.out.cell 1, HB1.out.cell 2, HB1.out.cell 3⟩; clear hb))
  go_wp2_with fail
  go_ret
  exact ⟨rfl, B1.out⟩
end Go.Proofs.Ythilkgfbaddjpaa
