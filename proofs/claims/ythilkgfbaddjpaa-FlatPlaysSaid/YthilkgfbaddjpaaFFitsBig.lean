/-
  Package flat: what fits refuses by its product.
-/
import Derived.Test.YthilkgfbaddjpaaP9
namespace Go.Proofs.Ythilkgfbaddjpaa
open Go Go.RowKit
set_option linter.unusedVariables false
set_option linter.unusedSimpArgs false
set_option maxRecDepth 100000
set_option maxHeartbeats 1000000 in
theorem fits_arr_big (v mx : Nat) (c : Int) (h1 : 1 ≤ v) (h2 : v ≤ 4096) (h3 : 1 ≤ mx) (h4 : mx ≤ 4096) (h5 : 1 ≤ c) (h6 : c ≤ 8) (h7 : 1048576 < mx * wide v) (w : World) :
    Calls Try.prog 25 #[specV 2 4 v mx, .int .i64 c] w fun e w' => e = .returned (.bool false) ∧ Below w.heap.size w w' := by
  have g1 : decide ((1 : Int) ≤ (v : Int)) = true := by simp; omega
  have g2 : decide ((v : Int) ≤ 4096) = true := by simp; omega
  have g3 : decide ((1 : Int) ≤ (mx : Int)) = true := by simp; omega
  have g4 : decide ((mx : Int) ≤ 4096) = true := by simp; omega
  have g5 : decide (1 ≤ c) = true := by simp; omega
  have g6 : decide (c ≤ 8) = true := by simp; omega
  have n1 : decide (1 ≤ v) = true := by simp; omega
  have n2 : decide (v ≤ 4096) = true := by simp; omega
  have n3 : decide (1 ≤ mx) = true := by simp; omega
  have n4 : decide (mx ≤ 4096) = true := by simp; omega
  obtain ⟨q, hq⟩ : ∃ q, mx * wide v = q := ⟨_, rfl⟩
  have e0 : (mx : Int) * (wide v : Int) = (q : Int) := by rw [← hq]; simp
  have g7 : decide ((q : Int) ≤ 1048576) = false := decide_eq_false (by omega)
  have n7 : decide (q ≤ 1048576) = false := decide_eq_false (by omega)
  have hwb : wide v ≤ 4103 := by unfold wide; omega
  have hqb : mx * wide v ≤ 4096 * 4103 := Nat.mul_le_mul h4 hwb
  rw [hq] at hqb
  have e3 : IntKind.i64.wrap ((mx : Int) * (wide v : Int)) = (q : Int) := by rw [e0]; exact IntWalk.i64_in _ (by omega)
  have CW := Lib.hid (width_any 2 4 mx v h2)
  have B := Lib.hid (below_alloc w (.cells #[.int .i64 2, .int .i64 4, .int .i64 v, .int .i64 mx] 23))
  have HB := Lib.hid (Blk.new w 23 #[.int .i64 2, .int .i64 4, .int .i64 v, .int .i64 mx])
  have S0 : Hid ((w.alloc (.cells #[.int .i64 2, .int .i64 4, .int .i64 v, .int .i64 mx] 23)).cell? ⟨w.heap.size, 0, none⟩ = some (.int .i64 2) ∧ (w.alloc (.cells #[.int .i64 2, .int .i64 4, .int .i64 v, .int .i64 mx] 23)).cell? ⟨w.heap.size, 1, none⟩ = some (.int .i64 4) ∧ (w.alloc (.cells #[.int .i64 2, .int .i64 4, .int .i64 v, .int .i64 mx] 23)).cell? ⟨w.heap.size, 2, none⟩ = some (.int .i64 v) ∧ (w.alloc (.cells #[.int .i64 2, .int .i64 4, .int .i64 v, .int .i64 mx] 23)).cell? ⟨w.heap.size, 3, none⟩ = some (.int .i64 mx)) := ⟨HB.out.cell 0, HB.out.cell 1, HB.out.cell 2, HB.out.cell 3⟩
  clear h1 h2 h3 h4 h5 h6 h7 e0 hq hwb hqb
  generalize wide v = d at *
  go_enter Try.func25, Try.ntmps25
  go_wp2_with fail
  refine wp_region_noPanic ?_
  refine wp_region_held_drew (S := fun W => W.cell? ⟨w.heap.size, 0, none⟩ = some (.int .i64 2) ∧ W.cell? ⟨w.heap.size, 1, none⟩ = some (.int .i64 4) ∧ W.cell? ⟨w.heap.size, 2, none⟩ = some (.int .i64 v) ∧ W.cell? ⟨w.heap.size, 3, none⟩ = some (.int .i64 mx)) (by kernel_rfl) S0.out (fun hHeld => ?_)
  refine wpAnyH_take (i := 0) (oi := _) (v := ?_) rfl (by kernel_rfl) (by kernel_rfl) (by kernel_rfl) (fun _ _ _ h => h) (Or.inl ⟨by kernel_rfl, ?_⟩) S0.out ?_
  rotate_left 1
  · intro w' hSw; obtain ⟨q0, q1, q2, q3⟩ := hSw; go_simp; (try with_reducible rfl)
  try simp only [Act.put]
  refine wpAnyH_take (i := 1) (oi := _) (v := ?_) rfl (by kernel_rfl) (by kernel_rfl) (by kernel_rfl) (fun _ _ _ h => h) (Or.inl ⟨by kernel_rfl, ?_⟩) S0.out ?_
  rotate_left 1
  · intro w' hSw; obtain ⟨q0, q1, q2, q3⟩ := hSw; go_simp; (try with_reducible rfl)
  try simp only [Act.put]
  refine wpAnyH_take (i := 2) (oi := _) (v := ?_) rfl (by kernel_rfl) (by kernel_rfl) (by kernel_rfl) (fun _ _ _ h => h) (Or.inl ⟨by kernel_rfl, ?_⟩) S0.out ?_
  rotate_left 1
  · intro w' hSw; obtain ⟨q0, q1, q2, q3⟩ := hSw; go_simp; (try with_reducible rfl)
  try simp only [Act.put]
  refine wpAnyH_take (i := 3) (oi := _) (v := ?_) rfl (by kernel_rfl) (by kernel_rfl) (by kernel_rfl) (fun _ _ _ h => h) (Or.inl ⟨by kernel_rfl, ?_⟩) S0.out ?_
  rotate_left 1
  · intro w' hSw; obtain ⟨q0, q1, q2, q3⟩ := hSw; go_simp; (try with_reducible rfl)
  try simp only [Act.put]
  refine wpAnyH_skip 4 9 rfl (by rfl) (by kernel_rfl) (by kernel_rfl) (by kernel_rfl) (fun _ _ _ h => h) (by kernel_rfl) S0.out ?_
  try simp only [Act.put]
  refine wpAnyH_skip 5 10 rfl (by rfl) (by kernel_rfl) (by kernel_rfl) (by kernel_rfl) (fun _ _ _ h => h) (by kernel_rfl) S0.out ?_
  try simp only [Act.put]
  refine wpAnyH_skip 6 11 rfl (by rfl) (by kernel_rfl) (by kernel_rfl) (by kernel_rfl) (fun _ _ _ h => h) (by kernel_rfl) S0.out ?_
  try simp only [Act.put]
  refine wpAnyH_take (i := 7) (oi := _) (v := ?_) rfl (by kernel_rfl) (by kernel_rfl) (by kernel_rfl) (fun _ _ _ h => h) (Or.inl ⟨by kernel_rfl, ?_⟩) S0.out ?_
  rotate_left 1
  · intro w' hSw; obtain ⟨q0, q1, q2, q3⟩ := hSw; go_simp; (try with_reducible rfl)
  try simp only [Act.put]
  refine wpAnyH_take (i := 8) (oi := _) (v := ?_) rfl (by kernel_rfl) (by kernel_rfl) (by kernel_rfl) (fun _ _ _ h => h) (Or.inl ⟨by kernel_rfl, ?_⟩) S0.out ?_
  rotate_left 1
  · intro w' hSw; obtain ⟨q0, q1, q2, q3⟩ := hSw; go_simp; (try with_reducible rfl)
  try simp only [Act.put]
  refine wpAnyH_take (i := 9) (oi := _) (v := ?_) rfl (by kernel_rfl) (by kernel_rfl) (by kernel_rfl) (fun _ _ _ h => h) (Or.inl ⟨by kernel_rfl, ?_⟩) S0.out ?_
  rotate_left 1
  · intro w' hSw; obtain ⟨q0, q1, q2, q3⟩ := hSw; go_simp; (try with_reducible rfl)
  try simp only [Act.put]
  refine wpAnyH_take (i := 10) (oi := _) (v := ?_) rfl (by kernel_rfl) (by kernel_rfl) (by kernel_rfl) (fun _ _ _ h => h) (Or.inl ⟨by kernel_rfl, ?_⟩) S0.out ?_
  rotate_left 1
  · intro w' hSw; obtain ⟨q0, q1, q2, q3⟩ := hSw; go_simp; (try with_reducible rfl)
  try simp only [Act.put]
  refine wpAnyH_take (i := 11) (oi := _) (v := ?_) rfl (by kernel_rfl) (by kernel_rfl) (by kernel_rfl) (fun _ _ _ h => h) (Or.inl ⟨by kernel_rfl, ?_⟩) S0.out ?_
  rotate_left 1
  · intro w' hSw; obtain ⟨q0, q1, q2, q3⟩ := hSw; go_simp; (try with_reducible rfl)
  try simp only [Act.put]
  refine wpAnyH_take (i := 12) (oi := _) (v := ?_) rfl (by kernel_rfl) (by kernel_rfl) (by kernel_rfl) (fun _ _ _ h => h) (Or.inl ⟨by kernel_rfl, ?_⟩) S0.out ?_
  rotate_left 1
  · intro w' hSw; obtain ⟨q0, q1, q2, q3⟩ := hSw; go_simp; (try with_reducible rfl)
  try simp only [Act.put]
  refine wpAnyH_take (i := 13) (oi := _) (v := ?_) rfl (by kernel_rfl) (by kernel_rfl) (by kernel_rfl) (fun _ _ _ h => h) (Or.inl ⟨by kernel_rfl, ?_⟩) S0.out ?_
  rotate_left 1
  · intro w' hSw; obtain ⟨q0, q1, q2, q3⟩ := hSw; go_simp; (try with_reducible rfl)
  try simp only [Act.put]
  refine wpAnyH_take (i := 14) (oi := _) (v := ?_) rfl (by kernel_rfl) (by kernel_rfl) (by kernel_rfl) (fun _ _ _ h => h) (Or.inl ⟨by kernel_rfl, ?_⟩) S0.out ?_
  rotate_left 1
  · intro w' hSw; obtain ⟨q0, q1, q2, q3⟩ := hSw; go_simp; (try with_reducible rfl)
  try simp only [Act.put]
  refine wpAnyH_take (i := 15) (oi := _) (v := ?_) rfl (by kernel_rfl) (by kernel_rfl) (by kernel_rfl) (fun _ _ _ h => h) (Or.inl ⟨by kernel_rfl, ?_⟩) S0.out ?_
  rotate_left 1
  · intro w' hSw; obtain ⟨q0, q1, q2, q3⟩ := hSw; go_simp; (try with_reducible rfl)
  try simp only [Act.put]
  refine wpAnyH_take (i := 16) (oi := _) (v := ?_) rfl (by kernel_rfl) (by kernel_rfl) (by kernel_rfl) (fun _ _ _ h => h) (Or.inl ⟨by kernel_rfl, ?_⟩) S0.out ?_
  rotate_left 1
  · intro w' hSw; obtain ⟨q0, q1, q2, q3⟩ := hSw; go_simp; (try with_reducible rfl)
  try simp only [Act.put]
  refine wpAnyH_take (i := 17) (oi := _) (v := ?_) rfl (by kernel_rfl) (by kernel_rfl) (by kernel_rfl) (fun _ _ _ h => h) (Or.inl ⟨by kernel_rfl, ?_⟩) S0.out ?_
  rotate_left 1
  · intro w' hSw; obtain ⟨q0, q1, q2, q3⟩ := hSw; go_simp; (try with_reducible rfl)
  try simp only [Act.put]
  refine wpAnyH_take (i := 18) (oi := _) (v := ?_) rfl (by kernel_rfl) (by kernel_rfl) (by kernel_rfl) (fun _ _ _ h => h) (Or.inl ⟨by kernel_rfl, ?_⟩) S0.out ?_
  rotate_left 1
  · intro w' hSw; obtain ⟨q0, q1, q2, q3⟩ := hSw; go_simp; (try with_reducible rfl)
  try simp only [Act.put]
  refine wpAnyH_take (i := 19) (oi := _) (v := ?_) rfl (by kernel_rfl) (by kernel_rfl) (by kernel_rfl) (fun _ _ _ h => h) (Or.inl ⟨by kernel_rfl, ?_⟩) S0.out ?_
  rotate_left 1
  · intro w' hSw; obtain ⟨q0, q1, q2, q3⟩ := hSw; go_simp; (try with_reducible rfl)
  try simp only [Act.put]
  refine wpAnyH_take (i := 20) (oi := _) (v := ?_) rfl (by kernel_rfl) (by kernel_rfl) (by kernel_rfl) (fun _ _ _ h => h) (Or.inl ⟨by kernel_rfl, ?_⟩) S0.out ?_
  rotate_left 1
  · intro w' hSw; obtain ⟨q0, q1, q2, q3⟩ := hSw; go_simp; (try with_reducible rfl)
  try simp only [Act.put]
  refine wpAnyH_take (i := 21) (oi := _) (v := ?_) rfl (by kernel_rfl) (by kernel_rfl) (by kernel_rfl) (fun _ _ _ h => h) (Or.inl ⟨by kernel_rfl, ?_⟩) S0.out ?_
  rotate_left 1
  · intro w' hSw; obtain ⟨q0, q1, q2, q3⟩ := hSw; go_simp; (try with_reducible rfl)
  try simp only [Act.put]
  refine wpAnyH_take (i := 22) (oi := _) (v := ?_) rfl (by kernel_rfl) (by kernel_rfl) (by kernel_rfl) (fun _ _ _ h => h) (Or.inl ⟨by kernel_rfl, ?_⟩) S0.out ?_
  rotate_left 1
  · intro w' hSw; obtain ⟨q0, q1, q2, q3⟩ := hSw; go_simp; (try with_reducible rfl)
  try simp only [Act.put]
  refine wpAnyH_take (i := 23) (oi := _) (v := ?_) rfl (by kernel_rfl) (by kernel_rfl) (by kernel_rfl) (fun _ _ _ h => h) (Or.inl ⟨by kernel_rfl, ?_⟩) S0.out ?_
  rotate_left 1
  · intro w' hSw; obtain ⟨q0, q1, q2, q3⟩ := hSw; go_simp; (try with_reducible rfl)
  try simp only [Act.put]
  refine wpAnyH_take (i := 24) (oi := _) (v := ?_) rfl (by kernel_rfl) (by kernel_rfl) (by kernel_rfl) (fun _ _ _ h => h) (Or.inl ⟨by kernel_rfl, ?_⟩) S0.out ?_
  rotate_left 1
  · intro w' hSw; obtain ⟨q0, q1, q2, q3⟩ := hSw; go_simp; (try with_reducible rfl)
  try simp only [Act.put]
  refine wpAnyH_take (i := 25) (oi := _) (v := ?_) rfl (by kernel_rfl) (by kernel_rfl) (by kernel_rfl) (fun _ _ _ h => h) (Or.inl ⟨by kernel_rfl, ?_⟩) S0.out ?_
  rotate_left 1
  · intro w' hSw; obtain ⟨q0, q1, q2, q3⟩ := hSw; go_simp; (try with_reducible rfl)
  try simp only [Act.put]
  refine wpAnyH_take (i := 26) (oi := _) (v := ?_) rfl (by kernel_rfl) (by kernel_rfl) (by kernel_rfl) (fun _ _ _ h => h) (Or.inl ⟨by kernel_rfl, ?_⟩) S0.out ?_
  rotate_left 1
  · intro w' hSw; obtain ⟨q0, q1, q2, q3⟩ := hSw; go_simp; (try with_reducible rfl)
  try simp only [Act.put]
  refine wpAnyH_take (i := 27) (oi := _) (v := ?_) rfl (by kernel_rfl) (by kernel_rfl) (by kernel_rfl) (fun _ _ _ h => h) (Or.inl ⟨by kernel_rfl, ?_⟩) S0.out ?_
  rotate_left 1
  · intro w' hSw; obtain ⟨q0, q1, q2, q3⟩ := hSw; go_simp; (try with_reducible rfl)
  try simp only [Act.put]
  refine wpAnyH_take (i := 28) (oi := _) (v := ?_) rfl (by kernel_rfl) (by kernel_rfl) (by kernel_rfl) (fun _ _ _ h => h) (Or.inl ⟨by kernel_rfl, ?_⟩) S0.out ?_
  rotate_left 1
  · intro w' hSw; obtain ⟨q0, q1, q2, q3⟩ := hSw; go_simp; (try with_reducible rfl)
  try simp only [Act.put]
  refine wpAnyH_take (i := 29) (oi := _) (v := ?_) rfl (by kernel_rfl) (by kernel_rfl) (by kernel_rfl) (fun _ _ _ h => h) (Or.inl ⟨by kernel_rfl, ?_⟩) S0.out ?_
  rotate_left 1
  · intro w' hSw; obtain ⟨q0, q1, q2, q3⟩ := hSw; go_simp; (try with_reducible rfl)
  try simp only [Act.put]
  refine wpAnyH_take (i := 30) (oi := _) (v := ?_) rfl (by kernel_rfl) (by kernel_rfl) (by kernel_rfl) (fun _ _ _ h => h) (Or.inl ⟨by kernel_rfl, ?_⟩) S0.out ?_
  rotate_left 1
  · intro w' hSw; obtain ⟨q0, q1, q2, q3⟩ := hSw; go_simp; (try with_reducible rfl)
  try simp only [Act.put]
  refine wpAnyH_take (i := 31) (oi := _) (v := ?_) rfl (by kernel_rfl) (by kernel_rfl) (by kernel_rfl) (fun _ _ _ h => h) (Or.inl ⟨by kernel_rfl, ?_⟩) S0.out ?_
  rotate_left 1
  · intro w' hSw; obtain ⟨q0, q1, q2, q3⟩ := hSw; go_simp; (try with_reducible rfl)
  try simp only [Act.put]
  refine wpAnyH_take (i := 32) (oi := _) (v := ?_) rfl (by kernel_rfl) (by kernel_rfl) (by kernel_rfl) (fun _ _ _ h => h) (Or.inl ⟨by kernel_rfl, ?_⟩) S0.out ?_
  rotate_left 1
  · intro w' hSw; obtain ⟨q0, q1, q2, q3⟩ := hSw; go_simp; (try with_reducible rfl)
  try simp only [Act.put]
  refine wpAnyH_take (i := 33) (oi := _) (v := ?_) rfl (by kernel_rfl) (by kernel_rfl) (by kernel_rfl) (fun _ _ _ h => h) (Or.inl ⟨by kernel_rfl, ?_⟩) S0.out ?_
  rotate_left 1
  · intro w' hSw; obtain ⟨q0, q1, q2, q3⟩ := hSw; go_simp; (try with_reducible rfl)
  try simp only [Act.put]
  refine wpAnyH_take (i := 34) (oi := _) (v := ?_) rfl (by kernel_rfl) (by kernel_rfl) (by kernel_rfl) (fun _ _ _ h => h) (Or.inl ⟨by kernel_rfl, ?_⟩) S0.out ?_
  rotate_left 1
  · intro w' hSw; obtain ⟨q0, q1, q2, q3⟩ := hSw; go_simp; (try with_reducible rfl)
  try simp only [Act.put]
  refine wpAnyH_take (i := 35) (oi := _) (v := ?_) rfl (by kernel_rfl) (by kernel_rfl) (by kernel_rfl) (fun _ _ _ h => h) (Or.inl ⟨by kernel_rfl, ?_⟩) S0.out ?_
  rotate_left 1
  · intro w' hSw; obtain ⟨q0, q1, q2, q3⟩ := hSw; go_simp; (try with_reducible rfl)
  try simp only [Act.put]
  refine wpAnyH_take (i := 36) (oi := _) (v := ?_) rfl (by kernel_rfl) (by kernel_rfl) (by kernel_rfl) (fun _ _ _ h => h) (Or.inl ⟨by kernel_rfl, ?_⟩) S0.out ?_
  rotate_left 1
  · intro w' hSw; obtain ⟨q0, q1, q2, q3⟩ := hSw; go_simp; (try with_reducible rfl)
  try simp only [Act.put]
  refine wpAnyH_take (i := 37) (oi := _) (v := ?_) rfl (by kernel_rfl) (by kernel_rfl) (by kernel_rfl) (fun _ _ _ h => h) (Or.inl ⟨by kernel_rfl, ?_⟩) S0.out ?_
  rotate_left 1
  · intro w' hSw; obtain ⟨q0, q1, q2, q3⟩ := hSw; go_simp; (try with_reducible rfl)
  try simp only [Act.put]
  refine wpAnyH_take (i := 38) (oi := _) (v := ?_) rfl (by kernel_rfl) (by kernel_rfl) (by kernel_rfl) (fun _ _ _ h => h) (Or.inl ⟨by kernel_rfl, ?_⟩) S0.out ?_
  rotate_left 1
  · intro w' hSw; obtain ⟨q0, q1, q2, q3⟩ := hSw; go_simp; (try with_reducible rfl)
  try simp only [Act.put]
  refine wpAnyH_take (i := 39) (oi := _) (v := ?_) rfl (by kernel_rfl) (by kernel_rfl) (by kernel_rfl) (fun _ _ _ h => h) (Or.inl ⟨by kernel_rfl, ?_⟩) S0.out ?_
  rotate_left 1
  · intro w' hSw; obtain ⟨q0, q1, q2, q3⟩ := hSw; go_simp; (try with_reducible rfl)
  try simp only [Act.put]
  refine wpAnyH_take (i := 40) (oi := _) (v := ?_) rfl (by kernel_rfl) (by kernel_rfl) (by kernel_rfl) (fun _ _ _ h => h) (Or.inl ⟨by kernel_rfl, ?_⟩) S0.out ?_
  rotate_left 1
  · intro w' hSw; obtain ⟨q0, q1, q2, q3⟩ := hSw; go_simp; (try with_reducible rfl)
  try simp only [Act.put]
  refine wpAnyH_take (i := 41) (oi := _) (v := ?_) rfl (by kernel_rfl) (by kernel_rfl) (by kernel_rfl) (fun _ _ _ h => h) (Or.inl ⟨by kernel_rfl, ?_⟩) S0.out ?_
  rotate_left 1
  · intro w' hSw; obtain ⟨q0, q1, q2, q3⟩ := hSw; go_simp; (try with_reducible rfl)
  try simp only [Act.put]
  refine wpAnyH_take (i := 42) (oi := _) (v := ?_) rfl (by kernel_rfl) (by kernel_rfl) (by kernel_rfl) (fun _ _ _ h => h) (Or.inl ⟨by kernel_rfl, ?_⟩) S0.out ?_
  rotate_left 1
  · intro w' hSw; obtain ⟨q0, q1, q2, q3⟩ := hSw; go_simp; (try with_reducible rfl)
  try simp only [Act.put]
  refine wpAnyH_take (i := 43) (oi := _) (v := ?_) rfl (by kernel_rfl) (by kernel_rfl) (by kernel_rfl) (fun _ _ _ h => h) (Or.inl ⟨by kernel_rfl, ?_⟩) S0.out ?_
  rotate_left 1
  · intro w' hSw; obtain ⟨q0, q1, q2, q3⟩ := hSw; go_simp; (try with_reducible rfl)
  try simp only [Act.put]
  refine wpAnyH_take (i := 44) (oi := _) (v := ?_) rfl (by kernel_rfl) (by kernel_rfl) (by kernel_rfl) (fun _ _ _ h => h) (Or.inl ⟨by kernel_rfl, ?_⟩) S0.out ?_
  rotate_left 1
  · intro w' hSw; obtain ⟨q0, q1, q2, q3⟩ := hSw; go_simp; (try with_reducible rfl)
  try simp only [Act.put]
  refine wpAnyH_ready (rs := [45]) (by kernel_rfl) (by simp) ?_
  refine AllReadyH.cons (o := _) rfl (fun K hK => ?_) AllReadyH.nil
  go_simp
  go_at_call 28
  refine (CW.out _).mono ?_
  rintro e w1 ⟨rfl, hb⟩
  have B1 := Lib.hid (below_then (below_drew1 B.out) hb)
  have HB1 := Lib.hid (blk_below (blk_drew HB.out) hb)
  have S1 : Hid (w1.cell? ⟨w.heap.size, 0, none⟩ = some (.int .i64 2) ∧ w1.cell? ⟨w.heap.size, 1, none⟩ = some (.int .i64 4) ∧ w1.cell? ⟨w.heap.size, 2, none⟩ = some (.int .i64 v) ∧ w1.cell? ⟨w.heap.size, 3, none⟩ = some (.int .i64 mx)) := ⟨HB1.out.cell 0, HB1.out.cell 1, HB1.out.cell 2, HB1.out.cell 3⟩
  clear hb
  refine hK.out _ _ S1.out (fun hHeld => ?_)
  clear hK K
  try simp only [Act.put]
  refine wpAnyH_take (i := 46) (oi := _) (v := ?_) rfl (by kernel_rfl) (by kernel_rfl) (by kernel_rfl) (fun _ _ _ h => h) (Or.inl ⟨by kernel_rfl, ?_⟩) S1.out ?_
  rotate_left 1
  · intro w' hSw; obtain ⟨q0, q1, q2, q3⟩ := hSw; go_simp; (try with_reducible rfl)
  try simp only [Act.put]
  refine wpAnyH_take (i := 47) (oi := _) (v := ?_) rfl (by kernel_rfl) (by kernel_rfl) (by kernel_rfl) (fun _ _ _ h => h) (Or.inl ⟨by kernel_rfl, ?_⟩) S1.out ?_
  rotate_left 1
  · intro w' hSw; obtain ⟨q0, q1, q2, q3⟩ := hSw; go_simp; (try with_reducible rfl)
  try simp only [Act.put]
  refine wpAnyH_take (i := 48) (oi := _) (v := ?_) rfl (by kernel_rfl) (by kernel_rfl) (by kernel_rfl) (fun _ _ _ h => h) (Or.inl ⟨by kernel_rfl, ?_⟩) S1.out ?_
  rotate_left 1
  · intro w' hSw; obtain ⟨q0, q1, q2, q3⟩ := hSw; go_simp; (try with_reducible rfl)
  try simp only [Act.put]
  refine wpAnyH_take (i := 49) (oi := _) (v := ?_) rfl (by kernel_rfl) (by kernel_rfl) (by kernel_rfl) (fun _ _ _ h => h) (Or.inl ⟨by kernel_rfl, ?_⟩) S1.out ?_
  rotate_left 1
  · intro w' hSw; obtain ⟨q0, q1, q2, q3⟩ := hSw; go_simp; (try with_reducible rfl)
  try simp only [Act.put]
  refine wpAnyH_done (by kernel_rfl) ?_ _
  refine NoPanic.normal ?_
  go_simp
  go_wp2_with fail
  go_ret
  exact ⟨rfl, B1.out⟩
set_option maxHeartbeats 1000000 in
theorem fits_cpu_big (v mx : Nat) (c : Int) (h1 : 1 ≤ v) (h2 : v ≤ 4096) (h3 : 1 ≤ mx) (h4 : mx ≤ 4096) (h5 : 1 ≤ c) (h6 : c ≤ 8) (h7 : 1048576 < mx * wide v) (w : World) :
    Calls Try.prog 25 #[specV 6 4 v mx, .int .i64 c] w fun e w' => e = .returned (.bool false) ∧ Below w.heap.size w w' := by
  have g1 : decide ((1 : Int) ≤ (v : Int)) = true := by simp; omega
  have g2 : decide ((v : Int) ≤ 4096) = true := by simp; omega
  have g3 : decide ((1 : Int) ≤ (mx : Int)) = true := by simp; omega
  have g4 : decide ((mx : Int) ≤ 4096) = true := by simp; omega
  have g5 : decide (1 ≤ c) = true := by simp; omega
  have g6 : decide (c ≤ 8) = true := by simp; omega
  have n1 : decide (1 ≤ v) = true := by simp; omega
  have n2 : decide (v ≤ 4096) = true := by simp; omega
  have n3 : decide (1 ≤ mx) = true := by simp; omega
  have n4 : decide (mx ≤ 4096) = true := by simp; omega
  obtain ⟨q, hq⟩ : ∃ q, mx * wide v = q := ⟨_, rfl⟩
  have e0 : (mx : Int) * (wide v : Int) = (q : Int) := by rw [← hq]; simp
  have g7 : decide ((q : Int) ≤ 1048576) = false := decide_eq_false (by omega)
  have n7 : decide (q ≤ 1048576) = false := decide_eq_false (by omega)
  have hwb : wide v ≤ 4103 := by unfold wide; omega
  have hqb : mx * wide v ≤ 4096 * 4103 := Nat.mul_le_mul h4 hwb
  rw [hq] at hqb
  have e3 : IntKind.i64.wrap ((mx : Int) * (wide v : Int)) = (q : Int) := by rw [e0]; exact IntWalk.i64_in _ (by omega)
  have CW := Lib.hid (width_any 6 4 mx v h2)
  have B := Lib.hid (below_alloc w (.cells #[.int .i64 6, .int .i64 4, .int .i64 v, .int .i64 mx] 23))
  have HB := Lib.hid (Blk.new w 23 #[.int .i64 6, .int .i64 4, .int .i64 v, .int .i64 mx])
  have S0 : Hid ((w.alloc (.cells #[.int .i64 6, .int .i64 4, .int .i64 v, .int .i64 mx] 23)).cell? ⟨w.heap.size, 0, none⟩ = some (.int .i64 6) ∧ (w.alloc (.cells #[.int .i64 6, .int .i64 4, .int .i64 v, .int .i64 mx] 23)).cell? ⟨w.heap.size, 1, none⟩ = some (.int .i64 4) ∧ (w.alloc (.cells #[.int .i64 6, .int .i64 4, .int .i64 v, .int .i64 mx] 23)).cell? ⟨w.heap.size, 2, none⟩ = some (.int .i64 v) ∧ (w.alloc (.cells #[.int .i64 6, .int .i64 4, .int .i64 v, .int .i64 mx] 23)).cell? ⟨w.heap.size, 3, none⟩ = some (.int .i64 mx)) := ⟨HB.out.cell 0, HB.out.cell 1, HB.out.cell 2, HB.out.cell 3⟩
  clear h1 h2 h3 h4 h5 h6 h7 e0 hq hwb hqb
  generalize wide v = d at *
  go_enter Try.func25, Try.ntmps25
  go_wp2_with fail
  go_region_held3 (fun W => W.cell? ⟨w.heap.size, 0, none⟩ = some (.int .i64 6) ∧ W.cell? ⟨w.heap.size, 1, none⟩ = some (.int .i64 4) ∧ W.cell? ⟨w.heap.size, 2, none⟩ = some (.int .i64 v) ∧ W.cell? ⟨w.heap.size, 3, none⟩ = some (.int .i64 mx))
    (first | exact S0.out | exact S1.out)
    (first | (go_at_call 28; refine (CW.out _).mono ?_; rintro e w1 ⟨rfl, hb⟩; have B1 := Lib.hid (below_then (below_drew1 B.out) hb); have HB1 := Lib.hid (blk_below (blk_drew HB.out) hb); have S1 : Hid (w1.cell? ⟨w.heap.size, 0, none⟩ = some (.int .i64 6) ∧ w1.cell? ⟨w.heap.size, 1, none⟩ = some (.int .i64 4) ∧ w1.cell? ⟨w.heap.size, 2, none⟩ = some (.int .i64 v) ∧ w1.cell? ⟨w.heap.size, 3, none⟩ = some (.int .i64 mx)) := ⟨HB1.out.cell 0, HB1.out.cell 1, HB1.out.cell 2, HB1.out.cell 3⟩; clear hb))
  go_wp2_with fail
  go_ret
  exact ⟨rfl, B1.out⟩
end Go.Proofs.Ythilkgfbaddjpaa
