/-
  Package queue: New.
-/
import Derived.Test.YtgmombgjjmgooaaQFits
namespace Go.Proofs.Ytgmombgjjmgooaa
open Go Go.RowKit
set_option linter.unusedVariables false
set_option linter.unusedSimpArgs false
set_option maxRecDepth 100000
theorem fits_true {k key v mx : Int} (h : fitsB k key v mx = true) : (k = 22 ∨ k = 23) ∧ key = 0 ∧ (1 ≤ v ∧ v ≤ 4096) ∧ 1 ≤ mx ∧ mx ≤ 4096 := by
  simp [fitsB] at h; omega
theorem new_no (k key v mx : Int) (h : fitsB k key v mx = false) (w : World) : Calls Try.prog 7 #[specV k key v mx] w fun e w' => e = .returned (.tuple #[.pointer none, .int .i64 1]) ∧ Below w.heap.size w w' := by
  have CF := Lib.hid (fits_any k key v mx)
  rw [h] at CF
  have B := Lib.hid (below_alloc w (.cells (specC k key v mx) 23))
  clear h
  go_enter Try.func7, Try.ntmps7
  go_wp2_with (go_at_call 17; refine (CF.out _).mono ?_; rintro e w1 ⟨rfl, hb⟩; have B1 := Lib.hid (below_then B.out hb); clear hb)
  go_ret2
  exact ⟨rfl, B1.out⟩
/-- What New answers. -/
def NewPost (w : World) (k : Int) (v mx : Nat) (e : Ending) (w' : World) : Prop :=
  ∃ x r g, e = .returned (.tuple #[rp x, .int .i64 0]) ∧ QM w' x r g k v mx [] ∧ (w.heap.size ≤ x ∧ w.heap.size ≤ r ∧ w.heap.size ≤ g) ∧ Below w.heap.size w w'
set_option maxHeartbeats 1000000 in
theorem new_ok (k : Int) (v mx : Nat) (h : fitsB k 0 v mx = true) (w : World) : Calls Try.prog 7 #[specV k 0 v mx] w (NewPost w k v mx) := by
  unfold NewPost
  have CF := Lib.hid (fits_any k 0 v mx)
  rw [h] at CF
  have hh := fits_true h
  have CR := Lib.hid (row_new mx (by omega) (by omega))
  have HM := Lib.hid hh
  have B := Lib.hid (below_alloc w (.cells (specC k 0 v mx) 23))
  have HB := Lib.hid (Blk.new w 23 (specC k 0 v mx))
  clear h hh
  go_enter Try.func7, Try.ntmps7
  go_upto_region 3 with (go_at_call 17; refine (CF.out _).mono ?_; rintro e w1 ⟨rfl, hb⟩; have B1 := Lib.hid (below_then B.out hb); have HB1 := Lib.hid (blk_below HB.out hb); clear hb)
  have S1 : Hid (w1.cell? ⟨w.heap.size, 0, none⟩ = some (.int .i64 k) ∧ w1.cell? ⟨w.heap.size, 1, none⟩ = some (.int .i64 0) ∧ w1.cell? ⟨w.heap.size, 2, none⟩ = some (.int .i64 v) ∧ w1.cell? ⟨w.heap.size, 3, none⟩ = some (.int .i64 mx)) := ⟨HB1.out.cell 0, HB1.out.cell 1, HB1.out.cell 2, HB1.out.cell 3⟩
  clear B HB CF
  go_region_held3 (fun W => W.cell? ⟨w.heap.size, 0, none⟩ = some (.int .i64 k) ∧ W.cell? ⟨w.heap.size, 1, none⟩ = some (.int .i64 0) ∧ W.cell? ⟨w.heap.size, 2, none⟩ = some (.int .i64 v) ∧ W.cell? ⟨w.heap.size, 3, none⟩ = some (.int .i64 mx))
    (first | exact S1.out | exact S2.out | exact S3.out)
    (first
      | (go_at_call 18; refine (CR.out _).mono ?_; rintro e w2 ⟨r, g, rfl, h1, h2, h3, h4⟩; have H1 := Lib.hid h1; have HZ := Lib.hid (And.intro h2 h3); have B2 := Lib.hid (below_undrew h4); have HB2 := Lib.hid (blk_below HB1.out (below_undrew h4)); have S2 : Hid (w2.cell? ⟨w.heap.size, 0, none⟩ = some (.int .i64 k) ∧ w2.cell? ⟨w.heap.size, 1, none⟩ = some (.int .i64 0) ∧ w2.cell? ⟨w.heap.size, 2, none⟩ = some (.int .i64 v) ∧ w2.cell? ⟨w.heap.size, 3, none⟩ = some (.int .i64 mx)) := ⟨HB2.out.cell 0, HB2.out.cell 1, HB2.out.cell 2, HB2.out.cell 3⟩; have HB3 := Lib.hid (HB2.out.alloc (.cells (mapC k v mx r) mapT)); have S3 : Hid ((w2.alloc (.cells (mapC k v mx r) mapT)).cell? ⟨w.heap.size, 0, none⟩ = some (.int .i64 k) ∧ (w2.alloc (.cells (mapC k v mx r) mapT)).cell? ⟨w.heap.size, 1, none⟩ = some (.int .i64 0) ∧ (w2.alloc (.cells (mapC k v mx r) mapT)).cell? ⟨w.heap.size, 2, none⟩ = some (.int .i64 v) ∧ (w2.alloc (.cells (mapC k v mx r) mapT)).cell? ⟨w.heap.size, 3, none⟩ = some (.int .i64 mx)) := ⟨HB3.out.cell 0, HB3.out.cell 1, HB3.out.cell 2, HB3.out.cell 3⟩; clear h1 h2 h3 h4))
  go_wp2_with fail
  go_ret2
  have hz : w1.heap.size ≤ r ∧ w1.heap.size ≤ g := HZ.out
  have h1 := B1.out.size
  have h2 := B2.out.size
  have b3 : Below w2.heap.size w2 (w2.alloc (.cells (mapC k v mx r) mapT)) := below_alloc _ _
  exact ⟨_, r, g, rfl, ⟨Blk.new w2 mapT (mapC k v mx r), H1.out.below b3, by have := HM.out; omega⟩, ⟨by omega, by omega, by omega⟩, below_then (below_then B1.out B2.out) b3⟩
end Go.Proofs.Ytgmombgjjmgooaa
