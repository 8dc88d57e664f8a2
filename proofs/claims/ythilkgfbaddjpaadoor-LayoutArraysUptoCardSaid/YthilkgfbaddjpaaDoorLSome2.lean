/-
  Layer 7: some, walked.
-/
import Derived.Test.YthilkgfbaddjpaaDoorLSome
namespace Go.Proofs.YthilkgfbaddjpaaDoor
open Go Go.RowKit
set_option linter.unusedVariables false
set_option linter.unusedSimpArgs false
set_option maxRecDepth 100000
theorem ex_tys (w : World) : TysAt ((w.alloc (.cells #[.string ⟨#[97]⟩, .int .i64 1, .int .i64 0, .string ⟨#[98]⟩, .int .i64 1, .int .i64 32] 60)).alloc (.cells #[.int .i64 1, .string ⟨#[117, 51, 50]⟩, .int .i64 4, .int .i64 0, .int .i64 0, .slice none 0 0, .int .i64 4, .string ⟨#[112]⟩, .int .i64 8, .int .i64 0, .int .i64 0, .slice (some ⟨w.heap.size, 0, none⟩) 2 2, .int .i64 3, .string ⟨#[]⟩, .int .i64 0, .int .i64 2, .int .i64 3, .slice none 0 0] 34)) (some ⟨w.heap.size + 1, 0, none⟩) exL := by
  have hsz : (w.alloc (.cells #[.string ⟨#[97]⟩, .int .i64 1, .int .i64 0, .string ⟨#[98]⟩, .int .i64 1, .int .i64 32] 60)).heap.size = w.heap.size + 1 := by simp
  have hT := Blk.new (w.alloc (.cells #[.string ⟨#[97]⟩, .int .i64 1, .int .i64 0, .string ⟨#[98]⟩, .int .i64 1, .int .i64 32] 60)) 34 #[.int .i64 1, .string ⟨#[117, 51, 50]⟩, .int .i64 4, .int .i64 0, .int .i64 0, .slice none 0 0, .int .i64 4, .string ⟨#[112]⟩, .int .i64 8, .int .i64 0, .int .i64 0, .slice (some ⟨w.heap.size, 0, none⟩) 2 2, .int .i64 3, .string ⟨#[]⟩, .int .i64 0, .int .i64 2, .int .i64 3, .slice none 0 0]
  rw [hsz] at hT
  have hM := (Blk.new w 60 #[.string ⟨#[97]⟩, .int .i64 1, .int .i64 0, .string ⟨#[98]⟩, .int .i64 1, .int .i64 32]).alloc (.cells #[.int .i64 1, .string ⟨#[117, 51, 50]⟩, .int .i64 4, .int .i64 0, .int .i64 0, .slice none 0 0, .int .i64 4, .string ⟨#[112]⟩, .int .i64 8, .int .i64 0, .int .i64 0, .slice (some ⟨w.heap.size, 0, none⟩) 2 2, .int .i64 3, .string ⟨#[]⟩, .int .i64 0, .int .i64 2, .int .i64 3, .slice none 0 0] 34)
  intro i t ht
  match i, ht with
  | 0, ht =>
    cases ht
    exact ⟨_, 0, none, 0, rfl, hT.lt, hT.cell 0, hT.cell 1, hT.cell 2, hT.cell 3, hT.cell 4, hT.cell 5, (fun i m hi => by cases hi), by decide, by decide⟩
  | 1, ht =>
    cases ht
    refine ⟨_, 0, some ⟨w.heap.size, 0, none⟩, 2, rfl, hT.lt, hT.cell 6, hT.cell 7, hT.cell 8, hT.cell 9, hT.cell 10, hT.cell 11, fun i m hi => ?_, by decide, by decide⟩
    match i, hi with
    | 0, hi => cases hi; exact ⟨_, 0, rfl, hM.lt, hM.cell 0, hM.cell 1, hM.cell 2, by decide⟩
    | 1, hi => cases hi; exact ⟨_, 0, rfl, hM.lt, hM.cell 3, hM.cell 4, hM.cell 5, by decide⟩
    | i + 2, hi => simp at hi
  | 2, ht =>
    cases ht
    exact ⟨_, 0, none, 0, rfl, hT.lt, hT.cell 12, hT.cell 13, hT.cell 14, hT.cell 15, hT.cell 16, hT.cell 17, (fun i m hi => by cases hi), by decide, by decide⟩
  | i + 3, ht => simp [exL] at ht
set_option maxHeartbeats 2000000 in
theorem some_any (w : World) :
    Calls Tryd.prog 12 #[] w fun e w' => ∃ A, e = .returned (.slice A exL.length exL.length) ∧ TysAt w' A exL ∧ Below w.heap.size w w' := by
  go_enter Tryd.func12, Tryd.ntmps12
  go_wp2_with fail
  go_ret
  exact ⟨_, rfl, ex_tys w, ((Below.refl _ w).alloc (Nat.le_refl _) _).alloc (by simp) _⟩
end Go.Proofs.YthilkgfbaddjpaaDoor
