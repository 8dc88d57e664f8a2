/-
  Package tnum's own type known: the result's block of a call.
-/
import Derived.Test.YtjkgbghikhbecaaDoorTSh
import Derived.Test.YtjkgbghikhbecaaDoorSTB
namespace Go.Proofs.YtjkgbghikhbecaaDoor
open Go Go.RowKit Go.Maps Tn
set_option linter.unusedVariables false
set_option linter.unusedSimpArgs false
set_option maxRecDepth 100000
abbrev knT : TypeId := 66
/-- The result's block g, a known's, made behind the call's beginning. -/
structure RK (w : World) (g : Nat) (W : World) : Prop where
  blk : ∃ cs, cs.size = 2 ∧ Blk W g knT cs
  below : Below w.heap.size w W
  new : w.heap.size ≤ g
theorem RK.keeps {w W W' : World} {g : Nat} (h : RK w g W) (k : Keeps (fun _ => False) W W') : RK w g W' := by
  obtain ⟨⟨cs, hs, hb⟩, h2, h3⟩ := h
  exact ⟨⟨cs, hs, hb.keeps k (fun h => h)⟩, h2.trans (k.below (fun _ h => h.elim) h2.size), h3⟩
theorem RK.fill {w W : World} {g : Nat} (h : RK w g W) (u1 u2 : Value) : Blk ((W.setCell ⟨g, 0, none⟩ u1).setCell ⟨g, 1, none⟩ u2) g knT #[u1, u2] ∧ Below w.heap.size w ((W.setCell ⟨g, 0, none⟩ u1).setCell ⟨g, 1, none⟩ u2) := by
  obtain ⟨⟨⟨cs⟩, hs, hb⟩, h2, h3⟩ := h
  match cs, hs with
  | [a, b], _ => exact ⟨by simpa using (hb.set_ 0 u1).set_ 1 u2, (h2.setCell (p := ⟨g, 0, none⟩) h3 u1).setCell (p := ⟨g, 1, none⟩) h3 u2⟩
theorem RK.frozen {w W : World} {g : Nat} (h : RK w g W) : W.frozen? ⟨g, 0, none⟩ = false ∧ W.frozen? ⟨g, 1, none⟩ = false := by
  obtain ⟨⟨cs, hs, hb⟩, h2, h3⟩ := h
  exact ⟨hb.frozen 0, hb.frozen 1⟩
theorem RK.cells {w W : World} {g : Nat} (h : RK w g W) : ∃ a b, W.cell? ⟨g, 0, none⟩ = some a ∧ W.cell? ⟨g, 1, none⟩ = some b := by
  obtain ⟨⟨⟨cs⟩, hs, hb⟩, h2, h3⟩ := h
  match cs, hs with
  | [a, b], _ => exact ⟨a, b, hb.cell 0, hb.cell 1⟩
theorem kone_box (a : TN) (w : World) : (((w.alloc (.cells #[uv a.1, uv a.2] knT)).alloc (.cells #[.int .u64 0, .int .u64 0] knT)).cell? ⟨w.heap.size, 0, none⟩ = some (uv a.1) ∧ ((w.alloc (.cells #[uv a.1, uv a.2] knT)).alloc (.cells #[.int .u64 0, .int .u64 0] knT)).cell? ⟨w.heap.size, 1, none⟩ = some (uv a.2)) ∧ RK w (w.heap.size + 1) ((w.alloc (.cells #[uv a.1, uv a.2] knT)).alloc (.cells #[.int .u64 0, .int .u64 0] knT)) := by
  have h1 := (Blk.new w knT #[uv a.1, uv a.2]).alloc (.cells #[.int .u64 0, .int .u64 0] knT)
  have h2 := Blk.new (w.alloc (.cells #[uv a.1, uv a.2] knT)) knT #[.int .u64 0, .int .u64 0]
  rw [show (w.alloc (.cells #[uv a.1, uv a.2] knT)).heap.size = w.heap.size + 1 by simp] at h2
  exact ⟨⟨h1.cell 0, h1.cell 1⟩, ⟨_, rfl, h2⟩, ((Below.refl w.heap.size w).alloc (Nat.le_refl _) _).alloc (by simp) _, by omega⟩
theorem ktwo_boxes (a b : TN) (w : World) : ((((w.alloc (.cells #[uv a.1, uv a.2] knT)).alloc (.cells #[uv b.1, uv b.2] knT)).alloc (.cells #[.int .u64 0, .int .u64 0] knT)).cell? ⟨w.heap.size, 0, none⟩ = some (uv a.1) ∧ (((w.alloc (.cells #[uv a.1, uv a.2] knT)).alloc (.cells #[uv b.1, uv b.2] knT)).alloc (.cells #[.int .u64 0, .int .u64 0] knT)).cell? ⟨w.heap.size, 1, none⟩ = some (uv a.2) ∧ (((w.alloc (.cells #[uv a.1, uv a.2] knT)).alloc (.cells #[uv b.1, uv b.2] knT)).alloc (.cells #[.int .u64 0, .int .u64 0] knT)).cell? ⟨w.heap.size + 1, 0, none⟩ = some (uv b.1) ∧ (((w.alloc (.cells #[uv a.1, uv a.2] knT)).alloc (.cells #[uv b.1, uv b.2] knT)).alloc (.cells #[.int .u64 0, .int .u64 0] knT)).cell? ⟨w.heap.size + 1, 1, none⟩ = some (uv b.2)) ∧
    RK w (w.heap.size + 1 + 1) (((w.alloc (.cells #[uv a.1, uv a.2] knT)).alloc (.cells #[uv b.1, uv b.2] knT)).alloc (.cells #[.int .u64 0, .int .u64 0] knT)) := by
  have h1 := ((Blk.new w knT #[uv a.1, uv a.2]).alloc (.cells #[uv b.1, uv b.2] knT)).alloc (.cells #[.int .u64 0, .int .u64 0] knT)
  have h2 := (Blk.new (w.alloc (.cells #[uv a.1, uv a.2] knT)) knT #[uv b.1, uv b.2]).alloc (.cells #[.int .u64 0, .int .u64 0] knT)
  rw [show (w.alloc (.cells #[uv a.1, uv a.2] knT)).heap.size = w.heap.size + 1 by simp] at h2
  have h3 := Blk.new ((w.alloc (.cells #[uv a.1, uv a.2] knT)).alloc (.cells #[uv b.1, uv b.2] knT)) knT #[.int .u64 0, .int .u64 0]
  rw [show ((w.alloc (.cells #[uv a.1, uv a.2] knT)).alloc (.cells #[uv b.1, uv b.2] knT)).heap.size = w.heap.size + 1 + 1 by simp] at h3
  exact ⟨⟨h1.cell 0, h1.cell 1, h2.cell 0, h2.cell 1⟩, ⟨_, rfl, h3⟩, (((Below.refl w.heap.size w).alloc (Nat.le_refl _) _).alloc (by simp) _).alloc (by simp; omega) _, by omega⟩
theorem kres_box (w : World) : RK w w.heap.size (w.alloc (.cells #[.int .u64 0, .int .u64 0] knT)) := ⟨⟨_, rfl, Blk.new w knT #[.int .u64 0, .int .u64 0]⟩, below_new w _, Nat.le_refl _⟩
end Go.Proofs.YtjkgbghikhbecaaDoor
