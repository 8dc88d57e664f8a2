/-
  A scalar in a call's own box, that is written field by field, beside the call's result.
-/
import Derived.Test.YtjkgbghikhbecaaDoorSRef
namespace Go.Proofs.YtjkgbghikhbecaaDoor
open Go Go.RowKit Go.Maps Tn
set_option linter.unusedVariables false
set_option linter.unusedSimpArgs false
set_option maxRecDepth 100000
theorem RS.far {w W : World} {g k i : Nat} (h : RS w g W) (hk : g ≠ k) (hn : w.heap.size ≤ k) (u : Value) : RS w g (W.setCell ⟨k, i, none⟩ u) := by
  obtain ⟨⟨cs, hs, hb⟩, h2, h3⟩ := h
  exact ⟨⟨cs, hs, hb.far (p := ⟨k, i, none⟩) hk u⟩, h2.setCell (p := ⟨k, i, none⟩) hn u, h3⟩
structure TB (w : World) (s : SC) (W : World) : Prop where
  a : Blk W w.heap.size scT (sC s)
  r : RS w (w.heap.size + 1) W
section
variable {w W W' : World} {s : SC}
theorem TB.keeps (h : TB w s W) (k : Keeps (fun _ => False) W W') : TB w s W' := ⟨h.a.keeps k (fun h => h), h.r.keeps k⟩
theorem TB.call (h : TB w s W) (k : Below W.heap.size W W') : TB w s W' := h.keeps (keeps_below k)
theorem TB.new (s : SC) (w : World) : TB w s ((w.alloc (.cells (sC s) scT)).alloc (.cells z4 scT)) := ⟨(box_res4 s w).1, (box_res4 s w).2⟩
theorem TB.alloc (h : TB w s W) (o : Obj) : TB w s (W.alloc o) := h.keeps ((Keeps.refl (fun _ => False) W).alloc o)
theorem TB.setMin (h : TB w s W) (x : B64) : TB w (s.1, x, s.2.2) (W.setCell ⟨w.heap.size, 2, none⟩ (uv x)) := ⟨by simpa using h.a.set_ 2 (uv x), h.r.far (by omega) (Nat.le_refl _) _⟩
theorem TB.setMax (h : TB w s W) (x : B64) : TB w (s.1, s.2.1, x) (W.setCell ⟨w.heap.size, 3, none⟩ (uv x)) := ⟨by simpa using h.a.set_ 3 (uv x), h.r.far (by omega) (Nat.le_refl _) _⟩
theorem TB.setT (h : TB w s W) (t : TN) : TB w (t, s.2) ((W.setCell ⟨w.heap.size, 0, none⟩ (uv t.1)).setCell ⟨w.heap.size, 1, none⟩ (uv t.2)) := ⟨by simpa using (h.a.set_ 0 (uv t.1)).set_ 1 (uv t.2), (h.r.far (by omega) (Nat.le_refl _) _).far (by omega) (Nat.le_refl _) _⟩
theorem TB.facts (h : TB w s W) : (W.cell? ⟨w.heap.size, 0, none⟩ = some (uv s.1.1) ∧ W.cell? ⟨w.heap.size, 1, none⟩ = some (uv s.1.2) ∧ W.cell? ⟨w.heap.size, 2, none⟩ = some (uv s.2.1) ∧ W.cell? ⟨w.heap.size, 3, none⟩ = some (uv s.2.2)) ∧ (W.frozen? ⟨w.heap.size, 0, none⟩ = false ∧ W.frozen? ⟨w.heap.size, 1, none⟩ = false ∧ W.frozen? ⟨w.heap.size, 2, none⟩ = false ∧ W.frozen? ⟨w.heap.size, 3, none⟩ = false) := ⟨h.a.four, h.a.soft4⟩
end
end Go.Proofs.YtjkgbghikhbecaaDoor
