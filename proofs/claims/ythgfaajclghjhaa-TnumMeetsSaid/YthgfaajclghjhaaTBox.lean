/-
  For the law TnumBins: awake later; both arguments' boxes.
-/
import Derived.Test.YthgfaajclghjhaaTAwake
import Derived.Deep.RegionLaw
import Derived.StillTailTactics

namespace Go.Proofs.Ythgfaajclghjhaa
open Go Go.RowKit Go.Maps Tn
set_option linter.unusedVariables false
set_option linter.unusedSimpArgs false
set_option maxRecDepth 100000
theorem awake_later {B : Nat} {w0 w : World} (hb : Below B w0 w) (hB : B ≤ w.heap.size) : Calls Try.prog 12 #[] w fun e w' => e = .returned (.bool true) ∧ Below B w0 w' := by
  refine (awake_any w).mono ?_
  rintro e w' ⟨rfl, h⟩
  exact ⟨rfl, hb.trans (h.mono hB)⟩
/-- Both arguments' boxes. -/
structure BB (w : World) (a b : TN) (W : World) : Prop where
  a : Blk W w.heap.size tnT (tC a)
  b : Blk W (w.heap.size + 1) tnT (tC b)
  below : Below w.heap.size w W
theorem BB.keeps {w W W' : World} {a b : TN} (h : BB w a b W) (k : Keeps (fun _ => False) W W') : BB w a b W' := ⟨h.a.keeps k (fun h => h), h.b.keeps k (fun h => h), h.below.trans (k.below (fun _ h => h.elim) h.below.size)⟩
theorem BB.call {w W W' : World} {a b : TN} (h : BB w a b W) (k : Below W.heap.size W W') : BB w a b W' := h.keeps (keeps_below k)
theorem BB.setA {w W : World} {a b : TN} (h : BB w a b W) (u : TN) : BB w u b ((W.setCell ⟨w.heap.size, 0, none⟩ (uv u.1)).setCell ⟨w.heap.size, 1, none⟩ (uv u.2)) := ⟨set2 h.a u, far2 h.b (by omega) _ _, (h.below.setCell (p := ⟨w.heap.size, 0, none⟩) (Nat.le_refl _) _).setCell (p := ⟨w.heap.size, 1, none⟩) (Nat.le_refl _) _⟩
theorem BB.setB {w W : World} {a b : TN} (h : BB w a b W) (u : TN) : BB w a u ((W.setCell ⟨w.heap.size + 1, 0, none⟩ (uv u.1)).setCell ⟨w.heap.size + 1, 1, none⟩ (uv u.2)) := ⟨far2 h.a (by omega) _ _, set2 h.b u, (h.below.setCell (p := ⟨w.heap.size + 1, 0, none⟩) (Nat.le_succ _) _).setCell (p := ⟨w.heap.size + 1, 1, none⟩) (Nat.le_succ _) _⟩
theorem BB.cells {w W : World} {a b : TN} (h : BB w a b W) : W.cell? ⟨w.heap.size, 0, none⟩ = some (uv a.1) ∧ W.cell? ⟨w.heap.size, 1, none⟩ = some (uv a.2) ∧ W.cell? ⟨w.heap.size + 1, 0, none⟩ = some (uv b.1) ∧ W.cell? ⟨w.heap.size + 1, 1, none⟩ = some (uv b.2) := ⟨h.a.cell 0, h.a.cell 1, h.b.cell 0, h.b.cell 1⟩
theorem BB.soft {w W : World} {a b : TN} (h : BB w a b W) : W.frozen? ⟨w.heap.size, 0, none⟩ = false ∧ W.frozen? ⟨w.heap.size, 1, none⟩ = false ∧ W.frozen? ⟨w.heap.size + 1, 0, none⟩ = false ∧ W.frozen? ⟨w.heap.size + 1, 1, none⟩ = false := ⟨h.a.frozen 0, h.a.frozen 1, h.b.frozen 0, h.b.frozen 1⟩
theorem BB.new (a b : TN) (w : World) : BB w a b ((w.alloc (.cells #[uv a.1, uv a.2] tnT)).alloc (.cells #[uv b.1, uv b.2] tnT)) := by
  have h1 := (Blk.new w tnT #[uv a.1, uv a.2]).alloc (.cells #[uv b.1, uv b.2] tnT)
  have h2 := Blk.new (w.alloc (.cells #[uv a.1, uv a.2] tnT)) tnT #[uv b.1, uv b.2]
  rw [show (w.alloc (.cells #[uv a.1, uv a.2] tnT)).heap.size = w.heap.size + 1 by simp] at h2
  exact ⟨h1, h2, ((Below.refl w.heap.size w).alloc (Nat.le_refl _) _).alloc (by simp) _⟩
end Go.Proofs.Ythgfaajclghjhaa
