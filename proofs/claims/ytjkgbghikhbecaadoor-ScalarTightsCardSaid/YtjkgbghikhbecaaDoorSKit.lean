/-
  A scalar as a call's result; two scalars compared.
-/
import Derived.Test.YtjkgbghikhbecaaDoorSHeld
import Derived.Lib.Strings
namespace Go.Proofs.YtjkgbghikhbecaaDoor
open Go Go.RowKit Go.Maps Tn
set_option linter.unusedVariables false
set_option linter.unusedSimpArgs false
set_option maxRecDepth 100000
/-- The result's block g, made behind the call's beginning. -/
structure RS (w : World) (g : Nat) (W : World) : Prop where
  blk : ∃ cs, cs.size = 4 ∧ Blk W g scT cs
  below : Below w.heap.size w W
  new : w.heap.size ≤ g
theorem RS.keeps {w W W' : World} {g : Nat} (h : RS w g W) (k : Keeps (fun _ => False) W W') : RS w g W' := by
  obtain ⟨⟨cs, hs, hb⟩, h2, h3⟩ := h
  exact ⟨⟨cs, hs, hb.keeps k (fun h => h)⟩, h2.trans (k.below (fun _ h => h.elim) h2.size), h3⟩
theorem RS.call {w W W' : World} {g : Nat} (h : RS w g W) (k : Below W.heap.size W W') : RS w g W' := h.keeps (keeps_below k)
theorem RS.fill {w W : World} {g : Nat} (h : RS w g W) (u1 u2 u3 u4 : Value) : Blk ((((W.setCell ⟨g, 0, none⟩ u1).setCell ⟨g, 1, none⟩ u2).setCell ⟨g, 2, none⟩ u3).setCell ⟨g, 3, none⟩ u4) g scT #[u1, u2, u3, u4] ∧ Below w.heap.size w ((((W.setCell ⟨g, 0, none⟩ u1).setCell ⟨g, 1, none⟩ u2).setCell ⟨g, 2, none⟩ u3).setCell ⟨g, 3, none⟩ u4) := by
  obtain ⟨⟨⟨cs⟩, hs, hb⟩, h2, h3⟩ := h
  match cs, hs with
  | [a, b, c, d], _ => exact ⟨by simpa using (((hb.set_ 0 u1).set_ 1 u2).set_ 2 u3).set_ 3 u4, (((h2.setCell (p := ⟨g, 0, none⟩) h3 u1).setCell (p := ⟨g, 1, none⟩) h3 u2).setCell (p := ⟨g, 2, none⟩) h3 u3).setCell (p := ⟨g, 3, none⟩) h3 u4⟩
theorem RS.frozen {w W : World} {g : Nat} (h : RS w g W) : W.frozen? ⟨g, 0, none⟩ = false ∧ W.frozen? ⟨g, 1, none⟩ = false ∧ W.frozen? ⟨g, 2, none⟩ = false ∧ W.frozen? ⟨g, 3, none⟩ = false := by
  obtain ⟨⟨cs, hs, hb⟩, h2, h3⟩ := h
  exact hb.soft4
theorem RS.cells {w W : World} {g : Nat} (h : RS w g W) : ∃ a b c d, W.cell? ⟨g, 0, none⟩ = some a ∧ W.cell? ⟨g, 1, none⟩ = some b ∧ W.cell? ⟨g, 2, none⟩ = some c ∧ W.cell? ⟨g, 3, none⟩ = some d := by
  obtain ⟨⟨⟨cs⟩, hs, hb⟩, h2, h3⟩ := h
  match cs, hs with
  | [a, b, c, d], _ => exact ⟨a, b, c, d, hb.four⟩
abbrev z4 : Array Value := #[.int .u64 0, .int .u64 0, .int .u64 0, .int .u64 0]
theorem res4 (w : World) : RS w w.heap.size (w.alloc (.cells z4 scT)) := ⟨⟨_, rfl, Blk.new w scT z4⟩, below_new w _, Nat.le_refl _⟩
theorem box_res4 (s : SC) (w : World) : Blk ((w.alloc (.cells (sC s) scT)).alloc (.cells z4 scT)) w.heap.size scT (sC s) ∧ RS w (w.heap.size + 1) ((w.alloc (.cells (sC s) scT)).alloc (.cells z4 scT)) := by
  have h1 := (Blk.new w scT (sC s)).alloc (.cells z4 scT)
  have h2 := Blk.new (w.alloc (.cells (sC s) scT)) scT z4
  rw [show (w.alloc (.cells (sC s) scT)).heap.size = w.heap.size + 1 by simp] at h2
  exact ⟨h1, ⟨_, rfl, h2⟩, ((Below.refl w.heap.size w).alloc (Nat.le_refl _) _).alloc (by simp) _, by omega⟩
/-- Two scalars compared. -/
theorem sc_eq (a b : SC) (w : World) : (binOp .eql scT (sv a) (sv b)).run Tryd.prog w = .ok (.bool (decide (a = b))) w := by
  obtain ⟨⟨v, m⟩, l, h⟩ := a
  obtain ⟨⟨p, q⟩, l', h'⟩ := b
  have key : ∀ c : Bool, decide (((n64 v = n64 p ∧ n64 m = n64 q) ∧ n64 l = n64 l') ∧ n64 h = n64 h') = c → (binOp .eql scT (sv ((v, m), l, h)) (sv ((p, q), l', h'))).run Tryd.prog w = .ok (.bool c) w := by
    intro c hc
    go_simp
    rw [← hc]
    by_cases h1 : n64 v = n64 p <;> by_cases h2 : n64 m = n64 q <;> by_cases h3 : n64 l = n64 l' <;> by_cases h4 : n64 h = n64 h' <;> simp [h1, h2, h3, h4]
  refine key _ ?_
  rw [decide_eq_decide, n64_inj, n64_inj, n64_inj, n64_inj, Prod.mk.injEq, Prod.mk.injEq, Prod.mk.injEq]
  exact ⟨fun ⟨⟨⟨a, b⟩, c⟩, d⟩ => ⟨⟨a, b⟩, c, d⟩, fun ⟨⟨a, b⟩, c, d⟩ => ⟨⟨⟨a, b⟩, c⟩, d⟩⟩
end Go.Proofs.YtjkgbghikhbecaaDoor
