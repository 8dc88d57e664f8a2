/-
  Blocks that are held, one by one, in a list.
-/
import Derived.Test.YthgfaajclghjhaaTBox
import Derived.Lib.MinMax
namespace Go.Proofs.Ythgfaajclghjhaa
open Go Go.RowKit Go.Maps Tn
set_option linter.unusedVariables false
set_option linter.unusedSimpArgs false
set_option maxRecDepth 100000
def HLs : List (Nat × TypeId × Array Value) → World → Prop
  | [], _ => True
  | b :: L, W => Blk W b.1 b.2.1 b.2.2 ∧ HLs L W
theorem HLs.keeps : ∀ {L : List (Nat × TypeId × Array Value)} {W W' : World}, HLs L W → Keeps (fun _ => False) W W' → HLs L W'
  | [], _, _, _, _ => trivial
  | _ :: _, _, _, h, k => ⟨h.1.keeps k (fun h => h), HLs.keeps h.2 k⟩
structure HL (w : World) (L : List (Nat × TypeId × Array Value)) (W : World) : Prop where
  all : HLs L W
  below : Below w.heap.size w W
section
variable {w W W' : World} {L : List (Nat × TypeId × Array Value)}
theorem HL.keeps (h : HL w L W) (k : Keeps (fun _ => False) W W') : HL w L W' := ⟨h.all.keeps k, h.below.trans (k.below (fun _ h => h.elim) h.below.size)⟩
theorem HL.call (h : HL w L W) (k : Below W.heap.size W W') : HL w L W' := h.keeps (keeps_below k)
theorem HL.start (w : World) : HL w [] w := ⟨trivial, Below.refl _ _⟩
theorem HL.push (h : HL w L W) (t : TypeId) (cs : Array Value) : HL w ((W.heap.size, t, cs) :: L) (W.alloc (.cells cs t)) :=
  ⟨⟨Blk.new W t cs, h.all.keeps ((Keeps.refl (fun _ => False) W).alloc _)⟩, h.below.alloc h.below.size _⟩
theorem Blk.two {g : Nat} {t : TypeId} {u1 u2 : Value} (h : Blk W g t #[u1, u2]) : W.cell? ⟨g, 0, none⟩ = some u1 ∧ W.cell? ⟨g, 1, none⟩ = some u2 := ⟨h.cell 0, h.cell 1⟩
/-- Two blocks at the call's beginning. -/
theorem HL.two (w : World) (t1 t2 : TypeId) (c1 c2 : Array Value) : HL w [(w.heap.size + 1, t2, c2), (w.heap.size, t1, c1)] ((w.alloc (.cells c1 t1)).alloc (.cells c2 t2)) := by
  have h := ((HL.start w).push t1 c1).push t2 c2
  rw [show (w.alloc (.cells c1 t1)).heap.size = w.heap.size + 1 by simp] at h
  exact h
theorem HL.three (w : World) (t1 t2 t3 : TypeId) (c1 c2 c3 : Array Value) : HL w [(w.heap.size + 1 + 1, t3, c3), (w.heap.size + 1, t2, c2), (w.heap.size, t1, c1)] (((w.alloc (.cells c1 t1)).alloc (.cells c2 t2)).alloc (.cells c3 t3)) := by
  have h := (HL.two w t1 t2 c1 c2).push t3 c3
  rw [show ((w.alloc (.cells c1 t1)).alloc (.cells c2 t2)).heap.size = w.heap.size + 1 + 1 by simp] at h
  exact h
theorem HL.set0 {t : TypeId} {cs : Array Value} {a : TN} (h : HL w [(w.heap.size + 1, t, cs), (w.heap.size, tnT, tC a)] W) (u : TN) : HL w [(w.heap.size + 1, t, cs), (w.heap.size, tnT, tC u)] ((W.setCell ⟨w.heap.size, 0, none⟩ (uv u.1)).setCell ⟨w.heap.size, 1, none⟩ (uv u.2)) := by
  obtain ⟨⟨h1, h2, _⟩, h3⟩ := h
  exact ⟨⟨(h1.far (p := ⟨w.heap.size, 0, none⟩) (by show w.heap.size + 1 ≠ w.heap.size; omega) _).far (p := ⟨w.heap.size, 1, none⟩) (by show w.heap.size + 1 ≠ w.heap.size; omega) _, set2 h2 u, trivial⟩, (h3.setCell (p := ⟨w.heap.size, 0, none⟩) (Nat.le_refl _) _).setCell (p := ⟨w.heap.size, 1, none⟩) (Nat.le_refl _) _⟩
theorem far2g {g k : Nat} {t : TypeId} {cs : Array Value} (h : Blk W g t cs) (hk : g ≠ k) (u1 u2 : Value) : Blk ((W.setCell ⟨k, 0, none⟩ u1).setCell ⟨k, 1, none⟩ u2) g t cs := (h.far (p := ⟨k, 0, none⟩) hk u1).far (p := ⟨k, 1, none⟩) hk u2
theorem HL.setAB {t : TypeId} {cs : Array Value} {a b : TN} (h : HL w [(w.heap.size + 1 + 1, t, cs), (w.heap.size + 1, tnT, tC b), (w.heap.size, tnT, tC a)] W) (u v : TN) : HL w [(w.heap.size + 1 + 1, t, cs), (w.heap.size + 1, tnT, tC v), (w.heap.size, tnT, tC u)] ((((W.setCell ⟨w.heap.size, 0, none⟩ (uv u.1)).setCell ⟨w.heap.size, 1, none⟩ (uv u.2)).setCell ⟨w.heap.size + 1, 0, none⟩ (uv v.1)).setCell ⟨w.heap.size + 1, 1, none⟩ (uv v.2)) := by
  obtain ⟨⟨h1, h2, h4, _⟩, h3⟩ := h
  exact ⟨⟨far2g (far2g h1 (by omega) _ _) (by omega) _ _, set2 (far2g h2 (by omega) _ _) v, far2g (set2 h4 u) (by omega) _ _, trivial⟩, (((h3.setCell (p := ⟨w.heap.size, 0, none⟩) (Nat.le_refl _) _).setCell (p := ⟨w.heap.size, 1, none⟩) (Nat.le_refl _) _).setCell (p := ⟨w.heap.size + 1, 0, none⟩) (Nat.le_succ _) _).setCell (p := ⟨w.heap.size + 1, 1, none⟩) (Nat.le_succ _) _⟩
end
theorem eq_self (X : TN) : ∀ W, (binOp .eql tnT (.agg #[uv X.1, uv X.2]) (.agg #[uv X.1, uv X.2])).run Try.prog W = .ok (.bool true) W := fun W => (tn_eq X X W).trans (by simp)
def minB (x y : B64) : B64 := if x.toNat ≤ y.toNat then x else y
def maxB (x y : B64) : B64 := if x.toNat ≤ y.toNat then y else x
theorem n64_min (x y : B64) : min (n64 x) (n64 y) = n64 (minB x y) := by
  unfold minB n64
  split <;> omega
theorem n64_max (x y : B64) : max (n64 x) (n64 y) = n64 (maxB x y) := by
  unfold maxB n64
  split <;> omega
theorem min_le_max (x y : B64) : (minB x y).toNat ≤ (maxB x y).toNat := by
  unfold minB maxB
  split <;> omega
end Go.Proofs.Ythgfaajclghjhaa
