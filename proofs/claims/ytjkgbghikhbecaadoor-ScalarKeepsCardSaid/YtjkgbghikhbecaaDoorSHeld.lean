/-
  Blocks that are held, one by one, in a list.
-/
import Derived.Test.YtjkgbghikhbecaaDoorTEq
import Derived.Test.YtjkgbghikhbecaaDoorSMath
import Derived.Lib.MinMax
namespace Go.Proofs.YtjkgbghikhbecaaDoor
open Go Go.RowKit Go.Maps Tn
set_option linter.unusedVariables false
set_option linter.unusedSimpArgs false
set_option maxRecDepth 100000
def HLs : List (Nat × TypeId × Array Value) → World → Prop
  | [], _ => True
  | b :: L, W => Blk W b.1 b.2.1 b.2.2 ∧ HLs L W
theorem HLs.keeps : ∀ {L : List (Nat × TypeId × Array Value)} {W W' : World}, HLs L W → Keeps (fun _ => False) W W' → HLs L W'
  | [], _, _, _, _ => trivial
  | _ :: _, _, _, h, k => ⟨h.1.keeps k (fun h => h), HLs.keeps h.2 k⟩
structure HL (w : World) (L : List (Nat × TypeId × Array Value)) (W : World) : Prop where
  all : HLs L W
  below : Below w.heap.size w W
section
variable {w W W' : World} {L : List (Nat × TypeId × Array Value)}
theorem HL.keeps (h : HL w L W) (k : Keeps (fun _ => False) W W') : HL w L W' := ⟨h.all.keeps k, h.below.trans (k.below (fun _ h => h.elim) h.below.size)⟩
theorem HL.call (h : HL w L W) (k : Below W.heap.size W W') : HL w L W' := h.keeps (keeps_below k)
theorem HL.start (w : World) : HL w [] w := ⟨trivial, Below.refl _ _⟩
theorem HL.push (h : HL w L W) (t : TypeId) (cs : Array Value) : HL w ((W.heap.size, t, cs) :: L) (W.alloc (.cells cs t)) :=
  ⟨⟨Blk.new W t cs, h.all.keeps ((Keeps.refl (fun _ => False) W).alloc _)⟩, h.below.alloc h.below.size _⟩
theorem Blk.two {g : Nat} {t : TypeId} {u1 u2 : Value} (h : Blk W g t #[u1, u2]) : W.cell? ⟨g, 0, none⟩ = some u1 ∧ W.cell? ⟨g, 1, none⟩ = some u2 := ⟨h.cell 0, h.cell 1⟩
/-- Two blocks at the call's beginning. -/
theorem HL.two (w : World) (t1 t2 : TypeId) (c1 c2 : Array Value) : HL w [(w.heap.size + 1, t2, c2), (w.heap.size, t1, c1)] ((w.alloc (.cells c1 t1)).alloc (.cells c2 t2)) := by
  have h := ((HL.start w).push t1 c1).push t2 c2
  rw [show (w.alloc (.cells c1 t1)).heap.size = w.heap.size + 1 by simp] at h
  exact h
theorem HL.three (w : World) (t1 t2 t3 : TypeId) (c1 c2 c3 : Array Value) : HL w [(w.heap.size + 1 + 1, t3, c3), (w.heap.size + 1, t2, c2), (w.heap.size, t1, c1)] (((w.alloc (.cells c1 t1)).alloc (.cells c2 t2)).alloc (.cells c3 t3)) := by
  have h := (HL.two w t1 t2 c1 c2).push t3 c3
  rw [show ((w.alloc (.cells c1 t1)).alloc (.cells c2 t2)).heap.size = w.heap.size + 1 + 1 by simp] at h
  exact h
end
theorem Blk.three {W : World} {g : Nat} {t : TypeId} {u1 u2 u3 : Value} (h : Blk W g t #[u1, u2, u3]) : W.cell? ⟨g, 0, none⟩ = some u1 ∧ W.cell? ⟨g, 1, none⟩ = some u2 ∧ W.cell? ⟨g, 2, none⟩ = some u3 := ⟨h.cell 0, h.cell 1, h.cell 2⟩
theorem Blk.four {W : World} {g : Nat} {t : TypeId} {u1 u2 u3 u4 : Value} (h : Blk W g t #[u1, u2, u3, u4]) : W.cell? ⟨g, 0, none⟩ = some u1 ∧ W.cell? ⟨g, 1, none⟩ = some u2 ∧ W.cell? ⟨g, 2, none⟩ = some u3 ∧ W.cell? ⟨g, 3, none⟩ = some u4 := ⟨h.cell 0, h.cell 1, h.cell 2, h.cell 3⟩
theorem Blk.soft2 {W : World} {g : Nat} {t : TypeId} {cs : Array Value} (h : Blk W g t cs) : W.frozen? ⟨g, 0, none⟩ = false ∧ W.frozen? ⟨g, 1, none⟩ = false := ⟨h.frozen 0, h.frozen 1⟩
theorem Blk.soft4 {W : World} {g : Nat} {t : TypeId} {cs : Array Value} (h : Blk W g t cs) : W.frozen? ⟨g, 0, none⟩ = false ∧ W.frozen? ⟨g, 1, none⟩ = false ∧ W.frozen? ⟨g, 2, none⟩ = false ∧ W.frozen? ⟨g, 3, none⟩ = false := ⟨h.frozen 0, h.frozen 1, h.frozen 2, h.frozen 3⟩
/-- A scalar by value, and its cells. -/
abbrev scT : TypeId := 26
abbrev sC (s : SC) : Array Value := #[uv s.1.1, uv s.1.2, uv s.2.1, uv s.2.2]
abbrev sv (s : SC) : Value := .agg (sC s)
end Go.Proofs.YtjkgbghikhbecaaDoor
