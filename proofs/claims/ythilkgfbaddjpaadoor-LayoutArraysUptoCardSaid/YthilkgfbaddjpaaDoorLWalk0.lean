/-
  Layer 7: the walk as it lies: its block and its four rows of numbers.
-/
import Derived.Test.YthilkgfbaddjpaaDoorLGraph3
import Derived.Test.YthilkgfbaddjpaaDoorLParts
import Derived.Test.YthilkgfbaddjpaaDoorLLook
import Derived.Laws.OwnMore
import Derived.OneCell
namespace Go.Proofs.YthilkgfbaddjpaaDoor
open Go Go.RowKit
set_option linter.unusedVariables false
set_option linter.unusedSimpArgs false
set_option maxRecDepth 100000
def natC (l : List Nat) : List Value := l.map fun n : Nat => Value.int .i64 (n : Int)
theorem natC_len (l : List Nat) : (natC l).length = l.length := by simp [natC]
theorem natC_app (a b : List Nat) : natC (a ++ b) = natC a ++ natC b := by simp [natC]
theorem heap_lt {w : World} {b : Nat} {o : Obj} (h : w.heap[b]? = some o) : b < w.heap.size := by
  rcases Nat.lt_or_ge b w.heap.size with hlt | hge
  · exact hlt
  · rw [Array.getElem?_eq_none hge] at h; cases h
theorem row_tag {w : World} {base : Nat} {e : TypeId} {size : Nat} {v : Value} {n : Nat} {xs : List Value} (h : w.ownsRow base e size v n xs) (b : Nat) (hb : v.ownBlock = some b) : base ≤ b ∧ ∃ cur, w.heap[b]? = some (.cells cur e (0, 0)) := by
  rcases h.2 with ⟨rfl, _⟩ | ⟨g, cap, cur, rfl, h1, h2, rest⟩
  · cases hb
  · simp only [Value.ownBlock, Option.some.injEq] at hb
    subst hb
    exact ⟨h1, cur, h2⟩
theorem row_lt {w : World} {base : Nat} {e : TypeId} {size : Nat} {v : Value} {n : Nat} {xs : List Value} (h : w.ownsRow base e size v n xs) (b : Nat) (hb : v.ownBlock = some b) : b < w.heap.size := by
  obtain ⟨_, cur, hc⟩ := row_tag h b hb
  exact heap_lt hc
theorem row_block {w w' : World} {base : Nat} {e : TypeId} {size : Nat} {v : Value} {n : Nat} {xs : List Value} (h : w.ownsRow base e size v n xs) (hk : ∀ b, v.ownBlock = some b → w'.heap[b]? = w.heap[b]?) : w'.ownsRow base e size v n xs := by
  refine ⟨h.1, ?_⟩
  rcases h.2 with hn | ⟨g, cap, cur, rfl, h1, h2, rest⟩
  · exact .inl hn
  · exact .inr ⟨g, cap, cur, rfl, h1, (hk g rfl).trans h2, rest⟩
theorem row_ne {w : World} {base g : Nat} {e t : TypeId} {s : Nat} {v : Value} {n : Nat} {xs : List Value} {cs : Array Value} (h : w.ownsRow base e s v n xs) (hb : Blk w g t cs) (hne : t ≠ e) (b : Nat) (hx : v.ownBlock = some b) : b ≠ g := by
  rintro rfl
  obtain ⟨_, cur, hc⟩ := row_tag h b hx
  exact hb.ne_ (show Blk w b e cur from hc) hne rfl
/-- Which blocks are the walk's. -/
def mine (g : Nat) (mv ov dv pv : Value) (b : Nat) : Prop := b = g ∨ mv.ownBlock = some b ∨ ov.ownBlock = some b ∨ dv.ownBlock = some b ∨ pv.ownBlock = some b
structure Apart (mv ov dv pv : Value) : Prop where
  mo : ∀ b, mv.ownBlock = some b → ov.ownBlock ≠ some b
  md : ∀ b, mv.ownBlock = some b → dv.ownBlock ≠ some b
  mp : ∀ b, mv.ownBlock = some b → pv.ownBlock ≠ some b
  od : ∀ b, ov.ownBlock = some b → dv.ownBlock ≠ some b
  op : ∀ b, ov.ownBlock = some b → pv.ownBlock ≠ some b
  dp : ∀ b, dv.ownBlock = some b → pv.ownBlock ≠ some b
structure WX (S : Nat → Prop) (w0 W : World) (base g : Nat) (cs : Array Value) (mv ov dv pv : Value) (met : List Int) (op order loops : List Nat) : Prop where
  blk : Blk W g 76 cs
  met : W.ownsRow base 3 1 mv met.length (intC met)
  op : W.ownsRow base 3 1 ov op.length (natC op)
  order : W.ownsRow base 3 1 dv order.length (natC order)
  loops : W.ownsRow base 3 1 pv loops.length (natC loops)
  apart : Apart mv ov dv pv
  hbase : base ≤ W.heap.size
  keeps : Keeps S w0 W
  new : ∀ b, mine g mv ov dv pv b → S b ∨ w0.heap.size ≤ b
section
variable {S : Nat → Prop} {w0 W : World} {base g : Nat} {cs : Array Value} {mv ov dv pv : Value} {met : List Int} {op order loops : List Nat}
theorem WX.drew (h : WX S w0 W base g cs mv ov dv pv met op order loops) : WX S w0 W.drew base g cs mv ov dv pv met op order loops :=
  ⟨h.blk, h.met, h.op, h.order, h.loops, h.apart, h.hbase, h.keeps.drew, h.new⟩
theorem WX.alloc (h : WX S w0 W base g cs mv ov dv pv met op order loops) (o : Obj) : WX S w0 (W.alloc o) base g cs mv ov dv pv met op order loops :=
  ⟨h.blk.alloc o, h.met.alloc o, h.op.alloc o, h.order.alloc o, h.loops.alloc o, h.apart, by have := h.hbase; simp; omega, h.keeps.alloc o, h.new⟩
theorem WX.cell (h : WX S w0 W base g cs mv ov dv pv met op order loops) (i : Nat) (u : Value) : WX S w0 (W.setCell ⟨g, i, none⟩ u) base g (cs.setIfInBounds i u) mv ov dv pv met op order loops := by
  have far : ∀ {v : Value} {n : Nat} {xs : List Value}, W.ownsRow base 3 1 v n xs → (W.setCell ⟨g, i, none⟩ u).ownsRow base 3 1 v n xs := fun hr =>
    row_block hr fun b hx => Below.heap_setCell W ⟨g, i, none⟩ u b (row_ne hr h.blk (by decide) b hx)
  exact ⟨h.blk.set_ i u, far h.met, far h.op, far h.order, far h.loops, h.apart, by have := h.hbase; simp [World.setCell]; omega, h.keeps.setCell (p := ⟨g, i, none⟩) (h.new g (.inl rfl)) u, h.new⟩
/-- What others do. -/
theorem WX.below {W' : World} (h : WX S w0 W base g cs mv ov dv pv met op order loops) (hb : Below W.heap.size W W') : WX S w0 W' base g cs mv ov dv pv met op order loops :=
  ⟨h.blk.below_ hb, row_block h.met fun b hx => hb.block b (row_lt h.met b hx), row_block h.op fun b hx => hb.block b (row_lt h.op b hx), row_block h.order fun b hx => hb.block b (row_lt h.order b hx), row_block h.loops fun b hx => hb.block b (row_lt h.loops b hx), h.apart, Nat.le_trans h.hbase hb.size,
    ⟨hb.os.trans h.keeps.os, hb.tape.trans h.keeps.tape, hb.output.trans h.keeps.output, Nat.le_trans h.keeps.size hb.size, fun k hk hs => (hb.block k (Nat.lt_of_lt_of_le hk h.keeps.size)).trans (h.keeps.block k hk hs)⟩, h.new⟩
/-- A number of met, set. -/
theorem WX.setMet {M c : Nat} (h : WX S w0 W base g cs (.slice (some ⟨M, 0, none⟩) met.length c) ov dv pv met op order loops) (j : Nat) (hj : j < met.length) (v : Int) :
    WX S w0 (W.setCell ⟨M, j, none⟩ (.int .i64 v)) base g cs (.slice (some ⟨M, 0, none⟩) met.length c) ov dv pv (met.set j v) op order loops := by
  have hst := h.met.stored j (.int .i64 v)
  have e : (intC met).set j (.int .i64 v) = intC (met.set j v) := by simp [intC, List.map_set]
  have hM : W.heap[M]? ≠ none := by
    obtain ⟨_, cur, hc⟩ := row_tag h.met M rfl
    rw [hc]; simp
  have far : ∀ {u : Value} {n : Nat} {xs : List Value}, W.ownsRow base 3 1 u n xs → u.ownBlock ≠ some M → (W.setCell ⟨M, j, none⟩ (.int .i64 v)).ownsRow base 3 1 u n xs := fun hr hne =>
    row_block hr fun b hx => Below.heap_setCell W ⟨M, j, none⟩ _ b (by rintro rfl; exact hne hx)
  have hg : g ≠ M := fun e => row_ne h.met h.blk (by decide) M rfl e.symm
  refine ⟨h.blk.far hg _, ?_, far h.op (h.apart.mo M rfl), far h.order (h.apart.md M rfl), far h.loops (h.apart.mp M rfl), ?_, by have := h.hbase; simp [World.setCell]; omega, h.keeps.setCell (p := ⟨M, j, none⟩) (h.new M (.inr (.inl rfl))) _, ?_⟩
  · have h1 := hst.1
    rw [e] at h1
    rw [List.length_set]
    exact h1
  · exact h.apart
  · exact h.new
theorem WX.grow_op {W' : World} {v' : Value} {xs : List Nat} (h : WX S w0 W base g cs mv ov dv pv met op order loops) (hown : W'.ownsRow base 3 1 v' (op.length + xs.length) (natC op ++ natC xs)) (hg : W.grownBy W' ov.ownBlock) (hp : v'.ownBlock = ov.ownBlock ∨ v'.ownBlock = some W.heap.size) :
    WX S w0 W' base g cs mv v' dv pv met (op ++ xs) order loops := by
  have hown2 : W'.ownsRow base 3 1 v' (op ++ xs).length (natC (op ++ xs)) := by rw [natC_app, List.length_append]; exact hown
  refine ⟨(hg.block g h.blk.lt (fun e => row_ne h.op h.blk (by decide) g e.symm rfl)).trans h.blk, row_block h.met fun b hx => hg.block b (row_lt h.met b hx) (fun e => h.apart.mo b hx e.symm), hown2, row_block h.order fun b hx => hg.block b (row_lt h.order b hx) (fun e => h.apart.od b e.symm hx), row_block h.loops fun b hx => hg.block b (row_lt h.loops b hx) (fun e => h.apart.op b e.symm hx), ⟨(fun b hx e => by rcases hp with hp | hp; (exact h.apart.mo b hx (hp ▸ e)); (have := row_lt h.met b hx; rw [hp] at e; cases e; omega)), h.apart.md, h.apart.mp, (fun b hx e => by rcases hp with hp | hp; (exact h.apart.od b (hp ▸ hx) e); (have := row_lt h.order b e; rw [hp] at hx; cases hx; omega)), (fun b hx e => by rcases hp with hp | hp; (exact h.apart.op b (hp ▸ hx) e); (have := row_lt h.loops b e; rw [hp] at hx; cases hx; omega)), h.apart.dp⟩, Nat.le_trans h.hbase hg.size, h.keeps.grown hg (fun b hb => h.new b (by unfold mine; simp [hb])), fun b hb => ?_⟩
  have hs := h.keeps.size
  unfold mine at hb
  rcases hb with hb | hb | hb | hb | hb
  · exact h.new b (by unfold mine; simp [hb])
  · exact h.new b (by unfold mine; simp [hb])
  · rcases hp with hp | hp
    · exact h.new b (by unfold mine; rw [← hp]; simp [hb])
    · right; rw [hp] at hb; cases hb; exact hs
  · exact h.new b (by unfold mine; simp [hb])
  · exact h.new b (by unfold mine; simp [hb])
theorem WX.grow_order {W' : World} {v' : Value} {xs : List Nat} (h : WX S w0 W base g cs mv ov dv pv met op order loops) (hown : W'.ownsRow base 3 1 v' (order.length + xs.length) (natC order ++ natC xs)) (hg : W.grownBy W' dv.ownBlock) (hp : v'.ownBlock = dv.ownBlock ∨ v'.ownBlock = some W.heap.size) :
    WX S w0 W' base g cs mv ov v' pv met op (order ++ xs) loops := by
  have hown2 : W'.ownsRow base 3 1 v' (order ++ xs).length (natC (order ++ xs)) := by rw [natC_app, List.length_append]; exact hown
  refine ⟨(hg.block g h.blk.lt (fun e => row_ne h.order h.blk (by decide) g e.symm rfl)).trans h.blk, row_block h.met fun b hx => hg.block b (row_lt h.met b hx) (fun e => h.apart.md b hx e.symm), row_block h.op fun b hx => hg.block b (row_lt h.op b hx) (fun e => h.apart.od b hx e.symm), hown2, row_block h.loops fun b hx => hg.block b (row_lt h.loops b hx) (fun e => h.apart.dp b e.symm hx), ⟨h.apart.mo, (fun b hx e => by rcases hp with hp | hp; (exact h.apart.md b hx (hp ▸ e)); (have := row_lt h.met b hx; rw [hp] at e; cases e; omega)), h.apart.mp, (fun b hx e => by rcases hp with hp | hp; (exact h.apart.od b hx (hp ▸ e)); (have := row_lt h.op b hx; rw [hp] at e; cases e; omega)), h.apart.op, (fun b hx e => by rcases hp with hp | hp; (exact h.apart.dp b (hp ▸ hx) e); (have := row_lt h.loops b e; rw [hp] at hx; cases hx; omega))⟩, Nat.le_trans h.hbase hg.size, h.keeps.grown hg (fun b hb => h.new b (by unfold mine; simp [hb])), fun b hb => ?_⟩
  have hs := h.keeps.size
  unfold mine at hb
  rcases hb with hb | hb | hb | hb | hb
  · exact h.new b (by unfold mine; simp [hb])
  · exact h.new b (by unfold mine; simp [hb])
  · exact h.new b (by unfold mine; simp [hb])
  · rcases hp with hp | hp
    · exact h.new b (by unfold mine; rw [← hp]; simp [hb])
    · right; rw [hp] at hb; cases hb; exact hs
  · exact h.new b (by unfold mine; simp [hb])
theorem WX.grow_loops {W' : World} {v' : Value} {xs : List Nat} (h : WX S w0 W base g cs mv ov dv pv met op order loops) (hown : W'.ownsRow base 3 1 v' (loops.length + xs.length) (natC loops ++ natC xs)) (hg : W.grownBy W' pv.ownBlock) (hp : v'.ownBlock = pv.ownBlock ∨ v'.ownBlock = some W.heap.size) :
    WX S w0 W' base g cs mv ov dv v' met op order (loops ++ xs) := by
  have hown2 : W'.ownsRow base 3 1 v' (loops ++ xs).length (natC (loops ++ xs)) := by rw [natC_app, List.length_append]; exact hown
  refine ⟨(hg.block g h.blk.lt (fun e => row_ne h.loops h.blk (by decide) g e.symm rfl)).trans h.blk, row_block h.met fun b hx => hg.block b (row_lt h.met b hx) (fun e => h.apart.mp b hx e.symm), row_block h.op fun b hx => hg.block b (row_lt h.op b hx) (fun e => h.apart.op b hx e.symm), row_block h.order fun b hx => hg.block b (row_lt h.order b hx) (fun e => h.apart.dp b hx e.symm), hown2, ⟨h.apart.mo, h.apart.md, (fun b hx e => by rcases hp with hp | hp; (exact h.apart.mp b hx (hp ▸ e)); (have := row_lt h.met b hx; rw [hp] at e; cases e; omega)), h.apart.od, (fun b hx e => by rcases hp with hp | hp; (exact h.apart.op b hx (hp ▸ e)); (have := row_lt h.op b hx; rw [hp] at e; cases e; omega)), (fun b hx e => by rcases hp with hp | hp; (exact h.apart.dp b hx (hp ▸ e)); (have := row_lt h.order b hx; rw [hp] at e; cases e; omega))⟩, Nat.le_trans h.hbase hg.size, h.keeps.grown hg (fun b hb => h.new b (by unfold mine; simp [hb])), fun b hb => ?_⟩
  have hs := h.keeps.size
  unfold mine at hb
  rcases hb with hb | hb | hb | hb | hb
  · exact h.new b (by unfold mine; simp [hb])
  · exact h.new b (by unfold mine; simp [hb])
  · exact h.new b (by unfold mine; simp [hb])
  · exact h.new b (by unfold mine; simp [hb])
  · rcases hp with hp | hp
    · exact h.new b (by unfold mine; rw [← hp]; simp [hb])
    · right; rw [hp] at hb; cases hb; exact hs
end
end Go.Proofs.YthilkgfbaddjpaaDoor
