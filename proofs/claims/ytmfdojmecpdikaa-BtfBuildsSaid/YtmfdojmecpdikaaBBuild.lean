/-
  Layer 6: a new writer, its blob.
-/
import Derived.Test.YtmfdojmecpdikaaBPut0
import Derived.Deep.RegionHeld3
import Derived.Lib.SlBytesConst
import Derived.Lib.SmallJoins
import Derived.Carry
namespace Go.Proofs.Ytmfdojmecpdikaa
open Go Go.RowKit Go.Maps
set_option linter.unusedVariables false
set_option linter.unusedSimpArgs false
set_option maxRecDepth 100000
set_option maxHeartbeats 2000000 in
theorem newWriter_any (w : World) :
    Calls Try.prog 12 #[] w fun e w' => ∃ g, e = .returned (.pointer (some ⟨g, 0, none⟩)) ∧ WA w w w' g newW := by
  have kc := fun (w : World) (C : Array Value) (n c : Nat) => Lib.run_convert_bytes_const (P := Try.prog) w 45 5 C n c Try.underlying45 Try.underlying5
  have hmm := @run_makeMap Try.prog
  have hown0 : OwnM ((w.alloc (.cells #[.int .u8 0] 5 (1, 2))).alloc (.map #[] 0)) (w.heap.size + 1) 0 [] := by
    have := World.ownsMap_made (H := Unit) (w.alloc (.cells #[.int .u8 0] 5 (1, 2))) Try.prog 9 (plainElem Try.prog 3)
    rw [show (w.alloc (.cells #[.int .u8 0] 5 (1, 2))).heap.size = w.heap.size + 1 by simp] at this
    exact this
  obtain ⟨w1, hup, ho1, hg1⟩ := World.ownsMap.update hown0 lawS Try.underlying67 (by unfold maxLen; omega) (Go.WideMaps.keyOf_string_mk Try.underlying9 (s := ⟨#[]⟩) (by decide)) (plainElem_int Try.underlying3 (a := 0) (WalkArith.wf_i64 (by omega)))
  have HUP := Lib.hid hup
  have HO := Lib.hid ho1
  have HG := Lib.hid hg1
  clear hown0 ho1 hg1
  go_enter Try.func12, Try.ntmps12
  go_wp2_with fail
  go_ret
  have hW0 : (w.alloc (.cells #[.int .u8 0] 5 (1, 2))).heap.size = w.heap.size + 1 := by simp
  have hW1 : ((w.alloc (.cells #[.int .u8 0] 5 (1, 2))).alloc (.map #[] 0)).heap.size = w.heap.size + 1 + 1 := by simp
  have hb0 : Below w.heap.size w ((w.alloc (.cells #[.int .u8 0] 5 (1, 2))).alloc (.map #[] 0)) := ((Below.refl _ w).alloc (Nat.le_refl _) _).alloc (by simp) _
  have hb1 : Below w.heap.size w w1 := hb0.grown HG.out (by simp; omega) (fun k e => by cases e; omega)
  have hr0 : ((w.alloc (.cells #[.int .u8 0] 5 (1, 2))).alloc (.map #[] 0)).heap[w.heap.size]? = some (.cells #[.int .u8 0] 5 (1, 2)) := by
    rw [Below.heap_alloc _ _ _ (by simp)]
    exact heap_alloc_new w _
  have hr1 : w1.heap[w.heap.size]? = some (.cells #[.int .u8 0] 5 (1, 2)) := (HG.out.block _ (by simp; omega) (fun e => by have := Option.some.inj e; omega)).trans hr0
  have hlt := lt_of_some hr1
  have hsz := HG.out.size
  refine ⟨w1.heap.size, rfl, ⟨⟨.slice none 0 0, .slice (some ⟨w.heap.size, 0, none⟩) 1 1, w.heap.size + 1, 1, ⟨Blk.new _ _ _, ?_, ?_, ?_, hb1.size, by omega, (fun b e => (by cases e)), by decide⟩, by decide⟩, Fine.new, ?_, hb1.alloc hb1.size _, Below.refl _ _⟩⟩
  · exact .inl (World.ownsRow_nil _ _ _ _)
  · exact .inr ⟨by decide, w.heap.size, #[.int .u8 0], (1, 2), rfl, Nat.le_refl _, (Below.heap_alloc _ _ _ hlt).trans hr1, rfl⟩
  · exact World.ownsMap.alloc HO.out _
  · refine TagK.alloc (TagK.grown (((TagK.refl w).alloc _).alloc _) HG.out (fun b hb o ho => ?_)) _
    cases hb
    have : ((w.alloc (.cells #[.int .u8 0] 5 (1, 2))).alloc (.map #[] 0)).heap[w.heap.size + 1]? = some (.map #[] 0) := by
      have := heap_alloc_new (w.alloc (.cells #[.int .u8 0] 5 (1, 2))) (.map #[] 0)
      rwa [hW0] at this
    rw [this] at ho
    cases ho
    rfl
/-- A constant's bytes get their mark, wherever they lie. -/
theorem conv_mark {w : World} {g : Nat} {C : Array Value} {fr : Nat × Nat} (h : w.heap[g]? = some (.cells C 5 fr)) (n c : Nat) :
    (convert 45 45 (.slice (some ⟨g, 0, none⟩) n c)).run Try.prog w = .ok (.slice (some ⟨g, 0, none⟩) n c) (w.freeze ⟨g, C.size, none⟩ 1) := by
  have hsh : w.shape? g = some (5, C.size) := by unfold World.shape?; rw [h]
  simp [convert, run_underlying Try.underlying45, run_underlying Try.underlying5, markStringish, hsh]
theorem freeze_other (w : World) (g k n b : Nat) (h : b ≠ g) : (w.freeze ⟨g, k, none⟩ n).heap[b]? = w.heap[b]? := by
  unfold World.freeze
  split
  · rfl
  · simp [Array.getElem?_modify, Ne.symm h]
theorem freeze_same (w : World) (g k n : Nat) (C : Array Value) (t : TypeId) (fr : Nat × Nat) (h : w.heap[g]? = some (.cells C t fr)) : ∃ fr', (w.freeze ⟨g, k, none⟩ n).heap[g]? = some (.cells C t fr') := by
  unfold World.freeze
  split
  · exact ⟨fr, h⟩
  · simp [Array.getElem?_modify, h]
theorem freeze_keep (w : World) (g k n : Nat) : (w.freeze ⟨g, k, none⟩ n).os = w.os ∧ (w.freeze ⟨g, k, none⟩ n).tape = w.tape ∧ (w.freeze ⟨g, k, none⟩ n).output = w.output ∧ (w.freeze ⟨g, k, none⟩ n).heap.size = w.heap.size := by
  unfold World.freeze
  split <;> simp
/-- Old blocks stay. -/
structure Olds (w w' : World) : Prop where
  os : w'.os = w.os
  tape : w'.tape = w.tape
  output : w'.output = w.output
  size : w.heap.size ≤ w'.heap.size
  block : ∀ b, b < w.heap.size → w'.heap[b]? = w.heap[b]?
theorem Olds.refl (w : World) : Olds w w := ⟨rfl, rfl, rfl, Nat.le_refl _, fun _ _ => rfl⟩
theorem Olds.drew {a w : World} (h : Olds a w) : Olds a w.drew := ⟨h.os, h.tape, h.output, h.size, h.block⟩
theorem Olds.alloc {a w : World} (h : Olds a w) (o : Obj) : Olds a (w.alloc o) := ⟨h.os, h.tape, h.output, by have := h.size; simp; omega, fun b hb => (Below.heap_alloc w o b (Nat.lt_of_lt_of_le hb h.size)).trans (h.block b hb)⟩
theorem Olds.freeze {a w : World} (h : Olds a w) (g k n : Nat) (hg : a.heap.size ≤ g) : Olds a (w.freeze ⟨g, k, none⟩ n) := by
  obtain ⟨e1, e2, e3, e4⟩ := freeze_keep w g k n
  exact ⟨e1.trans h.os, e2.trans h.tape, e3.trans h.output, by rw [e4]; exact h.size, fun b hb => (freeze_other w g k n b (by omega)).trans (h.block b hb)⟩
theorem Olds.below {a w : World} {B : Nat} (h : Olds a w) (hB : B ≤ a.heap.size) : Below B a w := ⟨h.os, h.tape, h.output, h.size, fun k hk => h.block k (by omega)⟩
theorem Olds.grown {a w w' : World} {row : Option Nat} (h : Olds a w) (hg : w.grownBy w' row) (hr : ∀ b, row = some b → a.heap.size ≤ b) : Olds a w' :=
  ⟨hg.os.trans h.os, hg.tape.trans h.tape, hg.output.trans h.output, Nat.le_trans h.size hg.size, fun b hb => (hg.block b (Nat.lt_of_lt_of_le hb h.size) (fun e => by have := hr b e.symm; omega)).trans (h.block b hb)⟩
theorem WM.olds {w w' : World} {base g mb n : Nat} {st : WS} {tv nv : Value} (h : WM w base g st tv nv mb n) (k : Olds w w') : WM w' base g st tv nv mb n := by
  obtain ⟨x, c, hm⟩ := h.map.isMap
  exact ⟨(k.block g h.blk.lt).trans h.blk, h.ts.block fun b hb => k.block b (h.ts.tag b hb).2.1, h.ns.block fun b hb => k.block b (h.ns.tag b hb).2.1,
    World.ownsMap.kept (row := none) h.map ⟨k.os, k.tape, k.output, k.size, fun b hb _ => k.block b hb⟩ (by simp), h.hg, h.hm, h.apart, h.n0⟩
abbrev opC : Array Value := #[.int .u8 159, .int .u8 235, .int .u8 1, .int .u8 0, .int .u8 24, .int .u8 0, .int .u8 0, .int .u8 0]
abbrev numC (a b : Nat) : Array Value := #[.int .i64 0, .int .i64 a, .int .i64 a, .int .i64 b]
theorem opC_list : opC.toList = opening.map byteV := by
  unfold opC opening
  simp [byteV]
/-- The head's bytes and numbers lie there: the call can be made. -/
theorem head_call {wr X : World} (gb gi a b : Nat) (fr : Nat × Nat) (hol : Olds wr X) (hgb : wr.heap.size ≤ gb) (hgi : wr.heap.size ≤ gi) (h1 : X.heap[gb]? = some (.cells opC 5 fr)) (h2 : X.heap[gi]? = some (.cells (numC a b) 3 (0, 0))) :
    Calls Try.prog 29 #[.slice (some ⟨gb, 0, none⟩) 8 8, .slice (some ⟨gi, 0, none⟩) 4 4] X fun e w' => ∃ v', e = .returned v' ∧ RowB w' wr.heap.size v' (opening ++ le4s [0, a, a, b]) ∧ Olds wr w' ∧ (∀ x, v'.ownBlock = some x → wr.heap.size ≤ x) := by
  have hr : RowB X wr.heap.size (.slice (some ⟨gb, 0, none⟩) 8 8) opening := .inr ⟨by decide, gb, opC, fr, rfl, hgb, h1, opC_list⟩
  have hI : IntsAt X (some ⟨gi, 0, none⟩) [0, (a : Int), (a : Int), (b : Int)] := by
    intro i x hx
    refine ⟨gi, 0, rfl, lt_of_some h2, ?_⟩
    have hb : Blk X gi 3 (numC a b) := h2
    rw [hb.cell]
    match i, hx with
    | 0, hx => simp at hx; subst hx; rfl
    | 1, hx => simp at hx; subst hx; rfl
    | 2, hx => simp at hx; subst hx; rfl
    | 3, hx => simp at hx; subst hx; rfl
    | i + 4, hx => simp at hx
  have hA : IntRow X (some ⟨gi, 0, none⟩) := fun x hx => by cases hx; exact ⟨_, _, h2⟩
  refine (appendNumbers_any hr (some ⟨gi, 0, none⟩) 4 [0, (a : Int), (a : Int), (b : Int)] hI (rowB_int hr hA) hol.size (by rw [show opening.length = 8 from rfl]; simp)).mono fun e w' hp => ?_
  obtain ⟨v', he, hrow, hg, hp⟩ := hp
  exact ⟨v', he, hrow, hol.grown hg (fun x hx => by simp only [Value.ownBlock] at hx; cases hx; exact hgb), fun x hx => (hrow.tag x hx).1⟩
theorem run_append_zero {w : World} {base : Nat} {v : Value} {l : List UInt8} (h : RowB w base v l) (hl : 0 < l.length) (ty : TypeId) (A : Option Addr) (c : Nat) :
    (Builtin.append_ #[45, 45] ty #[v, .slice A 0 c]).run Try.prog w = .ok v w := by
  obtain ⟨i0, hi, hz, hs, hb⟩ := info_parts info8
  obtain ⟨g, cp, rfl, _⟩ := h.cells hl
  have hcap : l.length ≤ cp := by
    rcases h with h | ⟨_, g', cur, fr, e, _⟩
    · rcases h.2 with ⟨e, _⟩ | ⟨g', cap, cur, e, _, _, h4, _⟩
      · cases e
      · cases e; exact h4
    · cases e; exact Nat.le_refl _
  cases A <;> simp [Builtin.append_, run_underlying Try.underlying45, sizeOf, typeInfo, hi, hs, Builtin.lenOf, hcap, Builtin.firstCells, loadCells, loadCellsFrom, storeCells]
/-- An append of which it is known what it gives, as one step of a region that draws its order. -/
theorem step_append_runT {P : Program} {ops : Array Oper} {o : Oper} {a : Act} {w : World} {K : Act → World → Prop} {Q : Exit → Act → World → Prop} {E : Prop} (hg : o.guard = none) (s x : Operand) (t u : TypeId)
    (hop : o.op = Op.call { callee := Callee.builtin Builtin.append, args := #[s, x], argTypes := #[t, u] }) (v xv v' : Value) (w' : World) (hs : a.eval s = v) (hx : a.eval x = xv) (ty : TypeId) (hty : o.type = ty) (hrun : (Builtin.append_ #[t, u] ty #[v, xv]).run P w = .ok v' w') (hK : K (a.put o.dst v') w') :
    if Region.wanted o (yielded ops a.tmps) = true then Oper.wp P o a w K Q else E := by
  have hw : Region.wanted o (yielded ops a.tmps) = true := by simp [Region.wanted, hg]
  rw [if_pos hw]
  subst hty
  unfold Oper.wp execOp
  simp only [hop, resolve, invoke, builtin, Sem.run_bind, Sem.run_pure, Result.andThen_ok, List.map_toArray, List.map_cons, List.map_nil, hs, hx, hrun]
  exact hK
end Go.Proofs.Ytmfdojmecpdikaa
