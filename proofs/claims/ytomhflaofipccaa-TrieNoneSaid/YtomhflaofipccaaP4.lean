/-
  maps.Keys over the memory's map, its iterator, slices.Collect and slices.AppendSeq: the keys come once each, in some order, as a new slice. math/bits.Len off the library's shelf, at this translation. slices.Sort of nothing; slices.Sorted and Regions where no region is live. The library's sort of a []uint32: the row that it turns ('SRow'), and insertionSortOrdered.
-/
import Derived.Test.YtomhflaofipccaaP3
import Derived.RangeFuncFrom
import Derived.RangeFuncBox
import Derived.RangeFuncNested
import Derived.RangeFuncBound
import Derived.RangeFuncCalls
import Derived.RangeFuncLeaves
import Derived.Shelf.Abstract
import Derived.Shelf.RegionOpen
import Derived.OwnWalkIn
import Derived.TacticsInMore
import Derived.LoopNIn
import Derived.LoopIn
import Derived.Maps.AppendAt
import Derived.Maps.RangeWalk
import Derived.Sort.MapsRangeIn
import Derived.Laws.IdiomRangeMap
import Derived.CallsIn
import Derived.Shelf.Small.Bits
import Derived.Shelf.Strconv.Itoa0
import Derived.Test.YtomhflaofipccaaRows
import Derived.Sort.Defs
import Derived.WalkSmall
import Derived.Deep.QuietTactic
import Derived.BigQuiet
import Derived.BigRegion
import Derived.RegionTactic
import Derived.LoopTactic
import Derived.ChangeAlike
namespace Go.Proofs.Ytomhflaofipccaa
open Go Go.RowKit Go.Maps Go.Shelf
set_option linter.unusedVariables false
attribute [local go_sem] Oper.semAt_some

abbrev encU (n : Nat) : Value := .int .u32 (n : Int)
/-- These are the map's keys, each once. -/
def KeysOf (D : DataW Value) (ss : List Nat) : Prop := ss.Nodup ∧ ∀ n : Nat, n ∈ ss ↔ Maps.has D (.int .u32 (n : Int)) = true
theorem key32_inv {key : Value} {kl : Lit} (h : keyOf Try.prog 53 key = some kl) : ∃ n : Nat, key = encU n ∧ kl = .int .u32 (n : Int) ∧ n ≤ 4294967295 := by
  obtain ⟨x, rfl, rfl, hw⟩ := Maps.keyOf_int_inv Try.underlying53 h
  have : 0 ≤ x ∧ x ≤ 4294967295 := by simp [Lit.wf, IntKind.min, IntKind.max, IntKind.bits, IntKind.signed] at hw; omega
  obtain ⟨n, rfl⟩ := Int.eq_ofNat_of_zero_le this.1
  exact ⟨n, rfl, rfl, by omega⟩
theorem encU_inj {m n : Nat} (h : encU m = encU n) : m = n := by
  unfold encU at h
  injection h with _ h
  omega

theorem info32 : (Try.prog.info? 53).map (fun i => (i.zero, i.size, i.bytes)) = some (some (.int .u32 0), 1, 4) := by kernel_rfl
/-- A new slice of what came, nil just where nothing came. -/
def NewRow (w : World) (S : List Nat → Prop) (e : Ending) (w' : World) : Prop :=
  ∃ (v : Value) (ss : List Nat), e = .returned v ∧ S ss ∧ w'.ownsRow w.heap.size 53 1 v ss.length (ss.map encU) ∧ (v = .slice none 0 0 ↔ ss = []) ∧ Below w.heap.size w w'
end Go.Proofs.Ytomhflaofipccaa
namespace Go.Proofs.Ytomhflaofipccaa
open Go Go.Shelf
set_option linter.unusedVariables false

end Go.Proofs.Ytomhflaofipccaa
namespace Go.Proofs.Ytomhflaofipccaa
open Go Go.RowKit Go.Maps
set_option linter.unusedVariables false

section
variable {w : World} {S : Nat → Prop} {bm made fail : Nat} {st : Nat → Option RG} {rl : List Nat} {mv rv : Value}
/-- What maps.Keys and slices.Collect give over the memory's map: the live regions' numbers, in some order. -/
def LiveIn (st : Nat → Option RG) (ss : List Nat) : Prop := ss.Nodup ∧ ∀ n : Nat, n ∈ ss ↔ (st n).isSome = true
end
end Go.Proofs.Ytomhflaofipccaa
namespace Go.Proofs.Ytomhflaofipccaa
open Go Go.RowKit Go.Maps
set_option linter.unusedVariables false

def ltN (x y : Nat) : Bool := decide (x < y)
theorem quiet_left {P : Program} {f : FuncId} {args : Array Value} {w : World} {n : Nat} {v : Value}
    (h : Calls P f args (w.drewN n) fun e w' => e = .returned v ∧ w.drewN n = w') : Calls P f args (w.drewN n) fun e w'' => e = .returned v ∧ ∃ m, w'' = w.drewN m :=
  h.mono fun _ _ ⟨he, hm⟩ => ⟨he, n, hm.symm⟩
theorem Keeps.drewN {S : Nat → Prop} {a w : World} (h : Keeps S a w) (n : Nat) : Keeps S a (w.drewN n) := ⟨h.os, h.tape, h.output, h.size, h.block⟩
/-- From w0 on block g alone has turned: it holds d, and behind it what it held there. -/
structure SRow (w0 w : World) (g : Nat) (sp : List Value) (d : Array Nat) : Prop where
  keep : Keeps (fun b => b = g) w0 w
  row : Blk w g 53 ((d.toList.map encU) ++ sp).toArray
section
variable {w0 w : World} {g : Nat} {sp : List Value} {d : Array Nat}
theorem SRow.cell (h : SRow w0 w g sp d) {i : Nat} (hi : i < d.size) : w.cell? ⟨g, i, none⟩ = some (.int .u32 (d[i]! : Int)) := by
  rw [h.row.cell, List.getElem?_toArray, List.getElem?_append_left (by simpa using hi), List.getElem?_map]
  simp [hi]
theorem SRow.frozen (h : SRow w0 w g sp d) (i : Nat) : w.frozen? ⟨g, i, none⟩ = false := h.row.frozen i
theorem SRow.drewN (h : SRow w0 w g sp d) (n : Nat) : SRow w0 (w.drewN n) g sp d := ⟨h.keep.drewN n, h.row⟩
theorem SRow.drew (h : SRow w0 w g sp d) : SRow w0 w.drew g sp d := ⟨h.keep.drew, h.row⟩
theorem SRow.set_ (h : SRow w0 w g sp d) {i : Nat} (hi : i < d.size) (x : Nat) : SRow w0 (w.setCell ⟨g, i, none⟩ (.int .u32 (x : Int))) g sp (d.setIfInBounds i x) := by
  refine ⟨h.keep.setCell (p := ⟨g, i, none⟩) (.inl rfl) _, ?_⟩
  have := h.row.set_ i (.int .u32 (x : Int))
  have e : (((d.toList.map encU) ++ sp).toArray.setIfInBounds i (.int .u32 (x : Int))) = (((d.setIfInBounds i x).toList.map encU) ++ sp).toArray := by
    rw [List.setIfInBounds_toArray, List.set_append_left _ _ (by simpa using hi)]
    simp [List.map_set, encU]
  rw [e] at this
  exact this
theorem SRow.swp (h : SRow w0 w g sp d) {i j : Nat} (hi : i < d.size) (hj : j < d.size) :
    SRow w0 ((w.setCell ⟨g, i, none⟩ (.int .u32 (d[j]! : Int))).setCell ⟨g, j, none⟩ (.int .u32 (d[i]! : Int))) g sp (Sort.swp d i j) :=
  (h.set_ hi _).set_ (by simpa using hj) _
theorem size_swp (d : Array Nat) (i j : Nat) : (Sort.swp d i j).size = d.size := by simp [Sort.swp]
end
/-- What a function of the sort leaves: the row holds d'. -/
def SPost (w0 : World) (g : Nat) (sp : List Value) (d' : Array Nat) (e : Ending) (w' : World) : Prop := e = .returned (.tuple #[]) ∧ SRow w0 w' g sp d'
theorem insInner_step (a j : Nat) (d : Array Nat) (h1 : a < j) (h2 : d[j]! < d[j - 1]!) : Sort.insInner ltN a j d = Sort.insInner ltN a (j - 1) (Sort.swp d j (j - 1)) := by
  obtain ⟨i, rfl⟩ : ∃ i, j = i + 1 := ⟨j - 1, by omega⟩
  rw [Sort.insInner, if_pos]
  · rfl
  · have h2' : d[i + 1]! < d[i]! := h2
    rw [Bool.and_eq_true]
    exact ⟨by simpa using h1, decide_eq_true h2'⟩
theorem insInner_stop (a j : Nat) (d : Array Nat) (h : j = 0 ∨ j ≤ a ∨ ¬ d[j]! < d[j - 1]!) : Sort.insInner ltN a j d = d := by
  rcases j with _ | j
  · rfl
  · rw [Sort.insInner, if_neg]
    rcases h with h | h | h
    · omega
    · rw [Bool.and_eq_true]; rintro ⟨h1, _⟩; simp at h1; omega
    · rw [Bool.and_eq_true]; rintro ⟨_, h2⟩; exact h (of_decide_eq_true h2)
theorem size_insInner (a : Nat) : ∀ (j : Nat) (d : Array Nat), (Sort.insInner ltN a j d).size = d.size
  | 0, d => rfl
  | j + 1, d => by
    rw [Sort.insInner]
    split
    · rw [size_insInner a j, size_swp]
    · rfl
end Go.Proofs.Ytomhflaofipccaa
