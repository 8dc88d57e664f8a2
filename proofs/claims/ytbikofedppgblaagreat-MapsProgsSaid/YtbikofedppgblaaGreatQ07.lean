/-
  maps.Keys over the memory's map, its iterator, slices.Collect and slices.AppendSeq: the keys come once each, in some order, as a new slice. math/bits.Len off the library's shelf, at this translation. slices.Sort of nothing; slices.Sorted and Regions where no region is live. The library's sort of a []uint32: the row that it turns ('SRow'), and insertionSortOrdered. The library's sort: order2Ordered, medianOrdered, medianAdjacentOrdered, choosePivotOrdered. The library's sort: partitionOrdered. The library's sort: partitionEqualOrdered. The library's sort: partialInsertionSortOrdered.
-/
import Derived.Test.YtbikofedppgblaaGreatQ06
import Derived.RangeFuncFrom
import Derived.RangeFuncBox
import Derived.RangeFuncNested
import Derived.RangeFuncBound
import Derived.RangeFuncCalls
import Derived.RangeFuncLeaves
import Derived.Shelf.Abstract
import Derived.Shelf.RegionOpen
import Derived.OwnWalkIn
import Derived.TacticsInMore
import Derived.LoopNIn
import Derived.LoopIn
import Derived.Maps.AppendAt
import Derived.Maps.RangeWalk
import Derived.Sort.MapsRangeIn
import Derived.Laws.IdiomRangeMap
import Derived.CallsIn
import Derived.Shelf.Small.Bits
import Derived.Shelf.Strconv.Itoa0
import Derived.Test.YtbikofedppgblaaGreatRows
import Derived.Sort.Defs
import Derived.WalkSmall
import Derived.Deep.QuietTactic
import Derived.BigQuiet
import Derived.BigRegion
import Derived.RegionTactic
import Derived.LoopTactic
import Derived.ChangeAlike
import Derived.Sort.LotC
namespace Go.Proofs.YtbikofedppgblaaGreat
open Go Go.RowKit Go.Maps Go.Shelf
set_option linter.unusedVariables false
attribute [local go_sem] Oper.semAt_some

abbrev encU (n : Nat) : Value := .int .u32 (n : Int)
/-- These are the map's keys, each once. -/
def KeysOf (D : DataW Value) (ss : List Nat) : Prop := ss.Nodup ∧ ∀ n : Nat, n ∈ ss ↔ Maps.has D (.int .u32 (n : Int)) = true
theorem key32_inv {key : Value} {kl : Lit} (h : keyOf Tryz.prog 56 key = some kl) : ∃ n : Nat, key = encU n ∧ kl = .int .u32 (n : Int) ∧ n ≤ 4294967295 := by
  obtain ⟨x, rfl, rfl, hw⟩ := Maps.keyOf_int_inv Tryz.underlying56 h
  have : 0 ≤ x ∧ x ≤ 4294967295 := by simp [Lit.wf, IntKind.min, IntKind.max, IntKind.bits, IntKind.signed] at hw; omega
  obtain ⟨n, rfl⟩ := Int.eq_ofNat_of_zero_le this.1
  exact ⟨n, rfl, rfl, by omega⟩
theorem encU_inj {m n : Nat} (h : encU m = encU n) : m = n := by
  unfold encU at h
  injection h with _ h
  omega

theorem info32 : (Tryz.prog.info? 56).map (fun i => (i.zero, i.size, i.bytes)) = some (some (.int .u32 0), 1, 4) := by kernel_rfl
/-- A new slice of what came, nil just where nothing came. -/
def NewRow (w : World) (S : List Nat → Prop) (e : Ending) (w' : World) : Prop :=
  ∃ (v : Value) (ss : List Nat), e = .returned v ∧ S ss ∧ w'.ownsRow w.heap.size 56 1 v ss.length (ss.map encU) ∧ (v = .slice none 0 0 ↔ ss = []) ∧ Below w.heap.size w w'
end Go.Proofs.YtbikofedppgblaaGreat
namespace Go.Proofs.YtbikofedppgblaaGreat
open Go Go.Shelf
set_option linter.unusedVariables false

end Go.Proofs.YtbikofedppgblaaGreat
namespace Go.Proofs.YtbikofedppgblaaGreat
open Go Go.RowKit Go.Maps
set_option linter.unusedVariables false

section
variable {w : World} {S : Nat → Prop} {bm made fail : Nat} {st : Nat → Option RG} {rl : List Nat} {mv rv : Value}
/-- What maps.Keys and slices.Collect give over the memory's map: the live regions' numbers, in some order. -/
def LiveIn (st : Nat → Option RG) (ss : List Nat) : Prop := ss.Nodup ∧ ∀ n : Nat, n ∈ ss ↔ (st n).isSome = true
end
end Go.Proofs.YtbikofedppgblaaGreat
namespace Go.Proofs.YtbikofedppgblaaGreat
open Go Go.RowKit Go.Maps
set_option linter.unusedVariables false

def ltN (x y : Nat) : Bool := decide (x < y)
theorem quiet_left {P : Program} {f : FuncId} {args : Array Value} {w : World} {n : Nat} {v : Value}
    (h : Calls P f args (w.drewN n) fun e w' => e = .returned v ∧ w.drewN n = w') : Calls P f args (w.drewN n) fun e w'' => e = .returned v ∧ ∃ m, w'' = w.drewN m :=
  h.mono fun _ _ ⟨he, hm⟩ => ⟨he, n, hm.symm⟩
theorem Keeps.drewN {S : Nat → Prop} {a w : World} (h : Keeps S a w) (n : Nat) : Keeps S a (w.drewN n) := ⟨h.os, h.tape, h.output, h.size, h.block⟩
/-- From w0 on block g alone has turned: it holds d, and behind it what it held there. -/
structure SRow (w0 w : World) (g : Nat) (sp : List Value) (d : Array Nat) : Prop where
  keep : Keeps (fun b => b = g) w0 w
  row : Blk w g 56 ((d.toList.map encU) ++ sp).toArray
section
variable {w0 w : World} {g : Nat} {sp : List Value} {d : Array Nat}
theorem SRow.cell (h : SRow w0 w g sp d) {i : Nat} (hi : i < d.size) : w.cell? ⟨g, i, none⟩ = some (.int .u32 (d[i]! : Int)) := by
  rw [h.row.cell, List.getElem?_toArray, List.getElem?_append_left (by simpa using hi), List.getElem?_map]
  simp [hi]
theorem SRow.frozen (h : SRow w0 w g sp d) (i : Nat) : w.frozen? ⟨g, i, none⟩ = false := h.row.frozen i
theorem SRow.drewN (h : SRow w0 w g sp d) (n : Nat) : SRow w0 (w.drewN n) g sp d := ⟨h.keep.drewN n, h.row⟩
theorem SRow.drew (h : SRow w0 w g sp d) : SRow w0 w.drew g sp d := ⟨h.keep.drew, h.row⟩
theorem SRow.set_ (h : SRow w0 w g sp d) {i : Nat} (hi : i < d.size) (x : Nat) : SRow w0 (w.setCell ⟨g, i, none⟩ (.int .u32 (x : Int))) g sp (d.setIfInBounds i x) := by
  refine ⟨h.keep.setCell (p := ⟨g, i, none⟩) (.inl rfl) _, ?_⟩
  have := h.row.set_ i (.int .u32 (x : Int))
  have e : (((d.toList.map encU) ++ sp).toArray.setIfInBounds i (.int .u32 (x : Int))) = (((d.setIfInBounds i x).toList.map encU) ++ sp).toArray := by
    rw [List.setIfInBounds_toArray, List.set_append_left _ _ (by simpa using hi)]
    simp [List.map_set, encU]
  rw [e] at this
  exact this
theorem SRow.swp (h : SRow w0 w g sp d) {i j : Nat} (hi : i < d.size) (hj : j < d.size) :
    SRow w0 ((w.setCell ⟨g, i, none⟩ (.int .u32 (d[j]! : Int))).setCell ⟨g, j, none⟩ (.int .u32 (d[i]! : Int))) g sp (Sort.swp d i j) :=
  (h.set_ hi _).set_ (by simpa using hj) _
theorem size_swp (d : Array Nat) (i j : Nat) : (Sort.swp d i j).size = d.size := by simp [Sort.swp]
end
/-- What a function of the sort leaves: the row holds d'. -/
def SPost (w0 : World) (g : Nat) (sp : List Value) (d' : Array Nat) (e : Ending) (w' : World) : Prop := e = .returned (.tuple #[]) ∧ SRow w0 w' g sp d'
theorem insInner_step (a j : Nat) (d : Array Nat) (h1 : a < j) (h2 : d[j]! < d[j - 1]!) : Sort.insInner ltN a j d = Sort.insInner ltN a (j - 1) (Sort.swp d j (j - 1)) := by
  obtain ⟨i, rfl⟩ : ∃ i, j = i + 1 := ⟨j - 1, by omega⟩
  rw [Sort.insInner, if_pos]
  · rfl
  · have h2' : d[i + 1]! < d[i]! := h2
    rw [Bool.and_eq_true]
    exact ⟨by simpa using h1, decide_eq_true h2'⟩
theorem insInner_stop (a j : Nat) (d : Array Nat) (h : j = 0 ∨ j ≤ a ∨ ¬ d[j]! < d[j - 1]!) : Sort.insInner ltN a j d = d := by
  rcases j with _ | j
  · rfl
  · rw [Sort.insInner, if_neg]
    rcases h with h | h | h
    · omega
    · rw [Bool.and_eq_true]; rintro ⟨h1, _⟩; simp at h1; omega
    · rw [Bool.and_eq_true]; rintro ⟨_, h2⟩; exact h (of_decide_eq_true h2)
theorem size_insInner (a : Nat) : ∀ (j : Nat) (d : Array Nat), (Sort.insInner ltN a j d).size = d.size
  | 0, d => rfl
  | j + 1, d => by
    rw [Sort.insInner]
    split
    · rw [size_insInner a j, size_swp]
    · rfl
end Go.Proofs.YtbikofedppgblaaGreat
namespace Go.Proofs.YtbikofedppgblaaGreat
open Go Go.RowKit Go.Maps
set_option linter.unusedVariables false

section
variable {w0 w : World} {g s c : Nat} {sp : List Value} {d : Array Nat}
theorem SRow.far (h : SRow w0 w g sp d) {p : Addr} (hp : g ≠ p.block) (h0 : w0.heap.size ≤ p.block) (v : Value) : SRow w0 (w.setCell p v) g sp d :=
  ⟨h.keep.setCell (.inr h0) v, h.row.far hp v⟩
theorem SRow.alloc (h : SRow w0 w g sp d) (o : Obj) : SRow w0 (w.alloc o) g sp d := ⟨h.keep.alloc o, h.row.alloc o⟩
end
/-- The row holds d; the counter of swaps, in a block of its own that w0 has not, holds c. -/
structure SW2 (w0 w : World) (g : Nat) (sp : List Value) (d : Array Nat) (s c : Nat) : Prop where
  row : SRow w0 w g sp d
  cnt : Blk w s 3 #[.int .i64 (c : Int)]
  new : w0.heap.size ≤ s
theorem SW2.ne {w0 w : World} {g s c : Nat} {sp : List Value} {d : Array Nat} (h : SW2 w0 w g sp d s c) : g ≠ s := Blk.ne_ h.row.row h.cnt (by decide)
theorem rt2_ii {a b a' b' : Int} (h : a = a') (h' : b = b') : Ending.returned (.tuple #[.int .i64 a, .int .i64 b]) = .returned (.tuple #[.int .i64 a', .int .i64 b']) := by rw [h, h']
def O2Post (w0 : World) (g : Nat) (sp : List Value) (d : Array Nat) (s : Nat) (r : Nat × Nat × Nat) (e : Ending) (w' : World) : Prop :=
  e = .returned (.tuple #[.int .i64 (r.1 : Int), .int .i64 (r.2.1 : Int)]) ∧ SW2 w0 w' g sp d s r.2.2
theorem order2_bd (d : Array Nat) (a b c : Nat) {n : Nat} (ha : a < n) (hb : b < n) : (Sort.order2 ltN d a b c).1 < n ∧ (Sort.order2 ltN d a b c).2.1 < n ∧ (Sort.order2 ltN d a b c).2.2 ≤ c + 1 := by
  unfold Sort.order2
  split
  · exact ⟨hb, ha, Nat.le_refl _⟩
  · exact ⟨ha, hb, Nat.le_succ _⟩
def MedPost (w0 : World) (g : Nat) (sp : List Value) (d : Array Nat) (s : Nat) (r : Nat × Nat) (e : Ending) (w' : World) : Prop :=
  e = .returned (.int .i64 (r.1 : Int)) ∧ SW2 w0 w' g sp d s r.2
theorem median_bd (d : Array Nat) (a b c k : Nat) {n : Nat} (ha : a < n) (hb : b < n) (hc : c < n) : (Sort.median ltN d a b c k).1 < n ∧ (Sort.median ltN d a b c k).2 ≤ k + 3 := by
  unfold Sort.median
  have h1 := order2_bd d a b k ha hb
  have h2 := order2_bd d (Sort.order2 ltN d a b k).2.1 c (Sort.order2 ltN d a b k).2.2 h1.2.1 hc
  have h3 := order2_bd d (Sort.order2 ltN d a b k).1 (Sort.order2 ltN d (Sort.order2 ltN d a b k).2.1 c (Sort.order2 ltN d a b k).2.2).1 (Sort.order2 ltN d (Sort.order2 ltN d a b k).2.1 c (Sort.order2 ltN d a b k).2.2).2.2 h1.1 h2.1
  exact ⟨h3.2.1, Nat.le_trans h3.2.2 (by omega)⟩
/-- choosePivotOrdered's hint, as Go numbers it. -/
def hintI : Sort.Hint → Int
  | .unknown => 0
  | .increasing => 1
  | .decreasing => 2
def PivPost (w0 : World) (g : Nat) (sp : List Value) (d : Array Nat) (r : Nat × Sort.Hint) (e : Ending) (w' : World) : Prop :=
  e = .returned (.tuple #[.int .i64 (r.1 : Int), .int .i64 (hintI r.2)]) ∧ SRow w0 w' g sp d
theorem choosePivot_eq (d : Array Nat) (a b : Nat) (r : Nat × Nat) (hr : r = (if b - a ≥ 8 then (if b - a ≥ 50 then
      Sort.median ltN d (Sort.medianAdjacent ltN d (a + (b - a) / 4 * 1) 0).1 (Sort.medianAdjacent ltN d (a + (b - a) / 4 * 2) (Sort.medianAdjacent ltN d (a + (b - a) / 4 * 1) 0).2).1 (Sort.medianAdjacent ltN d (a + (b - a) / 4 * 3) (Sort.medianAdjacent ltN d (a + (b - a) / 4 * 2) (Sort.medianAdjacent ltN d (a + (b - a) / 4 * 1) 0).2).2).1 (Sort.medianAdjacent ltN d (a + (b - a) / 4 * 3) (Sort.medianAdjacent ltN d (a + (b - a) / 4 * 2) (Sort.medianAdjacent ltN d (a + (b - a) / 4 * 1) 0).2).2).2
    else Sort.median ltN d (a + (b - a) / 4 * 1) (a + (b - a) / 4 * 2) (a + (b - a) / 4 * 3) 0) else (a + (b - a) / 4 * 2, 0))) :
    Sort.choosePivot ltN d a b = (r.1, if r.2 = 0 then .increasing else if r.2 = 12 then .decreasing else .unknown) := by
  subst hr; rfl
end Go.Proofs.YtbikofedppgblaaGreat
namespace Go.Proofs.YtbikofedppgblaaGreat
open Go Go.RowKit Go.Maps
set_option linter.unusedVariables false

theorem scanUp_on (p : Nat → Bool) (d : Array Nat) (j i : Nat) (h : i ≤ j) (hp : p d[i]! = true) : Sort.scanUp p d j i = Sort.scanUp p d j (i + 1) := by
  rw [Sort.scanUp, if_pos (by rw [hp]; simpa using h)]
theorem scanUp_stop (p : Nat → Bool) (d : Array Nat) (j i : Nat) (h : ¬ i ≤ j ∨ p d[i]! = false) : Sort.scanUp p d j i = i := by
  rw [Sort.scanUp, if_neg]
  rcases h with h | h
  · rw [Bool.and_eq_true]; rintro ⟨h1, _⟩; exact h (of_decide_eq_true h1)
  · rw [h]; simp
theorem scanDown_on (p : Nat → Bool) (d : Array Nat) (i j : Nat) (h : i ≤ j) (h0 : 0 < j) (hp : p d[j]! = true) : Sort.scanDown p d i j = Sort.scanDown p d i (j - 1) := by
  obtain ⟨m, rfl⟩ : ∃ m, j = m + 1 := ⟨j - 1, by omega⟩
  rw [Sort.scanDown, if_pos (by rw [hp]; simpa using h)]
  rfl
theorem scanDown_stop (p : Nat → Bool) (d : Array Nat) (i j : Nat) (h : ¬ i ≤ j ∨ p d[j]! = false) : Sort.scanDown p d i j = j := by
  rcases j with _ | j
  · rfl
  · rw [Sort.scanDown, if_neg]
    rcases h with h | h
    · rw [Bool.and_eq_true]; rintro ⟨h1, _⟩; exact h (of_decide_eq_true h1)
    · rw [h]; simp
theorem part_first {d d1 : Array Nat} {a b pv i2 j2 : Nat} (hd : d1 = Sort.swp d a pv) (hi : i2 = Sort.scanUp (fun x => ltN x d1[a]!) d1 (b - 1) (a + 1)) (hj : j2 = Sort.scanDown (fun x => !ltN x d1[a]!) d1 i2 (b - 1)) :
    Sort.partition ltN d a b pv = if i2 > j2 then (j2, true, Sort.swp d1 j2 a) else ((Sort.partLoop ltN a (i2 + 1) (j2 - 1) (Sort.swp d1 i2 j2)).1, false, Sort.swp (Sort.partLoop ltN a (i2 + 1) (j2 - 1) (Sort.swp d1 i2 j2)).2 (Sort.partLoop ltN a (i2 + 1) (j2 - 1) (Sort.swp d1 i2 j2)).1 a) := by
  subst hd; subst hi; subst hj; rfl
theorem part_next {d : Array Nat} {a i j i2 j2 : Nat} (hi : i2 = Sort.scanUp (fun x => ltN x d[a]!) d j i) (hj : j2 = Sort.scanDown (fun x => !ltN x d[a]!) d i2 j) :
    Sort.partLoop ltN a i j d = if i2 > j2 then (j2, d) else Sort.partLoop ltN a (i2 + 1) (j2 - 1) (Sort.swp d i2 j2) := by
  subst hi; subst hj; rw [Sort.partLoop_eq]
theorem partEq_next {d : Array Nat} {a i j i2 j2 : Nat} (hi : i2 = Sort.scanUp (fun x => !ltN d[a]! x) d j i) (hj : j2 = Sort.scanDown (fun x => ltN d[a]! x) d i2 j) :
    Sort.partEqLoop ltN a i j d = if i2 > j2 then (i2, d) else Sort.partEqLoop ltN a (i2 + 1) (j2 - 1) (Sort.swp d i2 j2) := by
  subst hi; subst hj; rw [Sort.partEqLoop_eq]
def PartPost (w0 : World) (g : Nat) (sp : List Value) (r : Nat × Bool × Array Nat) (e : Ending) (w' : World) : Prop :=
  e = .returned (.tuple #[.int .i64 (r.1 : Int), .bool r.2.1]) ∧ SRow w0 w' g sp r.2.2
def PartEqPost (w0 : World) (g : Nat) (sp : List Value) (r : Nat × Array Nat) (e : Ending) (w' : World) : Prop :=
  e = .returned (.int .i64 (r.1 : Int)) ∧ SRow w0 w' g sp r.2
end Go.Proofs.YtbikofedppgblaaGreat
namespace Go.Proofs.YtbikofedppgblaaGreat
open Go Go.RowKit Go.Maps
set_option linter.unusedVariables false
end Go.Proofs.YtbikofedppgblaaGreat
namespace Go.Proofs.YtbikofedppgblaaGreat
open Go Go.RowKit Go.Maps
set_option linter.unusedVariables false

theorem ltN_true {x y : Nat} (h : x < y) : ltN x y = true := decide_eq_true h
theorem ltN_false {x y : Nat} (h : ¬ x < y) : ltN x y = false := decide_eq_false h
theorem shiftDown_on (d : Array Nat) (m : Nat) (h : 1 ≤ m) (hl : d[m]! < d[m - 1]!) : Sort.shiftDown ltN m d = Sort.shiftDown ltN (m - 1) (Sort.swp d m (m - 1)) := by
  obtain ⟨k, rfl⟩ : ∃ k, m = k + 1 := ⟨m - 1, by omega⟩
  have hl' : d[k + 1]! < d[k]! := hl
  rw [Sort.shiftDown, ltN_true hl']
  rfl
theorem shiftDown_stop (d : Array Nat) (m : Nat) (h : m < 1 ∨ ¬ d[m]! < d[m - 1]!) : Sort.shiftDown ltN m d = d := by
  rcases m with _ | k
  · rfl
  · rcases h with h | h
    · omega
    · have h' : ¬ d[k + 1]! < d[k]! := h
      rw [Sort.shiftDown, ltN_false h']
      rfl
theorem shiftUp_on (d : Array Nat) (m b : Nat) (h : m < b) (hl : d[m]! < d[m - 1]!) : Sort.shiftUp ltN b m d = Sort.shiftUp ltN b (m + 1) (Sort.swp d m (m - 1)) := by
  rw [Sort.shiftUp, if_pos h, ltN_true hl]
  rfl
theorem shiftUp_stop (d : Array Nat) (m b : Nat) (h : ¬ m < b ∨ ¬ d[m]! < d[m - 1]!) : Sort.shiftUp ltN b m d = d := by
  rw [Sort.shiftUp]
  split
  · rcases h with h | h
    · omega
    · rw [ltN_false h]; rfl
  · rfl
theorem scanSorted_on (d : Array Nat) (k b : Nat) (h : k < b) (hl : ¬ d[k]! < d[k - 1]!) : Sort.scanSorted ltN d b k = Sort.scanSorted ltN d b (k + 1) := by
  rw [Sort.scanSorted, if_pos]
  rw [ltN_false hl]; simpa using h
theorem scanSorted_stop (d : Array Nat) (k b : Nat) (h : ¬ k < b ∨ d[k]! < d[k - 1]!) : Sort.scanSorted ltN d b k = k := by
  rw [Sort.scanSorted, if_neg]
  rcases h with h | h
  · rw [Bool.and_eq_true]; rintro ⟨h1, _⟩; exact h (of_decide_eq_true h1)
  · rw [ltN_true h]; simp
theorem pis_done {d : Array Nat} {a b s i k : Nat} (hk : k = Sort.scanSorted ltN d b i) (h : k = b) : Sort.partialIns ltN a b (s + 1) i d = (d, true) := by
  subst hk; rw [Sort.partialIns]; exact if_pos h
theorem pis_short {d : Array Nat} {a b s i k : Nat} (hk : k = Sort.scanSorted ltN d b i) (h : k ≠ b) (h2 : b - a < 50) : Sort.partialIns ltN a b (s + 1) i d = (d, false) := by
  subst hk; rw [Sort.partialIns]; exact (if_neg h).trans (if_pos h2)
theorem pis_go {d X2 X3 : Array Nat} {a b s i k : Nat} (hk : k = Sort.scanSorted ltN d b i) (h : k ≠ b) (h2 : ¬ b - a < 50) (hX2 : X2 = if k - a ≥ 2 then Sort.shiftDown ltN (k - 1) (Sort.swp d k (k - 1)) else Sort.swp d k (k - 1)) (hX3 : X3 = if b - k ≥ 2 then Sort.shiftUp ltN b (k + 1) X2 else X2) :
    Sort.partialIns ltN a b (s + 1) i d = Sort.partialIns ltN a b s k X3 := by
  subst hk; subst hX3; subst hX2; rw [Sort.partialIns]; exact (if_neg h).trans (if_neg h2)
theorem size_shiftDown : ∀ (m : Nat) (d : Array Nat), (Sort.shiftDown ltN m d).size = d.size
  | 0, d => rfl
  | m + 1, d => by
    rw [Sort.shiftDown]
    split
    · rfl
    · rw [size_shiftDown m, size_swp]
theorem size_shiftUp (b : Nat) : ∀ (t m : Nat) (d : Array Nat), b - m ≤ t → (Sort.shiftUp ltN b m d).size = d.size
  | 0, m, d, h => by rw [Sort.shiftUp, if_neg (by omega)]
  | t + 1, m, d, h => by
    rw [Sort.shiftUp]
    split
    · split
      · rfl
      · rw [size_shiftUp b t (m + 1) _ (by omega), size_swp]
    · rfl
def PisPost (w0 : World) (g : Nat) (sp : List Value) (r : Array Nat × Bool) (e : Ending) (w' : World) : Prop := e = .returned (.bool r.2) ∧ SRow w0 w' g sp r.1
end Go.Proofs.YtbikofedppgblaaGreat
