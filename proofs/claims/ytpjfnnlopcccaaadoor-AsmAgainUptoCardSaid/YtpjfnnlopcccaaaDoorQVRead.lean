/-
  Package asm: Read, exact.
-/
import Derived.Test.YtpjfnnlopcccaaaDoorQVSeq
namespace Go.Proofs.YtpjfnnlopcccaaaDoor
open Go Go.RowKit Go.Maps Go.Shelf
set_option linter.unusedVariables false
set_option linter.unusedSimpArgs false
attribute [local go_sem] Oper.semAt_some
/-- The slots of all lines; none: there is a line that is none of the table. -/
def readAll : List ByteArray → Option (List Slot)
  | [] => some []
  | x :: l => match lineR x with
    | none => none
    | some a => (readAll l).map (a ++ ·)
/-- The number of the first line that is none. -/
def badAt : List ByteArray → Nat
  | [] => 0
  | x :: l => if (lineR x).isSome = true then badAt l + 1 else 1
theorem readAll_snoc : ∀ {pre : List ByteArray} {x : ByteArray} {X a : List Slot}, readAll pre = some X → lineR x = some a → readAll (pre ++ [x]) = some (X ++ a)
  | [], x, X, a, h, hx => by
    cases h
    simp [readAll, hx]
  | y :: pre, x, X, a, h, hx => by
    rw [List.cons_append, readAll]
    rw [readAll] at h
    rcases hy : lineR y with _ | b
    · rw [hy] at h; cases h
    · rw [hy] at h
      obtain ⟨Z, hZ, rfl⟩ := Option.map_eq_some_iff.1 h
      simp only [readAll_snoc hZ hx, Option.map_some, List.append_assoc]
theorem readAll_stop : ∀ {pre : List ByteArray} {x : ByteArray} {r : List ByteArray} {X : List Slot}, readAll pre = some X → lineR x = none → readAll (pre ++ x :: r) = none ∧ badAt (pre ++ x :: r) = pre.length + 1
  | [], x, r, X, h, hx => by
    simp [readAll, badAt, hx]
  | y :: pre, x, r, X, h, hx => by
    rw [readAll] at h
    rcases hy : lineR y with _ | b
    · rw [hy] at h; cases h
    · rw [hy] at h
      obtain ⟨Z, hZ, rfl⟩ := Option.map_eq_some_iff.1 h
      obtain ⟨h1, h2⟩ := readAll_stop (r := r) hZ hx
      rw [List.cons_append, readAll, badAt, hy, h1, h2]
      simp
theorem slotsR_len {L : List ByteArray} {X : List Slot} (h : slotsR L = some X) : X.length ≤ 2 := by
  unfold slotsR at h
  split at h
  · obtain ⟨p, _, rfl⟩ := Option.map_eq_some_iff.1 h; simp
  · obtain ⟨p, _, rfl⟩ := Option.map_eq_some_iff.1 h; simp
theorem lineR_len {s : ByteArray} {X : List Slot} (h : lineR s = some X) : X.length ≤ 2 := by
  unfold lineR at h
  split at h
  · cases h
  · cases h; simp
  · exact slotsR_len h
theorem readAll_len : ∀ {pre : List ByteArray} {X : List Slot}, readAll pre = some X → X.length ≤ 2 * pre.length
  | [], X, h => by cases h; simp
  | y :: pre, X, h => by
    rw [readAll] at h
    rcases hy : lineR y with _ | b
    · rw [hy] at h; cases h
    · rw [hy] at h
      obtain ⟨Z, hZ, rfl⟩ := Option.map_eq_some_iff.1 h
      have h1 := readAll_len hZ
      have h2 := lineR_len hy
      simp only [List.length_append, List.length_cons]
      omega
/-- A list of slots, cell by cell. -/
def rowC (X : List Slot) : List Value := cellsAll (nthS X) X.length
theorem rowC_eq (X : List Slot) : rowC X = X.flatMap Slot.cells := by
  unfold rowC cellsAll
  have e : (List.range X.length).map (nthS X) = X := by
    apply List.ext_getElem
    · simp
    · intro i h1 h2
      simp [nthS, List.getElem?_eq_getElem h2, List.getD]
  conv => rhs; rw [← e]
  rw [List.flatMap_map]
theorem rowC_app (X Y : List Slot) : rowC (X ++ Y) = rowC X ++ rowC Y := by rw [rowC_eq, rowC_eq, rowC_eq, List.flatMap_append]
abbrev slT : TypeId := 22
abbrev intT : TypeId := 3
abbrev errT : TypeId := 23
abbrev rowAt (W : World) (base : Nat) (v : Value) (X : List Slot) : Prop := W.ownsRow base inT 5 v X.length (rowC X)
/-- What lies in the ten blocks that Read makes for itself. -/
def RC (a0 a1 a2 v k : Value) (r : ByteArray) (L : Loop) : Nat → Obj
  | 0 => .cells #[a0] slT
  | 1 => .cells #[a1] intT
  | 2 => .cells #[a2] errT
  | 3 => .cells #[v] slT
  | 4 => .cells #[k] intT
  | 5 => .cells #[.string r] strT
  | 6 => .cells #[.string ⟨#[10]⟩] strT
  | 7 => .cells #[.int .i64 0] intT
  | 8 => .deferred (some [])
  | 9 => .loop L
  | _ => .deferred none
structure RJ (w : World) (C : Nat → Obj) (W : World) : Prop where
  below : Below w.heap.size w W
  at_ : ∀ i, i < 10 → W.heap[w.heap.size + i]? = some (C i)
def upd (C : Nat → Obj) (i : Nat) (o : Obj) : Nat → Obj := fun j => if j = i then o else C j
section
variable {w W W' : World} {C : Nat → Obj}
theorem RJ.lt (h : RJ w C W) (i : Nat) (hi : i < 10) : w.heap.size + i < W.heap.size := (Array.getElem?_eq_some_iff.1 (h.at_ i hi)).1
theorem RJ.on (h : RJ w C W) (hb : Below W.heap.size W W') : RJ w C W' :=
  ⟨h.below.on hb, fun i hi => (hb.block _ (h.lt i hi)).trans (h.at_ i hi)⟩
theorem RJ.grown (h : RJ w C W) {row : Option Nat} (hg : W.grownBy W' row) (hr : ∀ k, row = some k → w.heap.size + 10 ≤ k) : RJ w C W' :=
  ⟨h.below.grown hg h.below.size (fun k e => by have := hr k e; omega), fun i hi => (hg.block _ (h.lt i hi) (fun e => by have := hr _ e.symm; omega)).trans (h.at_ i hi)⟩
theorem RJ.puto (h : RJ w C W) (i : Nat) (hi : i < 10) (o : Obj) : RJ w (upd C i o) (W.putObj (w.heap.size + i) o) := by
  refine ⟨h.below.grown (grownBy_putObj' W (w.heap.size + i) o) h.below.size (fun k e => by cases e; omega), fun j hj => ?_⟩
  unfold upd
  by_cases e : j = i
  · subst e
    rw [if_pos rfl]
    exact World.putObj_heap_same (h.lt j hj)
  · rw [if_neg e]
    exact (World.putObj_heap_other (by omega)).trans (h.at_ j hj)
theorem RJ.setc (h : RJ w C W) (i : Nat) (hi : i < 10) {u : Value} {t : TypeId} (hc : C i = .cells #[u] t) (v : Value) : RJ w (upd C i (.cells #[v] t)) (W.setCell ⟨w.heap.size + i, 0, none⟩ v) := by
  refine ⟨h.below.setCell (p := ⟨w.heap.size + i, 0, none⟩) (Nat.le_add_right _ _) v, fun j hj => ?_⟩
  unfold upd
  by_cases e : j = i
  · subst e
    rw [if_pos rfl]
    have hb : Blk W (w.heap.size + j) t #[u] := (h.at_ j hj).trans (congrArg some hc)
    have h1 := hb.set_ 0 v
    have hs : (#[u] : Array Value).setIfInBounds 0 v = #[v] := rfl
    rw [hs] at h1
    exact h1
  · rw [if_neg e]
    exact (Below.heap_setCell W _ v _ (by show w.heap.size + j ≠ w.heap.size + i; omega)).trans (h.at_ j hj)
theorem RJ.blk (h : RJ w C W) (i : Nat) (hi : i < 10) {cs : Array Value} {t : TypeId} (hc : C i = .cells cs t) : Blk W (w.heap.size + i) t cs := (h.at_ i hi).trans (congrArg some hc)
theorem rowAt.set {base : Nat} {v u : Value} {X : List Slot} {a : Addr} (h : rowAt W base v X) (ha : a.block < base) : rowAt (W.setCell a u) base v X :=
  ownsRow_keeps h ((Keeps.refl (fun k => k = a.block) W).setCell (p := a) (.inl rfl) u) (fun b e => by subst e; exact ha)
theorem rowAt.puto {base : Nat} {v : Value} {X : List Slot} {l : Nat} {o : Obj} (h : rowAt W base v X) (hl : l < base) : rowAt (W.putObj l o) base v X := by
  refine ⟨h.1, h.2.imp id ?_⟩
  rintro ⟨g, cap, cur, rfl, h1, h2, rest⟩
  exact ⟨g, cap, cur, rfl, h1, (World.putObj_heap_other (by omega)).trans h2, rest⟩
end
section
variable (a0 a1 a2 v k : Value) (r : ByteArray) (L : Loop)
theorem upd0 (x : Value) : upd (RC a0 a1 a2 v k r L) 0 (.cells #[x] slT) = RC x a1 a2 v k r L := by
  funext j; rcases j with _ | _ | _ | _ | _ | _ | _ | _ | _ | _ | j <;> simp [upd, RC]
theorem upd1 (x : Value) : upd (RC a0 a1 a2 v k r L) 1 (.cells #[x] intT) = RC a0 x a2 v k r L := by
  funext j; rcases j with _ | _ | _ | _ | _ | _ | _ | _ | _ | _ | j <;> simp [upd, RC]
theorem upd2 (x : Value) : upd (RC a0 a1 a2 v k r L) 2 (.cells #[x] errT) = RC a0 a1 x v k r L := by
  funext j; rcases j with _ | _ | _ | _ | _ | _ | _ | _ | _ | _ | j <;> simp [upd, RC]
theorem upd3 (x : Value) : upd (RC a0 a1 a2 v k r L) 3 (.cells #[x] slT) = RC a0 a1 a2 x k r L := by
  funext j; rcases j with _ | _ | _ | _ | _ | _ | _ | _ | _ | _ | j <;> simp [upd, RC]
theorem upd4 (x : Value) : upd (RC a0 a1 a2 v k r L) 4 (.cells #[x] intT) = RC a0 a1 a2 v x r L := by
  funext j; rcases j with _ | _ | _ | _ | _ | _ | _ | _ | _ | _ | j <;> simp [upd, RC]
theorem upd5 (x : ByteArray) : upd (RC a0 a1 a2 v k r L) 5 (.cells #[.string x] strT) = RC a0 a1 a2 v k x L := by
  funext j; rcases j with _ | _ | _ | _ | _ | _ | _ | _ | _ | _ | j <;> simp [upd, RC]
theorem upd9 (x : Loop) : upd (RC a0 a1 a2 v k r L) 9 (.loop x) = RC a0 a1 a2 v k r x := by
  funext j; rcases j with _ | _ | _ | _ | _ | _ | _ | _ | _ | _ | j <;> simp [upd, RC]
end
end Go.Proofs.YtpjfnnlopcccaaaDoor
