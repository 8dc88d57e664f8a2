/-
  The library's sort: order2Ordered, medianOrdered, medianAdjacentOrdered, choosePivotOrdered.
-/
import Derived.Test.YtomhflaofipccaaP4
namespace Go.Proofs.Ytomhflaofipccaa
open Go Go.RowKit Go.Maps
set_option linter.unusedVariables false

section
variable {w0 w : World} {g s c : Nat} {sp : List Value} {d : Array Nat}
theorem SRow.far (h : SRow w0 w g sp d) {p : Addr} (hp : g ≠ p.block) (h0 : w0.heap.size ≤ p.block) (v : Value) : SRow w0 (w.setCell p v) g sp d :=
  ⟨h.keep.setCell (.inr h0) v, h.row.far hp v⟩
theorem SRow.alloc (h : SRow w0 w g sp d) (o : Obj) : SRow w0 (w.alloc o) g sp d := ⟨h.keep.alloc o, h.row.alloc o⟩
end
/-- The row holds d; the counter of swaps, in a block of its own that w0 has not, holds c. -/
structure SW2 (w0 w : World) (g : Nat) (sp : List Value) (d : Array Nat) (s c : Nat) : Prop where
  row : SRow w0 w g sp d
  cnt : Blk w s 3 #[.int .i64 (c : Int)]
  new : w0.heap.size ≤ s
theorem SW2.ne {w0 w : World} {g s c : Nat} {sp : List Value} {d : Array Nat} (h : SW2 w0 w g sp d s c) : g ≠ s := Blk.ne_ h.row.row h.cnt (by decide)
theorem rt2_ii {a b a' b' : Int} (h : a = a') (h' : b = b') : Ending.returned (.tuple #[.int .i64 a, .int .i64 b]) = .returned (.tuple #[.int .i64 a', .int .i64 b']) := by rw [h, h']
def O2Post (w0 : World) (g : Nat) (sp : List Value) (d : Array Nat) (s : Nat) (r : Nat × Nat × Nat) (e : Ending) (w' : World) : Prop :=
  e = .returned (.tuple #[.int .i64 (r.1 : Int), .int .i64 (r.2.1 : Int)]) ∧ SW2 w0 w' g sp d s r.2.2
theorem order2_bd (d : Array Nat) (a b c : Nat) {n : Nat} (ha : a < n) (hb : b < n) : (Sort.order2 ltN d a b c).1 < n ∧ (Sort.order2 ltN d a b c).2.1 < n ∧ (Sort.order2 ltN d a b c).2.2 ≤ c + 1 := by
  unfold Sort.order2
  split
  · exact ⟨hb, ha, Nat.le_refl _⟩
  · exact ⟨ha, hb, Nat.le_succ _⟩
def MedPost (w0 : World) (g : Nat) (sp : List Value) (d : Array Nat) (s : Nat) (r : Nat × Nat) (e : Ending) (w' : World) : Prop :=
  e = .returned (.int .i64 (r.1 : Int)) ∧ SW2 w0 w' g sp d s r.2
theorem median_bd (d : Array Nat) (a b c k : Nat) {n : Nat} (ha : a < n) (hb : b < n) (hc : c < n) : (Sort.median ltN d a b c k).1 < n ∧ (Sort.median ltN d a b c k).2 ≤ k + 3 := by
  unfold Sort.median
  have h1 := order2_bd d a b k ha hb
  have h2 := order2_bd d (Sort.order2 ltN d a b k).2.1 c (Sort.order2 ltN d a b k).2.2 h1.2.1 hc
  have h3 := order2_bd d (Sort.order2 ltN d a b k).1 (Sort.order2 ltN d (Sort.order2 ltN d a b k).2.1 c (Sort.order2 ltN d a b k).2.2).1 (Sort.order2 ltN d (Sort.order2 ltN d a b k).2.1 c (Sort.order2 ltN d a b k).2.2).2.2 h1.1 h2.1
  exact ⟨h3.2.1, Nat.le_trans h3.2.2 (by omega)⟩
/-- choosePivotOrdered's hint, as Go numbers it. -/
def hintI : Sort.Hint → Int
  | .unknown => 0
  | .increasing => 1
  | .decreasing => 2
def PivPost (w0 : World) (g : Nat) (sp : List Value) (d : Array Nat) (r : Nat × Sort.Hint) (e : Ending) (w' : World) : Prop :=
  e = .returned (.tuple #[.int .i64 (r.1 : Int), .int .i64 (hintI r.2)]) ∧ SRow w0 w' g sp d
theorem choosePivot_eq (d : Array Nat) (a b : Nat) (r : Nat × Nat) (hr : r = (if b - a ≥ 8 then (if b - a ≥ 50 then
      Sort.median ltN d (Sort.medianAdjacent ltN d (a + (b - a) / 4 * 1) 0).1 (Sort.medianAdjacent ltN d (a + (b - a) / 4 * 2) (Sort.medianAdjacent ltN d (a + (b - a) / 4 * 1) 0).2).1 (Sort.medianAdjacent ltN d (a + (b - a) / 4 * 3) (Sort.medianAdjacent ltN d (a + (b - a) / 4 * 2) (Sort.medianAdjacent ltN d (a + (b - a) / 4 * 1) 0).2).2).1 (Sort.medianAdjacent ltN d (a + (b - a) / 4 * 3) (Sort.medianAdjacent ltN d (a + (b - a) / 4 * 2) (Sort.medianAdjacent ltN d (a + (b - a) / 4 * 1) 0).2).2).2
    else Sort.median ltN d (a + (b - a) / 4 * 1) (a + (b - a) / 4 * 2) (a + (b - a) / 4 * 3) 0) else (a + (b - a) / 4 * 2, 0))) :
    Sort.choosePivot ltN d a b = (r.1, if r.2 = 0 then .increasing else if r.2 = 12 then .decreasing else .unknown) := by
  subst hr; rfl
end Go.Proofs.Ytomhflaofipccaa
