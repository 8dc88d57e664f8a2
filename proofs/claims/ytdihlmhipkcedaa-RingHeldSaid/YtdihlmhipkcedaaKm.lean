/-
  Package kmem's memory as it lies in the heap: words for blocks that are known whole, for a world that keeps all but some blocks, and what each small function returns.
-/
import Derived.Test.YtdihlmhipkcedaaRows
import Derived.WalkKit
import Derived.Maps.OwnSet
import Derived.Lib.Hide
import Derived.Deep.Draws
import Derived.Laws.Rows
import Derived.WalkSpells
import Derived.IntWalk
namespace Go.Proofs.Ytdihlmhipkcedaa
open Go Go.RowKit Go.Maps
set_option linter.unusedVariables false

/-- Block g holds just the cells cs of type t; none is frozen. -/
def Blk (w : World) (g : Nat) (t : TypeId) (cs : Array Value) : Prop := w.heap[g]? = some (.cells cs t (0, 0))
section
variable {w w' : World} {g : Nat} {t : TypeId} {cs : Array Value}
theorem Blk.lt (h : Blk w g t cs) : g < w.heap.size := by
  rcases Nat.lt_or_ge g w.heap.size with hlt | hge
  · exact hlt
  · unfold Blk at h; rw [Array.getElem?_eq_none hge] at h; cases h
theorem Blk.cell (h : Blk w g t cs) (i : Nat) : w.cell? ⟨g, i, none⟩ = cs[i]? := cell_of_row w g i cs t (0, 0) h
theorem Blk.frozen (h : Blk w g t cs) (i : Nat) : w.frozen? ⟨g, i, none⟩ = false := by
  unfold Blk at h
  simp [World.frozen?, h]
theorem Blk.new (w : World) (t : TypeId) (cs : Array Value) : Blk (w.alloc (.cells cs t)) w.heap.size t cs := heap_alloc_new w _
theorem Blk.alloc (h : Blk w g t cs) (o : Obj) : Blk (w.alloc o) g t cs := (Below.heap_alloc w o g h.lt).trans h
theorem Blk.set_ (h : Blk w g t cs) (i : Nat) (u : Value) : Blk (w.setCell ⟨g, i, none⟩ u) g t (cs.setIfInBounds i u) := by
  unfold Blk at h ⊢
  simp [World.setCell, Array.getElem?_modify, h]
theorem Blk.far (h : Blk w g t cs) {p : Addr} (hp : g ≠ p.block) (u : Value) : Blk (w.setCell p u) g t cs := (Below.heap_setCell w p u g hp).trans h
theorem Blk.ne_ {g' : Nat} {t' : TypeId} {cs' : Array Value} (h : Blk w g t cs) (h' : Blk w g' t' cs') (hne : t ≠ t') : g ≠ g' := by
  rintro rfl
  unfold Blk at h h'
  rw [h] at h'
  injection h' with h'
  injection h' with _ ht
  exact hne ht
end

/-- w' is w but for the blocks of S and new ones. -/
structure Keeps (S : Nat → Prop) (w w' : World) : Prop where
  os : w'.os = w.os
  tape : w'.tape = w.tape
  output : w'.output = w.output
  size : w.heap.size ≤ w'.heap.size
  block : ∀ k, k < w.heap.size → ¬ S k → w'.heap[k]? = w.heap[k]?
section
variable {S T : Nat → Prop} {a w w' : World}
theorem Keeps.refl (S : Nat → Prop) (w : World) : Keeps S w w := ⟨rfl, rfl, rfl, Nat.le_refl _, fun _ _ _ => rfl⟩
/-- The blocks of S, and those that were made from w to w'. -/
def more (S : Nat → Prop) (w w' : World) : Nat → Prop := fun b => S b ∨ (w.heap.size ≤ b ∧ b < w'.heap.size)
theorem Keeps.trans {b c : World} (h : Keeps S a b) (k : Keeps (more S a b) b c) : Keeps S a c :=
  ⟨k.os.trans h.os, k.tape.trans h.tape, k.output.trans h.output, Nat.le_trans h.size k.size, fun i hi hs => (k.block i (Nat.lt_of_lt_of_le hi h.size) (by
    rintro (h1 | ⟨h1, _⟩)
    · exact hs h1
    · omega)).trans (h.block i hi hs)⟩
theorem Keeps.mono (h : Keeps S w w') (hS : ∀ b, S b → T b) : Keeps T w w' := ⟨h.os, h.tape, h.output, h.size, fun i hi hs => h.block i hi (fun h1 => hs (hS i h1))⟩
theorem Keeps.drew (h : Keeps S a w) : Keeps S a w.drew := ⟨h.os, h.tape, h.output, h.size, h.block⟩
theorem Keeps.alloc (h : Keeps S a w) (o : Obj) : Keeps S a (w.alloc o) :=
  ⟨h.os, h.tape, h.output, by have := h.size; simp; omega, fun k hk hs => (Below.heap_alloc w o k (Nat.lt_of_lt_of_le hk h.size)).trans (h.block k hk hs)⟩
theorem Keeps.setCell (h : Keeps S a w) {p : Addr} (hp : S p.block ∨ a.heap.size ≤ p.block) (u : Value) : Keeps S a (w.setCell p u) :=
  ⟨h.os, h.tape, h.output, by have := h.size; simp [World.setCell]; omega, fun k hk hs => (Below.heap_setCell w p u k (by
    rintro rfl
    rcases hp with h1 | h1
    · exact hs h1
    · omega)).trans (h.block k hk hs)⟩
theorem Keeps.grown {row : Option Nat} (h : Keeps S a w) (hg : w.grownBy w' row) (hr : ∀ k, row = some k → S k ∨ a.heap.size ≤ k) : Keeps S a w' :=
  ⟨hg.os.trans h.os, hg.tape.trans h.tape, hg.output.trans h.output, Nat.le_trans h.size hg.size, fun k hk hs => (hg.block k (Nat.lt_of_lt_of_le hk h.size) (by
    intro e
    rcases hr k e.symm with h1 | h1
    · exact hs h1
    · omega)).trans (h.block k hk hs)⟩
theorem Keeps.below {B : Nat} (h : Keeps S w w') (hS : ∀ b, S b → B ≤ b) (hB : B ≤ w.heap.size) : Below B w w' :=
  ⟨h.os, h.tape, h.output, h.size, fun k hk => h.block k (by omega) (fun hs => by have := hS k hs; omega)⟩
theorem Below.keeps {B : Nat} (h : Below B w w') (hS : ∀ b, B ≤ b → b < w.heap.size → S b) : Keeps S w w' :=
  ⟨h.os, h.tape, h.output, h.size, fun k hk hs => h.block k (by
    rcases Nat.lt_or_ge k B with h1 | h1
    · exact h1
    · exact absurd (hS k h1 hk) hs)⟩
theorem Blk.keeps {g : Nat} {t : TypeId} {cs : Array Value} (h : Blk w g t cs) (k : Keeps S w w') (hs : ¬ S g) : Blk w' g t cs := (k.block g h.lt hs).trans h
end

theorem ret_int {k : IntKind} {a b : Int} (h : a = b) : Ending.returned (.int k a) = .returned (.int k b) := by rw [h]

/-! ### the small functions -/
/-- The address of offset o in region n. -/
def addr (n o : Nat) : Int := (n : Int) * 4294967296 + (o : Int)
theorem addr_bd {n o : Nat} (hn : n ≤ 4294967295) (ho : o ≤ 4294967295) : 0 ≤ addr n o ∧ addr n o ≤ 18446744073709551615 ∧ addr n o / 4294967296 = (n : Int) ∧ addr n o % 4294967296 = (o : Int) := by
  unfold addr; omega
theorem addr_of (a : Int) (h0 : 0 ≤ a) (h1 : a ≤ 18446744073709551615) : ∃ n o : Nat, n ≤ 4294967295 ∧ o ≤ 4294967295 ∧ a = addr n o :=
  ⟨(a / 4294967296).toNat, (a % 4294967296).toNat, by omega, by omega, by unfold addr; omega⟩
theorem ret2_u32 {a b c d : Int} (h : a = c) (h' : b = d) : Ending.returned (.tuple #[.int .u32 a, .int .u32 b]) = .returned (.tuple #[.int .u32 c, .int .u32 d]) := by rw [h, h']
theorem split_any (n o : Nat) (hn : n ≤ 4294967295) (ho : o ≤ 4294967295) (w : World) :
    Calls Try.prog 36 #[.int .u64 (addr n o)] w fun e w' => e = .returned (.tuple #[.int .u32 n, .int .u32 o]) ∧ w = w' := by
  obtain ⟨h0, h1, h2, h3⟩ := addr_bd hn ho
  generalize addr n o = a at *
  have H2 := Lib.hid h2; have H3 := Lib.hid h3; clear h2 h3
  go_enter Try.func36, Try.ntmps36
  go_wp2
  go_ret2
  exact ⟨ret2_u32 H2.out H3.out, rfl⟩
theorem address_any (n : Nat) (h1 : n ≤ 4294967295) (w : World) :
    Calls Try.prog 35 #[.int .u32 n] w fun e w' => e = .returned (.int .u64 (addr n 0)) ∧ w = w' := by
  have h2 : Hid (addr n 0 = (n : Int) * 4294967296) := by unfold addr Hid; omega
  go_enter Try.func35, Try.ntmps35
  go_wp2
  go_ret
  exact ⟨ret_int h2.out.symm, rfl⟩
theorem new_any (w : World) :
    Calls Try.prog 6 #[] w fun e w' => e = .returned (.pointer (some ⟨w.heap.size, 0, none⟩)) ∧ w' = w.alloc (.cells #[.map none, .int .u32 0, .slice none 0 0, .int .i64 0] 51) := by
  go_enter Try.func6, Try.ntmps6
  go_wp2
  go_ret
  exact ⟨rfl, rfl⟩
theorem failsNow_no (bm : Nat) (m n r : Value) (w : World) (hb : Blk w bm 51 #[m, n, r, .int .i64 0]) :
    Calls Try.prog 34 #[.pointer (some ⟨bm, 0, none⟩)] w fun e w' => e = .returned (.bool false) ∧ w = w' := by
  have c3 : w.cell? ⟨bm, 3, none⟩ = some (.int .i64 0) := hb.cell 3
  go_enter Try.func34, Try.ntmps34
  go_wp2
  go_ret
  exact ⟨rfl, rfl⟩
theorem failsNow_yes (bm : Nat) (m n r : Value) (k : Nat) (h1 : k < 1048576) (w : World) (hb : Blk w bm 51 #[m, n, r, .int .i64 ((k : Int) + 1)]) :
    Calls Try.prog 34 #[.pointer (some ⟨bm, 0, none⟩)] w fun e w' => e = .returned (.bool ((k : Int) == 0)) ∧ w' = w.setCell ⟨bm, 3, none⟩ (.int .i64 k) := by
  have c3 : w.cell? ⟨bm, 3, none⟩ = some (.int .i64 ((k : Int) + 1)) := hb.cell 3
  have f3 : w.frozen? ⟨bm, 3, none⟩ = false := hb.frozen 3
  have h3 : ((k : Int) + 1 == 0) = false := by simp; omega
  go_enter Try.func34, Try.ntmps34
  go_wp2
  go_ret
  exact ⟨rfl, rfl⟩
end Go.Proofs.Ytdihlmhipkcedaa
