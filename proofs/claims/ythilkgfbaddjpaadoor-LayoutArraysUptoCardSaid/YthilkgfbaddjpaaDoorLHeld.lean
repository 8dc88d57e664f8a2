/-
  Layer 7, plainly: what the walk asks of a list's bulk.
-/
import Derived.Test.YthilkgfbaddjpaaDoorLOpen0
namespace Go.Proofs.YthilkgfbaddjpaaDoor
open Go Go.RowKit
set_option linter.unusedVariables false
set_option linter.unusedSimpArgs false
theorem parts_len (t : Ty) : (partsL t).length ≤ 1 + t.mems.length := by
  unfold partsL
  by_cases h8 : t.kind = 8
  · rw [if_pos h8]; simp
  · rw [if_neg h8]
    by_cases h3 : t.kind = 3
    · rw [if_pos h3]; simp
    · rw [if_neg h3]
      by_cases h4 : t.kind = 4
      · rw [if_pos h4, List.length_map]; omega
      · rw [if_neg h4]; simp
theorem sum_by_index (l : List Ty) (g : Ty → Nat) (f : Nat → Nat) (h : ∀ i t, l[i]? = some t → f i ≤ g t) : ((List.range l.length).map f).sum ≤ (l.map g).sum := by
  induction l generalizing f with
  | nil => simp
  | cons t l ih =>
    rw [List.length_cons, List.range_succ_eq_map]
    simp only [List.map_cons, List.sum_cons, List.map_map]
    have h1 := ih (f ∘ Nat.succ) fun i t ht => h (i + 1) t (by simpa using ht)
    have h2 := h 0 t rfl
    omega
theorem wsum_range (f : Nat → Nat) (n : Nat) : wsum f (fun x => decide (x ≠ 0)) (List.range (n + 1)) = ((List.range n).map fun i => f (i + 1)).sum := by
  unfold wsum
  rw [List.range_succ_eq_map]
  have : ((List.range n).map Nat.succ).filter (fun x => decide (x ≠ 0)) = (List.range n).map Nat.succ := by
    rw [List.filter_eq_self]
    intro x hx
    obtain ⟨i, _, rfl⟩ := List.mem_map.1 hx
    simp
  rw [List.filter_cons, if_neg (by simp), this, List.map_map]
  rfl
theorem twice_bulk (l : List Ty) : (l.map fun t => 2 * (1 + t.mems.length)).sum = 2 * bulkT l := by
  unfold bulkT
  induction l with
  | nil => rfl
  | cons t l ih => simp only [List.map_cons, List.sum_cons] at ih ⊢; omega
theorem pot_bulk (l : List Ty) : pot (heldN l) l.length (start l.length) ≤ 2 * bulkT l := by
  have h1 : pot (heldN l) l.length (start l.length) ≤ wsum (fun x => 1 + (heldN l x).length) (fun x => decide (x ≠ 0)) (List.range (l.length + 1)) := by
    unfold pot
    have := wsum_le (fun x => 1 + (heldN l x).length) (fun x => decide (x ≠ 0 ∧ mt (start l.length) x = 0)) (fun x => decide (x ≠ 0)) (List.range (l.length + 1)) (fun x _ hx => by
      simp only [decide_eq_true_eq] at hx ⊢
      exact hx.1)
    simp only [start, List.length_nil] at this ⊢
    omega
  rw [wsum_range] at h1
  have h2 := sum_by_index l (fun t => 2 * (1 + t.mems.length)) (fun i => 1 + (heldN l (i + 1)).length) (fun i t ht => by
    have hp := parts_len t
    unfold heldN heldI
    simp only [Nat.add_sub_cancel, ht, List.length_map]
    omega)
  have h3 := twice_bulk l
  omega
theorem mems_bulk {l : List Ty} {t : Ty} (h : t ∈ l) : t.mems.length ≤ bulkT l := by
  unfold bulkT
  induction l with
  | nil => cases h
  | cons u l ih =>
    simp only [List.map_cons, List.sum_cons]
    rcases List.mem_cons.1 h with rfl | h
    · omega
    · have := ih h; omega
theorem held_of_bulk {l : List Ty} (hoff : ∀ t ∈ l, ∀ m ∈ t.mems, m.off ≤ 9223372036854775807) (hb : bulkT l ≤ 1048576) : Held l :=
  ⟨fun t ht => Nat.le_trans (mems_bulk ht) hb, hoff, by have := pot_bulk l; omega⟩
end Go.Proofs.YthilkgfbaddjpaaDoor
