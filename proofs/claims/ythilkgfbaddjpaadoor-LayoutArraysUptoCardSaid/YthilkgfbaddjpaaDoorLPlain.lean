/-
  Layer 7, plainly: the sizes' equations.
-/
import Derived.Test.YthilkgfbaddjpaaDoorLField2
namespace Go.Proofs.YthilkgfbaddjpaaDoor
open Go Go.RowKit
set_option linter.unusedVariables false
set_option linter.unusedSimpArgs false
theorem msr_congr {zs zs' : List (Int × Nat)} {t : Ty} (h : ∀ p ∈ (partsL t).map Int.toNat, zs.getD p (0, 0) = zs'.getD p (0, 0)) : msrA zs t = msrA zs' t := by
  unfold msrA
  by_cases k2 : t.kind = 2
  · rw [if_pos k2, if_pos k2]
  · rw [if_neg k2, if_neg k2]
    by_cases k8 : t.kind = 8
    · rw [if_pos k8, if_pos k8]
      exact h _ (by unfold partsL; simp [k8])
    · rw [if_neg k8, if_neg k8]
      by_cases k3 : t.kind = 3
      · rw [if_pos k3, if_pos k3, h t.ty.toNat (by unfold partsL; simp [k3])]
      · rw [if_neg k3, if_neg k3]
theorem getD_setZ (zs : List (Int × Nat)) (i j : Nat) (v : Int × Nat) (hi : i < zs.length) : (zs.set i v).getD j (0, 0) = if i = j then v else zs.getD j (0, 0) := by
  simp only [List.getD_eq_getElem?_getD, List.getElem?_set]
  by_cases h : i = j
  · subst h; simp [hi]
  · simp [h]
/-- What the walk's end wants: no type is wrong alone, and none holds itself. -/
structure Fine (l : List Ty) : Prop where
  few : l.length ≤ 1024
  alone : l.all (aloneB l.length) = true
  loops : (allL l).loops = []
theorem Good.fine {l : List Ty} (h : Good l) : Fine l := ⟨h.few, h.alone, h.loops⟩
theorem Fine.meas {l : List Ty} (h : Fine l) : ∀ k, k ≤ (allL l).order.length → ∀ x ∈ (allL l).order.take k, ∀ t, l[x - 1]? = some t → (measL l ((allL l).order.take k)).getD x (0, 0) = msrA (measL l ((allL l).order.take k)) t
  | 0, _, x, hx, t, ht => by simp at hx
  | k + 1, hk, x, hx, t, ht => by
    have hE := held_ok h.alone
    have hN6 : l.length ≤ 1000000 := by have := h.few; omega
    obtain ⟨o1, o2, o3⟩ := order_ok hN6 hE h.loops
    have ih := h.meas k (by omega)
    have hlt : k < (allL l).order.length := by omega
    obtain ⟨id, hid⟩ : ∃ id, (allL l).order[k] = id := ⟨_, rfl⟩
    have hid' : (allL l).order[k]? = some id := by rw [List.getElem?_eq_getElem hlt, hid]
    obtain ⟨hi1, hiN⟩ := o2 id (hid ▸ List.getElem_mem hlt)
    obtain ⟨ti, hti⟩ : ∃ t, l[id - 1]? = some t := ⟨_, List.getElem?_eq_getElem (by omega)⟩
    have hlen : ∀ ids : List Nat, (measL l ids).length = l.length + 1 := fun ids => by
      unfold measL
      have : ∀ (ids : List Nat) (zs : List (Int × Nat)), (ids.foldl (measT l) zs).length = zs.length := fun ids => by
        induction ids with
        | nil => intro zs; rfl
        | cons i ids ih => intro zs; rw [List.foldl_cons, ih, measT_len]
      rw [this]
      simp [z0]
    have hst : measL l ((allL l).order.take (k + 1)) = (measL l ((allL l).order.take k)).set id (msrA (measL l ((allL l).order.take k)) ti) := by
      rw [measL_snoc l _ k id hid']
      unfold measT
      rw [hti]
    have hpre : ∀ i, i ≤ k → ∀ (hi : i < (allL l).order.length), ∀ p ∈ heldN l ((allL l).order[i]), p ∈ (allL l).order.take k := by
      intro i hik hi p hp
      have := o3 ((allL l).order.take i) ((allL l).order[i]) ((allL l).order.drop (i + 1)) (by conv => lhs; rw [← List.take_append_drop i (allL l).order, List.drop_eq_getElem_cons hi]) p hp
      exact (List.take_subset_take_left _ hik) this
    have hl := hlen ((allL l).order.take k)
    rw [hst]
    have hx' : x ∈ (allL l).order.take k ∨ x = id := by
      rw [List.take_add_one, hid'] at hx
      simpa using hx
    generalize measL l ((allL l).order.take k) = zs at *
    have held_eq : ∀ {y : Nat} {u : Ty}, l[y - 1]? = some u → heldN l y = (partsL u).map Int.toNat := fun {y u} hu => by unfold heldN heldI; rw [hu]
    by_cases hin : id ∈ (allL l).order.take k
    · have same : ∀ p, (zs.set id (msrA zs ti)).getD p (0, 0) = zs.getD p (0, 0) := fun p => by
        rw [getD_setZ _ _ _ _ (by omega)]
        split
        · rename_i e; subst e; exact (ih id hin ti hti).symm
        · rfl
      rw [same, msr_congr (zs' := zs) fun p _ => same p]
      rcases hx' with hx' | rfl
      · exact ih x hx' t ht
      · exact ih x hin t ht
    · have same : ∀ p, p ∈ (allL l).order.take k → (zs.set id (msrA zs ti)).getD p (0, 0) = zs.getD p (0, 0) := fun p hp => by
        rw [getD_setZ _ _ _ _ (by omega), if_neg]
        rintro rfl
        exact hin hp
      rcases hx' with hx' | rfl
      · obtain ⟨i, hi, he⟩ := List.mem_iff_getElem.1 hx'
        rw [List.length_take] at hi
        rw [List.getElem_take] at he
        rw [same x hx', ih x hx' t ht]
        refine msr_congr fun p hp => (same p ?_).symm
        rw [← held_eq ht, ← he] at hp
        exact hpre i (by omega) (by omega) p hp
      · rw [getD_setZ _ _ _ _ (by omega), if_pos rfl]
        rw [hti] at ht
        cases ht
        refine msr_congr fun p hp => (same p ?_).symm
        rw [← held_eq hti, ← hid] at hp
        exact hpre k (Nat.le_refl _) hlt p hp
/-- Each type's size is what its parts' sizes make it. -/
theorem Fine.sizes_eq {l : List Ty} (h : Fine l) (x : Nat) (h1 : 1 ≤ x) (hN : x ≤ l.length) (t : Ty) (ht : l[x - 1]? = some t) : (szL l).getD x (0, 0) = msrA (szL l) t := by
  have hE := held_ok h.alone
  have hN6 : l.length ≤ 1000000 := by have := h.few; omega
  obtain ⟨o1, o2, o3⟩ := order_ok hN6 hE h.loops
  have := h.meas (allL l).order.length (Nat.le_refl _) x (by rw [List.take_length]; exact o1 x h1 hN) t ht
  rw [List.take_length] at this
  exact this
theorem Good.sizes_eq {l : List Ty} (h : Good l) (x : Nat) (h1 : 1 ≤ x) (hN : x ≤ l.length) (t : Ty) (ht : l[x - 1]? = some t) : (szL l).getD x (0, 0) = msrA (szL l) t := h.fine.sizes_eq x h1 hN t ht
end Go.Proofs.YthilkgfbaddjpaaDoor
