/-
  Layer 7, plainly: a list of types and three more: an array of one, a name of it, a pointer to that.
-/
import Derived.Test.YthilkgfbaddjpaaDoorLPlain2
import Derived.Test.YthilkgfbaddjpaaDoorLHeld
namespace Go.Proofs.YthilkgfbaddjpaaDoor
open Go Go.RowKit
set_option linter.unusedVariables false
set_option linter.unusedSimpArgs false
def arrT (id count : Int) : Ty := ⟨3, ⟨#[]⟩, 0, id, count, []⟩
def nameT (n : Int) : Ty := ⟨8, ⟨#[116]⟩, 0, n, 0, []⟩
def ptrT (n : Int) : Ty := ⟨2, ⟨#[]⟩, 0, n, 0, []⟩
def extL (l : List Ty) (id count : Int) : List Ty := l ++ [arrT id count, nameT (l.length + 1), ptrT (l.length + 2)]
section
variable {l : List Ty} {id count : Int}
theorem ext_len : (extL l id count).length = l.length + 3 := by simp [extL]
theorem ext_old {i : Nat} (h : i < l.length) : (extL l id count)[i]? = l[i]? := by unfold extL; rw [List.getElem?_append_left h]
theorem ext_0 : (extL l id count)[l.length]? = some (arrT id count) := by unfold extL; rw [List.getElem?_append_right (Nat.le_refl _)]; simp
theorem ext_1 : (extL l id count)[l.length + 1]? = some (nameT (l.length + 1)) := by unfold extL; rw [List.getElem?_append_right (by omega)]; simp
theorem ext_2 : (extL l id count)[l.length + 2]? = some (ptrT (l.length + 2)) := by unfold extL; rw [List.getElem?_append_right (by omega)]; simp
theorem leads_mono {id n n' : Int} (h : leadsB id n = true) (hn : n ≤ n') : leadsB id n' = true := by unfold leadsB at *; simp at *; omega
theorem alone_mono {n n' : Int} {t : Ty} (h : aloneB n t = true) (hn : n ≤ n') : aloneB n' t = true := by
  unfold aloneB at *
  by_cases h1 : t.kind = 1
  · rw [if_pos h1] at *; exact h
  · rw [if_neg h1] at *
    by_cases h2 : t.kind = 2
    · rw [if_pos h2] at *
      rw [Bool.or_eq_true] at *
      exact h.imp id fun h => leads_mono h hn
    · rw [if_neg h2] at *
      by_cases h8 : t.kind = 8
      · rw [if_pos h8] at *; exact leads_mono h hn
      · rw [if_neg h8] at *
        by_cases h3 : t.kind = 3
        · rw [if_pos h3] at *
          rw [Bool.and_eq_true] at *
          exact ⟨leads_mono h.1 hn, h.2⟩
        · rw [if_neg h3] at *
          by_cases h4 : t.kind = 4
          · rw [if_pos h4] at *
            simp only [Bool.and_eq_true] at *
            refine ⟨h.1, h.2.1, ?_⟩
            rw [List.all_eq_true] at *
            intro m hm
            have := h.2.2 m hm
            unfold memB at *
            rw [Bool.and_eq_true] at *
            exact ⟨leads_mono this.1 hn, this.2⟩
          · rw [if_neg h4] at h; cases h
theorem held_eq {l : List Ty} {x : Nat} {t : Ty} (h : l[x - 1]? = some t) : heldN l x = (partsL t).map Int.toNat := by unfold heldN heldI; rw [h]
theorem ext_fine (hG : Good l) (hl : l.length ≤ 1000) (h1 : 1 ≤ id) (h2 : id ≤ l.length) (hc0 : 0 ≤ count) (hc1 : count ≤ 65536) : Fine (extL l id count) := by
  have hlen := @ext_len l id count
  have hal : (extL l id count).all (aloneB ((extL l id count).length : Nat)) = true := by
    rw [List.all_eq_true]
    intro t ht
    rw [hlen]
    unfold extL at ht
    rcases List.mem_append.1 ht with ht | ht
    · exact alone_mono (List.all_eq_true.1 hG.alone t ht) (by omega)
    · simp only [List.mem_cons, List.not_mem_nil, or_false] at ht
      rcases ht with rfl | rfl | rfl
      · unfold aloneB arrT leadsB; simp; omega
      · unfold aloneB nameT leadsB; simp; omega
      · unfold aloneB ptrT leadsB; simp; omega
  have hN6 : (extL l id count).length ≤ 1000000 := by omega
  have hE := held_ok hal
  have hEl := held_ok hG.alone
  refine ⟨by omega, hal, ?_⟩
  refine all_rank hN6 hE (fun x => if x ≤ l.length then rkL l x else 2000 + x) (fun x x1 x2 p hp => ?_) _ (Nat.le_refl _)
  rw [hlen] at x2
  by_cases hx : x ≤ l.length
  · obtain ⟨t, ht⟩ : ∃ t, l[x - 1]? = some t := ⟨_, List.getElem?_eq_getElem (by omega)⟩
    have hp' : p ∈ heldN l x := by
      rw [held_eq ht]
      rwa [held_eq ((ext_old (by omega)).trans ht)] at hp
    have hr := hG.rank x x1 hx p hp'
    have hpl := (hEl x x1 hx p hp').2
    show (if p ≤ l.length then rkL l p else 2000 + p) < (if x ≤ l.length then rkL l x else 2000 + x)
    rw [if_pos hpl, if_pos hx]
    exact hr
  · show (if p ≤ l.length then rkL l p else 2000 + p) < (if x ≤ l.length then rkL l x else 2000 + x)
    rw [if_neg hx]
    have hx3 : x = l.length + 1 ∨ x = l.length + 2 ∨ x = l.length + 3 := by omega
    rcases hx3 with rfl | rfl | rfl
    · rw [held_eq (t := arrT id count) (by rw [Nat.add_sub_cancel]; exact ext_0)] at hp
      have : p = id.toNat := by simpa [partsL, arrT] using hp
      subst this
      rw [if_pos (by omega)]
      have := hG.rank_le id.toNat
      omega
    · rw [held_eq (t := nameT (l.length + 1)) ext_1] at hp
      have : p = ((l.length : Int) + 1).toNat := by simpa [partsL, nameT] using hp
      rw [if_neg (by omega)]
      omega
    · rw [held_eq (t := ptrT (l.length + 2)) ext_2] at hp
      simp [partsL, ptrT] at hp
theorem ext_sizes (hG : Good l) (hF : Fine (extL l id count)) : ∀ (k x : Nat), rkL l x < k → 1 ≤ x → x ≤ l.length → (szL (extL l id count)).getD x (0, 0) = (szL l).getD x (0, 0)
  | 0, x, h, _, _ => by omega
  | k + 1, x, hk, h1, hx => by
    obtain ⟨t, ht⟩ : ∃ t, l[x - 1]? = some t := ⟨_, List.getElem?_eq_getElem (by omega)⟩
    rw [hF.sizes_eq x h1 (by rw [ext_len]; omega) t ((ext_old (by omega)).trans ht), hG.sizes_eq x h1 hx t ht]
    refine msr_congr fun p hp => ?_
    rw [← held_eq ht] at hp
    have hr := hG.rank x h1 hx p hp
    have hpl := held_ok hG.alone x h1 hx p hp
    exact ext_sizes hG hF k p (by omega) hpl.1 hpl.2
theorem ext_size (hG : Good l) (hF : Fine (extL l id count)) (x : Nat) (h1 : 1 ≤ x) (hx : x ≤ l.length) : (szL (extL l id count)).getD x (0, 0) = (szL l).getD x (0, 0) :=
  ext_sizes hG hF _ x (Nat.lt_succ_self _) h1 hx
theorem rep_fits {z : Int × Nat} {count : Int} (hz : z.2 = 0) (h0 : 0 ≤ count) (hp : z.1 * count ≤ 1048576) : repA z count = (z.1 * count, 0) := by
  unfold repA
  by_cases hc : count = 0
  · subst hc; simp
  · rw [if_neg hc, if_pos hz, if_neg]
    · rw [Int.mul_comm]
    · rw [Int.ediv_lt_iff_lt_mul (by omega)]
      omega
theorem ext_size1 (hG : Good l) (hF : Fine (extL l id count)) (h1 : 1 ≤ id) (h2 : id ≤ l.length) (hc0 : 0 ≤ count) (hp : ((szL l).getD id.toNat (0, 0)).1 * count ≤ 1048576) :
    (szL (extL l id count)).getD (l.length + 1) (0, 0) = (((szL l).getD id.toNat (0, 0)).1 * count, 0) := by
  rw [hF.sizes_eq (l.length + 1) (by omega) (by rw [ext_len]; omega) (arrT id count) (by rw [Nat.add_sub_cancel]; exact ext_0)]
  unfold msrA arrT
  simp only
  rw [if_neg (by omega), if_neg (by omega), if_pos trivial, ext_size hG hF id.toNat (by omega) (by omega)]
  exact rep_fits (hG.code0 (by omega)) hc0 hp
theorem ext_size2 (hF : Fine (extL l id count)) : (szL (extL l id count)).getD (l.length + 2) (0, 0) = (szL (extL l id count)).getD (l.length + 1) (0, 0) := by
  rw [hF.sizes_eq (l.length + 2) (by omega) (by rw [ext_len]; omega) (nameT (l.length + 1)) ext_1]
  unfold msrA nameT
  simp only
  rw [if_neg (by omega), if_pos trivial]
  congr 1
theorem ext_size3 (hF : Fine (extL l id count)) : (szL (extL l id count)).getD (l.length + 3) (0, 0) = (8, 0) := by
  rw [hF.sizes_eq (l.length + 3) (by omega) (by rw [ext_len]; omega) (ptrT (l.length + 2)) ext_2]
  unfold msrA ptrT
  simp only
  rw [if_pos trivial]
theorem ext_good (hG : Good l) (hl : l.length ≤ 1000) (h1 : 1 ≤ id) (h2 : id ≤ l.length) (hc0 : 0 ≤ count) (hc1 : count ≤ 65536) (hp : ((szL l).getD id.toNat (0, 0)).1 * count ≤ 1048576) : Good (extL l id count) := by
  have hF := ext_fine hG hl h1 h2 hc0 hc1
  refine ⟨hF.few, hF.alone, hF.loops, fun j z hj hz => ?_, ?_⟩
  · have hjl : j < (szL (extL l id count)).length := (List.getElem?_eq_some_iff.1 hz).1
    rw [szL_len, ext_len] at hjl
    have hd : (szL (extL l id count)).getD j (0, 0) = z := by rw [List.getD_eq_getElem?_getD, hz]; rfl
    rw [← hd]
    by_cases hx : j ≤ l.length
    · rw [ext_size hG hF j hj hx]; exact hG.code0 hj
    · have hx3 : j = l.length + 1 ∨ j = l.length + 2 ∨ j = l.length + 3 := by omega
      rcases hx3 with rfl | rfl | rfl
      · rw [ext_size1 hG hF h1 h2 hc0 hp]
      · rw [ext_size2 hF, ext_size1 hG hF h1 h2 hc0 hp]
      · rw [ext_size3 hF]
  · rw [List.all_eq_true]
    intro t ht
    unfold extL at ht
    rcases List.mem_append.1 ht with ht | ht
    · have ho := List.all_eq_true.1 hG.mems t ht
      have ha := List.all_eq_true.1 hG.alone t ht
      unfold okM at *
      by_cases h4 : t.kind = 4
      · rw [if_pos h4] at *
        unfold withinB at *
        rw [List.all_eq_true] at *
        intro m hm
        have hi := ho m hm
        have hlead : 1 ≤ m.ty ∧ m.ty ≤ l.length := by
          unfold aloneB at ha
          rw [if_neg (by omega), if_neg (by omega), if_neg (by omega), if_neg (by omega), if_pos h4] at ha
          simp only [Bool.and_eq_true] at ha
          have := List.all_eq_true.1 ha.2.2 m hm
          unfold memB leadsB at this
          simp at this
          omega
        unfold inB at *
        rw [ext_size hG hF m.ty.toNat (by omega) (by omega)]
        exact hi
      · rw [if_neg h4]
    · simp only [List.mem_cons, List.not_mem_nil, or_false] at ht
      rcases ht with rfl | rfl | rfl <;> (unfold okM; rw [if_neg]; simp [arrT, nameT, ptrT])
theorem ext_strip : stripS (extL l id count) (l.length + 2) = l.length + 1 := by
  have t2 : tyAt (extL l id count) (l.length + 2) = nameT (l.length + 1) := by
    unfold tyAt
    rw [if_neg (by omega), List.getD_eq_getElem?_getD, show l.length + 2 - 1 = l.length + 1 by omega, ext_1]; rfl
  have t1 : tyAt (extL l id count) (l.length + 1) = arrT id count := by
    unfold tyAt
    rw [if_neg (by omega), List.getD_eq_getElem?_getD, show l.length + 1 - 1 = l.length by omega, ext_0]; rfl
  have key : ∀ f, stripF (extL l id count) (f + 2) (l.length + 2) = l.length + 1 := fun f => by
    unfold stripF
    rw [t2, if_pos (by rfl)]
    show stripF (extL l id count) (f + 1) ((l.length : Int) + 1).toNat = _
    rw [show ((l.length : Int) + 1).toNat = l.length + 1 by omega]
    unfold stripF
    rw [t1, if_neg (by unfold arrT; simp)]
  exact key 1998
theorem ext_bulk : bulkT (extL l id count) = bulkT l + 3 := by
  unfold bulkT extL arrT nameT ptrT
  rw [List.map_append, List.sum_append_nat]
  simp
theorem ext_held (hoff : ∀ t ∈ l, ∀ m ∈ t.mems, m.off ≤ 9223372036854775807) (hb : bulkT l ≤ 1048576) : Held (extL l id count) := by
  refine ⟨fun t ht => ?_, fun t ht => ?_, ?_⟩
  · unfold extL at ht
    rcases List.mem_append.1 ht with ht | ht
    · exact Nat.le_trans (mems_bulk ht) hb
    · simp only [List.mem_cons, List.not_mem_nil, or_false] at ht
      rcases ht with rfl | rfl | rfl <;> simp [arrT, nameT, ptrT]
  · unfold extL at ht
    rcases List.mem_append.1 ht with ht | ht
    · exact hoff t ht
    · simp only [List.mem_cons, List.not_mem_nil, or_false] at ht
      rcases ht with rfl | rfl | rfl <;> simp [arrT, nameT, ptrT]
  · have := pot_bulk (extL l id count)
    rw [ext_bulk] at this
    omega
end
end Go.Proofs.YthilkgfbaddjpaaDoor
