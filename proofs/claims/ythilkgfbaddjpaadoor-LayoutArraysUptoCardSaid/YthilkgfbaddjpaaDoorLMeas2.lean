/-
  Layer 7: measure, measured.
-/
import Derived.Test.YthilkgfbaddjpaaDoorLMeas
namespace Go.Proofs.YthilkgfbaddjpaaDoor
open Go Go.RowKit
set_option linter.unusedVariables false
set_option linter.unusedSimpArgs false
set_option maxRecDepth 100000
section
variable {w : World} {a : Nat → Addr} {A : Option Addr} {cl : Nat} {l : List Ty} {τ Z : Nat} {zs : List (Int × Nat)}
theorem alone_type {n : Int} {t : Ty} (h : aloneB n t = true) (hk : t.kind = 8 ∨ t.kind = 3) : 1 ≤ t.ty ∧ t.ty ≤ n := by
  have := alone_parts h t.ty (by unfold partsL; rcases hk with hk | hk <;> simp [hk])
  exact this
theorem alone_count {n : Int} {t : Ty} (h : aloneB n t = true) (hk : t.kind = 3) : 0 ≤ t.count ∧ t.count ≤ 65536 := by
  unfold aloneB at h
  simp [hk] at h
  exact h.2
theorem msr_fair {t : Ty} {n : Int} (h : aloneB n t = true) (hz : ∀ z ∈ zs, Fair z) : Fair (msrA zs t) := by
  have hg : ∀ i, Fair (zs.getD i (0, 0)) := fun i => by
    rw [List.getD_eq_getElem?_getD]
    cases e : zs[i]? with
    | none => exact ⟨by simp, by simp⟩
    | some z => exact hz z (List.mem_of_getElem? e)
  unfold msrA
  split
  · exact ⟨by simp, by simp⟩
  · split
    · exact hg _
    · split
      · rename_i h3
        exact rep_fair (hg _) (alone_count h h3).1
      · rename_i h2 h8 h3
        unfold aloneB at h
        rw [if_neg h2, if_neg h8, if_neg h3] at h
        split at h
        · unfold sizedB at h
          simp only [decide_eq_true_eq] at h
          exact ⟨by simp only; omega, by simp only; omega⟩
        · split at h
          · simp at h
            exact ⟨h.1, by simp only; omega⟩
          · cases h
set_option maxHeartbeats 2000000 in
theorem measure_any (h : TX w a A cl l τ Z zs) (hf : ∀ z ∈ zs, Fair z) (t : Ty) (A' : Option Addr) (c' : Nat) (hal : aloneB l.length t = true) :
    Calls Tryd.prog 31 #[.pointer (some ⟨τ, 0, none⟩), tyV t (.slice A' t.mems.length c')] w (PostZ w a (msrA zs t)) := by
  have hty := fun hk => alone_type hal hk
  have hct := fun hk => alone_count hal hk
  obtain ⟨kd, nm, sz, ty, ct, ms⟩ := t
  unfold tyV
  simp only at hty hct ⊢
  have b1 : Below w.heap.size w (w.alloc (.cells #[.int .i64 kd, .string nm, .int .i64 sz, .int .i64 ty, .int .i64 ct, .slice A' ms.length c'] 34)) := (Below.refl _ w).alloc (Nat.le_refl _) _
  have h1 := h.below b1
  have hlen := h.len
  have B1 := Lib.hid b1
  clear h hal b1
  unfold msrA
  simp only
  by_cases k2 : kd = 2
  · subst k2
    rw [if_pos rfl]
    clear hty hct h1 hf hlen
    go_enter Tryd.func31, Tryd.ntmps31
    go_wp2_with fail
    go_ret2
    exact ⟨rfl, B1.out⟩
  · rw [if_neg k2]
    have g2 : (kd == 2) = false := by simpa using k2
    by_cases k8 : kd = 8
    · subst k8
      rw [if_pos rfl]
      obtain ⟨t1, t2⟩ := hty (.inl rfl)
      obtain ⟨j, rfl⟩ : ∃ j : Nat, ty = (j : Int) := ⟨ty.toNat, by omega⟩
      obtain ⟨z, hz⟩ : ∃ z, zs[j]? = some z := ⟨_, List.getElem?_eq_getElem (by omega)⟩
      rw [show zs.getD (j : Int).toNat (0, 0) = z by rw [Int.toNat_natCast, List.getD_eq_getElem?_getD, hz]; rfl]
      have CS := Lib.hid (size_yes h1 j (by omega) z hz)
      clear hty hct h1 hf hlen t1 t2 hz g2 k2
      obtain ⟨n, c⟩ := z
      unfold PostZ
      simp only at CS ⊢
      generalize whyV a c = u at *
      go_enter Tryd.func31, Tryd.ntmps31
      go_wp2_with (go_at_call 15; refine CS.out.mono ?_; rintro e w1 ⟨rfl, k, rfl⟩)
      go_ret2
      exact ⟨rfl, B1.out.trans ((belowDrew _ _).mono B1.out.size)⟩
    · rw [if_neg k8]
      have g8 : (kd == 8) = false := by simpa using k8
      by_cases k3 : kd = 3
      · subst k3
        rw [if_pos rfl]
        obtain ⟨t1, t2⟩ := hty (.inr rfl)
        obtain ⟨t3, t4⟩ := hct rfl
        obtain ⟨j, rfl⟩ : ∃ j : Nat, ty = (j : Int) := ⟨ty.toNat, by omega⟩
        obtain ⟨z, hz⟩ : ∃ z, zs[j]? = some z := ⟨_, List.getElem?_eq_getElem (by omega)⟩
        rw [show zs.getD (j : Int).toNat (0, 0) = z by rw [Int.toNat_natCast, List.getD_eq_getElem?_getD, hz]; rfl]
        have CS := Lib.hid (repeated_any h1 j (by omega) z hz (hf z (List.mem_of_getElem? hz)) ct t3 t4)
        clear hty hct h1 hf hlen t1 t2 hz g2 k2 g8 k8 t3 t4
        generalize repA z ct = z at *
        obtain ⟨n, c⟩ := z
        unfold PostZ at *
        simp only at CS ⊢
        generalize whyV a c = u at *
        go_enter Tryd.func31, Tryd.ntmps31
        go_wp2_with (go_at_call 41; refine CS.out.mono ?_; rintro e w1 ⟨rfl, hb⟩; have B2 := Lib.hid (B1.out.trans (hb.mono B1.out.size)); clear hb)
        go_ret2
        exact ⟨rfl, B2.out⟩
      · rw [if_neg k3]
        have g3 : (kd == 3) = false := by simpa using k3
        clear hty hct h1 hf hlen k2 k3 k8
        go_enter Tryd.func31, Tryd.ntmps31
        go_wp2_with fail
        go_ret2
        exact ⟨rfl, B1.out⟩
end
theorem infoS : (Tryd.prog.info? 66).map (fun i => (i.zero, i.size, i.bytes)) = some (some (.agg #[.int .i64 0, .nilIface]), 2, 24) := by kernel_rfl
theorem made_sized (a : Nat → Addr) (n : Nat) : madeCells (Value.agg #[.int .i64 0, .nilIface]).cells (n * 2) = (szC a (List.replicate n (0, 0))).toArray := by
  apply Array.ext_getElem?
  intro j
  rcases Nat.lt_or_ge j (n * 2) with hj | hj
  · obtain ⟨i, hi⟩ : ∃ i, i = j / 2 := ⟨_, rfl⟩
    have hr : (List.replicate n ((0 : Int), 0))[i]? = some (0, 0) := by rw [List.getElem?_replicate, if_pos (by omega)]
    obtain ⟨g1, g2⟩ := szC_get a _ i _ hr
    rw [show (szC a (List.replicate n (0, 0))).toArray[j]? = (szC a (List.replicate n (0, 0)))[j]? by simp]
    rcases Nat.mod_two_eq_zero_or_one j with hm | hm
    · rw [show i * 2 = j by omega] at g1
      rw [g1]
      simp [madeCells, hj, Value.cells, hm]
    · rw [show i * 2 + 1 = j by omega] at g2
      rw [g2]
      simp [madeCells, hj, Value.cells, hm, whyV]
  · rw [Array.getElem?_eq_none (by rw [size_madeCells]; exact hj), Array.getElem?_eq_none (by simp [szC_len]; exact hj)]
theorem make_sized (a : Nat → Addr) (n : Nat) (hn : n ≤ 1048576) (w : World) :
    (Instr.makeSlice 67 (.int .i64 n) (.int .i64 n)).run Tryd.prog w = .ok (.slice (some ⟨w.heap.size, 0, none⟩) n n) (w.alloc (.cells (szC a (List.replicate n (0, 0))).toArray 66)) := by
  obtain ⟨i, hi, hz, hsz, hby⟩ := info_parts infoS
  have := run_make (P := Tryd.prog) w 67 66 i (.agg #[.int .i64 0, .nilIface]) Tryd.underlying67 hi hz .i64 .i64 n n (by omega) (Int.le_refl _) (by rw [hby]; omega) (by omega)
  rw [hsz, show ((n : Int)).toNat = n from rfl] at this
  rw [this, made_sized]
end Go.Proofs.YthilkgfbaddjpaaDoor
