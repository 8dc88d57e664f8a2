/-
  A line that was written is read as the slot of which it was written: stores, what is read and written in one go, jumps.
-/
import Derived.Test.YtpjfnnlopcccaaaDoorQBForm
namespace Go.Proofs.YtpjfnnlopcccaaaDoor
open Go Go.RowKit Go.Maps
set_option linter.unusedVariables false
set_option linter.unusedSimpArgs false
set_option maxRecDepth 100000
theorem op_store : ∀ o : Nat, o < 256 → bits .and .i64 (o : Int) 224 = 96 → (o % 8 = 3 → bits .or .i64 (bits .or .i64 96 (bits .and .i64 (o : Int) 24)) 3 = (o : Int)) ∧ (o % 8 = 2 → bits .or .i64 (bits .or .i64 96 (bits .and .i64 (o : Int) 24)) 2 = (o : Int)) := by decide +kernel
theorem op_lock : ∀ o : Nat, o < 256 → bits .and .i64 (o : Int) 224 = 192 → o % 8 = 3 → bits .or .i64 (bits .or .i64 192 (bits .and .i64 (o : Int) 24)) 3 = (o : Int) := by decide +kernel
theorem lock_ok : ∀ x ∈ lockL, isW x.1 ∧ lockF x.1 false lockL = some x.2.1 ∧ (x.2.2 = true → lockF x.1 true lockL = some (x.2.1 + 1)) := by
  intro x hx
  simp only [lockL, List.mem_cons, List.not_mem_nil, or_false] at hx
  rcases hx with rfl | rfl | rfl | rfl | rfl | rfl
  · exact ⟨by decide, by kernel_rfl, fun _ => by kernel_rfl⟩
  · exact ⟨by decide, by kernel_rfl, fun _ => by kernel_rfl⟩
  · exact ⟨by decide, by kernel_rfl, fun _ => by kernel_rfl⟩
  · exact ⟨by decide, by kernel_rfl, fun _ => by kernel_rfl⟩
  · exact ⟨by decide, by kernel_rfl, fun h => by cases h⟩
  · exact ⟨by decide, by kernel_rfl, fun h => by cases h⟩
theorem lockG_cases (r : ByteArray) (m : Int) : ∀ l : List (ByteArray × Int × Bool), (lockG r m l).size ≠ 0 → ∃ nm i fe, (nm, i, fe) ∈ l ∧ ((m = i ∧ lockG r m l = saidT [nm, r]) ∨ (m = i + 1 ∧ fe = true ∧ lockG r m l = saidT [nm, r, fetchT]))
  | [], h => absurd rfl h
  | (nm, i, fe) :: l, h => by
    unfold lockG at h ⊢
    by_cases h1 : m = i
    · rw [if_pos h1]
      exact ⟨nm, i, fe, by simp, .inl ⟨h1, rfl⟩⟩
    · rw [if_neg h1] at h ⊢
      by_cases h2 : m = i + 1 ∧ fe = true
      · rw [if_pos h2]
        exact ⟨nm, i, fe, by simp, .inr ⟨h2.1, h2.2, rfl⟩⟩
      · rw [if_neg h2] at h ⊢
        obtain ⟨nm', i', fe', hm, hc⟩ := lockG_cases r m l h
        exact ⟨nm', i', fe', List.mem_cons_of_mem _ hm, hc⟩
theorem lock_back {o d s f m : Int} (h : Fits o d s f m) (hd : d ≤ 10) (hs : s ≤ 10) (ho2 : bits .and .i64 o 224 = 192) (hq : o % 8 = 3) (hk : lockedS (bits .and .i64 o 24) = true)
    (hne : (saidT [lockW, placeT 96 o f d, lockT s m]).size ≠ 0) : Says (saidT [lockW, placeT 96 o f d, lockT s m]) [⟨o, d, s, f, m⟩] := by
  obtain ⟨ho, hd0, hs0, hf, hm⟩ := h
  obtain ⟨h1, h2⟩ := saidT_sizes hne
  obtain ⟨nm, hnm, hp⟩ := placeT_cases (h1 (placeT 96 o f d) (by simp))
  have hw := plcW_words hnm f d
  have hw' : ∀ w ∈ plcW nm f d, isW w := hw
  have hr := regS_regT ⟨#[114]⟩ s hs0.1 hs
  have hpb := place_back hnm f d ⟨hd0.1, hd⟩ hf
  have hop : bits .or .i64 (bits .or .i64 192 (bits .and .i64 o 24)) 3 = o := by
    obtain ⟨k, rfl⟩ := Int.eq_ofNat_of_zero_le ho.1
    exact op_lock k (by omega) ho2 (by omega)
  obtain ⟨kn, ki, kf, hkm, hc⟩ := lockG_cases (regT ⟨#[114]⟩ s) m lockL (h1 (lockT s m) (by simp))
  obtain ⟨hk1, hk2, hk3⟩ := lock_ok _ hkm
  have hlx : ∀ fe okf v, okf = true → lockF kn fe lockL = some v → lockX ⟨96, bits .and .i64 o 24, d, f⟩ kn fe okf (some s.toNat) = some ⟨o, d, s, f, v⟩ := by
    intro fe okf v hok hv
    unfold lockX
    simp only [hk, hv, hok, hop]
    have e : ((s.toNat : Nat) : Int) = s := by omega
    simp [e]
  rw [h2, hp]
  rcases hc with ⟨rfl, hc⟩ | ⟨rfl, hfe, hc⟩
  · have hkw : ∀ w ∈ [kn, regT ⟨#[114]⟩ s], isW w := fun w hw => by
      simp only [List.mem_cons, List.not_mem_nil, or_false] at hw
      rcases hw with rfl | rfl
      · exact hk1
      · exact isW_reg (by decide) s
    rw [show lockT s m = joinT [kn, regT ⟨#[114]⟩ s] from hc.trans (saidT_join hkw), joinT_mid lockW (plcW nm f d) [kn, regT ⟨#[114]⟩ s] (by simp [plcW]) (by simp)]
    refine ⟨_, rfl, by simp, by simp [plcW], fun w hw' => ?_, ?_⟩
    · rcases List.mem_append.1 hw' with hw' | hw'
      · rcases List.mem_cons.1 hw' with rfl | hw'
        · decide
        · exact hw w hw'
      · exact hkw w hw'
    · refine slots_one (w := regT ⟨#[114]⟩ s) rfl (by rw [hd_reg]; decide) ?_
      show oneR [lockW, _, _, _, _, kn, regT ⟨#[114]⟩ s] = _
      rw [oneR, if_pos (by decide)]
      unfold lockR
      rw [hpb, Option.bind_some]
      rw [show regS (regT ⟨#[114]⟩ s) wholeT = some s.toNat from hr]
      exact hlx false true _ rfl hk2
  · have hkw : ∀ w ∈ [kn, regT ⟨#[114]⟩ s, fetchT], isW w := fun w hw => by
      simp only [List.mem_cons, List.not_mem_nil, or_false] at hw
      rcases hw with rfl | rfl | rfl
      · exact hk1
      · exact isW_reg (by decide) s
      · decide
    rw [show lockT s (ki + 1) = joinT [kn, regT ⟨#[114]⟩ s, fetchT] from hc.trans (saidT_join hkw), joinT_mid lockW (plcW nm f d) [kn, regT ⟨#[114]⟩ s, fetchT] (by simp [plcW]) (by simp)]
    refine ⟨_, rfl, by simp, by simp [plcW], fun w hw' => ?_, ?_⟩
    · rcases List.mem_append.1 hw' with hw' | hw'
      · rcases List.mem_cons.1 hw' with rfl | hw'
        · decide
        · exact hw w hw'
      · exact hkw w hw'
    · refine slots_one (w := fetchT) rfl (by decide) ?_
      show oneR [lockW, _, _, _, _, kn, regT ⟨#[114]⟩ s, fetchT] = _
      rw [oneR, if_pos (by decide)]
      unfold lockR
      rw [hpb, Option.bind_some]
      rw [show regS (regT ⟨#[114]⟩ s) wholeT = some s.toNat from hr]
      exact hlx true _ _ (by decide) (hk3 hfe)
theorem store_back {o d s f m : Int} (h : Fits o d s f m) (hd : d ≤ 10) (hs : s ≤ 10) (hq : o % 8 = 2 ∨ o % 8 = 3) (hne : (storeT o d s f m).size ≠ 0) : Says (storeT o d s f m) [⟨o, d, s, f, m⟩] := by
  unfold storeT at *
  by_cases hl : bits .and .i64 o 224 = 192 ∧ o % 8 = 3 ∧ lockedS (bits .and .i64 o 24) = true
  · rw [if_pos hl] at *
    exact lock_back h hd hs hl.1 hl.2.1 hl.2.2 hne
  · rw [if_neg hl] at *
    by_cases h96 : bits .and .i64 o 224 = 96
    · rw [if_pos h96] at *
      obtain ⟨ho, hd0, hs0, hf, hm⟩ := h
      obtain ⟨h1, h2⟩ := saidT_sizes hne
      obtain ⟨nm, hnm, hp⟩ := placeT_cases (h1 (placeT 96 o f d) (by simp))
      have hsz : (secT s m (o % 8 == 3) (letterS 7)).size ≠ 0 := h1 (secT s m (o % 8 == 3) wholeT) (by simp)
      obtain ⟨c, hc, hc1, hc2, _⟩ := hd_sec s m (o % 8 == 3) 7 hsz
      have hsb := sec_back (q := 7) ⟨hs0.1, hs⟩ hm hsz
      have hw := plcW_words hnm f d
      rw [h2, hp, joinT_two (plcW nm f d) eqT (secT s m (o % 8 == 3) wholeT) (List.cons_ne_nil _ _)]
      refine ⟨_, rfl, by simp [plcW], by simp [plcW], fun w hw' => ?_, ?_⟩
      · rcases List.mem_append.1 hw' with hw' | hw'
        · exact hw w hw'
        · simp only [List.mem_cons, List.not_mem_nil, or_false] at hw'
          rcases hw' with rfl | rfl
          · decide
          · exact isW_sec hsz
      · refine slots_one (w := secT s m (o % 8 == 3) wholeT) rfl (by rw [show hdW (secT s m (o % 8 == 3) wholeT) = some c from hc]; exact fun e => hc2 (by cases e; rfl)) ?_
        show oneR [⟨#[42, 40]⟩ ++ nm, ⟨#[42, 41, 40]⟩ ++ regT ⟨#[114]⟩ d, (partsT f).1, (partsT f).2 ++ ⟨#[41]⟩, eqT, secT s m (o % 8 == 3) wholeT] = _
        have a1 : hdW ((⟨#[42, 40]⟩ : ByteArray) ++ nm) = some 42 := hd_app rfl
        have a2 : hdW ((⟨#[42, 41, 40]⟩ : ByteArray) ++ regT ⟨#[114]⟩ d) = some 42 := hd_app rfl
        rw [oneR, if_neg (by rw [same_hd (by rw [a1]; decide)]; decide), if_neg (by rw [same_hd (by rw [a2]; decide)]; decide)]
        unfold storeR
        rw [place_back hnm f d ⟨hd0.1, hd⟩ hf, Option.bind_some]
        rw [show secS (secT s m (o % 8 == 3) wholeT) wholeT 0 0 = ⟨o % 8 == 3, s, m, true⟩ from hsb]
        obtain ⟨k, rfl⟩ := Int.eq_ofNat_of_zero_le ho.1
        obtain ⟨o3, o2⟩ := op_store k (by omega) h96
        have e1 : sameT eqT eqT = true := by decide
        simp only [e1, Bool.and_true, beq_self_eq_true, if_true]
        rcases hq with hq | hq
        · have e2 : ((k : Int) % 8 == 3) = false := by rw [hq]; rfl
          rw [e2, if_neg (by decide), o2 (by omega)]
        · have e2 : ((k : Int) % 8 == 3) = true := by rw [hq]; rfl
          rw [e2, if_pos rfl, o3 (by omega)]
    · rw [if_neg h96] at hne
      exact absurd rfl hne
/-! ### Jumps -/
theorem test_ok (q d f : Int) (c : ByteArray) : ∀ x ∈ testL, isW x.1 ∧ testR q d f x.1 c testL = secR q (bits .or .i64 q x.2) d f c := by
  intro x hx
  simp only [testL, List.mem_cons, List.not_mem_nil, or_false] at hx
  rcases hx with rfl | rfl | rfl | rfl | rfl | rfl | rfl | rfl | rfl | rfl | rfl <;> exact ⟨by decide, by kernel_rfl⟩
theorem testG_cases (z : Int) (g : ByteArray → ByteArray) : ∀ l : List (ByteArray × Int), (testG z g l).size ≠ 0 → ∃ nm, (nm, z) ∈ l ∧ testG z g l = g nm
  | [], h => absurd rfl h
  | (nm, k) :: l, h => by
    unfold testG at h ⊢
    by_cases h1 : k = z
    · rw [if_pos h1]
      exact ⟨nm, by rw [h1]; simp, rfl⟩
    · rw [if_neg h1] at h ⊢
      obtain ⟨nm', hm, hc⟩ := testG_cases z g l h
      exact ⟨nm', List.mem_cons_of_mem _ hm, hc⟩
theorem secR_of {q p d x : Int} {c : ByteArray} {src : Bool} {s m : Int} (h : secS c (letterS q) 0 0 = ⟨src, s, m, true⟩) : secR q p d x c = some ⟨if src = true then bits .or .i64 p 8 else p, d, s, x, m⟩ := by
  unfold secR
  rw [h]
  rfl
theorem op_jump : ∀ o : Nat, o < 256 → (o % 8 = 4 ∨ o % 8 = 5 ∨ o % 8 = 6 ∨ o % 8 = 7) → (if (bits .and .i64 (o : Int) 8 != 0) = true then bits .or .i64 (bits .or .i64 ((o : Int) % 8) (bits .and .i64 (o : Int) 240)) 8 else bits .or .i64 ((o : Int) % 8) (bits .and .i64 (o : Int) 240)) = (o : Int) := by decide +kernel
theorem lower_letter (q d : Int) (h : q = 4 ∨ q = 5 ∨ q = 6 ∨ q = 7) : begins (regT (letterS q) d) lowerT = decide (q = 4 ∨ q = 6) := by
  rcases letter_ways q with ⟨e, hq⟩ | ⟨e, hq⟩
  · rw [e, begins_one, show (regT ⟨#[119]⟩ d).data.toList.head? = some 119 from hd_reg 119 d, decide_eq_true hq]
    decide
  · rw [e, begins_one, show (regT ⟨#[114]⟩ d).data.toList.head? = some 114 from hd_reg 114 d, decide_eq_false hq]
    decide
theorem jump_back {o d s f m : Int} (h : Fits o d s f m) (hd : d ≤ 10) (hs : s ≤ 10) (hq : o % 8 = 5 ∨ o % 8 = 6) (hne : (jumpT o d s f m).size ≠ 0) : Says (jumpT o d s f m) [⟨o, d, s, f, m⟩] := by
  obtain ⟨ho, hd0, hs0, hf, hm⟩ := h
  unfold jumpT at *
  by_cases h1 : same5 o d s f m 5 0 0 f 0 = true
  · rw [if_pos h1] at *
    obtain ⟨rfl, rfl, rfl, _, rfl⟩ := of_decide_eq_true h1
    have hw : ∀ w ∈ [gotoT, farT f], isW w := fun w hw => by
      simp only [List.mem_cons, List.not_mem_nil, or_false] at hw
      rcases hw with rfl | rfl
      · decide
      · exact isW_far f
    refine ⟨[gotoT, farT f], saidT_join hw, by simp, by simp, hw, slots_one (w := farT f) rfl (by rcases hd_far f with e | e <;> rw [e] <;> decide) ?_⟩
    rw [oneR, if_neg (by decide), if_pos (by decide), furtherS_far f hf.1 hf.2]
    rfl
  · rw [if_neg h1] at *
    by_cases h2 : same5 o d s f m 133 0 0 0 m = true
    · rw [if_pos h2] at *
      obtain ⟨rfl, rfl, rfl, rfl, _⟩ := of_decide_eq_true h2
      have hw : ∀ w ∈ [callT, dec m], isW w := fun w hw => by
        simp only [List.mem_cons, List.not_mem_nil, or_false] at hw
        rcases hw with rfl | rfl
        · decide
        · exact isW_dec m
      refine ⟨[callT, dec m], saidT_join hw, by simp, by simp, hw, slots_one (w := dec m) rfl (by
        obtain ⟨c, e, h3⟩ := hd_dec m
        rw [e]
        intro e2
        cases e2
        revert h3; decide) ?_⟩
      rw [oneR, if_pos (by decide), immS_dec m hm.1 hm.2]
      rfl
    · rw [if_neg h2] at *
      by_cases h3 : same5 o d s f m 149 0 0 0 0 = true
      · rw [if_pos h3] at *
        obtain ⟨rfl, rfl, rfl, rfl, rfl⟩ := of_decide_eq_true h3
        refine ⟨[exitT], ?_, by simp, by simp, fun w hw => by
          simp only [List.mem_cons, List.not_mem_nil, or_false] at hw
          subst hw
          decide, slots_one (w := exitT) rfl (by decide) ?_⟩
        · apply ba_ext
          rw [joinT_list, List.map_cons, List.map_nil, Lib.join_one]
        · rw [oneR, if_pos (by decide)]
      · rw [if_neg h3] at *
        obtain ⟨nm, hnm, hg⟩ := testG_cases _ _ testL hne
        rw [hg] at hne ⊢
        unfold testLine at hne ⊢
        obtain ⟨z1, z2⟩ := saidT_sizes hne
        have hsz : (secT s m (bits .and .i64 o 8 != 0) (letterS (o % 8))).size ≠ 0 := z1 _ (by simp)
        have hsb := sec_back (q := o % 8) ⟨hs0.1, hs⟩ hm hsz
        obtain ⟨t1, t2⟩ := test_ok (o % 8) (d.toNat : Int) f (secT s m (bits .and .i64 o 8 != 0) (letterS (o % 8))) _ hnm
        have hw : ∀ w ∈ [ifT, regT (letterS (o % 8)) d, nm, secT s m (bits .and .i64 o 8 != 0) (letterS (o % 8)), gotoT, farT f], isW w := fun w hw => by
          simp only [List.mem_cons, List.not_mem_nil, or_false] at hw
          rcases hw with rfl | rfl | rfl | rfl | rfl | rfl
          · decide
          · exact isW_reg (isW_letter _) d
          · exact t1
          · exact isW_sec hsz
          · decide
          · exact isW_far f
        refine ⟨_, z2, by simp, by simp, hw, slots_one (w := farT f) rfl (by rcases hd_far f with e | e <;> rw [e] <;> decide) ?_⟩
        rw [oneR, if_pos (by decide)]
        unfold jumpR
        have hjq : jumpQ (regT (letterS (o % 8)) d) = o % 8 := by
          unfold jumpQ
          rw [lower_letter (o % 8) d (by omega)]
          rcases hq with hq | hq <;> rw [hq] <;> decide
        rw [hjq, show sameT gotoT gotoT = true by decide, regS_regT (letterS (o % 8)) d hd0.1 hd, furtherS_far f hf.1 hf.2]
        show testR (o % 8) (d.toNat : Int) f nm _ testL = _
        rw [t2, secR_of hsb]
        obtain ⟨k, rfl⟩ := Int.eq_ofNat_of_zero_le ho.1
        rw [op_jump k (by omega) (by omega)]
        congr 1
        simp only [Slot.mk.injEq, true_and, and_true]
        omega
end Go.Proofs.YtpjfnnlopcccaaaDoor
