/-
  A line that was written is read as the slots of which it was written: ALU, turns, wide ones; whole texts.
-/
import Derived.Test.YtpjfnnlopcccaaaDoorQBForm2
import Derived.Test.YtpjfnnlopcccaaaDoorQVLines
namespace Go.Proofs.YtpjfnnlopcccaaaDoor
open Go Go.RowKit Go.Maps
set_option linter.unusedVariables false
set_option linter.unusedSimpArgs false
set_option maxRecDepth 100000
theorem aluQ_reg (q d : Int) (h : q = 4 ∨ q = 7) : aluQ (regT (letterS q) d) = q := by
  unfold aluQ
  rw [lower_letter q d (by omega)]
  rcases h with rfl | rfl <;> decide
theorem sec_minus {s m : Int} {src : Bool} {q q' d : Int} (hne : (secT s m src (letterS q)).size ≠ 0) : sameT (secT s m src (letterS q)) (minusW ++ regT (letterS q') d) = false := by
  have hm : hdW (minusW ++ regT (letterS q') d) = some 45 := hd_app rfl
  unfold secT at *
  cases src
  · by_cases h : s = 0
    · rw [if_neg (by decide), if_pos h]
      rcases int_ways m with ⟨k, rfl, hk⟩ | ⟨k, rfl⟩
      · rw [dec_neg k hk]
        unfold sameT
        refine decide_eq_false (fun e => ?_)
        rw [app_list, app_list] at e
        have e2 : Lib.decDigits k = (regT (letterS q') d).data.toList := (List.cons.inj e).2
        obtain ⟨c, h1, h2, h3⟩ := hd_dig k
        have h4 : hdW (regT (letterS q') d) = some c := by
          rw [← h1]
          unfold hdW
          rw [← e2]
          rfl
        rcases hd_letter q' d with h5 | h5
        · rw [h5] at h4; cases h4; revert h3; decide
        · rw [h5] at h4; cases h4; revert h3; decide
      · refine same_hd ?_
        obtain ⟨c, h1, h2, h3⟩ := hd_dig k
        rw [hm, dec_nat, h1]
        intro e
        cases e
        revert h2; decide
    · rw [if_neg (by decide), if_neg h] at hne; exact absurd rfl hne
  · by_cases h : m = 0
    · rw [if_pos rfl, if_pos h]
      refine same_hd ?_
      rw [hm]
      rcases hd_letter q s with e | e <;> rw [e] <;> decide
    · rw [if_pos rfl, if_neg h] at hne; exact absurd rfl hne
theorem oper_ok (q d : Int) (c : ByteArray) : ∀ x ∈ operL, isW x.1 ∧ operR q d x.1 c operL = secR q (bits .or .i64 q x.2.1) d x.2.2 c := by
  intro x hx
  simp only [operL, List.mem_cons, List.not_mem_nil, or_false] at hx
  rcases hx with rfl | rfl | rfl | rfl | rfl | rfl | rfl | rfl | rfl | rfl | rfl | rfl | rfl | rfl <;> exact ⟨by decide, by kernel_rfl⟩
theorem operG_cases (z f : Int) (g : ByteArray → ByteArray) (e : ByteArray) : ∀ l : List (ByteArray × Int × Int), operG z f g e l = e ∨ ∃ nm, (nm, z, f) ∈ l ∧ operG z f g e l = g nm
  | [] => .inl rfl
  | (nm, k, x) :: l => by
    unfold operG
    by_cases h1 : k = z ∧ x = f
    · rw [if_pos h1]
      exact .inr ⟨nm, by rw [h1.1, h1.2]; simp, rfl⟩
    · rw [if_neg h1]
      rcases operG_cases z f g e l with h | ⟨nm', hm, hc⟩
      · exact .inl h
      · exact .inr ⟨nm', List.mem_cons_of_mem _ hm, hc⟩
theorem turnB_some {rd nm : ByteArray} {op o s f m : Int} : ∀ {l : List Int} {t : ByteArray}, turnB rd nm op o s f m l = some t → ∃ b ∈ l, o = op ∧ s = 0 ∧ f = 0 ∧ m = b ∧ t = saidT [rd, eqT, nm ++ dec b, rd]
  | [], t, h => by cases h
  | b :: l, t, h => by
    unfold turnB at h
    split at h
    · rename_i hc
      cases h
      exact ⟨b, by simp, hc.1, hc.2.1, hc.2.2.1, hc.2.2.2, rfl⟩
    · obtain ⟨b', hb, hc⟩ := turnB_some h
      exact ⟨b', List.mem_cons_of_mem _ hb, hc⟩
theorem turnG_cases (rd : ByteArray) (o s f m : Int) : ∀ l : List (ByteArray × Int), (turnG rd o s f m l).size ≠ 0 → ∃ nm b, (nm, o) ∈ l ∧ b ∈ [(16 : Int), 32, 64] ∧ s = 0 ∧ f = 0 ∧ m = b ∧ turnG rd o s f m l = saidT [rd, eqT, nm ++ dec b, rd]
  | [], h => absurd rfl h
  | (nm, op) :: l, h => by
    unfold turnG at h ⊢
    rcases hb : turnB rd nm op o s f m [16, 32, 64] with _ | t
    · rw [hb] at h
      obtain ⟨nm', b, hm, hc⟩ := turnG_cases rd o s f m l h
      exact ⟨nm', b, List.mem_cons_of_mem _ hm, hc⟩
    · obtain ⟨b, hm, rfl, h2, h3, h4, h5⟩ := turnB_some hb
      exact ⟨nm, b, by simp, hm, h2, h3, h4, h5⟩
theorem turn_ok (d : Int) : ∀ x ∈ turnL, ∀ b ∈ [(16 : Int), 32, 64], isW x.1 ∧ turnF (x.1 ++ dec b) d turnL = some ⟨x.2, d, 0, 0, b⟩ := by
  intro x hx b hb
  simp only [turnL, List.mem_cons, List.not_mem_nil, or_false] at hx hb
  rcases hx with rfl | rfl | rfl <;> rcases hb with rfl | rfl | rfl <;> exact ⟨by decide, by kernel_rfl⟩
theorem begins_ne {a p R : ByteArray} (hl : p.data.toList.length ≤ a.data.toList.length) (h : a.data.toList.take p.data.toList.length ≠ p.data.toList) : begins (a ++ R) p = false := by
  unfold begins beginsB
  rw [app_list, List.take_append_of_le_length hl, decide_eq_false h, Bool.and_false]
theorem signT8 : signT 8 = ⟨#[40, 115, 56, 41]⟩ := by kernel_rfl
theorem signT16 : signT 16 = ⟨#[40, 115, 49, 54, 41]⟩ := by kernel_rfl
theorem signT32 : signT 32 = ⟨#[40, 115, 51, 50, 41]⟩ := by kernel_rfl
theorem ext_back (q p d f : Int) (R : ByteArray) (h : extendsS q f = true) : extG q p d (signT f ++ R) [8, 16, 32] = (regS R (letterS q)).map fun r : Nat => (⟨p, d, (r : Int), f, 0⟩ : Slot) := by
  have hc := of_decide_eq_true h
  rcases hc with rfl | rfl | ⟨rfl, hq⟩
  · rw [extG, if_pos ⟨begins_app _ _, h⟩, behind_app]
  · rw [extG, if_neg (fun e => by
      rw [signT8, signT16, begins_ne (by decide) (by decide)] at e
      exact absurd e.1 (by decide)), extG, if_pos ⟨begins_app _ _, h⟩, behind_app]
  · rw [extG, if_neg (fun e => by
      rw [signT8, signT32, begins_ne (by decide) (by decide)] at e
      exact absurd e.1 (by decide)), extG, if_neg (fun e => by
      rw [signT16, signT32, begins_ne (by decide) (by decide)] at e
      exact absurd e.1 (by decide)), extG, if_pos ⟨begins_app _ _, h⟩, behind_app]
theorem or_comm128 : bits .or .i64 4 128 = bits .or .i64 128 4 ∧ bits .or .i64 7 128 = bits .or .i64 128 7 ∧ bits .or .i64 4 184 = bits .or .i64 184 4 ∧ bits .or .i64 7 184 = bits .or .i64 184 7 := by decide +kernel
theorem isW_sign (f : Int) : isW (signT f) := isW_app (isW_app (by decide) (isW_dec f).2) (by decide)
theorem alu_back {o d s f m : Int} (h : Fits o d s f m) (hd : d ≤ 10) (hs : s ≤ 10) (hq : o % 8 = 4 ∨ o % 8 = 7) (hne : (aluT o d s f m).size ≠ 0) : Says (aluT o d s f m) [⟨o, d, s, f, m⟩] := by
  obtain ⟨ho, hd0, hs0, hf, hm⟩ := h
  have hdn : ((d.toNat : Nat) : Int) = d := by omega
  have hsn : ((s.toNat : Nat) : Int) = s := by omega
  have hrd := regS_regT (letterS (o % 8)) d hd0.1 hd
  have haq := aluQ_reg (o % 8) d hq
  have hwr : isW (regT (letterS (o % 8)) d) := isW_reg (isW_letter _) d
  unfold aluT at *
  by_cases h1 : same5 o d s f m (bits .or .i64 128 (o % 8)) d 0 0 0 = true
  · rw [if_pos h1] at *
    obtain ⟨h2, _, rfl, rfl, rfl⟩ := of_decide_eq_true h1
    have hw : ∀ w ∈ [regT (letterS (o % 8)) d, eqT, minusW ++ regT (letterS (o % 8)) d], isW w := fun w hw => by
      simp only [List.mem_cons, List.not_mem_nil, or_false] at hw
      rcases hw with rfl | rfl | rfl
      · exact hwr
      · decide
      · exact isW_app (by decide) hwr.2
    refine ⟨_, saidT_join hw, by simp, by simp, hw, slots_one (w := minusW ++ regT (letterS (o % 8)) d) rfl (by rw [show hdW (minusW ++ regT (letterS (o % 8)) d) = some 45 from hd_app rfl]; decide) ?_⟩
    rw [oneR]
    unfold aluR
    rw [haq, hrd, Option.bind_some, if_pos ⟨by decide, sameT_refl _⟩, hdn]
    congr 1
    have e : bits .or .i64 (o % 8) 128 = o := by
      conv => rhs; rw [h2]
      rcases hq with hq | hq <;> rw [hq]
      · exact or_comm128.1
      · exact or_comm128.2.1
    rw [e]
  · rw [if_neg h1] at *
    by_cases h2 : o = bits .or .i64 184 (o % 8) ∧ m = 0 ∧ extendsS (o % 8) f = true
    · rw [if_pos h2] at *
      obtain ⟨h3, rfl, h4⟩ := h2
      have hw : ∀ w ∈ [regT (letterS (o % 8)) d, eqT, signT f ++ regT (letterS (o % 8)) s], isW w := fun w hw => by
        simp only [List.mem_cons, List.not_mem_nil, or_false] at hw
        rcases hw with rfl | rfl | rfl
        · exact hwr
        · decide
        · exact isW_app (isW_sign f) (isW_reg (isW_letter _) s).2
      have hh : hdW (signT f ++ regT (letterS (o % 8)) s) = some 40 := hd_app (hd_app (hd_app rfl))
      refine ⟨_, saidT_join hw, by simp, by simp, hw, slots_one (w := signT f ++ regT (letterS (o % 8)) s) rfl (by rw [hh]; decide) ?_⟩
      rw [oneR]
      unfold aluR
      have hbg : begins (signT f ++ regT (letterS (o % 8)) s) ⟨#[40]⟩ = true := by
        unfold hdW at hh
        rw [begins_one, hh]
        decide
      have em : sameT (signT f ++ regT (letterS (o % 8)) s) (minusW ++ regT (letterS (o % 8)) d) = false := same_hd (by rw [hh, show hdW (minusW ++ regT (letterS (o % 8)) d) = some 45 from hd_app rfl]; decide)
      rw [haq, hrd, Option.bind_some, if_neg (fun e => by
        rw [em] at e
        exact absurd e.2 (by decide)), if_pos ⟨by decide, hbg⟩, ext_back _ _ _ _ _ h4, regS_regT _ s hs0.1 hs, hdn]
      show some _ = some _
      congr 1
      have e : bits .or .i64 (o % 8) 184 = o := by
        conv => rhs; rw [h3]
        rcases hq with hq | hq <;> rw [hq]
        · exact or_comm128.2.2.1
        · exact or_comm128.2.2.2
      rw [e]
      dsimp only
      rw [hsn]
    · rw [if_neg h2] at *
      rcases operG_cases (bits .and .i64 o 240) f (operLine o d s m) (turnT o d s f m) operL with hg | ⟨nm, hnm, hg⟩
      · rw [hg] at hne ⊢
        unfold turnT at hne ⊢
        obtain ⟨nm, b, hnm, hb, rfl, rfl, rfl, ht⟩ := turnG_cases _ _ _ _ _ turnL hne
        rw [ht]
        obtain ⟨t1, t2⟩ := turn_ok d _ hnm _ hb
        have hwq : isW (regT wholeT d) := isW_reg (by decide) d
        have hw : ∀ w ∈ [regT wholeT d, eqT, nm ++ dec m, regT wholeT d], isW w := fun w hw => by
          simp only [List.mem_cons, List.not_mem_nil, or_false] at hw
          rcases hw with rfl | rfl | rfl | rfl
          · exact hwq
          · decide
          · exact isW_app t1 (isW_dec m).2
          · exact hwq
        refine ⟨_, saidT_join hw, by simp, by simp, hw, slots_one (w := regT wholeT d) rfl (by rw [show hdW (regT wholeT d) = some 114 from hd_reg 114 d]; decide) ?_⟩
        rw [oneR]
        unfold turnR twoOf
        rw [sameT_refl, sameT_refl, regS_regT wholeT d hd0.1 hd]
        show turnF _ ((d.toNat : Nat) : Int) turnL = _
        rw [hdn, t2]
      · rw [hg] at hne ⊢
        unfold operLine at hne ⊢
        obtain ⟨z1, z2⟩ := saidT_sizes hne
        have hsz : (secT s m (bits .and .i64 o 8 != 0) (letterS (o % 8))).size ≠ 0 := z1 _ (by simp)
        have hsb := sec_back (q := o % 8) ⟨hs0.1, hs⟩ hm hsz
        obtain ⟨c, hc, hc1, hc2, _⟩ := hd_sec s m _ (o % 8) hsz
        obtain ⟨t1, t2⟩ := oper_ok (o % 8) d (secT s m (bits .and .i64 o 8 != 0) (letterS (o % 8))) _ hnm
        have hw : ∀ w ∈ [regT (letterS (o % 8)) d, nm, secT s m (bits .and .i64 o 8 != 0) (letterS (o % 8))], isW w := fun w hw => by
          simp only [List.mem_cons, List.not_mem_nil, or_false] at hw
          rcases hw with rfl | rfl | rfl
          · exact hwr
          · exact t1
          · exact isW_sec hsz
        refine ⟨_, z2, by simp, by simp, hw, slots_one (w := secT s m (bits .and .i64 o 8 != 0) (letterS (o % 8))) rfl (by rw [hc]; exact fun e => hc2 (by cases e; rfl)) ?_⟩
        rw [oneR]
        unfold aluR
        have hbg : begins (secT s m (bits .and .i64 o 8 != 0) (letterS (o % 8))) ⟨#[40]⟩ = false := by
          unfold hdW at hc
          rw [begins_one, hc]
          exact decide_eq_false (fun e => hc1 (by cases e; rfl))
        rw [haq, hrd, Option.bind_some, if_neg (fun e => by rw [sec_minus hsz] at e; exact absurd e.2 (by decide)), if_neg (fun e => by rw [hbg] at e; exact absurd e.2 (by decide)), hdn, t2, secR_of hsb]
        obtain ⟨k, rfl⟩ := Int.eq_ofNat_of_zero_le ho.1
        rw [op_jump k (by omega) (by omega)]
theorem wide_back {x y : Slot} (hx : x.Ok) (hy : y.Ok) (ho : x.o = 24) (hd : x.d ≤ 10) (hne : (wideT x y).size ≠ 0) : Says (wideT x y) [x, y] := by
  obtain ⟨o, d, s, f, m⟩ := x
  obtain ⟨o', d', s', f', m'⟩ := y
  obtain ⟨_, hd0, hs0, hf, hm⟩ := hx
  obtain ⟨_, _, _, _, hm'⟩ := hy
  simp only at ho hd hd0 hs0 hf hm hm'
  subst ho
  have hdn : ((d.toNat : Nat) : Int) = d := by omega
  have hwq : isW (regT wholeT d) := isW_reg (by decide) d
  have hrd := regS_regT wholeT d hd0.1 hd
  unfold wideT at *
  simp only at *
  by_cases h1 : f = 0 ∧ same5 o' d' s' f' m' 0 0 0 0 m' = true
  · rw [if_pos h1] at *
    obtain ⟨rfl, h2⟩ := h1
    obtain ⟨rfl, rfl, rfl, rfl, _⟩ := of_decide_eq_true h2
    by_cases h3 : s = 0
    · rw [if_pos h3] at *
      subst h3
      have hw : ∀ w ∈ [regT wholeT d, eqT, decU (wideN m m'), llT], isW w := fun w hw => by
        simp only [List.mem_cons, List.not_mem_nil, or_false] at hw
        rcases hw with rfl | rfl | rfl | rfl
        · exact hwq
        · decide
        · exact isW_digits _
        · decide
      refine ⟨_, saidT_join hw, by simp, by simp, hw, ?_⟩
      have hN : 0 ≤ wideN m m' ∧ wideN m m' < 18446744073709551616 := by unfold wideN; omega
      unfold slotsR
      rw [if_pos (show lastLl [regT wholeT d, eqT, decU (wideN m m'), llT] = true from (by decide : sameT llT llT = true)), wideR]
      unfold wide4 decU
      rw [if_pos (by decide), hrd, Option.bind_some, digN_dec _ _ (by omega)]
      have e1 : (((wideN m m').toNat : Nat) : Int) = wideN m m' := by omega
      show some _ = some _
      congr 1
      dsimp only
      rw [e1, hdn]
      have e2 : wrap32 (wideN m m') = m := by unfold wrap32 wideN; omega
      have e3 : wrap32 (wideN m m' / 4294967296) = m' := by unfold wrap32 wideN; omega
      rw [e2, e3]
    · rw [if_neg h3] at *
      by_cases h4 : s = 1 ∧ m' = 0
      · rw [if_pos h4] at *
        obtain ⟨rfl, rfl⟩ := h4
        have hw : ∀ w ∈ [regT wholeT d, eqT, mapT, dec m, llT], isW w := fun w hw => by
          simp only [List.mem_cons, List.not_mem_nil, or_false] at hw
          rcases hw with rfl | rfl | rfl | rfl | rfl
          · exact hwq
          · decide
          · decide
          · exact isW_dec m
          · decide
        refine ⟨_, saidT_join hw, by simp, by simp, hw, ?_⟩
        unfold slotsR
        rw [if_pos (show lastLl [regT wholeT d, eqT, mapT, dec m, llT] = true from (by decide : sameT llT llT = true)), wideR]
        unfold wide5
        rw [if_pos (by decide), hrd, Option.bind_some, if_pos (by decide), immS_dec m hm.1 hm.2, hdn]
        rfl
      · rw [if_neg h4] at hne
        exact absurd rfl hne
  · rw [if_neg h1] at hne
    exact absurd rfl hne
theorem body_back {x : Slot} (hx : x.Ok) (hd : x.d ≤ 10) (hs : x.s ≤ 10) (hne : (bodyT x emptyT).size ≠ 0) : Says (bodyT x emptyT) [x] := by
  obtain ⟨o, d, s, f, m⟩ := x
  unfold bodyT at *
  simp only at *
  by_cases h0 : o % 8 = 0
  · rw [if_pos h0] at hne; exact absurd rfl hne
  rw [if_neg h0] at *
  by_cases h1 : o % 8 = 1
  · rw [if_pos h1] at *; exact load_back hx hd hs h1 hne
  rw [if_neg h1] at *
  by_cases h2 : o % 8 = 2 ∨ o % 8 = 3
  · rw [if_pos h2] at *; exact store_back hx hd hs h2 hne
  rw [if_neg h2] at *
  by_cases h3 : o % 8 = 4 ∨ o % 8 = 7
  · rw [if_pos h3] at *; exact alu_back hx hd hs h3 hne
  rw [if_neg h3] at *
  exact jump_back hx hd hs (by omega) hne
/-- The line at a place is read as the instruction there. -/
theorem lineAt_back {X : Nat → Slot} {n i : Nat} (hne : (lineAt X n i).size ≠ 0) : Says (lineAt X n i) ((List.range' i (slotsAt X n i)).map X) := by
  unfold lineAt at hne ⊢
  unfold lineN at hne ⊢
  split at hne
  · rename_i hA
    rw [if_pos hA]
    obtain ⟨hok, hd, hs⟩ := hA
    rcases slotsAt_or X n i with h1 | h2
    · rw [h1] at hne hok ⊢
      rw [if_neg (by decide)] at hne ⊢
      exact body_back (hok 0 (by decide)) hd hs hne
    · rw [h2] at hne hok ⊢
      rw [if_pos rfl] at hne ⊢
      have h24 : (X (i + 0)).o = 24 := by
        unfold slotsAt at h2
        split at h2
        · rename_i h; exact h.1
        · cases h2
      have e : bodyT (X (i + 0)) (wideT (X (i + 0)) (X (i + 1))) = wideT (X (i + 0)) (X (i + 1)) := by
        unfold bodyT
        rw [h24, if_pos (by decide)]
      rw [e] at hne ⊢
      exact wide_back (hok 0 (by decide)) (hok 1 (by decide)) h24 hd hne
  · exact absurd rfl hne
theorem lines_cons {a r : List UInt8} (h : ∀ b ∈ a, b ≠ 10) : linesOf (bstr (a ++ [10] ++ r)) = bstr a :: linesOf (bstr r) := by
  unfold linesOf
  rw [bstr_list, bstr_list, List.append_assoc, List.singleton_append, linesL_some (o := a.length) (by simp) (fun k hk => by
    rw [List.getElem?_append_left hk]
    intro e
    exact h 10 (List.mem_of_getElem? e) rfl)]
  simp
/-- A text is read as the slots of which it was written, whatever stands behind it. -/
theorem text_back (X : Nat → Slot) (n : Nat) {suf : List UInt8} {R : List Slot} (hs : readAll (linesOf (bstr suf)) = some R) : ∀ (k i : Nat), n - i ≤ k → ∀ l, textFrom X n i = some l → readAll (linesOf (bstr (l ++ suf))) = some ((List.range' i (n - i)).map X ++ R)
  | k, i, hk, l, h => by
    by_cases hlt : i < n
    · obtain ⟨hz, r, hr, rfl⟩ := textFrom_pos hlt h
      have hpos := (slotsAt_pos X n i).1
      have hroom := slots_room (X := X) hlt
      obtain ⟨h1, h2⟩ := (lineAt_back hz).line
      match k, hk with
      | 0, hk => omega
      | k + 1, hk =>
        have h3 := text_back X n hs k (i + slotsAt X n i) (by omega) r hr
        rw [List.append_assoc, lines_cons h2, readAll, bstr_data, h1]
        simp only
        rw [h3, Option.map_some, ← List.append_assoc, ← List.map_append]
        congr 3
        have e := List.range'_append (s := i) (m := slotsAt X n i) (n := n - (i + slotsAt X n i)) (step := 1)
        rw [Nat.one_mul] at e
        rw [e]
        congr 1
        omega
    · rw [textFrom_end hlt] at h
      cases h
      rw [show n - i = 0 by omega]
      exact hs
theorem read_nil : readAll (linesOf (bstr [])) = some [] := by kernel_rfl
end Go.Proofs.YtpjfnnlopcccaaaDoor
