/-
  Package asm: the examples of the chapter. The law AsmLines, walked: the text of two lists, one behind the other, is the text of the one and the text of the other. A line that was written is read as the slots of which it was written: ALU, turns, wide ones; whole texts. What is read of a line has a line: slot by slot.
-/
import Derived.Test.YtemiklbkfogjeaaGreatDoorQ21
namespace Go.Proofs.YtemiklbkfogjeaaGreatDoor
open Go Go.RowKit Go.Maps
set_option linter.unusedVariables false
set_option linter.unusedSimpArgs false
set_option maxRecDepth 100000
abbrev exA : List Slot := [⟨99, 10, 1, -4, 0⟩, ⟨21, 1, 0, 3, 0⟩, ⟨149, 0, 0, 0, 0⟩]
abbrev exT : List UInt8 := [42, 40, 117, 51, 50, 32, 42, 41, 40, 114, 49, 48, 32, 45, 32, 52, 41, 32, 61, 32, 114, 49, 10, 105, 102, 32, 114, 49, 32, 61, 61, 32, 48, 32, 103, 111, 116, 111, 32, 43, 51, 10, 101, 120, 105, 116, 10]
abbrev exR : ByteArray := ⟨#[114, 49, 32, 61, 32, 53, 10, 10, 32, 32, 119, 49, 32, 43, 61, 32, 45, 51, 32, 10]⟩
abbrev exS : ByteArray := ⟨#[101, 120, 105, 116, 10, 114, 49, 32, 61, 32, 48, 53]⟩
theorem readR : readAll (linesOf exR) = some [⟨183, 1, 0, 0, 5⟩, ⟨4, 1, 0, 0, -3⟩] := by kernel_rfl
theorem readS : readAll (linesOf exS) = none := by kernel_rfl
theorem badS : badAt (linesOf exS) = 2 := by kernel_rfl
theorem lineN_ok {X : Nat → Slot} {n : Nat} (hA : AllOk X n) (hd : (X 0).d ≤ 10) (hs : (X 0).s ≤ 10) : lineN X n = bodyT (X 0) (if n = 2 then wideT (X 0) (X 1) else emptyT) := if_pos ⟨hA, hd, hs⟩
theorem one_ok {X : Nat → Slot} (h : (X 0).Ok) : AllOk X 1 := fun i hi => by
 obtain rfl : i = 0 := by omega
 exact h
theorem text_step {X : Nat → Slot} {n i : Nat} {t : List UInt8} {r : Option (List UInt8)} (hi : i < n) (hw : (X i).o ≠ 24) (hO : (X i).Ok) (hd : (X i).d ≤ 10) (hs : (X i).s ≤ 10) (ht : bodyT (X i) emptyT = bstr t) (hne : t ≠ []) (hr : textFrom X n (i + 1) = r) : textFrom X n i = r.map fun r => t ++ [10] ++ r := by
 have hsl : slotsAt X n i = 1 := if_neg (fun h => hw h.1)
 have hl : lineAt X n i = bstr t := by
  unfold lineAt
  rw [hsl, lineN_ok (one_ok hO) hd hs]
  exact ht
 rw [textFrom_yes hi (by rw [hl, bstr_size]; exact fun e => hne (List.length_eq_zero_iff.1 e)), hsl, hr, hl]
 rfl
theorem textA : textFrom (nthS exA) 3 0 = some exT := by
 have h3 : textFrom (nthS exA) 3 3 = some [] := textFrom_end (by decide)
 have h2 := text_step (X := nthS exA) (n := 3) (i := 2) (t := [101, 120, 105, 116]) (by decide) (by decide) (by decide) (by decide) (by decide) (by kernel_rfl) (by decide) h3
 have h1 := text_step (X := nthS exA) (n := 3) (i := 1) (t := [105, 102, 32, 114, 49, 32, 61, 61, 32, 48, 32, 103, 111, 116, 111, 32, 43, 51]) (by decide) (by decide) (by decide) (by decide) (by decide) (by kernel_rfl) (by decide) h2
 have h0 := text_step (X := nthS exA) (n := 3) (i := 0) (t := [42, 40, 117, 51, 50, 32, 42, 41, 40, 114, 49, 48, 32, 45, 32, 52, 41, 32, 61, 32, 114, 49]) (by decide) (by decide) (by decide) (by decide) (by decide) (by kernel_rfl) (by decide) h1
 rw [h0]
 rfl
set_option maxHeartbeats 4000000 in
theorem awake_any (w : World) (hT : Tabs w) : Calls Tryz.prog 7 #[] w fun e w' => e = .returned (.bool true) ∧ Below w.heap.size w w' := by
 have C1 : Hid (∀ w' : World, Tabs w' → Slots w' (some ⟨w.heap.size, 0, none⟩) 3 (nthS exA) → Calls Tryz.prog 12 #[.slice (some ⟨w.heap.size, 0, none⟩) 3 3] w' fun e w'' => e = .returned (.tuple #[.string (bstr exT), .int .i64 0]) ∧ Below w'.heap.size w' w'') := by
  intro w' hw hsl
  have h := Text_any _ 3 3 (nthS exA) (by decide) (by decide) w' hw hsl
  unfold textE at h
  rw [textA] at h
  exact h
 have C2 : Hid (∀ w' : World, Tabs w' → Calls Tryz.prog 4 #[.string exR] w' fun e w'' => Below w'.heap.size w' w'' ∧ ∃ v, e = .returned (.tuple #[v, .int .i64 0, .int .i64 0]) ∧ rowAt w'' w'.heap.size v [⟨183, 1, 0, 0, 5⟩, ⟨4, 1, 0, 0, -3⟩]) := by
  intro w' hw
  have h := Read_any exR (by decide) w' hw
  unfold ReadG at h
  rw [readR] at h
  exact h
 have C3 : Hid (∀ w' : World, Tabs w' → Calls Tryz.prog 4 #[.string exS] w' fun e w'' => Below w'.heap.size w' w'' ∧ e = .returned (.tuple #[.slice none 0 0, .int .i64 2, .int .i64 31])) := by
  intro w' hw
  have h := Read_any exS (by decide) w' hw
  unfold ReadG at h
  rw [readS, badS] at h
  exact h
 have H1 : Hid (Tabs (w.alloc (.cells #[.int .i64 99, .int .i64 10, .int .i64 1, .int .i64 (-4), .int .i64 0, .int .i64 21, .int .i64 1, .int .i64 0, .int .i64 3, .int .i64 0, .int .i64 149, .int .i64 0, .int .i64 0, .int .i64 0, .int .i64 0] inT))) := hT.below (below_alloc w _)
 have HS : Hid (Slots (w.alloc (.cells #[.int .i64 99, .int .i64 10, .int .i64 1, .int .i64 (-4), .int .i64 0, .int .i64 21, .int .i64 1, .int .i64 0, .int .i64 3, .int .i64 0, .int .i64 149, .int .i64 0, .int .i64 0, .int .i64 0, .int .i64 0] inT)) (some ⟨w.heap.size, 0, none⟩) 3 (nthS exA)) := by
  intro i hi
  have hB := Blk.new w inT #[.int .i64 99, .int .i64 10, .int .i64 1, .int .i64 (-4), .int .i64 0, .int .i64 21, .int .i64 1, .int .i64 0, .int .i64 3, .int .i64 0, .int .i64 149, .int .i64 0, .int .i64 0, .int .i64 0, .int .i64 0]
  refine ⟨w.heap.size, 0, rfl, by simp, ?_⟩
  rcases (by omega : i = 0 ∨ i = 1 ∨ i = 2) with rfl | rfl | rfl
  ·exact ⟨hB.cell 0, hB.cell 1, hB.cell 2, hB.cell 3, hB.cell 4⟩
  ·exact ⟨hB.cell 5, hB.cell 6, hB.cell 7, hB.cell 8, hB.cell 9⟩
  ·exact ⟨hB.cell 10, hB.cell 11, hB.cell 12, hB.cell 13, hB.cell 14⟩
 have hq : ∀ w, (binOp .eql inT (.agg #[.int .i64 4, .int .i64 1, .int .i64 0, .int .i64 0, .int .i64 (-3)]) (.agg #[.int .i64 4, .int .i64 1, .int .i64 0, .int .i64 0, .int .i64 (-3)])).run Tryz.prog w = .ok (.bool true) w := fun w => eq5 4 1 0 0 (-3) 4 1 0 0 (-3) w
 have ht : ((bstr exT).toList == [42, 40, 117, 51, 50, 32, 42, 41, 40, 114, 49, 48, 32, 45, 32, 52, 41, 32, 61, 32, 114, 49, 10, 105, 102, 32, 114, 49, 32, 61, 61, 32, 48, 32, 103, 111, 116, 111, 32, 43, 51, 10, 101, 120, 105, 116, 10]) = true := (same_const (bstr exT) [42, 40, 117, 51, 50, 32, 42, 41, 40, 114, 49, 48, 32, 45, 32, 52, 41, 32, 61, 32, 114, 49, 10, 105, 102, 32, 114, 49, 32, 61, 61, 32, 48, 32, 103, 111, 116, 111, 32, 43, 51, 10, 101, 120, 105, 116, 10]).trans (by unfold sameT; exact decide_eq_true rfl)
 obtain ⟨tx, htx⟩ : ∃ t, bstr exT = t := ⟨_, rfl⟩
 rw [htx] at C1 ht
 clear htx hT
 go_enter Tryz.func7, Tryz.ntmps7
 go_wp2_with (first
  | (go_at_call 12; refine (C1.out _ H1.out HS.out).mono ?_; rintro e w2 ⟨rfl, hb⟩; have B2 := Lib.hid ((below_alloc w _).on hb); have T2 := Lib.hid (H1.out.below hb); clear hb)
  | (go_at_call 4; first
   | (refine (C2.out _ T2.out).mono ?_; clear C2; rintro e w3 ⟨hb, v, rfl, hrow⟩; have B3 := Lib.hid (B2.out.on hb); have T3 := Lib.hid (T2.out.below hb); obtain ⟨A, c, rfl, hcl⟩ := own_form_any hrow; obtain ⟨g, rfl, hg, hcell⟩ := hcl (by decide); have HG := Lib.hid hg; have HC := Lib.hid hcell; clear hb hrow hcl hg hcell)
   | (refine (C3.out _ T3.out).mono ?_; rintro e w4 ⟨hb, rfl⟩; have B4 := Lib.hid (B3.out.on hb); have c5 : w4.cell? ⟨g, 5, none⟩ = some (.int .i64 4) := (hb.cell (p := ⟨g, 5, none⟩) HG.out).trans (HC.out 5 _ rfl); have c6 : w4.cell? ⟨g, 6, none⟩ = some (.int .i64 1) := (hb.cell (p := ⟨g, 6, none⟩) HG.out).trans (HC.out 6 _ rfl); have c7 : w4.cell? ⟨g, 7, none⟩ = some (.int .i64 0) := (hb.cell (p := ⟨g, 7, none⟩) HG.out).trans (HC.out 7 _ rfl); have c8 : w4.cell? ⟨g, 8, none⟩ = some (.int .i64 0) := (hb.cell (p := ⟨g, 8, none⟩) HG.out).trans (HC.out 8 _ rfl); have c9 : w4.cell? ⟨g, 9, none⟩ = some (.int .i64 (-3)) := (hb.cell (p := ⟨g, 9, none⟩) HG.out).trans (HC.out 9 _ rfl); clear hb)))
 go_ret
 exact ⟨rfl, B4.out⟩
theorem aluQ_reg (q d : Int) (h : q = 4 ∨ q = 7) : aluQ (regT (letterS q) d) = q := by
 unfold aluQ
 rw [lower_letter q d (by omega)]
 rcases h with rfl | rfl <;> decide
theorem sec_minus {s m : Int} {src : Bool} {q q' d : Int} (hne : (secT s m src (letterS q)).size ≠ 0) : sameT (secT s m src (letterS q)) (minusW ++ regT (letterS q') d) = false := by
 have hm : hdW (minusW ++ regT (letterS q') d) = some 45 := hd_app rfl
 unfold secT at *
 cases src
 ·by_cases h : s = 0
  ·rw [if_neg (by decide), if_pos h]
   rcases int_ways m with ⟨k, rfl, hk⟩ | ⟨k, rfl⟩
   ·rw [dec_neg k hk]
    unfold sameT
    refine decide_eq_false (fun e => ?_)
    rw [app_list, app_list] at e
    have e2 : Lib.decDigits k = (regT (letterS q') d).data.toList := (List.cons.inj e).2
    obtain ⟨c, h1, h2, h3⟩ := hd_dig k
    have h4 : hdW (regT (letterS q') d) = some c := by
     rw [← h1]
     unfold hdW
     rw [← e2]
     rfl
    rcases hd_letter q' d with h5 | h5
    ·rw [h5] at h4; cases h4; revert h3; decide
    ·rw [h5] at h4; cases h4; revert h3; decide
   ·refine same_hd ?_
    obtain ⟨c, h1, h2, h3⟩ := hd_dig k
    rw [hm, dec_nat, h1]
    intro e
    cases e
    revert h2; decide
  ·rw [if_neg (by decide), if_neg h] at hne; exact absurd rfl hne
 ·by_cases h : m = 0
  ·rw [if_pos rfl, if_pos h]
   refine same_hd ?_
   rw [hm]
   rcases hd_letter q s with e | e <;> rw [e] <;> decide
  ·rw [if_pos rfl, if_neg h] at hne; exact absurd rfl hne
theorem oper_ok (q d : Int) (c : ByteArray) : ∀ x ∈ operL, isW x.1 ∧ operR q d x.1 c operL = secR q (bits .or .i64 q x.2.1) d x.2.2 c := by
 intro x hx
 simp only [operL, List.mem_cons, List.not_mem_nil, or_false] at hx
 rcases hx with rfl | rfl | rfl | rfl | rfl | rfl | rfl | rfl | rfl | rfl | rfl | rfl | rfl | rfl <;> exact ⟨by decide, by kernel_rfl⟩
theorem operG_cases (z f : Int) (g : ByteArray → ByteArray) (e : ByteArray) : ∀ l : List (ByteArray × Int × Int), operG z f g e l = e ∨ ∃ nm, (nm, z, f) ∈ l ∧ operG z f g e l = g nm
 | [] => .inl rfl
 | (nm, k, x) :: l => by
  unfold operG
  by_cases h1 : k = z ∧ x = f
  ·rw [if_pos h1]
   exact .inr ⟨nm, by rw [h1.1, h1.2]; simp, rfl⟩
  ·rw [if_neg h1]
   rcases operG_cases z f g e l with h | ⟨nm', hm, hc⟩
   ·exact .inl h
   ·exact .inr ⟨nm', List.mem_cons_of_mem _ hm, hc⟩
theorem turnB_some {rd nm : ByteArray} {op o s f m : Int} : ∀ {l : List Int} {t : ByteArray}, turnB rd nm op o s f m l = some t → ∃ b ∈ l, o = op ∧ s = 0 ∧ f = 0 ∧ m = b ∧ t = saidT [rd, eqT, nm ++ dec b, rd]
 | [], t, h => by cases h
 | b :: l, t, h => by
  unfold turnB at h
  split at h
  ·rename_i hc
   cases h
   exact ⟨b, by simp, hc.1, hc.2.1, hc.2.2.1, hc.2.2.2, rfl⟩
  ·obtain ⟨b', hb, hc⟩ := turnB_some h
   exact ⟨b', List.mem_cons_of_mem _ hb, hc⟩
theorem turnG_cases (rd : ByteArray) (o s f m : Int) : ∀ l : List (ByteArray × Int), (turnG rd o s f m l).size ≠ 0 → ∃ nm b, (nm, o) ∈ l ∧ b ∈ [(16 : Int), 32, 64] ∧ s = 0 ∧ f = 0 ∧ m = b ∧ turnG rd o s f m l = saidT [rd, eqT, nm ++ dec b, rd]
 | [], h => absurd rfl h
 | (nm, op) :: l, h => by
  unfold turnG at h ⊢
  rcases hb : turnB rd nm op o s f m [16, 32, 64] with _ | t
  ·rw [hb] at h
   obtain ⟨nm', b, hm, hc⟩ := turnG_cases rd o s f m l h
   exact ⟨nm', b, List.mem_cons_of_mem _ hm, hc⟩
  ·obtain ⟨b, hm, rfl, h2, h3, h4, h5⟩ := turnB_some hb
   exact ⟨nm, b, by simp, hm, h2, h3, h4, h5⟩
theorem turn_ok (d : Int) : ∀ x ∈ turnL, ∀ b ∈ [(16 : Int), 32, 64], isW x.1 ∧ turnF (x.1 ++ dec b) d turnL = some ⟨x.2, d, 0, 0, b⟩ := by
 intro x hx b hb
 simp only [turnL, List.mem_cons, List.not_mem_nil, or_false] at hx hb
 rcases hx with rfl | rfl | rfl <;> rcases hb with rfl | rfl | rfl <;> exact ⟨by decide, by kernel_rfl⟩
theorem begins_ne {a p R : ByteArray} (hl : p.data.toList.length ≤ a.data.toList.length) (h : a.data.toList.take p.data.toList.length ≠ p.data.toList) : begins (a ++ R) p = false := by
 unfold begins beginsB
 rw [app_list, List.take_append_of_le_length hl, decide_eq_false h, Bool.and_false]
theorem signT8 : signT 8 = ⟨#[40, 115, 56, 41]⟩ := by kernel_rfl
theorem signT16 : signT 16 = ⟨#[40, 115, 49, 54, 41]⟩ := by kernel_rfl
theorem signT32 : signT 32 = ⟨#[40, 115, 51, 50, 41]⟩ := by kernel_rfl
theorem ext_back (q p d f : Int) (R : ByteArray) (h : extendsS q f = true) : extG q p d (signT f ++ R) [8, 16, 32] = (regS R (letterS q)).map fun r : Nat => (⟨p, d, (r : Int), f, 0⟩ : Slot) := by
 have hc := of_decide_eq_true h
 rcases hc with rfl | rfl | ⟨rfl, hq⟩
 ·rw [extG, if_pos ⟨begins_app _ _, h⟩, behind_app]
 ·rw [extG, if_neg (fun e => by
   rw [signT8, signT16, begins_ne (by decide) (by decide)] at e
   exact absurd e.1 (by decide)), extG, if_pos ⟨begins_app _ _, h⟩, behind_app]
 ·rw [extG, if_neg (fun e => by
   rw [signT8, signT32, begins_ne (by decide) (by decide)] at e
   exact absurd e.1 (by decide)), extG, if_neg (fun e => by
   rw [signT16, signT32, begins_ne (by decide) (by decide)] at e
   exact absurd e.1 (by decide)), extG, if_pos ⟨begins_app _ _, h⟩, behind_app]
theorem or_comm128 : bits .or .i64 4 128 = bits .or .i64 128 4 ∧ bits .or .i64 7 128 = bits .or .i64 128 7 ∧ bits .or .i64 4 184 = bits .or .i64 184 4 ∧ bits .or .i64 7 184 = bits .or .i64 184 7 := by decide +kernel
theorem isW_sign (f : Int) : isW (signT f) := isW_app (isW_app (by decide) (isW_dec f).2) (by decide)
theorem alu_back {o d s f m : Int} (h : Fits o d s f m) (hd : d ≤ 10) (hs : s ≤ 10) (hq : o % 8 = 4 ∨ o % 8 = 7) (hne : (aluT o d s f m).size ≠ 0) : Says (aluT o d s f m) [⟨o, d, s, f, m⟩] := by
 obtain ⟨ho, hd0, hs0, hf, hm⟩ := h
 have hdn : ((d.toNat : Nat) : Int) = d := by omega
 have hsn : ((s.toNat : Nat) : Int) = s := by omega
 have hrd := regS_regT (letterS (o % 8)) d hd0.1 hd
 have haq := aluQ_reg (o % 8) d hq
 have hwr : isW (regT (letterS (o % 8)) d) := isW_reg (isW_letter _) d
 unfold aluT at *
 by_cases h1 : same5 o d s f m (bits .or .i64 128 (o % 8)) d 0 0 0 = true
 ·rw [if_pos h1] at *
  obtain ⟨h2, _, rfl, rfl, rfl⟩ := of_decide_eq_true h1
  have hw : ∀ w ∈ [regT (letterS (o % 8)) d, eqT, minusW ++ regT (letterS (o % 8)) d], isW w := fun w hw => by
   simp only [List.mem_cons, List.not_mem_nil, or_false] at hw
   rcases hw with rfl | rfl | rfl
   ·exact hwr
   ·decide
   ·exact isW_app (by decide) hwr.2
  refine ⟨_, saidT_join hw, by simp, by simp, hw, slots_one (w := minusW ++ regT (letterS (o % 8)) d) rfl (by rw [show hdW (minusW ++ regT (letterS (o % 8)) d) = some 45 from hd_app rfl]; decide) ?_⟩
  rw [oneR]
  unfold aluR
  rw [haq, hrd, Option.bind_some, if_pos ⟨by decide, sameT_refl _⟩, hdn]
  congr 1
  have e : bits .or .i64 (o % 8) 128 = o := by
   conv => rhs; rw [h2]
   rcases hq with hq | hq <;> rw [hq]
   ·exact or_comm128.1
   ·exact or_comm128.2.1
  rw [e]
 ·rw [if_neg h1] at *
  by_cases h2 : o = bits .or .i64 184 (o % 8) ∧ m = 0 ∧ extendsS (o % 8) f = true
  ·rw [if_pos h2] at *
   obtain ⟨h3, rfl, h4⟩ := h2
   have hw : ∀ w ∈ [regT (letterS (o % 8)) d, eqT, signT f ++ regT (letterS (o % 8)) s], isW w := fun w hw => by
    simp only [List.mem_cons, List.not_mem_nil, or_false] at hw
    rcases hw with rfl | rfl | rfl
    ·exact hwr
    ·decide
    ·exact isW_app (isW_sign f) (isW_reg (isW_letter _) s).2
   have hh : hdW (signT f ++ regT (letterS (o % 8)) s) = some 40 := hd_app (hd_app (hd_app rfl))
   refine ⟨_, saidT_join hw, by simp, by simp, hw, slots_one (w := signT f ++ regT (letterS (o % 8)) s) rfl (by rw [hh]; decide) ?_⟩
   rw [oneR]
   unfold aluR
   have hbg : begins (signT f ++ regT (letterS (o % 8)) s) ⟨#[40]⟩ = true := by
    unfold hdW at hh
    rw [begins_one, hh]
    decide
   have em : sameT (signT f ++ regT (letterS (o % 8)) s) (minusW ++ regT (letterS (o % 8)) d) = false := same_hd (by rw [hh, show hdW (minusW ++ regT (letterS (o % 8)) d) = some 45 from hd_app rfl]; decide)
   rw [haq, hrd, Option.bind_some, if_neg (fun e => by
    rw [em] at e
    exact absurd e.2 (by decide)), if_pos ⟨by decide, hbg⟩, ext_back _ _ _ _ _ h4, regS_regT _ s hs0.1 hs, hdn]
   show some _ = some _
   congr 1
   have e : bits .or .i64 (o % 8) 184 = o := by
    conv => rhs; rw [h3]
    rcases hq with hq | hq <;> rw [hq]
    ·exact or_comm128.2.2.1
    ·exact or_comm128.2.2.2
   rw [e]
   dsimp only
   rw [hsn]
  ·rw [if_neg h2] at *
   rcases operG_cases (bits .and .i64 o 240) f (operLine o d s m) (turnT o d s f m) operL with hg | ⟨nm, hnm, hg⟩
   ·rw [hg] at hne ⊢
    unfold turnT at hne ⊢
    obtain ⟨nm, b, hnm, hb, rfl, rfl, rfl, ht⟩ := turnG_cases _ _ _ _ _ turnL hne
    rw [ht]
    obtain ⟨t1, t2⟩ := turn_ok d _ hnm _ hb
    have hwq : isW (regT wholeT d) := isW_reg (by decide) d
    have hw : ∀ w ∈ [regT wholeT d, eqT, nm ++ dec m, regT wholeT d], isW w := fun w hw => by
     simp only [List.mem_cons, List.not_mem_nil, or_false] at hw
     rcases hw with rfl | rfl | rfl | rfl
     ·exact hwq
     ·decide
     ·exact isW_app t1 (isW_dec m).2
     ·exact hwq
    refine ⟨_, saidT_join hw, by simp, by simp, hw, slots_one (w := regT wholeT d) rfl (by rw [show hdW (regT wholeT d) = some 114 from hd_reg 114 d]; decide) ?_⟩
    rw [oneR]
    unfold turnR twoOf
    rw [sameT_refl, sameT_refl, regS_regT wholeT d hd0.1 hd]
    show turnF _ ((d.toNat : Nat) : Int) turnL = _
    rw [hdn, t2]
   ·rw [hg] at hne ⊢
    unfold operLine at hne ⊢
    obtain ⟨z1, z2⟩ := saidT_sizes hne
    have hsz : (secT s m (bits .and .i64 o 8 != 0) (letterS (o % 8))).size ≠ 0 := z1 _ (by simp)
    have hsb := sec_back (q := o % 8) ⟨hs0.1, hs⟩ hm hsz
    obtain ⟨c, hc, hc1, hc2, _⟩ := hd_sec s m _ (o % 8) hsz
    obtain ⟨t1, t2⟩ := oper_ok (o % 8) d (secT s m (bits .and .i64 o 8 != 0) (letterS (o % 8))) _ hnm
    have hw : ∀ w ∈ [regT (letterS (o % 8)) d, nm, secT s m (bits .and .i64 o 8 != 0) (letterS (o % 8))], isW w := fun w hw => by
     simp only [List.mem_cons, List.not_mem_nil, or_false] at hw
     rcases hw with rfl | rfl | rfl
     ·exact hwr
     ·exact t1
     ·exact isW_sec hsz
    refine ⟨_, z2, by simp, by simp, hw, slots_one (w := secT s m (bits .and .i64 o 8 != 0) (letterS (o % 8))) rfl (by rw [hc]; exact fun e => hc2 (by cases e; rfl)) ?_⟩
    rw [oneR]
    unfold aluR
    have hbg : begins (secT s m (bits .and .i64 o 8 != 0) (letterS (o % 8))) ⟨#[40]⟩ = false := by
     unfold hdW at hc
     rw [begins_one, hc]
     exact decide_eq_false (fun e => hc1 (by cases e; rfl))
    rw [haq, hrd, Option.bind_some, if_neg (fun e => by rw [sec_minus hsz] at e; exact absurd e.2 (by decide)), if_neg (fun e => by rw [hbg] at e; exact absurd e.2 (by decide)), hdn, t2, secR_of hsb]
    obtain ⟨k, rfl⟩ := Int.eq_ofNat_of_zero_le ho.1
    rw [op_jump k (by omega) (by omega)]
theorem wide_back {x y : Slot} (hx : x.Ok) (hy : y.Ok) (ho : x.o = 24) (hd : x.d ≤ 10) (hne : (wideT x y).size ≠ 0) : Says (wideT x y) [x, y] := by
 obtain ⟨o, d, s, f, m⟩ := x
 obtain ⟨o', d', s', f', m'⟩ := y
 obtain ⟨_, hd0, hs0, hf, hm⟩ := hx
 obtain ⟨_, _, _, _, hm'⟩ := hy
 simp only at ho hd hd0 hs0 hf hm hm'
 subst ho
 have hdn : ((d.toNat : Nat) : Int) = d := by omega
 have hwq : isW (regT wholeT d) := isW_reg (by decide) d
 have hrd := regS_regT wholeT d hd0.1 hd
 unfold wideT at *
 simp only at *
 by_cases h1 : f = 0 ∧ same5 o' d' s' f' m' 0 0 0 0 m' = true
 ·rw [if_pos h1] at *
  obtain ⟨rfl, h2⟩ := h1
  obtain ⟨rfl, rfl, rfl, rfl, _⟩ := of_decide_eq_true h2
  by_cases h3 : s = 0
  ·rw [if_pos h3] at *
   subst h3
   have hw : ∀ w ∈ [regT wholeT d, eqT, decU (wideN m m'), llT], isW w := fun w hw => by
    simp only [List.mem_cons, List.not_mem_nil, or_false] at hw
    rcases hw with rfl | rfl | rfl | rfl
    ·exact hwq
    ·decide
    ·exact isW_digits _
    ·decide
   refine ⟨_, saidT_join hw, by simp, by simp, hw, ?_⟩
   have hN : 0 ≤ wideN m m' ∧ wideN m m' < 18446744073709551616 := by unfold wideN; omega
   unfold slotsR
   rw [if_pos (show lastLl [regT wholeT d, eqT, decU (wideN m m'), llT] = true from (by decide : sameT llT llT = true)), wideR]
   unfold wide4 decU
   rw [if_pos (by decide), hrd, Option.bind_some, digN_dec _ _ (by omega)]
   have e1 : (((wideN m m').toNat : Nat) : Int) = wideN m m' := by omega
   show some _ = some _
   congr 1
   dsimp only
   rw [e1, hdn]
   have e2 : wrap32 (wideN m m') = m := by unfold wrap32 wideN; omega
   have e3 : wrap32 (wideN m m' / 4294967296) = m' := by unfold wrap32 wideN; omega
   rw [e2, e3]
  ·rw [if_neg h3] at *
   by_cases h4 : s = 1 ∧ m' = 0
   ·rw [if_pos h4] at *
    obtain ⟨rfl, rfl⟩ := h4
    have hw : ∀ w ∈ [regT wholeT d, eqT, mapT, dec m, llT], isW w := fun w hw => by
     simp only [List.mem_cons, List.not_mem_nil, or_false] at hw
     rcases hw with rfl | rfl | rfl | rfl | rfl
     ·exact hwq
     ·decide
     ·decide
     ·exact isW_dec m
     ·decide
    refine ⟨_, saidT_join hw, by simp, by simp, hw, ?_⟩
    unfold slotsR
    rw [if_pos (show lastLl [regT wholeT d, eqT, mapT, dec m, llT] = true from (by decide : sameT llT llT = true)), wideR]
    unfold wide5
    rw [if_pos (by decide), hrd, Option.bind_some, if_pos (by decide), immS_dec m hm.1 hm.2, hdn]
    rfl
   ·rw [if_neg h4] at hne
    exact absurd rfl hne
 ·rw [if_neg h1] at hne
  exact absurd rfl hne
theorem body_back {x : Slot} (hx : x.Ok) (hd : x.d ≤ 10) (hs : x.s ≤ 10) (hne : (bodyT x emptyT).size ≠ 0) : Says (bodyT x emptyT) [x] := by
 obtain ⟨o, d, s, f, m⟩ := x
 unfold bodyT at *
 simp only at *
 by_cases h0 : o % 8 = 0
 ·rw [if_pos h0] at hne; exact absurd rfl hne
 rw [if_neg h0] at *
 by_cases h1 : o % 8 = 1
 ·rw [if_pos h1] at *; exact load_back hx hd hs h1 hne
 rw [if_neg h1] at *
 by_cases h2 : o % 8 = 2 ∨ o % 8 = 3
 ·rw [if_pos h2] at *; exact store_back hx hd hs h2 hne
 rw [if_neg h2] at *
 by_cases h3 : o % 8 = 4 ∨ o % 8 = 7
 ·rw [if_pos h3] at *; exact alu_back hx hd hs h3 hne
 rw [if_neg h3] at *
 exact jump_back hx hd hs (by omega) hne
/-- A slot that has a line of its own. -/
def Has (x : Slot) : Prop := x.Ok ∧ x.d ≤ 10 ∧ x.s ≤ 10 ∧ x.o ≠ 24 ∧ (bodyT x emptyT).size ≠ 0
theorem said_ne {ws : List ByteArray} (h : ws ≠ []) (hw : ∀ w ∈ ws, w.size ≠ 0) : (saidT ws).size ≠ 0 := by
 unfold saidT
 rw [if_neg]
 ·show (joinT ws).size ≠ 0
  rw [Lib.size_eq, joinT_list]
  rcases ws with _ | ⟨w, ws⟩
  ·exact absurd rfl h
  ·have hW := hw w (by simp)
   rw [Lib.size_eq] at hW
   rcases ws with _ | ⟨w2, ws⟩
   ·rw [List.map_cons, List.map_nil, Lib.join_one]; exact hW
   ·rw [List.map_cons, List.map_cons, join_two, List.length_append]; omega
 ·intro e
  obtain ⟨x, hx, he⟩ := List.any_eq_true.1 e
  exact hw x hx (of_decide_eq_true he)
theorem regS_le {s p : ByteArray} {n : Nat} (h : regS s p = some n) : n ≤ 10 := by
 unfold regS at h
 split at h
 ·exact digN_le (by decide) h
 ·cases h
theorem signS_le {below : Bool} {s : ByteArray} {bits : Nat} {v : Int} (h9 : 9 ≤ mostOf below bits) (h : signS below s bits = some v) : -(mostOf below bits : Int) ≤ v ∧ v ≤ (mostOf below bits : Int) ∧ (below = false → 0 ≤ v) ∧ (below = true → v ≤ 0) := by
 unfold signS at h
 obtain ⟨n, hn, h⟩ := Option.bind_eq_some_iff.1 h
 have hle := digN_le h9 hn
 split at h
 ·cases h
 ·cases h
  cases below
  ·rw [if_neg (by decide)]
   exact ⟨by omega, by omega, fun _ => (by omega), fun h => by cases h⟩
  ·rw [if_pos rfl]
   exact ⟨by omega, by omega, fun h => (by cases h), fun _ => by omega⟩
theorem immS_le {s : ByteArray} {v : Int} (h : immS s = some v) : -2147483648 ≤ v ∧ v ≤ 2147483647 := by
 unfold immS at h
 cases hb : begins s minusT
 ·rw [hb] at h
  have := signS_le (by decide) h
  have e : (mostOf false 32 : Int) = 2147483647 := by decide
  rw [e] at this
  omega
 ·rw [hb] at h
  have := signS_le (by decide) h
  have e : (mostOf true 32 : Int) = 2147483648 := by decide
  rw [e] at this
  have := this.2.2.2 rfl
  omega
theorem sign16_le {b : Bool} {s : ByteArray} {v : Int} (h : signS b s 16 = some v) : -32768 ≤ v ∧ v ≤ 32767 := by
 cases b
 ·have := signS_le (by decide) h
  have e : (mostOf false 16 : Int) = 32767 := by decide
  rw [e] at this
  omega
 ·have := signS_le (by decide) h
  have e : (mostOf true 16 : Int) = 32768 := by decide
  rw [e] at this
  have := this.2.2.2 rfl
  omega
theorem furtherS_le {s : ByteArray} {v : Int} (h : furtherS s = some v) : -32768 ≤ v ∧ v ≤ 32767 := by
 unfold furtherS at h
 split at h
 ·exact sign16_le h
 ·split at h
  ·exact sign16_le h
  ·cases h
/-- What the second of the two says. -/
theorem secS_le {c p : ByteArray} {S : Sec} (h : secS c p 0 0 = S) (hok : S.ok = true) : (S.reg = true ∧ S.imm = 0 ∧ 0 ≤ S.src ∧ S.src ≤ 10) ∨ (S.reg = false ∧ S.src = 0 ∧ -2147483648 ≤ S.imm ∧ S.imm ≤ 2147483647) := by
 subst h
 unfold secS at *
 by_cases hb : begins c p = true
 ·rw [if_pos hb] at *
  simp only at hok ⊢
  obtain ⟨n, hn⟩ := Option.isSome_iff_exists.1 hok
  have h1 := regS_le hn
  rw [regS_val hn]
  left
  exact ⟨trivial, trivial, by omega, by omega⟩
 ·rw [if_neg hb] at *
  simp only at hok ⊢
  obtain ⟨n, hn⟩ := Option.isSome_iff_exists.1 hok
  have h1 := immS_le hn
  rw [hn]
  right
  exact ⟨trivial, trivial, h1.1, h1.2⟩
theorem secT_ne {s m : Int} {src : Bool} {q : Int} (h : (src = true ∧ m = 0) ∨ (src = false ∧ s = 0)) : (secT s m src (letterS q)).size ≠ 0 := by
 unfold secT
 rcases h with ⟨rfl, rfl⟩ | ⟨rfl, rfl⟩
 ·rw [if_pos rfl, if_pos rfl]; exact (isW_reg (isW_letter q) s).1
 ·rw [if_neg (by decide), if_pos rfl]; exact (isW_dec m).1
theorem secR_le {q p d x : Int} {c : ByteArray} {y : Slot} (h : secR q p d x c = some y) :
  ∃ reg : Bool, y.o = (if reg = true then bits .or .i64 p 8 else p) ∧ y.d = d ∧ y.f = x ∧ ((reg = true ∧ y.m = 0) ∨ (reg = false ∧ y.s = 0)) ∧ 0 ≤ y.s ∧ y.s ≤ 10 ∧ -2147483648 ≤ y.m ∧ y.m ≤ 2147483647 := by
 unfold secR at h
 obtain ⟨S, hS⟩ : ∃ S, secS c (letterS q) 0 0 = S := ⟨_, rfl⟩
 rw [hS] at h
 by_cases hok : S.ok = true
 ·rw [if_pos hok] at h
  cases h
  rcases secS_le hS hok with ⟨h1, h2, h3, h4⟩ | ⟨h1, h2, h3, h4⟩
  ·exact ⟨S.reg, rfl, rfl, rfl, .inl ⟨h1, h2⟩, h3, h4, by simp only [h2]; omega, by simp only [h2]; omega⟩
  ·exact ⟨S.reg, rfl, rfl, rfl, .inr ⟨h1, h2⟩, by simp only [h2]; omega, by simp only [h2]; omega, h3, h4⟩
 ·rw [if_neg hok] at h; cases h
theorem testR_mem {q d f : Int} {m c : ByteArray} {y : Slot} : ∀ {l : List (ByteArray × Int)}, testR q d f m c l = some y → ∃ nm k, (nm, k) ∈ l ∧ secR q (bits .or .i64 q k) d f c = some y
 | [], h => by cases h
 | (nm, k) :: l, h => by
  unfold testR at h
  split at h
  ·exact ⟨nm, k, by simp, h⟩
  ·obtain ⟨nm', k', hm, hc⟩ := testR_mem h
   exact ⟨nm', k', List.mem_cons_of_mem _ hm, hc⟩
theorem operR_mem {q d : Int} {m c : ByteArray} {y : Slot} : ∀ {l : List (ByteArray × Int × Int)}, operR q d m c l = some y → ∃ nm k x, (nm, k, x) ∈ l ∧ secR q (bits .or .i64 q k) d x c = some y
 | [], h => by cases h
 | (nm, k, x) :: l, h => by
  unfold operR at h
  split at h
  ·exact ⟨nm, k, x, by simp, h⟩
  ·obtain ⟨nm', k', x', hm, hc⟩ := operR_mem h
   exact ⟨nm', k', x', List.mem_cons_of_mem _ hm, hc⟩
theorem testG_finds {z : Int} {g : ByteArray → ByteArray} : ∀ {l : List (ByteArray × Int)} {nm : ByteArray}, (nm, z) ∈ l → ∃ nm', (nm', z) ∈ l ∧ testG z g l = g nm'
 | (a, k) :: l, nm, h => by
  unfold testG
  by_cases h1 : k = z
  ·rw [if_pos h1]
   exact ⟨a, by rw [h1]; simp, rfl⟩
  ·rw [if_neg h1]
   rcases List.mem_cons.1 h with e | e
   ·cases e; exact absurd rfl h1
   ·obtain ⟨nm', hm, hc⟩ := testG_finds e
    exact ⟨nm', List.mem_cons_of_mem _ hm, hc⟩
theorem operG_finds {z f : Int} {g : ByteArray → ByteArray} {e : ByteArray} : ∀ {l : List (ByteArray × Int × Int)} {nm : ByteArray}, (nm, z, f) ∈ l → ∃ nm', (nm', z, f) ∈ l ∧ operG z f g e l = g nm'
 | (a, k, x) :: l, nm, h => by
  unfold operG
  by_cases h1 : k = z ∧ x = f
  ·rw [if_pos h1]
   exact ⟨a, by rw [h1.1, h1.2]; simp, rfl⟩
  ·rw [if_neg h1]
   rcases List.mem_cons.1 h with e | e
   ·cases e; exact absurd ⟨rfl, rfl⟩ h1
   ·obtain ⟨nm', hm, hc⟩ := operG_finds e
    exact ⟨nm', List.mem_cons_of_mem _ hm, hc⟩
/-! ### What an Op is made of -/
theorem op_tests : ∀ x ∈ testL, ∀ q ∈ [(5 : Int), 6], ∀ reg : Bool, (0 ≤ (if reg = true then bits .or .i64 (bits .or .i64 q x.2) 8 else bits .or .i64 q x.2) ∧ (if reg = true then bits .or .i64 (bits .or .i64 q x.2) 8 else bits .or .i64 q x.2) ≤ 255) ∧ (if reg = true then bits .or .i64 (bits .or .i64 q x.2) 8 else bits .or .i64 q x.2) % 8 = q ∧ bits .and .i64 (if reg = true then bits .or .i64 (bits .or .i64 q x.2) 8 else bits .or .i64 q x.2) 240 = x.2 ∧ (bits .and .i64 (if reg = true then bits .or .i64 (bits .or .i64 q x.2) 8 else bits .or .i64 q x.2) 8 != 0) = reg := by decide +kernel
theorem op_opers : ∀ x ∈ operL, (x.2.2 = 0 ∨ x.2.2 = 1) ∧ ∀ q ∈ [(4 : Int), 7], ∀ reg : Bool, (0 ≤ (if reg = true then bits .or .i64 (bits .or .i64 q x.2.1) 8 else bits .or .i64 q x.2.1) ∧ (if reg = true then bits .or .i64 (bits .or .i64 q x.2.1) 8 else bits .or .i64 q x.2.1) ≤ 255) ∧ (if reg = true then bits .or .i64 (bits .or .i64 q x.2.1) 8 else bits .or .i64 q x.2.1) % 8 = q ∧ bits .and .i64 (if reg = true then bits .or .i64 (bits .or .i64 q x.2.1) 8 else bits .or .i64 q x.2.1) 240 = x.2.1 ∧ (bits .and .i64 (if reg = true then bits .or .i64 (bits .or .i64 q x.2.1) 8 else bits .or .i64 q x.2.1) 8 != 0) = reg := by decide +kernel
theorem op_minus : ∀ q ∈ [(4 : Int), 7], (0 ≤ bits .or .i64 q 128 ∧ bits .or .i64 q 128 ≤ 255) ∧ bits .or .i64 q 128 % 8 = q ∧ bits .or .i64 q 128 = bits .or .i64 128 q := by decide +kernel
theorem op_ext : ∀ q ∈ [(4 : Int), 7], (0 ≤ bits .or .i64 q 184 ∧ bits .or .i64 q 184 ≤ 255) ∧ bits .or .i64 q 184 % 8 = q ∧ bits .or .i64 q 184 = bits .or .i64 184 q := by decide +kernel
theorem op_moves : ∀ x ∈ moveL, (∃ nm, moveOf moveL x.2.1 x.2.2 = some nm) ∧ (0 ≤ bits .or .i64 (bits .or .i64 x.2.1 x.2.2) 1 ∧ bits .or .i64 (bits .or .i64 x.2.1 x.2.2) 1 ≤ 255) ∧ bits .or .i64 (bits .or .i64 x.2.1 x.2.2) 1 % 8 = 1 ∧ bits .and .i64 (bits .or .i64 (bits .or .i64 x.2.1 x.2.2) 1) 224 = x.2.1 ∧ bits .and .i64 (bits .or .i64 (bits .or .i64 x.2.1 x.2.2) 1) 24 = x.2.2 := by
 intro x hx
 refine ⟨?_, ?_⟩
 ·refine Option.isSome_iff_exists.1 ?_
  revert x; decide +kernel
 ·revert x; decide +kernel
theorem op_stores : ∀ x ∈ moveL, x.2.1 = 96 → (0 ≤ bits .or .i64 (bits .or .i64 x.2.1 x.2.2) 2 ∧ bits .or .i64 (bits .or .i64 x.2.1 x.2.2) 2 ≤ 255) ∧ bits .or .i64 (bits .or .i64 x.2.1 x.2.2) 2 % 8 = 2 ∧ bits .and .i64 (bits .or .i64 (bits .or .i64 x.2.1 x.2.2) 2) 224 = 96 ∧ bits .and .i64 (bits .or .i64 (bits .or .i64 x.2.1 x.2.2) 2) 24 = x.2.2 ∧ (0 ≤ bits .or .i64 (bits .or .i64 x.2.1 x.2.2) 3 ∧ bits .or .i64 (bits .or .i64 x.2.1 x.2.2) 3 ≤ 255) ∧ bits .or .i64 (bits .or .i64 x.2.1 x.2.2) 3 % 8 = 3 ∧ bits .and .i64 (bits .or .i64 (bits .or .i64 x.2.1 x.2.2) 3) 224 = 96 ∧ bits .and .i64 (bits .or .i64 (bits .or .i64 x.2.1 x.2.2) 3) 24 = x.2.2 ∧ (0 ≤ bits .or .i64 (bits .or .i64 192 x.2.2) 3 ∧ bits .or .i64 (bits .or .i64 192 x.2.2) 3 ≤ 255) ∧ bits .or .i64 (bits .or .i64 192 x.2.2) 3 % 8 = 3 ∧ bits .and .i64 (bits .or .i64 (bits .or .i64 192 x.2.2) 3) 224 = 192 ∧ bits .and .i64 (bits .or .i64 (bits .or .i64 192 x.2.2) 3) 24 = x.2.2 := by decide +kernel
theorem lock_mem {k : ByteArray} {fe : Bool} {v : Int} : ∀ {l : List (ByteArray × Int × Bool)}, lockF k fe l = some v → ∃ nm i fo, (nm, i, fo) ∈ l ∧ (fe = true → fo = true) ∧ v = if fe = true then i + 1 else i
 | [], h => by cases h
 | (nm, i, fo) :: l, h => by
  unfold lockF at h
  split at h
  ·rename_i hc
   cases h
   exact ⟨nm, i, fo, by simp, hc.2, rfl⟩
  ·obtain ⟨nm', i', fo', hm, h1, h2⟩ := lock_mem h
   exact ⟨nm', i', fo', List.mem_cons_of_mem _ hm, h1, h2⟩
theorem lock_finds (r : ByteArray) (hr : r.size ≠ 0) : ∀ x ∈ lockL, (0 ≤ x.2.1 ∧ x.2.1 ≤ 241) ∧ (lockG r x.2.1 lockL).size ≠ 0 ∧ (x.2.2 = true → (lockG r (x.2.1 + 1) lockL).size ≠ 0) := by
 intro x hx
 simp only [lockL, List.mem_cons, List.not_mem_nil, or_false] at hx
 have h2 : ∀ nm : ByteArray, nm.size ≠ 0 → (saidT [nm, r]).size ≠ 0 := fun nm hn => said_ne (by simp) (fun w hw => by
  simp only [List.mem_cons, List.not_mem_nil, or_false] at hw
  rcases hw with rfl | rfl <;> assumption)
 have h3 : ∀ nm : ByteArray, nm.size ≠ 0 → (saidT [nm, r, fetchT]).size ≠ 0 := fun nm hn => said_ne (by simp) (fun w hw => by
  simp only [List.mem_cons, List.not_mem_nil, or_false] at hw
  rcases hw with rfl | rfl | rfl
  ·assumption
  ·assumption
  ·decide)
 rcases hx with rfl | rfl | rfl | rfl | rfl | rfl
 ·refine ⟨by decide, ?_, fun _ => ?_⟩
  ·simp only [lockG, if_true]; exact h2 _ (by decide)
  ·simp [lockG, -ByteArray.size_eq_zero_iff]; exact h3 _ (by decide)
 ·refine ⟨by decide, ?_, fun _ => ?_⟩
  ·simp only [lockG, if_true]; exact h2 _ (by decide)
  ·simp [lockG, -ByteArray.size_eq_zero_iff]; exact h3 _ (by decide)
 ·refine ⟨by decide, ?_, fun _ => ?_⟩
  ·simp only [lockG, if_true]; exact h2 _ (by decide)
  ·simp [lockG, -ByteArray.size_eq_zero_iff]; exact h3 _ (by decide)
 ·refine ⟨by decide, ?_, fun _ => ?_⟩
  ·simp only [lockG, if_true]; exact h2 _ (by decide)
  ·simp [lockG, -ByteArray.size_eq_zero_iff]; exact h3 _ (by decide)
 ·refine ⟨by decide, ?_, fun h => by cases h⟩
  simp [lockG, -ByteArray.size_eq_zero_iff]; exact h2 _ (by decide)
 ·refine ⟨by decide, ?_, fun h => by cases h⟩
  simp [lockG, -ByteArray.size_eq_zero_iff]; exact h2 _ (by decide)
end Go.Proofs.YtemiklbkfogjeaaGreatDoor
