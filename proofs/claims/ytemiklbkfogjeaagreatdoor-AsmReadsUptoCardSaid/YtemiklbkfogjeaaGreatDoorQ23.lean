/-
  What is read of a line has a line. What is read of a text has a text, and of that the same is read. What package asm's reader takes is written just as package asm writes it: word by word.
-/
import Derived.Test.YtemiklbkfogjeaaGreatDoorQ22
namespace Go.Proofs.YtemiklbkfogjeaaGreatDoor
open Go Go.RowKit Go.Maps
set_option linter.unusedVariables false
set_option linter.unusedSimpArgs false
set_option maxRecDepth 100000
theorem app_ne {a b : ByteArray} (h : a.size ≠ 0) : (a ++ b).size ≠ 0 := by rw [ByteArray.size_append]; omega
theorem has_of {o d s f m : Int} (h1 : 0 ≤ o ∧ o ≤ 255) (hd : 0 ≤ d ∧ d ≤ 10) (hs : 0 ≤ s ∧ s ≤ 10) (hf : -32768 ≤ f ∧ f ≤ 32767) (hm : -2147483648 ≤ m ∧ m ≤ 2147483647) (h24 : o ≠ 24) (hb : (bodyT ⟨o, d, s, f, m⟩ emptyT).size ≠ 0) : Has ⟨o, d, s, f, m⟩ :=
 ⟨⟨h1, ⟨hd.1, by simp only; omega⟩, ⟨hs.1, by simp only; omega⟩, hf, hm⟩, hd.2, hs.2, h24, hb⟩
theorem reg_ne (q d : Int) : (regT (letterS q) d).size ≠ 0 := (isW_reg (isW_letter q) d).1
theorem all2 {a b : ByteArray} (ha : a.size ≠ 0) (hb : b.size ≠ 0) : (saidT [a, b]).size ≠ 0 := said_ne (by simp) (fun w hw => by
 simp only [List.mem_cons, List.not_mem_nil, or_false] at hw
 rcases hw with rfl | rfl <;> assumption)
theorem all3 {a b c : ByteArray} (ha : a.size ≠ 0) (hb : b.size ≠ 0) (hc : c.size ≠ 0) : (saidT [a, b, c]).size ≠ 0 := said_ne (by simp) (fun w hw => by
 simp only [List.mem_cons, List.not_mem_nil, or_false] at hw
 rcases hw with rfl | rfl | rfl <;> assumption)
theorem all4 {a b c d : ByteArray} (ha : a.size ≠ 0) (hb : b.size ≠ 0) (hc : c.size ≠ 0) (hd : d.size ≠ 0) : (saidT [a, b, c, d]).size ≠ 0 := said_ne (by simp) (fun w hw => by
 simp only [List.mem_cons, List.not_mem_nil, or_false] at hw
 rcases hw with rfl | rfl | rfl | rfl <;> assumption)
theorem all5 {a b c d e : ByteArray} (ha : a.size ≠ 0) (hb : b.size ≠ 0) (hc : c.size ≠ 0) (hd : d.size ≠ 0) (he : e.size ≠ 0) : (saidT [a, b, c, d, e]).size ≠ 0 := said_ne (by simp) (fun w hw => by
 simp only [List.mem_cons, List.not_mem_nil, or_false] at hw
 rcases hw with rfl | rfl | rfl | rfl | rfl <;> assumption)
theorem all6 {a b c d e f : ByteArray} (ha : a.size ≠ 0) (hb : b.size ≠ 0) (hc : c.size ≠ 0) (hd : d.size ≠ 0) (he : e.size ≠ 0) (hf : f.size ≠ 0) : (saidT [a, b, c, d, e, f]).size ≠ 0 := said_ne (by simp) (fun w hw => by
 simp only [List.mem_cons, List.not_mem_nil, or_false] at hw
 rcases hw with rfl | rfl | rfl | rfl | rfl | rfl <;> assumption)
theorem far_ne (f : Int) : (farT f).size ≠ 0 := by
 unfold farT partsT
 split
 ·exact app_ne (a := ⟨#[45]⟩) (by decide)
 ·exact app_ne (a := ⟨#[43]⟩) (by decide)
theorem parts_ne (f : Int) : (partsT f).1.size ≠ 0 ∧ (partsT f).2.size ≠ 0 := by
 unfold partsT
 split
 ·exact ⟨show (⟨#[45]⟩ : ByteArray).size ≠ 0 by decide, (isW_dec _).1⟩
 ·exact ⟨show (⟨#[43]⟩ : ByteArray).size ≠ 0 by decide, (isW_dec _).1⟩
/-! ### Jumps -/
theorem jump_ne {o d s f m : Int} (h : ∃ nm, (nm, bits .and .i64 o 240) ∈ testL) (hs : (secT s m (bits .and .i64 o 8 != 0) (letterS (o % 8))).size ≠ 0) : (jumpT o d s f m).size ≠ 0 := by
 unfold jumpT
 split
 ·exact all2 (by decide) (far_ne f)
 split
 ·exact all2 (by decide) (isW_dec m).1
 split
 ·decide
 ·obtain ⟨nm, hm⟩ := h
  obtain ⟨nm', hm', e⟩ := testG_finds (g := testLine o d s f m) hm
  rw [e]
  have hn : ∀ x ∈ testL, x.1.size ≠ 0 := by decide
  exact all6 (by decide) (reg_ne _ d) (hn _ hm') hs (by decide) (far_ne f)
theorem body_jump {x : Slot} (h : x.o % 8 = 5 ∨ x.o % 8 = 6) : bodyT x emptyT = jumpT x.o x.d x.s x.f x.m := by
 unfold bodyT
 rw [if_neg (by omega), if_neg (by omega), if_neg (by omega), if_neg (by omega)]
theorem body_alu {x : Slot} (h : x.o % 8 = 4 ∨ x.o % 8 = 7) : bodyT x emptyT = aluT x.o x.d x.s x.f x.m := by
 unfold bodyT
 rw [if_neg (by omega), if_neg (by omega), if_neg (by omega), if_pos h]
theorem body_store {x : Slot} (h : x.o % 8 = 2 ∨ x.o % 8 = 3) : bodyT x emptyT = storeT x.o x.d x.s x.f x.m := by
 unfold bodyT
 rw [if_neg (by omega), if_neg (by omega), if_pos h]
theorem body_load {x : Slot} (h : x.o % 8 = 1) : bodyT x emptyT = loadT x.o x.d x.s x.f x.m := by
 unfold bodyT
 rw [if_neg (by omega), if_pos h]
theorem jump_has {a m c t e : ByteArray} {x : Slot} (h : jumpR a m c t e = some x) : Has x := by
 unfold jumpR jmpOf at h
 split at h
 case isFalse => cases h
 obtain ⟨d, hd, h⟩ := Option.bind_eq_some_iff.1 h
 obtain ⟨f, hf, h⟩ := Option.bind_eq_some_iff.1 h
 have hdl := regS_le hd
 have hfl := furtherS_le hf
 have hq : jumpQ a ∈ [(5 : Int), 6] := by unfold jumpQ; split <;> simp
 obtain ⟨nm, k, hm, h⟩ := testR_mem h
 obtain ⟨reg, ho, hd', hf', hsm, hs0, hs1, hm0, hm1⟩ := secR_le h
 have hT := op_tests _ hm _ hq reg
 simp only at hT
 rw [← ho] at hT
 obtain ⟨t1, t2, t3, t4⟩ := hT
 have hq2 : jumpQ a = 5 ∨ jumpQ a = 6 := by simpa using hq
 refine ⟨⟨t1, by omega, by omega, by omega, by omega⟩, by omega, by omega, by omega, ?_⟩
 rw [body_jump (by omega)]
 refine jump_ne ⟨nm, by rw [t3]; exact hm⟩ ?_
 rw [t4]
 exact secT_ne (by rcases hsm with ⟨h1, h2⟩ | ⟨h1, h2⟩; exact .inl ⟨h1, h2⟩; exact .inr ⟨h1, h2⟩)
/-! ### Arithmetic -/
theorem extG_mem {q p d : Int} {s : ByteArray} {y : Slot} : ∀ {l : List Int}, extG q p d s l = some y → ∃ n r, n ∈ l ∧ extendsS q n = true ∧ r ≤ 10 ∧ y = ⟨p, d, ((r : Nat) : Int), n, 0⟩
 | [], h => by cases h
 | n :: l, h => by
  unfold extG at h
  split at h
  ·rename_i hc
   obtain ⟨r, hr, rfl⟩ := Option.map_eq_some_iff.1 h
   exact ⟨n, r, by simp, hc.2, regS_le hr, rfl⟩
  ·obtain ⟨n', r, hm, h1, h2, h3⟩ := extG_mem h
   exact ⟨n', r, List.mem_cons_of_mem _ hm, h1, h2, h3⟩
theorem sign_ne (f : Int) : (signT f).size ≠ 0 := (isW_sign f).1
theorem alu_has {a m c : ByteArray} {x : Slot} (h : aluR a m c = some x) : Has x := by
 unfold aluR at h
 obtain ⟨d, hd, h⟩ := Option.bind_eq_some_iff.1 h
 have hdl := regS_le hd
 have hq : aluQ a ∈ [(4 : Int), 7] := by unfold aluQ; split <;> simp
 have hq2 : aluQ a = 4 ∨ aluQ a = 7 := by simpa using hq
 clear hd
 generalize aluQ a = q at *
 split at h
 ·cases h
  obtain ⟨t1, t2, t3⟩ := op_minus _ hq
  refine has_of t1 (by omega) (by decide) (by decide) (by decide) (by omega) ?_
  rw [body_alu (by simp only; omega)]
  unfold aluT
  dsimp only
  rw [t2, ← t3, if_pos (show same5 _ _ _ _ _ _ _ _ _ _ = true from decide_eq_true ⟨rfl, rfl, rfl, rfl, rfl⟩)]
  exact all3 (reg_ne _ _) (by decide) (app_ne (by decide))
 split at h
 ·obtain ⟨n, r, hn, hx, hr, rfl⟩ := extG_mem h
  obtain ⟨t1, t2, t3⟩ := op_ext _ hq
  have hn2 : n = 8 ∨ n = 16 ∨ n = 32 := by simpa using hn
  refine has_of t1 (by omega) (by omega) (by omega) (by decide) (by omega) ?_
  rw [body_alu (by simp only; omega)]
  unfold aluT
  dsimp only
  split
  ·exact all3 (reg_ne _ _) (by decide) (app_ne (by decide))
  rw [t2, ← t3, if_pos ⟨rfl, rfl, hx⟩]
  exact all3 (reg_ne _ _) (by decide) (app_ne (sign_ne _))
 ·obtain ⟨nm, k, z, hm, h⟩ := operR_mem h
  obtain ⟨reg, ho, hd', hf', hsm, hs0, hs1, hm0, hm1⟩ := secR_le h
  obtain ⟨hz, hT⟩ := op_opers _ hm
  have hT := hT _ hq reg
  simp only at hz hT
  rw [← ho] at hT
  obtain ⟨t1, t2, t3, t4⟩ := hT
  refine ⟨⟨t1, by omega, by omega, by omega, by omega⟩, by omega, by omega, by omega, ?_⟩
  rw [body_alu (by omega)]
  unfold aluT
  split
  ·exact all3 (reg_ne _ _) (by decide) (app_ne (by decide))
  split
  ·exact all3 (reg_ne _ _) (by decide) (app_ne (sign_ne _))
  ·rw [t3, hf']
   obtain ⟨nm', hm', e⟩ := operG_finds (g := operLine x.o x.d x.s x.m) (e := turnT x.o x.d x.s z x.m) hm
   rw [e]
   have hn : ∀ x ∈ operL, x.1.size ≠ 0 := by decide
   refine all3 (reg_ne _ _) (hn _ hm') ?_
   rw [t4]
   exact secT_ne (by rcases hsm with ⟨h1, h2⟩ | ⟨h1, h2⟩; exact .inl ⟨h1, h2⟩; exact .inr ⟨h1, h2⟩)
theorem turnC_mem {c nm : ByteArray} {op d : Int} {y : Slot} : ∀ {l : List Int}, turnC c nm op d l = some y → ∃ n, n ∈ l ∧ y = ⟨op, d, 0, 0, n⟩
 | [], h => by cases h
 | n :: l, h => by
  unfold turnC at h
  split at h
  ·cases h
   exact ⟨n, by simp, rfl⟩
  ·obtain ⟨n', hm, h1⟩ := turnC_mem h
   exact ⟨n', List.mem_cons_of_mem _ hm, h1⟩
theorem turnF_mem {c : ByteArray} {d : Int} {y : Slot} : ∀ {l : List (ByteArray × Int)}, turnF c d l = some y → ∃ nm op n, (nm, op) ∈ l ∧ n ∈ [(16 : Int), 32, 64] ∧ y = ⟨op, d, 0, 0, n⟩
 | [], h => by cases h
 | (nm, op) :: l, h => by
  unfold turnF at h
  rcases hc : turnC c nm op d [16, 32, 64] with _ | z
  ·rw [hc, Option.none_or] at h
   obtain ⟨nm', op', n, hm, h1, h2⟩ := turnF_mem h
   exact ⟨nm', op', n, List.mem_cons_of_mem _ hm, h1, h2⟩
  ·rw [hc, Option.some_or] at h
   cases h
   obtain ⟨n, h1, h2⟩ := turnC_mem hc
   exact ⟨nm, op, n, by simp, h1, h2⟩
theorem turn_finds (rd : ByteArray) (hr : rd.size ≠ 0) : ∀ x ∈ turnL, ∀ n ∈ [(16 : Int), 32, 64], (turnG rd x.2 0 0 n turnL).size ≠ 0 := by
 intro x hx n hn
 have h : ∀ (nm : ByteArray) (b : Int), nm.size ≠ 0 → (saidT [rd, eqT, nm ++ dec b, rd]).size ≠ 0 := fun nm b hnm => all4 hr (by decide) (app_ne hnm) hr
 simp only [turnL, List.mem_cons, List.not_mem_nil, or_false] at hx hn
 rcases hx with rfl | rfl | rfl <;> rcases hn with rfl | rfl | rfl <;>
  (simp only [turnL, turnG, turnB, Int.reduceEq, true_and, and_true, and_false, false_and, if_true, if_false, Option.getD_some, Option.getD_none]; exact h _ _ (by decide))
theorem op_turns : ∀ x ∈ turnL, (0 ≤ x.2 ∧ x.2 ≤ 255) ∧ (x.2 % 8 = 4 ∨ x.2 % 8 = 7) ∧ x.2 ≠ 24 ∧ bits .and .i64 x.2 240 = 208 := by decide +kernel
theorem turn_has {a m c t : ByteArray} {x : Slot} (h : turnR a m c t = some x) : Has x := by
 unfold turnR twoOf at h
 split at h
 case isFalse => cases h
 obtain ⟨d, hd, h⟩ := Option.bind_eq_some_iff.1 h
 have hdl := regS_le hd
 obtain ⟨nm, op, n, hm, hn, rfl⟩ := turnF_mem h
 obtain ⟨t1, t2, t3, t4⟩ := op_turns _ hm
 simp only at t1 t2 t3 t4
 have hn2 : n = 16 ∨ n = 32 ∨ n = 64 := by simpa using hn
 refine has_of t1 (by omega) (by decide) (by decide) (by omega) t3 ?_
 rw [body_alu t2]
 unfold aluT
 dsimp only
 split
 ·exact all3 (reg_ne _ _) (by decide) (app_ne (by decide))
 split
 ·exact all3 (reg_ne _ _) (by decide) (app_ne (sign_ne _))
 rw [t4, show operG 208 0 (operLine op d 0 n) (turnT op d 0 0 n) operL = turnT op d 0 0 n from by simp only [operL, operG, Int.reduceEq, false_and, if_false]]
 exact turn_finds _ (isW_reg (by decide) _).1 _ hm _ hn
/-! ### Memory -/
theorem moveR_mem {p0 : ByteArray} {md sz : Int} : ∀ {l : List (ByteArray × Int × Int)}, moveR p0 l = some (md, sz) → ∃ nm, (nm, md, sz) ∈ l
 | [], h => by cases h
 | (nm, a, b) :: l, h => by
  unfold moveR at h
  split at h
  ·cases h
   exact ⟨nm, by simp⟩
  ·obtain ⟨nm', hm⟩ := moveR_mem h
   exact ⟨nm', List.mem_cons_of_mem _ hm⟩
theorem placeR_le {p0 p1 p2 p3 : ByteArray} {x : Plc} (h : placeR p0 p1 p2 p3 = some x) : (∃ nm, (nm, x.md, x.sz) ∈ moveL) ∧ (0 ≤ x.base ∧ x.base ≤ 10) ∧ -32768 ≤ x.off ∧ x.off ≤ 32767 := by
 unfold placeR at h
 split at h
 case isFalse => cases h
 obtain ⟨b, hb, h⟩ := Option.bind_eq_some_iff.1 h
 obtain ⟨f, hf, h⟩ := Option.bind_eq_some_iff.1 h
 obtain ⟨⟨md, sz⟩, hm, rfl⟩ := Option.map_eq_some_iff.1 h
 have h1 := regS_le hb
 have h2 := sign16_le hf
 exact ⟨moveR_mem hm, ⟨by simp only; omega, by simp only; omega⟩, h2.1, h2.2⟩
theorem place_ne {md o f b : Int} (h : ∃ nm, moveOf moveL md (bits .and .i64 o 24) = some nm) : (placeT md o f b).size ≠ 0 := by
 obtain ⟨nm, h⟩ := h
 unfold placeT
 rw [h]
 exact all4 (app_ne (by decide)) (app_ne (by decide)) (parts_ne f).1 (app_ne (parts_ne f).2)
theorem load_has {a p0 p1 p2 p3 : ByteArray} {x : Slot} (h : loadR a p0 p1 p2 p3 = some x) : Has x := by
 unfold loadR at h
 obtain ⟨p, hp, h⟩ := Option.bind_eq_some_iff.1 h
 obtain ⟨d, hd, rfl⟩ := Option.map_eq_some_iff.1 h
 have hdl := regS_le hd
 obtain ⟨⟨nm, hm⟩, hb, hof⟩ := placeR_le hp
 obtain ⟨h1, t1, t2, t3, t4⟩ := op_moves _ hm
 simp only at h1 t1 t2 t3 t4
 refine has_of t1 (by omega) hb hof (by decide) (by omega) ?_
 rw [body_load t2]
 unfold loadT
 rw [if_pos rfl]
 dsimp only
 rw [t3]
 exact all3 (isW_reg (by decide) _).1 (by decide) (place_ne (by rw [t4]; exact h1))
theorem store_has {p0 p1 p2 p3 q c : ByteArray} {x : Slot} (h : storeR p0 p1 p2 p3 q c = some x) : Has x := by
 unfold storeR at h
 obtain ⟨p, hp, h⟩ := Option.bind_eq_some_iff.1 h
 obtain ⟨⟨nm, hm⟩, hb, hof⟩ := placeR_le hp
 split at h
 case isFalse => cases h
 rename_i hc
 have h96 : p.md = 96 := by
  have := (Bool.and_eq_true_iff.1 hc).1
  exact of_decide_eq_true this
 obtain ⟨S, hS⟩ : ∃ S, secS c wholeT 0 0 = S := ⟨_, rfl⟩
 rw [hS] at h
 split at h
 case isFalse => cases h
 rename_i hok
 cases h
 obtain ⟨h1, _⟩ := op_moves _ hm
 obtain ⟨a1, a2, a3, a4, b1, b2, b3, b4, _⟩ := op_stores _ hm h96
 simp only at h1 a1 a2 a3 a4 b1 b2 b3 b4
 rw [h96] at *
 rcases secS_le hS hok with ⟨h2, h3, h4, h5⟩ | ⟨h2, h3, h4, h5⟩
 ·rw [h2, if_pos rfl, h3]
  refine has_of b1 hb ⟨h4, h5⟩ hof (by decide) (by omega) ?_
  rw [body_store (.inr b2)]
  unfold storeT
  simp only
  rw [if_neg (by rw [b3]; exact fun h => absurd h.1 (by decide)), if_pos b3]
  refine all3 (place_ne (by rw [b4]; exact h1)) (by decide) ?_
  rw [b2]
  exact secT_ne (q := 7) (.inl ⟨rfl, rfl⟩)
 ·rw [h2, if_neg (by decide), h3]
  refine has_of a1 hb (by decide) hof ⟨h4, h5⟩ (by omega) ?_
  rw [body_store (.inl a2)]
  unfold storeT
  simp only
  rw [if_neg (by rw [a3]; exact fun h => absurd h.1 (by decide)), if_pos a3]
  refine all3 (place_ne (by rw [a4]; exact h1)) (by decide) ?_
  rw [a2]
  exact secT_ne (q := 7) (.inr ⟨rfl, rfl⟩)
theorem lock_has {p0 p1 p2 p3 k s : ByteArray} {f : Option ByteArray} {x : Slot} (h : lockR p0 p1 p2 p3 k s f = some x) : Has x := by
 unfold lockR at h
 obtain ⟨p, hp, h⟩ := Option.bind_eq_some_iff.1 h
 obtain ⟨⟨nm, hm⟩, hb, hof⟩ := placeR_le hp
 unfold lockX at h
 split at h
 case isFalse => cases h
 rename_i hc
 obtain ⟨hc1, hl⟩ := Bool.and_eq_true_iff.1 hc
 have h96 : p.md = 96 := of_decide_eq_true hc1
 obtain ⟨r, hr, h⟩ := Option.bind_eq_some_iff.1 h
 have hrl := regS_le hr
 split at h
 case isFalse => cases h
 obtain ⟨v, hv, rfl⟩ := Option.map_eq_some_iff.1 h
 obtain ⟨nm', i, fo, hml, hfe, hve⟩ := lock_mem hv
 obtain ⟨g1, g2, g3⟩ := lock_finds (regT ⟨#[114]⟩ (r : Int)) (isW_reg (by decide) _).1 _ hml
 simp only at g1 g2 g3
 obtain ⟨h1, _⟩ := op_moves _ hm
 obtain ⟨_, _, _, _, _, _, _, _, c1, c2, c3, c4⟩ := op_stores _ hm h96
 simp only at h1 c1 c2 c3 c4
 rw [h96] at h1
 have hvr : 0 ≤ v ∧ v ≤ 242 := by rw [hve]; split <;> omega
 refine has_of c1 hb (by omega) hof (by omega) (by omega) ?_
 rw [body_store (.inr c2)]
 unfold storeT
 simp only
 rw [if_pos ⟨c3, c2, by rw [c4]; exact hl⟩]
 refine all3 (by decide) (place_ne (by rw [c4]; exact h1)) ?_
 unfold lockT
 rw [hve]
 split
 ·rename_i h; exact g3 (hfe h)
 ·exact g2
/-! ### All lines -/
theorem one_has {ws : List ByteArray} {x : Slot} (h : oneR ws = some x) : Has x := by
 unfold oneR at h
 split at h
 ·split at h
  ·cases h
   exact ⟨by decide, by decide, by decide, by decide, by decide +kernel⟩
  ·cases h
 ·split at h
  ·obtain ⟨m, hm, rfl⟩ := Option.map_eq_some_iff.1 h
   have := immS_le hm
   refine has_of (by decide) (by decide) (by decide) (by decide) this (by decide) ?_
   rw [body_jump (.inl (by simp only; omega))]
   unfold jumpT
   rw [if_neg (by simp [same5]), if_pos (by simp [same5])]
   exact all2 (by decide) (isW_dec _).1
  split at h
  ·obtain ⟨f, hf, rfl⟩ := Option.map_eq_some_iff.1 h
   have := furtherS_le hf
   refine has_of (by decide) (by decide) (by decide) this (by decide) (by decide) ?_
   rw [body_jump (.inl (by simp only; omega))]
   unfold jumpT
   rw [if_pos (by simp [same5])]
   exact all2 (by decide) (far_ne _)
  ·cases h
 ·exact alu_has h
 ·exact turn_has h
 ·split at h
  ·exact jump_has h
  split at h
  ·exact load_has h
  ·exact store_has h
 ·split at h
  ·exact lock_has h
  ·cases h
 ·split at h
  ·exact lock_has h
  ·cases h
 ·cases h
theorem u8_digit {b : UInt8} (h0 : 48 ≤ b.toNat) (h1 : b.toNat ≤ 57) : UInt8.ofNat (48 + (b.toNat - 48)) = b := by
 apply UInt8.toNat_inj.1
 rw [digit_nat (by omega)]
 omega
theorem dig_more (most : Nat) : ∀ (l : List UInt8) (m n : Nat), 0 < m → digL most m false l = some n → Lib.decDigits n = Lib.decDigits m ++ l
 | [], m, n, h0, h => by
  rw [digL] at h
  cases h
  rw [List.append_nil]
 | b :: r, m, n, h0, h => by
  rw [digL] at h
  split at h
  ·cases h
  ·rename_i hc
   have e := dig_more most r (m * 10 + (b.toNat - 48)) n (by omega) h
   rw [e]
   have hx : Lib.decDigits (m * 10 + (b.toNat - 48)) = Lib.decDigits m ++ [b] := by
    conv => lhs; rw [Lib.decDigits]
    rw [dif_neg (by omega)]
    rw [show (m * 10 + (b.toNat - 48)) / 10 = m by omega, show (m * 10 + (b.toNat - 48)) % 10 = b.toNat - 48 by omega, u8_digit (by omega) (by omega)]
   rw [hx, List.append_assoc]
   rfl
theorem dig_canon {most n : Nat} {l : List UInt8} (hl : l ≠ []) (h : digL most 0 true l = some n) : l = Lib.decDigits n := by
 rcases l with _ | ⟨b, r⟩
 ·exact absurd rfl hl
 rw [digL] at h
 split at h
 ·cases h
 ·rename_i hc
  have hd : Lib.decDigits (b.toNat - 48) = [b] := by
   rw [Lib.decDigits, dif_pos (by omega), u8_digit (by omega) (by omega)]
  rw [show 0 * 10 + (b.toNat - 48) = b.toNat - 48 by omega] at h
  by_cases hz : b.toNat - 48 = 0
  ·rcases r with _ | ⟨c, r⟩
   ·rw [digL] at h
    cases h
    exact hd.symm
   ·rw [digL, if_pos (by simp [hz])] at h
    cases h
  ·rw [dig_more most r _ n (by omega) h, hd]
   rfl
theorem digN_canon {most n : Nat} {s : ByteArray} (h : digN most s = some n) : s = bstr (Lib.decDigits n) := by
 unfold digN at h
 split at h
 ·cases h
 ·rename_i hz
  apply ba_ext
  rw [bstr_list]
  exact dig_canon (fun e => hz (by rw [Lib.size_eq, e]; rfl)) h
theorem begins_split {s p : ByteArray} (h : begins s p = true) : s = p ++ behind s p := by
 unfold behind
 rw [if_pos h]
 unfold begins beginsB at h
 simp only [Bool.and_eq_true, decide_eq_true_eq] at h
 apply ba_ext
 rw [app_list, ByteArray.data_extract, Array.toList_extract]
 have h2 := List.take_append_drop p.data.toList.length s.data.toList
 rw [h.2] at h2
 conv => lhs; rw [← h2]
 congr 1
 show _ = (s.data.toList.drop p.size).take (s.size - p.size)
 rw [List.take_of_length_le]
 ·rw [Lib.size_eq]
 ·rw [List.length_drop, Lib.size_eq, Lib.size_eq]
  exact Nat.le_refl _
theorem ends_split {s p : ByteArray} (h : ends s p = true) : s = ahead s p ++ p := by
 unfold ahead
 rw [if_pos h]
 unfold ends at h
 simp only [Bool.and_eq_true, decide_eq_true_eq] at h
 have h2 := sameT_eq h.2
 conv => rhs; rhs; rw [← h2]
 apply ba_ext
 rw [app_list, ByteArray.data_extract, ByteArray.data_extract, Array.toList_extract, Array.toList_extract]
 show _ = (s.data.toList.drop 0).take (s.size - p.size - 0) ++ (s.data.toList.drop (s.size - p.size)).take (s.size - (s.size - p.size))
 rw [List.drop_zero, Nat.sub_zero]
 rw [List.take_of_length_le (l := s.data.toList.drop _)]
 ·exact (List.take_append_drop _ _).symm
 ·rw [List.length_drop, ← Lib.size_eq]; exact Nat.le_refl _
theorem regS_canon {s p : ByteArray} {d : Nat} (h : regS s p = some d) : s = regT p d ∧ d ≤ 10 := by
 have h10 := regS_le h
 unfold regS at h
 split at h
 ·rename_i hb
  refine ⟨?_, h10⟩
  unfold regT
  rw [dec_nat, ← digN_canon h]
  exact begins_split hb
 ·cases h
theorem signS_canon {below : Bool} {s : ByteArray} {bits : Nat} {v : Int} (h : signS below s bits = some v) : ∃ k : Nat, s = bstr (Lib.decDigits k) ∧ (below = true → 0 < k ∧ v = -(k : Int)) ∧ (below = false → v = (k : Int)) := by
 unfold signS at h
 obtain ⟨n, hn, h⟩ := Option.bind_eq_some_iff.1 h
 refine ⟨n, digN_canon hn, ?_⟩
 cases below
 ·simp at h
  exact ⟨fun e => (by cases e), fun _ => h.symm⟩
 ·simp at h
  exact ⟨fun _ => ⟨by omega, h.2.symm⟩, fun e => by cases e⟩
theorem immS_canon {s : ByteArray} {m : Int} (h : immS s = some m) : s = dec m := by
 unfold immS at h
 obtain ⟨k, hk, h1, h2⟩ := signS_canon h
 rcases hb : begins s minusT with _ | _
 ·rw [h2 hb, dec_nat, ← hk, behind_no hb]
 ·obtain ⟨h3, h4⟩ := h1 hb
  rw [h4, dec_neg k h3, ← hk]
  exact begins_split hb
theorem furtherS_canon {s : ByteArray} {f : Int} (h : furtherS s = some f) : s = farT f := by
 unfold furtherS at h
 unfold farT
 split at h
 ·rename_i hb
  obtain ⟨k, hk, h1, h2⟩ := signS_canon h
  obtain ⟨h3, h4⟩ := h1 rfl
  rw [h4, partsT_neg k h3]
  show s = _ ++ _
  rw [← hk]
  exact begins_split hb
 ·split at h
  ·rename_i hb
   obtain ⟨k, hk, h1, h2⟩ := signS_canon h
   rw [h2 rfl, partsT_pos]
   show s = _ ++ _
   rw [← hk]
   exact begins_split hb
  ·cases h
/-- The two sides of a place's offset. -/
theorem parts_canon {p2 s : ByteArray} {f : Int} (hp : (sameT p2 plusW || sameT p2 minusW) = true) (h : signS (sameT p2 minusW) s 16 = some f) : p2 = (partsT f).1 ∧ s = (partsT f).2 := by
 obtain ⟨k, hk, h1, h2⟩ := signS_canon h
 rcases hm : sameT p2 minusW with _ | _
 ·rw [hm, Bool.or_false] at hp
  rw [h2 hm, partsT_pos]
  exact ⟨sameT_eq hp, hk⟩
 ·obtain ⟨h3, h4⟩ := h1 hm
  rw [h4, partsT_neg k h3]
  exact ⟨sameT_eq hm, hk⟩
theorem moveR_canon {p0 : ByteArray} {md sz : Int} : ∀ {l : List (ByteArray × Int × Int)}, moveR p0 l = some (md, sz) → ∃ nm, (nm, md, sz) ∈ l ∧ p0 = starT ++ nm
 | [], h => by cases h
 | (nm, a, b) :: l, h => by
  unfold moveR at h
  split at h
  ·rename_i hs
   cases h
   exact ⟨nm, by simp, sameT_eq hs⟩
  ·obtain ⟨nm', hm, e⟩ := moveR_canon h
   exact ⟨nm', List.mem_cons_of_mem _ hm, e⟩
theorem placeR_canon {p0 p1 p2 p3 : ByteArray} {x : Plc} (h : placeR p0 p1 p2 p3 = some x) : ∃ nm, (nm, x.md, x.sz) ∈ moveL ∧ [p0, p1, p2, p3] = plcW nm x.off x.base := by
 unfold placeR at h
 split at h
 ·rename_i hok
  obtain ⟨b, hb, h⟩ := Option.bind_eq_some_iff.1 h
  obtain ⟨f, hf, h⟩ := Option.bind_eq_some_iff.1 h
  obtain ⟨y, hy, rfl⟩ := Option.map_eq_some_iff.1 h
  obtain ⟨nm, hm, rfl⟩ := moveR_canon hy
  unfold okR at hok
  simp only [Bool.and_eq_true] at hok
  obtain ⟨⟨h1, h2⟩, h3⟩ := hok
  obtain ⟨e1, e2⟩ := parts_canon h3 hf
  refine ⟨nm, hm, ?_⟩
  unfold plcW
  show [_, _, _, _] = [_, openT ++ regT wholeT b, _, _]
  rw [← (regS_canon hb).1, ← begins_split h1, ← e1, ← e2, ← ends_split h2]
 ·cases h
theorem secS_canon {c : ByteArray} {q : Int} (hok : (secS c (letterS q) 0 0).ok = true) : c = secT (secS c (letterS q) 0 0).src (secS c (letterS q) 0 0).imm (secS c (letterS q) 0 0).reg (letterS q) := by
 unfold secS at *
 by_cases hb : begins c (letterS q) = true
 ·rw [if_pos hb] at *
  simp only at hok ⊢
  obtain ⟨n, hn⟩ := Option.isSome_iff_exists.1 hok
  rw [regS_val hn]
  unfold secT
  rw [if_pos rfl, if_pos rfl]
  exact (regS_canon hn).1
 ·rw [if_neg hb] at *
  simp only at hok ⊢
  obtain ⟨n, hn⟩ := Option.isSome_iff_exists.1 hok
  rw [hn]
  unfold secT
  rw [if_neg (by decide), if_pos rfl]
  exact immS_canon hn
end Go.Proofs.YtemiklbkfogjeaaGreatDoor
