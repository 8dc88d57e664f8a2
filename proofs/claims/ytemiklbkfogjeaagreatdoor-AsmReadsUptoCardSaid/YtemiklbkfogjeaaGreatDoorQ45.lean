/-
  The reference's readers on words that package asm prints; its guess on a line's words. The reference's guess on a line's words: the other rows; all of them.
-/
import Derived.Test.YtemiklbkfogjeaaGreatDoorQ24
import Derived.Test.YtemiklbkfogjeaaGreatDoorQ42
import Derived.Test.YtemiklbkfogjeaaGreatDoorQ44
namespace Go.Proofs.YtemiklbkfogjeaaGreatDoor
open Go Go.RowKit Go.Maps
set_option linter.unusedVariables false
set_option linter.unusedSimpArgs false
set_option maxRecDepth 100000
theorem hdS_W (w : ByteArray) : hdS w = hdW w := rfl
theorem tl1_app (c : UInt8) (s : ByteArray) : tl1 ((⟨#[c]⟩ : ByteArray) ++ s) = s := by
 apply ba_ext
 unfold tl1
 rw [extract_list, app_list, ByteArray.size_append]
 show ((([c] : List UInt8) ++ s.data.toList).drop 1).take _ = _
 rw [List.singleton_append, List.drop_succ_cons, List.drop_zero]
 apply List.take_of_length_le
 rw [size_list]
 show s.size ≤ 1 + s.size - 1
 omega
theorem headR_app (p s : ByteArray) : headR (p ++ s) p = s := by
 have := behind_app p s
 unfold behind at this
 unfold headR
 rw [if_pos (begins_app p s)] at *
 exact this
theorem endR_app (s : ByteArray) (c : UInt8) : endR (s ++ ⟨#[c]⟩) = s := by
 apply ba_ext
 unfold endR
 rw [extract_list, app_list, ByteArray.size_append, List.drop_zero]
 show (s.data.toList ++ [c]).take (s.size + 1 - 1 - 0) = _
 rw [show s.size + 1 - 1 - 0 = s.data.toList.length by rw [size_list]; omega]
 exact List.take_left
theorem isT_hd {w : ByteArray} {c : UInt8} {r : List UInt8} (h : hdS w ≠ some c) : isT w (c :: r) = false :=
 decide_eq_false fun e => h (by unfold hdS; rw [e]; rfl)
theorem num_nat (k : Nat) (h : k ≤ 1099511627776) : numR (bstr (Lib.decDigits k)) = some (k : Int) := by
 obtain ⟨c, r, e, h1, h2⟩ := head_dec k
 have hd : hdS (bstr (Lib.decDigits k)) ≠ some 45 := by
  show (Lib.decDigits k).head? ≠ some 45
  rw [e]
  intro he
  have : c = 45 := by simpa using he
  subst this
  revert h1; decide
 unfold numR
 rw [if_neg hd, digN_dec maxU k (by unfold maxU; omega)]
 unfold numV
 rw [Option.bind_some, if_neg (by simp; omega), if_neg (by decide)]
theorem num_dec (m : Int) (h : -1099511627776 ≤ m ∧ m ≤ 1099511627776) : numR (dec m) = some m := by
 rcases int_ways m with ⟨k, rfl, hk0⟩ | ⟨k, rfl⟩
 ·rw [dec_neg k hk0]
  unfold numR
  rw [if_pos (show hdS _ = some 45 from hd_app rfl), tl1_app, digN_dec maxU k (by unfold maxU; omega)]
  unfold numV
  rw [Option.bind_some, if_neg (by simp; omega), if_pos rfl]
 ·rw [dec_nat]
  exact num_nat k (by omega)
theorem reg_dec (c : UInt8) (d : Int) (h : 0 ≤ d ∧ d ≤ 10) : regR (regT ⟨#[c]⟩ d) c = d := by
 unfold regR
 have hs : 2 ≤ (regT ⟨#[c]⟩ d).size := by
  unfold regT
  rw [ByteArray.size_append]
  have := ne_dec d
  show 2 ≤ 1 + _
  omega
 rw [if_pos ⟨hs, hd_reg c d⟩]
 unfold regT
 rw [tl1_app, num_dec d (by omega)]
 rfl
theorem reg_no {w : ByteArray} {c : UInt8} (h : hdS w ≠ some c) : regR w c = -1 := by
 unfold regR
 rw [if_neg (fun e => h e.2)]
theorem hd_dec_ne (m : Int) (c : UInt8) (hc : c = 114 ∨ c = 119 ∨ c = 40) : hdS (dec m) ≠ some c := by
 obtain ⟨x, hx, h⟩ := hd_dec m
 rw [hdS_W, hx]
 intro e
 have : x = c := by simpa using e
 subst this
 rcases hc with rfl | rfl | rfl <;> (rcases h with h | h <;> revert h <;> decide)
theorem sec_true {s m : Int} {p : ByteArray} (hm : m = 0) : secT s m true p = regT p s := by unfold secT; rw [if_pos rfl, if_pos hm]
theorem sec_false {s m : Int} {p : ByteArray} (hs : s = 0) : secT s m false p = dec m := by unfold secT; rw [if_neg (by decide), if_pos hs]
theorem opd_sec {reg : Bool} {s m : Int} (h : SecOk reg s m) (c : UInt8) (hc : c = 114 ∨ c = 119) : opdR (secT s m reg ⟨#[c]⟩) c = (s, m, reg) := by
 unfold opdR
 rcases h with ⟨rfl, rfl, h⟩ | ⟨rfl, rfl, h⟩
 ·rw [sec_true rfl, reg_dec c s h, if_pos h.1]
 ·rw [sec_false rfl, reg_no (hd_dec_ne m c (by rcases hc with h | h <;> simp [h])), if_neg (by decide), num_dec m (by omega)]
  rfl
theorem off_far (f : Int) (h : -32768 ≤ f ∧ f ≤ 32767) : offR (farT f) = f := by
 unfold offR farT
 rcases int_ways f with ⟨k, rfl, hk0⟩ | ⟨k, rfl⟩
 ·rw [partsT_neg k hk0]
  simp only
  rw [if_neg, ← dec_neg k hk0, num_dec _ (by omega)]
  ·rfl
  ·rw [begins_head (x := 45) (r := Lib.decDigits k) (by rw [app_list]; rfl)]
   decide
 ·rw [partsT_pos]
  simp only
  rw [if_pos (begins_app _ _), headR_app, num_nat k (by omega)]
  rfl
theorem move_at : ∀ x ∈ moveL, ¬ (starT ++ x.1).size < 4 ∧ sizesR ((starT ++ x.1).extract 3 (starT ++ x.1).size) = x.2.2 ∧ sgnR (starT ++ x.1) = decide (x.2.1 = 128) := by decide +kernel
theorem at_plc {nm : ByteArray} {md sz : Int} (hm : (nm, md, sz) ∈ moveL) (f b : Int) (hb : 0 ≤ b ∧ b ≤ 10) (hf : -32768 ≤ f ∧ f ≤ 32767) (r : List ByteArray) : atR (plcW nm f b ++ r) = ⟨sz, decide (md = 128), b, f⟩ := by
 obtain ⟨h1, h2, h3⟩ := move_at _ hm
 simp only at h1 h2 h3
 unfold plcW
 show (if (starT ++ nm).size < 4 then _ else _) = _
 rw [if_neg h1, h2, h3]
 have e1 : regR (headR ((⟨#[42, 41, 40]⟩ : ByteArray) ++ regT ⟨#[114]⟩ b) stT) 114 = b := by
  rw [headR_app, reg_dec 114 b hb]
 have e2 : (if isT (partsT f).1 [45] = true then -numD (endR ((partsT f).2 ++ ⟨#[41]⟩)) else numD (endR ((partsT f).2 ++ ⟨#[41]⟩))) = f := by
  rw [endR_app]
  unfold numD
  rcases int_ways f with ⟨k, rfl, hk0⟩ | ⟨k, rfl⟩
  ·rw [partsT_neg k hk0]
   simp only
   rw [if_pos (by decide), num_nat k (by omega)]
   rfl
  ·rw [partsT_pos]
   simp only
   rw [if_neg (by decide), num_nat k (by omega)]
   rfl
 rw [e1, e2]
theorem sides_eq (w0 w1 w2 : ByteArray) (r : List ByteArray) (lead : UInt8) (cl : Int) : sidesG (w0 :: w1 :: w2 :: r) lead cl =
  if begins w2 minT = true ∧ r.length = 0 ∧ regR (headR w2 minT) lead = regR w0 lead then ⟨128 + cl, regR w0 lead, 0, 0, 0⟩
  else if r.length = 1 ∧ 0 ≤ findR w2 endsNames 0 then ⟨endOp (findR w2 endsNames 0), regR w0 lead, 0, 0, endBits (findR w2 endsNames 0)⟩
  else if r.length = 3 then ⟨(if (atR (w2 :: r)).sign = true then 129 else 97) + (atR (w2 :: r)).size, regR w0 lead, (atR (w2 :: r)).reg, (atR (w2 :: r)).off, 0⟩
  else tailG w0 w2 lead cl := rfl
theorem other_ww (w0 w1 w2 : ByteArray) (r : List ByteArray) : otherG (w0 :: w1 :: w2 :: r) =
  if isT w1 [61] = true then [sidesG (w0 :: w1 :: w2 :: r) (leadR w0) (aluClass w0)]
  else if 0 ≤ findR w1 operNames 0 then [operG04 w0 w2 (findR w1 operNames 0) 0]
  else if begins w1 sT = true ∧ 0 ≤ findR (headR w1 sT) divNames 0 then [operG04 w0 w2 (findR (headR w1 sT) divNames 0) 1]
  else [zeroS] := rfl
/-! ### guess, row by row -/
theorem join_blank (a b : ByteArray) (r : List ByteArray) : (32 : UInt8) ∈ (joinT (a :: b :: r)).data.toList := by
 rw [joinT_list, List.map_cons, List.map_cons, join_two]
 simp
theorem no_exit (a b : ByteArray) (r : List ByteArray) : isT (joinT (a :: b :: r)) [101, 120, 105, 116] = false := by
 refine decide_eq_false fun e => ?_
 have := join_blank a b r
 rw [e] at this
 revert this; decide
/-- What guess does where the first word is a register's. -/
theorem guess_reg {a b c : ByteArray} {r : List ByteArray} (ha : hdS a = some 114 ∨ hdS a = some 119) (hl : ∀ w ∈ r.getLast?, hdS w ≠ some 108) : guessG (joinT (a :: b :: c :: r)) (a :: b :: c :: r) = otherG (a :: b :: c :: r) := by
 have hne : ∀ x : UInt8, x ≠ 114 → x ≠ 119 → hdS a ≠ some x := fun x h1 h2 e => by
  rcases ha with h | h <;> rw [h] at e <;> cases e
  ·exact h1 rfl
  ·exact h2 rfl
 have h0 : a.size ≠ 0 := by rcases ha with h | h <;> exact hd_none h
 unfold guessG
 rw [no_exit, if_neg (by decide)]
 rw [if_neg (fun h => by have := h.1; simp at this), if_neg (fun h => by have := h.1; simp at this)]
 have w0 : wordAt (a :: b :: c :: r) 0 = a := rfl
 rw [w0]
 rw [isT_hd (hne 105 (by decide) (by decide)), if_neg (by decide)]
 rw [isT_hd (hne 108 (by decide) (by decide)), if_neg (by decide)]
 rw [if_neg (hne 42 (by decide) (by decide))]
 rw [if_neg, if_neg, if_neg]
 ·rintro (h | h)
  ·simp at h; omega
  ·exact h0 h
 ·rintro ⟨h1, h2⟩
  rcases r with _ | ⟨x, _ | ⟨y, _ | ⟨z, r⟩⟩⟩ <;> simp at h1
  have := hl y (by simp)
  have e := isT_hd (r := [108]) this
  exact absurd h2 (by show ¬ isT y [108, 108] = true; rw [e]; decide)
 ·rintro ⟨h1, h2⟩
  rcases r with _ | ⟨x, _ | ⟨y, r⟩⟩ <;> simp at h1
  have := hl x (by simp)
  have e := isT_hd (r := [108]) this
  exact absurd h2 (by show ¬ isT x [108, 108] = true; rw [e]; decide)
theorem letter_of {q : Int} (h : q = 4 ∨ q = 7) : ∃ c : UInt8, letterS q = ⟨#[c]⟩ ∧ (c = 114 ∨ c = 119) ∧ (∀ d, hdS (regT ⟨#[c]⟩ d) = some c ∧ leadR (regT ⟨#[c]⟩ d) = c ∧ aluClass (regT ⟨#[c]⟩ d) = q) := by
 rcases h with rfl | rfl
 ·refine ⟨119, rfl, .inr rfl, fun d => ?_⟩
  have h := hd_reg 119 d
  refine ⟨h, ?_, ?_⟩
  ·unfold leadR; rw [hdS_W, h]; rfl
  ·unfold aluClass; rw [hdS_W, h]; rfl
 ·refine ⟨114, rfl, .inl rfl, fun d => ?_⟩
  have h := hd_reg 114 d
  refine ⟨h, ?_, ?_⟩
  ·unfold leadR; rw [hdS_W, h]; rfl
  ·unfold aluClass; rw [hdS_W, h]; rfl
theorem letter_of2 {q : Int} (h : q = 5 ∨ q = 6) : ∃ c : UInt8, letterS q = ⟨#[c]⟩ ∧ (c = 114 ∨ c = 119) ∧ (∀ d, hdS (regT ⟨#[c]⟩ d) = some c ∧ leadR (regT ⟨#[c]⟩ d) = c ∧ classR (regT ⟨#[c]⟩ d) = q) := by
 rcases h with rfl | rfl
 ·refine ⟨114, rfl, .inl rfl, fun d => ?_⟩
  have h := hd_reg 114 d
  refine ⟨h, ?_, ?_⟩
  ·unfold leadR; rw [hdS_W, h]; rfl
  ·unfold classR; rw [hdS_W, h]; rfl
 ·refine ⟨119, rfl, .inr rfl, fun d => ?_⟩
  have h := hd_reg 119 d
  refine ⟨h, ?_, ?_⟩
  ·unfold leadR; rw [hdS_W, h]; rfl
  ·unfold classR; rw [hdS_W, h]; rfl
theorem eq_isT : isT eqT [61] = true := by decide
theorem other_eq (a c : ByteArray) (r : List ByteArray) : otherG (a :: eqT :: c :: r) = [sidesG (a :: eqT :: c :: r) (leadR a) (aluClass a)] := by
 rw [other_ww, if_pos eq_isT]
theorem oper_guess : ∀ x ∈ operL, (x.1 = eqT ∧ x.2.1 = 176 ∧ x.2.2 = 0) ∨ (isT x.1 [61] = false ∧ 0 ≤ findR x.1 operNames 0 ∧ 16 * findR x.1 operNames 0 = x.2.1 ∧ x.2.2 = 0) ∨ (isT x.1 [61] = false ∧ ¬ 0 ≤ findR x.1 operNames 0 ∧ begins x.1 sT = true ∧ 0 ≤ findR (headR x.1 sT) divNames 0 ∧ 16 * findR (headR x.1 sT) divNames 0 = x.2.1 ∧ x.2.2 = 1) := by decide +kernel
theorem oper_op : ∀ x ∈ operL, ∀ q ∈ [(4 : Int), 7], ∀ reg : Bool, opOf reg (bits .or .i64 q x.2.1) = if reg = true then x.2.1 + q + 8 else x.2.1 + q := by decide +kernel
theorem test_guess : ∀ x ∈ testL, ¬ findR x.1 testNames 0 < 0 ∧ 16 * findR x.1 testNames 0 = x.2 := by decide +kernel
theorem test_op : ∀ x ∈ testL, ∀ q ∈ [(5 : Int), 6], ∀ reg : Bool, opOf reg (bits .or .i64 q x.2) = x.2 + q + (if reg = true then 8 else 0) := by decide +kernel
theorem move_op : ∀ x ∈ moveL, bits .or .i64 (bits .or .i64 x.2.1 x.2.2) 1 = (if decide (x.2.1 = 128) = true then 129 else 97) + x.2.2 := by decide +kernel
theorem store_op : ∀ x ∈ moveL, x.2.1 = 96 → bits .or .i64 (bits .or .i64 96 x.2.2) 3 = 99 + x.2.2 ∧ bits .or .i64 (bits .or .i64 96 x.2.2) 2 = 98 + x.2.2 ∧ bits .or .i64 (bits .or .i64 192 x.2.2) 3 = 195 + x.2.2 := by decide +kernel
theorem lock_guess : ∀ x ∈ lockL, ¬ findR x.1 lockNames 0 < 0 ∧ lockNum (findR x.1 lockNames 0) = x.2.1 := by decide +kernel
theorem turn_guess : ∀ x ∈ turnL, ∀ n ∈ [(16 : Int), 32, 64], begins (x.1 ++ dec n) minT = false ∧ 0 ≤ findR (x.1 ++ dec n) endsNames 0 ∧ endOp (findR (x.1 ++ dec n) endsNames 0) = x.2 ∧ endBits (findR (x.1 ++ dec n) endsNames 0) = n := by decide +kernel
theorem begins_hd {w : ByteArray} {c : UInt8} (h : hdS w ≠ some c) : begins w ⟨#[c]⟩ = false := by
 rw [begins_one]
 exact decide_eq_false h
theorem begins_hd2 {w p : ByteArray} {c : UInt8} (hp : hdS p = some c) (h : hdS w ≠ some c) : begins w p = false := by
 rcases hb : begins w p with _ | _
 ·rfl
 ·exact absurd (by rw [begins_split hb]; exact hd_app hp) h
theorem last_none {l : List ByteArray} (h : ∀ w ∈ l, hdS w ≠ some 108) : ∀ w ∈ l.getLast?, hdS w ≠ some 108 := fun w hw => h w (List.mem_of_getLast? hw)
theorem guess_minus (q d : Int) (hq : q = 4 ∨ q = 7) (hd : 0 ≤ d ∧ d ≤ 10) : guessG (joinT [regT (letterS q) d, eqT, minusW ++ regT (letterS q) d]) [regT (letterS q) d, eqT, minusW ++ regT (letterS q) d] = [⟨bits .or .i64 q 128, d, 0, 0, 0⟩] := by
 obtain ⟨c, e, hc, hf⟩ := letter_of hq
 obtain ⟨h1, h2, h3⟩ := hf d
 rw [e, guess_reg (by rcases hc with rfl | rfl <;> simp [h1]) (by simp), other_eq, h2, h3]
 rw [sides_eq, if_pos ⟨begins_app _ _, rfl, by rw [headR_app]⟩, reg_dec c d hd]
 rcases hq with rfl | rfl <;> rfl
theorem sign_hd (n : Int) (R : ByteArray) : hdS (signT n ++ R) = some 40 := hd_app (hd_app (hd_app rfl))
theorem guess_ext (q d r n : Int) (hq : q = 4 ∨ q = 7) (hd : 0 ≤ d ∧ d ≤ 10) (hr : 0 ≤ r ∧ r ≤ 10) (hn : n = 8 ∨ n = 16 ∨ n = 32) : guessG (joinT [regT (letterS q) d, eqT, signT n ++ regT (letterS q) r]) [regT (letterS q) d, eqT, signT n ++ regT (letterS q) r] = [⟨bits .or .i64 q 184, d, r, n, 0⟩] := by
 obtain ⟨c, e, hc, hf⟩ := letter_of hq
 obtain ⟨h1, h2, h3⟩ := hf d
 rw [e, guess_reg (by rcases hc with rfl | rfl <;> simp [h1]) (by simp), other_eq, h2, h3]
 rw [sides_eq]
 have hb : begins (signT n ++ regT ⟨#[c]⟩ r) minT = false := begins_hd (by rw [sign_hd]; decide)
 rw [if_neg (by rw [hb]; simp), if_neg (fun h => by have := h.1; simp at this), if_neg (by simp)]
 have ho : (184 : Int) + q = bits .or .i64 q 184 := by rcases hq with rfl | rfl <;> rfl
 unfold tailG
 rw [ho, reg_dec c d hd]
 rcases hn with rfl | rfl | rfl
 ·rw [signT8]
  rw [if_pos (begins_app _ _), headR_app, reg_dec c r hr]
 ·rw [signT16, if_neg (by rw [begins_ne (by decide) (by decide)]; decide), if_pos (begins_app _ _), headR_app, reg_dec c r hr]
 ·rw [signT32, if_neg (by rw [begins_ne (by decide) (by decide)]; decide), if_neg (by rw [begins_ne (by decide) (by decide)]; decide), if_pos (begins_app _ _), headR_app, reg_dec c r hr]
theorem sec_hd {reg : Bool} {s m : Int} (h : SecOk reg s m) (c : UInt8) : hdS (secT s m reg ⟨#[c]⟩) = some c ∨ secT s m reg ⟨#[c]⟩ = dec m ∧ reg = false := by
 rcases h with ⟨rfl, rfl, h⟩ | ⟨rfl, rfl, h⟩
 ·rw [sec_true rfl]; exact .inl (hd_reg c s)
 ·exact .inr ⟨sec_false rfl, rfl⟩
theorem guess_oper (q d : Int) (nm : ByteArray) (k x : Int) (reg : Bool) (s m : Int) (hq : q = 4 ∨ q = 7) (hd : 0 ≤ d ∧ d ≤ 10) (hn : (nm, k, x) ∈ operL) (hs : SecOk reg s m) : guessG (joinT [regT (letterS q) d, nm, secT s m reg (letterS q)]) [regT (letterS q) d, nm, secT s m reg (letterS q)] = [⟨opOf reg (bits .or .i64 q k), d, s, x, m⟩] := by
 obtain ⟨c, e, hc, hf⟩ := letter_of hq
 obtain ⟨h1, h2, h3⟩ := hf d
 have ho := oper_op _ hn q (by simpa using hq) reg
 simp only at ho
 rw [e, guess_reg (by rcases hc with rfl | rfl <;> simp [h1]) (by simp), ho]
 have hopd := opd_sec hs c hc
 have hsh := sec_hd hs c
 have hG : ∀ k' off : Int, operG04 (regT ⟨#[c]⟩ d) (secT s m reg ⟨#[c]⟩) k' off = ⟨if reg = true then 16 * k' + q + 8 else 16 * k' + q, d, s, off, m⟩ := fun k' off => by
  unfold operG04
  rw [h2, h3, hopd, reg_dec c d hd]
 rcases oper_guess _ hn with ⟨g1, g2, g3⟩ | ⟨g1, g2, g3, g4⟩ | ⟨g1, g2, g3, g4, g5, g6⟩
 ·simp only at g1 g2 g3
  subst g1 g2 g3
  rw [other_eq, h2, h3]
  rw [sides_eq]
  have hc1 : ¬ (begins (secT s m reg ⟨#[c]⟩) minT = true ∧ ([] : List ByteArray).length = 0 ∧ regR (headR (secT s m reg ⟨#[c]⟩) minT) c = regR (regT ⟨#[c]⟩ d) c) := by
   rintro ⟨hb, _, hr⟩
   rw [reg_dec c d hd] at hr
   have hsp := begins_split hb
   rcases hsh with h | ⟨h, _⟩
   ·rw [hsp] at h
    have h45 : hdS (minT ++ behind (secT s m reg ⟨#[c]⟩) minT) = some 45 := hd_app rfl
    rw [h45] at h
    rcases hc with rfl | rfl <;> cases h
   ·rw [h] at hb hr
    rcases int_ways m with ⟨k, rfl, hk0⟩ | ⟨k, rfl⟩
    ·rw [dec_neg k hk0, headR_app] at hr
     have hn45 : hdS (bstr (Lib.decDigits k)) ≠ some c := by
      rw [← dec_nat]
      exact hd_dec_ne _ c (by rcases hc with h | h <;> simp [h])
     rw [reg_no hn45] at hr
     omega
    ·rw [dec_nat, dec_begins k 45 (by decide)] at hb
     cases hb
  rw [if_neg hc1, if_neg (fun h => by have := h.1; simp at this), if_neg (by simp)]
  have h40 : ∀ p : ByteArray, hdS p = some 40 → begins (secT s m reg ⟨#[c]⟩) p = false := fun p hp => begins_hd2 hp (by
   rcases hsh with h | ⟨h, _⟩
   ·rw [h]
    rcases hc with rfl | rfl <;> decide
   ·rw [h]; exact hd_dec_ne m 40 (by simp))
  unfold tailG
  rw [h40 ext8 rfl, h40 ext16 rfl, h40 ext32 rfl, if_neg (by decide), if_neg (by decide), if_neg (by decide), hopd, reg_dec c d hd]
 ·simp only at g1 g2 g3 g4
  subst g4
  rw [other_ww, g1, if_neg (by decide), if_pos g2, hG, g3]
 ·simp only at g1 g2 g3 g4 g5 g6
  subst g6
  rw [other_ww, g1, if_neg (by decide), if_neg g2, if_pos ⟨g3, g4⟩, hG, g5]
theorem guess_turn (d : Int) (nm : ByteArray) (op n : Int) (hd : 0 ≤ d ∧ d ≤ 10) (hm : (nm, op) ∈ turnL) (hn : n = 16 ∨ n = 32 ∨ n = 64) : guessG (joinT [regT wholeT d, eqT, nm ++ dec n, regT wholeT d]) [regT wholeT d, eqT, nm ++ dec n, regT wholeT d] = [⟨op, d, 0, 0, n⟩] := by
 have h1 : hdS (regT wholeT d) = some 114 := hd_reg 114 d
 have h2 : leadR (regT wholeT d) = 114 := by unfold leadR; rw [h1]; rfl
 obtain ⟨g1, g2, g3, g4⟩ := turn_guess _ hm n (by simpa using hn)
 simp only at g1 g2 g3 g4
 rw [guess_reg (.inl h1) (last_none (by intro w hw; rw [List.mem_singleton.1 hw, h1]; decide)), other_eq, h2]
 rw [sides_eq, if_neg (by rw [g1]; simp), if_pos ⟨rfl, g2⟩, g3, g4, show regR (regT wholeT d) 114 = d from reg_dec 114 d hd]
theorem guess_load (d : Int) (nm : ByteArray) (md sz f b : Int) (hd : 0 ≤ d ∧ d ≤ 10) (hn : (nm, md, sz) ∈ moveL) (hb : 0 ≤ b ∧ b ≤ 10) (hf : -32768 ≤ f ∧ f ≤ 32767) : guessG (joinT (regT wholeT d :: eqT :: plcW nm f b)) (regT wholeT d :: eqT :: plcW nm f b) = [⟨bits .or .i64 (bits .or .i64 md sz) 1, d, b, f, 0⟩] := by
 have h1 : hdS (regT wholeT d) = some 114 := hd_reg 114 d
 have h2 : leadR (regT wholeT d) = 114 := by unfold leadR; rw [h1]; rfl
 have hp := at_plc hn f b hb hf []
 rw [List.append_nil] at hp
 have hlast : ∀ w ∈ [(⟨#[42, 41, 40]⟩ : ByteArray) ++ regT ⟨#[114]⟩ b, (partsT f).1, (partsT f).2 ++ ⟨#[41]⟩].getLast?, hdS w ≠ some 108 := fun w hw => by
  have : w = (partsT f).2 ++ ⟨#[41]⟩ := by simpa using hw.symm
  subst this
  exact hd_close f
 have hg := guess_reg (a := regT wholeT d) (b := eqT) (c := (⟨#[42, 40]⟩ : ByteArray) ++ nm) (.inl h1) hlast
 show guessG (joinT (regT wholeT d :: eqT :: (⟨#[42, 40]⟩ ++ nm) :: _)) (regT wholeT d :: eqT :: (⟨#[42, 40]⟩ ++ nm) :: _) = _
 rw [hg, other_eq, h2]
 rw [sides_eq, if_neg (fun h => by have := h.2.1; simp at this), if_neg (fun h => by have := h.1; simp at this)]
 refine (congrArg (fun z => [z]) (if_pos rfl)).trans ?_
 have e := move_op _ hn
 simp only at e
 rw [e]
 show [(⟨(if (atR (plcW nm f b)).sign = true then 129 else 97) + (atR (plcW nm f b)).size, regR (regT wholeT d) 114, (atR (plcW nm f b)).reg, (atR (plcW nm f b)).off, 0⟩ : Slot)] = _
 rw [hp, show regR (regT wholeT d) 114 = d from reg_dec 114 d hd]
theorem test_eq (w0 a m c g e : ByteArray) : testG' [w0, a, m, c, g, e] = if a.size = 0 then zeroS else if findR m testNames 0 < 0 then zeroS
  else ⟨16 * findR m testNames 0 + classR a + (if (opdR c (leadR a)).2.2 = true then 8 else 0), regR a (leadR a), (opdR c (leadR a)).1, offR e, (opdR c (leadR a)).2.1⟩ := rfl
theorem store_eq (a b c d e f : ByteArray) : storeG [a, b, c, d, e, f] = if (opdR f 114).2.2 = true then ⟨99 + (atR [a, b, c, d, e, f]).size, (atR [a, b, c, d, e, f]).reg, (opdR f 114).1, (atR [a, b, c, d, e, f]).off, 0⟩ else ⟨98 + (atR [a, b, c, d, e, f]).size, (atR [a, b, c, d, e, f]).reg, 0, (atR [a, b, c, d, e, f]).off, (opdR f 114).2.1⟩ := rfl
theorem locked_eq (w p0 p1 p2 p3 k s : ByteArray) (r : List ByteArray) : lockedG (w :: p0 :: p1 :: p2 :: p3 :: k :: s :: r) = if findR k lockNames 0 < 0 then zeroS
  else ⟨195 + (atR (p0 :: p1 :: p2 :: p3 :: k :: s :: r)).size, (atR (p0 :: p1 :: p2 :: p3 :: k :: s :: r)).reg, regR s 114, (atR (p0 :: p1 :: p2 :: p3 :: k :: s :: r)).off, if (w :: p0 :: p1 :: p2 :: p3 :: k :: s :: r).length = 8 then lockNum (findR k lockNames 0) + 1 else lockNum (findR k lockNames 0)⟩ := rfl
theorem guess_jump (q d : Int) (nm : ByteArray) (k : Int) (reg : Bool) (s m f : Int) (hq : q = 5 ∨ q = 6) (hd : 0 ≤ d ∧ d ≤ 10) (hn : (nm, k) ∈ testL) (hs : SecOk reg s m) (hf : -32768 ≤ f ∧ f ≤ 32767) : guessG (joinT [ifT, regT (letterS q) d, nm, secT s m reg (letterS q), gotoT, farT f]) [ifT, regT (letterS q) d, nm, secT s m reg (letterS q), gotoT, farT f] = [⟨opOf reg (bits .or .i64 q k), d, s, f, m⟩] := by
 obtain ⟨c, e, hc, hfl⟩ := letter_of2 hq
 obtain ⟨h1, h2, h3⟩ := hfl d
 obtain ⟨g1, g2⟩ := test_guess _ hn
 have ho := test_op _ hn q (by simpa using hq) reg
 simp only at ho g1 g2
 rw [e]
 have hz : (regT ⟨#[c]⟩ d).size ≠ 0 := ne_reg d
 unfold guessG
 rw [no_exit, if_neg (by decide), if_neg (fun h => by have := h.1; simp at this), if_neg (fun h => by have := h.1; simp at this), if_pos (show isT (wordAt (ifT :: _) 0) [105, 102] = true from by show isT ifT [105, 102] = true; decide)]
 rw [test_eq, if_neg hz, if_neg g1, h2, h3, opd_sec hs c hc, reg_dec c d hd, off_far f hf, ho, g2]
theorem plc_hd (nm : ByteArray) : hdS ((⟨#[42, 40]⟩ : ByteArray) ++ nm) = some 42 := hd_app rfl
theorem guess_store (nm : ByteArray) (sz f b : Int) (reg : Bool) (s m : Int) (hn : (nm, (96 : Int), sz) ∈ moveL) (hb : 0 ≤ b ∧ b ≤ 10) (hf : -32768 ≤ f ∧ f ≤ 32767) (hs : SecOk reg s m) : guessG (joinT (plcW nm f b ++ [eqT, secT s m reg wholeT])) (plcW nm f b ++ [eqT, secT s m reg wholeT]) = [⟨if reg = true then bits .or .i64 (bits .or .i64 96 sz) 3 else bits .or .i64 (bits .or .i64 96 sz) 2, b, s, f, m⟩] := by
 have hp := at_plc hn f b hb hf [eqT, secT s m reg wholeT]
 obtain ⟨e3, e2, _⟩ := store_op _ hn rfl
 simp only at e2 e3
 have hopd : opdR (secT s m reg wholeT) 114 = (s, m, reg) := opd_sec hs 114 (.inl rfl)
 have hG : storeG (plcW nm f b ++ [eqT, secT s m reg wholeT]) = ⟨if reg = true then bits .or .i64 (bits .or .i64 96 sz) 3 else bits .or .i64 (bits .or .i64 96 sz) 2, b, s, f, m⟩ := by
  unfold plcW at hp ⊢
  simp only [List.cons_append, List.nil_append] at hp
  refine (store_eq _ _ _ _ _ _).trans ?_
  rw [hopd, e2, e3, hp]
  rcases hs with ⟨rfl, rfl, _⟩ | ⟨rfl, rfl, _⟩ <;> rfl
 have hw : ∀ r : List UInt8, ∀ x : UInt8, x ≠ 42 → isT (wordAt (plcW nm f b ++ [eqT, secT s m reg wholeT]) 0) (x :: r) = false := fun r x hx => isT_hd (by
  show hdS ((⟨#[42, 40]⟩ : ByteArray) ++ nm) ≠ some x
  rw [plc_hd]; intro e; exact hx (Option.some.inj e).symm)
 unfold guessG
 rw [show isT (joinT (plcW nm f b ++ [eqT, secT s m reg wholeT])) [101, 120, 105, 116] = false from no_exit _ _ _, if_neg (by decide), if_neg (fun h => by have := h.1; simp [plcW] at this), if_neg (fun h => by have := h.1; simp [plcW] at this), hw _ 105 (by decide), if_neg (by decide), hw _ 108 (by decide), if_neg (by decide), if_pos (show hdS (wordAt (plcW nm f b ++ [eqT, secT s m reg wholeT]) 0) = some 42 from plc_hd nm), hG]
theorem guess_locks (nm : ByteArray) (sz f b : Int) (k : ByteArray) (i : Int) (fo : Bool) (s : Int) (r : List ByteArray) (hn : (nm, (96 : Int), sz) ∈ moveL) (hb : 0 ≤ b ∧ b ≤ 10) (hf : -32768 ≤ f ∧ f ≤ 32767) (hk : (k, i, fo) ∈ lockL) (hs : 0 ≤ s ∧ s ≤ 10) (v : Int) (hv : v = if 7 + r.length = 8 then i + 1 else i) : guessG (joinT (lockW :: (plcW nm f b ++ k :: regT wholeT s :: r))) (lockW :: (plcW nm f b ++ k :: regT wholeT s :: r)) = [⟨bits .or .i64 (bits .or .i64 192 sz) 3, b, s, f, v⟩] := by
 have hp := at_plc hn f b hb hf (k :: regT wholeT s :: r)
 obtain ⟨_, _, e3⟩ := store_op _ hn rfl
 obtain ⟨g1, g2⟩ := lock_guess _ hk
 simp only at e3 g1 g2
 have hG : lockedG (lockW :: (plcW nm f b ++ k :: regT wholeT s :: r)) = ⟨bits .or .i64 (bits .or .i64 192 sz) 3, b, s, f, v⟩ := by
  unfold plcW at hp ⊢
  simp only [List.cons_append, List.nil_append] at hp
  refine (locked_eq _ _ _ _ _ _ _ _).trans ?_
  rw [if_neg g1, g2, e3, hp, show regR (regT wholeT s) 114 = s from reg_dec 114 s hs, hv]
  have e : (lockW :: ((⟨#[42, 40]⟩ : ByteArray) ++ nm) :: ((⟨#[42, 41, 40]⟩ : ByteArray) ++ regT ⟨#[114]⟩ b) :: (partsT f).1 :: ((partsT f).2 ++ ⟨#[41]⟩) :: k :: regT wholeT s :: r).length = 7 + r.length := by simp only [List.length_cons]; omega
  rw [e]
 unfold guessG
 rw [show isT (joinT (lockW :: (plcW nm f b ++ k :: regT wholeT s :: r))) [101, 120, 105, 116] = false from no_exit _ _ _, if_neg (by decide), if_neg (fun h => by have := h.1; simp [plcW] at this), if_neg (fun h => by have := h.1; simp [plcW] at this), if_neg (show ¬ isT (wordAt (lockW :: _) 0) [105, 102] = true from by show ¬ isT lockW [105, 102] = true; decide), if_pos (show isT (wordAt (lockW :: _) 0) [108, 111, 99, 107] = true from by show isT lockW [108, 111, 99, 107] = true; decide), hG]
theorem gs_exit : guessG (joinT [exitT]) [exitT] = [⟨149, 0, 0, 0, 0⟩] := by
 unfold guessG
 rw [if_pos (by decide)]
theorem gs_call (m : Int) (hm : -2147483648 ≤ m ∧ m ≤ 2147483647) : guessG (joinT [callT, dec m]) [callT, dec m] = [⟨133, 0, 0, 0, m⟩] := by
 unfold guessG
 rw [no_exit, if_neg (by decide), if_pos ⟨rfl, show isT callT [99, 97, 108, 108] = true by decide⟩]
 have e : numD (dec m) = m := by unfold numD; rw [num_dec m (by omega)]; rfl
 show [(⟨133, 0, 0, 0, numD (dec m)⟩ : Slot)] = _
 rw [e]
theorem gs_goto (f : Int) (hf : -32768 ≤ f ∧ f ≤ 32767) : guessG (joinT [gotoT, farT f]) [gotoT, farT f] = [⟨5, 0, 0, f, 0⟩] := by
 unfold guessG
 rw [no_exit, if_neg (by decide), if_neg (fun h => absurd h.2 (show ¬ isT gotoT [99, 97, 108, 108] = true by decide)), if_pos ⟨rfl, show isT gotoT [103, 111, 116, 111] = true by decide⟩]
 show [(⟨5, 0, 0, offR (farT f), 0⟩ : Slot)] = _
 rw [off_far f hf]
theorem form_guess {ws : List ByteArray} {x : Slot} (h : Form ws x) : guessG (joinT ws) ws = [x] := by
 cases h with
 | exit => exact gs_exit
 | call m hm => exact gs_call m hm
 | goto f hf => exact gs_goto f hf
 | minus q d hq hd => exact guess_minus q d hq hd
 | ext q d r n hq hd hr hn hx => exact guess_ext q d r n hq hd hr hn
 | oper q d nm k x reg s m hq hd hn hs => exact guess_oper q d nm k x reg s m hq hd hn hs
 | turn d nm op n hd hm hn => exact guess_turn d nm op n hd hm hn
 | jump q d nm k reg s m f hq hd hn hs hf => exact guess_jump q d nm k reg s m f hq hd hn hs hf
 | load d nm md sz f b hd hn hb hf => exact guess_load d nm md sz f b hd hn hb hf
 | store nm sz f b reg s m hn hb hf hs => exact guess_store nm sz f b reg s m hn hb hf hs
 | lock nm sz f b k i fo s hn hl hb hf hk hs => exact guess_locks nm sz f b k i fo s [] hn hb hf hk hs i (by simp)
 | fetch nm sz f b k i s hn hl hb hf hk hs => exact guess_locks nm sz f b k i true s [fetchT] hn hb hf hk hs (i + 1) (by simp)
theorem guess_num (d : Int) (n : Nat) (hd : 0 ≤ d ∧ d ≤ 10) (hn : n ≤ 18446744073709551615) : guessG (joinT [regT wholeT d, eqT, bstr (Lib.decDigits n), llT]) [regT wholeT d, eqT, bstr (Lib.decDigits n), llT] = [⟨24, d, 0, 0, wrap32 (n : Int)⟩, ⟨0, 0, 0, 0, wrap32 ((n : Int) / 4294967296)⟩] := by
 have h1 : hdS (regT wholeT d) = some 114 := hd_reg 114 d
 have hw : ∀ r : List UInt8, ∀ x : UInt8, x ≠ 114 → isT (regT wholeT d) (x :: r) = false := fun r x hx => isT_hd (by
  rw [h1]; intro e; exact hx (Option.some.inj e).symm)
 have e : unumD (bstr (Lib.decDigits n)) = n := by unfold unumD; rw [digN_dec maxU n (by unfold maxU; omega)]; rfl
 unfold guessG
 rw [no_exit, if_neg (by decide), if_neg (fun h => by have := h.1; simp at this), if_neg (fun h => by have := h.1; simp at this),
  if_neg (by rw [show wordAt [regT wholeT d, eqT, bstr (Lib.decDigits n), llT] 0 = regT wholeT d from rfl, hw _ 105 (by decide)]; decide),
  if_neg (by rw [show wordAt [regT wholeT d, eqT, bstr (Lib.decDigits n), llT] 0 = regT wholeT d from rfl, hw _ 108 (by decide)]; decide),
  if_neg (by rw [show wordAt [regT wholeT d, eqT, bstr (Lib.decDigits n), llT] 0 = regT wholeT d from rfl, h1]; decide),
  if_pos ⟨rfl, show isT llT [108, 108] = true by decide⟩]
 show [(⟨24, regR (regT wholeT d) 114, 0, 0, lo32 (unumD (bstr (Lib.decDigits n)))⟩ : Slot), ⟨0, 0, 0, 0, hi32 (unumD (bstr (Lib.decDigits n)))⟩] = _
 have e1 : lo32 n = wrap32 (n : Int) := by unfold lo32 wrap32; omega
 have e2 : hi32 n = wrap32 ((n : Int) / 4294967296) := by unfold hi32 wrap32; omega
 rw [e, show regR (regT wholeT d) 114 = d from reg_dec 114 d hd, e1, e2]
theorem guess_map (d m : Int) (hd : 0 ≤ d ∧ d ≤ 10) (hm : -2147483648 ≤ m ∧ m ≤ 2147483647) : guessG (joinT [regT wholeT d, eqT, mapT, dec m, llT]) [regT wholeT d, eqT, mapT, dec m, llT] = [⟨24, d, 1, 0, m⟩, ⟨0, 0, 0, 0, 0⟩] := by
 have h1 : hdS (regT wholeT d) = some 114 := hd_reg 114 d
 have hw : ∀ r : List UInt8, ∀ x : UInt8, x ≠ 114 → isT (regT wholeT d) (x :: r) = false := fun r x hx => isT_hd (by
  rw [h1]; intro e; exact hx (Option.some.inj e).symm)
 have e : numD (dec m) = m := by unfold numD; rw [num_dec m (by omega)]; rfl
 unfold guessG
 rw [no_exit, if_neg (by decide), if_neg (fun h => by have := h.1; simp at this), if_neg (fun h => by have := h.1; simp at this),
  if_neg (by rw [show wordAt [regT wholeT d, eqT, mapT, dec m, llT] 0 = regT wholeT d from rfl, hw _ 105 (by decide)]; decide),
  if_neg (by rw [show wordAt [regT wholeT d, eqT, mapT, dec m, llT] 0 = regT wholeT d from rfl, hw _ 108 (by decide)]; decide),
  if_neg (by rw [show wordAt [regT wholeT d, eqT, mapT, dec m, llT] 0 = regT wholeT d from rfl, h1]; decide),
  if_neg (fun h => by have := h.1; simp at this),
  if_pos ⟨rfl, show isT llT [108, 108] = true by decide⟩]
 show [(⟨24, regR (regT wholeT d) 114, 1, 0, numD (dec m)⟩ : Slot), ⟨0, 0, 0, 0, 0⟩] = _
 rw [e, show regR (regT wholeT d) 114 = d from reg_dec 114 d hd]
end Go.Proofs.YtemiklbkfogjeaaGreatDoor
