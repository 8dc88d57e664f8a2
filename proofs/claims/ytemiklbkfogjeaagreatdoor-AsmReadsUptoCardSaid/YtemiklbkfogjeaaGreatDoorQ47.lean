/-
  A line is read by package asm as by the reference. The reference's Same of two lists of the same slots. The law AsmReads, walked: of any text package asm and the reference read the same.
-/
import Derived.Test.YtemiklbkfogjeaaGreatDoorQ45
import Derived.Test.YtemiklbkfogjeaaGreatDoorQ46
import Derived.Test.YtemiklbkfogjeaaGreatDoorQ22
import Derived.Test.YtemiklbkfogjeaaGreatDoorQ21
import Derived.Deep.QuietTactic
import Derived.BigQuiet
namespace Go.Proofs.YtemiklbkfogjeaaGreatDoor
open Go Go.RowKit Go.Maps
set_option linter.unusedVariables false
set_option linter.unusedSimpArgs false
set_option maxRecDepth 100000
theorem tx_bl (s : ByteArray) : tx (BL s) = s := by
 apply ba_ext
 show (s.data.toList.toArray).toList = _
 simp
theorem bl_tx (l : List UInt8) : BL (tx l) = l := by simp [tx, BL]
/-- A slot that has a line: the reference has that line. -/
theorem ref_has {x : Slot} (h : Has x) : refT [x] = some (bodyT x emptyT) := by
 obtain ⟨⟨h1, h2, h3, h4, h5⟩, hd, hs, h24, hne⟩ := h
 have e := eq_body h1 ⟨h2.1, hd⟩ ⟨h3.1, hs⟩ h4 h5
 show (if x.o = 24 then none else if Ln.lineL x.o x.d x.s x.f x.m = [] then none else some (tx (Ln.lineL x.o x.d x.s x.f x.m))) = _
 rw [if_neg h24, ← e, if_neg, tx_bl]
 intro h0
 apply hne
 rw [bl_size, h0]
 rfl
theorem has_ref {x : Slot} {t : ByteArray} (h : refT [x] = some t) : Has x ∧ t = bodyT x emptyT := by
 have h' : (if x.o = 24 then none else if Ln.lineL x.o x.d x.s x.f x.m = [] then none else some (tx (Ln.lineL x.o x.d x.s x.f x.m))) = some t := h
 split at h'
 ·cases h'
 rename_i h24
 split at h'
 ·cases h'
 rename_i hl
 obtain ⟨h1, h2, h3, h4, h5⟩ := line_in hl
 have e := eq_body h1 h2 h3 h4 h5
 have hx : x.Ok := ⟨h1, ⟨h2.1, by omega⟩, ⟨h3.1, by omega⟩, h4, h5⟩
 refine ⟨⟨hx, h2.2, h3.2, h24, ?_⟩, ?_⟩
 ·rw [bl_size, e]
  intro h0
  exact hl (List.length_eq_zero_iff.1 h0)
 ·rw [← Option.some.inj h', ← e, tx_bl]
theorem wide_n (n : Nat) (hn : n ≤ 18446744073709551615) : Ln.wideN (wrap32 (n : Int)) (wrap32 ((n : Int) / 4294967296)) = (n : Int) := by
 unfold Ln.wideN wrap32
 omega
theorem w32_in (v : Int) : -2147483648 ≤ wrap32 v ∧ wrap32 v ≤ 2147483647 := by unfold wrap32; omega
theorem join_list4 (a b c d : ByteArray) : (joinT [a, b, c, d]).data.toList = BL a ++ 32 :: (BL b ++ 32 :: (BL c ++ 32 :: BL d)) := by
 rw [joinT_list]
 simp only [List.map_cons, List.map_nil, join_two, Lib.join_one]
theorem join_list5 (a b c d e : ByteArray) : (joinT [a, b, c, d, e]).data.toList = BL a ++ 32 :: (BL b ++ 32 :: (BL c ++ 32 :: (BL d ++ 32 :: BL e))) := by
 rw [joinT_list]
 simp only [List.map_cons, List.map_nil, join_two, Lib.join_one]
theorem bl_wholeT {d : Int} (h : 0 ≤ d ∧ d ≤ 10) : BL (regT wholeT d) = Ln.regL [114] d := bl_reg wholeT h
theorem formW_ref {ws : List ByteArray} {x y : Slot} (h : FormW ws x y) : refT [x, y] = some (joinT ws) := by
 cases h with
 | num d n hd hn =>
  show (if Ln.regIn d = true ∧ Ln.immIn (wrap32 (n : Int)) = true then some (if (0 : Int) = 0 then tx (Ln.regL [114] d) ++ ⟨#[32, 61, 32]⟩ ++ tx (decL (Ln.wideN (wrap32 (n : Int)) (wrap32 ((n : Int) / 4294967296))).toNat) ++ ⟨#[32, 108, 108]⟩ else _) else none) = _
  rw [if_pos ⟨regIn_of hd, immIn_of (w32_in _)⟩, if_pos rfl, wide_n n hn]
  congr 1
  apply ba_ext
  rw [join_list4, bl_wholeT hd]
  simp only [app_list]
  show BL (tx _) ++ [32, 61, 32] ++ BL (tx _) ++ [32, 108, 108] = _ ++ 32 :: ([61] ++ 32 :: (Lib.decDigits n ++ 32 :: [108, 108]))
  rw [bl_tx, bl_tx, Int.toNat_natCast, decL_dec]
  simp
 | map d m hd hm =>
  show (if Ln.regIn d = true ∧ Ln.immIn m = true then some (if (1 : Int) = 0 then _ else tx (Ln.regL [114] d) ++ ⟨#[32, 61, 32, 109, 97, 112, 32]⟩ ++ tx (Ln.digL m) ++ ⟨#[32, 108, 108]⟩) else none) = _
  rw [if_pos ⟨regIn_of hd, immIn_of hm⟩, if_neg (by decide)]
  congr 1
  apply ba_ext
  rw [join_list5, bl_wholeT hd, bl_dec]
  simp only [app_list]
  show BL (tx _) ++ [32, 61, 32, 109, 97, 112, 32] ++ BL (tx _) ++ [32, 108, 108] = _ ++ 32 :: ([61] ++ 32 :: ([109, 97, 112] ++ 32 :: (_ ++ 32 :: [108, 108])))
  rw [bl_tx, bl_tx]
  simp
theorem formW_guess {ws : List ByteArray} {x y : Slot} (h : FormW ws x y) : guessG (joinT ws) ws = [x, y] ∧ (∀ w ∈ ws, isW w) ∧ ws ≠ [] := by
 have hR : ∀ d, isW (regT wholeT d) := fun d => isW_reg (by decide) d
 cases h with
 | num d n hd hn => exact ⟨guess_num d n hd hn, all_words (hR d) (all_words (by decide) (all_words (isW_digits n) (all_words (by decide) no_words))), by simp⟩
 | map d m hd hm => exact ⟨guess_map d m hd hm, all_words (hR d) (all_words (by decide) (all_words (by decide) (all_words (isW_dec m) (all_words (by decide) no_words)))), by simp⟩
/-- What package asm reads of a line, the reference reads. -/
theorem line_ref {p : ByteArray} {X : List Slot} (h : lineR p = some X) : refOne p = some X := by
 by_cases h0 : (trimR p).size = 0
 ·rw [words_empty h0] at h
  rw [refOne_empty h0]
  exact h
 ·unfold lineR at h
  rcases hw : wordsS p with _ | ws
  ·rw [hw] at h; cases h
  obtain ⟨ht, hne⟩ := words_join hw h0
  rw [hw] at h
  have hs : slotsR ws = some X := by
   rcases ws with _ | ⟨a, L⟩
   ·exact absurd rfl hne
   ·exact h
  have fin : (∀ w ∈ ws, isW w) → guessG (joinT ws) ws = X → refT X = some (joinT ws) → refOne p = some X := fun h1 h2 h3 => by
   have hr : wordsR (trimR p) = ws := by rw [ht]; exact wordsR_join hne h1
   have hg : guessG (trimR p) (wordsR (trimR p)) = X := by rw [hr, ht]; exact h2
   rw [refOne_good h0, hg]
   unfold refLine
   rw [hg, h3, ht]
   exact decide_eq_true rfl
  unfold slotsR at hs
  split at hs
  ·rename_i hl
   obtain ⟨q, hq, rfl⟩ := Option.map_eq_some_iff.1 hs
   have hf := wide_form (x := q.1) (y := q.2) hl hq
   obtain ⟨h1, h2, _⟩ := formW_guess hf
   exact fin h2 h1 (formW_ref hf)
  ·obtain ⟨x, hx, rfl⟩ := Option.map_eq_some_iff.1 hs
   have hf := one_form hx
   refine fin (form_words hf).1 (form_guess hf) ?_
   rw [ref_has (one_has hx), form_print hf]
theorem wide_in {x y : Slot} (ht : TwoG x y) {t : ByteArray} (h : refT [x, y] = some t) : Says t [x, y] := by
 obtain ⟨xo, xd, xs, xf, xm⟩ := x
 obtain ⟨yo, yd, ys, yf, ym⟩ := y
 obtain ⟨h1, h2, h3, h4, h5, h6, h7, h8⟩ := ht
 simp only at h1 h2 h3 h4 h5 h6 h7 h8
 subst h1 h2 h3 h4 h5 h6
 have h' : (if Ln.regIn xd = true ∧ Ln.immIn xm = true then some (if xs = 0 then tx (Ln.regL [114] xd) ++ ⟨#[32, 61, 32]⟩ ++ tx (decL (Ln.wideN xm ym).toNat) ++ ⟨#[32, 108, 108]⟩ else tx (Ln.regL [114] xd) ++ ⟨#[32, 61, 32, 109, 97, 112, 32]⟩ ++ tx (Ln.digL xm) ++ ⟨#[32, 108, 108]⟩) else none) = some t := h
 split at h'
 case isFalse => cases h'
 rename_i hc
 have hd := regIn_iff hc.1
 have hm := immIn_iff hc.2
 have hm2 := immIn_iff h7
 have hOx : (⟨24, xd, xs, 0, xm⟩ : Slot).Ok := ⟨by simp only; omega, by simp only; omega, by simp only; omega, by simp only; omega, hm⟩
 have hOy : (⟨0, 0, 0, 0, ym⟩ : Slot).Ok := ⟨by simp only; omega, by simp only; omega, by simp only; omega, by simp only; omega, hm2⟩
 rcases h8 with rfl | ⟨rfl, rfl⟩
 ·have hW : FormW [regT wholeT xd, eqT, bstr (Lib.decDigits (Ln.wideN xm ym).toNat), llT] ⟨24, xd, 0, 0, xm⟩ ⟨0, 0, 0, 0, ym⟩ := by
   have hn : (Ln.wideN xm ym).toNat ≤ 18446744073709551615 := by unfold Ln.wideN; omega
   have e1 : xm = wrap32 (((Ln.wideN xm ym).toNat : Nat) : Int) := by unfold Ln.wideN wrap32; omega
   have e2 : ym = wrap32 ((((Ln.wideN xm ym).toNat : Nat) : Int) / 4294967296) := by unfold Ln.wideN wrap32; omega
   have := FormW.num xd _ hd hn
   rw [← e1, ← e2] at this
   exact this
  have e := formW_ref hW
  rw [h] at e
  have hne : (wideT ⟨24, xd, 0, 0, xm⟩ ⟨0, 0, 0, 0, ym⟩).size ≠ 0 := by
   unfold wideT
   rw [if_pos ⟨rfl, by simp [same5]⟩, if_pos rfl]
   exact all4 (isW_reg (by decide) _).1 (by decide) (isW_digits _).1 (by decide)
  have hb := wide_back hOx hOy rfl hd.2 hne
  have ew : wideT ⟨24, xd, 0, 0, xm⟩ ⟨0, 0, 0, 0, ym⟩ = t := by
   rw [Option.some.inj e]
   unfold wideT
   rw [if_pos ⟨rfl, by simp [same5]⟩, if_pos rfl]
   exact saidT_join (formW_guess hW).2.1
  rw [ew] at hb
  exact hb
 ·have hW : FormW [regT wholeT xd, eqT, mapT, dec xm, llT] ⟨24, xd, 1, 0, xm⟩ ⟨0, 0, 0, 0, 0⟩ := .map xd xm hd hm
  have e := formW_ref hW
  rw [h] at e
  have hne : (wideT ⟨24, xd, 1, 0, xm⟩ ⟨0, 0, 0, 0, 0⟩).size ≠ 0 := by
   unfold wideT
   rw [if_pos ⟨rfl, by simp [same5]⟩, if_neg (by simp only; omega), if_pos ⟨rfl, rfl⟩]
   exact all5 (isW_reg (by decide) _).1 (by decide) (by decide) (isW_dec _).1 (by decide)
  have hb := wide_back hOx hOy rfl hd.2 hne
  have ew : wideT ⟨24, xd, 1, 0, xm⟩ ⟨0, 0, 0, 0, 0⟩ = t := by
   rw [Option.some.inj e]
   unfold wideT
   rw [if_pos ⟨rfl, by simp [same5]⟩, if_neg (by simp only; omega), if_pos ⟨rfl, rfl⟩]
   exact saidT_join (formW_guess hW).2.1
  rw [ew] at hb
  exact hb
/-- What the reference reads of a line, package asm reads. -/
theorem ref_line {p : ByteArray} {X : List Slot} (h : refOne p = some X) : lineR p = some X := by
 by_cases h0 : (trimR p).size = 0
 ·rw [refOne_empty h0] at h
  rw [words_empty h0]
  exact h
 ·unfold refOne at h
  rw [if_neg h0] at h
  split at h
  case isFalse => cases h
  rename_i hl
  unfold refLine at hl
  have hl := of_decide_eq_true hl
  have hX := Option.some.inj h
  rw [hX] at hl
  rw [line_trim]
  rcases guess_shape (trimR p) (wordsR (trimR p)) with ⟨x, e⟩ | ⟨x, y, e, ht⟩
  ·rw [hX] at e
   subst e
   obtain ⟨hx, e2⟩ := has_ref hl
   obtain ⟨h1, h2, h3, h4, h5⟩ := hx
   have := (body_back h1 h2 h3 h5).line.1
   rw [← e2] at this
   exact this
  ·rw [hX] at e
   subst e
   exact (wide_in ht hl).line.1
theorem line_same (p : ByteArray) : lineR p = refOne p := by
 rcases h : refOne p with _ | X
 ·rcases h2 : lineR p with _ | Y
  ·rfl
  ·rw [line_ref h2] at h; cases h
 ·exact ref_line h
theorem all_same : ∀ L : List ByteArray, readAll L = refAll L ∧ badAt L = refBad L
 | [] => ⟨rfl, rfl⟩
 | x :: l => by
  obtain ⟨h1, h2⟩ := all_same l
  rw [readAll, refAll, badAt, refBad, line_same x, h1, h2]
  exact ⟨rfl, rfl⟩
end Go.Proofs.YtemiklbkfogjeaaGreatDoor
namespace Go.Proofs.YtemiklbkfogjeaaGreatDoor
open Go Go.RowKit
set_option linter.unusedVariables false
set_option linter.unusedSimpArgs false
set_option maxRecDepth 100000 in
set_option maxHeartbeats 1000000 in
theorem same_any (n c c' : Nat) (A A' : Option Addr) (X : Nat → Slot) (w : World) (hn : n ≤ 1099511627776) (h : Slots w A n X) (h' : Slots w A' n X) :
  Calls Tryz.prog 6 #[.slice A n c, .slice A' n c'] w fun e w' => e = .returned (.bool true) ∧ Below w.heap.size w w' := by
 have H := Lib.hid h
 have H' := Lib.hid h'
 clear h h'
 go_enter Tryz.func6, Tryz.ntmps6
 go_wp2_with fail
 go_loopw [5] (fun i wr => ∃ k : Nat, k ≤ n ∧ i = .int .i64 k ∧ Below w.heap.size w wr) (fun i _ => n - (intOf i).toNat)
 case atStart => exact ⟨0, by omega, rfl, Below.refl _ _⟩
 case round =>
  obtain ⟨k, hk, rfl, hb⟩ := hrel
  have HB := Lib.hid hb
  by_cases hkn : k < n
  ·obtain ⟨g, off, rfl, _, c0, c1, c2, c3, c4⟩ := (H.out.below hb) k hkn
   obtain ⟨g', off', rfl, _, d0, d1, d2, d3, d4⟩ := (H'.out.below hb) k hkn
   clear hb
   have g1 : decide (k < n) = true := by simpa using hkn
   have i1 : (0 : Int) ≤ (k : Int) := by omega
   have i2 : (k : Int) < (n : Int) := by omega
   generalize X k = x at *
   obtain ⟨o, d, s, f, m⟩ := x
   simp only at c0 c1 c2 c3 c4 d0 d1 d2 d3 d4
   go_wp2_with fail
   go_quiet (fail)
   go_wp2_with fail
   go_roundw
   case rel => exact ⟨k + 1, by omega, by go_num, HB.out.trans ⟨rfl, rfl, rfl, Nat.le_refl _, fun _ _ => rfl⟩⟩
   case measure => simp [intOf]; omega
  ·have : k = n := by omega
   subst this
   clear hb
   have g1 : decide (k < k) = false := by simp
   go_wp2_with fail
   go_ret
   exact ⟨rfl, HB.out⟩
end Go.Proofs.YtemiklbkfogjeaaGreatDoor
namespace Go.Proofs.YtemiklbkfogjeaaGreatDoor
open Go Go.RowKit Go.Maps
set_option linter.unusedVariables false
set_option linter.unusedSimpArgs false
set_option maxRecDepth 100000
set_option maxHeartbeats 4000000 in
theorem reads_walk (s : ByteArray) (w : World) (hn : s.size ≤ 1048576) (hT : Tabs w) :
  Calls Tryz.prog 3 #[.string s] w fun e w' => e = .returned (.bool true) ∧ Below w.heap.size w w' := by
 have C1 := Read_any s (by omega) w hT
 have C2 := fun w1 => Read04_any s hn w1
 have CA := Lib.hid (fun w1 (hb : Below w.heap.size w w1) => awake_any w1 (hT.below hb))
 obtain ⟨ha, hb⟩ := all_same (linesOf s)
 have hlen : ∀ Z, readAll (linesOf s) = some Z → Z.length ≤ 2097154 := fun Z hZ => by
  have := readAll_len hZ
  have := linesOf_len s
  omega
 unfold ReadG at C1
 unfold RefG at C2
 rw [← ha, ← hb] at C2
 rcases h1 : readAll (linesOf s) with _ | Z
 ·simp only [h1] at C1 C2
  have C1 := Lib.hid C1
  have C2 := Lib.hid C2
  have CS := Lib.hid (fun w3 : World => same_any 0 0 0 none none (nthS []) w3 (by omega) (fun i hi => absurd hi (Nat.not_lt_zero i)) (fun i hi => absurd hi (Nat.not_lt_zero i)))
  clear hT h1 ha hb hlen hn
  generalize ((badAt (linesOf s) : Nat) : Int) = ba at *
  go_enter Tryz.func3, Tryz.ntmps3
  go_wp2_with (first
   | (go_at_call 4; refine C1.out.mono ?_; rintro e w1 ⟨hb, rfl⟩; have B1 := Lib.hid hb; clear hb)
   | (go_at_call 5; refine (C2.out _).mono ?_; rintro e w2 ⟨hb, rfl⟩; have B2 := Lib.hid (B1.out.on hb); clear hb)
   | (go_at_call 6; refine (CS.out _).mono ?_; rintro e w4 ⟨rfl, hb⟩; have B4 := Lib.hid (B2.out.on hb); clear hb)
   | (go_at_call 7; refine (CA.out _ B4.out).mono ?_; rintro e w5 ⟨rfl, hb⟩; have B5 := Lib.hid (B4.out.on hb); clear hb))
  go_ret
  exact ⟨rfl, B5.out⟩
 ·simp only [h1] at C1 C2
  have hZl := hlen Z h1
  have C1 : Hid (Calls Tryz.prog 4 #[.string s] w fun e w1 => Below w.heap.size w w1 ∧ ∃ A c, e = .returned (.tuple #[.slice A Z.length c, .int .i64 0, .int .i64 0]) ∧ Slots w1 A Z.length (nthS Z)) := by
   refine C1.mono fun e w1 ⟨hb, v, he, hrow⟩ => ⟨hb, ?_⟩
   obtain ⟨A, c, rfl, hsl⟩ := slots_of_own hrow
   exact ⟨A, c, he, hsl⟩
  have C2 : Hid (∀ w1, Calls Tryz.prog 5 #[.string s] w1 fun e w2 => Below w1.heap.size w1 w2 ∧ ∃ A c, e = .returned (.tuple #[.slice A Z.length c, .int .i64 0, .int .i64 0]) ∧ Slots w2 A Z.length (nthS Z)) := by
   intro w1
   refine (C2 w1).mono fun e w2 ⟨hb, v, he, hrow⟩ => ⟨hb, ?_⟩
   obtain ⟨A, c, rfl, hsl⟩ := slots_of_own hrow
   exact ⟨A, c, he, hsl⟩
  have CS := Lib.hid (fun (w3 : World) (A A' : Option Addr) (c c' : Nat) (h : Slots w3 A Z.length (nthS Z)) (h' : Slots w3 A' Z.length (nthS Z)) => same_any Z.length c c' A A' (nthS Z) w3 (by omega) h h')
  clear hT h1 ha hb hlen hn hZl
  generalize Z.length = n at *
  generalize nthS Z = X at *
  go_enter Tryz.func3, Tryz.ntmps3
  go_wp2_with (first
   | (go_at_call 4; refine C1.out.mono ?_; rintro e w1 ⟨hb, A, c, rfl, hs⟩; have B1 := Lib.hid hb; have HS := Lib.hid hs; clear hb hs)
   | (go_at_call 5; refine (C2.out _).mono ?_; rintro e w2 ⟨hb, A', c', rfl, hs⟩; have B2 := Lib.hid (B1.out.on hb); have HS2 := Lib.hid (HS.out.below hb); have HT2 := Lib.hid hs; clear hb hs)
   | (go_at_call 6; refine (CS.out _ _ _ _ _ HS2.out HT2.out).mono ?_; rintro e w4 ⟨rfl, hb⟩; have B4 := Lib.hid (B2.out.on hb); clear hb)
   | (go_at_call 7; refine (CA.out _ B4.out).mono ?_; rintro e w5 ⟨rfl, hb⟩; have B5 := Lib.hid (B4.out.on hb); clear hb))
  go_ret
  exact ⟨rfl, B5.out⟩
end Go.Proofs.YtemiklbkfogjeaaGreatDoor
