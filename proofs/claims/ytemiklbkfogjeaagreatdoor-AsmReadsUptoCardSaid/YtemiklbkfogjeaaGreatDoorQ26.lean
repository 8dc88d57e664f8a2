/-
  The reference's words of a line, and the place of a text in a list. The reference's place of four words. The reference's stores and locked operations, guessed.
-/
import Derived.Test.YtemiklbkfogjeaaGreatDoorQ25
import Derived.Test.YtemiklbkfogjeaaGreatDoorQ01
import Derived.Deep.RegionHeld3
namespace Go.Proofs.YtemiklbkfogjeaaGreatDoor
open Go Go.RowKit Go.Maps
set_option linter.unusedVariables false
set_option linter.unusedSimpArgs false
set_option maxRecDepth 100000
theorem append_one2 {w0 w : World} {V : Value} {N : List ByteArray} (s : ByteArray) (hb : Below w0.heap.size w0 w) (ho : Strs w w0.heap.size V N) (hn : N.length ≤ 2097151) :
  ∃ V' w', (∀ ty, (Builtin.append_ #[strsT, strsT] ty #[V, .slice (some ⟨w.heap.size, 0, none⟩) 1 1]).run Tryz.prog (w.alloc (.cells #[.string s] strT)) = .ok V' w') ∧ Strs w' w0.heap.size V' (N ++ [s]) ∧ Below w0.heap.size w0 w' :=
 append_strs (M := [s]) (A := some ⟨w.heap.size, 0, none⟩) (c := 1) (hb.alloc hb.size _) (ownsRow_keeps ho (Keeps.alloc (Keeps.refl (fun _ => False) w) (.cells #[.string s] strT)) (fun _ h => h.elim)) (fun i u hi => by
  obtain ⟨rfl, rfl⟩ : i = 0 ∧ u = s := by
   cases i with
   | zero => simp at hi; exact ⟨rfl, hi.symm⟩
   | succ i => simp at hi
  exact ⟨w.heap.size, 0, rfl, by simp, (Blk.new w strT #[.string u]).cell 0⟩) (fun h => by cases h) (fun a h => by cases h; exact ⟨_, _, rfl⟩) (by simp only [List.length_cons, List.length_nil]; omega)
/-- The words, cut at each blank. -/
def cutL (acc : List UInt8) : List UInt8 → List (List UInt8)
 | [] => [acc]
 | b :: r => if b = 32 then acc :: cutL [] r else cutL (acc ++ [b]) r
def wordsR (s : ByteArray) : List ByteArray := (cutL [] s.data.toList).map bstr
theorem extract_list (s : ByteArray) (f i : Nat) : (s.extract f i).data.toList = (s.data.toList.drop f).take (i - f) := by
 rw [ByteArray.data_extract, Array.toList_extract]
theorem bstr_self (s : ByteArray) : bstr s.data.toList = s := by
 apply ByteArray.ext
 simp [bstr]
theorem extract_bstr04 (s : ByteArray) (f i : Nat) : s.extract f i = bstr ((s.extract f i).data.toList) := (bstr_self _).symm
theorem extract_snoc (s : ByteArray) (f i : Nat) (hf : f ≤ i) (hi : i < s.size) : (s.extract f (i + 1)).data.toList = (s.extract f i).data.toList ++ [s[i]'hi] := by
 rw [extract_list, extract_list, show i + 1 - f = (i - f) + 1 by omega, List.take_add_one, List.getElem?_drop, show f + (i - f) = i by omega]
 rw [List.getElem?_eq_getElem (by rw [size_list]; exact hi)]
 rfl
theorem extract_none (s : ByteArray) (i : Nat) : (s.extract i i).data.toList = [] := by rw [extract_list, Nat.sub_self]; rfl
/-- Between two rounds: the words so far, and what is still to come. -/
def CutAt (s : ByteArray) (k f : Nat) (L : List ByteArray) : Prop := f ≤ k ∧ L.length ≤ k ∧ ((k ≤ s.size ∧ L ++ (cutL (s.extract f k).data.toList (s.data.toList.drop k)).map bstr = wordsR s) ∨ (k = s.size + 1 ∧ L = wordsR s))
theorem CutAt.start (s : ByteArray) : CutAt s 0 0 [] := ⟨Nat.le_refl _, Nat.le_refl _, .inl ⟨Nat.zero_le _, by rw [extract_none]; rfl⟩⟩
theorem CutAt.last {s : ByteArray} {f : Nat} {L : List ByteArray} (h : CutAt s s.size f L) : CutAt s (s.size + 1) (s.size + 1) (L ++ [s.extract f s.size]) := by
 obtain ⟨h1, h2, ⟨h3, h4⟩ | ⟨h3, _⟩⟩ := h
 ·refine ⟨Nat.le_refl _, by rw [List.length_append]; exact Nat.add_le_add_right h2 1, .inr ⟨rfl, ?_⟩⟩
  rw [← h4, List.drop_of_length_le (by rw [size_list]; exact Nat.le_refl _), cutL, List.map_cons, List.map_nil, ← extract_bstr04]
 ·omega
theorem CutAt.blank {s : ByteArray} {k f : Nat} {L : List ByteArray} (h : CutAt s k f L) (hk : k < s.size) (hb : (s[k]'hk).toNat = 32) : CutAt s (k + 1) (k + 1) (L ++ [s.extract f k]) := by
 obtain ⟨h1, h2, ⟨h3, h4⟩ | ⟨h3, _⟩⟩ := h
 ·refine ⟨Nat.le_refl _, by rw [List.length_append]; exact Nat.add_le_add_right h2 1, .inl ⟨hk, ?_⟩⟩
  rw [← h4, drop_cons hk, cutL, if_pos (UInt8.toNat_inj.1 hb), List.map_cons, ← extract_bstr04, extract_none, List.append_assoc]
  rfl
 ·omega
theorem CutAt.on {s : ByteArray} {k f : Nat} {L : List ByteArray} (h : CutAt s k f L) (hk : k < s.size) (hb : (s[k]'hk).toNat ≠ 32) : CutAt s (k + 1) f L := by
 obtain ⟨h1, h2, ⟨h3, h4⟩ | ⟨h3, _⟩⟩ := h
 ·refine ⟨by omega, by omega, .inl ⟨hk, ?_⟩⟩
  rw [← h4, drop_cons hk, cutL, if_neg (fun e => hb (by rw [e]; rfl)), extract_snoc s f k h1 hk]
 ·omega
theorem CutAt.done {s : ByteArray} {k f : Nat} {L : List ByteArray} (h : CutAt s k f L) (hk : ¬ k ≤ s.size) : L = wordsR s := by
 obtain ⟨h1, h2, ⟨h3, h4⟩ | ⟨h3, h4⟩⟩ := h
 ·omega
 ·exact h4
set_option maxHeartbeats 4000000 in
theorem words04_any (s : ByteArray) (hs : s.size ≤ 1048576) (w : World) :
  Calls Tryz.prog 26 #[.string s] w fun e w' => ∃ V, e = .returned V ∧ Below w.heap.size w w' ∧ Strs w' w.heap.size V (wordsR s) := by
 go_enter Tryz.func26, Tryz.ntmps26
 go_wp2_with fail
 go_loopw [3, 4, 5] (fun l fr i wr => ∃ (k f : Nat) (L : List ByteArray), i = .int .i64 (k : Int) ∧ fr = .int .i64 (f : Int) ∧ k ≤ s.size + 1 ∧ CutAt s k f L ∧ Below w.heap.size w wr ∧ Strs wr w.heap.size l L) (fun _ _ i _ => s.size + 1 - (intOf i).toNat)
 case atStart => exact ⟨0, 0, [], rfl, rfl, Nat.zero_le _, CutAt.start s, Below.refl _ _, World.ownsRow_nil _ _ _ _⟩
 case round =>
  obtain ⟨k, f, L, rfl, rfl, hk, hC, hb, hS⟩ := hrel
  have HC := Lib.hid hC
  have HB := Lib.hid hb
  have HS := Lib.hid hS
  obtain ⟨A, c, rfl⟩ := strs_shape hS
  have hfk := hC.1
  have hLk := hC.2.1
  clear hC hb hS
  by_cases hle : k ≤ s.size
  ·have g1 : decide (k ≤ s.size) = true := decide_eq_true hle
   have g2 : (k : Int) ≤ (s.size : Int) := by omega
   have e1 : IntKind.i64.wrap ((k : Int) + 1) = ((k + 1 : Nat) : Int) := by rw [IntWalk.i64_in _ (by omega)]; omega
   have g3 : (f : Int) ≤ (k : Int) := by omega
   obtain ⟨V2, w2, hr, hS2, hB2⟩ := append_one2 (s.extract f k) HB.out HS.out (by omega)
   have HR := Lib.hid hr
   have HS2 := Lib.hid hS2
   have HB2 := Lib.hid hB2
   clear hr hS2 hB2
   by_cases heq : k = s.size
   ·have c1 : ((k : Int) == (s.size : Int)) = true := by simp; omega
    have c2 : (k == s.size) = true := by simpa using heq
    have HN : Hid (CutAt s (k + 1) (k + 1) (L ++ [s.extract f k])) := by
     have := HC.out
     subst heq
     exact this.last
    clear HC heq hLk
    go_wp2_with (at_builtin; refine wpList_append_run rfl (.tmp 22) (.tmp 27) 42 rfl _ (.slice (some ⟨_, 0, none⟩) 1 1) V2 w2 rfl rfl HR.out ?_)
    go_roundw
    case rel => exact ⟨k + 1, k + 1, _, rfl, rfl, by omega, HN.out, HB2.out, HS2.out⟩
    case measure => simp [intOf]; omega
   ·have hlt : k < s.size := by omega
    have c1 : ((k : Int) == (s.size : Int)) = false := by simp; omega
    have c2 : (k == s.size) = false := by simpa using heq
    have xk := fun w => idx_at s k hlt w
    have j1 : (k : Int) < (s.size : Int) := by omega
    by_cases h32 : (s[k]'hlt).toNat = 32
    ·have HN := Lib.hid (HC.out.blank hlt h32)
     have d1 : (((s[k]'hlt).toNat : Int) == 32) = true := by rw [h32]; rfl
     have d2 : ((s[k]'hlt).toNat == 32) = true := by rw [h32]; rfl
     clear HC heq hLk h32
     go_wp2_with (at_builtin; refine wpList_append_run rfl (.tmp 22) (.tmp 27) 42 rfl _ (.slice (some ⟨_, 0, none⟩) 1 1) V2 w2 rfl rfl HR.out ?_)
     go_roundw
     case rel => exact ⟨k + 1, k + 1, _, rfl, rfl, by omega, HN.out, HB2.out, HS2.out⟩
     case measure => simp [intOf]; omega
    ·have HN := Lib.hid (HC.out.on hlt h32)
     have d1 : (((s[k]'hlt).toNat : Int) == 32) = false := by simp; omega
     have d2 : ((s[k]'hlt).toNat == 32) = false := by simpa using h32
     clear HC heq hLk h32 HR HS2 HB2
     go_wp2_with fail
     go_roundw
     case rel => exact ⟨k + 1, f, L, rfl, rfl, by omega, HN.out, HB.out, HS.out⟩
     case measure => simp [intOf]; omega
  ·have g1 : decide (k ≤ s.size) = false := decide_eq_false hle
   have g2 : ¬ (k : Int) ≤ (s.size : Int) := by omega
   have HD := Lib.hid (HC.out.done hle)
   clear HC
   go_wp2_with fail
   go_ret
   exact ⟨_, rfl, HB.out, by rw [← HD.out]; exact HS.out⟩
/-- The place of a text in a list; -1: it is none of them, or is no text. -/
def findR (s : ByteArray) : List ByteArray → Nat → Int
 | [], _ => -1
 | x :: l, k => if isT x s.data.toList = true ∧ s.size ≠ 0 then (k : Int) else findR s l (k + 1)
set_option maxHeartbeats 4000000 in
theorem find04_any (A : Option Addr) (c : Nat) (L : List ByteArray) (s : ByteArray) (hL : L.length ≤ 1048576) (w : World) (hA : StrsAt w A L) :
  Calls Tryz.prog 37 #[.slice A L.length c, .string s] w fun e w' => e = .returned (.int .i64 (findR s L 0)) ∧ w = w' := by
 have hE := eq_nil s
 have hE1 := isEmpty_size s
 go_enter Tryz.func37, Tryz.ntmps37
 go_wp2_with fail
 go_loopw [5] (fun i wr => ∃ k : Nat, wr = w ∧ i = .int .i64 (k : Int) ∧ k ≤ L.length ∧ findR s (L.drop k) k = findR s L 0) (fun i _ => L.length - (intOf i).toNat)
 case atStart => exact ⟨0, rfl, rfl, Nat.zero_le _, rfl⟩
 case round =>
  obtain ⟨k, rfl, rfl, hk, hf⟩ := hrel
  have HF := Lib.hid hf
  clear hf
  by_cases hlt : k < L.length
  ·have g1 : decide (k < L.length) = true := decide_eq_true hlt
   have g2 : (k : Int) < (L.length : Int) := by omega
   have e1 : IntKind.i64.wrap ((k : Int) + 1) = ((k + 1 : Nat) : Int) := by rw [IntWalk.i64_in _ (by omega)]; omega
   obtain ⟨b, o, rfl, hbl, hc⟩ := hA k (L[k]'hlt) (List.getElem?_eq_getElem hlt)
   have HD := HF.out
   rw [List.drop_eq_getElem_cons hlt, findR] at HD
   have HD := Lib.hid HD
   have hq : ((L[k]'hlt).toList == s.toList) = isT (L[k]'hlt) s.data.toList := by rw [toList_data s]; exact isT_beq _ _
   clear HF hA
   generalize (L[k]'hlt) = x at *
   generalize isT x s.data.toList = b1 at *
   by_cases hz : s.size = 0
   ·rw [decide_eq_true hz] at hE hE1
    have HN : Hid (findR s (L.drop (k + 1)) (k + 1) = findR s L 0) := by
     have := HD.out
     rw [if_neg (fun h => h.2 hz)] at this
     exact this
    clear HD hz
    cases b1
    all_goals
     go_wp2_with fail
     go_roundw
     case rel => exact ⟨k + 1, (by first | rfl | trivial), (by first | rfl | trivial), by omega, HN.out⟩
     case measure => simp [intOf]; omega
   ·rw [decide_eq_false hz] at hE hE1
    cases b1
    ·have HN : Hid (findR s (L.drop (k + 1)) (k + 1) = findR s L 0) := by
      have := HD.out
      rw [if_neg (fun h => by cases h.1)] at this
      exact this
     clear HD hz
     go_wp2_with fail
     go_roundw
     case rel => exact ⟨k + 1, (by first | rfl | trivial), (by first | rfl | trivial), by omega, HN.out⟩
     case measure => simp [intOf]; omega
    ·have HN : Hid ((k : Int) = findR s L 0) := by
      have := HD.out
      rw [if_pos ⟨rfl, hz⟩] at this
      exact this
     clear HD hz
     go_wp2_with fail
     go_ret
     exact ⟨by rw [← HN.out]; rfl, rfl⟩
  ·have g1 : decide (k < L.length) = false := decide_eq_false hlt
   have g2 : ¬ (k : Int) < (L.length : Int) := by omega
   have HN : Hid (findR s L 0 = -1) := by
    rw [← HF.out, List.drop_of_length_le (by omega), findR]
    exact rfl
   clear HF
   go_wp2_with fail
   go_ret
   exact ⟨by rw [HN.out]; rfl, rfl⟩
theorem numV_le {neg : Bool} {o : Option Nat} {v : Int} (h : numV neg o = some v) : -1099511627776 ≤ v ∧ v ≤ 1099511627776 := by
 unfold numV at h
 obtain ⟨u, hu, h⟩ := Option.bind_eq_some_iff.1 h
 by_cases hc : 1099511627776 < u ∨ (neg = true ∧ u = 0)
 ·rw [if_pos hc] at h; cases h
 ·rw [if_neg hc] at h
  have h := Option.some.inj h
  have : ¬ 1099511627776 < u := fun h => hc (.inl h)
  split at h <;> omega
theorem numR_le {s : ByteArray} {v : Int} (h : numR s = some v) : -1099511627776 ≤ v ∧ v ≤ 1099511627776 := by
 unfold numR at h
 split at h
 ·exact numV_le h
 ·exact numV_le h
def numD (s : ByteArray) : Int := (numR s).getD 0
theorem numD_le (s : ByteArray) : -1099511627776 ≤ numD s ∧ numD s ≤ 1099511627776 := by
 unfold numD
 cases h : numR s with
 | none => simp
 | some v => exact numR_le h
abbrev stT : ByteArray := ⟨#[42, 41, 40]⟩
def sgnR (a : ByteArray) : Bool := decide (a.data.toList[2]? = some 115)
structure AtA where
 size : Int
 sign : Bool
 reg : Int
 off : Int
/-- A place of four words. -/
def atR : List ByteArray → AtA
 | a :: b :: c :: d :: _ => if a.size < 4 then ⟨-1000, false, 0, 0⟩ else ⟨sizesR (a.extract 3 a.size), sgnR a, regR (headR b stT) 114, if isT c [45] = true then -numD (endR d) else numD (endR d)⟩
 | _ => ⟨-1000, false, 0, 0⟩
def atE (x : AtA) : Ending := .returned (.tuple #[.int .i64 x.size, .bool x.sign, .int .i64 x.reg, .int .i64 x.off])
theorem results_tmp4 {fn : Func} {t u v x : Tmp} (h : fn.results = #[.tmp t, .tmp u, .tmp v, .tmp x]) (tmps : Array Value) (P : Program) (w : World) :
  (results fn tmps).run P w = .ok (.tuple #[tmps.getD t undef, tmps.getD u undef, tmps.getD v undef, tmps.getD x undef]) w := by
 simp [results, h]
set_option maxHeartbeats 4000000 in
theorem at04_any (A : Option Addr) (c : Nat) (L : List ByteArray) (hs : ∀ x ∈ L, x.size ≤ 4611686018427387904) (w : World) (hA : StrsAt w A L) :
  Calls Tryz.prog 62 #[.slice A L.length c] w fun e w' => e = atE (atR L) ∧ Below w.heap.size w w' := by
 have short : L.length < 4 → Calls Tryz.prog 62 #[.slice A L.length c] w fun e w' => e = atE ⟨-1000, false, 0, 0⟩ ∧ Below w.heap.size w w' := by
  intro h
  have g1 : decide (L.length < 4) = true := decide_eq_true h
  have g2 : (L.length : Int) < 4 := by omega
  clear hs hA h
  go_enter Tryz.func62, Tryz.ntmps62
  go_wp2_with fail
  refine bodyPost_ret (results_tmp4 rfl _ _ _) rfl ?_
  exact ⟨rfl, Below.refl _ _⟩
 match L, hs, hA, short with
 | [], hs, hA, short => exact short (by simp)
 | [_], hs, hA, short => exact short (by simp)
 | [_, _], hs, hA, short => exact short (by simp)
 | [_, _, _], hs, hA, short => exact short (by simp)
 | x0 :: x1 :: x2 :: x3 :: r, hs, hA, short =>
  clear short
  obtain ⟨b, o, rfl, hbl, c0⟩ := hA 0 x0 rfl
  obtain ⟨b1, o1, e, _, c1⟩ := hA 1 x1 rfl
  cases e
  obtain ⟨b2, o2, e, _, c2⟩ := hA 2 x2 rfl
  cases e
  obtain ⟨b3, o3, e, _, c3⟩ := hA 3 x3 rfl
  cases e
  have s0 := hs x0 (by simp)
  have s1 := hs x1 (by simp)
  have s3 := hs x3 (by simp)
  rw [Nat.add_zero] at c0
  clear hs hA
  have hl4 : 4 ≤ (x0 :: x1 :: x2 :: x3 :: r).length := by simp
  generalize hn : (x0 :: x1 :: x2 :: x3 :: r).length = n at *
  have g1 : decide (n < 4) = false := decide_eq_false (by omega)
  have g2 : ¬ (n : Int) < 4 := by omega
  have g3 : (0 : Int) < (n : Int) := by omega
  have g4 : (1 : Int) < (n : Int) := by omega
  have g5 : (2 : Int) < (n : Int) := by omega
  have g6 : (3 : Int) < (n : Int) := by omega
  rw [show atR (x0 :: x1 :: x2 :: x3 :: r) = if x0.size < 4 then (⟨-1000, false, 0, 0⟩ : AtA) else ⟨sizesR (x0.extract 3 x0.size), sgnR x0, regR (headR x1 stT) 114, if isT x2 [45] = true then -numD (endR x3) else numD (endR x3)⟩ from rfl]
  clear hn hl4
  by_cases hz : x0.size < 4
  ·rw [if_pos hz]
   have g7 : decide (x0.size < 4) = true := decide_eq_true hz
   have g8 : (x0.size : Int) < 4 := by omega
   go_enter Tryz.func62, Tryz.ntmps62
   go_wp2_with fail
   refine bodyPost_ret (results_tmp4 rfl _ _ _) rfl ?_
   exact ⟨rfl, Below.refl _ _⟩
  ·rw [if_neg hz]
   have g7 : decide (x0.size < 4) = false := decide_eq_false hz
   have g8 : ¬ (x0.size : Int) < 4 := by omega
   have C1 := Lib.hid (head04_any x1 stT s1 (by decide) w)
   have C2 := Lib.hid (trimEnd04_any x3 s3 w)
   have C3 : Hid (Calls Tryz.prog 27 #[.string (endR x3)] w fun e w' => e = .returned (.tuple #[.int .i64 (numD (endR x3)), .bool (numR (endR x3)).isSome]) ∧ w = w') := number04_any _ (Nat.le_trans (endR_le _) s3) w
   have C4 := Lib.hid (fun w => sizes04_any (x0.extract 3 x0.size) w)
   have C5 : Hid (∀ w, Calls Tryz.prog 34 #[.string (headR x1 stT), .int .u8 114] w fun e w' => e = .returned (.int .i64 (regR (headR x1 stT) 114)) ∧ w = w') := fun w => regOf04_any _ 114 (Nat.le_trans (headR_le _ _) s1) w
   have hd := numD_le (endR x3)
   have h2 := isT_beq x2 [45]
   have hi2 : 2 < x0.size := by omega
   have x2i := fun w => idx_at x0 2 hi2 w
   have hsg : (((x0[2]'hi2).toNat : Int) == 115) = sgnR x0 := by
    unfold sgnR
    rw [List.getElem?_eq_getElem (by rw [size_list]; exact hi2), Bool.eq_iff_iff, decide_eq_true_iff, beq_iff_eq]
    show ((x0[2]'hi2).toNat : Int) = 115 ↔ some (x0[2]'hi2) = some 115
    constructor
    ·intro h
     congr 1
     exact UInt8.toNat_inj.1 (by have : (x0[2]'hi2).toNat = 115 := (by omega); exact this)
    ·intro h
     rw [Option.some.inj h]; rfl
   have hsg2 : ((x0[2]'hi2).toNat == 115) = sgnR x0 := by
    rw [← hsg, Bool.eq_iff_iff, beq_iff_eq, beq_iff_eq]; omega
   have j3 : (3 : Int) ≤ (x0.size : Int) := by omega
   have j2 : (2 : Int) < (x0.size : Int) := by omega
   have e1 : IntKind.i64.wrap (-numD (endR x3)) = -numD (endR x3) := IntWalk.i64_in _ (by omega)
   have x3s : ∀ w : World, (Instr.slice 9 (.string x0) (some (.int .i64 3)) none none).run Tryz.prog w = .ok (.string (x0.extract 3 x0.size)) w := fun w =>
    run_slice_string_l (P := Tryz.prog) (w := w) (t := 9) (s := x0) Tryz.underlying9 .i64 3 (by omega) (by omega)
   clear hd hz s0 s1 s3
   generalize numD (endR x3) = v at *
   generalize (numR (endR x3)).isSome = vb at *
   generalize endR x3 = t3 at *
   generalize regR (headR x1 stT) 114 = rg at *
   generalize headR x1 stT = hd1 at *
   generalize begins x1 stT = hb1 at *
   generalize sizesR (x0.extract 3 x0.size) = sz at *
   generalize x0.extract 3 x0.size = t0 at *
   generalize sgnR x0 = sg at *
   generalize isT x2 [45] = ng at *
   cases ng
   ·simp only [Bool.false_eq_true, if_false]
    go_enter Tryz.func62, Tryz.ntmps62
    go_wp2_with (first
     | (go_at_call 36; refine C1.out.mono ?_; rintro e w1 ⟨rfl, rfl⟩)
     | (go_at_call 87; refine C2.out.mono ?_; rintro e w1 ⟨rfl, rfl⟩)
     | (go_at_call 27; refine C3.out.mono ?_; rintro e w1 ⟨rfl, rfl⟩))
    have K1 : Hid (w.drew.cell? ⟨b, o, none⟩ = some (.string x0)) := c0
    have g9 : (0 : Int) < (n : Int) := by omega
    have g10 : 0 < n := by omega
    have g11 : ¬ n = 0 := by omega
    clear c1 c2 c3 C1 C2 C3 c0
    go_region_held3 (fun W' => W'.cell? ⟨b, o, none⟩ = some (.string x0))
     (first | with_reducible exact K1.out)
     (first | (go_at_call 88; refine (C4.out _).mono ?_; rintro e w1 ⟨rfl, rfl⟩) | (go_at_call 34; refine (C5.out _).mono ?_; rintro e w1 ⟨rfl, rfl⟩))
    all_goals
     go_wp2_with fail
     refine bodyPost_ret (results_tmp4 rfl _ _ _) rfl ?_
     exact ⟨rfl, (Below.refl _ w).drew⟩
   ·simp only [if_true]
    go_enter Tryz.func62, Tryz.ntmps62
    go_wp2_with (first
     | (go_at_call 36; refine C1.out.mono ?_; rintro e w1 ⟨rfl, rfl⟩)
     | (go_at_call 87; refine C2.out.mono ?_; rintro e w1 ⟨rfl, rfl⟩)
     | (go_at_call 27; refine C3.out.mono ?_; rintro e w1 ⟨rfl, rfl⟩))
    have K1 : Hid (w.drew.cell? ⟨b, o, none⟩ = some (.string x0)) := c0
    have g9 : (0 : Int) < (n : Int) := by omega
    have g10 : 0 < n := by omega
    have g11 : ¬ n = 0 := by omega
    clear c1 c2 c3 C1 C2 C3 c0
    go_region_held3 (fun W' => W'.cell? ⟨b, o, none⟩ = some (.string x0))
     (first | with_reducible exact K1.out)
     (first | (go_at_call 88; refine (C4.out _).mono ?_; rintro e w1 ⟨rfl, rfl⟩) | (go_at_call 34; refine (C5.out _).mono ?_; rintro e w1 ⟨rfl, rfl⟩))
    all_goals
     go_wp2_with fail
     refine bodyPost_ret (results_tmp4 rfl _ _ _) rfl ?_
     exact ⟨rfl, (Below.refl _ w).drew⟩
abbrev isT' : TypeId := 38
abbrev inD (x : Slot) : Array Value := #[.int .i64 x.o, .int .i64 x.d, .int .i64 x.s, .int .i64 x.f, .int .i64 x.m]
def zeroS : Slot := ⟨0, 0, 0, 0, 0⟩
def SaysI (w : World) (x : Slot) (e : Ending) (w' : World) : Prop := e = .returned (.agg (inD x)) ∧ Below w.heap.size w w'
theorem sizesR_le (s : ByteArray) : -1000 ≤ sizesR s ∧ sizesR s ≤ 24 := by
 unfold sizesR
 split
 ·omega
 split
 ·omega
 split
 ·omega
 split <;> omega
theorem regR_le (s : ByteArray) (l : UInt8) : -1099511627776 ≤ regR s l ∧ regR s l ≤ 1099511627776 := by
 unfold regR
 split
 ·cases h : numR (tl1 s) with
  | none => simp
  | some v => exact numR_le h
 ·omega
theorem atR_le (L : List ByteArray) : (-1000 ≤ (atR L).size ∧ (atR L).size ≤ 24) ∧ (-1099511627776 ≤ (atR L).off ∧ (atR L).off ≤ 1099511627776) ∧ -1099511627776 ≤ (atR L).reg ∧ (atR L).reg ≤ 1099511627776 := by
 unfold atR
 split
 ·split
  ·refine ⟨by simp only; omega, by simp only; omega, by simp only; omega⟩
  ·rename_i a b c d _ _
   refine ⟨sizesR_le _, ?_, regR_le _ _⟩
   have := numD_le (endR d)
   simp only
   split <;> omega
 ·refine ⟨by simp only; omega, by simp only; omega, by simp only; omega⟩
theorem own_five {w W : World} {z : Nat} {r0 r1 r2 r3 r4 : Value} (hz : w.heap.size ≤ z) (hb : Below w.heap.size w W) (h : Blk W z isT' #[r0, r1, r2, r3, r4]) (a0 a1 a2 a3 a4 : Value) :
  Below w.heap.size w (((((W.setCell ⟨z, 0, none⟩ a0).setCell ⟨z, 1, none⟩ a1).setCell ⟨z, 2, none⟩ a2).setCell ⟨z, 3, none⟩ a3).setCell ⟨z, 4, none⟩ a4) ∧ Blk (((((W.setCell ⟨z, 0, none⟩ a0).setCell ⟨z, 1, none⟩ a1).setCell ⟨z, 2, none⟩ a2).setCell ⟨z, 3, none⟩ a3).setCell ⟨z, 4, none⟩ a4) z isT' #[a0, a1, a2, a3, a4] := by
 refine ⟨?_, ?_⟩
 ·exact ((((hb.setCell (p := ⟨z, 0, none⟩) hz a0).setCell (p := ⟨z, 1, none⟩) hz a1).setCell (p := ⟨z, 2, none⟩) hz a2).setCell (p := ⟨z, 3, none⟩) hz a3).setCell (p := ⟨z, 4, none⟩) hz a4
 ·have h1 : Blk _ z isT' #[a0, r1, r2, r3, r4] := h.set_ 0 a0
  have h2 : Blk _ z isT' #[a0, a1, r2, r3, r4] := h1.set_ 1 a1
  have h3 : Blk _ z isT' #[a0, a1, a2, r3, r4] := h2.set_ 2 a2
  have h4 : Blk _ z isT' #[a0, a1, a2, a3, r4] := h3.set_ 3 a3
  exact h4.set_ 4 a4
abbrev newI (w : World) : World := w.alloc (.cells #[.int .i64 0, .int .i64 0, .int .i64 0, .int .i64 0, .int .i64 0] isT')
theorem newI_below (w : World) : Below w.heap.size w (newI w) := (Below.refl _ w).alloc (Nat.le_refl _) _
theorem newI_blk (w : World) : Blk (newI w) w.heap.size isT' #[.int .i64 0, .int .i64 0, .int .i64 0, .int .i64 0, .int .i64 0] := Blk.new _ _ _
theorem blk_on' {w w' : World} {g : Nat} {t : TypeId} {cs : Array Value} (h : Blk w g t cs) (hb : Below w.heap.size w w') : Blk w' g t cs := (hb.block g h.lt).trans h
theorem below_on' {a w w' : World} (h : Below a.heap.size a w) (k : Below w.heap.size w w') : Below a.heap.size a w' := h.trans (k.mono h.size)
def storeG (L : List ByteArray) : Slot := match L with
 | [_, _, _, _, _, c] => if (opdR c 114).2.2 = true then ⟨99 + (atR L).size, (atR L).reg, (opdR c 114).1, (atR L).off, 0⟩ else ⟨98 + (atR L).size, (atR L).reg, 0, (atR L).off, (opdR c 114).2.1⟩
 | _ => zeroS
set_option maxHeartbeats 4000000 in
theorem store04_any (A : Option Addr) (c : Nat) (L : List ByteArray) (hs : ∀ x ∈ L, x.size ≤ 4611686018427387904) (w : World) (hA : StrsAt w A L) :
  Calls Tryz.prog 31 #[.slice A L.length c] w (SaysI w (storeG L)) := by
 have HK0 := Lib.hid (newI_blk w)
 have CA : Hid (Calls Tryz.prog 62 #[.slice A L.length c] (newI w) fun e w' => e = .returned (.tuple #[.int .i64 (atR L).size, .bool (atR L).sign, .int .i64 (atR L).reg, .int .i64 (atR L).off]) ∧ Below (newI w).heap.size (newI w) w') := at04_any A c L hs (newI w) (hA.below (newI_below w))
 obtain ⟨⟨hl1, hl2⟩, _, _⟩ := atR_le L
 have hB0 := newI_below w
 have HAT := Lib.hid (fun w1 (hb : Below (newI w).heap.size (newI w) w1) => (⟨below_on' hB0 hb, hA.below (below_on' hB0 hb), blk_on' HK0.out hb⟩ : Below w.heap.size w w1 ∧ StrsAt w1 A L ∧ Blk w1 w.heap.size isT' #[.int .i64 0, .int .i64 0, .int .i64 0, .int .i64 0, .int .i64 0]))
 have hE : (∃ a b d e f g, L = [a, b, d, e, f, g]) ∨ (L.length ≠ 6 ∧ storeG L = zeroS) := by
  unfold storeG
  match L with
  | [] => exact .inr ⟨by simp, rfl⟩
  | [_] => exact .inr ⟨by simp, rfl⟩
  | [_, _] => exact .inr ⟨by simp, rfl⟩
  | [_, _, _] => exact .inr ⟨by simp, rfl⟩
  | [_, _, _, _] => exact .inr ⟨by simp, rfl⟩
  | [_, _, _, _, _] => exact .inr ⟨by simp, rfl⟩
  | [a, b, d, e, f, g] => exact .inl ⟨a, b, d, e, f, g, rfl⟩
  | _ :: _ :: _ :: _ :: _ :: _ :: _ :: _ => exact .inr ⟨by simp, rfl⟩
 rcases hE with ⟨q0, q1, q2, q3, q4, q5, rfl⟩ | ⟨h6, e⟩
 ·have C5 : Hid (∀ w, Calls Tryz.prog 38 #[.string q5, .int .u8 114] w fun e w' => e = .returned (.tuple #[.int .i64 (opdR q5 114).1, .int .i64 (opdR q5 114).2.1, .bool (opdR q5 114).2.2]) ∧ w = w') := fun w => operand04_any q5 114 (hs q5 (by simp)) w
  have HG : Hid (storeG [q0, q1, q2, q3, q4, q5] = if (opdR q5 114).2.2 = true then ⟨99 + (atR [q0, q1, q2, q3, q4, q5]).size, (atR [q0, q1, q2, q3, q4, q5]).reg, (opdR q5 114).1, (atR [q0, q1, q2, q3, q4, q5]).off, 0⟩ else ⟨98 + (atR [q0, q1, q2, q3, q4, q5]).size, (atR [q0, q1, q2, q3, q4, q5]).reg, 0, (atR [q0, q1, q2, q3, q4, q5]).off, (opdR q5 114).2.1⟩) := rfl
  have e1 : IntKind.i64.wrap (99 + (atR [q0, q1, q2, q3, q4, q5]).size) = 99 + (atR [q0, q1, q2, q3, q4, q5]).size := IntWalk.i64_in _ (by omega)
  have e2 : IntKind.i64.wrap (98 + (atR [q0, q1, q2, q3, q4, q5]).size) = 98 + (atR [q0, q1, q2, q3, q4, q5]).size := IntWalk.i64_in _ (by omega)
  obtain ⟨b, o, rfl, _, _⟩ := hA 0 q0 rfl
  have hn : [q0, q1, q2, q3, q4, q5].length = 6 := rfl
  rw [hn] at CA ⊢
  clear hA hs hl1 hl2 hB0 hn
  generalize (atR [q0, q1, q2, q3, q4, q5]).size = sz at *
  generalize (atR [q0, q1, q2, q3, q4, q5]).sign = sg at *
  generalize (atR [q0, q1, q2, q3, q4, q5]).reg = rg at *
  generalize (atR [q0, q1, q2, q3, q4, q5]).off = of at *
  generalize storeG [q0, q1, q2, q3, q4, q5] = G at *
  generalize (opdR q5 114).1 = p1 at *
  generalize (opdR q5 114).2.1 = p2 at *
  generalize (opdR q5 114).2.2 = p3 at *
  cases p3
  ·rw [if_neg (by decide)] at HG
   go_enter Tryz.func31, Tryz.ntmps31
   go_wp2_with (first
    | (go_at_call 62; refine CA.out.mono ?_; rintro e w1 ⟨rfl, hb⟩; have H1 := Lib.hid (HAT.out _ hb); clear hb; (obtain ⟨b5, o5, e5, _, c5⟩ := H1.out.2.1 5 q5 rfl); cases e5; have k0 := H1.out.2.2.cell 0; have k1 := H1.out.2.2.cell 1; have k2 := H1.out.2.2.cell 2; have k3 := H1.out.2.2.cell 3; have k4 := H1.out.2.2.cell 4; have z0 := H1.out.2.2.frozen 0; have z1 := H1.out.2.2.frozen 1; have z2 := H1.out.2.2.frozen 2; have z3 := H1.out.2.2.frozen 3; have z4 := H1.out.2.2.frozen 4)
    | (go_at_call 38; refine (C5.out _).mono ?_; rintro e w2 ⟨rfl, rfl⟩))
   have H9 := Lib.hid (own_five (Nat.le_refl _) H1.out.1 H1.out.2.2 (.int .i64 (98 + sz)) (.int .i64 rg) (.int .i64 0) (.int .i64 of) (.int .i64 p2))
   refine bodyPost_ret (results_cell_row rfl _ _ w.heap.size isT' _ (0, 0) _ rfl H9.out.2 Tryz.underlying38 rfl (by kernel_rfl)) rfl ?_
   rw [HG.out]
   exact ⟨rfl, H9.out.1⟩
  ·rw [if_pos rfl] at HG
   go_enter Tryz.func31, Tryz.ntmps31
   go_wp2_with (first
    | (go_at_call 62; refine CA.out.mono ?_; rintro e w1 ⟨rfl, hb⟩; have H1 := Lib.hid (HAT.out _ hb); clear hb; (obtain ⟨b5, o5, e5, _, c5⟩ := H1.out.2.1 5 q5 rfl); cases e5; have k0 := H1.out.2.2.cell 0; have k1 := H1.out.2.2.cell 1; have k2 := H1.out.2.2.cell 2; have k3 := H1.out.2.2.cell 3; have k4 := H1.out.2.2.cell 4; have z0 := H1.out.2.2.frozen 0; have z1 := H1.out.2.2.frozen 1; have z2 := H1.out.2.2.frozen 2; have z3 := H1.out.2.2.frozen 3; have z4 := H1.out.2.2.frozen 4)
    | (go_at_call 38; refine (C5.out _).mono ?_; rintro e w2 ⟨rfl, rfl⟩))
   have H9 := Lib.hid (own_five (Nat.le_refl _) H1.out.1 H1.out.2.2 (.int .i64 (99 + sz)) (.int .i64 rg) (.int .i64 p1) (.int .i64 of) (.int .i64 0))
   refine bodyPost_ret (results_cell_row rfl _ _ w.heap.size isT' _ (0, 0) _ rfl H9.out.2 Tryz.underlying38 rfl (by kernel_rfl)) rfl ?_
   rw [HG.out]
   exact ⟨rfl, H9.out.1⟩
 ·rw [e]
  have g1 : ((L.length : Int) != 6) = true := by simp; omega
  have g2 : (L.length != 6) = true := by simpa using h6
  clear hA hs hl1 hl2 hB0 e h6
  generalize L.length = n at *
  generalize (atR L).size = sz at *
  generalize (atR L).sign = sg at *
  generalize (atR L).reg = rg at *
  generalize (atR L).off = of at *
  go_enter Tryz.func31, Tryz.ntmps31
  go_wp2_with (go_at_call 62; refine CA.out.mono ?_; rintro e w1 ⟨rfl, hb⟩; have H1 := Lib.hid (HAT.out _ hb); clear hb; have k0 := H1.out.2.2.cell 0; have k1 := H1.out.2.2.cell 1; have k2 := H1.out.2.2.cell 2; have k3 := H1.out.2.2.cell 3; have k4 := H1.out.2.2.cell 4; have z0 := H1.out.2.2.frozen 0; have z1 := H1.out.2.2.frozen 1; have z2 := H1.out.2.2.frozen 2; have z3 := H1.out.2.2.frozen 3; have z4 := H1.out.2.2.frozen 4)
  have H9 := Lib.hid (own_five (Nat.le_refl _) H1.out.1 H1.out.2.2 (.int .i64 0) (.int .i64 0) (.int .i64 0) (.int .i64 0) (.int .i64 0))
  refine bodyPost_ret (results_cell_row rfl _ _ w.heap.size isT' _ (0, 0) _ rfl H9.out.2 Tryz.underlying38 rfl (by kernel_rfl)) rfl ?_
  exact ⟨rfl, H9.out.1⟩
end Go.Proofs.YtemiklbkfogjeaaGreatDoor
