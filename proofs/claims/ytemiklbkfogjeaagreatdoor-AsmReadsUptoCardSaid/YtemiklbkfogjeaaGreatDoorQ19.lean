/-
  Package asm, reading: the slots of a line's words. Package asm, reading: a line, exact. Lists of slots, one behind the other; an append of slots to a row of the call's own. strings.SplitSeq at one byte: an iterator that keeps the rest of the text in a cell of its own; the statement that ranges over it.
-/
import Derived.Test.YtemiklbkfogjeaaGreatDoorQ18
import Derived.Laws.OwnMore
import Derived.RangeFuncFrom
import Derived.RangeFuncBox
import Derived.RangeFuncNested
import Derived.RangeFuncBound
import Derived.RangeFuncCalls
import Derived.RangeFuncLeaves
import Derived.Shelf.Abstract
import Derived.Shelf.RegionOpen
import Derived.OwnWalkIn
import Derived.TacticsInMore
import Derived.LoopNIn
import Derived.LoopIn
import Derived.CallsIn
import Derived.Lib.IndexLaws
namespace Go.Proofs.YtemiklbkfogjeaaGreatDoor
open Go Go.RowKit Go.Maps
set_option linter.unusedVariables false
set_option linter.unusedSimpArgs false
set_option maxRecDepth 100000
def wideR : List ByteArray → Option (Slot × Slot)
 | [a, m, x, _] => wide4 a m x
 | [a, m, p, x, _] => wide5 a m p x
 | _ => none
theorem wideR_any {w0 w : World} {y g off : Nat} {b : Bool} {L : List ByteArray} (h : Rd w0 w y b g off L) (n cc : Nat) (hn : n = L.length) :
  Calls Tryz.prog 24 #[rp y, .slice (some ⟨g, off, none⟩) n cc] w (GivesW w y b (wideR L)) := by
 match L, h, hn with
 | [], h, hn => exact wide_no h n cc (.inl (by rw [hn]; simp))
 | [_], h, hn => exact wide_no h n cc (.inl (by rw [hn]; simp))
 | [_, _], h, hn => exact wide_no h n cc (.inl (by rw [hn]; simp))
 | [_, _, _], h, hn => exact wide_no h n cc (.inl (by rw [hn]; simp))
 | [a, m, x, l], h, hn =>
  by_cases hs : sameT m eqT = true
  ·exact wide4_any a m x l h hs n cc hn
  ·have e : wideR [a, m, x, l] = none := by simp [wideR, wide4, hs]
   rw [e]
   exact wide_no h n cc (.inr (.inr ⟨.inl hn, m, rfl, by simpa using hs⟩))
 | [a, m, p, x, l], h, hn =>
  by_cases hs : sameT m eqT = true
  ·exact wide5_any a m p x l h hs n cc hn
  ·have e : wideR [a, m, p, x, l] = none := by simp [wideR, wide5, hs]
   rw [e]
   exact wide_no h n cc (.inr (.inr ⟨.inr hn, m, rfl, by simpa using hs⟩))
 | a :: b :: c :: d :: e :: f :: r, h, hn => exact wide_no h n cc (.inr (.inl (by rw [hn]; simp)))
theorem oneR_any {w0 w : World} {y g off : Nat} {b : Bool} {L : List ByteArray} (h : Rd w0 w y b g off L) (n cc : Nat) (hn : n = L.length) (h1 : 1 ≤ n) (h8 : n ≤ 8) (hcc : n ≤ cc) :
  Calls Tryz.prog 25 #[rp y, .slice (some ⟨g, off, none⟩) n cc] w (GivesI w y b (oneR L)) := by
 match L, h, hn with
 | [], h, hn => rw [hn] at h1; exact absurd h1 (by decide)
 | [a], h, hn => exact one1_any a h n cc hn hcc
 | [a, x], h, hn => exact one2_any a x h n cc hn hcc
 | [a, m, c], h, hn => exact one3_any a m c h n cc hn hcc
 | [a, m, c, t], h, hn => exact one4_any a m c t h n cc hn hcc
 | [a, m, c, t, v], h, hn => exact one5_any a m c t v h n cc hn hcc
 | [a, m, p0, p1, p2, p3], h, hn => exact one6_any a m p0 p1 p2 p3 h n cc hn hcc
 | [a, p0, p1, p2, p3, k, s], h, hn => exact one7_any a p0 p1 p2 p3 k s h n cc hn hcc
 | [a, p0, p1, p2, p3, k, s, f], h, hn => exact one8_any a p0 p1 p2 p3 k s f h n cc hn hcc
 | a :: b :: c :: d :: e :: f :: g :: h' :: i :: r, h, hn => rw [hn] at h8; exact absurd h8 (by simp)
def lastLl (L : List ByteArray) : Bool := match L.getLast? with
 | none => false
 | some x => sameT x llT
def slotsR (L : List ByteArray) : Option (List Slot) := if lastLl L = true then (wideR L).map fun p => [p.1, p.2] else (oneR L).map fun x => [x]
def nthS (X : List Slot) (i : Nat) : Slot := X.getD i slot0
def GivesS (w : World) (y : Nat) (b : Bool) (S : Option (List Slot)) (e : Ending) (w' : World) : Prop :=
 ∃ (q c : Nat) (X : List Slot), e = .returned (.slice (some ⟨q, 0, none⟩) X.length c) ∧ X.length ≤ c ∧ X.length ≤ 2 ∧ RD w w' y (b || !S.isSome) ∧ w.heap.size ≤ q ∧ Slots w' (some ⟨q, 0, none⟩) X.length (nthS X) ∧ ∀ z, S = some z → X = z
set_option maxHeartbeats 4000000 in
theorem slotsR_any {w0 w : World} {y g off : Nat} {b : Bool} {L : List ByteArray} (h : Rd w0 w y b g off L) (n cc : Nat) (hn : n = L.length) (h1 : 1 ≤ n) (h8 : n ≤ 8) (hcc : n ≤ cc) :
  Calls Tryz.prog 15 #[rp y, .slice (some ⟨g, off, none⟩) n cc] w (GivesS w y b (slotsR L)) := by
 obtain ⟨k, hk⟩ : ∃ k, n = k + 1 := ⟨n - 1, by omega⟩
 obtain ⟨x, hx⟩ : ∃ x, L[k]? = some x := ⟨_, List.getElem?_eq_getElem (by omega : k < L.length)⟩
 have hl : L.getLast? = some x := by rw [List.getLast?_eq_getElem?, ← hn, hk]; exact hx
 have d0 := h.words k x hx
 have e1 : IntKind.i64.wrap ((n : Int) - 1) = (k : Int) := by rw [IntWalk.i64_in _ (by omega)]; omega
 have i1 : (k : Int) < n := by omega
 have i2 : k < n := by omega
 have HL : Hid (lastLl L = sameT x llT) := by unfold Hid lastLl; rw [hl]
 have bl : (x.toList == [108, 108]) = sameT x llT := same_const x [108, 108]
 have CW := Lib.hid (wideR_any h n cc hn)
 have CO := Lib.hid (oneR_any h n cc hn h1 h8 hcc)
 have HH := Lib.hid h
 clear h hn h1 h8 hcc hk hx hl
 by_cases hs : sameT x llT = true
 ·have HG : Hid (slotsR L = (wideR L).map fun p => [p.1, p.2]) := by unfold Hid slotsR; rw [HL.out, hs]; exact rfl
  rw [hs] at bl
  clear hs HL CO
  generalize wideR L = tR at *
  go_enter Tryz.func15, Tryz.ntmps15
  go_wp2_with (first | (go_at_call 24; refine CW.out.mono ?_; rintro e w1 ⟨⟨o, d, s, f, m⟩, ⟨o', d', s', f', m'⟩, rfl, hr, hx⟩; have HR := Lib.hid hr; have HX := Lib.hid hx; clear hr hx; simp only))
  have B : Hid (Blk (w1.alloc (.cells (pairC ⟨o, d, s, f, m⟩ ⟨o', d', s', f', m'⟩) pairT)) w1.heap.size pairT (pairC ⟨o, d, s, f, m⟩ ⟨o', d', s', f', m'⟩)) := Blk.new _ _ _
  go_ret
  refine ⟨w1.heap.size, 2, [⟨o, d, s, f, m⟩, ⟨o', d', s', f', m'⟩], rfl, Nat.le_refl _, Nat.le_refl _, ?_, HR.out.keeps.size, ?_, fun z hz => ?_⟩
  ·rw [HG.out, Option.isSome_map]
   exact HR.out.on (below_alloc _ _)
  ·intro i hi
   refine ⟨w1.heap.size, 0, rfl, by simp, ?_⟩
   have hi' : i < 2 := hi
   rcases (by omega : i = 0 ∨ i = 1) with rfl | rfl
   ·exact ⟨B.out.cell 0, B.out.cell 1, B.out.cell 2, B.out.cell 3, B.out.cell 4⟩
   ·exact ⟨B.out.cell 5, B.out.cell 6, B.out.cell 7, B.out.cell 8, B.out.cell 9⟩
  ·rw [HG.out] at hz
   obtain ⟨p, hp, rfl⟩ := Option.map_eq_some_iff.1 hz
   rw [← HX.out p hp]
 ·have hs' : sameT x llT = false := by simpa using hs
  have HG : Hid (slotsR L = (oneR L).map fun x => [x]) := by unfold Hid slotsR; rw [HL.out, hs']; exact rfl
  rw [hs'] at bl
  clear hs hs' HL CW
  generalize oneR L = tR at *
  go_enter Tryz.func15, Tryz.ntmps15
  go_wp2_with (first | (go_at_call 25; refine CO.out.mono ?_; rintro e w1 ⟨⟨o, d, s, f, m⟩, rfl, hr, hx⟩; have HR := Lib.hid hr; have HX := Lib.hid hx; clear hr hx; simp only))
  have B : Hid (Blk (w1.alloc (.cells (inC o d s f m) inT)) w1.heap.size inT (inC o d s f m)) := Blk.new _ _ _
  go_ret
  refine ⟨w1.heap.size, 1, [⟨o, d, s, f, m⟩], rfl, Nat.le_refl _, by simp, ?_, HR.out.keeps.size, ?_, fun z hz => ?_⟩
  ·rw [HG.out, Option.isSome_map]
   exact HR.out.on (below_alloc _ _)
  ·intro i hi
   refine ⟨w1.heap.size, 0, rfl, by simp, ?_⟩
   have hi' : i < 1 := hi
   obtain rfl : i = 0 := by omega
   exact ⟨B.out.cell 0, B.out.cell 1, B.out.cell 2, B.out.cell 3, B.out.cell 4⟩
  ·rw [HG.out] at hz
   obtain ⟨p, hp, rfl⟩ := Option.map_eq_some_iff.1 hz
   rw [HX.out p hp]
/-- The slots that a line stands for; none: it is none of the table. -/
def lineR (s : ByteArray) : Option (List Slot) := match wordsS s with
 | none => none
 | some [] => some []
 | some (a :: L) => slotsR (a :: L)
theorem extract_le (s : ByteArray) (i j : Nat) (hj : j ≤ s.size) : (s.extract i j).size ≤ s.size := by rw [ByteArray.size_extract]; omega
theorem wordsL_small {s : ByteArray} : ∀ {l : List UInt8} {at' gap : Nat} {ws : List ByteArray} {from' : Option Nat} {o : List ByteArray},
  at' + l.length ≤ s.size → (∀ x ∈ ws, x.size ≤ s.size) → wordsL s l at' ws from' gap = some o → ∀ x ∈ o, x.size ≤ s.size
 | [], at', gap, ws, none, o, hl, h, e => by
  rw [wordsL] at e; cases e; exact h
 | [], at', gap, ws, some f, o, hl, h, e => by
  rw [wordsL] at e; cases e
  intro x hx
  rcases List.mem_append.1 hx with hx | hx
  ·exact h x hx
  ·rw [List.mem_singleton] at hx; subst hx; exact extract_le s _ _ (Nat.le_refl _)
 | b :: r, at', gap, ws, some f, o, hl, h, e => by
  rw [wordsL] at e
  have hl' : at' + 1 + r.length ≤ s.size := by simp at hl; omega
  split at e
  ·refine wordsL_small hl' (fun x hx => ?_) e
   rcases List.mem_append.1 hx with hx | hx
   ·exact h x hx
   ·rw [List.mem_singleton] at hx; subst hx; exact extract_le s _ _ (by omega)
  ·exact wordsL_small hl' h e
 | b :: r, at', gap, ws, none, o, hl, h, e => by
  rw [wordsL] at e
  have hl' : at' + 1 + r.length ≤ s.size := by simp at hl; omega
  split at e
  ·exact wordsL_small hl' h e
  ·split at e
   ·cases e
   ·exact wordsL_small hl' h e
theorem wordsS_small {s : ByteArray} {L : List ByteArray} (h : wordsS s = some L) : ∀ x ∈ L, x.size ≤ s.size := by
 unfold wordsS wordsAt at h
 exact wordsL_small (by rw [List.drop_zero, ← Lib.size_eq]; omega) (by simp) h
/-- The slots that are answered lie behind A. -/
def LineG (w : World) (S : Option (List Slot)) (e : Ending) (w' : World) : Prop :=
 Below w.heap.size w w' ∧ ∃ (A : Option Addr) (c : Nat) (X : List Slot), e = .returned (.tuple #[.slice A X.length c, .bool S.isSome]) ∧ X.length ≤ 2 ∧ (A = none → X = [] ∧ c = 0) ∧ (∀ a, A = some a → ∃ q, a = ⟨q, 0, none⟩) ∧ Slots w' A X.length (nthS X) ∧ ∀ z, S = some z → X = z
theorem LineG.nil {w w' : World} {S : Option (List Slot)} (hb : Below w.heap.size w w') (h : ∀ z, S = some z → z = []) {t : Bool} (ht : S.isSome = t) : LineG w S (.returned (.tuple #[.slice none 0 0, .bool t])) w' :=
 ⟨hb, none, 0, [], by rw [ht]; rfl, by decide, fun _ => ⟨rfl, rfl⟩, fun a h => (by cases h), fun i hi => absurd hi (Nat.not_lt_zero _), fun z hz => (h z hz).symm⟩
set_option maxHeartbeats 4000000 in
theorem readLine_any (s : ByteArray) (hz : s.size < 4611686018427387904) (w : World) (hT : Tabs w) :
  Calls Tryz.prog 9 #[.string s] w (LineG w (lineR s)) := by
 have CWo := Lib.hid (words_any s hz w)
 rcases hw : wordsS s with _ | L
 ·have HG : Hid (lineR s = none) := by unfold Hid lineR; rw [hw]
  rw [hw] at CWo
  have CWo : Hid (Calls Tryz.prog 14 #[.string s] w fun e w' => ∃ V, e = .returned (.tuple #[V, .bool false]) ∧ Below w.heap.size w w' ∧ Strs w' w.heap.size V []) := CWo
  clear hw hz hT
  go_enter Tryz.func9, Tryz.ntmps9
  go_wp2_with (first | (go_at_call 14; refine CWo.out.mono ?_; rintro e w1 ⟨V, rfl, hb, hst⟩; obtain ⟨A, c, rfl⟩ := strs_shape hst; have HB := Lib.hid hb; clear hb hst))
  go_ret2
  rw [HG.out]
  exact LineG.nil HB.out (fun z hz => by cases hz) rfl
 ·rcases L with _ | ⟨a, L⟩
  ·have HG : Hid (lineR s = some []) := by unfold Hid lineR; rw [hw]
   rw [hw] at CWo
   have CWo : Hid (Calls Tryz.prog 14 #[.string s] w fun e w' => ∃ V, e = .returned (.tuple #[V, .bool true]) ∧ Below w.heap.size w w' ∧ Strs w' w.heap.size V []) := CWo
   clear hw hz hT
   go_enter Tryz.func9, Tryz.ntmps9
   go_wp2_with (first | (go_at_call 14; refine CWo.out.mono ?_; rintro e w1 ⟨V, rfl, hb, hst⟩; obtain ⟨A, c, rfl⟩ := strs_shape hst; have HB := Lib.hid hb; clear hb hst))
   go_ret2
   rw [HG.out]
   exact LineG.nil HB.out (fun z hz => by cases hz; rfl) rfl
  ·have HG : Hid (lineR s = slotsR (a :: L)) := by unfold Hid lineR; rw [hw]
   have h8 := wordsS_le hw
   have hsm := wordsS_small hw
   rw [hw] at CWo
   have CWo : Hid (Calls Tryz.prog 14 #[.string s] w fun e w' => ∃ V, e = .returned (.tuple #[V, .bool true]) ∧ Below w.heap.size w w' ∧ Strs w' w.heap.size V (a :: L)) := CWo
   have hne : ((((a :: L).length : Nat) : Int) == 0) = false := by rw [List.length_cons]; exact beq_false_of_ne (by omega)
   have HT := Lib.hid hT
   have HSM : Hid (∀ x ∈ a :: L, x.size ≤ 4611686018427387904) := fun x hx => by have := hsm x hx; omega
   have H8 := Lib.hid h8
   have H1 : Hid (1 ≤ (a :: L).length) := by simp [Hid]
   clear hw hz hT h8 hsm
   generalize a :: L = M at *
   generalize hN : M.length = N at *
   have HN := Lib.hid hN
   clear hN
   have CSl := Lib.hid (fun (w0 W : World) (y g cc : Nat) (h : Rd w0 W y false g 0 M) (hcc : N ≤ cc) => slotsR_any h N cc HN.out.symm H1.out H8.out hcc)
   generalize slotsR M = S at *
   have hne' : ((N : Int) == 0) = false := hne
   go_enter Tryz.func9, Tryz.ntmps9
   go_upto_region 2 with (first | (go_at_call 14; refine CWo.out.mono ?_; rintro e w1 ⟨V, rfl, hb, hst⟩; have HB := Lib.hid hb; have HST := Lib.hid hst; clear hb hst; rcases strs_form HST.out with ⟨_, hm⟩ | ⟨g, c, rfl, hg1, hlc, hcm, hglt, hcell⟩; (exact absurd H1.out (by rw [← HN.out, hm]; decide)); have HCL := Lib.hid hcell; have HGL := Lib.hid hglt; have HLC : Hid (N ≤ c) := HN.out ▸ hlc; clear hg1 hlc hcm hglt hcell HST; rw [HN.out]))
   have HR : Hid (Rd w (w1.alloc (.cells #[.bool false] rdT)) w1.heap.size false g 0 M) := ⟨HB.out.on (below_alloc _ _), HB.out.size, HT.out, Blk.new _ _ _, fun i s hi => by rw [Nat.zero_add]; exact ((below_alloc w1 _).cell (p := ⟨g, i, none⟩) HGL.out).trans (HCL.out i s hi), Nat.lt_of_lt_of_le HGL.out (below_alloc w1 (.cells #[.bool false] rdT)).size, Nat.ne_of_lt HGL.out, HSM.out⟩
   rcases S with _ | z
   ·go_wp2_with (first | (go_at_call 15; refine (CSl.out _ _ _ _ _ HR.out HLC.out).mono ?_; rintro e w3 ⟨q, cq, X, rfl, hxc, hx2, hr, hq, hsl, hx⟩; have HRD := Lib.hid hr; have y0 : w3.cell? ⟨w1.heap.size, 0, none⟩ = some (.bool true) := hr.blk.cell 0; clear hxc hx2 hr hq hsl hx))
    go_ret2
    rw [HG.out]
    exact LineG.nil (HR.out.below.trans (HRD.out.keeps.below (fun k hk => by have : k = w1.heap.size := hk; subst this; exact HR.out.hy) HR.out.below.size)) (fun z hz => by cases hz) rfl
   ·go_wp2_with (first | (go_at_call 15; refine (CSl.out _ _ _ _ _ HR.out HLC.out).mono ?_; rintro e w3 ⟨q, cq, X, rfl, hxc, hx2, hr, hq, hsl, hx⟩; have HRD := Lib.hid hr; have HX2 := Lib.hid hx2; have HSL := Lib.hid hsl; have HX := Lib.hid hx; have y0 : w3.cell? ⟨w1.heap.size, 0, none⟩ = some (.bool false) := hr.blk.cell 0; clear hxc hx2 hr hq hsl hx))
    go_ret2
    rw [HG.out]
    exact ⟨HR.out.below.trans (HRD.out.keeps.below (fun k hk => by have : k = w1.heap.size := hk; subst this; exact HR.out.hy) HR.out.below.size), some ⟨q, 0, none⟩, cq, X, rfl, HX2.out, fun h => (by cases h), fun a h => by cases h; exact ⟨q, rfl⟩, HSL.out, HX.out⟩
end Go.Proofs.YtemiklbkfogjeaaGreatDoor
namespace Go.Proofs.YtemiklbkfogjeaaGreatDoor
open Go Go.RowKit Go.Maps
set_option linter.unusedVariables false
def cellsAll (X : Nat → Slot) (n : Nat) : List Value := (List.range n).flatMap fun k => (X k).cells
theorem cellsAll_succ (X : Nat → Slot) (n : Nat) : cellsAll X (n + 1) = cellsAll X n ++ (X n).cells := by simp [cellsAll, List.range_succ]
theorem cellsAll_length (X : Nat → Slot) (n : Nat) : (cellsAll X n).length = n * 5 := by
 induction n with
 | zero => rfl
 | succ n ih => rw [cellsAll_succ, List.length_append, ih]; simp [Slot.cells]; omega
theorem cellsAll_get (X : Nat → Slot) : ∀ (n k j : Nat), k < n → j < 5 → (cellsAll X n)[k * 5 + j]? = (X k).cells[j]?
 | 0, k, j, hk, _ => by omega
 | n + 1, k, j, hk, hj => by
  rw [cellsAll_succ]
  have hl := cellsAll_length X n
  rcases Nat.lt_or_ge k n with h | h
  ·rw [List.getElem?_append_left (by omega)]
   exact cellsAll_get X n k j h hj
  ·have : k = n := by omega
   subst this
   rw [List.getElem?_append_right (by omega), show k * 5 + j - (cellsAll X k).length = j by omega]
theorem cellsAll_one (X : Nat → Slot) (n : Nat) (u : Value) (h : u ∈ cellsAll X n) : u.oneCell' = true := by
 simp only [cellsAll, List.mem_flatMap, List.mem_range, Slot.cells, List.mem_cons, List.not_mem_nil, or_false] at h
 obtain ⟨k, _, h⟩ := h
 rcases h with rfl | rfl | rfl | rfl | rfl <;> rfl
/-- The one list, then the other. -/
def both (X Y : Nat → Slot) (n : Nat) : Nat → Slot := fun i => if i < n then X i else Y (i - n)
theorem slots_of_own {w : World} {base n : Nat} {v : Value} {X : Nat → Slot} (h : w.ownsRow base 38 5 v n (cellsAll X n)) : ∃ A c, v = .slice A n c ∧ Slots w A n X := by
 obtain ⟨A, c, rfl, hc⟩ := own_form_any h
 refine ⟨A, c, rfl, fun i hi => ?_⟩
 obtain ⟨g, rfl, hg, hcell⟩ := hc (by omega)
 refine ⟨g, 0, rfl, hg, ?_⟩
 rw [Nat.zero_add]
 exact ⟨hcell _ _ (cellsAll_get X n i 0 hi (by omega)), hcell _ _ (cellsAll_get X n i 1 hi (by omega)), hcell _ _ (cellsAll_get X n i 2 hi (by omega)), hcell _ _ (cellsAll_get X n i 3 hi (by omega)), hcell _ _ (cellsAll_get X n i 4 hi (by omega))⟩
/-- An append of a list of slots, nil let in, to a row of the call's own. -/
theorem append_slots {base : Nat} {w : World} {v : Value} {n m c : Nat} {xs : List Value} {A : Option Addr} {Y : Nat → Slot} (hb : base ≤ w.heap.size) (ho : w.ownsRow base 38 5 v n xs) (hY : Slots w A m Y) (hA : A = none → m = 0 ∧ c = 0) (hnm : n + m ≤ 1099511627776) :
  ∃ v' w', (Builtin.append_ #[22, 22] 22 #[v, .slice A m c]).run Tryz.prog w = .ok v' w' ∧ w'.ownsRow base 38 5 v' (n + m) (xs ++ cellsAll Y m) ∧ ∃ row, w.grownBy w' row ∧ ∀ k, row = some k → base ≤ k := by
 obtain ⟨i0, hi, hz0, hz1, hz2⟩ := info_parts info37
 rcases A with _ | ad
 ·obtain ⟨rfl, rfl⟩ := hA rfl
  refine ⟨v, w, run_append_owned_none w base _ _ _ i0 5 Tryz.underlying22 hi v n xs ho, ?_, none, World.grownBy.refl w none, fun k e => (by cases e)⟩
  rw [Nat.add_zero, show cellsAll Y 0 = [] from rfl, List.append_nil]
  exact ho
 ·obtain ⟨v', w', hr, h1, h2, _, _⟩ := run_append_own_at (P := Tryz.prog) w base 22 22 38 i0 (.agg #[.int .i64 0, .int .i64 0, .int .i64 0, .int .i64 0, .int .i64 0]) 5 40 Tryz.underlying22 hi hz0 hz1 hz2 rfl (by decide) v n xs ho ad m c (cellsAll Y m) (cellsAll_length Y m) (fun j u hj => by
   have hlt : j < m * 5 := by
    have := (List.getElem?_eq_some_iff.1 hj).1
    rwa [cellsAll_length] at this
   obtain ⟨b, off, e, _, c0, c1, c2, c3, c4⟩ := hY (j / 5) (by omega)
   obtain rfl := Option.some.inj e
   rw [Go.WideShapes.add_plain]
   have e5 : j = j / 5 * 5 + j % 5 := by omega
   rw [e5, cellsAll_get Y m (j / 5) (j % 5) (by omega) (by omega)] at hj
   have hr : j % 5 = 0 ∨ j % 5 = 1 ∨ j % 5 = 2 ∨ j % 5 = 3 ∨ j % 5 = 4 := by omega
   rcases hr with h | h | h | h | h <;> rw [h] at hj <;> simp only [Slot.cells, List.getElem?_cons_zero, List.getElem?_cons_succ, Option.some.injEq] at hj <;> subst hj
   ·rw [show off + j = off + j / 5 * 5 by omega]; exact c0
   ·rw [show off + j = off + j / 5 * 5 + 1 by omega]; exact c1
   ·rw [show off + j = off + j / 5 * 5 + 2 by omega]; exact c2
   ·rw [show off + j = off + j / 5 * 5 + 3 by omega]; exact c3
   ·rw [show off + j = off + j / 5 * 5 + 4 by omega]; exact c4) (cellsAll_one Y m) (by unfold maxLen; omega) (by omega) hb
  exact ⟨v', w', hr, h1, _, h2, fun k e => (ho.lt k e).1⟩
end Go.Proofs.YtemiklbkfogjeaaGreatDoor
namespace Go.Proofs.YtemiklbkfogjeaaGreatDoor
open Go Go.RowKit Go.Maps Go.Shelf
set_option linter.unusedVariables false
set_option linter.unusedSimpArgs false
attribute [local go_sem] Oper.semAt_some
/-- The lines of a text. -/
def linesL : List UInt8 → List (List UInt8)
 | [] => [[]]
 | b :: r => if b = 10 then [] :: linesL r else match linesL r with
  | [] => [[b]]
  | x :: l => (b :: x) :: l
def linesOf (s : ByteArray) : List ByteArray := (linesL s.data.toList).map bstr
theorem linesL_ne (l : List UInt8) : linesL l ≠ [] := by
 cases l with
 | nil => simp [linesL]
 | cons b r =>
  unfold linesL
  split
  ·simp
  ·split <;> simp
theorem linesL_none : ∀ {l : List UInt8}, (∀ k : Nat, l[k]? ≠ some 10) → linesL l = [l]
 | [], _ => rfl
 | b :: r, h => by
  have hb : b ≠ 10 := fun e => h 0 (by rw [e]; rfl)
  have hr := linesL_none (l := r) fun k => h (k + 1)
  unfold linesL
  rw [if_neg hb, hr]
theorem linesL_some : ∀ {l : List UInt8} {o : Nat}, l[o]? = some 10 → (∀ k : Nat, k < o → l[k]? ≠ some 10) → linesL l = l.take o :: linesL (l.drop (o + 1))
 | [], o, h, _ => by simp at h
 | b :: r, 0, h, _ => by
  have hb : b = 10 := by simpa using h
  conv => lhs; unfold linesL
  rw [if_pos hb]
  rfl
 | b :: r, o + 1, h, hk => by
  have hb : b ≠ 10 := fun e => hk 0 (by omega) (by rw [e]; rfl)
  have hr := linesL_some (l := r) (o := o) (by simpa using h) fun k hlt => by have := hk (k + 1) (by omega); simpa using this
  conv => lhs; unfold linesL
  rw [if_neg hb, hr]
  rfl
theorem linesL_len : ∀ l : List UInt8, (linesL l).length ≤ l.length + 1
 | [] => by simp [linesL]
 | b :: r => by
  have := linesL_len r
  unfold linesL
  split
  ·simp; omega
  ·split
   ·simp
   ·rename_i x l h
    rw [h] at this
    simp at this ⊢
    omega
theorem linesOf_len (s : ByteArray) : (linesOf s).length ≤ s.size + 1 := by
 unfold linesOf
 rw [List.length_map]
 have := linesL_len s.data.toList
 rw [← Lib.size_eq] at this
 exact this
theorem extract_bstr (s : ByteArray) (i j : Nat) : s.extract i j = bstr ((s.data.toList.take j).drop i) := by
 apply ByteArray.ext
 rw [ByteArray.data_extract]
 apply Array.ext'
 rw [Array.toList_extract]
 simp [bstr, List.extract_eq_take_drop, List.drop_take]
theorem bstr_data (s : ByteArray) : bstr s.data.toList = s := by
 apply ByteArray.ext
 simp [bstr]
/-- What is asked first of the rest of a text. -/
theorem lines_ways (r : ByteArray) : (Lib.indexByte r.data.toList 10 = -1 ∧ linesOf r = [r]) ∨
  ∃ o : Nat, Lib.indexByte r.data.toList 10 = (o : Int) ∧ o < r.size ∧ linesOf r = r.extract 0 o :: linesOf (r.extract (o + 1) r.size) := by
 have h := Lib.indexByte_ge r.data.toList 10
 rcases (by omega : Lib.indexByte r.data.toList 10 = -1 ∨ 0 ≤ Lib.indexByte r.data.toList 10) with h1 | h1
 ·refine .inl ⟨h1, ?_⟩
  unfold linesOf
  rw [linesL_none (Lib.indexByte_none h1), List.map_cons, bstr_data, List.map_nil]
 ·obtain ⟨o, ho⟩ := Int.eq_ofNat_of_zero_le h1
  obtain ⟨h2, h3⟩ := Lib.indexByte_some ho
  have hlt : o < r.size := by
   rw [Lib.size_eq]
   exact (List.getElem?_eq_some_iff.1 h2).1
  refine .inr ⟨o, ho, hlt, ?_⟩
  unfold linesOf
  rw [linesL_some h2 h3, List.map_cons]
  have e1 : r.extract 0 o = bstr (r.data.toList.take o) := by rw [extract_bstr, List.drop_zero]
  have e2 : (r.extract (o + 1) r.size).data.toList = r.data.toList.drop (o + 1) := by
   rw [extract_bstr]
   show ((r.data.toList.take r.size).drop (o + 1)).toArray.toList = _
   rw [List.toList_toArray, List.take_of_length_le (by rw [← Lib.size_eq]; exact Nat.le_refl _)]
  rw [e1, e2]
set_option maxHeartbeats 4000000 in
/-- The statement, the iterator's walk left open. -/
theorem rangeFunc_law {F : Fence} {n : Nat} {P : Program} {g : Operand} {ps : Array Tmp} {assign body : Code} {Q : Exit → Act → World → Prop} {a : Act} {w : World}
  (hro : F.round = none) (h1 : 1 ≤ n) {gf : Nat} {lb : Array Value} (hg : a.eval g = .func (.func gf) #[] lb) (hFg : F.fn gf) (eg : ∀ args w, (callFunc gf args).run P w = .ok (.enter gf args) w)
  (h : ∀ fn, F.fn fn → ∀ rec : LoopState → Option Code → Loop, rec = (fun st pe => { state := st, pending := pe, fn, tmps := a.tmps, params := ps, assign, body, defers := w.heap.size }) → ∀ W1 : World, (w.alloc (.deferred (some []))).alloc (.loop (rec .ready none)) = W1 → CallsIn F (n - 1) P gf (#[.func (.yield (w.heap.size + 1)) #[] #[]] ++ lb) W1
   (rangePost F n P (w.heap.size + 1) Q { a with defers := [{ target := .collected w.heap.size, args := #[] }] ++ a.defers })) :
  (Code.rangeFunc g ps assign body).wpIn F n P Q a w := by
 refine wpIn_rangeFunc ?_
 intro fn hfn
 rw [hro]
 obtain ⟨rec, hrec⟩ : ∃ rec : LoopState → Option Code → Loop, rec = fun st pe => { state := st, pending := pe, fn, tmps := a.tmps, params := ps, assign, body, defers := w.heap.size } := ⟨_, rfl⟩
 obtain ⟨W1, hW1⟩ : ∃ W1, (w.alloc (.deferred (some []))).alloc (.loop (rec .ready none)) = W1 := ⟨_, rfl⟩
 have hh := h fn hfn rec hrec W1 hW1
 refine ⟨w.heap.size + 1, [{ target := .collected w.heap.size, args := #[] }], W1, { target := .fn (.func gf) lb, args := #[.func (.yield (w.heap.size + 1)) #[] #[]] }, W1, gf,
  #[.func (.yield (w.heap.size + 1)) #[] #[]] ++ lb, W1, ?_, ?_, ?_, ?_, fun _ => h1, ?_⟩
 ·rw [← hW1, hrec]; exact run_enterLoop_outer _ _ _ _ _
 ·simp only [resolve, hg]
  simp [go_sem]
 ·intro f' hf'
  simp [Target.leads] at hf'
  subst hf'
  exact hFg
 ·simp [invoke, go_sem, eg]
 ·with_reducible exact hh
def leftS (B : Nat) (w : World) : Nat := match w.cell? ⟨B, 0, none⟩ with
 | some (.string r) => r.size
 | _ => 0
set_option maxRecDepth 100000 in
set_option maxHeartbeats 4000000 in
/-- The iterator of SplitSeq. -/
theorem split_in (l B : Nat) (J : List ByteArray → ByteArray → World → Prop) (Jx : List ByteArray → World → Prop)
  (hc : ∀ pre r W, J pre r W → W.cell? ⟨B, 0, none⟩ = some (.string r) ∧ W.frozen? ⟨B, 0, none⟩ = false ∧ W.cell? ⟨B + 1, 0, none⟩ = some (.string ⟨#[10]⟩) ∧ W.cell? ⟨B + 2, 0, none⟩ = some (.int .i64 0) ∧ r.size ≤ 4611686018427387904)
  (hset : ∀ pre r W r', J pre r W → r'.size ≤ r.size → J pre r' (W.setCell ⟨B, 0, none⟩ (.string r')))
  (s : ByteArray) (hY : ∀ pre r x W1, J pre r W1 → x.size ≤ r.size → (∃ rest, pre ++ x :: rest = linesOf s) → YieldAt Fence.wide 0 Tryz.prog l #[.string x] W1 fun e W' => (e = .returned (.bool true) ∧ J (pre ++ [x]) r W') ∨ (e = .returned (.bool false) ∧ Jx (pre ++ [x]) W'))
  (W : World) (h0 : J [] s W) :
  CallsIn Fence.wide (2 - 1) Tryz.prog 21 (#[.func (.yield l) #[] #[]] ++ #[.pointer (some ⟨B + 1, 0, none⟩), .pointer (some ⟨B, 0, none⟩), .pointer (some ⟨B + 2, 0, none⟩)]) W fun e W' =>
   (∃ v, e = .returned v) ∧ ((∃ r, J (linesOf s) r W') ∨ ∃ pre, pre <+: linesOf s ∧ Jx pre W') := by
 have hro : Fence.wide.round = none := rfl
 obtain ⟨q1, q2, q3, q4, q5⟩ := hc _ _ _ h0
 change CallsIn _ 1 _ _ #[.func (.yield l) #[] #[], .pointer (some ⟨B + 1, 0, none⟩), .pointer (some ⟨B, 0, none⟩), .pointer (some ⟨B + 2, 0, none⟩)] W _
 refine callsIn_of_wp Tryz.func21 rfl trivial ?_ hro
 simp only [Tryz.ntmps21, List.size_toArray, List.length_cons, List.length_nil, Nat.reduceAdd, Nat.reduceSub, Array.replicate_succ, Array.replicate_zero, List.push_toArray, List.append_toArray, List.nil_append, List.cons_append]
 gi_wp2
 have hneB : ∀ w, ¬ (B = B + w + 1) := fun w => by omega
 gi_loopw [7, 8] (fun _ _ wr => ∃ (pre : List ByteArray) (r : ByteArray), J pre r wr ∧ pre ++ linesOf r = linesOf s) (fun _ _ wr => leftS B wr)
 case atStart => exact ⟨[], s, h0, rfl⟩
 case round =>
  obtain ⟨pre, r, hJ, hD⟩ := hrel
  obtain ⟨q1, q2, q3, q4, q5⟩ := hc _ _ _ hJ
  have HD := Lib.hid hD
  have HJ := Lib.hid hJ
  have HQ := Lib.hid q5
  have CI := Lib.hid (fun w => Tryz.strings_Index_one r 10 w)
  have HM : Hid (leftS B wr = r.size) := by unfold Hid leftS; rw [q1]
  rcases lines_ways r with ⟨e1, e2⟩ | ⟨o, e1, e2, e3⟩
  ·have HE := Lib.hid e2
   rw [e1] at CI
   clear e1 e2 hD hJ q5
   obtain ⟨fn, tmps, assign, body, hy, hR⟩ := hY pre r r wr HJ.out (Nat.le_refl _) ⟨[], by rw [← HD.out, HE.out]⟩
   gi_wp2_with (refine ⟨trivial, ?_⟩; gi_at_call 23; refine (callsIn_wide.2 (CI.out _)).mono ?_; rintro e w1 ⟨rfl, rfl⟩)
   refine hR.mono ?_
   rintro e W3 (⟨rfl, hJ3⟩ | ⟨rfl, hJ3⟩)
   ·gi_wp2
    go_end0
    exact ⟨⟨_, rfl⟩, .inl ⟨r, by rw [← HD.out, HE.out]; exact hJ3⟩⟩
   ·gi_wp2
    go_end0
    exact ⟨⟨_, rfl⟩, .inr ⟨pre ++ [r], ⟨[], by rw [List.append_nil, ← HD.out, HE.out]⟩, hJ3⟩⟩
  ·have HE := Lib.hid e3
   have HO := Lib.hid e2
   rw [e1] at CI
   have i1 : ¬ (o : Int) < 0 := by omega
   have i2 : decide ((o : Int) < 0) = false := decide_eq_false i1
   have i3 : o ≤ r.size := by omega
   have i4 : o + 1 ≤ r.size := by omega
   have w1 : IntKind.i64.wrap ((o : Int) + 0) = (o : Int) := by rw [IntWalk.i64_in _ (by omega)]; omega
   have w2 : IntKind.i64.wrap ((o : Int) + 1) = ((o + 1 : Nat) : Int) := by rw [IntWalk.i64_in _ (by omega)]; omega
   have w3 : IntKind.i64.wrap (o : Int) = (o : Int) := IntWalk.i64_in _ (by omega)
   clear e1 e2 e3 hD hJ q5
   obtain ⟨x, hx⟩ : ∃ x, r.extract 0 o = x := ⟨_, rfl⟩
   have hxs : x.size ≤ r.size := by rw [← hx, ByteArray.size_extract]; omega
   have HX := Lib.hid hx
   obtain ⟨fn, tmps, assign, body, hy, hR⟩ := hY pre r x wr HJ.out hxs ⟨linesOf (r.extract (o + 1) r.size), by rw [← HD.out, HE.out, hx]⟩
   rw [← hx] at hy
   clear hxs hx
   gi_wp2_with (refine ⟨trivial, ?_⟩; gi_at_call 23; refine (callsIn_wide.2 (CI.out _)).mono ?_; rintro e w1 ⟨rfl, rfl⟩)
   refine hR.mono ?_
   rintro e W3 (⟨rfl, hJ3⟩ | ⟨rfl, hJ3⟩)
   ·obtain ⟨p1, p2, p3, p4, p5⟩ := hc _ _ _ hJ3
    have HJ3 := Lib.hid hJ3
    clear hJ3 p5
    gi_wp2
    go_roundw
    case rel => exact ⟨pre ++ [x], r.extract (o + 1) r.size, hset _ _ _ _ HJ3.out (by rw [ByteArray.size_extract]; omega), by rw [List.append_assoc, List.singleton_append, ← HX.out, ← HE.out, HD.out]⟩
    case measure =>
     rw [HM.out]
     have : leftS B (W3.setCell ⟨B, 0, none⟩ (.string (r.extract (o + 1) r.size))) = (r.extract (o + 1) r.size).size := by
      have hs := (hc _ _ _ (hset _ _ _ (r.extract (o + 1) r.size) HJ3.out (by rw [ByteArray.size_extract]; omega))).1
      unfold leftS
      rw [hs]
     rw [this, ByteArray.size_extract]
     have := HO.out
     omega
   ·gi_wp2
    exact bodyPost_ret (results_none rfl _ _ _) rfl ⟨⟨_, rfl⟩, .inr ⟨pre ++ [x], ⟨linesOf (r.extract (o + 1) r.size), by rw [← HD.out, HE.out, HX.out, List.append_assoc, List.singleton_append]⟩, hJ3⟩⟩
theorem splitSeq0_any (s sep : ByteArray) (w : World) :
  Calls Tryz.prog 13 #[.string s, .string sep, .int .i64 0] w fun e w' => e = .returned (.func (.func 21) #[] #[.pointer (some ⟨w.heap.size + 1, 0, none⟩), .pointer (some ⟨w.heap.size, 0, none⟩), .pointer (some ⟨w.heap.size + 2, 0, none⟩)]) ∧ w' = ((w.alloc (.cells #[.string s] strT)).alloc (.cells #[.string sep] strT)).alloc (.cells #[.int .i64 0] 3) := by
 go_enter Tryz.func13, Tryz.ntmps13
 go_wp2
 go_ret
 exact ⟨rfl, rfl⟩
theorem splitSeq_any (s sep : ByteArray) (w : World) :
  Calls Tryz.prog 8 #[.string s, .string sep] w fun e w' => e = .returned (.func (.func 21) #[] #[.pointer (some ⟨w.heap.size + 1, 0, none⟩), .pointer (some ⟨w.heap.size, 0, none⟩), .pointer (some ⟨w.heap.size + 2, 0, none⟩)]) ∧ w' = ((w.alloc (.cells #[.string s] strT)).alloc (.cells #[.string sep] strT)).alloc (.cells #[.int .i64 0] 3) := by
 have C := Lib.hid (splitSeq0_any s sep w)
 go_enter Tryz.func8, Tryz.ntmps8
 go_wp2_with (go_at_call 13; refine C.out.mono ?_; rintro e w1 ⟨rfl, rfl⟩)
 go_ret
 exact ⟨rfl, rfl⟩
end Go.Proofs.YtemiklbkfogjeaaGreatDoor
