/-
  strings.SplitSeq at one byte: an iterator that keeps the rest of the text in a cell of its own; the statement that ranges over it.
-/
import Derived.Test.YtpjfnnlopcccaaaDoorQPB
import Derived.RangeFuncFrom
import Derived.RangeFuncBox
import Derived.RangeFuncNested
import Derived.RangeFuncBound
import Derived.RangeFuncCalls
import Derived.RangeFuncLeaves
import Derived.Shelf.Abstract
import Derived.Shelf.RegionOpen
import Derived.OwnWalkIn
import Derived.TacticsInMore
import Derived.LoopNIn
import Derived.LoopIn
import Derived.CallsIn
import Derived.Lib.IndexLaws
namespace Go.Proofs.YtpjfnnlopcccaaaDoor
open Go Go.RowKit Go.Maps Go.Shelf
set_option linter.unusedVariables false
set_option linter.unusedSimpArgs false
attribute [local go_sem] Oper.semAt_some
/-- The lines of a text. -/
def linesL : List UInt8 → List (List UInt8)
  | [] => [[]]
  | b :: r => if b = 10 then [] :: linesL r else match linesL r with
    | [] => [[b]]
    | x :: l => (b :: x) :: l
def linesOf (s : ByteArray) : List ByteArray := (linesL s.data.toList).map bstr
theorem linesL_ne (l : List UInt8) : linesL l ≠ [] := by
  cases l with
  | nil => simp [linesL]
  | cons b r =>
    unfold linesL
    split
    · simp
    · split <;> simp
theorem linesL_none : ∀ {l : List UInt8}, (∀ k : Nat, l[k]? ≠ some 10) → linesL l = [l]
  | [], _ => rfl
  | b :: r, h => by
    have hb : b ≠ 10 := fun e => h 0 (by rw [e]; rfl)
    have hr := linesL_none (l := r) fun k => h (k + 1)
    unfold linesL
    rw [if_neg hb, hr]
theorem linesL_some : ∀ {l : List UInt8} {o : Nat}, l[o]? = some 10 → (∀ k : Nat, k < o → l[k]? ≠ some 10) → linesL l = l.take o :: linesL (l.drop (o + 1))
  | [], o, h, _ => by simp at h
  | b :: r, 0, h, _ => by
    have hb : b = 10 := by simpa using h
    conv => lhs; unfold linesL
    rw [if_pos hb]
    rfl
  | b :: r, o + 1, h, hk => by
    have hb : b ≠ 10 := fun e => hk 0 (by omega) (by rw [e]; rfl)
    have hr := linesL_some (l := r) (o := o) (by simpa using h) fun k hlt => by have := hk (k + 1) (by omega); simpa using this
    conv => lhs; unfold linesL
    rw [if_neg hb, hr]
    rfl
theorem linesL_len : ∀ l : List UInt8, (linesL l).length ≤ l.length + 1
  | [] => by simp [linesL]
  | b :: r => by
    have := linesL_len r
    unfold linesL
    split
    · simp; omega
    · split
      · simp
      · rename_i x l h
        rw [h] at this
        simp at this ⊢
        omega
theorem linesOf_len (s : ByteArray) : (linesOf s).length ≤ s.size + 1 := by
  unfold linesOf
  rw [List.length_map]
  have := linesL_len s.data.toList
  rw [← Lib.size_eq] at this
  exact this
theorem extract_bstr (s : ByteArray) (i j : Nat) : s.extract i j = bstr ((s.data.toList.take j).drop i) := by
  apply ByteArray.ext
  rw [ByteArray.data_extract]
  apply Array.ext'
  rw [Array.toList_extract]
  simp [bstr, List.extract_eq_take_drop, List.drop_take]
theorem bstr_data (s : ByteArray) : bstr s.data.toList = s := by
  apply ByteArray.ext
  simp [bstr]
/-- What is asked first of the rest of a text. -/
theorem lines_ways (r : ByteArray) : (Lib.indexByte r.data.toList 10 = -1 ∧ linesOf r = [r]) ∨
    ∃ o : Nat, Lib.indexByte r.data.toList 10 = (o : Int) ∧ o < r.size ∧ linesOf r = r.extract 0 o :: linesOf (r.extract (o + 1) r.size) := by
  have h := Lib.indexByte_ge r.data.toList 10
  rcases (by omega : Lib.indexByte r.data.toList 10 = -1 ∨ 0 ≤ Lib.indexByte r.data.toList 10) with h1 | h1
  · refine .inl ⟨h1, ?_⟩
    unfold linesOf
    rw [linesL_none (Lib.indexByte_none h1), List.map_cons, bstr_data, List.map_nil]
  · obtain ⟨o, ho⟩ := Int.eq_ofNat_of_zero_le h1
    obtain ⟨h2, h3⟩ := Lib.indexByte_some ho
    have hlt : o < r.size := by
      rw [Lib.size_eq]
      exact (List.getElem?_eq_some_iff.1 h2).1
    refine .inr ⟨o, ho, hlt, ?_⟩
    unfold linesOf
    rw [linesL_some h2 h3, List.map_cons]
    have e1 : r.extract 0 o = bstr (r.data.toList.take o) := by rw [extract_bstr, List.drop_zero]
    have e2 : (r.extract (o + 1) r.size).data.toList = r.data.toList.drop (o + 1) := by
      rw [extract_bstr]
      show ((r.data.toList.take r.size).drop (o + 1)).toArray.toList = _
      rw [List.toList_toArray, List.take_of_length_le (by rw [← Lib.size_eq]; exact Nat.le_refl _)]
    rw [e1, e2]
set_option maxHeartbeats 4000000 in
/-- The statement, the iterator's walk left open. -/
theorem rangeFunc_law {F : Fence} {n : Nat} {P : Program} {g : Operand} {ps : Array Tmp} {assign body : Code} {Q : Exit → Act → World → Prop} {a : Act} {w : World}
    (hro : F.round = none) (h1 : 1 ≤ n) {gf : Nat} {lb : Array Value} (hg : a.eval g = .func (.func gf) #[] lb) (hFg : F.fn gf) (eg : ∀ args w, (callFunc gf args).run P w = .ok (.enter gf args) w)
    (h : ∀ fn, F.fn fn → ∀ rec : LoopState → Option Code → Loop, rec = (fun st pe => { state := st, pending := pe, fn, tmps := a.tmps, params := ps, assign, body, defers := w.heap.size }) → ∀ W1 : World, (w.alloc (.deferred (some []))).alloc (.loop (rec .ready none)) = W1 → CallsIn F (n - 1) P gf (#[.func (.yield (w.heap.size + 1)) #[] #[]] ++ lb) W1
      (rangePost F n P (w.heap.size + 1) Q { a with defers := [{ target := .collected w.heap.size, args := #[] }] ++ a.defers })) :
    (Code.rangeFunc g ps assign body).wpIn F n P Q a w := by
  refine wpIn_rangeFunc ?_
  intro fn hfn
  rw [hro]
  obtain ⟨rec, hrec⟩ : ∃ rec : LoopState → Option Code → Loop, rec = fun st pe => { state := st, pending := pe, fn, tmps := a.tmps, params := ps, assign, body, defers := w.heap.size } := ⟨_, rfl⟩
  obtain ⟨W1, hW1⟩ : ∃ W1, (w.alloc (.deferred (some []))).alloc (.loop (rec .ready none)) = W1 := ⟨_, rfl⟩
  have hh := h fn hfn rec hrec W1 hW1
  refine ⟨w.heap.size + 1, [{ target := .collected w.heap.size, args := #[] }], W1, { target := .fn (.func gf) lb, args := #[.func (.yield (w.heap.size + 1)) #[] #[]] }, W1, gf,
    #[.func (.yield (w.heap.size + 1)) #[] #[]] ++ lb, W1, ?_, ?_, ?_, ?_, fun _ => h1, ?_⟩
  · rw [← hW1, hrec]; exact run_enterLoop_outer _ _ _ _ _
  · simp only [resolve, hg]
    simp [go_sem]
  · intro f' hf'
    simp [Target.leads] at hf'
    subst hf'
    exact hFg
  · simp [invoke, go_sem, eg]
  · with_reducible exact hh
def leftS (B : Nat) (w : World) : Nat := match w.cell? ⟨B, 0, none⟩ with
  | some (.string r) => r.size
  | _ => 0
set_option maxRecDepth 100000 in
set_option maxHeartbeats 4000000 in
/-- The iterator of SplitSeq. -/
theorem split_in (l B : Nat) (J : List ByteArray → ByteArray → World → Prop) (Jx : List ByteArray → World → Prop)
    (hc : ∀ pre r W, J pre r W → W.cell? ⟨B, 0, none⟩ = some (.string r) ∧ W.frozen? ⟨B, 0, none⟩ = false ∧ W.cell? ⟨B + 1, 0, none⟩ = some (.string ⟨#[10]⟩) ∧ W.cell? ⟨B + 2, 0, none⟩ = some (.int .i64 0) ∧ r.size ≤ 4611686018427387904)
    (hset : ∀ pre r W r', J pre r W → r'.size ≤ r.size → J pre r' (W.setCell ⟨B, 0, none⟩ (.string r')))
    (s : ByteArray) (hY : ∀ pre r x W1, J pre r W1 → x.size ≤ r.size → (∃ rest, pre ++ x :: rest = linesOf s) → YieldAt Fence.wide 0 Tryd.prog l #[.string x] W1 fun e W' => (e = .returned (.bool true) ∧ J (pre ++ [x]) r W') ∨ (e = .returned (.bool false) ∧ Jx (pre ++ [x]) W'))
    (W : World) (h0 : J [] s W) :
    CallsIn Fence.wide (2 - 1) Tryd.prog 29 (#[.func (.yield l) #[] #[]] ++ #[.pointer (some ⟨B + 1, 0, none⟩), .pointer (some ⟨B, 0, none⟩), .pointer (some ⟨B + 2, 0, none⟩)]) W fun e W' =>
      (∃ v, e = .returned v) ∧ ((∃ r, J (linesOf s) r W') ∨ ∃ pre, pre <+: linesOf s ∧ Jx pre W') := by
  have hro : Fence.wide.round = none := rfl
  obtain ⟨q1, q2, q3, q4, q5⟩ := hc _ _ _ h0
  change CallsIn _ 1 _ _ #[.func (.yield l) #[] #[], .pointer (some ⟨B + 1, 0, none⟩), .pointer (some ⟨B, 0, none⟩), .pointer (some ⟨B + 2, 0, none⟩)] W _
  refine callsIn_of_wp Tryd.func29 rfl trivial ?_ hro
  simp only [Tryd.ntmps29, List.size_toArray, List.length_cons, List.length_nil, Nat.reduceAdd, Nat.reduceSub, Array.replicate_succ, Array.replicate_zero, List.push_toArray, List.append_toArray, List.nil_append, List.cons_append]
  gi_wp2
  have hneB : ∀ w, ¬ (B = B + w + 1) := fun w => by omega
  gi_loopw [7, 8] (fun _ _ wr => ∃ (pre : List ByteArray) (r : ByteArray), J pre r wr ∧ pre ++ linesOf r = linesOf s) (fun _ _ wr => leftS B wr)
  case atStart => exact ⟨[], s, h0, rfl⟩
  case round =>
    obtain ⟨pre, r, hJ, hD⟩ := hrel
    obtain ⟨q1, q2, q3, q4, q5⟩ := hc _ _ _ hJ
    have HD := Lib.hid hD
    have HJ := Lib.hid hJ
    have HQ := Lib.hid q5
    have CI := Lib.hid (fun w => Tryd.strings_Index_one r 10 w)
    have HM : Hid (leftS B wr = r.size) := by unfold Hid leftS; rw [q1]
    rcases lines_ways r with ⟨e1, e2⟩ | ⟨o, e1, e2, e3⟩
    · have HE := Lib.hid e2
      rw [e1] at CI
      clear e1 e2 hD hJ q5
      obtain ⟨fn, tmps, assign, body, hy, hR⟩ := hY pre r r wr HJ.out (Nat.le_refl _) ⟨[], by rw [← HD.out, HE.out]⟩
      gi_wp2_with (refine ⟨trivial, ?_⟩; gi_at_call 31; refine (callsIn_wide.2 (CI.out _)).mono ?_; rintro e w1 ⟨rfl, rfl⟩)
      refine hR.mono ?_
      rintro e W3 (⟨rfl, hJ3⟩ | ⟨rfl, hJ3⟩)
      · gi_wp2
        go_end0
        exact ⟨⟨_, rfl⟩, .inl ⟨r, by rw [← HD.out, HE.out]; exact hJ3⟩⟩
      · gi_wp2
        go_end0
        exact ⟨⟨_, rfl⟩, .inr ⟨pre ++ [r], ⟨[], by rw [List.append_nil, ← HD.out, HE.out]⟩, hJ3⟩⟩
    · have HE := Lib.hid e3
      have HO := Lib.hid e2
      rw [e1] at CI
      have i1 : ¬ (o : Int) < 0 := by omega
      have i2 : decide ((o : Int) < 0) = false := decide_eq_false i1
      have i3 : o ≤ r.size := by omega
      have i4 : o + 1 ≤ r.size := by omega
      have w1 : IntKind.i64.wrap ((o : Int) + 0) = (o : Int) := by rw [IntWalk.i64_in _ (by omega)]; omega
      have w2 : IntKind.i64.wrap ((o : Int) + 1) = ((o + 1 : Nat) : Int) := by rw [IntWalk.i64_in _ (by omega)]; omega
      have w3 : IntKind.i64.wrap (o : Int) = (o : Int) := IntWalk.i64_in _ (by omega)
      clear e1 e2 e3 hD hJ q5
      obtain ⟨x, hx⟩ : ∃ x, r.extract 0 o = x := ⟨_, rfl⟩
      have hxs : x.size ≤ r.size := by rw [← hx, ByteArray.size_extract]; omega
      have HX := Lib.hid hx
      obtain ⟨fn, tmps, assign, body, hy, hR⟩ := hY pre r x wr HJ.out hxs ⟨linesOf (r.extract (o + 1) r.size), by rw [← HD.out, HE.out, hx]⟩
      rw [← hx] at hy
      clear hxs hx
      gi_wp2_with (refine ⟨trivial, ?_⟩; gi_at_call 31; refine (callsIn_wide.2 (CI.out _)).mono ?_; rintro e w1 ⟨rfl, rfl⟩)
      refine hR.mono ?_
      rintro e W3 (⟨rfl, hJ3⟩ | ⟨rfl, hJ3⟩)
      · obtain ⟨p1, p2, p3, p4, p5⟩ := hc _ _ _ hJ3
        have HJ3 := Lib.hid hJ3
        clear hJ3 p5
        gi_wp2
        go_roundw
        case rel => exact ⟨pre ++ [x], r.extract (o + 1) r.size, hset _ _ _ _ HJ3.out (by rw [ByteArray.size_extract]; omega), by rw [List.append_assoc, List.singleton_append, ← HX.out, ← HE.out, HD.out]⟩
        case measure =>
          rw [HM.out]
          have : leftS B (W3.setCell ⟨B, 0, none⟩ (.string (r.extract (o + 1) r.size))) = (r.extract (o + 1) r.size).size := by
            have hs := (hc _ _ _ (hset _ _ _ (r.extract (o + 1) r.size) HJ3.out (by rw [ByteArray.size_extract]; omega))).1
            unfold leftS
            rw [hs]
          rw [this, ByteArray.size_extract]
          have := HO.out
          omega
      · gi_wp2
        exact bodyPost_ret (results_none rfl _ _ _) rfl ⟨⟨_, rfl⟩, .inr ⟨pre ++ [x], ⟨linesOf (r.extract (o + 1) r.size), by rw [← HD.out, HE.out, HX.out, List.append_assoc, List.singleton_append]⟩, hJ3⟩⟩
theorem splitSeq0_any (s sep : ByteArray) (w : World) :
    Calls Tryd.prog 18 #[.string s, .string sep, .int .i64 0] w fun e w' => e = .returned (.func (.func 29) #[] #[.pointer (some ⟨w.heap.size + 1, 0, none⟩), .pointer (some ⟨w.heap.size, 0, none⟩), .pointer (some ⟨w.heap.size + 2, 0, none⟩)]) ∧ w' = ((w.alloc (.cells #[.string s] strT)).alloc (.cells #[.string sep] strT)).alloc (.cells #[.int .i64 0] 3) := by
  go_enter Tryd.func18, Tryd.ntmps18
  go_wp2
  go_ret
  exact ⟨rfl, rfl⟩
theorem splitSeq_any (s sep : ByteArray) (w : World) :
    Calls Tryd.prog 13 #[.string s, .string sep] w fun e w' => e = .returned (.func (.func 29) #[] #[.pointer (some ⟨w.heap.size + 1, 0, none⟩), .pointer (some ⟨w.heap.size, 0, none⟩), .pointer (some ⟨w.heap.size + 2, 0, none⟩)]) ∧ w' = ((w.alloc (.cells #[.string s] strT)).alloc (.cells #[.string sep] strT)).alloc (.cells #[.int .i64 0] 3) := by
  have C := Lib.hid (splitSeq0_any s sep w)
  go_enter Tryd.func13, Tryd.ntmps13
  go_wp2_with (go_at_call 18; refine C.out.mono ?_; rintro e w1 ⟨rfl, rfl⟩)
  go_ret
  exact ⟨rfl, rfl⟩
end Go.Proofs.YtpjfnnlopcccaaaDoor
