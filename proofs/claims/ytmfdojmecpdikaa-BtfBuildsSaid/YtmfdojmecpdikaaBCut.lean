/-
  Layer 6: strings.Cut at a byte 0, strings.Clone, strings.HasPrefix.
-/
import Derived.Test.YtmfdojmecpdikaaBLeaf
import Derived.Lib.Bytealg
import Derived.Lib.UnsafeStr
import Derived.Lib.BufferWrite
import Derived.Lib.Walk
import Derived.Lib.Strings
namespace Go.Proofs.Ytmfdojmecpdikaa
open Go Go.RowKit
set_option linter.unusedVariables false
set_option linter.unusedSimpArgs false
set_option maxRecDepth 100000
/-- Where the first byte 0 stands. -/
def zeroAt (l : List UInt8) : Int := if l.contains 0 then ((l.takeWhile (· != 0)).length : Int) else -1
theorem indexByte_zero (l : List UInt8) : Lib.indexByte l 0 = zeroAt l := by
  induction l with
  | nil => rfl
  | cons a r ih =>
    unfold Lib.indexByte zeroAt
    by_cases h : a = 0
    · subst h; simp
    · have h1 : (a == 0) = false := by simpa using h
      have h2 : (a != 0) = true := by simpa using h
      have h3 : (0 == a) = false := by simpa using fun e => h e.symm
      rw [ih, h1]
      simp only [Bool.false_eq_true, if_false, List.contains_cons, h3, Bool.false_or, List.takeWhile_cons, h2, if_true, List.length_cons]
      unfold zeroAt
      split
      · rw [if_neg (by simp)]
        simp
      · rfl
set_option maxHeartbeats 1000000 in
theorem indexByte_any (s : ByteArray) (c : Int) (w : World) :
    Calls Try.prog 50 #[.string s, .int .u8 c] w fun e w' => e = .returned (.int .i64 (Lib.indexByte s.data.toList c.toNat.toUInt8)) ∧ w = w' := by
  go_enter Try.func50, Try.ntmps50
  go_wp2
  rw [run_callFunc_extern Try.func54 (by kernel_rfl) (by kernel_rfl) (by kernel_rfl) (e := Extern.BytealgIndexByte.indexByte) (by kernel_rfl), Lib.run_indexByteString]
  simp only [Result.andThen]
  rw [Oper.upon_value]
  go_wp2
  go_ret
  exact ⟨rfl, rfl⟩
theorem toList_data (s : ByteArray) : s.toList = s.data.toList := ByteArray.toList_eq s
set_option maxHeartbeats 1000000 in
theorem index_any (s : ByteArray) (hs : s.size ≤ 4611686018427387904) (w : World) :
    Calls Try.prog 49 #[.string s, .string ⟨#[0]⟩] w fun e w' => e = .returned (.int .i64 (zeroAt s.data.toList)) ∧ w = w' := by
  have C0 := Lib.hid (fun w => indexByte_any s 0 w)
  have hz : (ByteArray.mk #[0]).size = 1 := rfl
  cases h0 : ([0] == s.toList)
  · go_enter Try.func49, Try.ntmps49
    go_wp2_with (go_at_call 50; refine (C0.out _).mono ?_; rintro e w1 ⟨rfl, rfl⟩)
    go_ret
    refine ⟨?_, rfl⟩
    rw [← indexByte_zero]
    rfl
  · have h1 : s.data.toList = [0] := by rw [toList_data] at h0; exact (beq_iff_eq.1 h0).symm
    have e1 : zeroAt s.data.toList = 0 := by rw [h1]; rfl
    rw [e1]
    clear h1 e1 C0
    go_enter Try.func49, Try.ntmps49
    go_wp2_with fail
    go_ret
    exact ⟨rfl, rfl⟩
theorem list_beq (a b : ByteArray) : (a.toList == b.toList) = decide (a.data.toList = b.data.toList) := by
  rw [toList_data, toList_data, Bool.eq_iff_iff]; simp
/-- Whether l begins with p. -/
def beginsB (l p : List UInt8) : Bool := decide (p.length ≤ l.length) && decide (l.take p.length = p)
set_option maxHeartbeats 1000000 in
theorem hasPrefixL_any (s p : ByteArray) (hs : s.size ≤ 4611686018427387904) (hp : p.size ≤ 4611686018427387904) (w : World) :
    Calls Try.prog 42 #[.string s, .string p] w fun e w' => e = .returned (.bool (beginsB s.data.toList p.data.toList)) ∧ w = w' := by
  by_cases h : p.size ≤ s.size
  · have g1 : decide (p.size ≤ s.size) = true := by simpa using h
    have hh : (p.size : Int) ≤ (s.size : Int) := by omega
    have e : ((s.extract 0 p.size).toList == p.toList) = beginsB s.data.toList p.data.toList := by
      rw [list_beq]
      unfold beginsB
      rw [size_list, size_list, g1]
      simp [ByteArray.data_extract, Array.toList_extract, List.extract, size_list]
    cases hB : beginsB s.data.toList p.data.toList
    all_goals
      rw [hB] at e
      go_enter Try.func42, Try.ntmps42
      go_wp2_with fail
      go_ret
      exact ⟨rfl, rfl⟩
  · have g1 : decide (p.size ≤ s.size) = false := by simpa using h
    have e : beginsB s.data.toList p.data.toList = false := by unfold beginsB; rw [size_list, size_list, g1]; rfl
    rw [e]
    clear e
    go_enter Try.func42, Try.ntmps42
    go_wp2_with fail
    go_ret
    exact ⟨rfl, rfl⟩
set_option maxHeartbeats 1000000 in
theorem hasPrefix_any (s p : ByteArray) (hs : s.size ≤ 4611686018427387904) (hp : p.size ≤ 4611686018427387904) (w : World) :
    Calls Try.prog 34 #[.string s, .string p] w fun e w' => e = .returned (.bool (beginsB s.data.toList p.data.toList)) ∧ w = w' := by
  have C0 := Lib.hid (fun w => hasPrefixL_any s p hs hp w)
  go_enter Try.func34, Try.ntmps34
  go_wp2_with (go_at_call 42; refine (C0.out _).mono ?_; rintro e w1 ⟨rfl, rfl⟩)
  go_ret
  exact ⟨rfl, rfl⟩
def has0 (l : List UInt8) : Bool := l.contains 0
def upTo0 (l : List UInt8) : List UInt8 := l.takeWhile (· != 0)
def cutRest (l : List UInt8) : ByteArray := if has0 l = true then (bstr l).extract ((upTo0 l).length + 1) (bstr l).size else ⟨#[]⟩
def PostCut (w : World) (l : List UInt8) (e : Ending) (w' : World) : Prop := e = .returned (.tuple #[.string (bstr (upTo0 l)), .string (cutRest l), .bool (has0 l)]) ∧ ∃ n, w' = w.drewN n
theorem zeroAt_lo (l : List UInt8) (h : l.contains 0 = true) : zeroAt l = ((l.takeWhile (· != 0)).length : Int) ∧ (l.takeWhile (· != 0)).length < l.length := by
  refine ⟨by unfold zeroAt; rw [if_pos h], ?_⟩
  induction l with
  | nil => cases h
  | cons a r ih =>
    by_cases ha : a = 0
    · subst ha; simp
    · have h2 : (a != 0) = true := by simpa using ha
      rw [List.takeWhile_cons, h2]
      simp only [if_true, List.length_cons]
      have h3 : (0 == a) = false := by simpa using fun e => ha e.symm
      rw [List.contains_cons, h3, Bool.false_or] at h
      have := ih h
      omega
theorem take_while (l : List UInt8) : l.take (l.takeWhile (· != 0)).length = l.takeWhile (· != 0) := by
  induction l with
  | nil => rfl
  | cons a r ih =>
    rw [List.takeWhile_cons]
    split
    · simp [ih]
    · rfl
theorem while_all (l : List UInt8) (h : l.contains 0 = false) : l.takeWhile (· != 0) = l := by
  induction l with
  | nil => rfl
  | cons a r ih =>
    rw [List.contains_cons] at h
    simp only [Bool.or_eq_false_iff] at h
    have h2 : (a != 0) = true := by have := h.1; simp at this ⊢; exact fun e => this e.symm
    rw [List.takeWhile_cons, h2, if_pos rfl, ih h.2]
set_option maxHeartbeats 1000000 in
theorem cutL_any (l : List UInt8) (hs : l.length ≤ 4611686018427387904) (w : World) :
    Calls Try.prog 47 #[.string (bstr l), .string ⟨#[0]⟩] w (PostCut w l) := by
  have CI := Lib.hid (fun w => index_any (bstr l) (by rw [bstr_size]; exact hs) w)
  rw [bstr_data] at CI
  have hz : (ByteArray.mk #[0]).size = 1 := rfl
  have hsz := bstr_size l
  cases hc : l.contains 0
  · have e1 : zeroAt l = -1 := by unfold zeroAt; rw [hc]; rfl
    have HW := Lib.hid (while_all l hc)
    have HC := Lib.hid hc
    rw [e1] at CI
    clear e1 hsz hc
    go_enter Try.func47, Try.ntmps47
    go_wp2_with (go_at_call 49; refine (CI.out _).mono ?_; rintro e w1 ⟨rfl, rfl⟩)
    go_ret3
    exact ⟨by unfold cutRest; rw [show upTo0 l = l from HW.out, show has0 l = false from HC.out]; rfl, 0, rfl⟩
  · obtain ⟨e1, e2⟩ := zeroAt_lo l hc
    have e3 := take_while l
    obtain ⟨n, hn⟩ : ∃ n, n = (l.takeWhile (· != 0)).length := ⟨_, rfl⟩
    rw [← hn] at e1 e2 e3
    have hx : (bstr l).extract 0 n = bstr (l.takeWhile (· != 0)) := by rw [bstr_cut]; simp; rw [e3]
    rw [e1] at CI
    have HC := Lib.hid hc
    have i1 : (n : Int) < ((bstr l).size : Int) := by rw [bstr_size]; omega
    have i2 : (n : Int) + 1 ≤ ((bstr l).size : Int) := by omega
    have i3 : IntKind.i64.wrap ((n : Int) + 1) = (n : Int) + 1 := IntWalk.i64_in _ (by omega)
    have i4 : ((n : Int) + 1).toNat = n + 1 := by omega
    have HX := Lib.hid hx
    have HN : Hid (n = (upTo0 l).length) := hn
    clear e1 e2 e3 hn hc hsz hx
    go_enter Try.func47, Try.ntmps47
    go_wp2_with (go_at_call 49; refine (CI.out _).mono ?_; rintro e w1 ⟨rfl, rfl⟩)
    go_quiet (fail)
    go_wp2_with fail
    go_ret3
    exact ⟨by unfold cutRest; rw [show bstr (upTo0 l) = _ from HX.out.symm, show has0 l = true from HC.out, ← HN.out]; rfl, _, rfl⟩
set_option maxHeartbeats 1000000 in
theorem cut_any (l : List UInt8) (hs : l.length ≤ 4611686018427387904) (w : World) :
    Calls Try.prog 44 #[.string (bstr l), .string ⟨#[0]⟩] w (PostCut w l) := by
  have CI := Lib.hid (fun w => cutL_any l hs w)
  go_enter Try.func44, Try.ntmps44
  go_wp2_with (go_at_call 47; refine (CI.out _).mono ?_; rintro e w1 ⟨rfl, n, rfl⟩)
  go_ret3
  exact ⟨rfl, n, rfl⟩
set_option maxHeartbeats 4000000 in
theorem cloneL_any (s : ByteArray) (w : World) (hlim : s.size ≤ 281474976710656) :
    Calls Try.prog 48 #[.string s] w fun e w' => e = .returned (.string s) ∧ Below w.heap.size w w' := by
  by_cases h0 : s.size = 0
  · have hs : s = ⟨#[]⟩ := by
      apply ByteArray.ext
      exact Array.eq_empty_of_size_eq_zero h0
    subst hs
    go_enter Try.func48, Try.ntmps48
    go_wp2
    go_ret
    exact ⟨rfl, Below.refl _ _⟩
  · obtain ⟨i0, hi, hz0, hz1, hz2⟩ := info_parts info8
    have hinfo : (Try.prog.info? 5).map (·.size) = some 1 := by rw [hi]; simp [hz1]
    have hco : Try.prog.cellsOf 5 = 1 := by simp [Program.cellsOf, hi, hz1]
    obtain ⟨M, hM⟩ : ∃ M, M = madeCells (Value.int .u8 0).cells (((s.size : Nat) : Int).toNat * i0.size) := ⟨_, rfl⟩
    have hMs : M.size = s.size := by rw [hM, size_madeCells, hz1]; simp
    have hmk : ∀ W : World, (Instr.makeSlice 45 (.int .i64 (s.size : Int)) (.int .i64 (s.size : Int))).run Try.prog W = .ok (.slice (some ⟨W.heap.size, 0, none⟩) s.size s.size) (W.alloc (.cells M 5)) := fun W => by
      have h := run_make (P := Try.prog) W 45 5 i0 (.int .u8 0) Try.underlying45 hi hz0 .i64 .i64 (s.size : Int) (s.size : Int) (by omega) (by omega) (by rw [hz2]; omega) (by omega)
      rw [← hM] at h
      simpa using h
    clear hM
    have hcp := Lib.run_copy_row_string (P := Try.prog) (w.alloc (.cells M 5)) 45 9 3 5 w.heap.size 0 s.size s.size s M 5 Try.underlying45 hinfo (heap_alloc_new w _) (Nat.le_refl _) (by omega)
    obtain ⟨Y, hY⟩ : ∃ Y, Y = (M.toList.take 0 ++ Lib.byteCells s.data.toList ++ M.toList.drop (0 + s.size)).toArray := ⟨_, rfl⟩
    rw [← hY] at hcp
    have hYl : Y.toList = Lib.byteCells s.data.toList := by
      rw [hY, List.toList_toArray, List.take_zero, List.nil_append, List.drop_of_length_le (by rw [Array.length_toList]; omega), List.append_nil]
    have hYs : Y.size = s.size := by rw [← Array.length_toList, hYl, Lib.byteCells_length, ← Lib.size_eq]
    have hgY : ((w.alloc (.cells M 5)).setRow w.heap.size Y).heap[w.heap.size]? = some (.cells Y 5 (0, 0)) := setRow_heap _ _ M _ 5 (0, 0) (heap_alloc_new w _)
    have hne : s.data.toList ≠ [] := fun e => h0 (by rw [Lib.size_eq, e]; rfl)
    have hUS := Lib.run_unsafeString_row (P := Try.prog) ((w.alloc (.cells M 5)).setRow w.heap.size Y) 92 3 9 5 Try.underlying92 hco w.heap.size Y.size (by unfold World.shape?; rw [hgY]) s.data.toList hne (by rw [← Lib.size_eq]; omega) (by rw [← Lib.size_eq]; omega)
      (fun j x hx => Lib.cells_of_row hgY Y.size j _ (by rw [List.take_of_length_le (by rw [Array.length_toList]; exact Nat.le_refl _), hYl]; simp [Lib.byteCells, hx]))
    rw [← Lib.size_eq] at hUS
    clear hY
    go_enter Try.func48, Try.ntmps48
    go_wp2
    go_ret
    have hb1 : Below w.heap.size w (w.alloc (.cells M 5)) := (Below.refl _ w).alloc (Nat.le_refl _) _
    have hb2 : Below w.heap.size (w.alloc (.cells M 5)) ((w.alloc (.cells M 5)).setRow w.heap.size Y) := ⟨rfl, rfl, rfl, by simp, fun k hk => setRow_other _ _ _ _ (by omega)⟩
    exact ⟨rfl, Lib.below_freeze (hb1.trans hb2) (p := ⟨w.heap.size, 0, none⟩) (Nat.le_refl _) _⟩
set_option maxHeartbeats 1000000 in
theorem clone_any (s : ByteArray) (w : World) (hlim : s.size ≤ 281474976710656) :
    Calls Try.prog 46 #[.string s] w fun e w' => e = .returned (.string s) ∧ Below w.heap.size w w' := by
  have C0 := Lib.hid (fun w => cloneL_any s w hlim)
  go_enter Try.func46, Try.ntmps46
  go_wp2_with (go_at_call 48; refine (C0.out _).mono ?_; rintro e w1 ⟨rfl, hb⟩; have HB := Lib.hid hb; clear hb)
  go_ret
  exact ⟨rfl, HB.out⟩
end Go.Proofs.Ytmfdojmecpdikaa
