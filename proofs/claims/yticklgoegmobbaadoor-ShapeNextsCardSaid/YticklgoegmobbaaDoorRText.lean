/-
  The reference's words of a line: numbers, registers, places.
-/
import Derived.Test.YticklgoegmobbaaDoorRDig
import Derived.Test.YticklgoegmobbaaDoorSLeaf2
namespace Go.Proofs.YticklgoegmobbaaDoor
open Go Go.RowKit
set_option linter.unusedVariables false
set_option maxRecDepth 100000
theorem ret_str {a b : ByteArray} (h : a.data = b.data) : Ending.returned (.string a) = .returned (.string b) := by rw [ByteArray.ext h]
def digL (n : Int) : List UInt8 := if n < 0 then [45] ++ decL (-n).toNat else decL n.toNat
theorem digL_len (n : Int) (h : -10000000000 < n ∧ n < 10000000000) : (digL n).length ≤ 11 := by
  unfold digL
  split
  · have := decL_len 9 (-n).toNat (by show (-n).toNat < 10000000000; omega)
    simp; omega
  · have := decL_len 9 n.toNat (by show n.toNat < 10000000000; omega)
    omega
theorem digL_pos (n : Int) : 0 < (digL n).length := by
  unfold digL
  split
  · simp
  · exact decL_pos _
set_option maxHeartbeats 400000 in
theorem digits_any (n : Int) (h : -10000000000 < n ∧ n < 10000000000) (w : World) :
    Calls Tryd.prog 52 #[.int .i64 n] w fun e w' => e = .returned (.string (tx (digL n))) ∧ Below w.heap.size w w' := by
  by_cases hn : n < 0
  · have g1 : decide (n < 0) = true := by simpa using hn
    have e1 : digL n = [45] ++ decL (-n).toNat := by unfold digL; rw [if_pos hn]
    have e3 : IntKind.u64.wrap (-IntKind.u64.wrap n) = (((-n).toNat : Nat) : Int) := by rw [IntKind.wrap_u64, IntKind.wrap_u64]; omega
    have CU := Lib.hid (udigits_any (-n).toNat (by omega))
    have hs : (tx (decL (-n).toNat)).size ≤ 10 := by rw [tx_size]; exact decL_len 9 _ (by show (-n).toNat < 10000000000; omega)
    rw [e1]
    have HH := Lib.hid h
    clear e1 h hn
    generalize (-n).toNat = m at *
    go_enter Tryd.func52, Tryd.ntmps52
    go_wp2_with (go_at_call 50; refine (CU.out _).mono ?_; rintro e w1 ⟨rfl, hb⟩; have HB := Lib.hid hb; clear hb)
    go_ret
    exact ⟨ret_str (by simp [tx, ByteArray.data_append]), HB.out⟩
  · have g1 : decide (n < 0) = false := by simpa using hn
    obtain ⟨m, rfl⟩ := Int.eq_ofNat_of_zero_le (show 0 ≤ n by omega)
    have e1 : digL (m : Int) = decL m := by unfold digL; rw [if_neg hn]; rfl
    have e3 : IntKind.u64.wrap (m : Int) = (m : Int) := by rw [IntKind.wrap_u64]; omega
    have CU := Lib.hid (udigits_any m (by omega))
    have hs : (tx (decL m)).size ≤ 10 := by rw [tx_size]; exact decL_len 9 _ (by show m < 10000000000; omega)
    rw [e1]
    clear e1 hn
    go_enter Tryd.func52, Tryd.ntmps52
    go_wp2_with (go_at_call 50; refine (CU.out _).mono ?_; rintro e w1 ⟨rfl, hb⟩; have HB := Lib.hid hb; clear hb)
    go_ret
    exact ⟨ret_str (by simp [tx, ByteArray.data_append]), HB.out⟩
def regIn (n : Int) : Bool := decide (0 ≤ n) && decide (n ≤ 10)
/-- A register's name; none, if it is none. -/
def regL (lead : List UInt8) (n : Int) : List UInt8 := if regIn n then lead ++ digL n else []
theorem regL_len (lead : List UInt8) (n : Int) : (regL lead n).length ≤ lead.length + 11 := by
  unfold regL regIn
  split
  · rename_i h
    simp at h
    have := digL_len n (by omega)
    simp; omega
  · simp
theorem regL_empty (lead : List UInt8) (n : Int) : (regL lead n = []) ↔ regIn n = false := by
  unfold regL
  cases h : regIn n
  · simp
  · have := digL_pos n
    simp
    intro _ hn
    rw [hn] at this
    simp at this
set_option maxHeartbeats 1000000 in
theorem reg_any (lead : List UInt8) (hl : lead.length ≤ 10) (n : Int) (w : World) :
    Calls Tryd.prog 48 #[.string (tx lead), .int .i64 n] w fun e w' => e = .returned (.string (tx (regL lead n))) ∧ Below w.heap.size w w' := by
  have hr : regIn n = (decide (0 ≤ n) && decide (n ≤ 10)) := rfl
  by_cases h0 : n < 0
  · have g1 : decide (n < 0) = true := by simpa using h0
    have e1 : regL lead n = [] := by unfold regL; rw [if_neg (by rw [hr]; simp; omega)]
    rw [e1]
    clear e1 hr
    go_enter Tryd.func48, Tryd.ntmps48
    go_wp2_with fail
    go_ret
    exact ⟨rfl, Below.refl _ w⟩
  · have g1 : decide (n < 0) = false := by simpa using h0
    by_cases h1 : 10 < n
    · have g2 : decide (10 < n) = true := by simpa using h1
      have e1 : regL lead n = [] := by unfold regL; rw [if_neg (by rw [hr]; simp; omega)]
      rw [e1]
      clear e1 hr
      go_enter Tryd.func48, Tryd.ntmps48
      go_wp2_with fail
      go_ret
      exact ⟨rfl, Below.refl _ w⟩
    · have g2 : decide (10 < n) = false := by simpa using h1
      have e1 : regL lead n = lead ++ digL n := by unfold regL; rw [if_pos (by rw [hr]; simp; omega)]
      have CD := Lib.hid (digits_any n (by omega))
      have hs : (tx (digL n)).size ≤ 11 := by rw [tx_size]; exact digL_len n (by omega)
      have hs2 : (tx lead).size ≤ 10 := by rw [tx_size]; exact hl
      rw [e1]
      clear e1 hr
      go_enter Tryd.func48, Tryd.ntmps48
      go_wp2_with (go_at_call 52; refine (CD.out _).mono ?_; rintro e w1 ⟨rfl, hb⟩; have HB := Lib.hid hb; clear hb)
      go_ret
      exact ⟨ret_str (by simp [tx, ByteArray.data_append]), HB.out⟩
def signedL (n : Int) : List UInt8 := if n < 0 then digL n else [43] ++ digL n
theorem signedL_len (n : Int) (h : -10000000000 < n ∧ n < 10000000000) : (signedL n).length ≤ 12 := by
  have := digL_len n h
  unfold signedL
  split
  · omega
  · simp; omega
set_option maxHeartbeats 1000000 in
theorem signed_any (n : Int) (h : -10000000000 < n ∧ n < 10000000000) (w : World) :
    Calls Tryd.prog 62 #[.int .i64 n] w fun e w' => e = .returned (.string (tx (signedL n))) ∧ Below w.heap.size w w' := by
  have CD := Lib.hid (digits_any n h)
  have hs : (tx (digL n)).size ≤ 11 := by rw [tx_size]; exact digL_len n h
  unfold signedL
  cases h1 : decide (n < 0)
  · have hn : ¬ n < 0 := of_decide_eq_false h1
    rw [if_neg hn]
    clear hn h
    go_enter Tryd.func62, Tryd.ntmps62
    go_wp2_with (go_at_call 52; refine (CD.out _).mono ?_; rintro e w1 ⟨rfl, hb⟩; have HB := Lib.hid hb; clear hb)
    go_ret
    exact ⟨ret_str (by simp [tx, ByteArray.data_append]), HB.out⟩
  · have hn : n < 0 := of_decide_eq_true h1
    rw [if_pos hn]
    clear hn h
    go_enter Tryd.func62, Tryd.ntmps62
    go_wp2_with (go_at_call 52; refine (CD.out _).mono ?_; rintro e w1 ⟨rfl, hb⟩; have HB := Lib.hid hb; clear hb)
    go_ret
    exact ⟨rfl, HB.out⟩
def immIn (n : Int) : Bool := decide (-2147483648 ≤ n) && decide (n ≤ 2147483647)
def offIn (n : Int) : Bool := decide (-32768 ≤ n) && decide (n ≤ 32767)
theorem imm04_any (n : Int) (w : World) :
    Calls Tryd.prog 49 #[.int .i64 n] w fun e w' => e = .returned (.bool (immIn n)) ∧ w = w' := by
  unfold immIn
  cases h1 : decide (-2147483648 ≤ n) <;> cases h2 : decide (n ≤ 2147483647)
  all_goals
    go_enter Tryd.func49, Tryd.ntmps49
    go_wp2_with fail
    go_ret
    exact ⟨rfl, rfl⟩
theorem off04_any (n : Int) (w : World) :
    Calls Tryd.prog 59 #[.int .i64 n] w fun e w' => e = .returned (.bool (offIn n)) ∧ w = w' := by
  unfold offIn
  cases h1 : decide (-32768 ≤ n) <;> cases h2 : decide (n ≤ 32767)
  all_goals
    go_enter Tryd.func59, Tryd.ntmps59
    go_wp2_with fail
    go_ret
    exact ⟨rfl, rfl⟩
end Go.Proofs.YticklgoegmobbaaDoor
