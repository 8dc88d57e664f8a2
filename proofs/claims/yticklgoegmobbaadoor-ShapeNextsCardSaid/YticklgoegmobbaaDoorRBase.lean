/-
  Bytes and texts, of no function of the program.
-/
import Derived.Test.YticklgoegmobbaaDoorRows
import Derived.Test.YticklgoegmobbaaDoorBlk
import Derived.WalkKit
import Derived.Lib.Hide
import Derived.IntWalk
import Derived.Laws.Rows
import Derived.WalkSpells
import Derived.Lib.BufferRead
import Derived.Lib.SlBytesRow
import Derived.Shelf.Bytes.SlSmallAll
namespace Go.Proofs.YticklgoegmobbaaDoor
open Go Go.RowKit
set_option linter.unusedVariables false
/-- A text of these bytes. -/
def tx (l : List UInt8) : ByteArray := ⟨l.toArray⟩
theorem tx_size (l : List UInt8) : (tx l).size = l.length := by simp [tx, ByteArray.size]
theorem tx_app (a b : List UInt8) : tx a ++ tx b = tx (a ++ b) := by
  apply ByteArray.ext
  simp [tx, ByteArray.data_append]
theorem tx_inj {a b : List UInt8} (h : tx a = tx b) : a = b := by
  have := congrArg (fun x : ByteArray => x.data.toList) h
  simpa [tx] using this
theorem tx_beq (a b : ByteArray) : (a.toList == b.toList) = decide (a = b) := by
  rw [Bool.eq_iff_iff, beq_iff_eq, decide_eq_true_iff, ByteArray.toList_eq, ByteArray.toList_eq]
  exact ⟨fun h => by obtain ⟨⟨a⟩⟩ := a; obtain ⟨⟨b⟩⟩ := b; simp only at h; rw [h], fun h => by rw [h]⟩
/-- One byte of the call's own, as a text. -/
theorem conv1 (W : World) (x : Int) (h0 : 0 ≤ x) (h1 : x ≤ 255) : (convert 64 9 (.slice (some ⟨W.heap.size, 0, none⟩) 1 1)).run Tryd.prog (W.alloc (.cells #[.int .u8 x] 5)) = .ok (.string (tx [UInt8.ofNat x.toNat])) (W.alloc (.cells #[.int .u8 x] 5)) := by
  have hb := (Blk.new W 5 #[.int .u8 x]).cell 0
  have := Lib.run_convert_whole (P := Tryd.prog) (W.alloc (.cells #[.int .u8 x] 5)) 64 5 9 Tryd.underlying64 Tryd.underlying5 Tryd.underlying9 W.heap.size 0 (tx [UInt8.ofNat x.toNat]) (fun i hi => by
    have hi0 : i = 0 := by rw [tx_size] at hi; simp at hi; omega
    subst hi0
    rw [Nat.zero_add, hb]
    have e : ((UInt8.ofNat x.toNat).toNat : Int) = x := by rw [UInt8.toNat_ofNat']; omega
    show some (Value.int .u8 x) = some (Value.int .u8 (((tx [UInt8.ofNat x.toNat]).data[0]).toNat : Int))
    rw [show ((tx [UInt8.ofNat x.toNat]).data[0]) = UInt8.ofNat x.toNat from rfl, e]) 1
  rw [tx_size] at this
  exact this
/-- A digit's byte. -/
def dig (d : Nat) : UInt8 := UInt8.ofNat (48 + d)
theorem dig_toNat {d : Nat} (h : d < 10) : (dig d).toNat = 48 + d := by unfold dig; rw [UInt8.toNat_ofNat']; omega
theorem convd (W : World) (n : Nat) : (convert 64 9 (.slice (some ⟨W.heap.size, 0, none⟩) 1 1)).run Tryd.prog (W.alloc (.cells #[.int .u8 (48 + (n : Int) % 10)] 5)) = .ok (.string (tx [dig (n % 10)])) (W.alloc (.cells #[.int .u8 (48 + (n : Int) % 10)] 5)) := by
  have h := conv1 W (48 + (n : Int) % 10) (by omega) (by omega)
  rw [show (48 + (n : Int) % 10).toNat = 48 + n % 10 by omega] at h
  exact h
/-- The digits of a number. -/
def decL (n : Nat) : List UInt8 := if h : n < 10 then [dig n] else decL (n / 10) ++ [dig (n % 10)]
termination_by n
theorem decL_lt {n : Nat} (h : n < 10) : decL n = [dig n] := by rw [decL, dif_pos h]
theorem decL_ge {n : Nat} (h : ¬ n < 10) : decL n = decL (n / 10) ++ [dig (n % 10)] := by rw [decL, dif_neg h]
theorem decL_pos (n : Nat) : 0 < (decL n).length := by
  by_cases h : n < 10
  · rw [decL_lt h]; simp
  · rw [decL_ge h]; simp
theorem decL_len : ∀ (k n : Nat), n < 10 ^ (k + 1) → (decL n).length ≤ k + 1
  | 0, n, h => by rw [decL_lt (by simpa using h)]; simp
  | k + 1, n, h => by
    by_cases h10 : n < 10
    · rw [decL_lt h10]; simp
    · rw [decL_ge h10, List.length_append]
      have := decL_len k (n / 10) (by rw [Nat.pow_succ] at h; omega)
      simp; omega
/-- What is left of the digits, ahead of those that are told. -/
def decU (n : Nat) : List UInt8 := if n = 0 then [] else decL n
theorem decU_step (n : Nat) (h : 0 < n) : decU n = decU (n / 10) ++ [dig (n % 10)] := by
  unfold decU
  rw [if_neg (by omega)]
  by_cases h10 : n < 10
  · rw [decL_lt h10, if_pos (by omega), List.nil_append, Nat.mod_eq_of_lt h10]
  · rw [decL_ge h10, if_neg (by omega)]
theorem decL_first (n : Nat) : decL n = decU (n / 10) ++ [dig (n % 10)] := by
  unfold decU
  by_cases h10 : n < 10
  · rw [decL_lt h10, if_pos (by omega), List.nil_append, Nat.mod_eq_of_lt h10]
  · rw [decL_ge h10, if_neg (by omega)]
end Go.Proofs.YticklgoegmobbaaDoor
