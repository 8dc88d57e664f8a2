/-
  The reference's digits.
-/
import Derived.Test.YticklgoegmobbaaDoorRBase
namespace Go.Proofs.YticklgoegmobbaaDoor
open Go Go.RowKit
set_option linter.unusedVariables false
theorem pow_div (m k : Nat) (hm : 0 < m) (h : m < 10 ^ k) : ∃ j, k = j + 1 ∧ m / 10 < 10 ^ j := by
  cases k with
  | zero => simp at h; omega
  | succ j => exact ⟨j, rfl, by rw [Nat.pow_succ] at h; omega⟩
def DigAt (w : World) (n m : Nat) (l : List UInt8) (wr : World) : Prop := Below w.heap.size w wr ∧ decL n = decU m ++ l ∧ (∃ k, m < 10 ^ k ∧ k + l.length ≤ 20) ∧ m < 18446744073709551616
theorem DigAt.step {w wr wr' : World} {n m : Nat} {l : List UInt8} (h : DigAt w n m l wr) (hb : Below wr.heap.size wr wr') (hm : 0 < m) : DigAt w n (m / 10) (dig (m % 10) :: l) wr' := by
  obtain ⟨h1, h2, ⟨k, h3, h4⟩, h6⟩ := h
  obtain ⟨j, rfl, h5⟩ := pow_div m k hm h3
  refine ⟨h1.trans (hb.mono h1.size), ?_, ⟨j, h5, by simp; omega⟩, by omega⟩
  rw [h2, decU_step m hm, List.append_assoc]
  rfl
set_option maxRecDepth 100000 in
set_option maxHeartbeats 1000000 in
theorem udigits_any (n : Nat) (hn : n < 18446744073709551616) (w : World) :
    Calls Tryd.prog 50 #[.int .u64 n] w fun e w' => e = .returned (.string (tx (decL n))) ∧ Below w.heap.size w w' := by
  have hcv := convd w n
  have h0 : Hid (DigAt w n (n / 10) [dig (n % 10)] (w.alloc (.cells #[.int .u8 (48 + (n : Int) % 10)] 5))) := ⟨(Below.refl _ w).alloc (Nat.le_refl _) _, decL_first n, ⟨19, by show n / 10 < 10000000000000000000; omega, by simp⟩, by omega⟩
  go_enter Tryd.func50, Tryd.ntmps50
  go_wp2_with fail
  clear hcv
  go_loopw [0, 3] (fun u s wr => ∃ (m : Nat) (l : List UInt8), u = .int .u64 m ∧ s = .string (tx l) ∧ DigAt w n m l wr) (fun u _ _ => (intOf u).toNat)
  case atStart => exact ⟨n / 10, _, rfl, by simp, h0.out⟩
  case round =>
    clear h0 hn
    obtain ⟨m, l, rfl, rfl, hd⟩ := hrel
    have HD := Lib.hid hd
    clear hd
    by_cases hz : 0 < m
    · have g1 : decide (0 < m) = true := by simpa using hz
      have hcv := convd wr m
      have hw : IntKind.u64.wrap ((m : Int) / 10) = (m : Int) / 10 := by have := HD.out.2.2.2; rw [IntKind.wrap_u64]; omega
      have hs : (tx l).size ≤ 20 := by rw [tx_size]; obtain ⟨_, _, ⟨k, _, h⟩, _⟩ := HD.out; omega
      have hs1 : (tx [dig (m % 10)]).size = 1 := by rw [tx_size]; rfl
      go_wp2_with fail
      go_roundw
      case rel =>
        refine ⟨m / 10, dig (m % 10) :: l, rfl, ?_, HD.out.step ((Below.refl _ wr).alloc (Nat.le_refl _) _) hz⟩
        simp [tx_app]
      case measure => simp [intOf]; omega
    · have hm0 : m = 0 := by omega
      subst hm0
      go_wp2_with fail
      go_ret
      refine ⟨?_, HD.out.1⟩
      rw [HD.out.2.1]
      rfl
end Go.Proofs.YticklgoegmobbaaDoor
