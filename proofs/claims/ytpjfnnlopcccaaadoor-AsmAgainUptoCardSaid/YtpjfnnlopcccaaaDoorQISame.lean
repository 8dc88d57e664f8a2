/-
  The reference's Same of two lists of the same slots.
-/
import Derived.Test.YtpjfnnlopcccaaaDoorQVLines
import Derived.Deep.QuietTactic
import Derived.BigQuiet
namespace Go.Proofs.YtpjfnnlopcccaaaDoor
open Go Go.RowKit
set_option linter.unusedVariables false
set_option linter.unusedSimpArgs false
set_option maxRecDepth 100000 in
set_option maxHeartbeats 1000000 in
theorem same_any (n c c' : Nat) (A A' : Option Addr) (X : Nat → Slot) (w : World) (hn : n ≤ 1099511627776) (h : Slots w A n X) (h' : Slots w A' n X) :
    Calls Tryd.prog 9 #[.slice A n c, .slice A' n c'] w fun e w' => e = .returned (.bool true) ∧ Below w.heap.size w w' := by
  have H := Lib.hid h
  have H' := Lib.hid h'
  clear h h'
  go_enter Tryd.func9, Tryd.ntmps9
  go_wp2_with fail
  go_loopw [5] (fun i wr => ∃ k : Nat, k ≤ n ∧ i = .int .i64 k ∧ Below w.heap.size w wr) (fun i _ => n - (intOf i).toNat)
  case atStart => exact ⟨0, by omega, rfl, Below.refl _ _⟩
  case round =>
    obtain ⟨k, hk, rfl, hb⟩ := hrel
    have HB := Lib.hid hb
    by_cases hkn : k < n
    · obtain ⟨g, off, rfl, _, c0, c1, c2, c3, c4⟩ := (H.out.below hb) k hkn
      obtain ⟨g', off', rfl, _, d0, d1, d2, d3, d4⟩ := (H'.out.below hb) k hkn
      clear hb
      have g1 : decide (k < n) = true := by simpa using hkn
      have i1 : (0 : Int) ≤ (k : Int) := by omega
      have i2 : (k : Int) < (n : Int) := by omega
      generalize X k = x at *
      obtain ⟨o, d, s, f, m⟩ := x
      simp only at c0 c1 c2 c3 c4 d0 d1 d2 d3 d4
      go_wp2_with fail
      go_quiet (fail)
      go_wp2_with fail
      go_roundw
      case rel => exact ⟨k + 1, by omega, by go_num, HB.out.trans ⟨rfl, rfl, rfl, Nat.le_refl _, fun _ _ => rfl⟩⟩
      case measure => simp [intOf]; omega
    · have : k = n := by omega
      subst this
      clear hb
      have g1 : decide (k < k) = false := by simp
      go_wp2_with fail
      go_ret
      exact ⟨rfl, HB.out⟩
end Go.Proofs.YtpjfnnlopcccaaaDoor
