/-
  strings.CutSuffix.
-/
import Derived.Test.YtpjfnnlopcccaaaDoorQVAlu
namespace Go.Proofs.YtpjfnnlopcccaaaDoor
open Go Go.RowKit Go.Maps
set_option linter.unusedVariables false
set_option linter.unusedSimpArgs false
set_option maxRecDepth 100000
def ends (s p : ByteArray) : Bool := decide (p.size ≤ s.size) && sameT (s.extract (s.size - p.size) s.size) p
def ahead (s p : ByteArray) : ByteArray := if ends s p = true then s.extract 0 (s.size - p.size) else s
set_option maxHeartbeats 1000000 in
theorem hasSuffixL_any (s p : ByteArray) (hs : s.size ≤ 4611686018427387904) (hp : p.size ≤ 4611686018427387904) (w : World) :
    Calls Tryd.prog 103 #[.string s, .string p] w fun e w' => e = .returned (.bool (ends s p)) ∧ w = w' := by
  by_cases h : p.size ≤ s.size
  · have g1 : decide (p.size ≤ s.size) = true := by simpa using h
    have hh : (p.size : Int) ≤ (s.size : Int) := by omega
    have e1 : IntKind.i64.wrap ((s.size : Int) - (p.size : Int)) = ((s.size - p.size : Nat) : Int) := by rw [IntWalk.i64_in _ (by omega)]; omega
    have e : ((s.extract (s.size - p.size) s.size).toList == p.toList) = ends s p := by
      rw [same_beq]
      unfold ends
      rw [g1, Bool.true_and]
    have i1 : s.size - p.size ≤ s.size := Nat.sub_le _ _
    generalize s.size - p.size = k at *
    generalize ends s p = b at *
    cases b
    all_goals
      go_enter Tryd.func103, Tryd.ntmps103
      go_wp2_with fail
      go_ret
      exact ⟨rfl, rfl⟩
  · have g1 : decide (p.size ≤ s.size) = false := by simpa using h
    have e : ends s p = false := by unfold ends; rw [g1]; rfl
    rw [e]
    clear e
    go_enter Tryd.func103, Tryd.ntmps103
    go_wp2_with fail
    go_ret
    exact ⟨rfl, rfl⟩
theorem ends_le {s p : ByteArray} (h : ends s p = true) : p.size ≤ s.size := by
  unfold ends at h
  rw [Bool.and_eq_true, decide_eq_true_eq] at h
  exact h.1
set_option maxHeartbeats 1000000 in
theorem cutSuffixL_any (s p : ByteArray) (hs : s.size ≤ 4611686018427387904) (hp : p.size ≤ 4611686018427387904) (w : World) :
    Calls Tryd.prog 99 #[.string s, .string p] w fun e w' => e = .returned (.tuple #[.string (ahead s p), .bool (ends s p)]) ∧ w = w' := by
  have C0 := Lib.hid (fun w => hasSuffixL_any s p hs hp w)
  have HB : Hid (ahead s p = if ends s p = true then s.extract 0 (s.size - p.size) else s) := rfl
  have hle : ends s p = true → p.size ≤ s.size := ends_le
  generalize ends s p = b at *
  cases b
  · rw [if_neg (by decide)] at HB
    clear hle hs hp
    go_enter Tryd.func99, Tryd.ntmps99
    go_wp2_with (go_at_call 103; refine (C0.out _).mono ?_; rintro e w1 ⟨rfl, rfl⟩)
    go_ret2
    exact ⟨by rw [HB.out]; rfl, rfl⟩
  · rw [if_pos rfl] at HB
    have hle' : p.size ≤ s.size := hle rfl
    have e1 : IntKind.i64.wrap ((s.size : Int) - (p.size : Int)) = ((s.size - p.size : Nat) : Int) := by rw [IntWalk.i64_in _ (by omega)]; omega
    have i1 : s.size - p.size ≤ s.size := Nat.sub_le _ _
    generalize s.size - p.size = k at *
    clear hle hs hp hle'
    go_enter Tryd.func99, Tryd.ntmps99
    go_wp2_with (go_at_call 103; refine (C0.out _).mono ?_; rintro e w1 ⟨rfl, rfl⟩)
    go_ret2
    exact ⟨by rw [HB.out]; rfl, rfl⟩
theorem cutSuffix_any (s p : ByteArray) (hs : s.size ≤ 4611686018427387904) (hp : p.size ≤ 4611686018427387904) (w : World) :
    Calls Tryd.prog 92 #[.string s, .string p] w fun e w' => e = .returned (.tuple #[.string (ahead s p), .bool (ends s p)]) ∧ w = w' := by
  have C0 := Lib.hid (fun w => cutSuffixL_any s p hs hp w)
  go_enter Tryd.func92, Tryd.ntmps92
  go_wp2_with (go_at_call 99; refine (C0.out _).mono ?_; rintro e w1 ⟨rfl, rfl⟩)
  go_ret2
  exact ⟨rfl, rfl⟩
end Go.Proofs.YtpjfnnlopcccaaaDoor
