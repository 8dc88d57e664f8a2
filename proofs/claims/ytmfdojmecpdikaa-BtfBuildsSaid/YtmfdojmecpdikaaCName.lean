/-
  Layer 6, the reference: whether a text is a name.
-/
import Derived.Test.YtmfdojmecpdikaaBNameFn
namespace Go.Proofs.Ytmfdojmecpdikaa
open Go Go.RowKit
set_option linter.unusedVariables false
set_option linter.unusedSimpArgs false
set_option maxRecDepth 100000
theorem letter_cases (c : UInt8) :
    (letterB c = false ∧ digitB c = false ∧ c.toNat < 48) ∨ (letterB c = false ∧ digitB c = true ∧ 48 ≤ c.toNat ∧ c.toNat ≤ 57) ∨ (letterB c = false ∧ digitB c = false ∧ 58 ≤ c.toNat ∧ c.toNat ≤ 64) ∨
    (letterB c = true ∧ 65 ≤ c.toNat ∧ c.toNat ≤ 90) ∨ (letterB c = false ∧ digitB c = false ∧ 91 ≤ c.toNat ∧ c.toNat ≤ 94) ∨ (letterB c = true ∧ c.toNat = 95) ∨ (letterB c = false ∧ digitB c = false ∧ c.toNat = 96) ∨
    (letterB c = true ∧ 97 ≤ c.toNat ∧ c.toNat ≤ 122) ∨ (letterB c = false ∧ digitB c = false ∧ 123 ≤ c.toNat) := by
  have hc := c.toNat_lt
  cases hl : letterB c <;> cases hd : digitB c <;> simp only [letterB, digitB, Bool.or_eq_true, Bool.and_eq_true, decide_eq_true_eq, beq_iff_eq, Bool.or_eq_false_iff, Bool.and_eq_false_iff, decide_eq_false_iff_not, beq_eq_false_iff_ne] at hl hd <;> simp <;> omega
set_option maxHeartbeats 2000000 in
theorem refName_any (s : ByteArray) (hs : s.size ≤ 9223372036854775807) (w : World) :
    Calls Try.prog 15 #[.string s] w fun e w' => e = .returned (.bool (nameB s)) ∧ w = w' := by
  have i0 : (s.size : Int) ≤ 9223372036854775807 := by omega
  go_enter Try.func15, Try.ntmps15
  go_wp2_with fail
  go_loop [3, 4, 5] (fun i a b => ∃ k : Nat, k ≤ s.size ∧ i = .int .i64 k ∧ okTo s k) (fun i _ _ => s.size - (intOf i).toNat)
  case atStart => exact ⟨0, by omega, rfl, rfl⟩
  case round =>
    obtain ⟨k, hk, rfl, hok⟩ := hrel
    have HOK := Lib.hid hok
    clear hok
    by_cases hks : k < s.size
    · have g1 : decide (k < s.size) = true := by simpa using hks
      have HN : Hid (okByte s k = false → nameB s = false) := okTo_bad s k hks
      have HS : Hid (okByte s k = true → okTo s (k + 1)) := okTo_succ s k hks HOK.out
      have HC : s.data.toList.getD k 0 = s[k] := by
        have hk' : k < s.data.toList.length := by rw [size_list]; exact hks
        simp only [List.getD, List.getElem?_eq_getElem hk', Option.getD_some]
        simp [ByteArray.getElem_eq_getElem_data]
      have HD : Hid (okByte s k = (letterB s[k] || (decide (k ≠ 0) && digitB s[k]))) := by rw [← HC]; exact rfl
      clear HC
      have i1 : (k : Int) < (s.size : Int) := by omega
      have hlc := letter_cases s[k]
      have hcl : (s[k].toNat : Int) < 256 := by have := s[k].toNat_lt; omega
      generalize letterB s[k] = lb at *
      generalize digitB s[k] = db at *
      obtain ⟨n, hn⟩ : ∃ n, s[k].toNat = n := ⟨_, rfl⟩
      rw [hn] at hlc hcl
      rcases hlc with ⟨rfl, rfl, h1⟩ | ⟨rfl, rfl, h1, h2⟩ | ⟨rfl, rfl, h1, h2⟩ | ⟨rfl, h1, h2⟩ | ⟨rfl, rfl, h1, h2⟩ | ⟨rfl, rfl⟩ | ⟨rfl, rfl, rfl⟩ | ⟨rfl, h1, h2⟩ | ⟨rfl, rfl, h1⟩
      · have HNO := Lib.hid (HN.out (by rw [HD.out]; simp))
        have g95 : ((n : Int) == 95) = false := by simp; omega
        have l90 : decide ((n : Int) ≤ 90) = true := by simp; omega
        have l122 : decide ((n : Int) ≤ 122) = true := by simp; omega
        have l57 : decide ((n : Int) ≤ 57) = true := by simp; omega
        have m65 : decide (65 ≤ (n : Int)) = false := by simp; omega
        have m97 : decide (97 ≤ (n : Int)) = false := by simp; omega
        have m48 : decide (48 ≤ (n : Int)) = false := by simp; omega
        clear HN HS HD
        by_cases hk0 : k = 0
        · subst hk0
          go_wp2_with fail
          go_ret
          refine ⟨?_, rfl⟩
          rw [HNO.out]; rfl
        · have i3 : (0 : Int) < (k : Int) := by omega
          have i4 : 0 < k := by omega
          clear hk0
          go_wp2_with fail
          go_ret
          refine ⟨?_, rfl⟩
          rw [HNO.out]; rfl
      · by_cases hk0 : k = 0
        · subst hk0
          have HNO := Lib.hid (HN.out (by rw [HD.out]; simp))
          have g95 : ((n : Int) == 95) = false := by simp; omega
          have l90 : decide ((n : Int) ≤ 90) = true := by simp; omega
          have l122 : decide ((n : Int) ≤ 122) = true := by simp; omega
          have l57 : decide ((n : Int) ≤ 57) = true := by simp; omega
          have m65 : decide (65 ≤ (n : Int)) = false := by simp; omega
          have m97 : decide (97 ≤ (n : Int)) = false := by simp; omega
          have m48 : decide (48 ≤ (n : Int)) = true := by simp; omega
          clear HN HS HD
          go_wp2_with fail
          go_ret
          refine ⟨?_, rfl⟩
          rw [HNO.out]; rfl
        · have HSO := Lib.hid (HS.out (by rw [HD.out]; simp [hk0]))
          have i3 : (0 : Int) < (k : Int) := by omega
          have i4 : 0 < k := by omega
          have g95 : ((n : Int) == 95) = false := by simp; omega
          have l90 : decide ((n : Int) ≤ 90) = true := by simp; omega
          have l122 : decide ((n : Int) ≤ 122) = true := by simp; omega
          have l57 : decide ((n : Int) ≤ 57) = true := by simp; omega
          have m65 : decide (65 ≤ (n : Int)) = false := by simp; omega
          have m97 : decide (97 ≤ (n : Int)) = false := by simp; omega
          have m48 : decide (48 ≤ (n : Int)) = true := by simp; omega
          clear HN HS HD hk0
          go_wp2_with fail
          go_round
          case rel => exact ⟨k + 1, by omega, by go_num, HSO.out⟩
          case measure => simp [intOf]; omega
      · have HNO := Lib.hid (HN.out (by rw [HD.out]; simp))
        have g95 : ((n : Int) == 95) = false := by simp; omega
        have l90 : decide ((n : Int) ≤ 90) = true := by simp; omega
        have l122 : decide ((n : Int) ≤ 122) = true := by simp; omega
        have l57 : decide ((n : Int) ≤ 57) = false := by simp; omega
        have m65 : decide (65 ≤ (n : Int)) = false := by simp; omega
        have m97 : decide (97 ≤ (n : Int)) = false := by simp; omega
        have m48 : decide (48 ≤ (n : Int)) = true := by simp; omega
        clear HN HS HD
        by_cases hk0 : k = 0
        · subst hk0
          go_wp2_with fail
          go_ret
          refine ⟨?_, rfl⟩
          rw [HNO.out]; rfl
        · have i3 : (0 : Int) < (k : Int) := by omega
          have i4 : 0 < k := by omega
          clear hk0
          go_wp2_with fail
          go_ret
          refine ⟨?_, rfl⟩
          rw [HNO.out]; rfl
      · have HSO := Lib.hid (HS.out (by rw [HD.out]; simp))
        have g95 : ((n : Int) == 95) = false := by simp; omega
        have l90 : decide ((n : Int) ≤ 90) = true := by simp; omega
        have l122 : decide ((n : Int) ≤ 122) = true := by simp; omega
        have l57 : decide ((n : Int) ≤ 57) = false := by simp; omega
        have m65 : decide (65 ≤ (n : Int)) = true := by simp; omega
        have m97 : decide (97 ≤ (n : Int)) = false := by simp; omega
        have m48 : decide (48 ≤ (n : Int)) = true := by simp; omega
        clear HN HS HD
        go_wp2_with fail
        go_round
        case rel => exact ⟨k + 1, by omega, by go_num, HSO.out⟩
        case measure => simp [intOf]; omega
      · have HNO := Lib.hid (HN.out (by rw [HD.out]; simp))
        have g95 : ((n : Int) == 95) = false := by simp; omega
        have l90 : decide ((n : Int) ≤ 90) = false := by simp; omega
        have l122 : decide ((n : Int) ≤ 122) = true := by simp; omega
        have l57 : decide ((n : Int) ≤ 57) = false := by simp; omega
        have m65 : decide (65 ≤ (n : Int)) = true := by simp; omega
        have m97 : decide (97 ≤ (n : Int)) = false := by simp; omega
        have m48 : decide (48 ≤ (n : Int)) = true := by simp; omega
        clear HN HS HD
        by_cases hk0 : k = 0
        · subst hk0
          go_wp2_with fail
          go_ret
          refine ⟨?_, rfl⟩
          rw [HNO.out]; rfl
        · have i3 : (0 : Int) < (k : Int) := by omega
          have i4 : 0 < k := by omega
          clear hk0
          go_wp2_with fail
          go_ret
          refine ⟨?_, rfl⟩
          rw [HNO.out]; rfl
      · have HSO := Lib.hid (HS.out (by rw [HD.out]; simp))
        clear HN HS HD
        go_wp2_with fail
        go_round
        case rel => exact ⟨k + 1, by omega, by go_num, HSO.out⟩
        case measure => simp [intOf]; omega
      · have HNO := Lib.hid (HN.out (by rw [HD.out]; simp))
        clear HN HS HD
        by_cases hk0 : k = 0
        · subst hk0
          go_wp2_with fail
          go_ret
          refine ⟨?_, rfl⟩
          rw [HNO.out]; rfl
        · have i3 : (0 : Int) < (k : Int) := by omega
          have i4 : 0 < k := by omega
          clear hk0
          go_wp2_with fail
          go_ret
          refine ⟨?_, rfl⟩
          rw [HNO.out]; rfl
      · have HSO := Lib.hid (HS.out (by rw [HD.out]; simp))
        have g95 : ((n : Int) == 95) = false := by simp; omega
        have l90 : decide ((n : Int) ≤ 90) = false := by simp; omega
        have l122 : decide ((n : Int) ≤ 122) = true := by simp; omega
        have l57 : decide ((n : Int) ≤ 57) = false := by simp; omega
        have m65 : decide (65 ≤ (n : Int)) = true := by simp; omega
        have m97 : decide (97 ≤ (n : Int)) = true := by simp; omega
        have m48 : decide (48 ≤ (n : Int)) = true := by simp; omega
        clear HN HS HD
        go_wp2_with fail
        go_round
        case rel => exact ⟨k + 1, by omega, by go_num, HSO.out⟩
        case measure => simp [intOf]; omega
      · have HNO := Lib.hid (HN.out (by rw [HD.out]; simp))
        have g95 : ((n : Int) == 95) = false := by simp; omega
        have l90 : decide ((n : Int) ≤ 90) = false := by simp; omega
        have l122 : decide ((n : Int) ≤ 122) = false := by simp; omega
        have l57 : decide ((n : Int) ≤ 57) = false := by simp; omega
        have m65 : decide (65 ≤ (n : Int)) = true := by simp; omega
        have m97 : decide (97 ≤ (n : Int)) = true := by simp; omega
        have m48 : decide (48 ≤ (n : Int)) = true := by simp; omega
        clear HN HS HD
        by_cases hk0 : k = 0
        · subst hk0
          go_wp2_with fail
          go_ret
          refine ⟨?_, rfl⟩
          rw [HNO.out]; rfl
        · have i3 : (0 : Int) < (k : Int) := by omega
          have i4 : 0 < k := by omega
          clear hk0
          go_wp2_with fail
          go_ret
          refine ⟨?_, rfl⟩
          rw [HNO.out]; rfl
    · have : k = s.size := by omega
      subst this
      have g1 : decide (s.size < s.size) = false := by simp
      go_wp2_with fail
      go_ret
      refine ⟨ret_bool ?_, rfl⟩
      have h := HOK.out
      unfold okTo at h
      rw [List.take_of_length_le (by rw [size_list]; exact Nat.le_refl _)] at h
      simp only [nameB, h, Bool.and_true]
      rw [Bool.eq_iff_iff]; simp; omega
end Go.Proofs.Ytmfdojmecpdikaa
