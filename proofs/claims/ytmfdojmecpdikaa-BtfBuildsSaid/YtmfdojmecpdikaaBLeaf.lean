/-
  Layer 6: small functions of package btf: letters, digits, numbers, sizes.
-/
import Derived.Test.YtmfdojmecpdikaaBBase
import Derived.Deep.QuietTactic
import Derived.BigQuiet
namespace Go.Proofs.Ytmfdojmecpdikaa
open Go Go.RowKit
set_option linter.unusedVariables false
set_option linter.unusedSimpArgs false
set_option maxRecDepth 100000
theorem ret_bool {a b : Bool} (h : a = b) : Ending.returned (.bool a) = .returned (.bool b) := by rw [h]
set_option maxHeartbeats 1000000 in
theorem letter_any (c : UInt8) (w : World) :
    Calls Try.prog 32 #[.int .u8 (c.toNat : Int)] w fun e w' => e = .returned (.bool (letterB c)) ∧ w = w' := by
  have hc := c.toNat_lt
  have key : (c.toNat < 65 ∧ letterB c = false) ∨ (65 ≤ c.toNat ∧ c.toNat ≤ 90 ∧ letterB c = true) ∨ (91 ≤ c.toNat ∧ c.toNat ≤ 94 ∧ letterB c = false) ∨ (c.toNat = 95 ∧ letterB c = true) ∨ (c.toNat = 96 ∧ letterB c = false) ∨ (97 ≤ c.toNat ∧ c.toNat ≤ 122 ∧ letterB c = true) ∨ (123 ≤ c.toNat ∧ letterB c = false) := by
    simp only [letterB]
    rcases Nat.lt_or_ge c.toNat 65 with h | h
    · left; refine ⟨h, ?_⟩; simp; omega
    · right
      rcases Nat.lt_or_ge 90 c.toNat with h1 | h1
      · right
        rcases Nat.lt_or_ge c.toNat 95 with h2 | h2
        · left; refine ⟨h1, by omega, ?_⟩; simp; omega
        · right
          by_cases h3 : c.toNat = 95
          · left; exact ⟨h3, by simp [h3]⟩
          · right
            by_cases h4 : c.toNat = 96
            · left; exact ⟨h4, by simp [h4]⟩
            · right
              rcases Nat.lt_or_ge 122 c.toNat with h5 | h5
              · right; refine ⟨h5, ?_⟩; simp; omega
              · left; refine ⟨by omega, h5, ?_⟩; simp; omega
      · left; refine ⟨h, h1, ?_⟩; simp; omega
  generalize letterB c = B at *
  generalize c.toNat = n at *
  rcases key with ⟨h1, rfl⟩ | ⟨h1, h2, rfl⟩ | ⟨h1, h2, rfl⟩ | ⟨rfl, rfl⟩ | ⟨rfl, rfl⟩ | ⟨h1, h2, rfl⟩ | ⟨h1, rfl⟩
  all_goals
    go_enter Try.func32, Try.ntmps32
    go_wp2_with fail
    go_ret
    first | exact ⟨rfl, rfl⟩ | (refine ⟨ret_bool ?_, rfl⟩; simp; omega)
set_option maxHeartbeats 1000000 in
theorem digit_any (c : UInt8) (w : World) :
    Calls Try.prog 33 #[.int .u8 (c.toNat : Int)] w fun e w' => e = .returned (.bool (digitB c)) ∧ w = w' := by
  have hc := c.toNat_lt
  have key : (c.toNat < 48 ∧ digitB c = false) ∨ (48 ≤ c.toNat ∧ c.toNat ≤ 57 ∧ digitB c = true) ∨ (58 ≤ c.toNat ∧ digitB c = false) := by
    simp only [digitB]
    rcases Nat.lt_or_ge c.toNat 48 with h | h
    · left; refine ⟨h, ?_⟩; simp; omega
    · right
      rcases Nat.lt_or_ge 57 c.toNat with h1 | h1
      · right; refine ⟨h1, ?_⟩; simp; omega
      · left; refine ⟨h, h1, ?_⟩; simp; omega
  generalize digitB c = B at *
  generalize c.toNat = n at *
  rcases key with ⟨h1, rfl⟩ | ⟨h1, h2, rfl⟩ | ⟨h1, rfl⟩
  all_goals
    go_enter Try.func33, Try.ntmps33
    go_wp2_with fail
    go_ret
    first | exact ⟨rfl, rfl⟩ | (refine ⟨ret_bool ?_, rfl⟩; simp; omega)
set_option maxHeartbeats 1000000 in
theorem fits_any (n : Int) (w : World) :
    Calls Try.prog 24 #[.int .i64 n] w fun e w' => e = .returned (.bool (fitsB n)) ∧ w = w' := by
  have key : (n < 0 ∧ fitsB n = false) ∨ (0 ≤ n ∧ n ≤ 2147483647 ∧ fitsB n = true) ∨ (2147483647 < n ∧ fitsB n = false) := by
    simp only [fitsB]
    rcases Int.lt_or_le n 0 with h | h
    · left; refine ⟨h, ?_⟩; simp; omega
    · right
      rcases Int.lt_or_le 2147483647 n with h1 | h1
      · right; refine ⟨h1, ?_⟩; simp; omega
      · left; refine ⟨h, h1, ?_⟩; simp; omega
  generalize fitsB n = B at *
  rcases key with ⟨h1, rfl⟩ | ⟨h1, h2, rfl⟩ | ⟨h1, rfl⟩
  all_goals
    go_enter Try.func24, Try.ntmps24
    go_wp2_with fail
    go_ret
    first | exact ⟨rfl, rfl⟩ | (refine ⟨ret_bool ?_, rfl⟩; simp; omega)
set_option maxHeartbeats 1000000 in
theorem sized_any (n : Int) (w : World) :
    Calls Try.prog 26 #[.int .i64 n] w fun e w' => e = .returned (.bool (sizedB n)) ∧ w = w' := by
  have e : sizedB n = ((n == 1) || ((n == 2) || ((n == 4) || (n == 8)))) := by
    rw [Bool.eq_iff_iff]; simp [sizedB]
  rw [e]
  clear e
  cases h1 : (n == 1)
  · cases h2 : (n == 2)
    · cases h3 : (n == 4)
      · cases h4 : (n == 8)
        all_goals
          go_enter Try.func26, Try.ntmps26
          go_wp2_with fail
          go_ret
          exact ⟨rfl, rfl⟩
      · go_enter Try.func26, Try.ntmps26
        go_wp2_with fail
        go_ret
        exact ⟨rfl, rfl⟩
    · go_enter Try.func26, Try.ntmps26
      go_wp2_with fail
      go_ret
      exact ⟨rfl, rfl⟩
  · go_enter Try.func26, Try.ntmps26
    go_wp2_with fail
    go_ret
    first | exact ⟨rfl, rfl⟩ | (refine ⟨ret_bool ?_, rfl⟩; simp; omega)
theorem byte_u8 (b : UInt8) : 0 ≤ (b.toNat : Int) ∧ (b.toNat : Int) ≤ 255 := by have := b.toNat_lt; omega
def QuietNum (w : World) (v : Int) (e : Ending) (w' : World) : Prop := e = .returned (.int .u32 v) ∧ ∃ n, w' = w.drewN n
theorem ret_u32 {a b : Int} (h : a = b) : Ending.returned (.int .u32 a) = .returned (.int .u32 b) := by rw [h]
theorem num4_cons (a b c d : UInt8) (r : List UInt8) : num4 (a :: b :: c :: d :: r) = (a.toNat : Int) + b.toNat * 256 + c.toNat * 65536 + d.toNat * 16777216 := rfl
set_option maxHeartbeats 1000000 in
theorem numberOf_any (l : List UInt8) (hl : 4 ≤ l.length) (h62 : l.length ≤ 4611686018427387904) (w : World) :
    Calls Try.prog 43 #[.string (bstr l)] w (QuietNum w (num4 l)) := by
  match l, hl with
  | a :: b :: c :: d :: r, _ =>
    have hs : (bstr (a :: b :: c :: d :: r)).size = r.length + 4 := by rw [bstr_size]; rfl
    have q0 : ∀ h, (bstr (a :: b :: c :: d :: r))[0]'h = a := fun h => bstr_getElem _ _ h
    have q1 : ∀ h, (bstr (a :: b :: c :: d :: r))[1]'h = b := fun h => bstr_getElem _ _ h
    have q2 : ∀ h, (bstr (a :: b :: c :: d :: r))[2]'h = c := fun h => bstr_getElem _ _ h
    have q3 : ∀ h, (bstr (a :: b :: c :: d :: r))[3]'h = d := fun h => bstr_getElem _ _ h
    have ha := byte_u8 a
    have hb := byte_u8 b
    have hc := byte_u8 c
    have hd := byte_u8 d
    generalize bstr (a :: b :: c :: d :: r) = s at *
    go_enter Try.func43, Try.ntmps43
    go_wp2_with fail
    go_quiet (fail)
    go_wp2_with fail
    go_ret
    refine ⟨ret_u32 ?_, ⟨_, rfl⟩⟩
    rw [num4_cons]
    exact or_u32 _ _ _ _ ha hb hc hd
end Go.Proofs.Ytmfdojmecpdikaa
