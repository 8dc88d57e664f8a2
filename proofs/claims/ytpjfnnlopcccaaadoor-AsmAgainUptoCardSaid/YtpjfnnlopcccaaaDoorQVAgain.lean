/-
  The law AsmAgain, walked: what is read of a text has a text, of which the same is read.
-/
import Derived.Test.YtpjfnnlopcccaaaDoorQBPrint3
import Derived.Test.YtpjfnnlopcccaaaDoorQVBack
namespace Go.Proofs.YtpjfnnlopcccaaaDoor
open Go Go.RowKit Go.Maps
set_option linter.unusedVariables false
set_option linter.unusedSimpArgs false
set_option maxRecDepth 100000
set_option maxHeartbeats 4000000 in
theorem again_walk (s : ByteArray) (w : World) (hn : s.size < 1048576) (hT : Tabs w) :
    Calls Tryd.prog 4 #[.string s] w fun e w' => e = .returned (.bool true) ∧ Below w.heap.size w w' := by
  have C1 := Read_any s (by omega) w hT
  have CA := Lib.hid (fun w1 (hb : Below w.heap.size w w1) => awake_any w1 (hT.below hb))
  unfold ReadG at C1
  rcases h1 : readAll (linesOf s) with _ | Z
  · rw [h1] at C1
    have C1 := Lib.hid C1
    clear hT h1 hn
    generalize ((badAt (linesOf s) : Nat) : Int) = ba at *
    go_enter Tryd.func4, Tryd.ntmps4
    go_wp2_with (first
      | (go_at_call 8; refine C1.out.mono ?_; rintro e w1 ⟨hb, rfl⟩; have B1 := Lib.hid hb; clear hb)
      | (go_at_call 7; refine (CA.out _ B1.out).mono ?_; rintro e w3 ⟨rfl, hb⟩; have B3 := Lib.hid (B1.out.on hb); clear hb))
    go_ret
    exact ⟨rfl, B3.out⟩
  · rw [h1] at C1
    obtain ⟨t, ht, hZ⟩ := read_text h1
    have hL := linesOf_len s
    have z1 := textFrom_len (nthS Z) Z.length Z.length 0 (by omega) t ht
    have hlen : Z.length ≤ 2097152 := by omega
    have hzt : (bstr t).size ≤ 2097152 * 6007 := by
      rw [bstr_size]
      have : (Z.length - 0) * 6007 ≤ 2097152 * 6007 := Nat.mul_le_mul_right _ (by omega)
      omega
    have C1 : Hid (Calls Tryd.prog 8 #[.string s] w fun e w1 => Below w.heap.size w w1 ∧ ∃ A c, e = .returned (.tuple #[.slice A Z.length c, .int .i64 0, .int .i64 0]) ∧ Z.length ≤ c ∧ Slots w1 A Z.length (nthS Z)) := by
      refine C1.mono fun e w1 ⟨hb, v, he, hrow⟩ => ⟨hb, ?_⟩
      obtain ⟨A, c, rfl, hc⟩ := own_form_cap hrow
      obtain ⟨A6, c6, e6, hsl⟩ := slots_of_own hrow
      cases e6
      exact ⟨A, c, he, hc, hsl⟩
    have C2 : Hid (∀ (w1 : World) (A : Option Addr) (c : Nat), Below w.heap.size w w1 → Z.length ≤ c → Slots w1 A Z.length (nthS Z) → Calls Tryd.prog 6 #[.slice A Z.length c] w1 fun e w2 => e = .returned (.tuple #[.string (bstr t), .int .i64 0]) ∧ Below w1.heap.size w1 w2) := by
      intro w1 A c hb hc hs
      have h := Text_any A Z.length c (nthS Z) hc (by omega) w1 (hT.below hb) hs
      have e1 : textE (nthS Z) Z.length = .returned (.tuple #[.string (bstr t), .int .i64 0]) := by unfold textE; rw [ht]
      rw [e1] at h
      exact h
    have hcat : bstr ([10, 32, 32, 10] ++ t ++ [10]) = (⟨#[10, 32, 32, 10]⟩ : ByteArray) ++ bstr t ++ ⟨#[10]⟩ := by rw [bstr_app, bstr_app]; rfl
    have C3 : Hid (∀ w2, Below w.heap.size w w2 → Calls Tryd.prog 8 #[.string ((⟨#[10, 32, 32, 10]⟩ : ByteArray) ++ bstr t ++ ⟨#[10]⟩)] w2 fun e w3 => Below w2.heap.size w2 w3 ∧ ∃ A' c', e = .returned (.tuple #[.slice A' Z.length c', .int .i64 0, .int .i64 0]) ∧ Slots w3 A' Z.length (nthS Z)) := by
      intro w2 hb
      have hz : (bstr ([10, 32, 32, 10] ++ t ++ [10])).size ≤ 274877906944 := by
        rw [bstr_size] at hzt ⊢
        simp only [List.length_append, List.length_cons, List.length_nil]
        omega
      have h := Read_any _ hz w2 (hT.below hb)
      unfold ReadG at h
      rw [read_around (nthS Z) Z.length ht, hcat] at h
      refine h.mono fun e w3 ⟨hb2, v, he, hrow⟩ => ⟨hb2, ?_⟩
      obtain ⟨A', c', rfl, hs⟩ := row_slots hrow
      exact ⟨A', c', he, hs⟩
    have CS := Lib.hid (fun (w3 : World) (A A' : Option Addr) (c c' : Nat) (h : Slots w3 A Z.length (nthS Z)) (h' : Slots w3 A' Z.length (nthS Z)) => same_any Z.length c c' A A' (nthS Z) w3 (by omega) h h')
    have n1 : ¬ 9223372036854775807 < (⟨#[10, 32, 32, 10]⟩ : ByteArray).size + (bstr t).size := by
      rw [show (⟨#[10, 32, 32, 10]⟩ : ByteArray).size = 4 from rfl]
      omega
    have n2 : ¬ 9223372036854775807 < ((⟨#[10, 32, 32, 10]⟩ : ByteArray) ++ bstr t).size + (⟨#[10]⟩ : ByteArray).size := by
      rw [ByteArray.size_append, show (⟨#[10, 32, 32, 10]⟩ : ByteArray).size = 4 from rfl, show (⟨#[10]⟩ : ByteArray).size = 1 from rfl]
      omega
    clear hT h1 hn ht hZ hL z1 hlen hzt hcat
    generalize bstr t = tt at *
    generalize Z.length = n at *
    generalize nthS Z = X at *
    go_enter Tryd.func4, Tryd.ntmps4
    go_wp2_with (first
      | (go_at_call 8; first
        | (refine C1.out.mono ?_; clear C1; rintro e w1 ⟨hb, A, c, rfl, hc, hs⟩; have B1 := Lib.hid hb; have HC := Lib.hid hc; have HS := Lib.hid hs; clear hb hc hs)
        | (refine (C3.out _ B2.out).mono ?_; rintro e w3 ⟨hb, A', c', rfl, hs⟩; have B3 := Lib.hid (B2.out.on hb); have HS3 := Lib.hid (HS2.out.below hb); have HT3 := Lib.hid hs; clear hb hs))
      | (go_at_call 6; refine (C2.out _ _ _ B1.out HC.out HS.out).mono ?_; rintro e w2 ⟨rfl, hb⟩; have B2 := Lib.hid (B1.out.on hb); have HS2 := Lib.hid (HS.out.below hb); clear hb)
      | (go_at_call 9; refine (CS.out _ _ _ _ _ HS3.out HT3.out).mono ?_; rintro e w4 ⟨rfl, hb⟩; have B4 := Lib.hid (B3.out.on hb); clear hb)
      | (go_at_call 7; refine (CA.out _ B4.out).mono ?_; rintro e w5 ⟨rfl, hb⟩; have B5 := Lib.hid (B4.out.on hb); clear hb))
    go_ret
    exact ⟨rfl, B5.out⟩
end Go.Proofs.YtpjfnnlopcccaaaDoor
