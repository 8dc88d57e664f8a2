/-
  The law InsnBack, walked.
-/
import Derived.Test.YtmbkagjdhpfngaaDoorISame
namespace Go.Proofs.YtmbkagjdhpfngaaDoor
open Go Go.RowKit
set_option linter.unusedVariables false
set_option maxRecDepth 100000 in
set_option maxHeartbeats 2000000 in
theorem back_walk (A : Option Addr) (n c : Nat) (X : Nat → Slot) (s : ByteArray) (w : World) (hn : n ≤ 1048576) (hs : s.size ≤ 1048576) (hX : Slots w A n X) (hS : Sizes w) :
    Calls Tryd.prog 4 #[.slice A n c, .string s] w fun e w' => e = .returned (.bool true) ∧ Below w.heap.size w w' := by
  have HS := Lib.hid hS
  have HX := Lib.hid hX
  have CE := Lib.hid (encode_any A n c X hn w hX)
  have CZ := Lib.hid awake_any
  have CN := Lib.hid encode_any
  have CD := Lib.hid decode_ok
  have CB := Lib.hid decode_bad
  have CS := Lib.hid same_any
  have HN := Lib.hid hn
  clear hS hX
  by_cases hok : AllOk X n
  · rw [encAns_ok hok] at CE
    have HZ : Hid ((bstr (encAll X n)).size = 8 * n) := by unfold Hid; rw [bstr_size, encAll_length]; omega
    have HOK := Lib.hid hok
    clear hok
    by_cases hm : s.size % 8 = 0
    · obtain ⟨k, hk⟩ : ∃ k, s.size = 8 * k := ⟨s.size / 8, by omega⟩
      have HK := Lib.hid hk
      clear hk hm
      go_enter Tryd.func4, Tryd.ntmps4
      go_wp2_with (go_at_call 8; refine CE.out.mono ?_; rintro e w1 ⟨rfl, hb1⟩; have B1 := Lib.hid hb1; clear hb1)
      go_wp2_with (go_at_call 10; refine (CD.out (bstr (encAll X n)) n HZ.out HN.out w1).mono ?_; rintro e w2 ⟨v2, rfl, hb2, ho2⟩; obtain ⟨A2, c2, rfl, hs2⟩ := slots_of_dec ho2 (fun k hk => dec_all X n k hk (HOK.out k hk)); have B2 : Hid (Below w.heap.size w w2) := B1.out.trans (hb2.mono B1.out.size); have S2 := Lib.hid hs2; clear hb2 ho2 hs2)
      go_wp2_with (go_at_call 12; refine (CS.out n c c2 A A2 X w2 HN.out (HX.out.below B2.out) S2.out).mono ?_; rintro e w3 ⟨rfl, hb3⟩; have B3 : Hid (Below w.heap.size w w3) := B2.out.trans (hb3.mono B2.out.size); clear hb3)
      go_wp2_with (go_at_call 10; refine (CD.out s k HK.out (by have := HK.out; omega) w3).mono ?_; rintro e w4 ⟨v4, rfl, hb4, ho4⟩; obtain ⟨A4, c4, rfl, hs4⟩ := slots_of_dec ho4 (fun _ _ => rfl); have B4 : Hid (Below w.heap.size w w4) := B3.out.trans (hb4.mono B3.out.size); have S4 := Lib.hid hs4; clear hb4 ho4 hs4)
      have CF := Lib.hid (CN.out A4 k c4 (fun j => decAt s (8 * j)) (by have := HK.out; omega) w4 S4.out)
      rw [encAns_ok (ok_all s k), enc_all s k HK.out] at CF
      go_wp2_with (go_at_call 8; refine CF.out.mono ?_; rintro e w5 ⟨rfl, hb5⟩; have B5 : Hid (Below w.heap.size w w5) := B4.out.trans (hb5.mono B4.out.size); clear hb5)
      go_wp2_with (go_at_call 13; refine (CZ.out _ (HS.out.below B5.out)).mono ?_; rintro e w6 ⟨rfl, hb6⟩; have B6 : Hid (Below w.heap.size w w6) := B5.out.trans (hb6.mono B5.out.size); clear hb6)
      go_ret
      exact ⟨rfl, B6.out⟩
    · have HK := Lib.hid hm
      have t3 : ((s.size : Int).tmod 8 != 0) = true := by
        rw [Int.tmod_eq_emod_of_nonneg (by omega)]
        simp; omega
      have t2 : ((s.size : Int) % 8 != 0) = true := by simp; omega
      have t4 : ¬ (s.size : Int).tmod 8 = 0 := by
        rw [Int.tmod_eq_emod_of_nonneg (by omega)]; omega
      clear hm
      go_enter Tryd.func4, Tryd.ntmps4
      go_wp2_with (go_at_call 8; refine CE.out.mono ?_; rintro e w1 ⟨rfl, hb1⟩; have B1 := Lib.hid hb1; clear hb1)
      go_wp2_with (go_at_call 10; refine (CD.out (bstr (encAll X n)) n HZ.out HN.out w1).mono ?_; rintro e w2 ⟨v2, rfl, hb2, ho2⟩; obtain ⟨A2, c2, rfl, hs2⟩ := slots_of_dec ho2 (fun k hk => dec_all X n k hk (HOK.out k hk)); have B2 : Hid (Below w.heap.size w w2) := B1.out.trans (hb2.mono B1.out.size); have S2 := Lib.hid hs2; clear hb2 ho2 hs2)
      go_wp2_with (go_at_call 12; refine (CS.out n c c2 A A2 X w2 HN.out (HX.out.below B2.out) S2.out).mono ?_; rintro e w3 ⟨rfl, hb3⟩; have B3 : Hid (Below w.heap.size w w3) := B2.out.trans (hb3.mono B2.out.size); clear hb3)
      go_wp2_with (go_at_call 10; refine (CB.out s hs HK.out w3).mono ?_; rintro e w' ⟨rfl, rfl⟩)
      go_wp2_with (go_at_call 13; refine (CZ.out _ (HS.out.below B3.out)).mono ?_; rintro e w6 ⟨rfl, hb6⟩; have B6 : Hid (Below w.heap.size w w6) := B3.out.trans (hb6.mono B3.out.size); clear hb6)
      go_ret
      exact ⟨rfl, B6.out⟩
  · rw [encAns_bad hok] at CE
    clear hok
    by_cases hm : s.size % 8 = 0
    · obtain ⟨k, hk⟩ : ∃ k, s.size = 8 * k := ⟨s.size / 8, by omega⟩
      have HK := Lib.hid hk
      clear hk hm
      go_enter Tryd.func4, Tryd.ntmps4
      go_wp2_with (go_at_call 8; refine CE.out.mono ?_; rintro e w3 ⟨rfl, hb1⟩; have B3 := Lib.hid hb1; clear hb1)
      go_wp2_with (go_at_call 10; refine (CD.out s k HK.out (by have := HK.out; omega) w3).mono ?_; rintro e w4 ⟨v4, rfl, hb4, ho4⟩; obtain ⟨A4, c4, rfl, hs4⟩ := slots_of_dec ho4 (fun _ _ => rfl); have B4 : Hid (Below w.heap.size w w4) := B3.out.trans (hb4.mono B3.out.size); have S4 := Lib.hid hs4; clear hb4 ho4 hs4)
      have CF := Lib.hid (CN.out A4 k c4 (fun j => decAt s (8 * j)) (by have := HK.out; omega) w4 S4.out)
      rw [encAns_ok (ok_all s k), enc_all s k HK.out] at CF
      go_wp2_with (go_at_call 8; refine CF.out.mono ?_; rintro e w5 ⟨rfl, hb5⟩; have B5 : Hid (Below w.heap.size w w5) := B4.out.trans (hb5.mono B4.out.size); clear hb5)
      go_wp2_with (go_at_call 13; refine (CZ.out _ (HS.out.below B5.out)).mono ?_; rintro e w6 ⟨rfl, hb6⟩; have B6 : Hid (Below w.heap.size w w6) := B5.out.trans (hb6.mono B5.out.size); clear hb6)
      go_ret
      exact ⟨rfl, B6.out⟩
    · have HK := Lib.hid hm
      have t3 : ((s.size : Int).tmod 8 != 0) = true := by
        rw [Int.tmod_eq_emod_of_nonneg (by omega)]
        simp; omega
      have t2 : ((s.size : Int) % 8 != 0) = true := by simp; omega
      have t4 : ¬ (s.size : Int).tmod 8 = 0 := by
        rw [Int.tmod_eq_emod_of_nonneg (by omega)]; omega
      clear hm
      go_enter Tryd.func4, Tryd.ntmps4
      go_wp2_with (go_at_call 8; refine CE.out.mono ?_; rintro e w3 ⟨rfl, hb1⟩; have B3 := Lib.hid hb1; clear hb1)
      go_wp2_with (go_at_call 10; refine (CB.out s hs HK.out w3).mono ?_; rintro e w' ⟨rfl, rfl⟩)
      go_wp2_with (go_at_call 13; refine (CZ.out _ (HS.out.below B3.out)).mono ?_; rintro e w6 ⟨rfl, hb6⟩; have B6 : Hid (Below w.heap.size w w6) := B3.out.trans (hb6.mono B3.out.size); clear hb6)
      go_ret
      exact ⟨rfl, B6.out⟩
end Go.Proofs.YtmbkagjdhpfngaaDoor
