/-
  The law InsnEncodes, walked.
-/
import Derived.Test.YtkopbjjpghbkoaaDoorIPiecesWalk
import Derived.Test.YtkopbjjpghbkoaaDoorIRefDec2
namespace Go.Proofs.YtkopbjjpghbkoaaDoor
open Go Go.RowKit
set_option linter.unusedVariables false
theorem encAns_form (X : Nat → Slot) (n : Nat) : ∃ bs z, encAns X n = .returned (.tuple #[.string bs, .int .i64 z]) := by
  by_cases h : AllOk X n
  · exact ⟨_, _, encAns_ok h⟩
  · exact ⟨_, _, encAns_bad h⟩
set_option maxRecDepth 100000 in
set_option maxHeartbeats 1000000 in
theorem encodes_walk (A : Option Addr) (n c : Nat) (X : Nat → Slot) (s : ByteArray) (w : World) (hn : n ≤ 1048576) (hs : s.size ≤ 1048576) (hX : Slots w A n X) (hA : A = none → n = 0 ∧ c = 0) (hS : Sizes w) :
    Calls Tryd.prog 3 #[.slice A n c, .string s] w fun e w' => e = .returned (.bool true) ∧ Below w.heap.size w w' := by
  have HS := Lib.hid hS
  have HX := Lib.hid hX
  have HN := Lib.hid hn
  have HA := Lib.hid hA
  have CZ := Lib.hid awake_any
  have CN := Lib.hid encode_any
  have CR := Lib.hid rencode_any
  have CD := Lib.hid decode_ok
  have CB := Lib.hid decode_bad
  have RD := Lib.hid rdecode_ok
  have RB := Lib.hid rdecode_bad
  have CS := Lib.hid same_any
  obtain ⟨v3, w3, hr3, ho3, hb3⟩ := append_slots (w0 := w) (w := w) (v := .slice none 0 0) (n := 0) (m := n) (c := c) (xs := []) (Below.refl _ _) (World.ownsRow_nil _ _ _ _) hX hA (by omega)
  rw [List.nil_append, Nat.zero_add] at ho3
  obtain ⟨A3, c3, rfl, hs3⟩ := slots_of_own ho3
  have HR3 := Lib.hid hr3
  have S3 := Lib.hid hs3
  have B3 := Lib.hid hb3
  obtain ⟨bs, z, hen⟩ := encAns_form X n
  have HE := Lib.hid hen
  clear hS hX hA ho3 hb3 hs3 hr3 hen
  by_cases hm : s.size % 8 = 0
  · obtain ⟨k, hk⟩ : ∃ k, s.size = 8 * k := ⟨s.size / 8, by omega⟩
    have HK := Lib.hid hk
    clear hk hm
    go_enter Tryd.func3, Tryd.ntmps3
    go_wp2_with (first
      | (at_builtin; refine wpList_append_run rfl _ _ 22 rfl (.slice none 0 0) (.slice A n c) (.slice A3 n c3) w3 rfl rfl 22 rfl HR3.out ?_)
      | (go_at_call 8; have CU := CN.out A3 n c3 X HN.out w3 S3.out; rw [HE.out] at CU; refine CU.mono ?_; rintro e w4 ⟨rfl, hb4⟩; have B4 : Hid (Below w.heap.size w w4) := B3.out.trans (hb4.mono B3.out.size); clear hb4 CU)
      | (go_at_call 9; have CU := CR.out A n c X HN.out w4 (HX.out.below B4.out); rw [HE.out] at CU; refine CU.mono ?_; rintro e w5 ⟨rfl, hb5⟩; have B5 : Hid (Below w.heap.size w w5) := B4.out.trans (hb5.mono B4.out.size); clear hb5 CU))
    go_wp2_with (go_at_call 10; refine (CD.out s k HK.out (by have := HK.out; omega) w5).mono ?_; rintro e w6 ⟨v6, rfl, hb6, ho6⟩; obtain ⟨A6, c6, rfl, hs6⟩ := slots_of_dec ho6 (fun _ _ => rfl); have B6 : Hid (Below w.heap.size w w6) := B5.out.trans (hb6.mono B5.out.size); have S6 := Lib.hid hs6; clear hb6 ho6 hs6)
    go_wp2_with (go_at_call 11; refine (RD.out s k HK.out (by have := HK.out; omega) w6).mono ?_; rintro e w7 ⟨v7, rfl, hb7, ho7⟩; obtain ⟨A7, c7, rfl, hs7⟩ := slots_of_dec ho7 (fun _ _ => rfl); have B7 : Hid (Below w.heap.size w w7) := B6.out.trans (hb7.mono B6.out.size); have S7 := Lib.hid hs7; have S67 := Lib.hid (S6.out.below hb7); clear hb7 ho7 hs7)
    go_wp2_with (go_at_call 12; refine (CS.out k c6 c7 A6 A7 _ w7 (by have := HK.out; omega) S67.out S7.out).mono ?_; rintro e w8 ⟨rfl, hb8⟩; have B8 : Hid (Below w.heap.size w w8) := B7.out.trans (hb8.mono B7.out.size); clear hb8)
    go_wp2_with (go_at_call 13; refine (CZ.out _ (HS.out.below B8.out)).mono ?_; rintro e w9 ⟨rfl, hb9⟩; have B9 : Hid (Below w.heap.size w w9) := B8.out.trans (hb9.mono B8.out.size); clear hb9)
    go_ret
    exact ⟨rfl, B9.out⟩
  · have HK := Lib.hid hm
    have hnil : ∀ W : World, Slots W none 0 X := fun W i hi => absurd hi (Nat.not_lt_zero _)
    have HNIL := Lib.hid hnil
    clear hm hnil
    go_enter Tryd.func3, Tryd.ntmps3
    go_wp2_with (first
      | (at_builtin; refine wpList_append_run rfl _ _ 22 rfl (.slice none 0 0) (.slice A n c) (.slice A3 n c3) w3 rfl rfl 22 rfl HR3.out ?_)
      | (go_at_call 8; have CU := CN.out A3 n c3 X HN.out w3 S3.out; rw [HE.out] at CU; refine CU.mono ?_; rintro e w4 ⟨rfl, hb4⟩; have B4 : Hid (Below w.heap.size w w4) := B3.out.trans (hb4.mono B3.out.size); clear hb4 CU)
      | (go_at_call 9; have CU := CR.out A n c X HN.out w4 (HX.out.below B4.out); rw [HE.out] at CU; refine CU.mono ?_; rintro e w5 ⟨rfl, hb5⟩; have B5 : Hid (Below w.heap.size w w5) := B4.out.trans (hb5.mono B4.out.size); clear hb5 CU))
    go_wp2_with (go_at_call 10; refine (CB.out s hs HK.out w5).mono ?_; rintro e w' ⟨rfl, rfl⟩)
    go_wp2_with (go_at_call 11; refine (RB.out s hs HK.out w5).mono ?_; rintro e w' ⟨rfl, rfl⟩)
    go_wp2_with (go_at_call 12; refine (CS.out 0 0 0 none none X w5 (by omega) (HNIL.out _) (HNIL.out _)).mono ?_; rintro e w8 ⟨rfl, hb8⟩; have B8 : Hid (Below w.heap.size w w8) := B5.out.trans (hb8.mono B5.out.size); clear hb8)
    go_wp2_with (go_at_call 13; refine (CZ.out _ (HS.out.below B8.out)).mono ?_; rintro e w9 ⟨rfl, hb9⟩; have B9 : Hid (Below w.heap.size w w9) := B8.out.trans (hb9.mono B8.out.size); clear hb9)
    go_ret
    exact ⟨rfl, B9.out⟩
end Go.Proofs.YtkopbjjpghbkoaaDoor
