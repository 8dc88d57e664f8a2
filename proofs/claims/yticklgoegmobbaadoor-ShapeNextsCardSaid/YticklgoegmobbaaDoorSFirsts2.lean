/-
  firsts, walked.
-/
import Derived.Test.YticklgoegmobbaaDoorSFirsts
namespace Go.Proofs.YticklgoegmobbaaDoor
open Go Go.RowKit
set_option linter.unusedVariables false
set_option linter.unusedSimpArgs false
set_option maxRecDepth 100000
theorem firsts_none (A : Option Addr) (n c : Nat) (X : Nat → Slot) (hn : n = 0 ∨ 4096 < n) (w : World) :
    Calls Tryd.prog 18 #[.slice A n c] w fun e w' => FirstsAns w.heap.size X n e w' ∧ Below w.heap.size w w' := by
  have hk : chk X n = some 0 := by unfold chk; rw [if_pos hn]
  have HK := Lib.hid hk
  clear hk
  rcases hn with rfl | hn
  · go_enter Tryd.func18, Tryd.ntmps18
    go_wp2_with fail
    go_ret3
    exact ⟨ans_bad HK.out rfl, Below.refl _ w⟩
  · have h0 : ((n : Int) == 0) = false := by simp; omega
    have h1 : decide ((4096 : Int) < (n : Int)) = true := by simp; omega
    clear hn
    go_enter Tryd.func18, Tryd.ntmps18
    go_wp2_with fail
    go_ret3
    exact ⟨ans_bad HK.out rfl, Below.refl _ w⟩
def tgtF (X : Nat → Slot) (n : Nat) : Prop := ∀ i, i < n → fst X i = true → -32768 ≤ (X i).f ∧ (X i).f ≤ 32767
theorem one_f {x : Slot} (h : oneS x = true) : -32768 ≤ x.f ∧ x.f ≤ 32767 := by
  unfold oneS oneB at h
  rw [Bool.and_eq_true] at h
  exact (of_decide_eq_true h.1).2.2.2.1
theorem whole_f {X : Nat → Slot} {n i : Nat} (h : wholeS X n i = true) : -32768 ≤ (X i).f ∧ (X i).f ≤ 32767 := by
  unfold wholeS at h
  rw [Bool.and_eq_true] at h
  exact one_f h.1
set_option maxHeartbeats 8000000 in
theorem firsts_some (A : Option Addr) (n c : Nat) (X : Nat → Slot) (h0 : 0 < n) (h4 : n ≤ 4096) (w : World) (h : Slots w A n X) (hS : Sizes w) :
    Calls Tryd.prog 18 #[.slice A n c] w fun e w' => FirstsAns w.heap.size X n e w' ∧ Below w.heap.size w w' := by
  have hmk := make_bools n (by omega) w
  have t0 : ((n : Int) == 0) = false := by simp; omega
  have t1 : decide ((4096 : Int) < (n : Int)) = false := by simp; omega
  have H := Lib.hid h
  have HS := Lib.hid hS
  have B0 : Hid (Below w.heap.size w (w.alloc (.cells (rowB n fun _ => false) 4))) := (Below.refl _ w).alloc (Nat.le_refl _) _
  have R0 : Hid (Blk (w.alloc (.cells (rowB n fun _ => false) 4)) w.heap.size 4 (rowB n (fun i => decide (i < 0) && fst X i))) := by rw [← row_none]; exact Blk.new _ _ _
  have H04 := Lib.hid (And.intro h0 h4)
  clear h hS h0
  go_enter Tryd.func18, Tryd.ntmps18
  go_wp2_with fail
  clear hmk t0 t1
  go_loopw [6, 7] (fun la at_ wr => ∃ k l : Nat, at_ = .int .i64 k ∧ la = .int .i64 l ∧ Scan X n k l ∧ Below w.heap.size w wr ∧ Blk wr w.heap.size 4 (rowB n (fun i => decide (i < k) && fst X i))) (fun _ i _ => n - (intOf i).toNat)
  case atStart => exact ⟨0, 0, rfl, rfl, Scan.init X n, B0.out, R0.out⟩
  case round =>
    clear B0 R0
    obtain ⟨k, l, rfl, rfl, hsc, hb, hr⟩ := hrel
    have SC := Lib.hid hsc
    have HB := Lib.hid hb
    have HR := Lib.hid hr
    clear hsc hb hr
    by_cases hkn : k < n
    · have g1 : decide (k < n) = true := by simpa using hkn
      have CW := Lib.hid (whole_any A n c k X (by have := H04.out; omega) hkn wr (H.out.below HB.out) (HS.out.below HB.out))
      cases hw : wholeS X n k
      · rw [hw] at CW
        go_wp2_with (go_at_call 34; refine CW.out.mono ?_; rintro e w2 ⟨rfl, hb2⟩; have HB2 := Lib.hid hb2; clear hb2)
        go_ret3
        exact ⟨ans_bad (by unfold chk; rw [if_neg (by have := H04.out; omega), SC.out.bad hkn hw]) rfl, HB.out.trans (HB2.out.mono HB.out.size)⟩
      · rw [hw] at CW
        have e5 : IntKind.i64.wrap ((k : Int) + (slN (X k) : Nat)) = ((k + slN (X k) : Nat) : Int) := by rw [IntKind.wrap_i64]; have := (slN_pos (X k)).2; have := H04.out; omega
        have CS : Hid (∀ w', Calls Tryd.prog 21 #[.agg #[.int .i64 (X k).o, .int .i64 (X k).d, .int .i64 (X k).s, .int .i64 (X k).f, .int .i64 (X k).m]] w' fun e w'' => e = .returned (.int .i64 (slN (X k) : Nat)) ∧ Below w'.heap.size w' w'') := fun w' => slots_any _ _ _ _ _ w'
        have HW := Lib.hid hw
        clear hw
        obtain ⟨b, off, hA, hlt, hc⟩ := H.out k hkn
        have HC := Lib.hid hc
        have HLT := Lib.hid hlt
        have E5 := Lib.hid e5
        subst hA
        clear hc hlt e5
        have i1 : (0 : Int) ≤ (k : Int) := by omega
        have i2 : (k : Int) < (n : Int) := by omega
        go_wp2_with (first
          | (go_at_call 34; refine CW.out.mono ?_; rintro e w2 ⟨rfl, hb2⟩
             have hr2 := HR.out.below hb2
             have cr : w2.cell? ⟨w.heap.size, k, none⟩ = some (.bool (decide (k < k) && fst X k)) := by rw [hr2.cell k]; exact rowB_get _ _ _ hkn
             have fr : w2.frozen? ⟨w.heap.size, k, none⟩ = false := hr2.frozen k
             have HB3 : Hid (Below w.heap.size w (w2.setCell ⟨w.heap.size, k, none⟩ (.bool true))) := (HB.out.trans (hb2.mono HB.out.size)).setCell (Nat.le_refl _) _
             have HR3 : Hid (Blk (w2.setCell ⟨w.heap.size, k, none⟩ (.bool true)) w.heap.size 4 (rowB n (fun i => decide (i < k + slN (X k)) && fst X i))) := by have := hr2.set_ k (.bool true); rw [row_step SC.out.at_] at this; exact this
             obtain ⟨c0, c1, c2, c3, c4⟩ := HC.out.below HB3.out HLT.out
             clear hb2 hr2)
          | (go_at_call 21; refine (CS.out _).mono ?_; rintro e w4 ⟨rfl, hb4⟩; have HB4 : Hid (Below w.heap.size w w4) := HB3.out.trans (hb4.mono HB3.out.size); have HR4 := Lib.hid (HR3.out.below hb4); have e5 := E5.out; clear hb4))
        go_roundw
        case rel => exact ⟨k + slN (X k), k, rfl, rfl, SC.out.step hkn HW.out, HB4.out, HR4.out⟩
        case measure => have := (slN_pos (X k)).1; simp [intOf]; omega
    · have hkn' : k = n := by have := SC.out.le; omega
      have hfine := HR.out
      have hlast := SC.out
      rw [hkn'] at hlast hfine
      rw [row_all] at hfine
      have SL := Lib.hid hlast
      have HF := Lib.hid hfine
      have g1 : decide (k < n) = false := by simpa using hkn
      clear SC HR hlast hfine hkn hkn'
      go_wp2_with fail
      clear g1
      go_loopw [44] (fun i ws => ∃ k : Nat, k ≤ n ∧ i = .int .i64 k ∧ Below w.heap.size w ws ∧ Blk ws w.heap.size 4 (rowB n (fst X)) ∧ ∀ j, j < k → strayS X n j = false) (fun i _ => n - (intOf i).toNat)
      case atStart => exact ⟨0, by omega, rfl, HB.out, HF.out, fun j hj => by omega⟩
      case round =>
        clear HB HF
        obtain ⟨k, hk, rfl, hb, hr, hno⟩ := hrel
        have HB := Lib.hid hb
        have HR := Lib.hid hr
        have HNO := Lib.hid hno
        clear hb hr hno
        by_cases hkn : k < n
        · have g1 : decide (k < n) = true := by simpa using hkn
          have i1 : (0 : Int) ≤ (k : Int) := by omega
          have i2 : (k : Int) < (n : Int) := by omega
          obtain ⟨b, off, hA, hlt, hc⟩ := (H.out.below HB.out) k hkn
          subst hA
          obtain ⟨c0, c1, c2, c3, c4⟩ := hc
          have n5 := Cells5.new wr (X k) 39
          have N5 := Lib.hid n5
          have LT := Lib.hid (lt_box wr (.cells #[.int .i64 (X k).o, .int .i64 (X k).d, .int .i64 (X k).s, .int .i64 (X k).f, .int .i64 (X k).m] 39))
          have HB1 : Hid (Below w.heap.size w (wr.alloc (.cells #[.int .i64 (X k).o, .int .i64 (X k).d, .int .i64 (X k).s, .int .i64 (X k).f, .int .i64 (X k).m] 39))) := HB.out.alloc HB.out.size _
          have HR1 : Hid (Blk (wr.alloc (.cells #[.int .i64 (X k).o, .int .i64 (X k).d, .int .i64 (X k).s, .int .i64 (X k).f, .int .i64 (X k).m] 39)) w.heap.size 4 (rowB n (fst X))) := HR.out.alloc _
          have cr : (wr.alloc (.cells #[.int .i64 (X k).o, .int .i64 (X k).d, .int .i64 (X k).s, .int .i64 (X k).f, .int .i64 (X k).m] 39)).cell? ⟨w.heap.size, k, none⟩ = some (.bool (fst X k)) := by rw [HR1.out.cell k]; exact rowB_get _ _ _ hkn
          have CA : Hid (∀ w', Calls Tryd.prog 35 #[.agg #[.int .i64 (X k).o, .int .i64 (X k).d, .int .i64 (X k).s, .int .i64 (X k).f, .int .i64 (X k).m]] w' fun e w'' => e = .returned (.bool (aimS (X k))) ∧ Below w'.heap.size w' w'') := fun w' => aims_any _ _ _ _ _ w'
          have CH := Lib.hid (fun w' h => holds_any w.heap.size n n (fst X) (tgt (X k) k) w' h)
          clear hlt n5
          cases hf : fst X k
          · rw [hf] at cr
            have HF0 := Lib.hid hf
            clear hf
            go_wp2_with fail
            go_roundw
            case rel =>
              refine ⟨k + 1, by omega, by go_num, HB1.out, HR1.out, fun j hj => ?_⟩
              rcases Nat.lt_or_ge j k with h1 | h1
              · exact HNO.out j h1
              · rw [show j = k by omega]; simp [strayS, HF0.out]
            case measure => simp [intOf]; omega
          · rw [hf] at cr
            have HF0 := Lib.hid hf
            have hff := whole_f (SL.out.ok k hkn hf)
            have CT : Hid (∀ w', Calls Tryd.prog 36 #[.agg #[.int .i64 (X k).o, .int .i64 (X k).d, .int .i64 (X k).s, .int .i64 (X k).f, .int .i64 (X k).m], .int .i64 (k : Int)] w' fun e w'' => e = .returned (.int .i64 (tgt (X k) k)) ∧ Below w'.heap.size w' w'') := fun w' => target_any _ _ _ _ _ _ (by have := H04.out; omega) hff w'
            clear hf hff
            cases ha : aimS (X k)
            · rw [ha] at CA
              have HA0 := Lib.hid ha
              clear ha
              go_wp2_with (go_at_call 35; refine (CA.out _).mono ?_; rintro e w2 ⟨rfl, hb2⟩; have HB2 : Hid (Below w.heap.size w w2) := HB1.out.trans (hb2.mono HB1.out.size); have HR2 := Lib.hid (HR1.out.below hb2); clear hb2)
              go_roundw
              case rel =>
                refine ⟨k + 1, by omega, by go_num, HB2.out, HR2.out, fun j hj => ?_⟩
                rcases Nat.lt_or_ge j k with h1 | h1
                · exact HNO.out j h1
                · rw [show j = k by omega]; simp [strayS, HA0.out]
              case measure => simp [intOf]; omega
            · rw [ha] at CA
              have HA0 := Lib.hid ha
              clear ha
              cases hh : (decide (0 ≤ tgt (X k) k) && (decide (tgt (X k) k < n) && fst X (tgt (X k) k).toNat))
              · rw [hh] at CH
                have HH0 := Lib.hid hh
                clear hh
                go_wp2_with (first
                  | (go_at_call 35; refine (CA.out _).mono ?_; rintro e w2 ⟨rfl, hb2⟩; have HB2 : Hid (Below w.heap.size w w2) := HB1.out.trans (hb2.mono HB1.out.size); have HR2 := Lib.hid (HR1.out.below hb2); obtain ⟨d0, d1, d2, d3, d4⟩ := N5.out.below hb2 LT.out; clear hb2)
                  | (go_at_call 36; refine (CT.out _).mono ?_; rintro e w3 ⟨rfl, hb3⟩; have HB3 : Hid (Below w.heap.size w w3) := HB2.out.trans (hb3.mono HB2.out.size); have HR3 := Lib.hid (HR2.out.below hb3); clear hb3)
                  | (go_at_call 25; refine (CH.out _ HR3.out).mono ?_; rintro e w4 ⟨rfl, rfl⟩))
                go_ret3
                refine ⟨ans_bad ?_ rfl, HB3.out⟩
                unfold chk
                rw [if_neg (by have := H04.out; omega), SL.out.fine]
                have hs : strayS X n k = true := by unfold strayS holdsS; rw [HF0.out, HA0.out, HH0.out]; rfl
                have hb : aimBad X n = some k := find_range_some hkn hs HNO.out
                simp only [hb]
              · rw [hh] at CH
                have HH0 := Lib.hid hh
                clear hh
                go_wp2_with (first
                  | (go_at_call 35; refine (CA.out _).mono ?_; rintro e w2 ⟨rfl, hb2⟩; have HB2 : Hid (Below w.heap.size w w2) := HB1.out.trans (hb2.mono HB1.out.size); have HR2 := Lib.hid (HR1.out.below hb2); obtain ⟨d0, d1, d2, d3, d4⟩ := N5.out.below hb2 LT.out; clear hb2)
                  | (go_at_call 36; refine (CT.out _).mono ?_; rintro e w3 ⟨rfl, hb3⟩; have HB3 : Hid (Below w.heap.size w w3) := HB2.out.trans (hb3.mono HB2.out.size); have HR3 := Lib.hid (HR2.out.below hb3); clear hb3)
                  | (go_at_call 25; refine (CH.out _ HR3.out).mono ?_; rintro e w4 ⟨rfl, rfl⟩))
                go_roundw
                case rel =>
                  refine ⟨k + 1, by omega, by go_num, HB3.out, HR3.out, fun j hj => ?_⟩
                  rcases Nat.lt_or_ge j k with h1 | h1
                  · exact HNO.out j h1
                  · rw [show j = k by omega]
                    unfold strayS holdsS
                    rw [HF0.out, HA0.out, HH0.out]
                    rfl
                case measure => simp [intOf]; omega
        · have hkn' : k = n := by omega
          have hno := HNO.out
          rw [hkn'] at hno
          have hab : aimBad X n = none := find_range_none hno
          have HAB := Lib.hid hab
          have g1 : decide (k < n) = false := by simpa using hkn
          have hpos := H04.out.1
          have hl := SL.out.last hpos
          have hln : lastOf X n < n := lastOf_le hpos
          rw [← hl] at hln
          have HL := Lib.hid hl
          have HLN := Lib.hid hln
          obtain ⟨b, off, hA, hlt, hc⟩ := (H.out.below HB.out) l hln
          subst hA
          obtain ⟨c0, c1, c2, c3, c4⟩ := hc
          have i1 : (0 : Int) ≤ (l : Int) := by omega
          have i2 : (l : Int) < (n : Int) := by omega
          have HE : Hid (∀ v, endS (X l) = v → chk X n = if v then none else some l) := by
            rintro v rfl
            unfold chk
            rw [if_neg (by have := H04.out; omega), SL.out.fine]
            simp only [HAB.out]
            rw [HL.out]
          clear hkn' hno hab hpos hl hln hlt hkn
          cases h1 : ((X l).o == 149)
          · have h1' : ((X l).o != 149) = true := by simp only [bne, h1]; rfl
            cases h2 : ((X l).o == 5)
            · have h2' : ((X l).o != 5) = true := by simp only [bne, h2]; rfl
              have HE2 : Hid (chk X n = some l) := HE.out false (by simp only [endS, h1, h2]; rfl)
              go_wp2_with fail
              go_ret3
              exact ⟨ans_bad HE2.out rfl, HB.out⟩
            · have h2' : ((X l).o != 5) = false := by simp only [bne, h2]; rfl
              have HE2 : Hid (chk X n = none) := HE.out true (by simp only [endS, h1, h2]; rfl)
              go_wp2_with fail
              go_ret3
              exact ⟨ans_ok HE2.out (Nat.le_refl _) rfl HR.out, HB.out⟩
          · have h1' : ((X l).o != 149) = false := by simp only [bne, h1]; rfl
            have HE2 : Hid (chk X n = none) := HE.out true (by simp only [endS, h1]; rfl)
            go_wp2_with fail
            go_ret3
            exact ⟨ans_ok HE2.out (Nat.le_refl _) rfl HR.out, HB.out⟩
theorem firsts_any (A : Option Addr) (n c : Nat) (X : Nat → Slot) (w : World) (h : Slots w A n X) (hS : Sizes w) :
    Calls Tryd.prog 18 #[.slice A n c] w fun e w' => FirstsAns w.heap.size X n e w' ∧ Below w.heap.size w w' := by
  by_cases hn : n = 0 ∨ 4096 < n
  · exact firsts_none A n c X hn w
  · exact firsts_some A n c X (by omega) (by omega) w h hS
end Go.Proofs.YticklgoegmobbaaDoor
