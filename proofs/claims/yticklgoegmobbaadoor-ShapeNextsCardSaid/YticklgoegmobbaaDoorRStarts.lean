/-
  The reference's starts. The reference's starts, walked.
-/
import Derived.Test.YticklgoegmobbaaDoorROneEq2
import Derived.Test.YticklgoegmobbaaDoorRLine
import Derived.Test.YticklgoegmobbaaDoorSCheck
namespace Go.Proofs.YticklgoegmobbaaDoor
open Go Go.RowKit
set_option linter.unusedVariables false
set_option linter.unusedSimpArgs false
set_option maxRecDepth 100000
def StartsAns (B : Nat) (X : Nat → Slot) (n : Nat) (e : Ending) (w' : World) : Prop :=
  match scanBad X n with
  | some k => e = .returned (.tuple #[.slice none 0 0, .int .i64 (k : Int)])
  | none => ∃ g, B ≤ g ∧ e = .returned (.tuple #[.slice (some ⟨g, 0, none⟩) n n, .int .i64 (-1)]) ∧ Blk w' g 4 (rowB n (fst X))
theorem starts_bad {B n k : Nat} {X : Nat → Slot} {e : Ending} {w' : World} (h : scanBad X n = some k) (he : e = .returned (.tuple #[.slice none 0 0, .int .i64 (k : Int)])) : StartsAns B X n e w' := by
  unfold StartsAns
  rw [h]
  exact he
theorem starts_ok {B n g : Nat} {X : Nat → Slot} {e : Ending} {w' : World} (h : scanBad X n = none) (hg : B ≤ g) (he : e = .returned (.tuple #[.slice (some ⟨g, 0, none⟩) n n, .int .i64 (-1)])) (hb : Blk w' g 4 (rowB n (fst X))) : StartsAns B X n e w' := by
  unfold StartsAns
  rw [h]
  exact ⟨g, hg, he, hb⟩
theorem wideA_of {x : Slot} (h1 : oneS x = true) (h2 : wideS x = true) : WideA x := by
  have ho : x.o = 24 := by simpa [wideS] using h2
  unfold oneS at h1
  rw [one_eq] at h1
  unfold r05B at h1
  rw [ho] at h1
  simp at h1
  obtain ⟨hd0, hd9, hf, hs, hm0, hm1⟩ := h1
  refine ⟨by rw [ho]; rfl, ⟨hd0, hd9⟩, by rw [hf]; rfl, ?_, by unfold immIn; simp; omega⟩
  rcases hs with hs | ⟨hs, _⟩
  · left; rw [hs]; rfl
  · right; rw [hs]; exact ⟨rfl, rfl⟩
theorem tail_eq {x y : Slot} (h : WideA x) : tailR x y = tailS x y := by
  unfold tailR tailS
  rcases h.s with hs | ⟨hs, hs1⟩
  · have : (x.s == 1) = false := by have : x.s = 0 := by simpa using hs
                                    rw [this]; rfl
    rw [hs, this, Bool.eq_iff_iff]
    simp [fits_iff, immIn]
    omega
  · rw [hs, hs1, Bool.eq_iff_iff]
    simp [immIn]
    omega
/-- What Line answers of a wide instruction, as far as it is asked. -/
theorem line_wide (A : Option Addr) (n c i : Nat) (X : Nat → Slot) (hn : n ≤ 4096) (hi : i < n) (w : World) (h : Slots w A n X) (h1 : oneS (X i) = true) (h2 : wideS (X i) = true) :
    Calls Tryd.prog 38 #[.slice A n c, .int .i64 i] w fun e w' => (∃ t k, e = .returned (.tuple #[.string t, .int .i64 k, .int .i64 (if wholeS X n i then 0 else 31)])) ∧ Below w.heap.size w w' := by
  have ha := wideA_of h1 h2
  by_cases h3 : i + 1 < n
  · cases h4 : tailR (X i) (X (i + 1))
    · have := line_bad A n c i X hn hi w h ha h3 h4
      rw [tail_eq ha] at h4
      rwa [show wholeS X n i = false by simp [wholeS, h1, h2, h4]]
    · have h4' := h4
      rw [tail_eq ha] at h4'
      rw [show wholeS X n i = true by simp [wholeS, h1, h2, h3, h4']]
      rcases ha.s with hs | ⟨hs, hs1⟩
      · exact line_num A n c i X hn hi w h ha h3 h4 hs
      · exact line_map A n c i X hn hi w h ha h3 h4 hs hs1
  · have := line_last A n c i X hn hi w h ha (by omega)
    rwa [show wholeS X n i = false by simp [wholeS, h1, h2, h3]]
theorem one05 (x : Slot) (w : World) :
    Calls Tryd.prog 37 #[.agg #[.int .i64 x.o, .int .i64 x.d, .int .i64 x.s, .int .i64 x.f, .int .i64 x.m]] w fun e w' => e = .returned (.bool (oneS x)) ∧ Below w.heap.size w w' := by
  have := one05_any x.o x.d x.s x.f x.m w
  rw [← one_eq] at this
  exact this
end Go.Proofs.YticklgoegmobbaaDoor
namespace Go.Proofs.YticklgoegmobbaaDoor
open Go Go.RowKit
set_option linter.unusedVariables false
set_option linter.unusedSimpArgs false
set_option maxRecDepth 100000
set_option maxHeartbeats 4000000 in
theorem starts_any (A : Option Addr) (n c : Nat) (X : Nat → Slot) (h4 : n ≤ 4096) (w : World) (h : Slots w A n X) :
    Calls Tryd.prog 19 #[.slice A n c] w fun e w' => StartsAns w.heap.size X n e w' ∧ Below w.heap.size w w' := by
  have hmk := make_bools n (by omega) w
  have H := Lib.hid h
  have B0 : Hid (Below w.heap.size w (w.alloc (.cells (rowB n fun _ => false) 4))) := (Below.refl _ w).alloc (Nat.le_refl _) _
  have R0 : Hid (Blk (w.alloc (.cells (rowB n fun _ => false) 4)) w.heap.size 4 (rowB n (fun i => decide (i < 0) && fst X i))) := by rw [← row_none]; exact Blk.new _ _ _
  clear h
  go_enter Tryd.func19, Tryd.ntmps19
  go_wp2_with fail
  clear hmk
  go_loopw [5] (fun at_ wr => ∃ k l : Nat, at_ = .int .i64 k ∧ Scan X n k l ∧ Below w.heap.size w wr ∧ Blk wr w.heap.size 4 (rowB n (fun i => decide (i < k) && fst X i))) (fun i _ => n - (intOf i).toNat)
  case atStart => exact ⟨0, 0, rfl, Scan.init X n, B0.out, R0.out⟩
  case round =>
    clear B0 R0
    obtain ⟨k, l, rfl, hsc, hb, hr⟩ := hrel
    have SC := Lib.hid hsc
    have HB := Lib.hid hb
    have HR := Lib.hid hr
    clear hsc hb hr
    by_cases hkn : k < n
    · have g1 : decide (k < n) = true := by simpa using hkn
      have CO := Lib.hid (one05 (X k))
      obtain ⟨b, off, hA, hlt, hc⟩ := H.out k hkn
      have HC := Lib.hid hc
      have HLT := Lib.hid hlt
      subst hA
      have cells := HC.out.below HB.out HLT.out
      obtain ⟨c0, c1, c2, c3, c4⟩ := cells
      clear hc hlt
      have i1 : (0 : Int) ≤ (k : Int) := by omega
      have i2 : (k : Int) < (n : Int) := by omega
      cases h1 : oneS (X k)
      · rw [h1] at CO
        have hwh : wholeS X n k = false := by simp [wholeS, h1]
        have HW := Lib.hid hwh
        clear hwh h1
        go_wp2_with (go_at_call 37; refine (CO.out _).mono ?_; rintro e w2 ⟨rfl, hb2⟩; have HB2 := Lib.hid hb2; clear hb2)
        go_ret2
        exact ⟨starts_bad (SC.out.bad hkn HW.out) rfl, HB.out.trans (HB2.out.mono HB.out.size)⟩
      · rw [h1] at CO
        cases h2 : wideS (X k)
        · have hwh : wholeS X n k = true := by simp [wholeS, h1, h2]
          have HW := Lib.hid hwh
          have hs1 : Hid (slN (X k) = 1) := by unfold slN; rw [h2]; exact rfl
          have h24 : ((X k).o == 24) = false := h2
          clear hwh h1 h2
          go_wp2_with (go_at_call 37; refine (CO.out _).mono ?_; rintro e w2 ⟨rfl, hb2⟩
                       have hr2 := HR.out.below hb2
                       have cr : w2.cell? ⟨w.heap.size, k, none⟩ = some (.bool (decide (k < k) && fst X k)) := by rw [hr2.cell k]; exact rowB_get _ _ _ hkn
                       have fr : w2.frozen? ⟨w.heap.size, k, none⟩ = false := hr2.frozen k
                       have HB3 : Hid (Below w.heap.size w (w2.setCell ⟨w.heap.size, k, none⟩ (.bool true))) := (HB.out.trans (hb2.mono HB.out.size)).setCell (Nat.le_refl _) _
                       have HR3 : Hid (Blk (w2.setCell ⟨w.heap.size, k, none⟩ (.bool true)) w.heap.size 4 (rowB n (fun i => decide (i < k + slN (X k)) && fst X i))) := by have := hr2.set_ k (.bool true); rw [row_step SC.out.at_] at this; exact this
                       obtain ⟨d0, d1, d2, d3, d4⟩ := HC.out.below HB3.out HLT.out
                       clear hb2 hr2)
          go_roundw
          case rel =>
            have hst := SC.out.step hkn HW.out
            have hr3 := HR3.out
            rw [hs1.out] at hst hr3
            exact ⟨k + 1, k, by go_num, hst, HB3.out, hr3⟩
          case measure => simp [intOf]; omega
        · have hs2 : Hid (slN (X k) = 2) := by unfold slN; rw [h2]; exact rfl
          have h24 : ((X k).o == 24) = true := h2
          have CL := Lib.hid (fun w' h => line_wide (some ⟨b, off, none⟩) n c k X h4 hkn w' h h1 h2)
          have hroom := fun hw => whole_room (X := X) (n := n) (k := k) hw hkn
          rw [hs2.out] at hroom
          have HRM := Lib.hid hroom
          clear h1 h2 hroom
          cases hw : wholeS X n k
          · rw [hw] at CL
            have HW := Lib.hid hw
            clear hw
            go_wp2_with (first
              | (go_at_call 37; refine (CO.out _).mono ?_; rintro e w2 ⟨rfl, hb2⟩
                 have hr2 := HR.out.below hb2
                 have cr : w2.cell? ⟨w.heap.size, k, none⟩ = some (.bool (decide (k < k) && fst X k)) := by rw [hr2.cell k]; exact rowB_get _ _ _ hkn
                 have fr : w2.frozen? ⟨w.heap.size, k, none⟩ = false := hr2.frozen k
                 have HB3 : Hid (Below w.heap.size w (w2.setCell ⟨w.heap.size, k, none⟩ (.bool true))) := (HB.out.trans (hb2.mono HB.out.size)).setCell (Nat.le_refl _) _
                 obtain ⟨d0, d1, d2, d3, d4⟩ := HC.out.below HB3.out HLT.out
                 clear hb2 hr2)
              | (go_at_call 38; refine (CL.out _ (H.out.below HB3.out)).mono ?_; rintro e w4 ⟨⟨t, kk, rfl⟩, hb4⟩; have HB4 : Hid (Below w.heap.size w w4) := HB3.out.trans (hb4.mono HB3.out.size); clear hb4))
            go_ret2
            exact ⟨starts_bad (SC.out.bad hkn HW.out) rfl, HB4.out⟩
          · rw [hw] at CL
            have hrm := HRM.out hw
            have HW := Lib.hid hw
            clear hw
            go_wp2_with (first
              | (go_at_call 37; refine (CO.out _).mono ?_; rintro e w2 ⟨rfl, hb2⟩
                 have hr2 := HR.out.below hb2
                 have cr : w2.cell? ⟨w.heap.size, k, none⟩ = some (.bool (decide (k < k) && fst X k)) := by rw [hr2.cell k]; exact rowB_get _ _ _ hkn
                 have fr : w2.frozen? ⟨w.heap.size, k, none⟩ = false := hr2.frozen k
                 have HB3 : Hid (Below w.heap.size w (w2.setCell ⟨w.heap.size, k, none⟩ (.bool true))) := (HB.out.trans (hb2.mono HB.out.size)).setCell (Nat.le_refl _) _
                 have HR3 : Hid (Blk (w2.setCell ⟨w.heap.size, k, none⟩ (.bool true)) w.heap.size 4 (rowB n (fun i => decide (i < k + slN (X k)) && fst X i))) := by have := hr2.set_ k (.bool true); rw [row_step SC.out.at_] at this; exact this
                 obtain ⟨d0, d1, d2, d3, d4⟩ := HC.out.below HB3.out HLT.out
                 clear hb2 hr2)
              | (go_at_call 38; refine (CL.out _ (H.out.below HB3.out)).mono ?_; rintro e w4 ⟨⟨t, kk, rfl⟩, hb4⟩; have HB4 : Hid (Below w.heap.size w w4) := HB3.out.trans (hb4.mono HB3.out.size); have HR4 := Lib.hid (HR3.out.below hb4); clear hb4))
            go_roundw
            case rel =>
              have hst := SC.out.step hkn HW.out
              have hr4 := HR4.out
              rw [hs2.out] at hst hr4
              exact ⟨k + 2, k, by go_num, hst, HB4.out, hr4⟩
            case measure => simp [intOf]; omega
    · have hkn' : k = n := by have := SC.out.le; omega
      have hfine := HR.out
      have hlast := SC.out
      rw [hkn'] at hlast hfine
      rw [row_all] at hfine
      have SL := Lib.hid hlast
      have HF := Lib.hid hfine
      have g1 : decide (k < n) = false := by simpa using hkn
      clear SC HR hlast hfine hkn hkn'
      go_wp2_with fail
      go_ret2
      exact ⟨starts_ok SL.out.fine (Nat.le_refl _) rfl HF.out, HB.out⟩
end Go.Proofs.YticklgoegmobbaaDoor
