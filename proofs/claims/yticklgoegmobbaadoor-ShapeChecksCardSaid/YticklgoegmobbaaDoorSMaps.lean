/-
  Maps of package shape, walked.
-/
import Derived.Test.YticklgoegmobbaaDoorSMaps0
namespace Go.Proofs.YticklgoegmobbaaDoor
open Go Go.RowKit Go.Maps
set_option linter.unusedVariables false
set_option linter.unusedSimpArgs false
set_option maxRecDepth 100000
theorem lawI : Keyed Tryd.prog 3 := int_keyed Tryd.underlying3
theorem zeroU (w : World) : (zeroValue 46).run Tryd.prog w = .ok (.agg #[]) w := by kernel_rfl
theorem infoM : (Tryd.prog.info? 3).map (fun i => (i.zero, i.size, i.bytes)) = some (some (.int .i64 0), 1, 8) := by kernel_rfl
theorem own_cases {w : World} {base : Nat} {e : TypeId} {s : Nat} {v : Value} {n : Nat} {xs : List Value} (h : w.ownsRow base e s v n xs) : v.ownBlock = none ∨ v.ownBlock ≠ none := by
  cases v.ownBlock <;> simp
theorem slN_lt (x : Slot) : 1 ≤ slN x ∧ slN x ≤ 2 := by unfold slN; split <;> omega
set_option maxHeartbeats 4000000 in
theorem maps_any (A : Option Addr) (n c : Nat) (X : Nat → Slot) (hn : n ≤ 4398046511104) (w : World) (h : Slots w A n X) (hwf : ∀ i, i < n → (Lit.int .i64 (X i).m).wf = true) :
    Calls Tryd.prog 10 #[.slice A n c] w fun e w' => (∃ v, e = .returned v ∧ w'.ownsRow (w.heap.size + 1) 3 1 v (restM X n 0 []).length ((restM X n 0 []).map (Value.int .i64))) ∧ Below w.heap.size w w' := by
  have hmm := @run_makeMap Tryd.prog
  obtain ⟨i0, hi, hz0, hz1, hz2⟩ := info_parts infoM
  have H := Lib.hid h
  have HWF := Lib.hid hwf
  clear h hwf
  go_enter Tryd.func10, Tryd.ntmps10
  go_wp2_with fail
  go_loopw [3, 5] (fun v i wr => ∃ (k : Nat) (acc : List Int), i = .int .i64 k ∧ k ≤ n + 1 ∧ acc.length ≤ k ∧ restM X n k acc = restM X n 0 [] ∧ wr.ownsMap Tryd.prog 3 unitElem w.heap.size k (SdM acc) ∧ wr.ownsRow (w.heap.size + 1) 3 1 v acc.length (acc.map (Value.int .i64)) ∧ Below w.heap.size w wr ∧ w.heap.size + 1 ≤ wr.heap.size) (fun _ i _ => n + 2 - (intOf i).toNat)
  case atStart => exact ⟨0, [], rfl, by omega, Nat.le_refl _, rfl, World.ownsMap_made _ _ _ _, World.ownsRow_nil _ _ _ _, (Below.refl _ _).alloc (Nat.le_refl _) _, by simp⟩
  case round =>
    obtain ⟨k, acc, rfl, hk, hal, hre, hown, hrow, hb, hws⟩ := hrel
    by_cases hkn : k < n
    · have g1 : decide (k < n) = true := by simpa using hkn
      have hst := restM_step (X := X) (acc := acc) hkn
      rw [hre] at hst
      have HST := Lib.hid hst
      have hsl := slN_lt (X k)
      have CW := Lib.hid (fun w' => wide_any (X k).o (X k).d (X k).s (X k).f (X k).m w')
      have CS : Hid (∀ w', Calls Tryd.prog 21 #[.agg #[.int .i64 (X k).o, .int .i64 (X k).d, .int .i64 (X k).s, .int .i64 (X k).f, .int .i64 (X k).m]] w' fun e w'' => e = .returned (.int .i64 (slN (X k) : Nat)) ∧ Below w'.heap.size w' w'') := fun w' => slots_any _ _ _ _ _ w'
      unfold insV at CW
      have hkey : keyOf Tryd.prog 3 (.int .i64 (X k).m) = some (.int .i64 (X k).m) := keyOf_int_mk Tryd.underlying3 (HWF.out k hkn)
      obtain ⟨b, off, hA, hlt, hc⟩ := H.out k hkn
      subst hA
      have HC := Lib.hid hc
      have HLT := Lib.hid hlt
      obtain ⟨c0, c1, c2, c3, c4⟩ := HC.out.below hb HLT.out
      have i1 : (0 : Int) ≤ (k : Int) := by omega
      have i2 : (k : Int) < (n : Int) := by omega
      have HB := Lib.hid hb
      have HOWN := Lib.hid hown
      have HROW := Lib.hid hrow
      have n5 := Cells5.new wr (X k) 39
      have N5 := Lib.hid n5
      have LT := Lib.hid (lt_box wr (.cells #[.int .i64 (X k).o, .int .i64 (X k).d, .int .i64 (X k).s, .int .i64 (X k).f, .int .i64 (X k).m] 39))
      clear hc hlt hb hown hrow hre hst n5
      have hE5 : IntKind.i64.wrap ((k : Int) + (slN (X k) : Nat)) = ((k + slN (X k) : Nat) : Int) := by rw [IntKind.wrap_i64]; omega
      have E5 := Lib.hid hE5
      have HK := Lib.hid hkey
      clear hE5 hkey
      obtain ⟨s, hs⟩ : ∃ s, slN (X k) = s := ⟨_, rfl⟩
      rw [hs] at CS E5 HST hsl
      clear hs
      have HSL := Lib.hid hsl
      clear hsl
      cases h1 : ((X k).o == 24)
      · rw [h1] at CW
        have hstep : stepM acc (X k) = acc := by unfold stepM; rw [h1]; rfl
        rw [hstep] at HST
        clear hstep
        go_wp2_with (first
          | (go_at_call 22; refine (CW.out _).mono ?_; rintro e w1 ⟨rfl, hb1⟩; have HG1 : Hid (Below wr.heap.size wr w1) := ((Below.refl _ wr).alloc (Nat.le_refl _) (.cells #[.int .i64 (X k).o, .int .i64 (X k).d, .int .i64 (X k).s, .int .i64 (X k).f, .int .i64 (X k).m] 39)).trans (hb1.mono (by simp)); have HB1 : Hid (Below w.heap.size w w1) := HB.out.trans (HG1.out.mono HB.out.size); have HW1 : Hid (wr.heap.size < w1.heap.size) := Nat.lt_of_lt_of_le (by simp) hb1.size; obtain ⟨d0, d1, d2, d3, d4⟩ := N5.out.below hb1 LT.out; obtain ⟨e0, e1, e2, e3, e4⟩ := HC.out.below HB1.out HLT.out; clear hb1)
          | (go_at_call 21; refine (CS.out _).mono ?_; rintro e w2 ⟨rfl, hb2⟩; have HB2 : Hid (Below w.heap.size w w2) := HB1.out.trans (hb2.mono HB1.out.size); have HG2 := Lib.hid hb2; have hE5 := E5.out; clear hb2))
        go_roundw
        case rel =>
          have HG3 := grown0_of (HG1.out.trans (HG2.out.mono HG1.out.size))
          exact ⟨k + s, acc, rfl, by have := HSL.out; omega, by omega, HST.out.symm, (HOWN.out.kept HG3 (by simp)).mono (by omega), HROW.out.kept HG3 (own_cases HROW.out), HB2.out, Nat.le_trans hws HG3.size⟩
        case measure => have := HSL.out; simp [intOf]; omega
      · rw [h1] at CW
        cases h2 : ((X k).s == 1)
        · have hne : ((X k).s != 1) = true := by simp only [bne, h2]; rfl
          have hstep : stepM acc (X k) = acc := by unfold stepM; rw [h1, h2]; rfl
          rw [hstep] at HST
          clear hstep
          go_wp2_with (first
            | (go_at_call 22; refine (CW.out _).mono ?_; rintro e w1 ⟨rfl, hb1⟩; have HG1 : Hid (Below wr.heap.size wr w1) := ((Below.refl _ wr).alloc (Nat.le_refl _) (.cells #[.int .i64 (X k).o, .int .i64 (X k).d, .int .i64 (X k).s, .int .i64 (X k).f, .int .i64 (X k).m] 39)).trans (hb1.mono (by simp)); have HB1 : Hid (Below w.heap.size w w1) := HB.out.trans (HG1.out.mono HB.out.size); have HW1 : Hid (wr.heap.size < w1.heap.size) := Nat.lt_of_lt_of_le (by simp) hb1.size; obtain ⟨d0, d1, d2, d3, d4⟩ := N5.out.below hb1 LT.out; obtain ⟨e0, e1, e2, e3, e4⟩ := HC.out.below HB1.out HLT.out; clear hb1)
            | (go_at_call 21; refine (CS.out _).mono ?_; rintro e w2 ⟨rfl, hb2⟩; have HB2 : Hid (Below w.heap.size w w2) := HB1.out.trans (hb2.mono HB1.out.size); have HG2 := Lib.hid hb2; have hE5 := E5.out; clear hb2))
          go_roundw
          case rel =>
            have HG3 := grown0_of (HG1.out.trans (HG2.out.mono HG1.out.size))
            exact ⟨k + s, acc, rfl, by have := HSL.out; omega, by omega, HST.out.symm, (HOWN.out.kept HG3 (by simp)).mono (by omega), HROW.out.kept HG3 (own_cases HROW.out), HB2.out, Nat.le_trans hws HG3.size⟩
          case measure => have := HSL.out; simp [intOf]; omega
        · have hne : ((X k).s != 1) = false := by simp only [bne, h2]; rfl
          cases h3 : acc.contains (X k).m
          · have hstep : stepM acc (X k) = acc ++ [(X k).m] := by unfold stepM; rw [h1, h2, h3]; rfl
            rw [hstep] at HST
            clear hstep
            have hhas : Maps.has (SdM acc) (.int .i64 (X k).m) = false := by rw [has_SdM]; exact h3
            clear h3
            go_wp2_with (first
              | (go_at_call 22; refine (CW.out _).mono ?_; rintro e w1 ⟨rfl, hb1⟩; have HG1 : Hid (Below wr.heap.size wr w1) := ((Below.refl _ wr).alloc (Nat.le_refl _) (.cells #[.int .i64 (X k).o, .int .i64 (X k).d, .int .i64 (X k).s, .int .i64 (X k).f, .int .i64 (X k).m] 39)).trans (hb1.mono (by simp)); have HB1 : Hid (Below w.heap.size w w1) := HB.out.trans (HG1.out.mono HB.out.size); have HW1 : Hid (wr.heap.size < w1.heap.size) := Nat.lt_of_lt_of_le (by simp) hb1.size; obtain ⟨d0, d1, d2, d3, d4⟩ := N5.out.below hb1 LT.out; obtain ⟨e0, e1, e2, e3, e4⟩ := HC.out.below HB1.out HLT.out; clear hb1)
              | (at_lookup; refine wpList_lookup_own_unit _ rfl _ _ 44 rfl 3 46 lawI Tryd.underlying44 (zeroU _) w.heap.size k _ rfl (HOWN.out.kept (grown0_of HG1.out) (by simp)) _ _ rfl HK.out ?_
                 have d4' : (w1.alloc (.cells #[] 46)).cell? ⟨wr.heap.size, 4, none⟩ = some (.int .i64 (X k).m) := by
                   rw [World.cell?_alloc_past (hn := HW1.out)]; exact d4)
              | (at_mapUpdate; refine wpList_mapUpdate_own _ rfl _ _ _ 44 rfl 3 46 lawI Tryd.underlying44 (unitElem (H := Unit)) w.heap.size k _ rfl ((HOWN.out.kept (grown0_of HG1.out) (by simp)).alloc _) (by unfold maxLen; omega) _ _ _ rfl rfl HK.out _ [] unitElem_mk ?_; intro w3 hown3 hgrow3
                 have HOWN3 := Lib.hid hown3
                 have HGR3 := Lib.hid hgrow3
                 have HROW3 := Lib.hid (((HROW.out.kept (grown0_of HG1.out) (own_cases HROW.out)).alloc (.cells #[] 46)).kept hgrow3 (Or.inr (by intro e; have := (HROW.out.lt _ e).1; omega)))
                 have HB3 : Hid (Below w.heap.size w w3) := (HB1.out.alloc HB1.out.size (.cells #[] 46)).grown hgrow3 (by have := HB1.out.size; simp; omega) (fun j hj => by cases hj; exact Nat.le_refl _)
                 have hd4 : w3.cell? ⟨wr.heap.size, 4, none⟩ = some (.int .i64 (X k).m) := by
                   exact hgrow3.cell d4' (by have := HOWN.out.lt; simp; omega)
                 clear hown3 hgrow3)
              | (at_builtin; refine wpList_append_own_at _ rfl _ _ 29 rfl (w.heap.size + 1) 3 i0 (.int .i64 0) 1 8 Tryd.underlying29 hi hz0 hz1 hz2 rfl (by decide) _ _ _ rfl (HROW3.out.alloc _) ⟨w3.heap.size, 0, none⟩ 1 1 [.int .i64 (X k).m] rfl rfl (cell_one_new _ _ _) (ints_oneCell .i64 [(X k).m]) (by unfold maxLen; omega) (by omega) (by have := HGR3.out.size; have := HG1.out.size; simp at *; omega) ?_; intro v' w4 hown' hgrow4 hnil2 hloc
                 have HB4 : Hid (Below w.heap.size w w4) := (HB3.out.alloc HB3.out.size _).grown hgrow4 (by have := HB3.out.size; simp; omega) (fun j hj => Nat.le_trans (Nat.le_succ _) (HROW3.out.lt j hj).1)
                 have HOWN4 := Lib.hid ((HOWN3.out.alloc (.cells #[.int .i64 (X k).m] 3)).kept hgrow4 (by intro e; have := (HROW3.out.lt _ e.symm).1; omega))
                 have HROW4 := Lib.hid hown'
                 obtain ⟨f0, f1, f2, f3, f4⟩ := HC.out.below HB4.out HLT.out
                 clear hown' hgrow4 hnil2 hloc)
              | (go_at_call 21; refine (CS.out _).mono ?_; rintro e w2 ⟨rfl, hb2⟩; have HB2 : Hid (Below w.heap.size w w2) := HB4.out.trans (hb2.mono HB4.out.size); have HG2 := Lib.hid hb2; have hE5 := E5.out; clear hb2))
            go_roundw
            case rel =>
              have HG3 := grown0_of HG2.out
              have hs4 : w.heap.size + 1 ≤ w4.heap.size := by have := HOWN4.out.lt; omega
              refine ⟨k + s, acc ++ [(X k).m], rfl, by have := HSL.out; omega, by have := HSL.out; simp; omega, HST.out.symm, ?_, ?_, HB2.out, Nat.le_trans hs4 HG3.size⟩
              · rw [SdM_snoc]; exact (HOWN4.out.kept HG3 (by simp)).mono (by have := HSL.out; omega)
              · have := HROW4.out.kept HG3 (own_cases HROW4.out)
                simpa using this
            case measure => have := HSL.out; simp [intOf]; omega
          · have hstep : stepM acc (X k) = acc := by unfold stepM; rw [h1, h2, h3]; rfl
            rw [hstep] at HST
            clear hstep
            have hhas : Maps.has (SdM acc) (.int .i64 (X k).m) = true := by rw [has_SdM]; exact h3
            clear h3
            go_wp2_with (first
              | (go_at_call 22; refine (CW.out _).mono ?_; rintro e w1 ⟨rfl, hb1⟩; have HG1 : Hid (Below wr.heap.size wr w1) := ((Below.refl _ wr).alloc (Nat.le_refl _) (.cells #[.int .i64 (X k).o, .int .i64 (X k).d, .int .i64 (X k).s, .int .i64 (X k).f, .int .i64 (X k).m] 39)).trans (hb1.mono (by simp)); have HB1 : Hid (Below w.heap.size w w1) := HB.out.trans (HG1.out.mono HB.out.size); have HW1 : Hid (wr.heap.size < w1.heap.size) := Nat.lt_of_lt_of_le (by simp) hb1.size; obtain ⟨d0, d1, d2, d3, d4⟩ := N5.out.below hb1 LT.out; obtain ⟨e0, e1, e2, e3, e4⟩ := HC.out.below HB1.out HLT.out; clear hb1)
              | (at_lookup; refine wpList_lookup_own_unit _ rfl _ _ 44 rfl 3 46 lawI Tryd.underlying44 (zeroU _) w.heap.size k _ rfl (HOWN.out.kept (grown0_of HG1.out) (by simp)) _ _ rfl HK.out ?_
                 have HB5 : Hid (Below w.heap.size w (w1.alloc (.cells #[] 46))) := HB1.out.alloc HB1.out.size _
                 have HG5 : Hid (Below wr.heap.size wr (w1.alloc (.cells #[] 46))) := HG1.out.alloc HG1.out.size _
                 obtain ⟨f0, f1, f2, f3, f4⟩ := HC.out.below HB5.out HLT.out)
              | (go_at_call 21; refine (CS.out _).mono ?_; rintro e w2 ⟨rfl, hb2⟩; have HB2 : Hid (Below w.heap.size w w2) := HB5.out.trans (hb2.mono HB5.out.size); have HG2 := Lib.hid hb2; have hE5 := E5.out; clear hb2))
            go_roundw
            case rel =>
              have HG3 := grown0_of (HG5.out.trans (HG2.out.mono HG5.out.size))
              exact ⟨k + s, acc, rfl, by have := HSL.out; omega, by omega, HST.out.symm, (HOWN.out.kept HG3 (by simp)).mono (by omega), HROW.out.kept HG3 (own_cases HROW.out), HB2.out, Nat.le_trans hws HG3.size⟩
            case measure => have := HSL.out; simp [intOf]; omega
    · have g1 : decide (k < n) = false := by simpa using hkn
      have he := restM_end (X := X) (acc := acc) hkn
      rw [hre] at he
      have HE := Lib.hid he
      have HB := Lib.hid hb
      have HROW := Lib.hid hrow
      clear he hre hb hown hrow
      go_wp2_with fail
      go_ret
      rw [HE.out]
      exact ⟨⟨_, rfl, HROW.out⟩, HB.out⟩
end Go.Proofs.YticklgoegmobbaaDoor
