/-
  The reference's Check. The reference's Check, walked.
-/
import Derived.Test.YticklgoegmobbaaDoorRStarts
namespace Go.Proofs.YticklgoegmobbaaDoor
open Go Go.RowKit
set_option linter.unusedVariables false
set_option linter.unusedSimpArgs false
set_option maxRecDepth 100000
set_option maxHeartbeats 2000000 in
theorem jump05_any (o d s f m : Int) (w : World) :
    Calls Tryd.prog 20 #[insV o d s f m] w fun e w' => e = .returned (.bool (aimS ⟨o, d, s, f, m⟩)) ∧ Below w.heap.size w w' := by
  have hc := and_i64_7 o
  unfold insV aimS
  cases h5 : (o % 8 == 5)
  · cases h6 : (o % 8 == 6)
    · go_enter Tryd.func20, Tryd.ntmps20
      go_wp2_with fail
      go_ret
      exact ⟨rfl, (Below.refl _ w).alloc (Nat.le_refl _) _⟩
    · have h24 : (o == 24) = false := by simp only [beq_iff_eq] at h6; simp; omega
      have n24 : (o != 24) = true := by simp only [bne, h24]; rfl
      cases h133 : (o == 133) <;> cases h149 : (o == 149)
      all_goals
        have n133 : (o != 133) = !(o == 133) := rfl
        have n149 : (o != 149) = !(o == 149) := rfl
        rw [h133] at n133
        rw [h149] at n149
        simp only [Bool.not_true, Bool.not_false] at n133 n149
        go_enter Tryd.func20, Tryd.ntmps20
        go_wp2_with fail
        go_ret
        exact ⟨rfl, (Below.refl _ w).alloc (Nat.le_refl _) _⟩
  · have h24 : (o == 24) = false := by simp only [beq_iff_eq] at h5; simp; omega
    have n24 : (o != 24) = true := by simp only [bne, h24]; rfl
    cases h133 : (o == 133) <;> cases h149 : (o == 149)
    all_goals
      have n133 : (o != 133) = !(o == 133) := rfl
      have n149 : (o != 149) = !(o == 149) := rfl
      rw [h133] at n133
      rw [h149] at n149
      simp only [Bool.not_true, Bool.not_false] at n133 n149
      go_enter Tryd.func20, Tryd.ntmps20
      go_wp2_with fail
      go_ret
      exact ⟨rfl, (Below.refl _ w).alloc (Nat.le_refl _) _⟩
theorem starts_bad' (A : Option Addr) (n c k : Nat) (X : Nat → Slot) (h4 : n ≤ 4096) (w : World) (h : Slots w A n X) (hk : scanBad X n = some k) :
    Calls Tryd.prog 19 #[.slice A n c] w fun e w' => e = .returned (.tuple #[.slice none 0 0, .int .i64 (k : Int)]) ∧ Below w.heap.size w w' :=
  (starts_any A n c X h4 w h).mono fun e w' ⟨h1, h2⟩ => by
    unfold StartsAns at h1
    rw [hk] at h1
    exact ⟨h1, h2⟩
theorem starts_good (A : Option Addr) (n c : Nat) (X : Nat → Slot) (h4 : n ≤ 4096) (w : World) (h : Slots w A n X) (hk : scanBad X n = none) :
    Calls Tryd.prog 19 #[.slice A n c] w fun e w' => (∃ g, w.heap.size ≤ g ∧ e = .returned (.tuple #[.slice (some ⟨g, 0, none⟩) n n, .int .i64 (-1)]) ∧ Blk w' g 4 (rowB n (fst X))) ∧ Below w.heap.size w w' :=
  (starts_any A n c X h4 w h).mono fun e w' ⟨h1, h2⟩ => by
    unfold StartsAns at h1
    rw [hk] at h1
    exact ⟨h1, h2⟩
/-- What the reference's loop knows at the place k, l being the last instruction's place so far. -/
structure Aim (X : Nat → Slot) (n k l : Nat) : Prop where
  le : k ≤ n
  no : ∀ i, i < k → strayS X n i = false
  lo : l < k ∨ (l = 0 ∧ k = 0)
  lf : fst X l = true
  lmax : ∀ i, i < k → fst X i = true → i ≤ l
section
variable {X : Nat → Slot} {n k l : Nat}
theorem Aim.init (X : Nat → Slot) (n : Nat) : Aim X n 0 0 := ⟨by omega, fun i h => by omega, .inr ⟨rfl, rfl⟩, rfl, fun i h => by omega⟩
theorem Aim.skip (h : Aim X n k l) (hk : k < n) (hf : fst X k = false) : Aim X n (k + 1) l := by
  refine ⟨by omega, fun i hi => ?_, ?_, h.lf, fun i hi hfi => ?_⟩
  · rcases Nat.lt_or_ge i k with h1 | h1
    · exact h.no i h1
    · rw [show i = k by omega]; simp [strayS, hf]
  · rcases h.lo with h1 | ⟨h1, h2⟩
    · left; omega
    · subst h2; rw [show fst X 0 = true from rfl] at hf; cases hf
  · rcases Nat.lt_or_ge i k with h1 | h1
    · exact h.lmax i h1 hfi
    · rw [show i = k by omega, hf] at hfi; cases hfi
theorem Aim.step (h : Aim X n k l) (hk : k < n) (hf : fst X k = true) (hs : strayS X n k = false) : Aim X n (k + 1) k := by
  refine ⟨by omega, fun i hi => ?_, .inl (by omega), hf, fun i hi _ => by omega⟩
  rcases Nat.lt_or_ge i k with h1 | h1
  · exact h.no i h1
  · rw [show i = k by omega]; exact hs
theorem Aim.last (h : Aim X n n l) (hn : 0 < n) : l = lastOf X n := by
  have hl : l < n := by rcases h.lo with h1 | ⟨_, h2⟩ <;> omega
  unfold lastOf
  split
  · rename_i hf
    have := h.lmax (n - 1) (by omega) hf
    omega
  · rename_i hf
    have h1 : l ≠ n - 1 := fun e => hf (by rw [← e]; exact h.lf)
    obtain ⟨m, rfl⟩ : ∃ m, n = m + 2 := ⟨n - 2, by
      rcases Nat.lt_or_ge n 2 with h3 | h3
      · have : n = 1 := by omega
        subst this
        exact absurd rfl hf
      · omega⟩
    simp [fst] at hf
    have := h.lmax m (by omega) hf.1
    omega
end
end Go.Proofs.YticklgoegmobbaaDoor
namespace Go.Proofs.YticklgoegmobbaaDoor
open Go Go.RowKit
set_option linter.unusedVariables false
set_option linter.unusedSimpArgs false
set_option maxRecDepth 100000
def ChkAns (X : Nat → Slot) (n : Nat) : Ending := .returned (.tuple #[.int .i64 (chkAt X n), .int .i64 (chkE X n)])
theorem chk_bad {X : Nat → Slot} {n k : Nat} (h : chk X n = some k) : ChkAns X n = .returned (.tuple #[.int .i64 (k : Int), .int .i64 32]) := by unfold ChkAns chkAt chkE; rw [h]; rfl
theorem chk_good {X : Nat → Slot} {n : Nat} (h : chk X n = none) : ChkAns X n = .returned (.tuple #[.int .i64 0, .int .i64 0]) := by unfold ChkAns chkAt chkE; rw [h]; rfl
theorem check05_none (A : Option Addr) (n c : Nat) (X : Nat → Slot) (hn : n = 0 ∨ 4096 < n) (w : World) :
    Calls Tryd.prog 8 #[.slice A n c] w fun e w' => e = ChkAns X n ∧ Below w.heap.size w w' := by
  have hk : chk X n = some 0 := by unfold chk; rw [if_pos hn]
  rw [chk_bad hk]
  clear hk
  rcases hn with rfl | hn
  · go_enter Tryd.func8, Tryd.ntmps8
    go_wp2_with fail
    go_ret2
    exact ⟨rfl, Below.refl _ w⟩
  · have h0 : ((n : Int) == 0) = false := by simp; omega
    have h1 : decide ((4096 : Int) < (n : Int)) = true := by simp; omega
    clear hn
    go_enter Tryd.func8, Tryd.ntmps8
    go_wp2_with fail
    go_ret2
    exact ⟨rfl, Below.refl _ w⟩
set_option maxHeartbeats 1000000 in
theorem check05_scan (A : Option Addr) (n c k : Nat) (X : Nat → Slot) (h0 : 0 < n) (h4 : n ≤ 4096) (w : World) (h : Slots w A n X) (hs : scanBad X n = some k) :
    Calls Tryd.prog 8 #[.slice A n c] w fun e w' => e = ChkAns X n ∧ Below w.heap.size w w' := by
  have hk : chk X n = some k := by unfold chk; rw [if_neg (by omega), hs]
  rw [chk_bad hk]
  have CF := Lib.hid (starts_bad' A n c k X h4 w h hs)
  have t0 : ((n : Int) == 0) = false := by simp; omega
  have t1 : decide ((4096 : Int) < (n : Int)) = false := by simp; omega
  have t2 : decide ((0 : Int) ≤ (k : Int)) = true := by simp
  clear hk h hs
  go_enter Tryd.func8, Tryd.ntmps8
  go_wp2_with (go_at_call 19; refine CF.out.mono ?_; rintro e w1 ⟨rfl, hb⟩; have HB := Lib.hid hb; clear hb)
  go_ret2
  exact ⟨rfl, HB.out⟩
set_option maxHeartbeats 4000000 in
theorem check05_more (A : Option Addr) (n c : Nat) (X : Nat → Slot) (h0 : 0 < n) (h4 : n ≤ 4096) (w : World) (h : Slots w A n X) (hs : scanBad X n = none) :
    Calls Tryd.prog 8 #[.slice A n c] w fun e w' => e = ChkAns X n ∧ Below w.heap.size w w' := by
  have CF := Lib.hid (starts_good A n c X h4 w h hs)
  have t0 : ((n : Int) == 0) = false := by simp; omega
  have t1 : decide ((4096 : Int) < (n : Int)) = false := by simp; omega
  have HS := Lib.hid hs
  have H := Lib.hid h
  have H0 := Lib.hid h0
  have hwh : Hid (∀ i, i < n → fst X i = true → wholeS X n i = true) := fun i hi hf => by
    have := find_range_none' hs i hi
    simpa [hf] using this
  have stray : Hid (∀ k, k < n → strayS X n k = true → (∀ j, j < k → strayS X n j = false) → chk X n = some k) := by
    intro k hk hst hno
    unfold chk
    rw [if_neg (by omega), hs]
    have hb : aimBad X n = some k := find_range_some hk hst hno
    simp only [hb]
  clear h hs h0
  go_enter Tryd.func8, Tryd.ntmps8
  go_wp2_with (go_at_call 19; refine CF.out.mono ?_; rintro e w1 ⟨⟨g, hgw, rfl, hr⟩, hb⟩; have HB1 := Lib.hid hb; have HR1 := Lib.hid hr; clear hb hr hgw)
  clear t0 t1
  go_loopw [6, 7] (fun la at_ wr => ∃ k l : Nat, at_ = .int .i64 k ∧ la = .int .i64 l ∧ Aim X n k l ∧ Below w.heap.size w wr ∧ Blk wr g 4 (rowB n (fst X))) (fun _ i _ => n - (intOf i).toNat)
  case atStart => exact ⟨0, 0, rfl, rfl, Aim.init X n, HB1.out, HR1.out⟩
  case round =>
    clear HB1 HR1
    obtain ⟨k, l, rfl, rfl, hsc, hb, hr⟩ := hrel
    have SC := Lib.hid hsc
    have HB := Lib.hid hb
    have HR := Lib.hid hr
    clear hsc hb hr
    by_cases hkn : k < n
    · have g1 : decide (k < n) = true := by simpa using hkn
      have i1 : (0 : Int) ≤ (k : Int) := by omega
      have i2 : (k : Int) < (n : Int) := by omega
      have cr : wr.cell? ⟨g, k, none⟩ = some (.bool (fst X k)) := by rw [HR.out.cell k]; exact rowB_get _ _ _ hkn
      cases hf : fst X k
      · rw [hf] at cr
        have HF := Lib.hid hf
        clear hf
        go_wp2_with fail
        go_roundw
        case rel => exact ⟨k + 1, l, by go_num, rfl, SC.out.skip hkn HF.out, HB.out, HR.out⟩
        case measure => simp [intOf]; omega
      · rw [hf] at cr
        have hff := whole_f (hwh.out k hkn hf)
        have HF := Lib.hid hf
        have CJ : Hid (∀ w', Calls Tryd.prog 20 #[.agg #[.int .i64 (X k).o, .int .i64 (X k).d, .int .i64 (X k).s, .int .i64 (X k).f, .int .i64 (X k).m]] w' fun e w'' => e = .returned (.bool (aimS (X k))) ∧ Below w'.heap.size w' w'') := fun w' => jump05_any _ _ _ _ _ w'
        obtain ⟨b, off, hA, hlt, hc⟩ := (H.out.below HB.out) k hkn
        subst hA
        have HC := Lib.hid hc
        have HLT := Lib.hid hlt
        obtain ⟨c0, c1, c2, c3, c4⟩ := hc
        clear hf hlt
        cases ha : aimS (X k)
        · rw [ha] at CJ
          have hst : strayS X n k = false := by simp [strayS, ha]
          have HST := Lib.hid hst
          clear ha hst hff
          go_wp2_with (go_at_call 20; refine (CJ.out _).mono ?_; rintro e w2 ⟨rfl, hb2⟩; have HB2 : Hid (Below w.heap.size w w2) := HB.out.trans (hb2.mono HB.out.size); have HR2 := Lib.hid (HR.out.below hb2); clear hb2)
          go_roundw
          case rel => exact ⟨k + 1, k, by go_num, rfl, SC.out.step hkn HF.out HST.out, HB2.out, HR2.out⟩
          case measure => simp [intOf]; omega
        · rw [ha] at CJ
          have HA := Lib.hid ha
          clear ha
          obtain ⟨t, ht⟩ : ∃ t : Int, (k : Int) + 1 + (X k).f = t := ⟨_, rfl⟩
          have e1 : IntKind.i64.wrap ((k : Int) + 1) = (k : Int) + 1 := by rw [IntKind.wrap_i64]; omega
          have e2 : IntKind.i64.wrap ((k : Int) + 1 + (X k).f) = t := by rw [IntKind.wrap_i64]; omega
          have hst : Hid (strayS X n k = !(decide (0 ≤ t) && (decide (t < n) && fst X t.toNat))) := by unfold strayS holdsS tgt; rw [ht, HF.out, HA.out]; exact rfl
          clear ht hff
          by_cases h1 : t < 0
          · have d1 : decide (t < 0) = true := by simpa using h1
            have hbad : Hid (ChkAns X n = .returned (.tuple #[.int .i64 (k : Int), .int .i64 32])) := chk_bad (stray.out k hkn (by rw [hst.out, decide_eq_false (by omega)]; rfl) SC.out.no)
            clear h1
            go_wp2_with (go_at_call 20; refine (CJ.out _).mono ?_; rintro e w2 ⟨rfl, hb2⟩; obtain ⟨d0, d1', d2, d3, d4⟩ := HC.out.below hb2 HLT.out; have HB2 : Hid (Below w.heap.size w w2) := HB.out.trans (hb2.mono HB.out.size); have HR2 := Lib.hid (HR.out.below hb2); clear hb2)
            go_ret2
            exact ⟨hbad.out.symm, HB2.out⟩
          · have d1 : decide (t < 0) = false := by simpa using h1
            obtain ⟨j, rfl⟩ := Int.eq_ofNat_of_zero_le (show 0 ≤ t by omega)
            by_cases h2 : n ≤ j
            · have d2' : decide (n ≤ j) = true := by simpa using h2
              have d2'' : decide ((n : Int) ≤ (j : Int)) = true := by simpa using h2
              have hbad : Hid (ChkAns X n = .returned (.tuple #[.int .i64 (k : Int), .int .i64 32])) := chk_bad (stray.out k hkn (by rw [hst.out, decide_eq_false (show ¬ ((j : Int) < (n : Int)) by omega)]; simp) SC.out.no)
              clear h1 h2
              go_wp2_with (go_at_call 20; refine (CJ.out _).mono ?_; rintro e w2 ⟨rfl, hb2⟩; obtain ⟨d0, d1', d2, d3, d4⟩ := HC.out.below hb2 HLT.out; have HB2 : Hid (Below w.heap.size w w2) := HB.out.trans (hb2.mono HB.out.size); have HR2 := Lib.hid (HR.out.below hb2); clear hb2)
              go_ret2
              exact ⟨hbad.out.symm, HB2.out⟩
            · have d2' : decide (n ≤ j) = false := by simpa using h2
              have d2'' : decide ((n : Int) ≤ (j : Int)) = false := by simpa using h2
              have hjn : j < n := by omega
              have i3 : (0 : Int) ≤ (j : Int) := by omega
              have i4 : (j : Int) < (n : Int) := by omega
              have hst2 : Hid (strayS X n k = !fst X j) := by rw [hst.out, decide_eq_true (show (0 : Int) ≤ (j : Int) by omega), decide_eq_true (show (j : Int) < (n : Int) by omega)]; exact rfl
              clear h1 h2
              cases hj : fst X j
              · have hbad : Hid (ChkAns X n = .returned (.tuple #[.int .i64 (k : Int), .int .i64 32])) := chk_bad (stray.out k hkn (by rw [hst2.out, hj]; rfl) SC.out.no)
                go_wp2_with (go_at_call 20; refine (CJ.out _).mono ?_; rintro e w2 ⟨rfl, hb2⟩; obtain ⟨d0, d1', d2, d3, d4⟩ := HC.out.below hb2 HLT.out; have HB2 : Hid (Below w.heap.size w w2) := HB.out.trans (hb2.mono HB.out.size); have HR2 := Lib.hid (HR.out.below hb2); have cj : w2.cell? ⟨g, j, none⟩ = some (.bool false) := by { rw [HR2.out.cell j, rowB_get n _ j hjn, hj] }; clear hb2)
                go_ret2
                exact ⟨hbad.out.symm, HB2.out⟩
              · have hgo : Hid (strayS X n k = false) := by rw [hst2.out, hj]; exact rfl
                go_wp2_with (go_at_call 20; refine (CJ.out _).mono ?_; rintro e w2 ⟨rfl, hb2⟩; obtain ⟨d0, d1', d2, d3, d4⟩ := HC.out.below hb2 HLT.out; have HB2 : Hid (Below w.heap.size w w2) := HB.out.trans (hb2.mono HB.out.size); have HR2 := Lib.hid (HR.out.below hb2); have cj : w2.cell? ⟨g, j, none⟩ = some (.bool true) := by { rw [HR2.out.cell j, rowB_get n _ j hjn, hj] }; clear hb2)
                go_roundw
                case rel => exact ⟨k + 1, k, by go_num, rfl, SC.out.step hkn HF.out hgo.out, HB2.out, HR2.out⟩
                case measure => simp [intOf]; omega
    · have hkn' : k = n := by have := SC.out.le; omega
      have hlast := SC.out
      rw [hkn'] at hlast
      have hl := hlast.last H0.out
      have hln : l < n := by rw [hl]; exact lastOf_le H0.out
      have hab : aimBad X n = none := find_range_none hlast.no
      have HE : Hid (∀ v, endS (X l) = v → chk X n = if v then none else some l) := by
        rintro v rfl
        have := H0.out
        unfold chk
        rw [if_neg (by omega), HS.out]
        simp only [hab]
        rw [← hl]
      have g1 : decide (k < n) = false := by simpa using hkn
      obtain ⟨b, off, hA, hlt, hc⟩ := (H.out.below HB.out) l hln
      subst hA
      obtain ⟨c0, c1, c2, c3, c4⟩ := hc
      have i1 : (0 : Int) ≤ (l : Int) := by omega
      have i2 : (l : Int) < (n : Int) := by omega
      clear hkn' hlast hl hln hab hlt hkn
      cases h1 : ((X l).o == 149)
      · have h1' : ((X l).o != 149) = true := by simp only [bne, h1]; rfl
        cases h2 : ((X l).o == 5)
        · have h2' : ((X l).o != 5) = true := by simp only [bne, h2]; rfl
          have hbad : Hid (ChkAns X n = .returned (.tuple #[.int .i64 (l : Int), .int .i64 32])) := chk_bad (HE.out false (by simp only [endS, h1, h2]; rfl))
          go_wp2_with fail
          go_ret2
          exact ⟨hbad.out.symm, HB.out⟩
        · have h2' : ((X l).o != 5) = false := by simp only [bne, h2]; rfl
          have hgood : Hid (ChkAns X n = .returned (.tuple #[.int .i64 0, .int .i64 0])) := chk_good (HE.out true (by simp only [endS, h1, h2]; rfl))
          go_wp2_with fail
          go_ret2
          exact ⟨hgood.out.symm, HB.out⟩
      · have h1' : ((X l).o != 149) = false := by simp only [bne, h1]; rfl
        have hgood : Hid (ChkAns X n = .returned (.tuple #[.int .i64 0, .int .i64 0])) := chk_good (HE.out true (by simp only [endS, h1]; rfl))
        go_wp2_with fail
        go_ret2
        exact ⟨hgood.out.symm, HB.out⟩
theorem check05_any (A : Option Addr) (n c : Nat) (X : Nat → Slot) (w : World) (h : Slots w A n X) :
    Calls Tryd.prog 8 #[.slice A n c] w fun e w' => e = ChkAns X n ∧ Below w.heap.size w w' := by
  by_cases hn : n = 0 ∨ 4096 < n
  · exact check05_none A n c X hn w
  · cases hs : scanBad X n with
    | some k => exact check05_scan A n c k X (by omega) (by omega) w h hs
    | none => exact check05_more A n c X (by omega) (by omega) w h hs
end Go.Proofs.YticklgoegmobbaaDoor
