/-
  The law ShapeNexts, walked.
-/
import Derived.Test.YticklgoegmobbaaDoorRNext
import Derived.Test.YticklgoegmobbaaDoorSAwake
import Derived.Deep.DrawnRows
import Derived.Deep.RegionHeld3
import Derived.Deep.QuietTactic
import Derived.BigQuiet
namespace Go.Proofs.YticklgoegmobbaaDoor
open Go Go.RowKit
set_option linter.unusedVariables false
set_option linter.unusedSimpArgs false
set_option maxRecDepth 100000
theorem Fresh.below {B : Nat} {w w' : World} {v : Value} {L : List Int} (h : Fresh B w v L) (hb : Below w.heap.size w w') : Fresh B w' v L := by
  rcases h with h1 | ⟨g, h1, h2, h3⟩
  · exact .inl h1
  · exact .inr ⟨g, h1, h2, h3.below hb⟩
theorem fresh_form {B : Nat} {w : World} {v : Value} {L : List Int} (h : Fresh B w v L) : ∃ A c, v = .slice A L.length c ∧ (∀ j, (hj : j < L.length) → ∃ g, A = some ⟨g, 0, none⟩ ∧ w.cell? ⟨g, j, none⟩ = some (.int .i64 L[j])) := by
  rcases h with ⟨rfl, rfl⟩ | ⟨g, _, rfl, hb⟩
  · exact ⟨_, _, rfl, fun j hj => by simp at hj⟩
  · exact ⟨_, _, rfl, fun j hj => ⟨g, rfl, by rw [hb.cell j]; simp [intsA, hj]⟩⟩
set_option maxHeartbeats 1000000 in
theorem ints_same (B B' : Nat) (v v' : Value) (L : List Int) (w : World) (h : Fresh B w v L) (h' : Fresh B' w v' L) (hl : L.length ≤ 1048576) :
    Calls Tryd.prog 9 #[v, v'] w fun e w' => e = .returned (.bool true) ∧ Below w.heap.size w w' := by
  obtain ⟨A, c, rfl, hc⟩ := fresh_form h
  obtain ⟨A', c', rfl, hc'⟩ := fresh_form h'
  have HC := Lib.hid hc
  have HC' := Lib.hid hc'
  have e0 : ((L.length : Int) != (L.length : Int)) = false := by simp
  clear h h' hc hc'
  go_enter Tryd.func9, Tryd.ntmps9
  go_wp2_with fail
  go_loopw [5] (fun i wr => ∃ k : Nat, k ≤ L.length ∧ i = .int .i64 k ∧ Below w.heap.size w wr ∧ wr.heap = w.heap) (fun i _ => L.length - (intOf i).toNat)
  case atStart => exact ⟨0, by omega, rfl, Below.refl _ _, rfl⟩
  case round =>
    obtain ⟨k, hk, rfl, hb, hh⟩ := hrel
    have HB := Lib.hid hb
    have HH := Lib.hid hh
    clear hb hh
    by_cases hkn : k < L.length
    · have g1 : decide (k < L.length) = true := by simpa using hkn
      obtain ⟨g, rfl, hx⟩ := HC.out k hkn
      obtain ⟨g', rfl, hx'⟩ := HC'.out k hkn
      have c1 : wr.cell? ⟨g, k, none⟩ = some (.int .i64 L[k]) := (World.cell?_of_block (by rw [HH.out])).trans hx
      have c2 : wr.cell? ⟨g', k, none⟩ = some (.int .i64 L[k]) := (World.cell?_of_block (by rw [HH.out])).trans hx'
      have i1 : (0 : Int) ≤ (k : Int) := by omega
      have i2 : (k : Int) < (L.length : Int) := by omega
      clear hx hx'
      generalize L[k] = z at *
      have e1 : (z != z) = false := by simp
      go_wp2_with fail
      go_quiet (fail)
      go_wp2_with fail
      go_roundw
      case rel => exact ⟨k + 1, by omega, by go_num, (let h := HB.out; ⟨h.os, h.tape, h.output, h.size, h.block⟩), HH.out⟩
      case measure => simp [intOf]; omega
    · have g1 : decide (k < L.length) = false := by simpa using hkn
      go_wp2_with fail
      go_ret
      exact ⟨rfl, HB.out⟩
theorem nextAns_len (X : Nat → Slot) (n : Nat) (t : Int) : (nextAns X n t).length ≤ 1048576 := by
  unfold nextAns
  split
  · have := nxt_length (X t.toNat) t.toNat; omega
  · simp
set_option maxHeartbeats 4000000 in
theorem nexts_walk (A : Option Addr) (n c : Nat) (X : Nat → Slot) (t : Int) (w : World) (hn : n ≤ 4398046511104) (h : Slots w A n X) (hS : Sizes w) :
    Calls Tryd.prog 4 #[.slice A n c, .int .i64 t] w fun e w' => e = .returned (.bool true) ∧ Below w.heap.size w w' := by
  have CR := Lib.hid (fun w' h s => reaches_any A n c X (by omega) w' h s)
  have CR2 := Lib.hid (fun w' h => reaches05_any A n c X (by omega) w' h)
  have CN := Lib.hid (fun t w' h s => Next_any A n c X t w' h s)
  have CM := Lib.hid (fun t w' h => Next05_any A n c X t w' h)
  have CI := Lib.hid ints_same
  have CA := Lib.hid awake_any
  have LEN := Lib.hid (fun t => nextAns_len X n t)
  have H := Lib.hid h
  have HS := Lib.hid hS
  have e0 : ((n : Int) != (n : Int)) = false := by simp
  clear h hS
  go_enter Tryd.func4, Tryd.ntmps4
  go_wp2_with (first
    | (go_at_call 13; refine (CR.out w H.out HS.out).mono ?_; rintro e w1 ⟨⟨g, R, _, rfl, hr, hok, hno⟩, hb⟩; have B1 := Lib.hid hb; have R1 := Lib.hid hr; have K1 := Lib.hid (And.intro hok hno); clear hb hr hok hno)
    | (go_at_call 14; refine (CR2.out w1 (H.out.below B1.out)).mono ?_; rintro e w2 ⟨⟨g', R', _, rfl, hr', hok', hno'⟩, hb⟩; have B2 : Hid (Below w.heap.size w w2) := B1.out.trans (hb.mono B1.out.size); have R2 := Lib.hid (R1.out.below hb); have R2' := Lib.hid hr'; have K2 := Lib.hid (And.intro hok' hno'); clear hb hr' hok' hno')
    | (go_at_call 15; refine (CN.out t w2 (H.out.below B2.out) (HS.out.below B2.out)).mono ?_; rintro e w3 ⟨⟨v3, rfl, hf⟩, hb⟩; have B3 : Hid (Below w.heap.size w w3) := B2.out.trans (hb.mono B2.out.size); have R3 := Lib.hid (R2.out.below hb); have R3' := Lib.hid (R2'.out.below hb); have F3 := Lib.hid hf; clear hb hf)
    | (go_at_call 16; refine (CM.out t w3 (H.out.below B3.out)).mono ?_; rintro e w4 ⟨⟨v4, rfl, hf⟩, hb⟩; have B4 : Hid (Below w.heap.size w w4) := B3.out.trans (hb.mono B3.out.size); have R4 := Lib.hid (R3.out.below hb); have R4' := Lib.hid (R3'.out.below hb); have F4 := Lib.hid hf; have G3 := Lib.hid (F3.out.below hb); clear hb hf)
    | (go_at_call 9; refine (CI.out _ _ _ _ _ w4 G3.out F4.out (LEN.out t)).mono ?_; rintro e w5 ⟨rfl, hb⟩; have B5 : Hid (Below w.heap.size w w5) := B4.out.trans (hb.mono B4.out.size); have R5 := Lib.hid (R4.out.below hb); have R5' := Lib.hid (R4'.out.below hb); clear hb))
  have hnot : ∀ i, i < n → R i = R' i := fun i hi => by
    cases hk : chk X n with
    | none => rw [Bool.eq_iff_iff, K1.out.1 hk i hi, K2.out.1 hk i hi]
    | some k => rw [K1.out.2 (by rw [hk]; simp) i hi, K2.out.2 (by rw [hk]; simp) i hi]
  have NOT := Lib.hid hnot
  clear hnot CR CR2
  go_loopw [7] (fun i wr => ∃ k : Nat, k ≤ n ∧ i = .int .i64 k ∧ Below w.heap.size w wr ∧ Blk wr g 4 (rowB n R) ∧ Blk wr g' 4 (rowB n R')) (fun i _ => n - (intOf i).toNat)
  case atStart => exact ⟨0, by omega, rfl, B5.out, R5.out, R5'.out⟩
  case round =>
    clear B5 R5 R5' B1 B2 B3 B4
    obtain ⟨k, hk, rfl, hb, hr, hr'⟩ := hrel
    have HB := Lib.hid hb
    have HR := Lib.hid hr
    have HR' := Lib.hid hr'
    clear hb hr hr'
    by_cases hkn : k < n ∧ k < 60
    · have hkn1 := hkn.1
      have g1 : decide (k < n) = true := by simpa using hkn1
      have g2 : decide ((k : Int) < 60) = true := by simp; omega
      have i1 : (0 : Int) ≤ (k : Int) := by omega
      have i2 : (k : Int) < (n : Int) := by omega
      have c1 : wr.cell? ⟨g, k, none⟩ = some (.bool (R k)) := by rw [HR.out.cell k]; exact rowB_get _ _ _ hkn1
      have c2 : wr.cell? ⟨g', k, none⟩ = some (.bool (R k)) := by rw [HR'.out.cell k, NOT.out k hkn1]; exact rowB_get _ _ _ hkn1
      have e1 : (R k != R k) = false := by simp
      have CN1 := Lib.hid (fun w' h s => CN.out (k : Int) w' h s)
      have CM1 := Lib.hid (fun w' h => CM.out (k : Int) w' h)
      have HLL := Lib.hid (LEN.out (k : Int))
      clear hkn
      go_wp2_with fail
      refine wp_region_noPanic ?_
      refine wp_region_held_drew (S := (fun W => W.cell? ⟨g, k, none⟩ = some (.bool (R k)) ∧ W.cell? ⟨g', k, none⟩ = some (.bool (R k)))) (by kernel_rfl) ⟨c1, c2⟩ (fun hHeld => ?_)
      refine wpAnyH_take (i := 0) (oi := _) (v := ?_) rfl (by kernel_rfl) (by kernel_rfl) (by kernel_rfl) (fun _ _ _ h => h) (Or.inl ⟨by kernel_rfl, ?_⟩) (by assumption) ?_
      rotate_left 1
      · intro w hSw; obtain ⟨k0, k1⟩ := hSw; go_simp; (try with_reducible rfl)
      try simp only [Act.put, List.getElem_toArray, List.getElem_cons_succ, List.getElem_cons_zero, List.setIfInBounds_toArray, List.set_cons_succ, List.set_cons_zero]
      refine wpAnyH_take (i := 1) (oi := _) (v := ?_) rfl (by kernel_rfl) (by kernel_rfl) (by kernel_rfl) (fun _ _ _ h => h) (Or.inl ⟨by kernel_rfl, ?_⟩) (by assumption) ?_
      rotate_left 1
      · intro w hSw; obtain ⟨k0, k1⟩ := hSw; go_simp; (try with_reducible rfl)
      try simp only [Act.put, List.getElem_toArray, List.getElem_cons_succ, List.getElem_cons_zero, List.setIfInBounds_toArray, List.set_cons_succ, List.set_cons_zero]
      refine wpAnyH_take (i := 2) (oi := _) (v := ?_) rfl (by kernel_rfl) (by kernel_rfl) (by kernel_rfl) (fun _ _ _ h => h) (Or.inl ⟨by kernel_rfl, ?_⟩) (by assumption) ?_
      rotate_left 1
      · intro w hSw; obtain ⟨k0, k1⟩ := hSw; go_simp; (try with_reducible rfl)
      try simp only [Act.put, List.getElem_toArray, List.getElem_cons_succ, List.getElem_cons_zero, List.setIfInBounds_toArray, List.set_cons_succ, List.set_cons_zero]
      refine wpAnyH_take (i := 3) (oi := _) (v := ?_) rfl (by kernel_rfl) (by kernel_rfl) (by kernel_rfl) (fun _ _ _ h => h) (Or.inl ⟨by kernel_rfl, ?_⟩) (by assumption) ?_
      rotate_left 1
      · intro w hSw; obtain ⟨k0, k1⟩ := hSw; go_simp; (try with_reducible rfl)
      try simp only [Act.put, List.getElem_toArray, List.getElem_cons_succ, List.getElem_cons_zero, List.setIfInBounds_toArray, List.set_cons_succ, List.set_cons_zero]
      refine wpAnyH_take (i := 4) (oi := _) (v := ?_) rfl (by kernel_rfl) (by kernel_rfl) (by kernel_rfl) (fun _ _ _ h => h) (Or.inl ⟨by kernel_rfl, ?_⟩) (by assumption) ?_
      rotate_left 1
      · intro w hSw; obtain ⟨k0, k1⟩ := hSw; go_simp; (try with_reducible rfl)
      try simp only [Act.put, List.getElem_toArray, List.getElem_cons_succ, List.getElem_cons_zero, List.setIfInBounds_toArray, List.set_cons_succ, List.set_cons_zero]
      refine wpAnyH_take (i := 5) (oi := _) (v := ?_) rfl (by kernel_rfl) (by kernel_rfl) (by kernel_rfl) (fun _ _ _ h => h) (Or.inl ⟨by kernel_rfl, ?_⟩) (by assumption) ?_
      rotate_left 1
      · intro w hSw; obtain ⟨k0, k1⟩ := hSw; go_simp; (try with_reducible rfl)
      try simp only [Act.put, List.getElem_toArray, List.getElem_cons_succ, List.getElem_cons_zero, List.setIfInBounds_toArray, List.set_cons_succ, List.set_cons_zero]
      refine wpAnyH_take (i := 6) (oi := _) (v := ?_) rfl (by kernel_rfl) (by kernel_rfl) (by kernel_rfl) (fun _ _ _ h => h) (Or.inl ⟨by kernel_rfl, ?_⟩) (by assumption) ?_
      rotate_left 1
      · intro w hSw; obtain ⟨k0, k1⟩ := hSw; go_simp; (try with_reducible rfl)
      try simp only [Act.put, List.getElem_toArray, List.getElem_cons_succ, List.getElem_cons_zero, List.setIfInBounds_toArray, List.set_cons_succ, List.set_cons_zero]
      refine wpAnyH_take (i := 7) (oi := _) (v := ?_) rfl (by kernel_rfl) (by kernel_rfl) (by kernel_rfl) (fun _ _ _ h => h) (Or.inl ⟨by kernel_rfl, ?_⟩) (by assumption) ?_
      rotate_left 1
      · intro w hSw; obtain ⟨k0, k1⟩ := hSw; go_simp; (try with_reducible rfl)
      try simp only [Act.put, List.getElem_toArray, List.getElem_cons_succ, List.getElem_cons_zero, List.setIfInBounds_toArray, List.set_cons_succ, List.set_cons_zero]
      refine wpAnyH_take (i := 8) (oi := _) (v := ?_) rfl (by kernel_rfl) (by kernel_rfl) (by kernel_rfl) (fun _ _ _ h => h) (Or.inl ⟨by kernel_rfl, ?_⟩) (by assumption) ?_
      rotate_left 1
      · intro w hSw; obtain ⟨k0, k1⟩ := hSw; go_simp; (try with_reducible rfl)
      try simp only [Act.put, List.getElem_toArray, List.getElem_cons_succ, List.getElem_cons_zero, List.setIfInBounds_toArray, List.set_cons_succ, List.set_cons_zero]
      refine wpAnyH_take (i := 9) (oi := _) (v := ?_) rfl (by kernel_rfl) (by kernel_rfl) (by kernel_rfl) (fun _ _ _ h => h) (Or.inl ⟨by kernel_rfl, ?_⟩) (by assumption) ?_
      rotate_left 1
      · intro w hSw; obtain ⟨k0, k1⟩ := hSw; go_simp; (try with_reducible rfl)
      try simp only [Act.put, List.getElem_toArray, List.getElem_cons_succ, List.getElem_cons_zero, List.setIfInBounds_toArray, List.set_cons_succ, List.set_cons_zero]
      refine wpAnyH_take (i := 10) (oi := _) (v := ?_) rfl (by kernel_rfl) (by kernel_rfl) (by kernel_rfl) (fun _ _ _ h => h) (Or.inl ⟨by kernel_rfl, ?_⟩) (by assumption) ?_
      rotate_left 1
      · intro w hSw; obtain ⟨k0, k1⟩ := hSw; go_simp; (try with_reducible rfl)
      try simp only [Act.put, List.getElem_toArray, List.getElem_cons_succ, List.getElem_cons_zero, List.setIfInBounds_toArray, List.set_cons_succ, List.set_cons_zero]
      refine wpAnyH_take (i := 11) (oi := _) (v := ?_) rfl (by kernel_rfl) (by kernel_rfl) (by kernel_rfl) (fun _ _ _ h => h) (Or.inl ⟨by kernel_rfl, ?_⟩) (by assumption) ?_
      rotate_left 1
      · intro w hSw; obtain ⟨k0, k1⟩ := hSw; go_simp; (try with_reducible rfl)
      try simp only [Act.put, List.getElem_toArray, List.getElem_cons_succ, List.getElem_cons_zero, List.setIfInBounds_toArray, List.set_cons_succ, List.set_cons_zero]
      refine wpAnyH_take (i := 13) (oi := _) (v := ?_) rfl (by kernel_rfl) (by kernel_rfl) (by kernel_rfl) (fun _ _ _ h => h) (Or.inl ⟨by kernel_rfl, ?_⟩) (by assumption) ?_
      rotate_left 1
      · intro w hSw; obtain ⟨k0, k1⟩ := hSw; go_simp; (try with_reducible rfl)
      try simp only [Act.put, List.getElem_toArray, List.getElem_cons_succ, List.getElem_cons_zero, List.setIfInBounds_toArray, List.set_cons_succ, List.set_cons_zero]
      refine wpAnyH_take (i := 14) (oi := _) (v := ?_) rfl (by kernel_rfl) (by kernel_rfl) (by kernel_rfl) (fun _ _ _ h => h) (Or.inl ⟨by kernel_rfl, ?_⟩) (by assumption) ?_
      rotate_left 1
      · intro w hSw; obtain ⟨k0, k1⟩ := hSw; go_simp; (try with_reducible rfl)
      try simp only [Act.put, List.getElem_toArray, List.getElem_cons_succ, List.getElem_cons_zero, List.setIfInBounds_toArray, List.set_cons_succ, List.set_cons_zero]
      refine wpAnyH_ready (rs := [12]) (by kernel_rfl) (by simp) ?_
      refine AllReadyH.cons (o := _) rfl (fun K hK => ?_) AllReadyH.nil
      go_simp
      go_at_call 15; refine (CN1.out wr.drew (H.out.below HB.out.drew) (HS.out.below HB.out.drew)).mono ?_; rintro e w3 ⟨⟨v3, rfl, hf3⟩, hb⟩
      have hb := Below.undrew hb
      have HB3 : Hid (Below w.heap.size w w3) := HB.out.trans (hb.mono HB.out.size)
      have HR3 := Lib.hid (HR.out.below hb)
      have HR3' := Lib.hid (HR'.out.below hb)
      have HF3 := Lib.hid hf3
      clear hb hf3
      go_wp2_with fail
      refine hK.out _ _ ⟨(HR3.out.cell k).trans (rowB_get _ _ _ hkn1), (HR3'.out.cell k).trans ((rowB_get _ _ _ hkn1).trans (by rw [← NOT.out k hkn1]))⟩ (fun hHeld => ?_)
      clear hK K
      try simp only [Act.put, List.getElem_toArray, List.getElem_cons_succ, List.getElem_cons_zero, List.setIfInBounds_toArray, List.set_cons_succ, List.set_cons_zero]
      refine wpAnyH_ready (rs := [15]) (by kernel_rfl) (by simp) ?_
      refine AllReadyH.cons (o := _) rfl (fun K hK => ?_) AllReadyH.nil
      go_simp
      go_at_call 16; refine (CM1.out w3 (H.out.below HB3.out)).mono ?_; rintro e w4 ⟨⟨v4, rfl, hf4⟩, hb⟩
      have HB4 : Hid (Below w.heap.size w w4) := HB3.out.trans (hb.mono HB3.out.size)
      have HR4 := Lib.hid (HR3.out.below hb)
      have HR4' := Lib.hid (HR3'.out.below hb)
      have HF4 := Lib.hid hf4
      have HG3 := Lib.hid (HF3.out.below hb)
      clear hb hf4
      go_wp2_with fail
      refine hK.out _ _ ⟨(HR4.out.cell k).trans (rowB_get _ _ _ hkn1), (HR4'.out.cell k).trans ((rowB_get _ _ _ hkn1).trans (by rw [← NOT.out k hkn1]))⟩ (fun hHeld => ?_)
      clear hK K
      try simp only [Act.put, List.getElem_toArray, List.getElem_cons_succ, List.getElem_cons_zero, List.setIfInBounds_toArray, List.set_cons_succ, List.set_cons_zero]
      refine wpAnyH_ready (rs := [16]) (by kernel_rfl) (by simp) ?_
      refine AllReadyH.cons (o := _) rfl (fun K hK => ?_) AllReadyH.nil
      go_simp
      go_at_call 9; refine (CI.out _ _ _ _ _ w4 HG3.out HF4.out HLL.out).mono ?_; rintro e w5 ⟨rfl, hb⟩
      have HB5 : Hid (Below w.heap.size w w5) := HB4.out.trans (hb.mono HB4.out.size)
      have HR5 := Lib.hid (HR4.out.below hb)
      have HR5' := Lib.hid (HR4'.out.below hb)
      clear hb
      go_wp2_with fail
      refine hK.out _ _ ⟨(HR5.out.cell k).trans (rowB_get _ _ _ hkn1), (HR5'.out.cell k).trans ((rowB_get _ _ _ hkn1).trans (by rw [← NOT.out k hkn1]))⟩ (fun hHeld => ?_)
      clear hK K
      try simp only [Act.put, List.getElem_toArray, List.getElem_cons_succ, List.getElem_cons_zero, List.setIfInBounds_toArray, List.set_cons_succ, List.set_cons_zero]
      refine wpAnyH_take (i := 17) (oi := _) (v := ?_) rfl (by kernel_rfl) (by kernel_rfl) (by kernel_rfl) (fun _ _ _ h => h) (Or.inl ⟨by kernel_rfl, ?_⟩) (by assumption) ?_
      rotate_left 1
      · intro w hSw; obtain ⟨k0, k1⟩ := hSw; go_simp; (try with_reducible rfl)
      try simp only [Act.put, List.getElem_toArray, List.getElem_cons_succ, List.getElem_cons_zero, List.setIfInBounds_toArray, List.set_cons_succ, List.set_cons_zero]
      refine wpAnyH_take (i := 18) (oi := _) (v := ?_) rfl (by kernel_rfl) (by kernel_rfl) (by kernel_rfl) (fun _ _ _ h => h) (Or.inl ⟨by kernel_rfl, ?_⟩) (by assumption) ?_
      rotate_left 1
      · intro w hSw; obtain ⟨k0, k1⟩ := hSw; go_simp; (try with_reducible rfl)
      try simp only [Act.put, List.getElem_toArray, List.getElem_cons_succ, List.getElem_cons_zero, List.setIfInBounds_toArray, List.set_cons_succ, List.set_cons_zero]
      refine wpAnyH_done (by kernel_rfl) ?_ _
      refine NoPanic.normal ?_
      go_wp2_with fail
      go_roundw
      case rel => exact ⟨k + 1, by omega, by go_num, HB5.out, HR5.out, HR5'.out⟩
      case measure => simp [intOf]; omega
    · have CA1 := Lib.hid (CA.out wr (HS.out.below HB.out))
      by_cases hkn1 : k < n
      · have g1 : decide (k < n) = true := by simpa using hkn1
        have g2 : decide ((k : Int) < 60) = false := by simp; omega
        clear hkn
        go_wp2_with (go_at_call 12; refine CA1.out.mono ?_; rintro e w9 ⟨rfl, hb⟩; have B9 : Hid (Below w.heap.size w w9) := HB.out.trans (hb.mono HB.out.size); clear hb)
        go_ret
        exact ⟨rfl, B9.out⟩
      · have g1 : decide (k < n) = false := by simpa using hkn1
        clear hkn
        go_wp2_with (go_at_call 12; refine CA1.out.mono ?_; rintro e w9 ⟨rfl, hb⟩; have B9 : Hid (Below w.heap.size w w9) := HB.out.trans (hb.mono HB.out.size); clear hb)
        go_ret
        exact ⟨rfl, B9.out⟩
end Go.Proofs.YticklgoegmobbaaDoor
