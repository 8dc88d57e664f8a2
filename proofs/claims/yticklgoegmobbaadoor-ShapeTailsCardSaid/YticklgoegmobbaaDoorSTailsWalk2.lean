/-
  The law ShapeTails, walked: a program.
-/
import Derived.Test.YticklgoegmobbaaDoorSTailsWalk
import Derived.OwnWalk
namespace Go.Proofs.YticklgoegmobbaaDoor
open Go Go.RowKit
set_option linter.unusedVariables false
set_option maxRecDepth 100000
set_option maxHeartbeats 4000000 in
theorem tails_good (A : Option Addr) (n c : Nat) (X : Nat → Slot) (w : World) (h : Slots w A n X) (hS : Sizes w) (hg : Good X n) (hn : n < 4000) :
    Calls Tryd.prog 6 #[.slice A n c] w fun e w' => e = .returned (.bool true) ∧ Below w.heap.size w w' := by
  obtain ⟨b0, off0, hA, _, _⟩ := h 0 hg.pos
  subst hA
  have CC := Lib.hid (check_any _ n c X w h hS)
  have he : chkE X n = 0 := by unfold chkE; rw [chk_none.2 hg]; rfl
  rw [he] at CC
  have hg' : Good (snoc X n exitS) (n + 1) := hg.snoc (by omega) (by kernel_rfl) (by kernel_rfl) (by kernel_rfl) (by kernel_rfl)
  have CC2 := Lib.hid (fun A c w h s => check_any A (n + 1) c (snoc X n exitS) w h s)
  have he' : chkE (snoc X n exitS) (n + 1) = 0 := by unfold chkE; rw [chk_none.2 hg']; rfl
  rw [he'] at CC2
  have CR := Lib.hid (fun w' h s => reaches_any (some ⟨b0, off0, none⟩) n c X (by omega) w' h s)
  have CR2 := Lib.hid (fun A c w' h s => reaches_any A (n + 1) c (snoc X n exitS) (by omega) w' h s)
  have CA := Lib.hid awake_any
  have H := Lib.hid h
  have HS := Lib.hid hS
  have HG := Lib.hid hg
  have HG' := Lib.hid hg'
  have g1 : decide ((4000 : Int) ≤ (n : Int)) = false := by simp; omega
  have g2 : ((n : Int) != (n : Int)) = false := by simp
  have g3 : (((n : Int) + 1) != ((n : Int) + 1)) = false := by simp
  have HN1 : Hid (0 + n ≤ 2097152) := by unfold Hid; omega
  have HN2 : Hid (0 + n + 1 ≤ 2097152) := by unfold Hid; omega
  clear h hS hg hg' he he'
  go_enter Tryd.func6, Tryd.ntmps6
  go_wp2_with (first
    | (go_at_call 7; first
        | (refine (CC2.out A4 c4 w4 S4.out (HS.out.below B4.out)).mono ?_; rintro e w5 ⟨rfl, hb⟩; have B5 : Hid (Below w.heap.size w w5) := B4.out.trans (hb.mono B4.out.size); have S5 := Lib.hid (S4.out.below hb); clear hb)
        | (refine CC.out.mono ?_; rintro e w1 ⟨rfl, hb⟩; have B1 := Lib.hid hb; clear hb))
    | (at_builtin; first
        | (have hb3 : Below w.heap.size w (w3.alloc (.cells #[.int .i64 149, .int .i64 0, .int .i64 0, .int .i64 0, .int .i64 0] 39)) := B3.out.alloc B3.out.size _
           obtain ⟨v4, w4, hr4, ho4, hb4⟩ := append_slots (w0 := w) (c := 1) hb3 (ownsRow_blocks HO3.out (fun k _ hk => Below.heap_alloc w3 _ k hk)) (slots_new1 w3 exitS _) HN2.out
           rw [List.nil_append, show cellsAll (fun _ => exitS) 1 = exitS.cells from rfl, ← snoc_cells, Nat.zero_add] at ho4
           obtain ⟨A4, c4, rfl, hs4⟩ := slots_of_own ho4
           have S4 := Lib.hid hs4
           have B4 := Lib.hid hb4
           clear ho4 hb4 hs4
           refine wpList_append_run rfl _ _ 22 rfl v3 (.slice (some ⟨w3.heap.size, 0, none⟩) 1 1) (.slice A4 (n + 1) c4) w4 rfl rfl 22 rfl hr4 ?_
           clear hr4)
        | (obtain ⟨v3, w3, hr3, ho3, hb3⟩ := append_slots (w0 := w) (v := .slice none 0 0) (xs := []) (c := c) B1.out (World.ownsRow_nil _ _ _ _) (H.out.below B1.out) HN1.out
           have HO3 := Lib.hid ho3
           have B3 := Lib.hid hb3
           clear ho3 hb3
           refine wpList_append_run rfl _ _ 22 rfl (.slice none 0 0) (.slice (some ⟨b0, off0, none⟩) n c) v3 w3 rfl rfl 22 rfl hr3 ?_
           clear hr3))
    | (go_at_call 13; first
        | (refine (CR2.out A4 c4 w6 S6.out (HS.out.below B6.out)).mono ?_; rintro e w7 ⟨⟨g', R', _, rfl, hr', hok', _⟩, hb⟩; have B7 : Hid (Below w.heap.size w w7) := B6.out.trans (hb.mono B6.out.size); have R7 := Lib.hid (HR6.out.below hb); have R7' := Lib.hid hr'; have RR' := Lib.hid (hok' (chk_none.2 HG'.out)); have cn : w7.cell? ⟨g', n, none⟩ = some (.bool (R' n)) := (by { rw [hr'.cell n]; exact rowB_get _ _ _ (by omega) }); have hRn : R' n = false := (by { cases hx : R' n; (· rfl); (· have h9 := HG.out.reached ((reached_snoc HG.out).1 ((RR'.out n (by omega)).1 hx)); omega) }); rw [hRn] at cn; have i1 : (0 : Int) ≤ (n : Int) := (by omega); have i2 : (n : Int) < (n : Int) + 1 := (by omega); clear hb hr' hok' hRn)
        | (refine (CR.out w5 (H.out.below B5.out) (HS.out.below B5.out)).mono ?_; rintro e w6 ⟨⟨g, R, _, rfl, hr, hok, _⟩, hb⟩; have B6 : Hid (Below w.heap.size w w6) := B5.out.trans (hb.mono B5.out.size); have S6 := Lib.hid (S5.out.below hb); have HR6 := Lib.hid hr; have RR := Lib.hid (hok (chk_none.2 HG.out)); clear hb hr hok)))
  have hnot : ∀ i, i < n → R i = R' i := fun i hi => by
    rw [Bool.eq_iff_iff, RR.out i hi, RR'.out i (by omega), reached_snoc HG.out]
  have NOT := Lib.hid hnot
  clear hnot CC CC2 CR CR2 cn
  go_loopw [10] (fun i wr => ∃ k : Nat, k ≤ n ∧ i = .int .i64 k ∧ Below w.heap.size w wr ∧ Blk wr g 4 (rowB n R) ∧ Blk wr g' 4 (rowB (n + 1) R')) (fun i _ => n - (intOf i).toNat)
  case atStart => exact ⟨0, by omega, rfl, B7.out, R7.out, R7'.out⟩
  case round =>
    clear B7 R7 R7'
    obtain ⟨k, hk, rfl, hb, hr, hr'⟩ := hrel
    have HB := Lib.hid hb
    have HR := Lib.hid hr
    have HR' := Lib.hid hr'
    clear hb hr hr'
    by_cases hkn : k < n
    · have g4 : decide (k < n) = true := by simpa using hkn
      have j1 : (0 : Int) ≤ (k : Int) := by omega
      have j2 : (k : Int) < (n : Int) := by omega
      have j3 : (k : Int) < (n : Int) + 1 := by omega
      have c1 : wr.cell? ⟨g, k, none⟩ = some (.bool (R k)) := by rw [HR.out.cell k]; exact rowB_get _ _ _ hkn
      have c2 : wr.cell? ⟨g', k, none⟩ = some (.bool (R k)) := by rw [HR'.out.cell k, NOT.out k hkn]; exact rowB_get _ _ _ (by omega)
      have e1 : (R k != R k) = false := by simp
      go_wp2_with fail
      go_quiet (fail)
      go_wp2_with fail
      go_roundw
      case rel => exact ⟨k + 1, by omega, by go_num, (let h := HB.out; ⟨h.os, h.tape, h.output, h.size, h.block⟩), HR.out, HR'.out⟩
      case measure => simp [intOf]; omega
    · have hkn' : k = n := by omega
      have g4 : decide (k < n) = false := by simpa using hkn
      have CA1 := Lib.hid (CA.out wr (HS.out.below HB.out))
      go_wp2_with (go_at_call 12; refine CA1.out.mono ?_; rintro e w9 ⟨rfl, hb⟩; have B9 : Hid (Below w.heap.size w w9) := HB.out.trans (hb.mono HB.out.size); clear hb)
      go_ret
      exact ⟨rfl, B9.out⟩
theorem tails_walk (A : Option Addr) (n c : Nat) (X : Nat → Slot) (w : World) (h : Slots w A n X) (hS : Sizes w) :
    Calls Tryd.prog 6 #[.slice A n c] w fun e w' => e = .returned (.bool true) ∧ Below w.heap.size w w' := by
  cases hk : chk X n with
  | some k => exact tails_bad A n c k X w h hS hk
  | none =>
    by_cases hn : n < 4000
    · exact tails_good A n c X w h hS (chk_none.1 hk) hn
    · exact tails_long A n c X w h hS (chk_none.1 hk) (by omega)
end Go.Proofs.YticklgoegmobbaaDoor
