/-
  Layer 7: partsFirst, walked.
-/
import Derived.Test.YthilkgfbaddjpaaDoorLGraph6
import Derived.Test.YthilkgfbaddjpaaDoorLMin
import Derived.Deep.RegionWith
namespace Go.Proofs.YthilkgfbaddjpaaDoor
open Go Go.RowKit
set_option linter.unusedVariables false
set_option linter.unusedSimpArgs false
set_option maxRecDepth 100000
abbrev allL (l : List Ty) : WK := allF (heldN l) l.length l.length (start l.length)
def PostFirst (w : World) (a : Nat → Addr) (l : List Ty) (e : Ending) (w' : World) : Prop :=
  Below w.heap.size w w' ∧ (((allL l).loops = [] ∧ ∃ v, e = .returned (.tuple #[v, .nilIface]) ∧ w'.ownsRow w.heap.size 3 1 v (allL l).order.length (natC (allL l).order)) ∨
    ((allL l).loops ≠ [] ∧ ∃ p m : Nat, m ∈ (allL l).loops ∧ e = .returned (.tuple #[.slice none 0 0, .iface 72 (.pointer (some ⟨p, 0, none⟩))]) ∧ Blk w' p 74 #[.int .i64 (m : Int), sent a 4]))
theorem belowDrew' {B : Nat} (w : World) : Below B w w.drew := ⟨rfl, rfl, rfl, Nat.le_refl _, fun _ _ => rfl⟩
theorem ws_below {w W : World} {base g : Nat} {lv : Value} {s : WK} {mv ov dv pv : Value} (h : WS (fun _ => False) w W base g lv s mv ov dv pv) : Below w.heap.size w W :=
  ⟨h.keeps.os, h.keeps.tape, h.keeps.output, h.keeps.size, fun k hk => h.keeps.block k hk (fun e => e)⟩
theorem start_ws (w : World) (l : List Ty) (hlen : l.length ≤ 1024) (lv : Value) : WS (fun _ => False) w ((w.alloc (.cells (intC (List.replicate (l.length + 1) 0)).toArray 3)).alloc (.cells (cellsW lv (.slice (some ⟨w.heap.size, 0, none⟩) (l.length + 1) (l.length + 1)) (.slice none 0 0) (.slice none 0 0) (.slice none 0 0) 0) 76)) w.heap.size (w.heap.size + 1) lv (start l.length)
    (.slice (some ⟨w.heap.size, 0, none⟩) (l.length + 1) (l.length + 1)) (.slice none 0 0) (.slice none 0 0) (.slice none 0 0) := by
  have hsz : (w.alloc (.cells (intC (List.replicate (l.length + 1) 0)).toArray 3)).heap.size = w.heap.size + 1 := by simp
  have hb := Blk.new (w.alloc (.cells (intC (List.replicate (l.length + 1) 0)).toArray 3)) 76 (cellsW lv (.slice (some ⟨w.heap.size, 0, none⟩) (l.length + 1) (l.length + 1)) (.slice none 0 0) (.slice none 0 0) (.slice none 0 0) 0)
  rw [hsz] at hb
  have hm : (w.alloc (.cells (intC (List.replicate (l.length + 1) 0)).toArray 3)).ownsRow w.heap.size 3 1 (.slice (some ⟨w.heap.size, 0, none⟩) (l.length + 1) (l.length + 1)) (l.length + 1) (intC (List.replicate (l.length + 1) 0)) :=
    ⟨by simp [intC], .inr ⟨_, _, _, rfl, Nat.le_refl _, Blk.new _ _ _, Nat.le_refl _, by unfold maxLen; omega, by simp [intC], by simp [intC]⟩⟩
  have hm2 : (start l.length).met.length = l.length + 1 := by simp [start]
  refine ⟨hb, by rw [hm2]; exact hm.alloc _, ⟨rfl, .inl ⟨rfl, rfl⟩⟩, ⟨rfl, .inl ⟨rfl, rfl⟩⟩, ⟨rfl, .inl ⟨rfl, rfl⟩⟩, ⟨?_, ?_, ?_, ?_, ?_, ?_⟩, by simp; omega, ((Keeps.refl _ w).alloc _).alloc _, fun b hx => ?_⟩
  all_goals first | (intro b h1 h2; cases h2) | skip
  unfold mine at hx
  rcases hx with rfl | hx | hx | hx | hx
  · right; omega
  · cases hx; right; exact Nat.le_refl _
  · cases hx
  · cases hx
  · cases hx
set_option maxHeartbeats 4000000 in
theorem first_any (A : Option Addr) (c : Nat) (l : List Ty) (hlen : l.length ≤ 1024) (a : Nat → Addr) (w : World) (hE : Env w a) (h : TysAt w A l) (hal : l.all (aloneB l.length) = true) (hmem : ∀ t ∈ l, t.mems.length ≤ 1048576) (hpot : pot (heldN l) l.length (start l.length) ≤ 4000000) :
    Calls Tryd.prog 18 #[.slice A l.length c] w (PostFirst w a l) := by
  have i1 : (l.length : Int) ≤ 1024 := by omega
  have hC : Hid (Ctx w A c l (w.heap.size + 1)) := ⟨h, hlen, hal, hmem, by omega⟩
  have HE := Lib.hid hE
  have HPOT := Lib.hid hpot
  clear h hlen hE hal hmem hpot
  go_enter Tryd.func18, Tryd.ntmps18
  have mk := make_ints (l.length + 1) (by omega) w
  rw [show ((l.length + 1 : Nat) : Int) = (l.length : Int) + 1 from by omega] at mk
  go_upto_region 2 with fail
  have W0 := Lib.hid (start_ws w l hC.out.few (.slice A l.length c))
  unfold cellsW at W0
  generalize World.alloc _ _ = w1 at W0 ⊢
  clear mk
  go_upto_region 3 with fail
  go_loopw [5, 14] (fun _ i wr => ∃ (k : Nat) (ov dv pv : Value), k ≤ l.length ∧ i = .int .i64 k ∧ WS (fun _ => False) w wr w.heap.size (w.heap.size + 1) (.slice A l.length c) (allF (heldN l) l.length k (start l.length)) (.slice (some ⟨w.heap.size, 0, none⟩) (l.length + 1) (l.length + 1)) ov dv pv) (fun _ i _ => l.length - (intOf i).toNat)
  case atStart => exact ⟨0, _, _, _, Nat.zero_le _, rfl, W0.out⟩
  case round =>
    obtain ⟨k, ov, dv, pv, hk, rfl, hws⟩ := hrel
    have HWS := Lib.hid hws
    clear hws
    have hE := held_ok hC.out.alone
    have hN6 : l.length ≤ 1000000 := by have := hC.out.few; omega
    have hsp := all_spec hN6 hE k hk
    have hpa := pot_all hN6 hE k hk
    by_cases hkn : k < l.length
    · have CV := Lib.hid (visit_any hC.out (l.length + 1) (k + 1) _ _ w wr _ ov dv pv hsp.1 (by omega) hkn (fuel_ok hsp.1) (tot_all k) (Nat.le_trans hpa HPOT.out) HWS.out (ws_below HWS.out))
      rw [show ((k + 1 : Nat) : Int) = (k : Int) + 1 from by omega] at CV
      have g1 : decide (k < l.length) = true := by simpa using hkn
      have i2 : (k : Int) < (l.length : Int) := by omega
      have i3 : (0 : Int) ≤ (k : Int) := by omega
      have HK : Hid (k < l.length) := hkn
      clear hE hN6 hsp hpa hkn
      go_wp2_with (go_at_call 29; refine CV.out.mono ?_; rintro e1 w7 ⟨rfl, ov2, dv2, pv2, h7⟩; have R7 := Lib.hid (WX.trans HWS.out h7); clear h7)
      go_roundw
      case rel => exact ⟨k + 1, ov2, dv2, pv2, HK.out, by go_num, R7.out⟩
      case measure => have := HK.out; simp [intOf]; omega
    · have : k = l.length := by omega
      subst this
      have HPA : Hid ((allL l).loops.length ≤ 4000000) := by
        have := loops_pot (E := heldN l) (N := l.length) (allL l)
        have := HPOT.out
        have hpa' : pot (heldN l) l.length (allL l) ≤ _ := hpa
        show _ ≤ _
        omega
      clear hE hN6 hsp hpa hkn
      have g1 : decide (l.length < l.length) = false := by simp
      obtain ⟨s, hs⟩ : ∃ s, allL l = s := ⟨_, rfl⟩
      have HS := Lib.hid hs
      have hws := HWS.out
      rw [show allF (heldN l) l.length l.length (start l.length) = s from hs] at hws
      rw [hs] at HPA
      obtain ⟨PA, Pc, hpv⟩ := own_shape hws.loops
      subst hpv
      obtain ⟨DA, Dc, hdv⟩ := own_shape hws.order
      subst hdv
      have HW := Lib.hid hws
      have HB := Lib.hid (ws_below hws)
      have d4 : wr.cell? ⟨w.heap.size + 1, 4, none⟩ = some (.slice DA s.order.length Dc) := hws.blk.cell 4
      have d5 : wr.cell? ⟨w.heap.size + 1, 5, none⟩ = some (.slice PA s.loops.length Pc) := hws.blk.cell 5
      clear hs hws HWS
      by_cases hl : s.loops = []
      · have hl0 : s.loops.length = 0 := by rw [hl]; rfl
        have g2 : decide (0 < s.loops.length) = false := by simp [hl0]
        have HL := Lib.hid hl
        clear hl hl0
        go_wp2_with fail
        go_ret2
        refine ⟨HB.out, .inl ⟨by rw [HS.out]; exact HL.out, _, rfl, ?_⟩⟩
        rw [HS.out]
        exact HW.out.order
      · have g2 : decide (0 < s.loops.length) = true := by
          have : s.loops.length ≠ 0 := fun e => hl (List.length_eq_zero_iff.1 e)
          simp; omega
        have CM := Lib.hid (min_any s.loops hl (by have := HPA.out; omega) HW.out.drew.loops)
        have d6 : wr.cell? ⟨4, 0, none⟩ = some (sent a 4) := (HE.out.below HB.out).cell 4 (by decide)
        have HL := Lib.hid hl
        clear hl
        go_upto_region 8 with fail
        go_region_with (go_at_call 30; refine CM.out.mono ?_; rintro e1 w7 ⟨m, hm, rfl, rfl⟩; have HM := Lib.hid hm; clear hm)
        all_goals (
          go_wp2
          go_ret2
          refine ⟨(HB.out.trans (belowDrew' wr)).alloc HB.out.size _, .inr ⟨by rw [HS.out]; exact HL.out, wr.heap.size, m, by rw [HS.out]; exact HM.out, rfl, ?_⟩⟩
          exact Blk.new wr.drew _ _)
end Go.Proofs.YthilkgfbaddjpaaDoor
