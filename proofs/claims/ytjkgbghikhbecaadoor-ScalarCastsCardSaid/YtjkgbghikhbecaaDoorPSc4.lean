/-
  Package scalar: put, shifted, what an operation answers.
-/
import Derived.Test.YtjkgbghikhbecaaDoorPSc3
import Derived.Deep.RegionHeld3
import Derived.Deep.CutRange
namespace Go.Proofs.YtjkgbghikhbecaaDoor
open Go Go.RowKit Go.Maps Tn
set_option linter.unusedVariables false
set_option linter.unusedSimpArgs false
set_option maxRecDepth 100000

abbrev HBL := List (Nat × TypeId × Array Value)
theorem HL.tail {w W : World} {b : Nat × TypeId × Array Value} {L : HBL} (h : HL w (b :: L) W) : HL w L W := ⟨h.all.2, h.below⟩
theorem HL.turn {w W : World} {b1 b2 : Nat × TypeId × Array Value} {L : HBL} (h : HL w (b1 :: b2 :: L) W) : HL w (b2 :: b1 :: L) W := ⟨⟨h.all.2.1, h.all.1, h.all.2.2⟩, h.below⟩
theorem HL.drew {w W : World} {L : HBL} (h : HL w L W) : HL w L W.drew := h.keeps (keeps_drew W)
theorem HLs.lt : ∀ {L : HBL} {W : World}, HLs L W → ∀ b ∈ L, b.1 < W.heap.size
  | _ :: _, _, h, b, hb => by
    rcases List.mem_cons.1 hb with rfl | hb
    · exact h.1.lt
    · exact HLs.lt h.2 b hb
theorem HLs.fresh {L : HBL} {W : World} (h : HLs L W) : ∀ b ∈ L, b.1 ≠ W.heap.size := fun b hb => Nat.ne_of_lt (h.lt b hb)
theorem HLs.far {k i : Nat} (u : Value) : ∀ {L : HBL} {W : World}, HLs L W → (∀ b ∈ L, b.1 ≠ k) → HLs L (W.setCell ⟨k, i, none⟩ u)
  | [], _, _, _ => trivial
  | b :: _, _, h, hd => ⟨h.1.far (p := ⟨k, i, none⟩) (hd b (by simp)) u, HLs.far u h.2 fun c hc => hd c (by simp [hc])⟩
abbrev st2 (W : World) (i : Nat) (u : B64 × B64) : World := (W.setCell ⟨i, 0, none⟩ (uv u.1)).setCell ⟨i, 1, none⟩ (uv u.2)
abbrev st4 (W : World) (i : Nat) (u : SC) : World := (((W.setCell ⟨i, 0, none⟩ (uv u.1.1)).setCell ⟨i, 1, none⟩ (uv u.1.2)).setCell ⟨i, 2, none⟩ (uv u.2.1)).setCell ⟨i, 3, none⟩ (uv u.2.2)
abbrev z2S : Array Value := #[.int .u64 0, .int .u64 0]
theorem HL.out2 {w W : World} {L : HBL} {g : Nat} {t : TypeId} (h : HL w ((g, t, z2S) :: L) W) (hd : ∀ b ∈ L, b.1 ≠ g) (hg : w.heap.size ≤ g) (u : B64 × B64) : HL w ((g, t, #[uv u.1, uv u.2]) :: L) (st2 W g u) := by
  obtain ⟨⟨h1, h2⟩, hb⟩ := h
  exact ⟨⟨by simpa using (h1.set_ 0 (uv u.1)).set_ 1 (uv u.2), (h2.far _ hd).far _ hd⟩, (hb.setCell (p := ⟨g, 0, none⟩) hg _).setCell (p := ⟨g, 1, none⟩) hg _⟩
theorem HL.out4 {w W : World} {L : HBL} {g : Nat} (h : HL w ((g, scT, z4) :: L) W) (hd : ∀ b ∈ L, b.1 ≠ g) (hg : w.heap.size ≤ g) (u : SC) : HL w ((g, scT, sC u) :: L) (st4 W g u) := by
  obtain ⟨⟨h1, h2⟩, hb⟩ := h
  exact ⟨⟨by simpa using (((h1.set_ 0 (uv u.1.1)).set_ 1 (uv u.1.2)).set_ 2 (uv u.2.1)).set_ 3 (uv u.2.2), (((h2.far _ hd).far _ hd).far _ hd).far _ hd⟩, (((hb.setCell (p := ⟨g, 0, none⟩) hg _).setCell (p := ⟨g, 1, none⟩) hg _).setCell (p := ⟨g, 2, none⟩) hg _).setCell (p := ⟨g, 3, none⟩) hg _⟩
theorem HLs.apart {L : HBL} {W : World} {g : Nat} {t : TypeId} {cs : Array Value} (hg : Blk W g t cs) (h : HLs L W) (hd : ∀ b ∈ L, b.1 ≠ g ∨ b.2.1 ≠ t) : ∀ b ∈ L, b.1 ≠ g := by
  induction L with
  | nil => intro b hb; cases hb
  | cons c L ih =>
    intro b hb
    rcases List.mem_cons.1 hb with rfl | hb
    · rcases hd b (by simp) with h1 | h1
      · exact h1
      · exact h.1.ne_ hg h1
    · exact ih h.2 (fun b hb => hd b (by simp [hb])) b hb
set_option maxHeartbeats 1000000 in
theorem put_gen (op : Int) (a b : SC) (t : TN) (p : B64 × B64) (hT : Hid (∀ W, Calls Tryd.prog 69 #[.int .i64 op, tv a.1, tv b.1] W fun e w' => e = .returned (.tuple #[tv t, .int .i64 0]) ∧ Below W.heap.size W w'))
    (hR : Hid (∀ W, Calls Tryd.prog 70 #[.int .i64 op, spv a.2, spv b.2] W fun e w' => e = .returned (spv p) ∧ Below W.heap.size W w')) (w : World) :
    Calls Tryd.prog 57 #[.int .i64 op, sv a, sv b] w fun e w' => e = .returned (sv (t, p)) ∧ Below w.heap.size w w' := by
  have F := Lib.hid (HL.three w scT scT scT (sC a) (sC b) z4)
  have CBa := Lib.hid (fun W => bounds_any a W)
  have CBb := Lib.hid (fun W => bounds_any b W)
  have CW := Lib.hid (fun W => within_any t p W)
  obtain ⟨U, hU⟩ : ∃ U : SC, (t, p) = U := ⟨_, rfl⟩
  rw [hU]
  rw [hU] at CW
  clear hU
  go_enter Tryd.func57, Tryd.ntmps57
  go_upto_region 1 with fail
  have hb := F.out
  clear F
  generalize ((w.alloc (.cells #[uv a.1.1, uv a.1.2, uv a.2.1, uv a.2.2] scT)).alloc (.cells #[uv b.1.1, uv b.1.2, uv b.2.1, uv b.2.2] scT)).alloc (.cells #[.int .u64 0, .int .u64 0, .int .u64 0, .int .u64 0] scT) = wz at *
  obtain ⟨c0, c1, c2, c3⟩ := hb.all.2.2.1.four
  obtain ⟨d0, d1, d2, d3⟩ := hb.all.2.1.four
  have HB := Lib.hid hb
  clear hb
  go_upto_region 2 with (go_at_call 69; refine (hT.out _).mono ?_; rintro e w1 ⟨rfl, hb⟩; have HB1 := Lib.hid (HB.out.call hb); clear hb)
  have hb := (HB1.out.push tnT #[uv t.1, uv t.2]).turn.drew
  generalize w1.heap.size = g at *
  generalize w1.alloc (.cells #[uv t.1, uv t.2] tnT) = w2 at *
  have HNE : Hid (∀ b' ∈ [(g, tnT, #[uv t.1, uv t.2]), (w.heap.size + 1, scT, sC b), (w.heap.size, scT, sC a)], b'.1 ≠ w.heap.size + 1 + 1) :=
    HLs.apart hb.all.1 hb.all.2 (by intro b' hb'; simp only [List.mem_cons, List.not_mem_nil, or_false] at hb'; rcases hb' with rfl | rfl | rfl; exact Or.inr (show tnT ≠ scT by decide); exact Or.inl (by show w.heap.size + 1 ≠ _; omega); exact Or.inl (by show w.heap.size ≠ _; omega))
  clear c0 c1 c2 c3 d0 d1 d2 d3 HB HB1
  refine wp_region_noPanic ?_
  refine wp_region_held_drew (S := HL w [(g, tnT, #[uv t.1, uv t.2]), (w.heap.size + 1, scT, sC b), (w.heap.size, scT, sC a)]) (by kernel_rfl) hb.tail (fun hHeld => ?_)
  change wpAnyH _ _ _ _ _ 9 #[false, false, false, false, false, false, false, false, false] _ _
  have HB := Lib.hid hb
  clear hb
  generalize w2.drew = wd at *
  refine wpAnyH_take (i := 0) (oi := _) (v := ?_) rfl (by kernel_rfl) (by kernel_rfl) (by kernel_rfl) (fun _ _ _ h => h) (Or.inl ⟨by kernel_rfl, ?_⟩) (by assumption) ?_
  rotate_left 1
  · intro W hSw; obtain ⟨t0, t1⟩ := hSw.all.1.two; obtain ⟨d0, d1, d2, d3⟩ := hSw.all.2.1.four; obtain ⟨c0, c1, c2, c3⟩ := hSw.all.2.2.1.four; go_simp; (try with_reducible rfl)
  simp only [Act.put, List.getElem_toArray, List.getElem_cons_succ, List.getElem_cons_zero, List.setIfInBounds_toArray, List.set_cons_succ, List.set_cons_zero]
  refine wpAnyH_take (i := 1) (oi := _) (v := ?_) rfl (by kernel_rfl) (by kernel_rfl) (by kernel_rfl) (fun _ _ _ h => h) (Or.inl ⟨by kernel_rfl, ?_⟩) (by assumption) ?_
  rotate_left 1
  · intro W hSw; obtain ⟨t0, t1⟩ := hSw.all.1.two; obtain ⟨d0, d1, d2, d3⟩ := hSw.all.2.1.four; obtain ⟨c0, c1, c2, c3⟩ := hSw.all.2.2.1.four; go_simp; (try with_reducible rfl)
  simp only [Act.put, List.getElem_toArray, List.getElem_cons_succ, List.getElem_cons_zero, List.setIfInBounds_toArray, List.set_cons_succ, List.set_cons_zero]
  refine wpAnyH_take (i := 2) (oi := _) (v := ?_) rfl (by kernel_rfl) (by kernel_rfl) (by kernel_rfl) (fun _ _ _ h => h) (Or.inl ⟨by kernel_rfl, ?_⟩) (by assumption) ?_
  rotate_left 1
  · intro W hSw; obtain ⟨t0, t1⟩ := hSw.all.1.two; obtain ⟨d0, d1, d2, d3⟩ := hSw.all.2.1.four; obtain ⟨c0, c1, c2, c3⟩ := hSw.all.2.2.1.four; go_simp; (try with_reducible rfl)
  simp only [Act.put, List.getElem_toArray, List.getElem_cons_succ, List.getElem_cons_zero, List.setIfInBounds_toArray, List.set_cons_succ, List.set_cons_zero]
  refine wpAnyH_take (i := 4) (oi := _) (v := ?_) rfl (by kernel_rfl) (by kernel_rfl) (by kernel_rfl) (fun _ _ _ h => h) (Or.inl ⟨by kernel_rfl, ?_⟩) (by assumption) ?_
  rotate_left 1
  · intro W hSw; obtain ⟨t0, t1⟩ := hSw.all.1.two; obtain ⟨d0, d1, d2, d3⟩ := hSw.all.2.1.four; obtain ⟨c0, c1, c2, c3⟩ := hSw.all.2.2.1.four; go_simp; (try with_reducible rfl)
  simp only [Act.put, List.getElem_toArray, List.getElem_cons_succ, List.getElem_cons_zero, List.setIfInBounds_toArray, List.set_cons_succ, List.set_cons_zero]
  refine wpAnyH_ready (rs := [3]) (by kernel_rfl) (by simp) ?_
  refine AllReadyH.cons (o := _) rfl (fun K hK => ?_) AllReadyH.nil
  go_simp
  go_at_call 30; refine (CBa.out _).mono ?_; rintro e V1 ⟨rfl, hb⟩
  go_wp2_with fail
  have hB := HB.out.call hb
  refine hK.out _ _ (hB.tail) (fun hHeld => ?_)
  have HB := Lib.hid hB
  clear hK K hB hb
  simp only [Act.put, List.getElem_toArray, List.getElem_cons_succ, List.getElem_cons_zero, List.setIfInBounds_toArray, List.set_cons_succ, List.set_cons_zero]
  refine wpAnyH_ready (rs := [5]) (by kernel_rfl) (by simp) ?_
  refine AllReadyH.cons (o := _) rfl (fun K hK => ?_) AllReadyH.nil
  go_simp
  go_at_call 30; refine (CBb.out _).mono ?_; rintro e V2 ⟨rfl, hb⟩
  go_wp2_with fail
  have hB := HB.out.call hb
  refine hK.out _ _ (hB.tail) (fun hHeld => ?_)
  have HB := Lib.hid hB
  clear hK K hB hb
  simp only [Act.put, List.getElem_toArray, List.getElem_cons_succ, List.getElem_cons_zero, List.setIfInBounds_toArray, List.set_cons_succ, List.set_cons_zero]
  refine wpAnyH_ready (rs := [6]) (by kernel_rfl) (by simp) ?_
  refine AllReadyH.cons (o := _) rfl (fun K hK => ?_) AllReadyH.nil
  go_simp
  go_at_call 70; refine (hR.out _).mono ?_; rintro e V3 ⟨rfl, hb⟩
  go_wp2_with fail
  have hB := HB.out.call hb
  refine hK.out _ _ (hB.tail) (fun hHeld => ?_)
  have HB := Lib.hid hB
  clear hK K hB hb
  simp only [Act.put, List.getElem_toArray, List.getElem_cons_succ, List.getElem_cons_zero, List.setIfInBounds_toArray, List.set_cons_succ, List.set_cons_zero]
  refine wpAnyH_ready (rs := [7]) (by kernel_rfl) (by simp) ?_
  refine AllReadyH.cons (o := _) rfl (fun K hK => ?_) AllReadyH.nil
  go_simp
  go_at_call 32; refine (CW.out _).mono ?_; rintro e V4 ⟨rfl, hb⟩
  go_wp2_with fail
  have hB := HB.out.call hb
  refine hK.out _ _ (hB.tail) (fun hHeld => ?_)
  have HB := Lib.hid hB
  clear hK K hB hb
  simp only [Act.put, List.getElem_toArray, List.getElem_cons_succ, List.getElem_cons_zero, List.setIfInBounds_toArray, List.set_cons_succ, List.set_cons_zero]
  refine wpAnyH_ready (rs := [8]) (by kernel_rfl) (by simp) ?_
  refine AllReadyH.cons (o := _) rfl (fun K hK => ?_) AllReadyH.nil
  obtain ⟨r0, r1, r2, r3⟩ := HB.out.all.1.soft4
  obtain ⟨z0, z1, z2, z3⟩ := HB.out.all.1.four
  go_simp
  have hB := HB.out.out4 HNE.out (by omega) U
  dsimp only [st4] at hB
  generalize (((V4.setCell ⟨w.heap.size + 1 + 1, 0, none⟩ (uv (U).1.1)).setCell ⟨w.heap.size + 1 + 1, 1, none⟩ (uv (U).1.2)).setCell ⟨w.heap.size + 1 + 1, 2, none⟩ (uv (U).2.1)).setCell ⟨w.heap.size + 1 + 1, 3, none⟩ (uv (U).2.2) = V5 at *
  clear r0 r1 r2 r3 z0 z1 z2 z3
  refine hK.out _ _ (hB.tail) (fun hHeld => ?_)
  have HB := Lib.hid hB
  clear hK K hB
  simp only [Act.put, List.getElem_toArray, List.getElem_cons_succ, List.getElem_cons_zero, List.setIfInBounds_toArray, List.set_cons_succ, List.set_cons_zero]
  refine wpAnyH_done (by kernel_rfl) ?_ _
  refine NoPanic.normal ?_
  go_wp2_with fail
  refine bodyPost_ret (results_cell_row rfl _ _ (w.heap.size + 1 + 1) scT _ (0, 0) _ rfl HB.out.all.1 Tryd.underlying26 rfl (by kernel_rfl)) rfl ?_
  exact ⟨rfl, HB.out.below⟩
def SH (w : World) (a : SC) (W : World) : Prop := HL w [(w.heap.size + 1, scT, sC a), (w.heap.size, opT, opC 96)] W
set_option maxHeartbeats 1000000 in
theorem shifted_2 (a : SC) (h : a.2.2.toNat ≤ 4611686018427387903) (w : World) :
    Calls Tryd.prog 52 #[opv 96, sv a, .int .u64 2] w fun e w' => e = .returned (sv (tShift 96 true 2 a.1, (a.2.1 <<< 2, a.2.2 <<< 2))) ∧ Below w.heap.size w w' := by
  have F := Lib.hid (HL.three w opT scT scT (opC 96) (sC a) z4)
  have g1 : decide (n64 a.2.2 ≤ 4611686018427387903) = true := decide_eq_true (by unfold n64; omega)
  clear h
  have CS : Hid (∀ W, Calls Tryd.prog 61 #[.int .i64 96, tv a.1, .int .i64 2, .bool true] W fun e w' => e = .returned (.tuple #[tv (tShift 96 true 2 a.1), .int .i64 0]) ∧ Below W.heap.size W w') := fun W => pShift_96w (k := 2) (by decide) a.1 W
  generalize tShift 96 true 2 a.1 = t at *
  have CBa := Lib.hid (fun W => bounds_any a W)
  have CG := Lib.hid (fun W => greatest_any 96 W)
  have CR : Hid (∀ W, Calls Tryd.prog 63 #[.int .u64 18446744073709551615, .int .u64 2] W fun e w' => e = .returned (.int .u64 4611686018427387903) ∧ Below W.heap.size W w') := fun W => (right_two W).mono fun e w' hh => ⟨hh.1, hh.2 ▸ Below.refl _ _⟩
  have CA := Lib.hid alone_two
  have CB2 := Lib.hid (fun W => both_left a.2 W)
  have CW := Lib.hid (fun W => within_any t (a.2.1 <<< 2, a.2.2 <<< 2) W)
  generalize a.2.1 <<< 2 = x1 at *
  generalize a.2.2 <<< 2 = x2 at *
  obtain ⟨U, hU⟩ : ∃ U : SC, (t, x1, x2) = U := ⟨_, rfl⟩
  rw [hU]
  rw [hU] at CW
  clear hU
  go_enter Tryd.func52, Tryd.ntmps52
  go_upto_region 1 with fail
  have hb := F.out
  clear F
  generalize ((w.alloc (.cells #[.int .i64 96, .bool true, .bool false] opT)).alloc (.cells #[uv a.1.1, uv a.1.2, uv a.2.1, uv a.2.2] scT)).alloc (.cells #[.int .u64 0, .int .u64 0, .int .u64 0, .int .u64 0] scT) = wz at *
  obtain ⟨c0, c1, c2, c3⟩ := hb.all.2.1.four
  obtain ⟨d0, d1, d2⟩ := hb.all.2.2.1.three
  have HB := Lib.hid hb
  clear hb
  go_upto_region 2 with (go_at_call 61; refine (CS.out _).mono ?_; rintro e w1 ⟨rfl, hb⟩; have HB1 := Lib.hid (HB.out.call hb); clear hb)
  have hb := (HB1.out.push tnT #[uv t.1, uv t.2]).turn
  generalize w1.heap.size = g at *
  generalize w1.alloc (.cells #[uv t.1, uv t.2] tnT) = w2 at *
  clear c0 c1 c2 c3 d0 d1 d2 HB HB1 CS
  have HB0 := Lib.hid hb
  clear hb
  go_cut [9, 10] from 11 to 67 (fun s9 s10 wc => ∃ p : Nat, s9 = .pointer (some ⟨p, 0, none⟩) ∧ s10 = .int .u64 18446744073709551615 ∧ HL w ((p, spT, spC a.2) :: [(w.heap.size + 1 + 1, scT, z4), (g, tnT, #[uv t.1, uv t.2]), (w.heap.size + 1, scT, sC a), (w.heap.size, opT, opC 96)]) wc)
  case first =>
    have hb := HB0.out.drew
    refine wp_region_noPanic ?_
    refine wp_region_held_drew (S := SH w a) (by kernel_rfl) hb.tail.tail (fun hHeld => ?_)
    change wpAnyH _ _ _ _ _ 7 #[false, false, false, false, false, false, false] _ _
    have HB := Lib.hid hb
    clear hb
    generalize w2.drew = wd at *
    refine wpAnyH_take (i := 0) (oi := _) (v := ?_) rfl (by kernel_rfl) (by kernel_rfl) (by kernel_rfl) (fun _ _ _ h => h) (Or.inl ⟨by kernel_rfl, ?_⟩) (by assumption) ?_
    rotate_left 1
    · intro W hSw; obtain ⟨c0, c1, c2, c3⟩ := hSw.all.1.four; obtain ⟨d0, d1, d2⟩ := hSw.all.2.1.three; go_simp; (try with_reducible rfl)
    simp only [Act.put, List.getElem_toArray, List.getElem_cons_succ, List.getElem_cons_zero, List.setIfInBounds_toArray, List.set_cons_succ, List.set_cons_zero]
    refine wpAnyH_take (i := 2) (oi := _) (v := ?_) rfl (by kernel_rfl) (by kernel_rfl) (by kernel_rfl) (fun _ _ _ h => h) (Or.inl ⟨by kernel_rfl, ?_⟩) (by assumption) ?_
    rotate_left 1
    · intro W hSw; obtain ⟨c0, c1, c2, c3⟩ := hSw.all.1.four; obtain ⟨d0, d1, d2⟩ := hSw.all.2.1.three; go_simp; (try with_reducible rfl)
    simp only [Act.put, List.getElem_toArray, List.getElem_cons_succ, List.getElem_cons_zero, List.setIfInBounds_toArray, List.set_cons_succ, List.set_cons_zero]
    refine wpAnyH_ready (rs := [1, 4]) (by kernel_rfl) (by simp) ?_
    refine AllReadyH.cons (o := _) rfl (fun K hK => ?_) (AllReadyH.cons (o := _) rfl (fun K hK => ?_) AllReadyH.nil)
    · go_simp
      go_at_call 30; refine (CBa.out _).mono ?_; rintro e V1 ⟨rfl, hb⟩
      go_wp2_with fail
      have hB := HB.out.call hb
      refine hK.out _ _ (by first | exact hB.tail.tail | exact hB.tail.tail.tail) (fun hHeld => ?_)
      have HB := Lib.hid hB
      clear hK K hB hb
      simp only [Act.put, List.getElem_toArray, List.getElem_cons_succ, List.getElem_cons_zero, List.setIfInBounds_toArray, List.set_cons_succ, List.set_cons_zero]
      refine wpAnyH_ready (rs := [3, 4]) (by kernel_rfl) (by simp) ?_
      refine AllReadyH.cons (o := _) rfl (fun K hK => ?_) (AllReadyH.cons (o := _) rfl (fun K hK => ?_) AllReadyH.nil)
      · go_simp
        go_at_call 62; refine (CG.out _).mono ?_; rintro e V2 ⟨rfl, hb⟩
        go_wp2_with fail
        have hB := HB.out.call hb
        refine hK.out _ _ (by first | exact hB.tail.tail | exact hB.tail.tail.tail) (fun hHeld => ?_)
        have HB := Lib.hid hB
        clear hK K hB hb
        simp only [Act.put, List.getElem_toArray, List.getElem_cons_succ, List.getElem_cons_zero, List.setIfInBounds_toArray, List.set_cons_succ, List.set_cons_zero]
        refine wpAnyH_ready (rs := [4]) (by kernel_rfl) (by simp) ?_
        refine AllReadyH.cons (o := _) rfl (fun K hK => ?_) AllReadyH.nil
        go_simp
        have HPN := Lib.hid HB.out.all.fresh
        have HPG := Lib.hid HB.out.below.size
        have hB := HB.out.push spT z2S
        generalize V2.heap.size = p at *
        generalize V2.alloc (.cells #[.int .u64 0, .int .u64 0] spT) = V3 at *
        refine hK.out _ _ (by first | exact hB.tail.tail | exact hB.tail.tail.tail) (fun hHeld => ?_)
        have HB := Lib.hid hB
        clear hK K hB
        simp only [Act.put, List.getElem_toArray, List.getElem_cons_succ, List.getElem_cons_zero, List.setIfInBounds_toArray, List.set_cons_succ, List.set_cons_zero]
        refine wpAnyH_ready (rs := [5]) (by kernel_rfl) (by simp) ?_
        refine AllReadyH.cons (o := _) rfl (fun K hK => ?_) AllReadyH.nil
        obtain ⟨r0, r1⟩ := HB.out.all.1.soft2
        obtain ⟨z0, z1⟩ := HB.out.all.1.two
        go_simp
        have hB := HB.out.out2 HPN.out HPG.out a.2
        dsimp only [st2] at hB
        generalize (V3.setCell ⟨p, 0, none⟩ (uv a.2.1)).setCell ⟨p, 1, none⟩ (uv a.2.2) = V4 at *
        clear r0 r1 z0 z1
        refine hK.out _ _ (by first | exact hB.tail.tail | exact hB.tail.tail.tail) (fun hHeld => ?_)
        have HB := Lib.hid hB
        clear hK K hB
        simp only [Act.put, List.getElem_toArray, List.getElem_cons_succ, List.getElem_cons_zero, List.setIfInBounds_toArray, List.set_cons_succ, List.set_cons_zero]
        refine wpAnyH_take (i := 6) (oi := _) (v := ?_) rfl (by kernel_rfl) (by kernel_rfl) (by kernel_rfl) (fun _ _ _ h => h) (Or.inl ⟨by kernel_rfl, ?_⟩) (by assumption) ?_
        rotate_left 1
        · intro W hSw; obtain ⟨c0, c1, c2, c3⟩ := hSw.all.1.four; obtain ⟨d0, d1, d2⟩ := hSw.all.2.1.three; go_simp; (try with_reducible rfl)
        simp only [Act.put, List.getElem_toArray, List.getElem_cons_succ, List.getElem_cons_zero, List.setIfInBounds_toArray, List.set_cons_succ, List.set_cons_zero]
        refine wpAnyH_done (by kernel_rfl) ?_ _
        refine NoPanic.normal ?_
        go_wp2_with fail
        go_meet
        case rel => exact ⟨p, rfl, rfl, HB.out⟩
      · go_simp
        have HPN := Lib.hid HB.out.all.fresh
        have HPG := Lib.hid HB.out.below.size
        have hB := HB.out.push spT z2S
        generalize V1.heap.size = p at *
        generalize V1.alloc (.cells #[.int .u64 0, .int .u64 0] spT) = V5 at *
        refine hK.out _ _ (by first | exact hB.tail.tail | exact hB.tail.tail.tail) (fun hHeld => ?_)
        have HB := Lib.hid hB
        clear hK K hB
        simp only [Act.put, List.getElem_toArray, List.getElem_cons_succ, List.getElem_cons_zero, List.setIfInBounds_toArray, List.set_cons_succ, List.set_cons_zero]
        refine wpAnyH_ready (rs := [3]) (by kernel_rfl) (by simp) ?_
        refine AllReadyH.cons (o := _) rfl (fun K hK => ?_) AllReadyH.nil
        go_simp
        go_at_call 62; refine (CG.out _).mono ?_; rintro e V6 ⟨rfl, hb⟩
        go_wp2_with fail
        have hB := HB.out.call hb
        refine hK.out _ _ (by first | exact hB.tail.tail | exact hB.tail.tail.tail) (fun hHeld => ?_)
        have HB := Lib.hid hB
        clear hK K hB hb
        simp only [Act.put, List.getElem_toArray, List.getElem_cons_succ, List.getElem_cons_zero, List.setIfInBounds_toArray, List.set_cons_succ, List.set_cons_zero]
        refine wpAnyH_ready (rs := [5]) (by kernel_rfl) (by simp) ?_
        refine AllReadyH.cons (o := _) rfl (fun K hK => ?_) AllReadyH.nil
        obtain ⟨r0, r1⟩ := HB.out.all.1.soft2
        obtain ⟨z0, z1⟩ := HB.out.all.1.two
        go_simp
        have hB := HB.out.out2 HPN.out HPG.out a.2
        dsimp only [st2] at hB
        generalize (V6.setCell ⟨p, 0, none⟩ (uv a.2.1)).setCell ⟨p, 1, none⟩ (uv a.2.2) = V7 at *
        clear r0 r1 z0 z1
        refine hK.out _ _ (by first | exact hB.tail.tail | exact hB.tail.tail.tail) (fun hHeld => ?_)
        have HB := Lib.hid hB
        clear hK K hB
        simp only [Act.put, List.getElem_toArray, List.getElem_cons_succ, List.getElem_cons_zero, List.setIfInBounds_toArray, List.set_cons_succ, List.set_cons_zero]
        refine wpAnyH_take (i := 6) (oi := _) (v := ?_) rfl (by kernel_rfl) (by kernel_rfl) (by kernel_rfl) (fun _ _ _ h => h) (Or.inl ⟨by kernel_rfl, ?_⟩) (by assumption) ?_
        rotate_left 1
        · intro W hSw; obtain ⟨c0, c1, c2, c3⟩ := hSw.all.1.four; obtain ⟨d0, d1, d2⟩ := hSw.all.2.1.three; go_simp; (try with_reducible rfl)
        simp only [Act.put, List.getElem_toArray, List.getElem_cons_succ, List.getElem_cons_zero, List.setIfInBounds_toArray, List.set_cons_succ, List.set_cons_zero]
        refine wpAnyH_done (by kernel_rfl) ?_ _
        refine NoPanic.normal ?_
        go_wp2_with fail
        go_meet
        case rel => exact ⟨p, rfl, rfl, HB.out⟩
    · go_simp
      have HPN := Lib.hid HB.out.all.fresh
      have HPG := Lib.hid HB.out.below.size
      have hB := HB.out.push spT z2S
      generalize wd.heap.size = p at *
      generalize wd.alloc (.cells #[.int .u64 0, .int .u64 0] spT) = V8 at *
      refine hK.out _ _ (by first | exact hB.tail.tail | exact hB.tail.tail.tail) (fun hHeld => ?_)
      have HB := Lib.hid hB
      clear hK K hB
      simp only [Act.put, List.getElem_toArray, List.getElem_cons_succ, List.getElem_cons_zero, List.setIfInBounds_toArray, List.set_cons_succ, List.set_cons_zero]
      refine wpAnyH_ready (rs := [1]) (by kernel_rfl) (by simp) ?_
      refine AllReadyH.cons (o := _) rfl (fun K hK => ?_) AllReadyH.nil
      go_simp
      go_at_call 30; refine (CBa.out _).mono ?_; rintro e V9 ⟨rfl, hb⟩
      go_wp2_with fail
      have hB := HB.out.call hb
      refine hK.out _ _ (by first | exact hB.tail.tail | exact hB.tail.tail.tail) (fun hHeld => ?_)
      have HB := Lib.hid hB
      clear hK K hB hb
      simp only [Act.put, List.getElem_toArray, List.getElem_cons_succ, List.getElem_cons_zero, List.setIfInBounds_toArray, List.set_cons_succ, List.set_cons_zero]
      refine wpAnyH_ready (rs := [3]) (by kernel_rfl) (by simp) ?_
      refine AllReadyH.cons (o := _) rfl (fun K hK => ?_) AllReadyH.nil
      go_simp
      go_at_call 62; refine (CG.out _).mono ?_; rintro e V10 ⟨rfl, hb⟩
      go_wp2_with fail
      have hB := HB.out.call hb
      refine hK.out _ _ (by first | exact hB.tail.tail | exact hB.tail.tail.tail) (fun hHeld => ?_)
      have HB := Lib.hid hB
      clear hK K hB hb
      simp only [Act.put, List.getElem_toArray, List.getElem_cons_succ, List.getElem_cons_zero, List.setIfInBounds_toArray, List.set_cons_succ, List.set_cons_zero]
      refine wpAnyH_ready (rs := [5]) (by kernel_rfl) (by simp) ?_
      refine AllReadyH.cons (o := _) rfl (fun K hK => ?_) AllReadyH.nil
      obtain ⟨r0, r1⟩ := HB.out.all.1.soft2
      obtain ⟨z0, z1⟩ := HB.out.all.1.two
      go_simp
      have hB := HB.out.out2 HPN.out HPG.out a.2
      dsimp only [st2] at hB
      generalize (V10.setCell ⟨p, 0, none⟩ (uv a.2.1)).setCell ⟨p, 1, none⟩ (uv a.2.2) = V11 at *
      clear r0 r1 z0 z1
      refine hK.out _ _ (by first | exact hB.tail.tail | exact hB.tail.tail.tail) (fun hHeld => ?_)
      have HB := Lib.hid hB
      clear hK K hB
      simp only [Act.put, List.getElem_toArray, List.getElem_cons_succ, List.getElem_cons_zero, List.setIfInBounds_toArray, List.set_cons_succ, List.set_cons_zero]
      refine wpAnyH_take (i := 6) (oi := _) (v := ?_) rfl (by kernel_rfl) (by kernel_rfl) (by kernel_rfl) (fun _ _ _ h => h) (Or.inl ⟨by kernel_rfl, ?_⟩) (by assumption) ?_
      rotate_left 1
      · intro W hSw; obtain ⟨c0, c1, c2, c3⟩ := hSw.all.1.four; obtain ⟨d0, d1, d2⟩ := hSw.all.2.1.three; go_simp; (try with_reducible rfl)
      simp only [Act.put, List.getElem_toArray, List.getElem_cons_succ, List.getElem_cons_zero, List.setIfInBounds_toArray, List.set_cons_succ, List.set_cons_zero]
      refine wpAnyH_done (by kernel_rfl) ?_ _
      refine NoPanic.normal ?_
      go_wp2_with fail
      go_meet
      case rel => exact ⟨p, rfl, rfl, HB.out⟩
  case rest =>
    obtain ⟨p, rfl, rfl, hb⟩ := hcut
    have e := hb.all.1.two
    obtain ⟨e0, e1⟩ := e
    clear HB0
    go_upto_region 3 with fail
    clear e0 e1
    have hb := hb.drew
    refine wp_region_noPanic ?_
    refine wp_region_held_drew (S := HL w [(p, spT, spC a.2), (w.heap.size + 1 + 1, scT, z4), (g, tnT, #[uv t.1, uv t.2]), (w.heap.size + 1, scT, sC a), (w.heap.size, opT, opC 96)]) (by kernel_rfl) hb (fun hHeld => ?_)
    change wpAnyH _ _ _ _ _ 12 #[false, false, false, false, false, false, false, false, false, false, false, false] _ _
    have HB := Lib.hid hb
    clear hb
    generalize wc.drew = wd at *
    refine wpAnyH_take (i := 0) (oi := _) (v := ?_) rfl (by kernel_rfl) (by kernel_rfl) (by kernel_rfl) (fun _ _ _ h => h) (Or.inl ⟨by kernel_rfl, ?_⟩) (by assumption) ?_
    rotate_left 1
    · intro W hSw; obtain ⟨e0, e1⟩ := hSw.all.1.two; obtain ⟨d0, d1, d2⟩ := hSw.all.2.2.2.2.1.three; go_simp; (try with_reducible rfl)
    simp only [Act.put, List.getElem_toArray, List.getElem_cons_succ, List.getElem_cons_zero, List.setIfInBounds_toArray, List.set_cons_succ, List.set_cons_zero]
    refine wpAnyH_take (i := 1) (oi := _) (v := ?_) rfl (by kernel_rfl) (by kernel_rfl) (by kernel_rfl) (fun _ _ _ h => h) (Or.inl ⟨by kernel_rfl, ?_⟩) (by assumption) ?_
    rotate_left 1
    · intro W hSw; obtain ⟨e0, e1⟩ := hSw.all.1.two; obtain ⟨d0, d1, d2⟩ := hSw.all.2.2.2.2.1.three; go_simp; (try with_reducible rfl)
    simp only [Act.put, List.getElem_toArray, List.getElem_cons_succ, List.getElem_cons_zero, List.setIfInBounds_toArray, List.set_cons_succ, List.set_cons_zero]
    refine wpAnyH_take (i := 2) (oi := _) (v := ?_) rfl (by kernel_rfl) (by kernel_rfl) (by kernel_rfl) (fun _ _ _ h => h) (Or.inl ⟨by kernel_rfl, ?_⟩) (by assumption) ?_
    rotate_left 1
    · intro W hSw; obtain ⟨e0, e1⟩ := hSw.all.1.two; obtain ⟨d0, d1, d2⟩ := hSw.all.2.2.2.2.1.three; go_simp; (try with_reducible rfl)
    simp only [Act.put, List.getElem_toArray, List.getElem_cons_succ, List.getElem_cons_zero, List.setIfInBounds_toArray, List.set_cons_succ, List.set_cons_zero]
    refine wpAnyH_take (i := 3) (oi := _) (v := ?_) rfl (by kernel_rfl) (by kernel_rfl) (by kernel_rfl) (fun _ _ _ h => h) (Or.inl ⟨by kernel_rfl, ?_⟩) (by assumption) ?_
    rotate_left 1
    · intro W hSw; obtain ⟨e0, e1⟩ := hSw.all.1.two; obtain ⟨d0, d1, d2⟩ := hSw.all.2.2.2.2.1.three; go_simp; (try with_reducible rfl)
    simp only [Act.put, List.getElem_toArray, List.getElem_cons_succ, List.getElem_cons_zero, List.setIfInBounds_toArray, List.set_cons_succ, List.set_cons_zero]
    refine wpAnyH_take (i := 4) (oi := _) (v := ?_) rfl (by kernel_rfl) (by kernel_rfl) (by kernel_rfl) (fun _ _ _ h => h) (Or.inl ⟨by kernel_rfl, ?_⟩) (by assumption) ?_
    rotate_left 1
    · intro W hSw; obtain ⟨e0, e1⟩ := hSw.all.1.two; obtain ⟨d0, d1, d2⟩ := hSw.all.2.2.2.2.1.three; go_simp; (try with_reducible rfl)
    simp only [Act.put, List.getElem_toArray, List.getElem_cons_succ, List.getElem_cons_zero, List.setIfInBounds_toArray, List.set_cons_succ, List.set_cons_zero]
    refine wpAnyH_take (i := 5) (oi := _) (v := ?_) rfl (by kernel_rfl) (by kernel_rfl) (by kernel_rfl) (fun _ _ _ h => h) (Or.inl ⟨by kernel_rfl, ?_⟩) (by assumption) ?_
    rotate_left 1
    · intro W hSw; obtain ⟨e0, e1⟩ := hSw.all.1.two; obtain ⟨d0, d1, d2⟩ := hSw.all.2.2.2.2.1.three; go_simp; (try with_reducible rfl)
    simp only [Act.put, List.getElem_toArray, List.getElem_cons_succ, List.getElem_cons_zero, List.setIfInBounds_toArray, List.set_cons_succ, List.set_cons_zero]
    refine wpAnyH_take (i := 6) (oi := _) (v := ?_) rfl (by kernel_rfl) (by kernel_rfl) (by kernel_rfl) (fun _ _ _ h => h) (Or.inl ⟨by kernel_rfl, ?_⟩) (by assumption) ?_
    rotate_left 1
    · intro W hSw; obtain ⟨e0, e1⟩ := hSw.all.1.two; obtain ⟨d0, d1, d2⟩ := hSw.all.2.2.2.2.1.three; go_simp; (try with_reducible rfl)
    simp only [Act.put, List.getElem_toArray, List.getElem_cons_succ, List.getElem_cons_zero, List.setIfInBounds_toArray, List.set_cons_succ, List.set_cons_zero]
    refine wpAnyH_take (i := 7) (oi := _) (v := ?_) rfl (by kernel_rfl) (by kernel_rfl) (by kernel_rfl) (fun _ _ _ h => h) (Or.inl ⟨by kernel_rfl, ?_⟩) (by assumption) ?_
    rotate_left 1
    · intro W hSw; obtain ⟨e0, e1⟩ := hSw.all.1.two; obtain ⟨d0, d1, d2⟩ := hSw.all.2.2.2.2.1.three; go_simp; (try with_reducible rfl)
    simp only [Act.put, List.getElem_toArray, List.getElem_cons_succ, List.getElem_cons_zero, List.setIfInBounds_toArray, List.set_cons_succ, List.set_cons_zero]
    refine wpAnyH_ready (rs := [8]) (by kernel_rfl) (by simp) ?_
    refine AllReadyH.cons (o := _) rfl (fun K hK => ?_) AllReadyH.nil
    go_simp
    go_at_call 63; refine (CR.out _).mono ?_; rintro e V31 ⟨rfl, hb⟩
    go_wp2_with fail
    have hB := HB.out.call hb
    refine hK.out _ _ (hB) (fun hHeld => ?_)
    have HB := Lib.hid hB
    clear hK K hB hb
    simp only [Act.put, List.getElem_toArray, List.getElem_cons_succ, List.getElem_cons_zero, List.setIfInBounds_toArray, List.set_cons_succ, List.set_cons_zero]
    refine wpAnyH_take (i := 9) (oi := _) (v := ?_) rfl (by kernel_rfl) (by kernel_rfl) (by kernel_rfl) (fun _ _ _ h => h) (Or.inl ⟨by kernel_rfl, ?_⟩) (by assumption) ?_
    rotate_left 1
    · intro W hSw; obtain ⟨e0, e1⟩ := hSw.all.1.two; obtain ⟨d0, d1, d2⟩ := hSw.all.2.2.2.2.1.three; go_simp; (try with_reducible rfl)
    simp only [Act.put, List.getElem_toArray, List.getElem_cons_succ, List.getElem_cons_zero, List.setIfInBounds_toArray, List.set_cons_succ, List.set_cons_zero]
    refine wpAnyH_take (i := 10) (oi := _) (v := ?_) rfl (by kernel_rfl) (by kernel_rfl) (by kernel_rfl) (fun _ _ _ h => h) (Or.inl ⟨by kernel_rfl, ?_⟩) (by assumption) ?_
    rotate_left 1
    · intro W hSw; obtain ⟨e0, e1⟩ := hSw.all.1.two; obtain ⟨d0, d1, d2⟩ := hSw.all.2.2.2.2.1.three; go_simp; (try with_reducible rfl)
    simp only [Act.put, List.getElem_toArray, List.getElem_cons_succ, List.getElem_cons_zero, List.setIfInBounds_toArray, List.set_cons_succ, List.set_cons_zero]
    refine wpAnyH_take (i := 11) (oi := _) (v := ?_) rfl (by kernel_rfl) (by kernel_rfl) (by kernel_rfl) (fun _ _ _ h => h) (Or.inl ⟨by kernel_rfl, ?_⟩) (by assumption) ?_
    rotate_left 1
    · intro W hSw; obtain ⟨e0, e1⟩ := hSw.all.1.two; obtain ⟨d0, d1, d2⟩ := hSw.all.2.2.2.2.1.three; go_simp; (try with_reducible rfl)
    simp only [Act.put, List.getElem_toArray, List.getElem_cons_succ, List.getElem_cons_zero, List.setIfInBounds_toArray, List.set_cons_succ, List.set_cons_zero]
    refine wpAnyH_done (by kernel_rfl) ?_ _
    refine NoPanic.normal ?_
    go_upto_region 4 with fail
    have hb : HL w ((w.heap.size + 1 + 1, scT, z4) :: [(g, tnT, #[uv t.1, uv t.2]), (p, spT, spC a.2), (w.heap.size + 1, scT, sC a), (w.heap.size, opT, opC 96)]) V31 := ⟨⟨HB.out.all.2.1, HB.out.all.2.2.1, HB.out.all.1, HB.out.all.2.2.2⟩, HB.out.below⟩
    have HNE : Hid (∀ b' ∈ [(g, tnT, #[uv t.1, uv t.2]), (p, spT, spC a.2), (w.heap.size + 1, scT, sC a), (w.heap.size, opT, opC 96)], b'.1 ≠ w.heap.size + 1 + 1) :=
      HLs.apart hb.all.1 hb.all.2 (by intro b' hb'; simp only [List.mem_cons, List.not_mem_nil, or_false] at hb'; rcases hb' with rfl | rfl | rfl | rfl; exact Or.inr (show tnT ≠ scT by decide); exact Or.inr (show spT ≠ scT by decide); exact Or.inl (by show w.heap.size + 1 ≠ _; omega); exact Or.inl (by show w.heap.size ≠ _; omega))
    clear HB
    have hb := hb.drew
    refine wp_region_noPanic ?_
    refine wp_region_held_drew (S := HL w [(g, tnT, #[uv t.1, uv t.2]), (p, spT, spC a.2), (w.heap.size + 1, scT, sC a), (w.heap.size, opT, opC 96)]) (by kernel_rfl) hb.tail (fun hHeld => ?_)
    change wpAnyH _ _ _ _ _ 7 #[false, false, false, false, false, false, false] _ _
    have HB := Lib.hid hb
    clear hb
    generalize V31.drew = we at *
    refine wpAnyH_take (i := 0) (oi := _) (v := ?_) rfl (by kernel_rfl) (by kernel_rfl) (by kernel_rfl) (fun _ _ _ h => h) (Or.inl ⟨by kernel_rfl, ?_⟩) (by assumption) ?_
    rotate_left 1
    · intro W hSw; obtain ⟨e0, e1⟩ := hSw.all.2.1.two; obtain ⟨t0, t1⟩ := hSw.all.1.two; go_simp; (try with_reducible rfl)
    simp only [Act.put, List.getElem_toArray, List.getElem_cons_succ, List.getElem_cons_zero, List.setIfInBounds_toArray, List.set_cons_succ, List.set_cons_zero]
    refine wpAnyH_take (i := 1) (oi := _) (v := ?_) rfl (by kernel_rfl) (by kernel_rfl) (by kernel_rfl) (fun _ _ _ h => h) (Or.inl ⟨by kernel_rfl, ?_⟩) (by assumption) ?_
    rotate_left 1
    · intro W hSw; obtain ⟨e0, e1⟩ := hSw.all.2.1.two; obtain ⟨t0, t1⟩ := hSw.all.1.two; go_simp; (try with_reducible rfl)
    simp only [Act.put, List.getElem_toArray, List.getElem_cons_succ, List.getElem_cons_zero, List.setIfInBounds_toArray, List.set_cons_succ, List.set_cons_zero]
    refine wpAnyH_take (i := 2) (oi := _) (v := ?_) rfl (by kernel_rfl) (by kernel_rfl) (by kernel_rfl) (fun _ _ _ h => h) (Or.inl ⟨by kernel_rfl, ?_⟩) (by assumption) ?_
    rotate_left 1
    · intro W hSw; obtain ⟨e0, e1⟩ := hSw.all.2.1.two; obtain ⟨t0, t1⟩ := hSw.all.1.two; go_simp; (try with_reducible rfl)
    simp only [Act.put, List.getElem_toArray, List.getElem_cons_succ, List.getElem_cons_zero, List.setIfInBounds_toArray, List.set_cons_succ, List.set_cons_zero]
    refine wpAnyH_ready (rs := [3]) (by kernel_rfl) (by simp) ?_
    refine AllReadyH.cons (o := _) rfl (fun K hK => ?_) AllReadyH.nil
    go_simp
    go_at_call 66; refine (CA.out _).mono ?_; rintro e V51 ⟨rfl, hb⟩
    go_wp2_with fail
    have hB := HB.out.call hb
    refine hK.out _ _ (hB.tail) (fun hHeld => ?_)
    have HB := Lib.hid hB
    clear hK K hB hb
    simp only [Act.put, List.getElem_toArray, List.getElem_cons_succ, List.getElem_cons_zero, List.setIfInBounds_toArray, List.set_cons_succ, List.set_cons_zero]
    refine wpAnyH_ready (rs := [4]) (by kernel_rfl) (by simp) ?_
    refine AllReadyH.cons (o := _) rfl (fun K hK => ?_) AllReadyH.nil
    go_simp
    go_at_call 64; refine (CB2.out _).mono ?_; rintro e V52 ⟨rfl, hb⟩
    go_wp2_with fail
    have hB := HB.out.call hb
    refine hK.out _ _ (hB.tail) (fun hHeld => ?_)
    have HB := Lib.hid hB
    clear hK K hB hb
    simp only [Act.put, List.getElem_toArray, List.getElem_cons_succ, List.getElem_cons_zero, List.setIfInBounds_toArray, List.set_cons_succ, List.set_cons_zero]
    refine wpAnyH_ready (rs := [5]) (by kernel_rfl) (by simp) ?_
    refine AllReadyH.cons (o := _) rfl (fun K hK => ?_) AllReadyH.nil
    go_simp
    go_at_call 32; refine (CW.out _).mono ?_; rintro e V53 ⟨rfl, hb⟩
    go_wp2_with fail
    have hB := HB.out.call hb
    refine hK.out _ _ (hB.tail) (fun hHeld => ?_)
    have HB := Lib.hid hB
    clear hK K hB hb
    simp only [Act.put, List.getElem_toArray, List.getElem_cons_succ, List.getElem_cons_zero, List.setIfInBounds_toArray, List.set_cons_succ, List.set_cons_zero]
    refine wpAnyH_ready (rs := [6]) (by kernel_rfl) (by simp) ?_
    refine AllReadyH.cons (o := _) rfl (fun K hK => ?_) AllReadyH.nil
    obtain ⟨r0, r1, r2, r3⟩ := HB.out.all.1.soft4
    obtain ⟨z0, z1, z2, z3⟩ := HB.out.all.1.four
    go_simp
    have hB := HB.out.out4 HNE.out (by omega) U
    dsimp only [st4] at hB
    generalize (((V53.setCell ⟨w.heap.size + 1 + 1, 0, none⟩ (uv (U).1.1)).setCell ⟨w.heap.size + 1 + 1, 1, none⟩ (uv (U).1.2)).setCell ⟨w.heap.size + 1 + 1, 2, none⟩ (uv (U).2.1)).setCell ⟨w.heap.size + 1 + 1, 3, none⟩ (uv (U).2.2) = V54 at *
    clear r0 r1 r2 r3 z0 z1 z2 z3
    refine hK.out _ _ (hB.tail) (fun hHeld => ?_)
    have HB := Lib.hid hB
    clear hK K hB
    simp only [Act.put, List.getElem_toArray, List.getElem_cons_succ, List.getElem_cons_zero, List.setIfInBounds_toArray, List.set_cons_succ, List.set_cons_zero]
    refine wpAnyH_done (by kernel_rfl) ?_ _
    refine NoPanic.normal ?_
    go_wp2_with fail
    refine bodyPost_ret (results_cell_row rfl _ _ (w.heap.size + 1 + 1) scT _ (0, 0) _ rfl HB.out.all.1 Tryd.underlying26 rfl (by kernel_rfl)) rfl ?_
    exact ⟨rfl, HB.out.below⟩
end Go.Proofs.YtjkgbghikhbecaaDoor
