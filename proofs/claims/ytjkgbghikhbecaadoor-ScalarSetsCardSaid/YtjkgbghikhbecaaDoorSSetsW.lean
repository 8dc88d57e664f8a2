/-
  The law ScalarSets, walked.
-/
import Derived.Test.YtjkgbghikhbecaaDoorSProg
import Derived.Deep.RegionHeld3
import Derived.Deep.CutRange
namespace Go.Proofs.YtjkgbghikhbecaaDoor
open Go Go.RowKit Go.Maps Tn
set_option linter.unusedVariables false
set_option linter.unusedSimpArgs false
set_option maxRecDepth 100000
abbrev s2T : TypeId := 36
abbrev s2 (a b : SC) : Array Value := #[uv a.1.1, uv a.1.2, uv a.2.1, uv a.2.2, uv b.1.1, uv b.1.2, uv b.2.1, uv b.2.2]
theorem sc_self (X : SC) : ∀ W, (binOp .eql scT (.agg #[uv X.1.1, uv X.1.2, uv X.2.1, uv X.2.2]) (.agg #[uv X.1.1, uv X.1.2, uv X.2.1, uv X.2.2])).run Tryd.prog W = .ok (.bool true) W := fun W => (sc_eq X X W).trans (by simp)
abbrev SR (w : World) (a b : SC) (W : World) : Prop := W.cell? ⟨w.heap.size, 0, none⟩ = some (uv a.1.1) ∧ W.cell? ⟨w.heap.size, 1, none⟩ = some (uv a.1.2) ∧ W.cell? ⟨w.heap.size, 2, none⟩ = some (uv a.2.1) ∧ W.cell? ⟨w.heap.size, 3, none⟩ = some (uv a.2.2) ∧ W.cell? ⟨w.heap.size, 4, none⟩ = some (uv b.1.1) ∧ W.cell? ⟨w.heap.size, 5, none⟩ = some (uv b.1.2) ∧ W.cell? ⟨w.heap.size, 6, none⟩ = some (uv b.2.1) ∧ W.cell? ⟨w.heap.size, 7, none⟩ = some (uv b.2.2)
theorem Blk.eight {W : World} {g : Nat} {t : TypeId} {a b : SC} (h : Blk W g t (s2 a b)) : (W.cell? ⟨g, 0, none⟩ = some (uv a.1.1) ∧ W.cell? ⟨g, 1, none⟩ = some (uv a.1.2) ∧ W.cell? ⟨g, 2, none⟩ = some (uv a.2.1) ∧ W.cell? ⟨g, 3, none⟩ = some (uv a.2.2) ∧ W.cell? ⟨g, 4, none⟩ = some (uv b.1.1) ∧ W.cell? ⟨g, 5, none⟩ = some (uv b.1.2) ∧ W.cell? ⟨g, 6, none⟩ = some (uv b.2.1) ∧ W.cell? ⟨g, 7, none⟩ = some (uv b.2.2)) := ⟨h.cell 0, h.cell 1, h.cell 2, h.cell 3, h.cell 4, h.cell 5, h.cell 6, h.cell 7⟩
abbrev put4 (W : World) (i : Nat) (u : SC) : World := (((W.setCell ⟨i, 0, none⟩ (uv u.1.1)).setCell ⟨i, 1, none⟩ (uv u.1.2)).setCell ⟨i, 2, none⟩ (uv u.2.1)).setCell ⟨i, 3, none⟩ (uv u.2.2)
section
variable {w W : World} {i j l : Nat} {t : TypeId} {cn cm : Array Value}
theorem far4 {g k : Nat} {t : TypeId} {cs : Array Value} (h : Blk W g t cs) (hk : g ≠ k) (u : SC) : Blk (put4 W k u) g t cs := (((h.far (p := ⟨k, 0, none⟩) hk _).far (p := ⟨k, 1, none⟩) hk _).far (p := ⟨k, 2, none⟩) hk _).far (p := ⟨k, 3, none⟩) hk _
theorem fill4 {g : Nat} (h : Blk W g scT z4) (u : SC) : Blk (put4 W g u) g scT (sC u) := by simpa using (((h.set_ 0 (uv u.1.1)).set_ 1 (uv u.1.2)).set_ 2 (uv u.2.1)).set_ 3 (uv u.2.2)
theorem below4 {w0 : World} (h : Below w0.heap.size w0 W) (hw : w0.heap.size ≤ i) (u : SC) : Below w0.heap.size w0 (put4 W i u) := (((h.setCell (p := ⟨i, 0, none⟩) hw _).setCell (p := ⟨i, 1, none⟩) hw _).setCell (p := ⟨i, 2, none⟩) hw _).setCell (p := ⟨i, 3, none⟩) hw _
theorem HL.store1 (h : HL w [(i, scT, z4), (j, scT, cn), (l, s2T, cm)] W) (hij : i ≠ j) (hw : w.heap.size ≤ i) (u : SC) : HL w [(i, scT, sC u), (j, scT, cn), (l, s2T, cm)] (put4 W i u) := by
  obtain ⟨⟨h1, h2, h4, _⟩, hb⟩ := h
  exact ⟨⟨fill4 h1 u, far4 h2 hij.symm u, far4 h4 (h4.ne_ h1 (show s2T ≠ scT by decide)) u, trivial⟩, below4 hb hw u⟩
theorem HL.store2 (h : HL w [(j, scT, cn), (i, scT, z4), (l, s2T, cm)] W) (hij : i ≠ j) (hw : w.heap.size ≤ i) (u : SC) : HL w [(j, scT, cn), (i, scT, sC u), (l, s2T, cm)] (put4 W i u) := by
  obtain ⟨⟨h2, h1, h4, _⟩, hb⟩ := h
  exact ⟨⟨far4 h2 hij.symm u, fill4 h1 u, far4 h4 (h4.ne_ h1 (show s2T ≠ scT by decide)) u, trivial⟩, below4 hb hw u⟩
theorem HL.swap {b1 b2 : Nat × TypeId × Array Value} {L : List (Nat × TypeId × Array Value)} (h : HL w (b1 :: b2 :: L) W) : HL w (b2 :: b1 :: L) W := ⟨⟨h.all.2.1, h.all.1, h.all.2.2⟩, h.below⟩
end
theorem in_self (a : SC) : inS a a := ⟨by unfold tIn; simp, Nat.le_refl _, Nat.le_refl _⟩
theorem in_unknown (a : SC) : inS ((0, ~~~0), 0, ~~~0) a := ⟨in_all _, Nat.zero_le _, by have := a.2.2.isLt; simp; omega⟩
set_option maxHeartbeats 8000000 in
theorem sets_any (a b : SC) (n : B64) (w : World) (hE : Edges w) : Calls Tryd.prog 4 #[.agg (s2 a b), uv n] w fun e w' => e = .returned (.bool true) ∧ Below w.heap.size w w' := by
  have F := Lib.hid ((HL.start w).push s2T (s2 a b))
  have CA := Lib.hid (fun W (hb : Below w.heap.size w W) => awake16 W (hE.below hb))
  clear hE
  have CM := Lib.hid wide_any
  obtain ⟨A, hA⟩ : ∃ A, wideV a = A := ⟨_, rfl⟩
  obtain ⟨B, hB⟩ : ∃ B, wideV b = B := ⟨_, rfl⟩
  have CM : Hid (∀ (s : SC) W, Calls Tryd.prog 9 #[sv s] W fun e w' => e = .returned (sv (wideV s)) ∧ Below W.heap.size W w') := CM.out
  go_enter Tryd.func4, Tryd.ntmps4
  go_upto_region 1 with fail
  have hb := F.out
  clear F
  generalize w.alloc (.cells #[uv a.1.1, uv a.1.2, uv a.2.1, uv a.2.2, uv b.1.1, uv b.1.2, uv b.2.1, uv b.2.2] s2T) = wz at *
  go_cut [5, 6] from 7 to 50 (fun s5 s6 wc => ∃ p q : Nat, s5 = .pointer (some ⟨p, 0, none⟩) ∧ s6 = .pointer (some ⟨q, 0, none⟩) ∧ HL w [(q, scT, sC B), (p, scT, sC A), (w.heap.size, s2T, s2 a b)] wc)
  case first =>
    have hb := hb.keeps (keeps_drew wz)
    refine wp_region_noPanic ?_
    refine wp_region_held_drew (S := SR w a b) (by kernel_rfl) hb.all.1.eight (fun hHeld => ?_)
    change wpAnyH _ _ _ _ _ 10 #[false, false, false, false, false, false, false, false, false, false] _ _
    have HB := Lib.hid hb
    clear hb
    generalize wz.drew = wd at *
    refine wpAnyH_take (i := 0) (oi := _) (v := ?_) rfl (by kernel_rfl) (by kernel_rfl) (by kernel_rfl) (fun _ _ _ h => h) (Or.inl ⟨by kernel_rfl, ?_⟩) (by assumption) ?_
    rotate_left 1
    · intro W hSw; obtain ⟨s0, s1, s2, s3, s4, s5, s6, s7⟩ := hSw; go_simp; (try with_reducible rfl)
    simp only [Act.put, List.getElem_toArray, List.getElem_cons_succ, List.getElem_cons_zero, List.setIfInBounds_toArray, List.set_cons_succ, List.set_cons_zero]
    refine wpAnyH_take (i := 1) (oi := _) (v := ?_) rfl (by kernel_rfl) (by kernel_rfl) (by kernel_rfl) (fun _ _ _ h => h) (Or.inl ⟨by kernel_rfl, ?_⟩) (by assumption) ?_
    rotate_left 1
    · intro W hSw; obtain ⟨s0, s1, s2, s3, s4, s5, s6, s7⟩ := hSw; go_simp; (try with_reducible rfl)
    simp only [Act.put, List.getElem_toArray, List.getElem_cons_succ, List.getElem_cons_zero, List.setIfInBounds_toArray, List.set_cons_succ, List.set_cons_zero]
    refine wpAnyH_take (i := 3) (oi := _) (v := ?_) rfl (by kernel_rfl) (by kernel_rfl) (by kernel_rfl) (fun _ _ _ h => h) (Or.inl ⟨by kernel_rfl, ?_⟩) (by assumption) ?_
    rotate_left 1
    · intro W hSw; obtain ⟨s0, s1, s2, s3, s4, s5, s6, s7⟩ := hSw; go_simp; (try with_reducible rfl)
    simp only [Act.put, List.getElem_toArray, List.getElem_cons_succ, List.getElem_cons_zero, List.setIfInBounds_toArray, List.set_cons_succ, List.set_cons_zero]
    refine wpAnyH_take (i := 4) (oi := _) (v := ?_) rfl (by kernel_rfl) (by kernel_rfl) (by kernel_rfl) (fun _ _ _ h => h) (Or.inl ⟨by kernel_rfl, ?_⟩) (by assumption) ?_
    rotate_left 1
    · intro W hSw; obtain ⟨s0, s1, s2, s3, s4, s5, s6, s7⟩ := hSw; go_simp; (try with_reducible rfl)
    simp only [Act.put, List.getElem_toArray, List.getElem_cons_succ, List.getElem_cons_zero, List.setIfInBounds_toArray, List.set_cons_succ, List.set_cons_zero]
    refine wpAnyH_ready (rs := [2, 6, 7]) (by kernel_rfl) (by simp) ?_
    refine AllReadyH.cons (o := _) rfl (fun K hK => ?_) (AllReadyH.cons (o := _) rfl (fun K hK => ?_) (AllReadyH.cons (o := _) rfl (fun K hK => ?_) AllReadyH.nil))
    · go_simp
      go_at_call 9; refine (CM.out _ _).mono ?_; rintro e W1 ⟨rfl, hb⟩
      go_wp2_with fail
      have hB := HB.out.call hb
      refine hK.out _ _ hB.all.1.eight (fun hHeld => ?_)
      have HB := Lib.hid hB
      clear hK K hB
      simp only [Act.put, List.getElem_toArray, List.getElem_cons_succ, List.getElem_cons_zero, List.setIfInBounds_toArray, List.set_cons_succ, List.set_cons_zero]
      refine wpAnyH_ready (rs := [5, 6, 7]) (by kernel_rfl) (by simp) ?_
      refine AllReadyH.cons (o := _) rfl (fun K hK => ?_) (AllReadyH.cons (o := _) rfl (fun K hK => ?_) (AllReadyH.cons (o := _) rfl (fun K hK => ?_) AllReadyH.nil))
      · go_simp
        go_at_call 9; refine (CM.out _ _).mono ?_; rintro e W2 ⟨rfl, hb⟩
        go_wp2_with fail
        have hB := HB.out.call hb
        refine hK.out _ _ hB.all.1.eight (fun hHeld => ?_)
        have HB := Lib.hid hB
        clear hK K hB
        simp only [Act.put, List.getElem_toArray, List.getElem_cons_succ, List.getElem_cons_zero, List.setIfInBounds_toArray, List.set_cons_succ, List.set_cons_zero]
        refine wpAnyH_ready (rs := [6, 7]) (by kernel_rfl) (by simp) ?_
        refine AllReadyH.cons (o := _) rfl (fun K hK => ?_) (AllReadyH.cons (o := _) rfl (fun K hK => ?_) AllReadyH.nil)
        · go_simp
          have hgp := Lib.hid HB.out.below.size
          have hB := HB.out.push scT z4
          generalize hge : W2.heap.size = p at *
          clear hge
          generalize W2.alloc (.cells #[.int .u64 0, .int .u64 0, .int .u64 0, .int .u64 0] scT) = W3 at *
          refine hK.out _ _ hB.all.2.1.eight (fun hHeld => ?_)
          have HB := Lib.hid hB
          clear hK K hB
          simp only [Act.put, List.getElem_toArray, List.getElem_cons_succ, List.getElem_cons_zero, List.setIfInBounds_toArray, List.set_cons_succ, List.set_cons_zero]
          refine wpAnyH_ready (rs := [7]) (by kernel_rfl) (by simp) ?_
          refine AllReadyH.cons (o := _) rfl (fun K hK => ?_) AllReadyH.nil
          have hlt := HB.out.all.1.lt
          go_simp
          have hgq := Lib.hid HB.out.below.size
          have hB := HB.out.push scT z4
          generalize hge : W3.heap.size = q at *
          clear hge
          generalize W3.alloc (.cells #[.int .u64 0, .int .u64 0, .int .u64 0, .int .u64 0] scT) = W4 at *
          have HLT := Lib.hid hlt
          clear hlt
          refine hK.out _ _ hB.all.2.2.1.eight (fun hHeld => ?_)
          have HB := Lib.hid hB
          clear hK K hB
          simp only [Act.put, List.getElem_toArray, List.getElem_cons_succ, List.getElem_cons_zero, List.setIfInBounds_toArray, List.set_cons_succ, List.set_cons_zero]
          refine wpAnyH_ready (rs := [8]) (by kernel_rfl) (by simp) ?_
          refine AllReadyH.cons (o := _) rfl (fun K hK => ?_) AllReadyH.nil
          obtain ⟨x0, x1, x2, x3⟩ := HB.out.all.2.1.four
          obtain ⟨f0, f1, f2, f3⟩ := HB.out.all.2.1.soft4
          go_simp
          have hB := HL.store2 HB.out (by have := HLT.out; omega) hgp.out A
          unfold put4 at hB
          generalize (((W4.setCell ⟨p, 0, none⟩ (uv A.1.1)).setCell ⟨p, 1, none⟩ (uv A.1.2)).setCell ⟨p, 2, none⟩ (uv A.2.1)).setCell ⟨p, 3, none⟩ (uv A.2.2) = W5 at *
          refine hK.out _ _ hB.all.2.2.1.eight (fun hHeld => ?_)
          have HB := Lib.hid hB
          clear hK K hB x0 x1 x2 x3 f0 f1 f2 f3
          simp only [Act.put, List.getElem_toArray, List.getElem_cons_succ, List.getElem_cons_zero, List.setIfInBounds_toArray, List.set_cons_succ, List.set_cons_zero]
          refine wpAnyH_ready (rs := [9]) (by kernel_rfl) (by simp) ?_
          refine AllReadyH.cons (o := _) rfl (fun K hK => ?_) AllReadyH.nil
          obtain ⟨x0, x1, x2, x3⟩ := HB.out.all.1.four
          obtain ⟨f0, f1, f2, f3⟩ := HB.out.all.1.soft4
          go_simp
          have hB := HL.store1 HB.out (by have := HLT.out; omega) hgq.out B
          unfold put4 at hB
          generalize (((W5.setCell ⟨q, 0, none⟩ (uv B.1.1)).setCell ⟨q, 1, none⟩ (uv B.1.2)).setCell ⟨q, 2, none⟩ (uv B.2.1)).setCell ⟨q, 3, none⟩ (uv B.2.2) = W6 at *
          refine hK.out _ _ hB.all.2.2.1.eight (fun hHeld => ?_)
          have HB := Lib.hid hB
          clear hK K hB x0 x1 x2 x3 f0 f1 f2 f3
          simp only [Act.put, List.getElem_toArray, List.getElem_cons_succ, List.getElem_cons_zero, List.setIfInBounds_toArray, List.set_cons_succ, List.set_cons_zero]
          refine wpAnyH_done (by kernel_rfl) ?_ _
          refine NoPanic.normal ?_
          go_wp2_with fail
          go_meet
          case rel => exact ⟨p, q, rfl, rfl, HB.out⟩
        · go_simp
          have hgq := Lib.hid HB.out.below.size
          have hB := HB.out.push scT z4
          generalize hge : W2.heap.size = q at *
          clear hge
          generalize W2.alloc (.cells #[.int .u64 0, .int .u64 0, .int .u64 0, .int .u64 0] scT) = W7 at *
          refine hK.out _ _ hB.all.2.1.eight (fun hHeld => ?_)
          have HB := Lib.hid hB
          clear hK K hB
          simp only [Act.put, List.getElem_toArray, List.getElem_cons_succ, List.getElem_cons_zero, List.setIfInBounds_toArray, List.set_cons_succ, List.set_cons_zero]
          refine wpAnyH_ready (rs := [6]) (by kernel_rfl) (by simp) ?_
          refine AllReadyH.cons (o := _) rfl (fun K hK => ?_) AllReadyH.nil
          have hlt := HB.out.all.1.lt
          go_simp
          have hgp := Lib.hid HB.out.below.size
          have hB := HB.out.push scT z4
          generalize hge : W7.heap.size = p at *
          clear hge
          generalize W7.alloc (.cells #[.int .u64 0, .int .u64 0, .int .u64 0, .int .u64 0] scT) = W8 at *
          have HLT := Lib.hid hlt
          clear hlt
          refine hK.out _ _ hB.all.2.2.1.eight (fun hHeld => ?_)
          have HB := Lib.hid hB
          clear hK K hB
          simp only [Act.put, List.getElem_toArray, List.getElem_cons_succ, List.getElem_cons_zero, List.setIfInBounds_toArray, List.set_cons_succ, List.set_cons_zero]
          refine wpAnyH_ready (rs := [8]) (by kernel_rfl) (by simp) ?_
          refine AllReadyH.cons (o := _) rfl (fun K hK => ?_) AllReadyH.nil
          obtain ⟨x0, x1, x2, x3⟩ := HB.out.all.1.four
          obtain ⟨f0, f1, f2, f3⟩ := HB.out.all.1.soft4
          go_simp
          have hB := HL.store1 HB.out (by have := HLT.out; omega) hgp.out A
          unfold put4 at hB
          generalize (((W8.setCell ⟨p, 0, none⟩ (uv A.1.1)).setCell ⟨p, 1, none⟩ (uv A.1.2)).setCell ⟨p, 2, none⟩ (uv A.2.1)).setCell ⟨p, 3, none⟩ (uv A.2.2) = W9 at *
          refine hK.out _ _ hB.all.2.2.1.eight (fun hHeld => ?_)
          have HB := Lib.hid hB
          clear hK K hB x0 x1 x2 x3 f0 f1 f2 f3
          simp only [Act.put, List.getElem_toArray, List.getElem_cons_succ, List.getElem_cons_zero, List.setIfInBounds_toArray, List.set_cons_succ, List.set_cons_zero]
          refine wpAnyH_ready (rs := [9]) (by kernel_rfl) (by simp) ?_
          refine AllReadyH.cons (o := _) rfl (fun K hK => ?_) AllReadyH.nil
          obtain ⟨x0, x1, x2, x3⟩ := HB.out.all.2.1.four
          obtain ⟨f0, f1, f2, f3⟩ := HB.out.all.2.1.soft4
          go_simp
          have hB := HL.store2 HB.out (by have := HLT.out; omega) hgq.out B
          unfold put4 at hB
          generalize (((W9.setCell ⟨q, 0, none⟩ (uv B.1.1)).setCell ⟨q, 1, none⟩ (uv B.1.2)).setCell ⟨q, 2, none⟩ (uv B.2.1)).setCell ⟨q, 3, none⟩ (uv B.2.2) = W10 at *
          refine hK.out _ _ hB.all.2.2.1.eight (fun hHeld => ?_)
          have HB := Lib.hid hB
          clear hK K hB x0 x1 x2 x3 f0 f1 f2 f3
          simp only [Act.put, List.getElem_toArray, List.getElem_cons_succ, List.getElem_cons_zero, List.setIfInBounds_toArray, List.set_cons_succ, List.set_cons_zero]
          refine wpAnyH_done (by kernel_rfl) ?_ _
          refine NoPanic.normal ?_
          go_wp2_with fail
          go_meet
          case rel => exact ⟨p, q, rfl, rfl, HB.out.swap⟩
      · go_simp
        have hgp := Lib.hid HB.out.below.size
        have hB := HB.out.push scT z4
        generalize hge : W1.heap.size = p at *
        clear hge
        generalize W1.alloc (.cells #[.int .u64 0, .int .u64 0, .int .u64 0, .int .u64 0] scT) = W11 at *
        refine hK.out _ _ hB.all.2.1.eight (fun hHeld => ?_)
        have HB := Lib.hid hB
        clear hK K hB
        simp only [Act.put, List.getElem_toArray, List.getElem_cons_succ, List.getElem_cons_zero, List.setIfInBounds_toArray, List.set_cons_succ, List.set_cons_zero]
        refine wpAnyH_ready (rs := [5, 7]) (by kernel_rfl) (by simp) ?_
        refine AllReadyH.cons (o := _) rfl (fun K hK => ?_) (AllReadyH.cons (o := _) rfl (fun K hK => ?_) AllReadyH.nil)
        · go_simp
          go_at_call 9; refine (CM.out _ _).mono ?_; rintro e W12 ⟨rfl, hb⟩
          go_wp2_with fail
          have hB := HB.out.call hb
          refine hK.out _ _ hB.all.2.1.eight (fun hHeld => ?_)
          have HB := Lib.hid hB
          clear hK K hB
          simp only [Act.put, List.getElem_toArray, List.getElem_cons_succ, List.getElem_cons_zero, List.setIfInBounds_toArray, List.set_cons_succ, List.set_cons_zero]
          refine wpAnyH_ready (rs := [7]) (by kernel_rfl) (by simp) ?_
          refine AllReadyH.cons (o := _) rfl (fun K hK => ?_) AllReadyH.nil
          have hlt := HB.out.all.1.lt
          go_simp
          have hgq := Lib.hid HB.out.below.size
          have hB := HB.out.push scT z4
          generalize hge : W12.heap.size = q at *
          clear hge
          generalize W12.alloc (.cells #[.int .u64 0, .int .u64 0, .int .u64 0, .int .u64 0] scT) = W13 at *
          have HLT := Lib.hid hlt
          clear hlt
          refine hK.out _ _ hB.all.2.2.1.eight (fun hHeld => ?_)
          have HB := Lib.hid hB
          clear hK K hB
          simp only [Act.put, List.getElem_toArray, List.getElem_cons_succ, List.getElem_cons_zero, List.setIfInBounds_toArray, List.set_cons_succ, List.set_cons_zero]
          refine wpAnyH_ready (rs := [8]) (by kernel_rfl) (by simp) ?_
          refine AllReadyH.cons (o := _) rfl (fun K hK => ?_) AllReadyH.nil
          obtain ⟨x0, x1, x2, x3⟩ := HB.out.all.2.1.four
          obtain ⟨f0, f1, f2, f3⟩ := HB.out.all.2.1.soft4
          go_simp
          have hB := HL.store2 HB.out (by have := HLT.out; omega) hgp.out A
          unfold put4 at hB
          generalize (((W13.setCell ⟨p, 0, none⟩ (uv A.1.1)).setCell ⟨p, 1, none⟩ (uv A.1.2)).setCell ⟨p, 2, none⟩ (uv A.2.1)).setCell ⟨p, 3, none⟩ (uv A.2.2) = W14 at *
          refine hK.out _ _ hB.all.2.2.1.eight (fun hHeld => ?_)
          have HB := Lib.hid hB
          clear hK K hB x0 x1 x2 x3 f0 f1 f2 f3
          simp only [Act.put, List.getElem_toArray, List.getElem_cons_succ, List.getElem_cons_zero, List.setIfInBounds_toArray, List.set_cons_succ, List.set_cons_zero]
          refine wpAnyH_ready (rs := [9]) (by kernel_rfl) (by simp) ?_
          refine AllReadyH.cons (o := _) rfl (fun K hK => ?_) AllReadyH.nil
          obtain ⟨x0, x1, x2, x3⟩ := HB.out.all.1.four
          obtain ⟨f0, f1, f2, f3⟩ := HB.out.all.1.soft4
          go_simp
          have hB := HL.store1 HB.out (by have := HLT.out; omega) hgq.out B
          unfold put4 at hB
          generalize (((W14.setCell ⟨q, 0, none⟩ (uv B.1.1)).setCell ⟨q, 1, none⟩ (uv B.1.2)).setCell ⟨q, 2, none⟩ (uv B.2.1)).setCell ⟨q, 3, none⟩ (uv B.2.2) = W15 at *
          refine hK.out _ _ hB.all.2.2.1.eight (fun hHeld => ?_)
          have HB := Lib.hid hB
          clear hK K hB x0 x1 x2 x3 f0 f1 f2 f3
          simp only [Act.put, List.getElem_toArray, List.getElem_cons_succ, List.getElem_cons_zero, List.setIfInBounds_toArray, List.set_cons_succ, List.set_cons_zero]
          refine wpAnyH_done (by kernel_rfl) ?_ _
          refine NoPanic.normal ?_
          go_wp2_with fail
          go_meet
          case rel => exact ⟨p, q, rfl, rfl, HB.out⟩
        · have hlt := HB.out.all.1.lt
          go_simp
          have hgq := Lib.hid HB.out.below.size
          have hB := HB.out.push scT z4
          generalize hge : W11.heap.size = q at *
          clear hge
          generalize W11.alloc (.cells #[.int .u64 0, .int .u64 0, .int .u64 0, .int .u64 0] scT) = W16 at *
          have HLT := Lib.hid hlt
          clear hlt
          refine hK.out _ _ hB.all.2.2.1.eight (fun hHeld => ?_)
          have HB := Lib.hid hB
          clear hK K hB
          simp only [Act.put, List.getElem_toArray, List.getElem_cons_succ, List.getElem_cons_zero, List.setIfInBounds_toArray, List.set_cons_succ, List.set_cons_zero]
          refine wpAnyH_ready (rs := [5]) (by kernel_rfl) (by simp) ?_
          refine AllReadyH.cons (o := _) rfl (fun K hK => ?_) AllReadyH.nil
          go_simp
          go_at_call 9; refine (CM.out _ _).mono ?_; rintro e W17 ⟨rfl, hb⟩
          go_wp2_with fail
          have hB := HB.out.call hb
          refine hK.out _ _ hB.all.2.2.1.eight (fun hHeld => ?_)
          have HB := Lib.hid hB
          clear hK K hB
          simp only [Act.put, List.getElem_toArray, List.getElem_cons_succ, List.getElem_cons_zero, List.setIfInBounds_toArray, List.set_cons_succ, List.set_cons_zero]
          refine wpAnyH_ready (rs := [8]) (by kernel_rfl) (by simp) ?_
          refine AllReadyH.cons (o := _) rfl (fun K hK => ?_) AllReadyH.nil
          obtain ⟨x0, x1, x2, x3⟩ := HB.out.all.2.1.four
          obtain ⟨f0, f1, f2, f3⟩ := HB.out.all.2.1.soft4
          go_simp
          have hB := HL.store2 HB.out (by have := HLT.out; omega) hgp.out A
          unfold put4 at hB
          generalize (((W17.setCell ⟨p, 0, none⟩ (uv A.1.1)).setCell ⟨p, 1, none⟩ (uv A.1.2)).setCell ⟨p, 2, none⟩ (uv A.2.1)).setCell ⟨p, 3, none⟩ (uv A.2.2) = W18 at *
          refine hK.out _ _ hB.all.2.2.1.eight (fun hHeld => ?_)
          have HB := Lib.hid hB
          clear hK K hB x0 x1 x2 x3 f0 f1 f2 f3
          simp only [Act.put, List.getElem_toArray, List.getElem_cons_succ, List.getElem_cons_zero, List.setIfInBounds_toArray, List.set_cons_succ, List.set_cons_zero]
          refine wpAnyH_ready (rs := [9]) (by kernel_rfl) (by simp) ?_
          refine AllReadyH.cons (o := _) rfl (fun K hK => ?_) AllReadyH.nil
          obtain ⟨x0, x1, x2, x3⟩ := HB.out.all.1.four
          obtain ⟨f0, f1, f2, f3⟩ := HB.out.all.1.soft4
          go_simp
          have hB := HL.store1 HB.out (by have := HLT.out; omega) hgq.out B
          unfold put4 at hB
          generalize (((W18.setCell ⟨q, 0, none⟩ (uv B.1.1)).setCell ⟨q, 1, none⟩ (uv B.1.2)).setCell ⟨q, 2, none⟩ (uv B.2.1)).setCell ⟨q, 3, none⟩ (uv B.2.2) = W19 at *
          refine hK.out _ _ hB.all.2.2.1.eight (fun hHeld => ?_)
          have HB := Lib.hid hB
          clear hK K hB x0 x1 x2 x3 f0 f1 f2 f3
          simp only [Act.put, List.getElem_toArray, List.getElem_cons_succ, List.getElem_cons_zero, List.setIfInBounds_toArray, List.set_cons_succ, List.set_cons_zero]
          refine wpAnyH_done (by kernel_rfl) ?_ _
          refine NoPanic.normal ?_
          go_wp2_with fail
          go_meet
          case rel => exact ⟨p, q, rfl, rfl, HB.out⟩
      · go_simp
        have hgq := Lib.hid HB.out.below.size
        have hB := HB.out.push scT z4
        generalize hge : W1.heap.size = q at *
        clear hge
        generalize W1.alloc (.cells #[.int .u64 0, .int .u64 0, .int .u64 0, .int .u64 0] scT) = W20 at *
        refine hK.out _ _ hB.all.2.1.eight (fun hHeld => ?_)
        have HB := Lib.hid hB
        clear hK K hB
        simp only [Act.put, List.getElem_toArray, List.getElem_cons_succ, List.getElem_cons_zero, List.setIfInBounds_toArray, List.set_cons_succ, List.set_cons_zero]
        refine wpAnyH_ready (rs := [5, 6]) (by kernel_rfl) (by simp) ?_
        refine AllReadyH.cons (o := _) rfl (fun K hK => ?_) (AllReadyH.cons (o := _) rfl (fun K hK => ?_) AllReadyH.nil)
        · go_simp
          go_at_call 9; refine (CM.out _ _).mono ?_; rintro e W21 ⟨rfl, hb⟩
          go_wp2_with fail
          have hB := HB.out.call hb
          refine hK.out _ _ hB.all.2.1.eight (fun hHeld => ?_)
          have HB := Lib.hid hB
          clear hK K hB
          simp only [Act.put, List.getElem_toArray, List.getElem_cons_succ, List.getElem_cons_zero, List.setIfInBounds_toArray, List.set_cons_succ, List.set_cons_zero]
          refine wpAnyH_ready (rs := [6]) (by kernel_rfl) (by simp) ?_
          refine AllReadyH.cons (o := _) rfl (fun K hK => ?_) AllReadyH.nil
          have hlt := HB.out.all.1.lt
          go_simp
          have hgp := Lib.hid HB.out.below.size
          have hB := HB.out.push scT z4
          generalize hge : W21.heap.size = p at *
          clear hge
          generalize W21.alloc (.cells #[.int .u64 0, .int .u64 0, .int .u64 0, .int .u64 0] scT) = W22 at *
          have HLT := Lib.hid hlt
          clear hlt
          refine hK.out _ _ hB.all.2.2.1.eight (fun hHeld => ?_)
          have HB := Lib.hid hB
          clear hK K hB
          simp only [Act.put, List.getElem_toArray, List.getElem_cons_succ, List.getElem_cons_zero, List.setIfInBounds_toArray, List.set_cons_succ, List.set_cons_zero]
          refine wpAnyH_ready (rs := [8]) (by kernel_rfl) (by simp) ?_
          refine AllReadyH.cons (o := _) rfl (fun K hK => ?_) AllReadyH.nil
          obtain ⟨x0, x1, x2, x3⟩ := HB.out.all.1.four
          obtain ⟨f0, f1, f2, f3⟩ := HB.out.all.1.soft4
          go_simp
          have hB := HL.store1 HB.out (by have := HLT.out; omega) hgp.out A
          unfold put4 at hB
          generalize (((W22.setCell ⟨p, 0, none⟩ (uv A.1.1)).setCell ⟨p, 1, none⟩ (uv A.1.2)).setCell ⟨p, 2, none⟩ (uv A.2.1)).setCell ⟨p, 3, none⟩ (uv A.2.2) = W23 at *
          refine hK.out _ _ hB.all.2.2.1.eight (fun hHeld => ?_)
          have HB := Lib.hid hB
          clear hK K hB x0 x1 x2 x3 f0 f1 f2 f3
          simp only [Act.put, List.getElem_toArray, List.getElem_cons_succ, List.getElem_cons_zero, List.setIfInBounds_toArray, List.set_cons_succ, List.set_cons_zero]
          refine wpAnyH_ready (rs := [9]) (by kernel_rfl) (by simp) ?_
          refine AllReadyH.cons (o := _) rfl (fun K hK => ?_) AllReadyH.nil
          obtain ⟨x0, x1, x2, x3⟩ := HB.out.all.2.1.four
          obtain ⟨f0, f1, f2, f3⟩ := HB.out.all.2.1.soft4
          go_simp
          have hB := HL.store2 HB.out (by have := HLT.out; omega) hgq.out B
          unfold put4 at hB
          generalize (((W23.setCell ⟨q, 0, none⟩ (uv B.1.1)).setCell ⟨q, 1, none⟩ (uv B.1.2)).setCell ⟨q, 2, none⟩ (uv B.2.1)).setCell ⟨q, 3, none⟩ (uv B.2.2) = W24 at *
          refine hK.out _ _ hB.all.2.2.1.eight (fun hHeld => ?_)
          have HB := Lib.hid hB
          clear hK K hB x0 x1 x2 x3 f0 f1 f2 f3
          simp only [Act.put, List.getElem_toArray, List.getElem_cons_succ, List.getElem_cons_zero, List.setIfInBounds_toArray, List.set_cons_succ, List.set_cons_zero]
          refine wpAnyH_done (by kernel_rfl) ?_ _
          refine NoPanic.normal ?_
          go_wp2_with fail
          go_meet
          case rel => exact ⟨p, q, rfl, rfl, HB.out.swap⟩
        · have hlt := HB.out.all.1.lt
          go_simp
          have hgp := Lib.hid HB.out.below.size
          have hB := HB.out.push scT z4
          generalize hge : W20.heap.size = p at *
          clear hge
          generalize W20.alloc (.cells #[.int .u64 0, .int .u64 0, .int .u64 0, .int .u64 0] scT) = W25 at *
          have HLT := Lib.hid hlt
          clear hlt
          refine hK.out _ _ hB.all.2.2.1.eight (fun hHeld => ?_)
          have HB := Lib.hid hB
          clear hK K hB
          simp only [Act.put, List.getElem_toArray, List.getElem_cons_succ, List.getElem_cons_zero, List.setIfInBounds_toArray, List.set_cons_succ, List.set_cons_zero]
          refine wpAnyH_ready (rs := [5]) (by kernel_rfl) (by simp) ?_
          refine AllReadyH.cons (o := _) rfl (fun K hK => ?_) AllReadyH.nil
          go_simp
          go_at_call 9; refine (CM.out _ _).mono ?_; rintro e W26 ⟨rfl, hb⟩
          go_wp2_with fail
          have hB := HB.out.call hb
          refine hK.out _ _ hB.all.2.2.1.eight (fun hHeld => ?_)
          have HB := Lib.hid hB
          clear hK K hB
          simp only [Act.put, List.getElem_toArray, List.getElem_cons_succ, List.getElem_cons_zero, List.setIfInBounds_toArray, List.set_cons_succ, List.set_cons_zero]
          refine wpAnyH_ready (rs := [8]) (by kernel_rfl) (by simp) ?_
          refine AllReadyH.cons (o := _) rfl (fun K hK => ?_) AllReadyH.nil
          obtain ⟨x0, x1, x2, x3⟩ := HB.out.all.1.four
          obtain ⟨f0, f1, f2, f3⟩ := HB.out.all.1.soft4
          go_simp
          have hB := HL.store1 HB.out (by have := HLT.out; omega) hgp.out A
          unfold put4 at hB
          generalize (((W26.setCell ⟨p, 0, none⟩ (uv A.1.1)).setCell ⟨p, 1, none⟩ (uv A.1.2)).setCell ⟨p, 2, none⟩ (uv A.2.1)).setCell ⟨p, 3, none⟩ (uv A.2.2) = W27 at *
          refine hK.out _ _ hB.all.2.2.1.eight (fun hHeld => ?_)
          have HB := Lib.hid hB
          clear hK K hB x0 x1 x2 x3 f0 f1 f2 f3
          simp only [Act.put, List.getElem_toArray, List.getElem_cons_succ, List.getElem_cons_zero, List.setIfInBounds_toArray, List.set_cons_succ, List.set_cons_zero]
          refine wpAnyH_ready (rs := [9]) (by kernel_rfl) (by simp) ?_
          refine AllReadyH.cons (o := _) rfl (fun K hK => ?_) AllReadyH.nil
          obtain ⟨x0, x1, x2, x3⟩ := HB.out.all.2.1.four
          obtain ⟨f0, f1, f2, f3⟩ := HB.out.all.2.1.soft4
          go_simp
          have hB := HL.store2 HB.out (by have := HLT.out; omega) hgq.out B
          unfold put4 at hB
          generalize (((W27.setCell ⟨q, 0, none⟩ (uv B.1.1)).setCell ⟨q, 1, none⟩ (uv B.1.2)).setCell ⟨q, 2, none⟩ (uv B.2.1)).setCell ⟨q, 3, none⟩ (uv B.2.2) = W28 at *
          refine hK.out _ _ hB.all.2.2.1.eight (fun hHeld => ?_)
          have HB := Lib.hid hB
          clear hK K hB x0 x1 x2 x3 f0 f1 f2 f3
          simp only [Act.put, List.getElem_toArray, List.getElem_cons_succ, List.getElem_cons_zero, List.setIfInBounds_toArray, List.set_cons_succ, List.set_cons_zero]
          refine wpAnyH_done (by kernel_rfl) ?_ _
          refine NoPanic.normal ?_
          go_wp2_with fail
          go_meet
          case rel => exact ⟨p, q, rfl, rfl, HB.out.swap⟩
    · go_simp
      have hgp := Lib.hid HB.out.below.size
      have hB := HB.out.push scT z4
      generalize hge : wd.heap.size = p at *
      clear hge
      generalize wd.alloc (.cells #[.int .u64 0, .int .u64 0, .int .u64 0, .int .u64 0] scT) = W29 at *
      refine hK.out _ _ hB.all.2.1.eight (fun hHeld => ?_)
      have HB := Lib.hid hB
      clear hK K hB
      simp only [Act.put, List.getElem_toArray, List.getElem_cons_succ, List.getElem_cons_zero, List.setIfInBounds_toArray, List.set_cons_succ, List.set_cons_zero]
      refine wpAnyH_ready (rs := [2, 7]) (by kernel_rfl) (by simp) ?_
      refine AllReadyH.cons (o := _) rfl (fun K hK => ?_) (AllReadyH.cons (o := _) rfl (fun K hK => ?_) AllReadyH.nil)
      · go_simp
        go_at_call 9; refine (CM.out _ _).mono ?_; rintro e W30 ⟨rfl, hb⟩
        go_wp2_with fail
        have hB := HB.out.call hb
        refine hK.out _ _ hB.all.2.1.eight (fun hHeld => ?_)
        have HB := Lib.hid hB
        clear hK K hB
        simp only [Act.put, List.getElem_toArray, List.getElem_cons_succ, List.getElem_cons_zero, List.setIfInBounds_toArray, List.set_cons_succ, List.set_cons_zero]
        refine wpAnyH_ready (rs := [5, 7]) (by kernel_rfl) (by simp) ?_
        refine AllReadyH.cons (o := _) rfl (fun K hK => ?_) (AllReadyH.cons (o := _) rfl (fun K hK => ?_) AllReadyH.nil)
        · go_simp
          go_at_call 9; refine (CM.out _ _).mono ?_; rintro e W31 ⟨rfl, hb⟩
          go_wp2_with fail
          have hB := HB.out.call hb
          refine hK.out _ _ hB.all.2.1.eight (fun hHeld => ?_)
          have HB := Lib.hid hB
          clear hK K hB
          simp only [Act.put, List.getElem_toArray, List.getElem_cons_succ, List.getElem_cons_zero, List.setIfInBounds_toArray, List.set_cons_succ, List.set_cons_zero]
          refine wpAnyH_ready (rs := [7]) (by kernel_rfl) (by simp) ?_
          refine AllReadyH.cons (o := _) rfl (fun K hK => ?_) AllReadyH.nil
          have hlt := HB.out.all.1.lt
          go_simp
          have hgq := Lib.hid HB.out.below.size
          have hB := HB.out.push scT z4
          generalize hge : W31.heap.size = q at *
          clear hge
          generalize W31.alloc (.cells #[.int .u64 0, .int .u64 0, .int .u64 0, .int .u64 0] scT) = W32 at *
          have HLT := Lib.hid hlt
          clear hlt
          refine hK.out _ _ hB.all.2.2.1.eight (fun hHeld => ?_)
          have HB := Lib.hid hB
          clear hK K hB
          simp only [Act.put, List.getElem_toArray, List.getElem_cons_succ, List.getElem_cons_zero, List.setIfInBounds_toArray, List.set_cons_succ, List.set_cons_zero]
          refine wpAnyH_ready (rs := [8]) (by kernel_rfl) (by simp) ?_
          refine AllReadyH.cons (o := _) rfl (fun K hK => ?_) AllReadyH.nil
          obtain ⟨x0, x1, x2, x3⟩ := HB.out.all.2.1.four
          obtain ⟨f0, f1, f2, f3⟩ := HB.out.all.2.1.soft4
          go_simp
          have hB := HL.store2 HB.out (by have := HLT.out; omega) hgp.out A
          unfold put4 at hB
          generalize (((W32.setCell ⟨p, 0, none⟩ (uv A.1.1)).setCell ⟨p, 1, none⟩ (uv A.1.2)).setCell ⟨p, 2, none⟩ (uv A.2.1)).setCell ⟨p, 3, none⟩ (uv A.2.2) = W33 at *
          refine hK.out _ _ hB.all.2.2.1.eight (fun hHeld => ?_)
          have HB := Lib.hid hB
          clear hK K hB x0 x1 x2 x3 f0 f1 f2 f3
          simp only [Act.put, List.getElem_toArray, List.getElem_cons_succ, List.getElem_cons_zero, List.setIfInBounds_toArray, List.set_cons_succ, List.set_cons_zero]
          refine wpAnyH_ready (rs := [9]) (by kernel_rfl) (by simp) ?_
          refine AllReadyH.cons (o := _) rfl (fun K hK => ?_) AllReadyH.nil
          obtain ⟨x0, x1, x2, x3⟩ := HB.out.all.1.four
          obtain ⟨f0, f1, f2, f3⟩ := HB.out.all.1.soft4
          go_simp
          have hB := HL.store1 HB.out (by have := HLT.out; omega) hgq.out B
          unfold put4 at hB
          generalize (((W33.setCell ⟨q, 0, none⟩ (uv B.1.1)).setCell ⟨q, 1, none⟩ (uv B.1.2)).setCell ⟨q, 2, none⟩ (uv B.2.1)).setCell ⟨q, 3, none⟩ (uv B.2.2) = W34 at *
          refine hK.out _ _ hB.all.2.2.1.eight (fun hHeld => ?_)
          have HB := Lib.hid hB
          clear hK K hB x0 x1 x2 x3 f0 f1 f2 f3
          simp only [Act.put, List.getElem_toArray, List.getElem_cons_succ, List.getElem_cons_zero, List.setIfInBounds_toArray, List.set_cons_succ, List.set_cons_zero]
          refine wpAnyH_done (by kernel_rfl) ?_ _
          refine NoPanic.normal ?_
          go_wp2_with fail
          go_meet
          case rel => exact ⟨p, q, rfl, rfl, HB.out⟩
        · have hlt := HB.out.all.1.lt
          go_simp
          have hgq := Lib.hid HB.out.below.size
          have hB := HB.out.push scT z4
          generalize hge : W30.heap.size = q at *
          clear hge
          generalize W30.alloc (.cells #[.int .u64 0, .int .u64 0, .int .u64 0, .int .u64 0] scT) = W35 at *
          have HLT := Lib.hid hlt
          clear hlt
          refine hK.out _ _ hB.all.2.2.1.eight (fun hHeld => ?_)
          have HB := Lib.hid hB
          clear hK K hB
          simp only [Act.put, List.getElem_toArray, List.getElem_cons_succ, List.getElem_cons_zero, List.setIfInBounds_toArray, List.set_cons_succ, List.set_cons_zero]
          refine wpAnyH_ready (rs := [5]) (by kernel_rfl) (by simp) ?_
          refine AllReadyH.cons (o := _) rfl (fun K hK => ?_) AllReadyH.nil
          go_simp
          go_at_call 9; refine (CM.out _ _).mono ?_; rintro e W36 ⟨rfl, hb⟩
          go_wp2_with fail
          have hB := HB.out.call hb
          refine hK.out _ _ hB.all.2.2.1.eight (fun hHeld => ?_)
          have HB := Lib.hid hB
          clear hK K hB
          simp only [Act.put, List.getElem_toArray, List.getElem_cons_succ, List.getElem_cons_zero, List.setIfInBounds_toArray, List.set_cons_succ, List.set_cons_zero]
          refine wpAnyH_ready (rs := [8]) (by kernel_rfl) (by simp) ?_
          refine AllReadyH.cons (o := _) rfl (fun K hK => ?_) AllReadyH.nil
          obtain ⟨x0, x1, x2, x3⟩ := HB.out.all.2.1.four
          obtain ⟨f0, f1, f2, f3⟩ := HB.out.all.2.1.soft4
          go_simp
          have hB := HL.store2 HB.out (by have := HLT.out; omega) hgp.out A
          unfold put4 at hB
          generalize (((W36.setCell ⟨p, 0, none⟩ (uv A.1.1)).setCell ⟨p, 1, none⟩ (uv A.1.2)).setCell ⟨p, 2, none⟩ (uv A.2.1)).setCell ⟨p, 3, none⟩ (uv A.2.2) = W37 at *
          refine hK.out _ _ hB.all.2.2.1.eight (fun hHeld => ?_)
          have HB := Lib.hid hB
          clear hK K hB x0 x1 x2 x3 f0 f1 f2 f3
          simp only [Act.put, List.getElem_toArray, List.getElem_cons_succ, List.getElem_cons_zero, List.setIfInBounds_toArray, List.set_cons_succ, List.set_cons_zero]
          refine wpAnyH_ready (rs := [9]) (by kernel_rfl) (by simp) ?_
          refine AllReadyH.cons (o := _) rfl (fun K hK => ?_) AllReadyH.nil
          obtain ⟨x0, x1, x2, x3⟩ := HB.out.all.1.four
          obtain ⟨f0, f1, f2, f3⟩ := HB.out.all.1.soft4
          go_simp
          have hB := HL.store1 HB.out (by have := HLT.out; omega) hgq.out B
          unfold put4 at hB
          generalize (((W37.setCell ⟨q, 0, none⟩ (uv B.1.1)).setCell ⟨q, 1, none⟩ (uv B.1.2)).setCell ⟨q, 2, none⟩ (uv B.2.1)).setCell ⟨q, 3, none⟩ (uv B.2.2) = W38 at *
          refine hK.out _ _ hB.all.2.2.1.eight (fun hHeld => ?_)
          have HB := Lib.hid hB
          clear hK K hB x0 x1 x2 x3 f0 f1 f2 f3
          simp only [Act.put, List.getElem_toArray, List.getElem_cons_succ, List.getElem_cons_zero, List.setIfInBounds_toArray, List.set_cons_succ, List.set_cons_zero]
          refine wpAnyH_done (by kernel_rfl) ?_ _
          refine NoPanic.normal ?_
          go_wp2_with fail
          go_meet
          case rel => exact ⟨p, q, rfl, rfl, HB.out⟩
      · have hlt := HB.out.all.1.lt
        go_simp
        have hgq := Lib.hid HB.out.below.size
        have hB := HB.out.push scT z4
        generalize hge : W29.heap.size = q at *
        clear hge
        generalize W29.alloc (.cells #[.int .u64 0, .int .u64 0, .int .u64 0, .int .u64 0] scT) = W39 at *
        have HLT := Lib.hid hlt
        clear hlt
        refine hK.out _ _ hB.all.2.2.1.eight (fun hHeld => ?_)
        have HB := Lib.hid hB
        clear hK K hB
        simp only [Act.put, List.getElem_toArray, List.getElem_cons_succ, List.getElem_cons_zero, List.setIfInBounds_toArray, List.set_cons_succ, List.set_cons_zero]
        refine wpAnyH_ready (rs := [2]) (by kernel_rfl) (by simp) ?_
        refine AllReadyH.cons (o := _) rfl (fun K hK => ?_) AllReadyH.nil
        go_simp
        go_at_call 9; refine (CM.out _ _).mono ?_; rintro e W40 ⟨rfl, hb⟩
        go_wp2_with fail
        have hB := HB.out.call hb
        refine hK.out _ _ hB.all.2.2.1.eight (fun hHeld => ?_)
        have HB := Lib.hid hB
        clear hK K hB
        simp only [Act.put, List.getElem_toArray, List.getElem_cons_succ, List.getElem_cons_zero, List.setIfInBounds_toArray, List.set_cons_succ, List.set_cons_zero]
        refine wpAnyH_ready (rs := [5]) (by kernel_rfl) (by simp) ?_
        refine AllReadyH.cons (o := _) rfl (fun K hK => ?_) AllReadyH.nil
        go_simp
        go_at_call 9; refine (CM.out _ _).mono ?_; rintro e W41 ⟨rfl, hb⟩
        go_wp2_with fail
        have hB := HB.out.call hb
        refine hK.out _ _ hB.all.2.2.1.eight (fun hHeld => ?_)
        have HB := Lib.hid hB
        clear hK K hB
        simp only [Act.put, List.getElem_toArray, List.getElem_cons_succ, List.getElem_cons_zero, List.setIfInBounds_toArray, List.set_cons_succ, List.set_cons_zero]
        refine wpAnyH_ready (rs := [8]) (by kernel_rfl) (by simp) ?_
        refine AllReadyH.cons (o := _) rfl (fun K hK => ?_) AllReadyH.nil
        obtain ⟨x0, x1, x2, x3⟩ := HB.out.all.2.1.four
        obtain ⟨f0, f1, f2, f3⟩ := HB.out.all.2.1.soft4
        go_simp
        have hB := HL.store2 HB.out (by have := HLT.out; omega) hgp.out A
        unfold put4 at hB
        generalize (((W41.setCell ⟨p, 0, none⟩ (uv A.1.1)).setCell ⟨p, 1, none⟩ (uv A.1.2)).setCell ⟨p, 2, none⟩ (uv A.2.1)).setCell ⟨p, 3, none⟩ (uv A.2.2) = W42 at *
        refine hK.out _ _ hB.all.2.2.1.eight (fun hHeld => ?_)
        have HB := Lib.hid hB
        clear hK K hB x0 x1 x2 x3 f0 f1 f2 f3
        simp only [Act.put, List.getElem_toArray, List.getElem_cons_succ, List.getElem_cons_zero, List.setIfInBounds_toArray, List.set_cons_succ, List.set_cons_zero]
        refine wpAnyH_ready (rs := [9]) (by kernel_rfl) (by simp) ?_
        refine AllReadyH.cons (o := _) rfl (fun K hK => ?_) AllReadyH.nil
        obtain ⟨x0, x1, x2, x3⟩ := HB.out.all.1.four
        obtain ⟨f0, f1, f2, f3⟩ := HB.out.all.1.soft4
        go_simp
        have hB := HL.store1 HB.out (by have := HLT.out; omega) hgq.out B
        unfold put4 at hB
        generalize (((W42.setCell ⟨q, 0, none⟩ (uv B.1.1)).setCell ⟨q, 1, none⟩ (uv B.1.2)).setCell ⟨q, 2, none⟩ (uv B.2.1)).setCell ⟨q, 3, none⟩ (uv B.2.2) = W43 at *
        refine hK.out _ _ hB.all.2.2.1.eight (fun hHeld => ?_)
        have HB := Lib.hid hB
        clear hK K hB x0 x1 x2 x3 f0 f1 f2 f3
        simp only [Act.put, List.getElem_toArray, List.getElem_cons_succ, List.getElem_cons_zero, List.setIfInBounds_toArray, List.set_cons_succ, List.set_cons_zero]
        refine wpAnyH_done (by kernel_rfl) ?_ _
        refine NoPanic.normal ?_
        go_wp2_with fail
        go_meet
        case rel => exact ⟨p, q, rfl, rfl, HB.out⟩
    · go_simp
      have hgq := Lib.hid HB.out.below.size
      have hB := HB.out.push scT z4
      generalize hge : wd.heap.size = q at *
      clear hge
      generalize wd.alloc (.cells #[.int .u64 0, .int .u64 0, .int .u64 0, .int .u64 0] scT) = W44 at *
      refine hK.out _ _ hB.all.2.1.eight (fun hHeld => ?_)
      have HB := Lib.hid hB
      clear hK K hB
      simp only [Act.put, List.getElem_toArray, List.getElem_cons_succ, List.getElem_cons_zero, List.setIfInBounds_toArray, List.set_cons_succ, List.set_cons_zero]
      refine wpAnyH_ready (rs := [2, 6]) (by kernel_rfl) (by simp) ?_
      refine AllReadyH.cons (o := _) rfl (fun K hK => ?_) (AllReadyH.cons (o := _) rfl (fun K hK => ?_) AllReadyH.nil)
      · go_simp
        go_at_call 9; refine (CM.out _ _).mono ?_; rintro e W45 ⟨rfl, hb⟩
        go_wp2_with fail
        have hB := HB.out.call hb
        refine hK.out _ _ hB.all.2.1.eight (fun hHeld => ?_)
        have HB := Lib.hid hB
        clear hK K hB
        simp only [Act.put, List.getElem_toArray, List.getElem_cons_succ, List.getElem_cons_zero, List.setIfInBounds_toArray, List.set_cons_succ, List.set_cons_zero]
        refine wpAnyH_ready (rs := [5, 6]) (by kernel_rfl) (by simp) ?_
        refine AllReadyH.cons (o := _) rfl (fun K hK => ?_) (AllReadyH.cons (o := _) rfl (fun K hK => ?_) AllReadyH.nil)
        · go_simp
          go_at_call 9; refine (CM.out _ _).mono ?_; rintro e W46 ⟨rfl, hb⟩
          go_wp2_with fail
          have hB := HB.out.call hb
          refine hK.out _ _ hB.all.2.1.eight (fun hHeld => ?_)
          have HB := Lib.hid hB
          clear hK K hB
          simp only [Act.put, List.getElem_toArray, List.getElem_cons_succ, List.getElem_cons_zero, List.setIfInBounds_toArray, List.set_cons_succ, List.set_cons_zero]
          refine wpAnyH_ready (rs := [6]) (by kernel_rfl) (by simp) ?_
          refine AllReadyH.cons (o := _) rfl (fun K hK => ?_) AllReadyH.nil
          have hlt := HB.out.all.1.lt
          go_simp
          have hgp := Lib.hid HB.out.below.size
          have hB := HB.out.push scT z4
          generalize hge : W46.heap.size = p at *
          clear hge
          generalize W46.alloc (.cells #[.int .u64 0, .int .u64 0, .int .u64 0, .int .u64 0] scT) = W47 at *
          have HLT := Lib.hid hlt
          clear hlt
          refine hK.out _ _ hB.all.2.2.1.eight (fun hHeld => ?_)
          have HB := Lib.hid hB
          clear hK K hB
          simp only [Act.put, List.getElem_toArray, List.getElem_cons_succ, List.getElem_cons_zero, List.setIfInBounds_toArray, List.set_cons_succ, List.set_cons_zero]
          refine wpAnyH_ready (rs := [8]) (by kernel_rfl) (by simp) ?_
          refine AllReadyH.cons (o := _) rfl (fun K hK => ?_) AllReadyH.nil
          obtain ⟨x0, x1, x2, x3⟩ := HB.out.all.1.four
          obtain ⟨f0, f1, f2, f3⟩ := HB.out.all.1.soft4
          go_simp
          have hB := HL.store1 HB.out (by have := HLT.out; omega) hgp.out A
          unfold put4 at hB
          generalize (((W47.setCell ⟨p, 0, none⟩ (uv A.1.1)).setCell ⟨p, 1, none⟩ (uv A.1.2)).setCell ⟨p, 2, none⟩ (uv A.2.1)).setCell ⟨p, 3, none⟩ (uv A.2.2) = W48 at *
          refine hK.out _ _ hB.all.2.2.1.eight (fun hHeld => ?_)
          have HB := Lib.hid hB
          clear hK K hB x0 x1 x2 x3 f0 f1 f2 f3
          simp only [Act.put, List.getElem_toArray, List.getElem_cons_succ, List.getElem_cons_zero, List.setIfInBounds_toArray, List.set_cons_succ, List.set_cons_zero]
          refine wpAnyH_ready (rs := [9]) (by kernel_rfl) (by simp) ?_
          refine AllReadyH.cons (o := _) rfl (fun K hK => ?_) AllReadyH.nil
          obtain ⟨x0, x1, x2, x3⟩ := HB.out.all.2.1.four
          obtain ⟨f0, f1, f2, f3⟩ := HB.out.all.2.1.soft4
          go_simp
          have hB := HL.store2 HB.out (by have := HLT.out; omega) hgq.out B
          unfold put4 at hB
          generalize (((W48.setCell ⟨q, 0, none⟩ (uv B.1.1)).setCell ⟨q, 1, none⟩ (uv B.1.2)).setCell ⟨q, 2, none⟩ (uv B.2.1)).setCell ⟨q, 3, none⟩ (uv B.2.2) = W49 at *
          refine hK.out _ _ hB.all.2.2.1.eight (fun hHeld => ?_)
          have HB := Lib.hid hB
          clear hK K hB x0 x1 x2 x3 f0 f1 f2 f3
          simp only [Act.put, List.getElem_toArray, List.getElem_cons_succ, List.getElem_cons_zero, List.setIfInBounds_toArray, List.set_cons_succ, List.set_cons_zero]
          refine wpAnyH_done (by kernel_rfl) ?_ _
          refine NoPanic.normal ?_
          go_wp2_with fail
          go_meet
          case rel => exact ⟨p, q, rfl, rfl, HB.out.swap⟩
        · have hlt := HB.out.all.1.lt
          go_simp
          have hgp := Lib.hid HB.out.below.size
          have hB := HB.out.push scT z4
          generalize hge : W45.heap.size = p at *
          clear hge
          generalize W45.alloc (.cells #[.int .u64 0, .int .u64 0, .int .u64 0, .int .u64 0] scT) = W50 at *
          have HLT := Lib.hid hlt
          clear hlt
          refine hK.out _ _ hB.all.2.2.1.eight (fun hHeld => ?_)
          have HB := Lib.hid hB
          clear hK K hB
          simp only [Act.put, List.getElem_toArray, List.getElem_cons_succ, List.getElem_cons_zero, List.setIfInBounds_toArray, List.set_cons_succ, List.set_cons_zero]
          refine wpAnyH_ready (rs := [5]) (by kernel_rfl) (by simp) ?_
          refine AllReadyH.cons (o := _) rfl (fun K hK => ?_) AllReadyH.nil
          go_simp
          go_at_call 9; refine (CM.out _ _).mono ?_; rintro e W51 ⟨rfl, hb⟩
          go_wp2_with fail
          have hB := HB.out.call hb
          refine hK.out _ _ hB.all.2.2.1.eight (fun hHeld => ?_)
          have HB := Lib.hid hB
          clear hK K hB
          simp only [Act.put, List.getElem_toArray, List.getElem_cons_succ, List.getElem_cons_zero, List.setIfInBounds_toArray, List.set_cons_succ, List.set_cons_zero]
          refine wpAnyH_ready (rs := [8]) (by kernel_rfl) (by simp) ?_
          refine AllReadyH.cons (o := _) rfl (fun K hK => ?_) AllReadyH.nil
          obtain ⟨x0, x1, x2, x3⟩ := HB.out.all.1.four
          obtain ⟨f0, f1, f2, f3⟩ := HB.out.all.1.soft4
          go_simp
          have hB := HL.store1 HB.out (by have := HLT.out; omega) hgp.out A
          unfold put4 at hB
          generalize (((W51.setCell ⟨p, 0, none⟩ (uv A.1.1)).setCell ⟨p, 1, none⟩ (uv A.1.2)).setCell ⟨p, 2, none⟩ (uv A.2.1)).setCell ⟨p, 3, none⟩ (uv A.2.2) = W52 at *
          refine hK.out _ _ hB.all.2.2.1.eight (fun hHeld => ?_)
          have HB := Lib.hid hB
          clear hK K hB x0 x1 x2 x3 f0 f1 f2 f3
          simp only [Act.put, List.getElem_toArray, List.getElem_cons_succ, List.getElem_cons_zero, List.setIfInBounds_toArray, List.set_cons_succ, List.set_cons_zero]
          refine wpAnyH_ready (rs := [9]) (by kernel_rfl) (by simp) ?_
          refine AllReadyH.cons (o := _) rfl (fun K hK => ?_) AllReadyH.nil
          obtain ⟨x0, x1, x2, x3⟩ := HB.out.all.2.1.four
          obtain ⟨f0, f1, f2, f3⟩ := HB.out.all.2.1.soft4
          go_simp
          have hB := HL.store2 HB.out (by have := HLT.out; omega) hgq.out B
          unfold put4 at hB
          generalize (((W52.setCell ⟨q, 0, none⟩ (uv B.1.1)).setCell ⟨q, 1, none⟩ (uv B.1.2)).setCell ⟨q, 2, none⟩ (uv B.2.1)).setCell ⟨q, 3, none⟩ (uv B.2.2) = W53 at *
          refine hK.out _ _ hB.all.2.2.1.eight (fun hHeld => ?_)
          have HB := Lib.hid hB
          clear hK K hB x0 x1 x2 x3 f0 f1 f2 f3
          simp only [Act.put, List.getElem_toArray, List.getElem_cons_succ, List.getElem_cons_zero, List.setIfInBounds_toArray, List.set_cons_succ, List.set_cons_zero]
          refine wpAnyH_done (by kernel_rfl) ?_ _
          refine NoPanic.normal ?_
          go_wp2_with fail
          go_meet
          case rel => exact ⟨p, q, rfl, rfl, HB.out.swap⟩
      · have hlt := HB.out.all.1.lt
        go_simp
        have hgp := Lib.hid HB.out.below.size
        have hB := HB.out.push scT z4
        generalize hge : W44.heap.size = p at *
        clear hge
        generalize W44.alloc (.cells #[.int .u64 0, .int .u64 0, .int .u64 0, .int .u64 0] scT) = W54 at *
        have HLT := Lib.hid hlt
        clear hlt
        refine hK.out _ _ hB.all.2.2.1.eight (fun hHeld => ?_)
        have HB := Lib.hid hB
        clear hK K hB
        simp only [Act.put, List.getElem_toArray, List.getElem_cons_succ, List.getElem_cons_zero, List.setIfInBounds_toArray, List.set_cons_succ, List.set_cons_zero]
        refine wpAnyH_ready (rs := [2]) (by kernel_rfl) (by simp) ?_
        refine AllReadyH.cons (o := _) rfl (fun K hK => ?_) AllReadyH.nil
        go_simp
        go_at_call 9; refine (CM.out _ _).mono ?_; rintro e W55 ⟨rfl, hb⟩
        go_wp2_with fail
        have hB := HB.out.call hb
        refine hK.out _ _ hB.all.2.2.1.eight (fun hHeld => ?_)
        have HB := Lib.hid hB
        clear hK K hB
        simp only [Act.put, List.getElem_toArray, List.getElem_cons_succ, List.getElem_cons_zero, List.setIfInBounds_toArray, List.set_cons_succ, List.set_cons_zero]
        refine wpAnyH_ready (rs := [5]) (by kernel_rfl) (by simp) ?_
        refine AllReadyH.cons (o := _) rfl (fun K hK => ?_) AllReadyH.nil
        go_simp
        go_at_call 9; refine (CM.out _ _).mono ?_; rintro e W56 ⟨rfl, hb⟩
        go_wp2_with fail
        have hB := HB.out.call hb
        refine hK.out _ _ hB.all.2.2.1.eight (fun hHeld => ?_)
        have HB := Lib.hid hB
        clear hK K hB
        simp only [Act.put, List.getElem_toArray, List.getElem_cons_succ, List.getElem_cons_zero, List.setIfInBounds_toArray, List.set_cons_succ, List.set_cons_zero]
        refine wpAnyH_ready (rs := [8]) (by kernel_rfl) (by simp) ?_
        refine AllReadyH.cons (o := _) rfl (fun K hK => ?_) AllReadyH.nil
        obtain ⟨x0, x1, x2, x3⟩ := HB.out.all.1.four
        obtain ⟨f0, f1, f2, f3⟩ := HB.out.all.1.soft4
        go_simp
        have hB := HL.store1 HB.out (by have := HLT.out; omega) hgp.out A
        unfold put4 at hB
        generalize (((W56.setCell ⟨p, 0, none⟩ (uv A.1.1)).setCell ⟨p, 1, none⟩ (uv A.1.2)).setCell ⟨p, 2, none⟩ (uv A.2.1)).setCell ⟨p, 3, none⟩ (uv A.2.2) = W57 at *
        refine hK.out _ _ hB.all.2.2.1.eight (fun hHeld => ?_)
        have HB := Lib.hid hB
        clear hK K hB x0 x1 x2 x3 f0 f1 f2 f3
        simp only [Act.put, List.getElem_toArray, List.getElem_cons_succ, List.getElem_cons_zero, List.setIfInBounds_toArray, List.set_cons_succ, List.set_cons_zero]
        refine wpAnyH_ready (rs := [9]) (by kernel_rfl) (by simp) ?_
        refine AllReadyH.cons (o := _) rfl (fun K hK => ?_) AllReadyH.nil
        obtain ⟨x0, x1, x2, x3⟩ := HB.out.all.2.1.four
        obtain ⟨f0, f1, f2, f3⟩ := HB.out.all.2.1.soft4
        go_simp
        have hB := HL.store2 HB.out (by have := HLT.out; omega) hgq.out B
        unfold put4 at hB
        generalize (((W57.setCell ⟨q, 0, none⟩ (uv B.1.1)).setCell ⟨q, 1, none⟩ (uv B.1.2)).setCell ⟨q, 2, none⟩ (uv B.2.1)).setCell ⟨q, 3, none⟩ (uv B.2.2) = W58 at *
        refine hK.out _ _ hB.all.2.2.1.eight (fun hHeld => ?_)
        have HB := Lib.hid hB
        clear hK K hB x0 x1 x2 x3 f0 f1 f2 f3
        simp only [Act.put, List.getElem_toArray, List.getElem_cons_succ, List.getElem_cons_zero, List.setIfInBounds_toArray, List.set_cons_succ, List.set_cons_zero]
        refine wpAnyH_done (by kernel_rfl) ?_ _
        refine NoPanic.normal ?_
        go_wp2_with fail
        go_meet
        case rel => exact ⟨p, q, rfl, rfl, HB.out.swap⟩
  case rest =>
    obtain ⟨p, q, rfl, rfl, hb⟩ := hcut
    have CH := Lib.hid (fun W => ps_has a n W)
    have CK := Lib.hid (fun W => xs_has a n W)
    have CI := Lib.hid ps_in
    have CJ := Lib.hid xs_in
    have CC := Lib.hid (fun W => ps_const n W)
    have CD := Lib.hid (fun W => xs_const n W)
    have i1 : decide (inS A A) = true := decide_eq_true (in_self A)
    obtain ⟨U, hU, i2⟩ : ∃ U : SC, (∀ W, Calls Tryd.prog 21 #[] W fun e w' => e = .returned (sv U) ∧ Below W.heap.size W w') ∧ decide (inS U A) = true := ⟨((0, ~~~0), 0, ~~~0), ps_unknown, decide_eq_true (in_unknown A)⟩
    have CU := Lib.hid hU
    obtain ⟨N, hN⟩ : ∃ N : SC, ((n, 0), n, n) = N := ⟨_, rfl⟩
    rw [hN] at CC CD
    have qN := sc_self N
    clear hU hN hA hB CM
    generalize decide (hasS a n) = h1 at *
    have key : ∀ W, HL w [(q, scT, sC B), (p, scT, sC A), (w.heap.size, s2T, s2 a b)] W → (W.cell? ⟨q, 0, none⟩ = some (uv B.1.1) ∧ W.cell? ⟨q, 1, none⟩ = some (uv B.1.2) ∧ W.cell? ⟨q, 2, none⟩ = some (uv B.2.1) ∧ W.cell? ⟨q, 3, none⟩ = some (uv B.2.2)) ∧ (W.cell? ⟨p, 0, none⟩ = some (uv A.1.1) ∧ W.cell? ⟨p, 1, none⟩ = some (uv A.1.2) ∧ W.cell? ⟨p, 2, none⟩ = some (uv A.2.1) ∧ W.cell? ⟨p, 3, none⟩ = some (uv A.2.2)) ∧ (W.cell? ⟨w.heap.size, 0, none⟩ = some (uv a.1.1) ∧ W.cell? ⟨w.heap.size, 1, none⟩ = some (uv a.1.2) ∧ W.cell? ⟨w.heap.size, 2, none⟩ = some (uv a.2.1) ∧ W.cell? ⟨w.heap.size, 3, none⟩ = some (uv a.2.2) ∧ W.cell? ⟨w.heap.size, 4, none⟩ = some (uv b.1.1) ∧ W.cell? ⟨w.heap.size, 5, none⟩ = some (uv b.1.2) ∧ W.cell? ⟨w.heap.size, 6, none⟩ = some (uv b.2.1) ∧ W.cell? ⟨w.heap.size, 7, none⟩ = some (uv b.2.2)) := fun W h => ⟨h.all.1.four, h.all.2.1.four, h.all.2.2.1.eight⟩
    have KEY := Lib.hid key
    have HB := Lib.hid hb
    have S0 := Lib.hid (key _ hb)
    clear hb key
    have S1 := S0.out
    obtain ⟨⟨a0, a1, a2, a3⟩, ⟨b0, b1, b2, b3⟩, c0, c1, c2, c3, c4, c5, c6, c7⟩ := S1
    go_upto_region 2 with fail
    go_region_held3 (fun W => (W.cell? ⟨q, 0, none⟩ = some (uv B.1.1) ∧ W.cell? ⟨q, 1, none⟩ = some (uv B.1.2) ∧ W.cell? ⟨q, 2, none⟩ = some (uv B.2.1) ∧ W.cell? ⟨q, 3, none⟩ = some (uv B.2.2)) ∧ (W.cell? ⟨p, 0, none⟩ = some (uv A.1.1) ∧ W.cell? ⟨p, 1, none⟩ = some (uv A.1.2) ∧ W.cell? ⟨p, 2, none⟩ = some (uv A.2.1) ∧ W.cell? ⟨p, 3, none⟩ = some (uv A.2.2)) ∧ (W.cell? ⟨w.heap.size, 0, none⟩ = some (uv a.1.1) ∧ W.cell? ⟨w.heap.size, 1, none⟩ = some (uv a.1.2) ∧ W.cell? ⟨w.heap.size, 2, none⟩ = some (uv a.2.1) ∧ W.cell? ⟨w.heap.size, 3, none⟩ = some (uv a.2.2) ∧ W.cell? ⟨w.heap.size, 4, none⟩ = some (uv b.1.1) ∧ W.cell? ⟨w.heap.size, 5, none⟩ = some (uv b.1.2) ∧ W.cell? ⟨w.heap.size, 6, none⟩ = some (uv b.2.1) ∧ W.cell? ⟨w.heap.size, 7, none⟩ = some (uv b.2.2)))
      (first | exact S0.out)
      (first
        | (go_at_call 17; refine (CH.out _).mono ?_; rintro e w10 ⟨rfl, hb⟩; have ha := (by first | exact HB.out.call hb | exact (HB.out.keeps (keeps_drewN _ _)).call hb | exact (HB.out.keeps (keeps_drew _)).call hb); have HB := Lib.hid ha; have S0 := Lib.hid (KEY.out _ ha); clear ha hb)
        | (go_at_call 18; refine (CK.out _).mono ?_; rintro e w10 ⟨rfl, hb⟩; have ha := (by first | exact HB.out.call hb | exact (HB.out.keeps (keeps_drewN _ _)).call hb | exact (HB.out.keeps (keeps_drew _)).call hb); have HB := Lib.hid ha; have S0 := Lib.hid (KEY.out _ ha); clear ha hb)
        | (go_at_call 19; refine (CI.out _ _ _).mono ?_; rintro e w10 ⟨rfl, hb⟩; have ha := (by first | exact HB.out.call hb | exact (HB.out.keeps (keeps_drewN _ _)).call hb | exact (HB.out.keeps (keeps_drew _)).call hb); have HB := Lib.hid ha; have S0 := Lib.hid (KEY.out _ ha); clear ha hb)
        | (go_at_call 20; refine (CJ.out _ _ _).mono ?_; rintro e w10 ⟨rfl, hb⟩; have ha := (by first | exact HB.out.call hb | exact (HB.out.keeps (keeps_drewN _ _)).call hb | exact (HB.out.keeps (keeps_drew _)).call hb); have HB := Lib.hid ha; have S0 := Lib.hid (KEY.out _ ha); clear ha hb)
        | (go_at_call 21; refine (CU.out _).mono ?_; rintro e w10 ⟨rfl, hb⟩; have ha := (by first | exact HB.out.call hb | exact (HB.out.keeps (keeps_drewN _ _)).call hb | exact (HB.out.keeps (keeps_drew _)).call hb); have HB := Lib.hid ha; have S0 := Lib.hid (KEY.out _ ha); clear ha hb)
        | (go_at_call 22; refine (CC.out _).mono ?_; rintro e w10 ⟨rfl, hb⟩; have ha := (by first | exact HB.out.call hb | exact (HB.out.keeps (keeps_drewN _ _)).call hb | exact (HB.out.keeps (keeps_drew _)).call hb); have HB := Lib.hid ha; have S0 := Lib.hid (KEY.out _ ha); clear ha hb)
        | (go_at_call 23; refine (CD.out _).mono ?_; rintro e w10 ⟨rfl, hb⟩; have ha := (by first | exact HB.out.call hb | exact (HB.out.keeps (keeps_drewN _ _)).call hb | exact (HB.out.keeps (keeps_drew _)).call hb); have HB := Lib.hid ha; have S0 := Lib.hid (KEY.out _ ha); clear ha hb)
        | (go_at_call 16; refine (CA.out _ (by first | exact HB.out.below | exact (HB.out.keeps (keeps_drewN _ _)).below | exact (HB.out.keeps (keeps_drew _)).below)).mono ?_; rintro e w10 ⟨rfl, hb⟩; have ha := (by first | exact HB.out.call hb | exact (HB.out.keeps (keeps_drewN _ _)).call hb | exact (HB.out.keeps (keeps_drew _)).call hb); have HB := Lib.hid ha; have S0 := Lib.hid (KEY.out _ ha); clear ha hb))
    go_wp2_with fail
    go_ret
    exact ⟨rfl, HB.out.below⟩
end Go.Proofs.YtjkgbghikhbecaaDoor
