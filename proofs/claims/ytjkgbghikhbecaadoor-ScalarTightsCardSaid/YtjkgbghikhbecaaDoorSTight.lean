/-
  The reference of layer 16: May, Tight.
-/
import Derived.Test.YtjkgbghikhbecaaDoorSTB
import Derived.Deep.LoopGhost
import Derived.Deep.RegionHeld3
import Derived.Deep.CutRange
namespace Go.Proofs.YtjkgbghikhbecaaDoor
open Go Go.RowKit Go.Maps Tn
set_option linter.unusedVariables false
set_option linter.unusedSimpArgs false
set_option maxRecDepth 100000
theorem xs_may (t : TN) (w : World) : Calls Tryd.prog 27 #[tv t] w fun e w' => e = .returned (.bool (decide (may t))) ∧ Below w.heap.size w w' := by
  have B := Lib.hid (below_new w (.cells #[uv t.1, uv t.2] tnT))
  obtain ⟨v, m⟩ := t
  have E : Hid ((n64 (v &&& m) == 0) = decide (may (v, m))) := n64_eq0 _
  have r1 := n64_and
  go_enter Tryd.func27, Tryd.ntmps27
  go_wp2_with fail
  go_ret
  exact ⟨by rw [E.out]; rfl, B.out⟩
abbrev z2 : Array Value := #[.int .u64 0, .int .u64 0]
/-- The box, the result, and what else is held. -/
structure TL (w : World) (s : SC) (L : List (Nat × TypeId × Array Value)) (W : World) : Prop where
  tb : TB w s W
  l : HLs L W
section
variable {w W W' : World} {s : SC} {L : List (Nat × TypeId × Array Value)}
theorem TL.keeps (h : TL w s L W) (k : Keeps (fun _ => False) W W') : TL w s L W' := ⟨h.tb.keeps k, h.l.keeps k⟩
theorem TL.call (h : TL w s L W) (k : Below W.heap.size W W') : TL w s L W' := h.keeps (keeps_below k)
theorem TL.push (h : TL w s L W) (t : TypeId) (cs : Array Value) : TL w s ((W.heap.size, t, cs) :: L) (W.alloc (.cells cs t)) := ⟨h.tb.alloc _, Blk.new W t cs, h.l.keeps ((Keeps.refl (fun _ => False) W).alloc _)⟩
theorem TL.store {p : Nat} (h : TL w s [(p, tnT, z2)] W) (hp : w.heap.size ≤ p) (u : TN) : TL w s [(p, tnT, #[uv u.1, uv u.2])] ((W.setCell ⟨p, 0, none⟩ (uv u.1)).setCell ⟨p, 1, none⟩ (uv u.2)) := by
  obtain ⟨⟨ha, hr⟩, hl, _⟩ := h
  have n1 : w.heap.size ≠ p := ha.ne_ hl (show scT ≠ tnT by decide)
  have n2 : w.heap.size + 1 ≠ p := by
    obtain ⟨⟨cs, _, hb⟩, _, _⟩ := hr
    exact hb.ne_ hl (show scT ≠ tnT by decide)
  refine ⟨⟨(ha.far (p := ⟨p, 0, none⟩) n1 _).far (p := ⟨p, 1, none⟩) n1 _, (hr.far n2 hp _).far n2 hp _⟩, ?_, trivial⟩
  simpa using (hl.set_ 0 (uv u.1)).set_ 1 (uv u.2)
end
abbrev SB4 (w : World) (u : SC) (W : World) : Prop := W.cell? ⟨w.heap.size, 0, none⟩ = some (uv u.1.1) ∧ W.cell? ⟨w.heap.size, 1, none⟩ = some (uv u.1.2) ∧ W.cell? ⟨w.heap.size, 2, none⟩ = some (uv u.2.1) ∧ W.cell? ⟨w.heap.size, 3, none⟩ = some (uv u.2.2)
set_option maxHeartbeats 2000000 in
theorem xs_tight_aux (s : SC) (R : Option SC) (hR : Hid (tightS s = R)) (w : World) : Calls Tryd.prog 8 #[sv s] w fun e w' => e = .returned (.tuple #[sv (R.getD zeroS), .bool R.isSome]) ∧ Below w.heap.size w w' := by
  have F := Lib.hid (TB.new s w)
  have C0 := Lib.hid (fun W => xs_may s.1 W)
  go_enter Tryd.func8, Tryd.ntmps8
  go_upto_region 1 with fail
  have hb := F.out
  clear F
  generalize (w.alloc (.cells #[uv s.1.1, uv s.1.2, uv s.2.1, uv s.2.2] scT)).alloc (.cells #[.int .u64 0, .int .u64 0, .int .u64 0, .int .u64 0] scT) = wz at *
  have HB := Lib.hid hb
  obtain ⟨⟨c0, c1, c2, c3⟩, _⟩ := hb.facts
  clear hb
  by_cases hm : may s.1
  · rw [decide_eq_true hm] at C0
    have HL3 : Hid (loopT 3 s = R) := by
      have h := hR.out
      unfold tightS at h
      rw [if_pos hm] at h
      exact h
    have HM := Lib.hid hm
    clear hR hm
    go_wp2_with (go_at_call 27; refine (C0.out _).mono ?_; rintro e w1 ⟨rfl, hb⟩; have HB1 := Lib.hid (HB.out.call hb); clear hb)
    clear c0 c1 c2 c3 HB C0
    go_loopg [4] 3 (fun n s4 wr => ∃ (i : Nat) (u : SC), i + n = 3 ∧ s4 = .int .i64 i ∧ TB w u wr ∧ loopT n u = R ∧ may u.1)
    case atStart => exact ⟨0, s, by omega, rfl, HB1.out, HL3.out, HM.out⟩
    case round =>
      clear HB1 HL3 HM
      obtain ⟨i, u, hin, rfl, hb, hl, hm⟩ := hrel
      have HIN := Lib.hid hin
      have HB := Lib.hid hb
      obtain ⟨⟨c0, c1, c2, c3⟩, f0, f1, f2, f3⟩ := hb.facts
      clear hb
      by_cases hg : gk = 0
      · have hi : i = 3 := by omega
        subst hi
        rw [hg] at hl
        have HR : Hid (R = some u) := hl.symm
        clear hin hg hl hm
        obtain ⟨r0, r1, r2, r3⟩ := HB.out.r.frozen
        obtain ⟨y0, y1, y2, y3, z0, z1, z2, z3⟩ := HB.out.r.cells
        go_wp2_with fail
        obtain ⟨k1, k2⟩ := HB.out.r.fill (uv u.1.1) (uv u.1.2) (uv u.2.1) (uv u.2.2)
        refine bodyPost_ret (results_row_tmp rfl _ _ (w.heap.size + 1) scT _ (0, 0) _ rfl k1 Tryd.underlying26 rfl (by kernel_rfl)) rfl ?_
        rw [HR.out]
        exact ⟨rfl, k2⟩
      · obtain ⟨n, hn⟩ : ∃ n, gk = n + 1 := ⟨gk - 1, by omega⟩
        rw [hn, loopT] at hl
        have g1 : decide ((i : Int) < 3) = true := decide_eq_true (by omega)
        have g2 : decide (i < 3) = true := decide_eq_true (by omega)
        have e1 : IntKind.i64.wrap ((i : Int) + 1) = (i : Int) + 1 := by rw [IntKind.wrap_i64]; omega
        have HN := Lib.hid hn
        have HLP := Lib.hid hl
        have HM := Lib.hid hm
        clear hin hg hn hl hm
        have q1 := n64_max u.2.1 u.1.1
        have q2 := n64_or u.1.1 u.1.2
        have q3 := n64_min u.2.2 (u.1.1 ||| u.1.2)
        obtain ⟨mn, hmn⟩ : ∃ x, maxB u.2.1 u.1.1 = x := ⟨_, rfl⟩
        obtain ⟨mx, hmx⟩ : ∃ x, minB u.2.2 (u.1.1 ||| u.1.2) = x := ⟨_, rfl⟩
        have HR1 : Hid (rndS u = if mx.toNat < mn.toNat then none else if agree u.1 (tRange mn mx) then some (tMeet u.1 (tRange mn mx), mn, mx) else none) := by
          show rndS u = _
          unfold rndS
          rw [hmn, hmx]
        rw [hmn] at q1
        rw [hmx] at q3
        clear hmn hmx
        go_upto_region 7 with fail
        have hb := HB.out.setMin mn
        generalize wr.setCell ⟨w.heap.size, 2, none⟩ (uv mn) = wa at *
        clear HB c0 c1 c2 c3 f0 f1 f2 f3
        obtain ⟨⟨c0, c1, c2, c3⟩, f0, f1, f2, f3⟩ := hb.facts
        have HB := Lib.hid hb
        clear hb
        go_upto_region 8 with fail
        have hb := HB.out.setMax mx
        generalize wa.setCell ⟨w.heap.size, 3, none⟩ (uv mx) = wb at *
        clear HB c0 c1 c2 c3 f0 f1 f2 f3
        obtain ⟨⟨c0, c1, c2, c3⟩, f0, f1, f2, f3⟩ := hb.facts
        have HB := Lib.hid hb
        clear hb q1 q2 q3
        by_cases hlt : mx.toNat < mn.toNat
        · have g3 : decide (n64 mx < n64 mn) = true := decide_eq_true (by unfold n64; omega)
          have HR : Hid (R = none) := by
            have h := HLP.out
            rw [HR1.out, if_pos hlt] at h
            exact h.symm
          clear hlt
          obtain ⟨r0, r1, r2, r3⟩ := HB.out.r.frozen
          obtain ⟨y0, y1, y2, y3, z0, z1, z2, z3⟩ := HB.out.r.cells
          go_wp2_with fail
          obtain ⟨k1, k2⟩ := HB.out.r.fill (uv 0) (uv 0) (uv 0) (uv 0)
          refine bodyPost_ret (results_row_tmp rfl _ _ (w.heap.size + 1) scT _ (0, 0) _ rfl k1 Tryd.underlying26 rfl (by kernel_rfl)) rfl ?_
          rw [HR.out]
          exact ⟨rfl, k2⟩
        · have g3 : decide (n64 mx < n64 mn) = false := decide_eq_false (by unfold n64; omega)
          have HR2 : Hid (rndS u = if agree u.1 (tRange mn mx) then some (tMeet u.1 (tRange mn mx), mn, mx) else none) := by
            show rndS u = _
            rw [HR1.out, if_neg hlt]
          clear hlt HR1
          have CF := Lib.hid (fun W => xof_any mn mx W)
          have CM := Lib.hid (fun W => xmeet_any u.1 (tRange mn mx) W)
          have HV : Hid (∀ ok : Bool, decide (agree u.1 (tRange mn mx)) = ok → rndS u = if ok then some (meetV u.1 (tRange mn mx), mn, mx) else none) := fun ok hok => by
            rw [HR2.out]
            unfold meetV
            by_cases ha : agree u.1 (tRange mn mx)
            · rw [if_pos ha]
              rw [decide_eq_true ha] at hok
              rw [← hok, if_pos rfl, if_pos ha]
            · rw [if_neg ha]
              rw [decide_eq_false ha] at hok
              rw [← hok]; rfl
          have hv0 := HV.out
          clear HV HR2
          obtain ⟨ok, hok⟩ : ∃ ok, decide (agree u.1 (tRange mn mx)) = ok := ⟨_, rfl⟩
          rw [hok] at CM
          have hv : rndS u = if ok = true then some (meetV u.1 (tRange mn mx), mn, mx) else none := hv0 ok hok
          clear hv0
          have HMY : Hid (ok = true → may (meetV u.1 (tRange mn mx))) := fun ho => by
            rw [ho, decide_eq_true_eq] at hok
            unfold meetV
            rw [if_pos hok]
            exact may_of _ _
          clear hok
          generalize meetV u.1 (tRange mn mx) = M at *
          generalize tRange mn mx = T at *
          have HV := Lib.hid hv
          clear hv
          go_upto_region 10 with fail
          go_cut [5, 6] from 12 to 55 (fun s5 s6 wc => ∃ p : Nat, s5 = .pointer (some ⟨p, 0, none⟩) ∧ s6 = .bool ok ∧ TL w (u.1, mn, mx) [(p, tnT, #[uv M.1, uv M.2])] wc)
          case first =>
            have hb : TL w (u.1, mn, mx) [] wb.drew := ⟨HB.out.keeps (keeps_drew wb), trivial⟩
            refine wp_region_noPanic ?_
            refine wp_region_held_drew (S := SB4 w (u.1, mn, mx)) (by kernel_rfl) hb.tb.facts.1 (fun hHeld => ?_)
            change wpAnyH _ _ _ _ _ 14 #[false, false, false, false, false, false, false, false, false, false, false, false, false, false] _ _
            clear HB c0 c1 c2 c3 f0 f1 f2 f3
            have HB := Lib.hid hb
            clear hb
            generalize wb.drew = wd at *
            refine wpAnyH_take (i := 0) (oi := _) (v := ?_) rfl (by kernel_rfl) (by kernel_rfl) (by kernel_rfl) (fun _ _ _ h => h) (Or.inl ⟨by kernel_rfl, ?_⟩) (by assumption) ?_
            rotate_left 1
            · intro W hSw; obtain ⟨s0, s1, s2, s3⟩ := hSw; go_simp; (try with_reducible rfl)
            simp only [Act.put, List.getElem_toArray, List.getElem_cons_succ, List.getElem_cons_zero, List.setIfInBounds_toArray, List.set_cons_succ, List.set_cons_zero]
            refine wpAnyH_take (i := 1) (oi := _) (v := ?_) rfl (by kernel_rfl) (by kernel_rfl) (by kernel_rfl) (fun _ _ _ h => h) (Or.inl ⟨by kernel_rfl, ?_⟩) (by assumption) ?_
            rotate_left 1
            · intro W hSw; obtain ⟨s0, s1, s2, s3⟩ := hSw; go_simp; (try with_reducible rfl)
            simp only [Act.put, List.getElem_toArray, List.getElem_cons_succ, List.getElem_cons_zero, List.setIfInBounds_toArray, List.set_cons_succ, List.set_cons_zero]
            refine wpAnyH_take (i := 2) (oi := _) (v := ?_) rfl (by kernel_rfl) (by kernel_rfl) (by kernel_rfl) (fun _ _ _ h => h) (Or.inl ⟨by kernel_rfl, ?_⟩) (by assumption) ?_
            rotate_left 1
            · intro W hSw; obtain ⟨s0, s1, s2, s3⟩ := hSw; go_simp; (try with_reducible rfl)
            simp only [Act.put, List.getElem_toArray, List.getElem_cons_succ, List.getElem_cons_zero, List.setIfInBounds_toArray, List.set_cons_succ, List.set_cons_zero]
            refine wpAnyH_take (i := 3) (oi := _) (v := ?_) rfl (by kernel_rfl) (by kernel_rfl) (by kernel_rfl) (fun _ _ _ h => h) (Or.inl ⟨by kernel_rfl, ?_⟩) (by assumption) ?_
            rotate_left 1
            · intro W hSw; obtain ⟨s0, s1, s2, s3⟩ := hSw; go_simp; (try with_reducible rfl)
            simp only [Act.put, List.getElem_toArray, List.getElem_cons_succ, List.getElem_cons_zero, List.setIfInBounds_toArray, List.set_cons_succ, List.set_cons_zero]
            refine wpAnyH_take (i := 4) (oi := _) (v := ?_) rfl (by kernel_rfl) (by kernel_rfl) (by kernel_rfl) (fun _ _ _ h => h) (Or.inl ⟨by kernel_rfl, ?_⟩) (by assumption) ?_
            rotate_left 1
            · intro W hSw; obtain ⟨s0, s1, s2, s3⟩ := hSw; go_simp; (try with_reducible rfl)
            simp only [Act.put, List.getElem_toArray, List.getElem_cons_succ, List.getElem_cons_zero, List.setIfInBounds_toArray, List.set_cons_succ, List.set_cons_zero]
            refine wpAnyH_take (i := 5) (oi := _) (v := ?_) rfl (by kernel_rfl) (by kernel_rfl) (by kernel_rfl) (fun _ _ _ h => h) (Or.inl ⟨by kernel_rfl, ?_⟩) (by assumption) ?_
            rotate_left 1
            · intro W hSw; obtain ⟨s0, s1, s2, s3⟩ := hSw; go_simp; (try with_reducible rfl)
            simp only [Act.put, List.getElem_toArray, List.getElem_cons_succ, List.getElem_cons_zero, List.setIfInBounds_toArray, List.set_cons_succ, List.set_cons_zero]
            refine wpAnyH_ready (rs := [6, 11]) (by kernel_rfl) (by simp) ?_
            refine AllReadyH.cons (o := _) rfl (fun K hK => ?_) (AllReadyH.cons (o := _) rfl (fun K hK => ?_) AllReadyH.nil)
            · go_simp
              go_at_call 29; refine (CF.out _).mono ?_; rintro e W1 ⟨rfl, hb⟩
              go_wp2_with fail
              have hB := HB.out.call hb
              refine hK.out _ _ hB.tb.facts.1 (fun hHeld => ?_)
              have HB := Lib.hid hB
              clear hK K hB
              simp only [Act.put, List.getElem_toArray, List.getElem_cons_succ, List.getElem_cons_zero, List.setIfInBounds_toArray, List.set_cons_succ, List.set_cons_zero]
              refine wpAnyH_ready (rs := [7, 11]) (by kernel_rfl) (by simp) ?_
              refine AllReadyH.cons (o := _) rfl (fun K hK => ?_) (AllReadyH.cons (o := _) rfl (fun K hK => ?_) AllReadyH.nil)
              · go_simp
                go_at_call 28; refine (CM.out _).mono ?_; rintro e W2 ⟨rfl, hb⟩
                go_wp2_with fail
                have hB := HB.out.call hb
                refine hK.out _ _ hB.tb.facts.1 (fun hHeld => ?_)
                have HB := Lib.hid hB
                clear hK K hB
                simp only [Act.put, List.getElem_toArray, List.getElem_cons_succ, List.getElem_cons_zero, List.setIfInBounds_toArray, List.set_cons_succ, List.set_cons_zero]
                refine wpAnyH_take (i := 8) (oi := _) (v := ?_) rfl (by kernel_rfl) (by kernel_rfl) (by kernel_rfl) (fun _ _ _ h => h) (Or.inl ⟨by kernel_rfl, ?_⟩) (by assumption) ?_
                rotate_left 1
                · intro W hSw; obtain ⟨s0, s1, s2, s3⟩ := hSw; go_simp; (try with_reducible rfl)
                simp only [Act.put, List.getElem_toArray, List.getElem_cons_succ, List.getElem_cons_zero, List.setIfInBounds_toArray, List.set_cons_succ, List.set_cons_zero]
                refine wpAnyH_take (i := 9) (oi := _) (v := ?_) rfl (by kernel_rfl) (by kernel_rfl) (by kernel_rfl) (fun _ _ _ h => h) (Or.inl ⟨by kernel_rfl, ?_⟩) (by assumption) ?_
                rotate_left 1
                · intro W hSw; obtain ⟨s0, s1, s2, s3⟩ := hSw; go_simp; (try with_reducible rfl)
                simp only [Act.put, List.getElem_toArray, List.getElem_cons_succ, List.getElem_cons_zero, List.setIfInBounds_toArray, List.set_cons_succ, List.set_cons_zero]
                refine wpAnyH_take (i := 10) (oi := _) (v := ?_) rfl (by kernel_rfl) (by kernel_rfl) (by kernel_rfl) (fun _ _ _ h => h) (Or.inl ⟨by kernel_rfl, ?_⟩) (by assumption) ?_
                rotate_left 1
                · intro W hSw; obtain ⟨s0, s1, s2, s3⟩ := hSw; go_simp; (try with_reducible rfl)
                simp only [Act.put, List.getElem_toArray, List.getElem_cons_succ, List.getElem_cons_zero, List.setIfInBounds_toArray, List.set_cons_succ, List.set_cons_zero]
                refine wpAnyH_ready (rs := [11]) (by kernel_rfl) (by simp) ?_
                refine AllReadyH.cons (o := _) rfl (fun K hK => ?_) AllReadyH.nil
                go_simp
                have hgp := Lib.hid HB.out.tb.r.below.size
                have hB := HB.out.push tnT z2
                generalize hge : W2.heap.size = p at *
                clear hge
                generalize W2.alloc (.cells #[.int .u64 0, .int .u64 0] tnT) = W3 at *
                refine hK.out _ _ hB.tb.facts.1 (fun hHeld => ?_)
                have HB := Lib.hid hB
                clear hK K hB
                simp only [Act.put, List.getElem_toArray, List.getElem_cons_succ, List.getElem_cons_zero, List.setIfInBounds_toArray, List.set_cons_succ, List.set_cons_zero]
                refine wpAnyH_ready (rs := [12]) (by kernel_rfl) (by simp) ?_
                refine AllReadyH.cons (o := _) rfl (fun K hK => ?_) AllReadyH.nil
                obtain ⟨x0, x1⟩ := HB.out.l.1.two
                obtain ⟨f0, f1⟩ := HB.out.l.1.soft2
                go_simp
                have hB := HB.out.store hgp.out M
                generalize (W3.setCell ⟨p, 0, none⟩ (uv M.1)).setCell ⟨p, 1, none⟩ (uv M.2) = W4 at *
                refine hK.out _ _ hB.tb.facts.1 (fun hHeld => ?_)
                have HB := Lib.hid hB
                clear hK K hB x0 x1 f0 f1
                simp only [Act.put, List.getElem_toArray, List.getElem_cons_succ, List.getElem_cons_zero, List.setIfInBounds_toArray, List.set_cons_succ, List.set_cons_zero]
                refine wpAnyH_take (i := 13) (oi := _) (v := ?_) rfl (by kernel_rfl) (by kernel_rfl) (by kernel_rfl) (fun _ _ _ h => h) (Or.inl ⟨by kernel_rfl, ?_⟩) (by assumption) ?_
                rotate_left 1
                · intro W hSw; obtain ⟨s0, s1, s2, s3⟩ := hSw; go_simp; (try with_reducible rfl)
                simp only [Act.put, List.getElem_toArray, List.getElem_cons_succ, List.getElem_cons_zero, List.setIfInBounds_toArray, List.set_cons_succ, List.set_cons_zero]
                refine wpAnyH_done (by kernel_rfl) ?_ _
                refine NoPanic.normal ?_
                go_wp2_with fail
                go_meet
                case rel => exact ⟨p, rfl, rfl, HB.out⟩
              · go_simp
                have hgp := Lib.hid HB.out.tb.r.below.size
                have hB := HB.out.push tnT z2
                generalize hge : W1.heap.size = p at *
                clear hge
                generalize W1.alloc (.cells #[.int .u64 0, .int .u64 0] tnT) = W5 at *
                refine hK.out _ _ hB.tb.facts.1 (fun hHeld => ?_)
                have HB := Lib.hid hB
                clear hK K hB
                simp only [Act.put, List.getElem_toArray, List.getElem_cons_succ, List.getElem_cons_zero, List.setIfInBounds_toArray, List.set_cons_succ, List.set_cons_zero]
                refine wpAnyH_ready (rs := [7]) (by kernel_rfl) (by simp) ?_
                refine AllReadyH.cons (o := _) rfl (fun K hK => ?_) AllReadyH.nil
                go_simp
                go_at_call 28; refine (CM.out _).mono ?_; rintro e W6 ⟨rfl, hb⟩
                go_wp2_with fail
                have hB := HB.out.call hb
                refine hK.out _ _ hB.tb.facts.1 (fun hHeld => ?_)
                have HB := Lib.hid hB
                clear hK K hB
                simp only [Act.put, List.getElem_toArray, List.getElem_cons_succ, List.getElem_cons_zero, List.setIfInBounds_toArray, List.set_cons_succ, List.set_cons_zero]
                refine wpAnyH_take (i := 8) (oi := _) (v := ?_) rfl (by kernel_rfl) (by kernel_rfl) (by kernel_rfl) (fun _ _ _ h => h) (Or.inl ⟨by kernel_rfl, ?_⟩) (by assumption) ?_
                rotate_left 1
                · intro W hSw; obtain ⟨s0, s1, s2, s3⟩ := hSw; go_simp; (try with_reducible rfl)
                simp only [Act.put, List.getElem_toArray, List.getElem_cons_succ, List.getElem_cons_zero, List.setIfInBounds_toArray, List.set_cons_succ, List.set_cons_zero]
                refine wpAnyH_take (i := 9) (oi := _) (v := ?_) rfl (by kernel_rfl) (by kernel_rfl) (by kernel_rfl) (fun _ _ _ h => h) (Or.inl ⟨by kernel_rfl, ?_⟩) (by assumption) ?_
                rotate_left 1
                · intro W hSw; obtain ⟨s0, s1, s2, s3⟩ := hSw; go_simp; (try with_reducible rfl)
                simp only [Act.put, List.getElem_toArray, List.getElem_cons_succ, List.getElem_cons_zero, List.setIfInBounds_toArray, List.set_cons_succ, List.set_cons_zero]
                refine wpAnyH_take (i := 10) (oi := _) (v := ?_) rfl (by kernel_rfl) (by kernel_rfl) (by kernel_rfl) (fun _ _ _ h => h) (Or.inl ⟨by kernel_rfl, ?_⟩) (by assumption) ?_
                rotate_left 1
                · intro W hSw; obtain ⟨s0, s1, s2, s3⟩ := hSw; go_simp; (try with_reducible rfl)
                simp only [Act.put, List.getElem_toArray, List.getElem_cons_succ, List.getElem_cons_zero, List.setIfInBounds_toArray, List.set_cons_succ, List.set_cons_zero]
                refine wpAnyH_ready (rs := [12]) (by kernel_rfl) (by simp) ?_
                refine AllReadyH.cons (o := _) rfl (fun K hK => ?_) AllReadyH.nil
                obtain ⟨x0, x1⟩ := HB.out.l.1.two
                obtain ⟨f0, f1⟩ := HB.out.l.1.soft2
                go_simp
                have hB := HB.out.store hgp.out M
                generalize (W6.setCell ⟨p, 0, none⟩ (uv M.1)).setCell ⟨p, 1, none⟩ (uv M.2) = W7 at *
                refine hK.out _ _ hB.tb.facts.1 (fun hHeld => ?_)
                have HB := Lib.hid hB
                clear hK K hB x0 x1 f0 f1
                simp only [Act.put, List.getElem_toArray, List.getElem_cons_succ, List.getElem_cons_zero, List.setIfInBounds_toArray, List.set_cons_succ, List.set_cons_zero]
                refine wpAnyH_take (i := 13) (oi := _) (v := ?_) rfl (by kernel_rfl) (by kernel_rfl) (by kernel_rfl) (fun _ _ _ h => h) (Or.inl ⟨by kernel_rfl, ?_⟩) (by assumption) ?_
                rotate_left 1
                · intro W hSw; obtain ⟨s0, s1, s2, s3⟩ := hSw; go_simp; (try with_reducible rfl)
                simp only [Act.put, List.getElem_toArray, List.getElem_cons_succ, List.getElem_cons_zero, List.setIfInBounds_toArray, List.set_cons_succ, List.set_cons_zero]
                refine wpAnyH_done (by kernel_rfl) ?_ _
                refine NoPanic.normal ?_
                go_wp2_with fail
                go_meet
                case rel => exact ⟨p, rfl, rfl, HB.out⟩
            · go_simp
              have hgp := Lib.hid HB.out.tb.r.below.size
              have hB := HB.out.push tnT z2
              generalize hge : wd.heap.size = p at *
              clear hge
              generalize wd.alloc (.cells #[.int .u64 0, .int .u64 0] tnT) = W8 at *
              refine hK.out _ _ hB.tb.facts.1 (fun hHeld => ?_)
              have HB := Lib.hid hB
              clear hK K hB
              simp only [Act.put, List.getElem_toArray, List.getElem_cons_succ, List.getElem_cons_zero, List.setIfInBounds_toArray, List.set_cons_succ, List.set_cons_zero]
              refine wpAnyH_ready (rs := [6]) (by kernel_rfl) (by simp) ?_
              refine AllReadyH.cons (o := _) rfl (fun K hK => ?_) AllReadyH.nil
              go_simp
              go_at_call 29; refine (CF.out _).mono ?_; rintro e W9 ⟨rfl, hb⟩
              go_wp2_with fail
              have hB := HB.out.call hb
              refine hK.out _ _ hB.tb.facts.1 (fun hHeld => ?_)
              have HB := Lib.hid hB
              clear hK K hB
              simp only [Act.put, List.getElem_toArray, List.getElem_cons_succ, List.getElem_cons_zero, List.setIfInBounds_toArray, List.set_cons_succ, List.set_cons_zero]
              refine wpAnyH_ready (rs := [7]) (by kernel_rfl) (by simp) ?_
              refine AllReadyH.cons (o := _) rfl (fun K hK => ?_) AllReadyH.nil
              go_simp
              go_at_call 28; refine (CM.out _).mono ?_; rintro e W10 ⟨rfl, hb⟩
              go_wp2_with fail
              have hB := HB.out.call hb
              refine hK.out _ _ hB.tb.facts.1 (fun hHeld => ?_)
              have HB := Lib.hid hB
              clear hK K hB
              simp only [Act.put, List.getElem_toArray, List.getElem_cons_succ, List.getElem_cons_zero, List.setIfInBounds_toArray, List.set_cons_succ, List.set_cons_zero]
              refine wpAnyH_take (i := 8) (oi := _) (v := ?_) rfl (by kernel_rfl) (by kernel_rfl) (by kernel_rfl) (fun _ _ _ h => h) (Or.inl ⟨by kernel_rfl, ?_⟩) (by assumption) ?_
              rotate_left 1
              · intro W hSw; obtain ⟨s0, s1, s2, s3⟩ := hSw; go_simp; (try with_reducible rfl)
              simp only [Act.put, List.getElem_toArray, List.getElem_cons_succ, List.getElem_cons_zero, List.setIfInBounds_toArray, List.set_cons_succ, List.set_cons_zero]
              refine wpAnyH_take (i := 9) (oi := _) (v := ?_) rfl (by kernel_rfl) (by kernel_rfl) (by kernel_rfl) (fun _ _ _ h => h) (Or.inl ⟨by kernel_rfl, ?_⟩) (by assumption) ?_
              rotate_left 1
              · intro W hSw; obtain ⟨s0, s1, s2, s3⟩ := hSw; go_simp; (try with_reducible rfl)
              simp only [Act.put, List.getElem_toArray, List.getElem_cons_succ, List.getElem_cons_zero, List.setIfInBounds_toArray, List.set_cons_succ, List.set_cons_zero]
              refine wpAnyH_take (i := 10) (oi := _) (v := ?_) rfl (by kernel_rfl) (by kernel_rfl) (by kernel_rfl) (fun _ _ _ h => h) (Or.inl ⟨by kernel_rfl, ?_⟩) (by assumption) ?_
              rotate_left 1
              · intro W hSw; obtain ⟨s0, s1, s2, s3⟩ := hSw; go_simp; (try with_reducible rfl)
              simp only [Act.put, List.getElem_toArray, List.getElem_cons_succ, List.getElem_cons_zero, List.setIfInBounds_toArray, List.set_cons_succ, List.set_cons_zero]
              refine wpAnyH_ready (rs := [12]) (by kernel_rfl) (by simp) ?_
              refine AllReadyH.cons (o := _) rfl (fun K hK => ?_) AllReadyH.nil
              obtain ⟨x0, x1⟩ := HB.out.l.1.two
              obtain ⟨f0, f1⟩ := HB.out.l.1.soft2
              go_simp
              have hB := HB.out.store hgp.out M
              generalize (W10.setCell ⟨p, 0, none⟩ (uv M.1)).setCell ⟨p, 1, none⟩ (uv M.2) = W11 at *
              refine hK.out _ _ hB.tb.facts.1 (fun hHeld => ?_)
              have HB := Lib.hid hB
              clear hK K hB x0 x1 f0 f1
              simp only [Act.put, List.getElem_toArray, List.getElem_cons_succ, List.getElem_cons_zero, List.setIfInBounds_toArray, List.set_cons_succ, List.set_cons_zero]
              refine wpAnyH_take (i := 13) (oi := _) (v := ?_) rfl (by kernel_rfl) (by kernel_rfl) (by kernel_rfl) (fun _ _ _ h => h) (Or.inl ⟨by kernel_rfl, ?_⟩) (by assumption) ?_
              rotate_left 1
              · intro W hSw; obtain ⟨s0, s1, s2, s3⟩ := hSw; go_simp; (try with_reducible rfl)
              simp only [Act.put, List.getElem_toArray, List.getElem_cons_succ, List.getElem_cons_zero, List.setIfInBounds_toArray, List.set_cons_succ, List.set_cons_zero]
              refine wpAnyH_done (by kernel_rfl) ?_ _
              refine NoPanic.normal ?_
              go_wp2_with fail
              go_meet
              case rel => exact ⟨p, rfl, rfl, HB.out⟩

          case rest =>
            obtain ⟨p, rfl, rfl, hb⟩ := hcut
            clear HB c0 c1 c2 c3 f0 f1 f2 f3 CF CM
            obtain ⟨⟨c0, c1, c2, c3⟩, f0, f1, f2, f3⟩ := hb.tb.facts
            obtain ⟨p0, p1⟩ := hb.l.1.two
            have HB := Lib.hid hb.tb
            clear hb
            cases ok
            · have HR : Hid (R = none) := by
                have h := HLP.out
                rw [HV.out] at h
                exact h.symm
              clear HV HLP HMY
              obtain ⟨r0, r1, r2, r3⟩ := HB.out.r.frozen
              obtain ⟨y0, y1, y2, y3, z0, z1, z2, z3⟩ := HB.out.r.cells
              go_wp2_with fail
              obtain ⟨k1, k2⟩ := HB.out.r.fill (uv 0) (uv 0) (uv 0) (uv 0)
              refine bodyPost_ret (results_row_tmp rfl _ _ (w.heap.size + 1) scT _ (0, 0) _ rfl k1 Tryd.underlying26 rfl (by kernel_rfl)) rfl ?_
              rw [HR.out]
              exact ⟨rfl, k2⟩
            · have HLN : Hid (loopT n (M, mn, mx) = R) := by
                have h := HLP.out
                rw [HV.out] at h
                exact h
              clear HV HLP
              go_wp2_with fail
              go_roundg n
              case measure => have := HN.out; omega
              case rel => exact ⟨i + 1, (M, mn, mx), by have := HIN.out; have := HN.out; omega, by rw [Int.natCast_add]; rfl, HB.out.setT M, HLN.out, HMY.out (by first | trivial | rfl)⟩
  · rw [decide_eq_false hm] at C0
    have HR : Hid (R = none) := by
      have h := hR.out
      unfold tightS at h
      rw [if_neg hm] at h
      exact h.symm
    clear hR hm
    go_wp2_with (go_at_call 27; refine (C0.out _).mono ?_; rintro e w1 ⟨rfl, hb⟩; have ha := HB.out.call hb; have rr := ha.r.frozen; obtain ⟨r0, r1, r2, r3⟩ := rr; have cc := ha.r.cells; obtain ⟨y0, y1, y2, y3, z0, z1, z2, z3⟩ := cc; have HB1 := Lib.hid ha; clear ha hb)
    obtain ⟨k1, k2⟩ := HB1.out.r.fill (uv 0) (uv 0) (uv 0) (uv 0)
    refine bodyPost_ret (results_row_tmp rfl _ _ (w.heap.size + 1) scT _ (0, 0) _ rfl k1 Tryd.underlying26 rfl (by kernel_rfl)) rfl ?_
    rw [HR.out]
    exact ⟨rfl, k2⟩
theorem xs_tight (s : SC) (w : World) : Calls Tryd.prog 8 #[sv s] w fun e w' => e = .returned (.tuple #[sv (tightV s), .bool (tightS s).isSome]) ∧ Below w.heap.size w w' := xs_tight_aux s _ rfl w
end Go.Proofs.YtjkgbghikhbecaaDoor
