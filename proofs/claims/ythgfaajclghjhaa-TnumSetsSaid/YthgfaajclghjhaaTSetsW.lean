/-
  The law TnumSets, walked.
-/
import Derived.Test.YthgfaajclghjhaaTHeld
import Derived.Deep.RegionHeld3
import Derived.Deep.RegionWith
import Derived.Deep.CutRange
namespace Go.Proofs.Ythgfaajclghjhaa
open Go Go.RowKit Go.Maps Tn
set_option linter.unusedVariables false
set_option linter.unusedSimpArgs false
set_option maxRecDepth 100000
abbrev u2T : TypeId := 38
abbrev u2 (a b : B64) : Array Value := #[uv a, uv b]
set_option maxHeartbeats 12000000 in
set_option maxRecDepth 200000 in
theorem sets_any (a b : TN) (n0 n1 : B64) (w : World) : Calls Try.prog 5 #[tv a, tv b, .agg (u2 n0 n1)] w fun e w' => e = .returned (.bool true) ∧ Below w.heap.size w w' := by
  have F := Lib.hid (HL.three w tnT tnT u2T (tC a) (tC b) (u2 n0 n1))
  have CH := Lib.hid (fun W => phas_any a n0 W)
  have CK := Lib.hid (fun W => xhas_any a n0 W)
  generalize decide (Tn.has a n0) = h0 at *
  go_enter Try.func5, Try.ntmps5
  go_upto_region 1 with fail
  have hb := F.out
  clear F
  generalize ((w.alloc (.cells #[uv a.1, uv a.2] tnT)).alloc (.cells #[uv b.1, uv b.2] tnT)).alloc (.cells #[uv n0, uv n1] u2T) = wz at *
  have key : ∀ (a b : TN) W, HL w [(w.heap.size + 1 + 1, u2T, u2 n0 n1), (w.heap.size + 1, tnT, tC b), (w.heap.size, tnT, tC a)] W → ((W.cell? ⟨w.heap.size + 1 + 1, 0, none⟩ = some (uv n0) ∧ W.cell? ⟨w.heap.size + 1 + 1, 1, none⟩ = some (uv n1)) ∧ (W.cell? ⟨w.heap.size + 1, 0, none⟩ = some (uv b.1) ∧ W.cell? ⟨w.heap.size + 1, 1, none⟩ = some (uv b.2)) ∧ (W.cell? ⟨w.heap.size, 0, none⟩ = some (uv a.1) ∧ W.cell? ⟨w.heap.size, 1, none⟩ = some (uv a.2))) := by
    rintro a b W ⟨⟨h3, h2, h1, _⟩, _⟩
    exact ⟨h3.two, h2.two, h1.two⟩
  have soft : ∀ (a b : TN) W, HL w [(w.heap.size + 1 + 1, u2T, u2 n0 n1), (w.heap.size + 1, tnT, tC b), (w.heap.size, tnT, tC a)] W → (W.frozen? ⟨w.heap.size, 0, none⟩ = false ∧ W.frozen? ⟨w.heap.size, 1, none⟩ = false ∧ W.frozen? ⟨w.heap.size + 1, 0, none⟩ = false ∧ W.frozen? ⟨w.heap.size + 1, 1, none⟩ = false) := by
    rintro a b W ⟨⟨h3, h2, h1, _⟩, _⟩
    exact ⟨h1.frozen 0, h1.frozen 1, h2.frozen 0, h2.frozen 1⟩
  have KEY := Lib.hid key
  have SOFT := Lib.hid soft
  clear soft
  have HB := Lib.hid hb
  have S0 := Lib.hid (key _ _ _ hb)
  obtain ⟨⟨m0, m1⟩, ⟨d0, d1⟩, c0, c1⟩ := key _ _ _ hb
  clear hb key
  go_region_held3 (fun W => (W.cell? ⟨w.heap.size + 1 + 1, 0, none⟩ = some (uv n0) ∧ W.cell? ⟨w.heap.size + 1 + 1, 1, none⟩ = some (uv n1)) ∧ (W.cell? ⟨w.heap.size + 1, 0, none⟩ = some (uv b.1) ∧ W.cell? ⟨w.heap.size + 1, 1, none⟩ = some (uv b.2)) ∧ (W.cell? ⟨w.heap.size, 0, none⟩ = some (uv a.1) ∧ W.cell? ⟨w.heap.size, 1, none⟩ = some (uv a.2)))
    (first | exact S0.out)
    (first
      | (go_at_call 17; refine (CH.out _).mono ?_; rintro e w10 ⟨rfl, hb⟩; have ha := (by first | exact HB.out.call hb | exact (HB.out.keeps (keeps_drewN _ _)).call hb | exact (HB.out.keeps (keeps_drew _)).call hb); have HB := Lib.hid ha; have S0 := Lib.hid (KEY.out _ _ _ ha); clear ha hb)
      | (go_at_call 18; refine (CK.out _).mono ?_; rintro e w10 ⟨rfl, hb⟩; have ha := (by first | exact HB.out.call hb | exact (HB.out.keeps (keeps_drewN _ _)).call hb | exact (HB.out.keeps (keeps_drew _)).call hb); have HB := Lib.hid ha; have S0 := Lib.hid (KEY.out _ _ _ ha); clear ha hb))
  have CM := Lib.hid may_any
  obtain ⟨⟨m0, m1⟩, ⟨d0, d1⟩, c0, c1⟩ := S0.out
  clear S0 CH CK
  go_upto_region 3 with fail
  go_cut [] from 11 to 100 (fun wc => HL w [(w.heap.size + 1 + 1, u2T, u2 n0 n1), (w.heap.size + 1, tnT, tC (tMay b)), (w.heap.size, tnT, tC (tMay a))] wc)
  case first =>
    have ff := SOFT.out _ _ _ HB.out
    obtain ⟨f0, f1, f2, f3⟩ := ff
    go_region_with (go_at_call 9; refine (CM.out _ _).mono ?_; rintro e w1 ⟨rfl, hb1⟩; have hB := (by first | exact (HB.out.keeps (keeps_drew _)).call hb1 | exact HB.out.call hb1); have cc := (KEY.out _ _ _ hB).2; obtain ⟨⟨d0, d1⟩, c0, c1⟩ := cc; have ff := SOFT.out _ _ _ hB; obtain ⟨f0, f1, f2, f3⟩ := ff; have HB := Lib.hid hB; clear hB hb1)
    all_goals
      go_wp2_with fail
      go_meet
      case rel => exact HB.out.setAB (tMay a) (tMay b)
  case rest =>
    clear m0 m1 c0 c1 d0 d1 HB CM
    have hb := hcut
    clear hcut
    have CM := Lib.hid (fun W => pmeet_any (tMay a) (tMay b) W)
    have CN := Lib.hid (fun W => xmeet_any (tMay a) (tMay b) W)
    have CH := Lib.hid (fun W => phas_any (tMay a) n0 W)
    have CK := Lib.hid (fun W => xhas_any (tMay a) n0 W)
    have CI := Lib.hid (fun W => pin_any (tMay a) (tMay b) W)
    have CJ := Lib.hid (fun W => xin_any (tMay a) (tMay b) W)
    have CO := Lib.hid (fun W => pjoin_any (tMay a) (tMay b) W)
    have CQ := Lib.hid (fun W => xjoin_any (tMay a) (tMay b) W)
    generalize tMay a = a' at *
    generalize tMay b = b' at *
    generalize meetV a' b' = X at *
    generalize decide (agree a' b') = ok at *
    generalize decide (Tn.has a' n0) = h1 at *
    generalize decide (tIn a' b') = h2 at *
    generalize tJoin a' b' = J at *
    have qX := eq_self X
    have qJ := eq_self J
    have HB := Lib.hid hb
    obtain ⟨⟨m0, m1⟩, ⟨d0, d1⟩, c0, c1⟩ := KEY.out _ _ _ hb
    clear hb
    go_upto_region 5 with (go_at_call 19; refine (CM.out _).mono ?_; rintro e w2 ⟨rfl, hb⟩; have HB2 := Lib.hid (HB.out.call hb); clear hb)
    have hb := HB2.out.push tnT (tC X)
    clear m0 m1 d0 d1 c0 c1 HB HB2 CM
    generalize w2.heap.size = g1 at *
    generalize w2.alloc (.cells #[uv X.1, uv X.2] tnT) = w3 at *
    have HB := Lib.hid hb
    obtain ⟨⟨hx, hn, hbb, ha, _⟩, _⟩ := hb
    obtain ⟨c0, c1⟩ := ha.two
    obtain ⟨d0, d1⟩ := hbb.two
    clear hx hn hbb ha
    go_upto_region 6 with (go_at_call 20; refine (CN.out _).mono ?_; rintro e w4 ⟨rfl, hb⟩; have HB2 := Lib.hid (HB.out.call hb); clear hb)
    have hb := HB2.out.push tnT (tC X)
    clear c0 c1 d0 d1 HB HB2 CN KEY SOFT
    generalize w4.heap.size = g2 at *
    generalize w4.alloc (.cells #[uv X.1, uv X.2] tnT) = w5 at *
    have key : ∀ W, HL w [(g2, tnT, tC X), (g1, tnT, tC X), (w.heap.size + 1 + 1, u2T, u2 n0 n1), (w.heap.size + 1, tnT, tC b'), (w.heap.size, tnT, tC a')] W → ((W.cell? ⟨g2, 0, none⟩ = some (uv X.1) ∧ W.cell? ⟨g2, 1, none⟩ = some (uv X.2)) ∧ (W.cell? ⟨g1, 0, none⟩ = some (uv X.1) ∧ W.cell? ⟨g1, 1, none⟩ = some (uv X.2)) ∧ (W.cell? ⟨w.heap.size + 1 + 1, 0, none⟩ = some (uv n0) ∧ W.cell? ⟨w.heap.size + 1 + 1, 1, none⟩ = some (uv n1)) ∧ (W.cell? ⟨w.heap.size + 1, 0, none⟩ = some (uv b'.1) ∧ W.cell? ⟨w.heap.size + 1, 1, none⟩ = some (uv b'.2)) ∧ (W.cell? ⟨w.heap.size, 0, none⟩ = some (uv a'.1) ∧ W.cell? ⟨w.heap.size, 1, none⟩ = some (uv a'.2))) := by
      rintro W ⟨⟨h2, h1, hn, hbb, ha, _⟩, _⟩
      exact ⟨h2.two, h1.two, hn.two, hbb.two, ha.two⟩
    have KEY2 := Lib.hid key
    have HB := Lib.hid hb
    have S0 := Lib.hid (key _ hb)
    obtain ⟨⟨y0, y1⟩, ⟨x0, x1⟩, ⟨m0, m1⟩, ⟨d0, d1⟩, c0, c1⟩ := key _ hb
    clear hb key
    have CA := Lib.hid awake_any
    have CF := Lib.hid (fun W => pof_any (minB n0 n1) (maxB n0 n1) W)
    have CG := Lib.hid (fun W => xof_any (minB n0 n1) (maxB n0 n1) W)
    generalize tRange (minB n0 n1) (maxB n0 n1) = R at *
    have qR := eq_self R
    have rmin := n64_min
    have rmax := n64_max
    dsimp only [List.append]
    clear y0 y1 x0 x1 m0 m1 d0 d1 c0 c1 S0
    have hb := HB.out.keeps (keeps_drew w5)
    refine wp_region_noPanic ?_
    refine wp_region_held_drew (S := fun W => (W.cell? ⟨g2, 0, none⟩ = some (uv X.1) ∧ W.cell? ⟨g2, 1, none⟩ = some (uv X.2)) ∧ (W.cell? ⟨g1, 0, none⟩ = some (uv X.1) ∧ W.cell? ⟨g1, 1, none⟩ = some (uv X.2)) ∧ (W.cell? ⟨w.heap.size + 1 + 1, 0, none⟩ = some (uv n0) ∧ W.cell? ⟨w.heap.size + 1 + 1, 1, none⟩ = some (uv n1)) ∧ (W.cell? ⟨w.heap.size + 1, 0, none⟩ = some (uv b'.1) ∧ W.cell? ⟨w.heap.size + 1, 1, none⟩ = some (uv b'.2)) ∧ (W.cell? ⟨w.heap.size, 0, none⟩ = some (uv a'.1) ∧ W.cell? ⟨w.heap.size, 1, none⟩ = some (uv a'.2))) (by kernel_rfl) (KEY2.out _ hb) (fun hHeld => ?_)
    change wpAnyH _ _ _ _ _ 66 #[false, false, false, false, false, false, false, false, false, false, false, false, false, false, false, false, false, false, false, false, false, false, false, false, false, false, false, false, false, false, false, false, false, false, false, false, false, false, false, false, false, false, false, false, false, false, false, false, false, false, false, false, false, false, false, false, false, false, false, false, false, false, false, false, false, false] _ _
    have HB := Lib.hid hb
    clear hb
    generalize w5.drew = wd at *
    refine wpAnyH_take (i := 0) (oi := _) (v := ?_) rfl (by kernel_rfl) (by kernel_rfl) (by kernel_rfl) (fun _ _ _ h => h) (Or.inl ⟨by kernel_rfl, ?_⟩) (by assumption) ?_
    rotate_left 1
    · intro W hSw; obtain ⟨⟨y0, y1⟩, ⟨x0, x1⟩, ⟨m0, m1⟩, ⟨d0, d1⟩, c0, c1⟩ := hSw; go_simp; (try with_reducible rfl)
    simp only [Act.put, List.getElem_toArray, List.getElem_cons_succ, List.getElem_cons_zero, List.setIfInBounds_toArray, List.set_cons_succ, List.set_cons_zero]
    refine wpAnyH_take (i := 1) (oi := _) (v := ?_) rfl (by kernel_rfl) (by kernel_rfl) (by kernel_rfl) (fun _ _ _ h => h) (Or.inl ⟨by kernel_rfl, ?_⟩) (by assumption) ?_
    rotate_left 1
    · intro W hSw; obtain ⟨⟨y0, y1⟩, ⟨x0, x1⟩, ⟨m0, m1⟩, ⟨d0, d1⟩, c0, c1⟩ := hSw; go_simp; (try with_reducible rfl)
    simp only [Act.put, List.getElem_toArray, List.getElem_cons_succ, List.getElem_cons_zero, List.setIfInBounds_toArray, List.set_cons_succ, List.set_cons_zero]
    refine wpAnyH_take (i := 2) (oi := _) (v := ?_) rfl (by kernel_rfl) (by kernel_rfl) (by kernel_rfl) (fun _ _ _ h => h) (Or.inl ⟨by kernel_rfl, ?_⟩) (by assumption) ?_
    rotate_left 1
    · intro W hSw; obtain ⟨⟨y0, y1⟩, ⟨x0, x1⟩, ⟨m0, m1⟩, ⟨d0, d1⟩, c0, c1⟩ := hSw; go_simp; (try with_reducible rfl)
    simp only [Act.put, List.getElem_toArray, List.getElem_cons_succ, List.getElem_cons_zero, List.setIfInBounds_toArray, List.set_cons_succ, List.set_cons_zero]
    refine wpAnyH_take (i := 4) (oi := _) (v := ?_) rfl (by kernel_rfl) (by kernel_rfl) (by kernel_rfl) (fun _ _ _ h => h) (Or.inl ⟨by kernel_rfl, ?_⟩) (by assumption) ?_
    rotate_left 1
    · intro W hSw; obtain ⟨⟨y0, y1⟩, ⟨x0, x1⟩, ⟨m0, m1⟩, ⟨d0, d1⟩, c0, c1⟩ := hSw; go_simp; (try with_reducible rfl)
    simp only [Act.put, List.getElem_toArray, List.getElem_cons_succ, List.getElem_cons_zero, List.setIfInBounds_toArray, List.set_cons_succ, List.set_cons_zero]
    refine wpAnyH_take (i := 5) (oi := _) (v := ?_) rfl (by kernel_rfl) (by kernel_rfl) (by kernel_rfl) (fun _ _ _ h => h) (Or.inl ⟨by kernel_rfl, ?_⟩) (by assumption) ?_
    rotate_left 1
    · intro W hSw; obtain ⟨⟨y0, y1⟩, ⟨x0, x1⟩, ⟨m0, m1⟩, ⟨d0, d1⟩, c0, c1⟩ := hSw; go_simp; (try with_reducible rfl)
    simp only [Act.put, List.getElem_toArray, List.getElem_cons_succ, List.getElem_cons_zero, List.setIfInBounds_toArray, List.set_cons_succ, List.set_cons_zero]
    refine wpAnyH_take (i := 6) (oi := _) (v := ?_) rfl (by kernel_rfl) (by kernel_rfl) (by kernel_rfl) (fun _ _ _ h => h) (Or.inl ⟨by kernel_rfl, ?_⟩) (by assumption) ?_
    rotate_left 1
    · intro W hSw; obtain ⟨⟨y0, y1⟩, ⟨x0, x1⟩, ⟨m0, m1⟩, ⟨d0, d1⟩, c0, c1⟩ := hSw; go_simp; (try with_reducible rfl)
    simp only [Act.put, List.getElem_toArray, List.getElem_cons_succ, List.getElem_cons_zero, List.setIfInBounds_toArray, List.set_cons_succ, List.set_cons_zero]
    refine wpAnyH_ready (rs := [3]) (by kernel_rfl) (by simp) ?_
    refine AllReadyH.cons (o := _) rfl (fun K hK => ?_) AllReadyH.nil
    go_simp
    go_at_call 17; refine (CH.out _).mono ?_; rintro e V1 ⟨rfl, hb⟩
    go_wp2_with fail
    have hB := HB.out.call hb
    refine hK.out _ _ (KEY2.out _ hB) (fun hHeld => ?_)
    have HB := Lib.hid hB
    clear hK K hB hb
    simp only [Act.put, List.getElem_toArray, List.getElem_cons_succ, List.getElem_cons_zero, List.setIfInBounds_toArray, List.set_cons_succ, List.set_cons_zero]
    refine wpAnyH_ready (rs := [7]) (by kernel_rfl) (by simp) ?_
    refine AllReadyH.cons (o := _) rfl (fun K hK => ?_) AllReadyH.nil
    go_simp
    go_at_call 18; refine (CK.out _).mono ?_; rintro e V2 ⟨rfl, hb⟩
    go_wp2_with fail
    have hB := HB.out.call hb
    refine hK.out _ _ (KEY2.out _ hB) (fun hHeld => ?_)
    have HB := Lib.hid hB
    clear hK K hB hb
    simp only [Act.put, List.getElem_toArray, List.getElem_cons_succ, List.getElem_cons_zero, List.setIfInBounds_toArray, List.set_cons_succ, List.set_cons_zero]
    refine wpAnyH_take (i := 8) (oi := _) (v := ?_) rfl (by kernel_rfl) (by kernel_rfl) (by kernel_rfl) (fun _ _ _ h => h) (Or.inl ⟨by kernel_rfl, ?_⟩) (by assumption) ?_
    rotate_left 1
    · intro W hSw; obtain ⟨⟨y0, y1⟩, ⟨x0, x1⟩, ⟨m0, m1⟩, ⟨d0, d1⟩, c0, c1⟩ := hSw; go_simp; (try with_reducible rfl)
    simp only [Act.put, List.getElem_toArray, List.getElem_cons_succ, List.getElem_cons_zero, List.setIfInBounds_toArray, List.set_cons_succ, List.set_cons_zero]
    refine wpAnyH_take (i := 9) (oi := _) (v := ?_) rfl (by kernel_rfl) (by kernel_rfl) (by kernel_rfl) (fun _ _ _ h => h) (Or.inl ⟨by kernel_rfl, ?_⟩) (by assumption) ?_
    rotate_left 1
    · intro W hSw; obtain ⟨⟨y0, y1⟩, ⟨x0, x1⟩, ⟨m0, m1⟩, ⟨d0, d1⟩, c0, c1⟩ := hSw; go_simp; (try with_reducible rfl)
    simp only [Act.put, List.getElem_toArray, List.getElem_cons_succ, List.getElem_cons_zero, List.setIfInBounds_toArray, List.set_cons_succ, List.set_cons_zero]
    refine wpAnyH_take (i := 10) (oi := _) (v := ?_) rfl (by kernel_rfl) (by kernel_rfl) (by kernel_rfl) (fun _ _ _ h => h) (Or.inl ⟨by kernel_rfl, ?_⟩) (by assumption) ?_
    rotate_left 1
    · intro W hSw; obtain ⟨⟨y0, y1⟩, ⟨x0, x1⟩, ⟨m0, m1⟩, ⟨d0, d1⟩, c0, c1⟩ := hSw; go_simp; (try with_reducible rfl)
    simp only [Act.put, List.getElem_toArray, List.getElem_cons_succ, List.getElem_cons_zero, List.setIfInBounds_toArray, List.set_cons_succ, List.set_cons_zero]
    refine wpAnyH_take (i := 11) (oi := _) (v := ?_) rfl (by kernel_rfl) (by kernel_rfl) (by kernel_rfl) (fun _ _ _ h => h) (Or.inl ⟨by kernel_rfl, ?_⟩) (by assumption) ?_
    rotate_left 1
    · intro W hSw; obtain ⟨⟨y0, y1⟩, ⟨x0, x1⟩, ⟨m0, m1⟩, ⟨d0, d1⟩, c0, c1⟩ := hSw; go_simp; (try with_reducible rfl)
    simp only [Act.put, List.getElem_toArray, List.getElem_cons_succ, List.getElem_cons_zero, List.setIfInBounds_toArray, List.set_cons_succ, List.set_cons_zero]
    refine wpAnyH_take (i := 13) (oi := _) (v := ?_) rfl (by kernel_rfl) (by kernel_rfl) (by kernel_rfl) (fun _ _ _ h => h) (Or.inl ⟨by kernel_rfl, ?_⟩) (by assumption) ?_
    rotate_left 1
    · intro W hSw; obtain ⟨⟨y0, y1⟩, ⟨x0, x1⟩, ⟨m0, m1⟩, ⟨d0, d1⟩, c0, c1⟩ := hSw; go_simp; (try with_reducible rfl)
    simp only [Act.put, List.getElem_toArray, List.getElem_cons_succ, List.getElem_cons_zero, List.setIfInBounds_toArray, List.set_cons_succ, List.set_cons_zero]
    refine wpAnyH_take (i := 14) (oi := _) (v := ?_) rfl (by kernel_rfl) (by kernel_rfl) (by kernel_rfl) (fun _ _ _ h => h) (Or.inl ⟨by kernel_rfl, ?_⟩) (by assumption) ?_
    rotate_left 1
    · intro W hSw; obtain ⟨⟨y0, y1⟩, ⟨x0, x1⟩, ⟨m0, m1⟩, ⟨d0, d1⟩, c0, c1⟩ := hSw; go_simp; (try with_reducible rfl)
    simp only [Act.put, List.getElem_toArray, List.getElem_cons_succ, List.getElem_cons_zero, List.setIfInBounds_toArray, List.set_cons_succ, List.set_cons_zero]
    refine wpAnyH_ready (rs := [12]) (by kernel_rfl) (by simp) ?_
    refine AllReadyH.cons (o := _) rfl (fun K hK => ?_) AllReadyH.nil
    go_simp
    go_at_call 21; refine (CI.out _).mono ?_; rintro e V3 ⟨rfl, hb⟩
    go_wp2_with fail
    have hB := HB.out.call hb
    refine hK.out _ _ (KEY2.out _ hB) (fun hHeld => ?_)
    have HB := Lib.hid hB
    clear hK K hB hb
    simp only [Act.put, List.getElem_toArray, List.getElem_cons_succ, List.getElem_cons_zero, List.setIfInBounds_toArray, List.set_cons_succ, List.set_cons_zero]
    refine wpAnyH_ready (rs := [15]) (by kernel_rfl) (by simp) ?_
    refine AllReadyH.cons (o := _) rfl (fun K hK => ?_) AllReadyH.nil
    go_simp
    go_at_call 22; refine (CJ.out _).mono ?_; rintro e V4 ⟨rfl, hb⟩
    go_wp2_with fail
    have hB := HB.out.call hb
    refine hK.out _ _ (KEY2.out _ hB) (fun hHeld => ?_)
    have HB := Lib.hid hB
    clear hK K hB hb
    simp only [Act.put, List.getElem_toArray, List.getElem_cons_succ, List.getElem_cons_zero, List.setIfInBounds_toArray, List.set_cons_succ, List.set_cons_zero]
    refine wpAnyH_take (i := 16) (oi := _) (v := ?_) rfl (by kernel_rfl) (by kernel_rfl) (by kernel_rfl) (fun _ _ _ h => h) (Or.inl ⟨by kernel_rfl, ?_⟩) (by assumption) ?_
    rotate_left 1
    · intro W hSw; obtain ⟨⟨y0, y1⟩, ⟨x0, x1⟩, ⟨m0, m1⟩, ⟨d0, d1⟩, c0, c1⟩ := hSw; go_simp; (try with_reducible rfl)
    simp only [Act.put, List.getElem_toArray, List.getElem_cons_succ, List.getElem_cons_zero, List.setIfInBounds_toArray, List.set_cons_succ, List.set_cons_zero]
    refine wpAnyH_take (i := 17) (oi := _) (v := ?_) rfl (by kernel_rfl) (by kernel_rfl) (by kernel_rfl) (fun _ _ _ h => h) (Or.inl ⟨by kernel_rfl, ?_⟩) (by assumption) ?_
    rotate_left 1
    · intro W hSw; obtain ⟨⟨y0, y1⟩, ⟨x0, x1⟩, ⟨m0, m1⟩, ⟨d0, d1⟩, c0, c1⟩ := hSw; go_simp; (try with_reducible rfl)
    simp only [Act.put, List.getElem_toArray, List.getElem_cons_succ, List.getElem_cons_zero, List.setIfInBounds_toArray, List.set_cons_succ, List.set_cons_zero]
    refine wpAnyH_take (i := 18) (oi := _) (v := ?_) rfl (by kernel_rfl) (by kernel_rfl) (by kernel_rfl) (fun _ _ _ h => h) (Or.inl ⟨by kernel_rfl, ?_⟩) (by assumption) ?_
    rotate_left 1
    · intro W hSw; obtain ⟨⟨y0, y1⟩, ⟨x0, x1⟩, ⟨m0, m1⟩, ⟨d0, d1⟩, c0, c1⟩ := hSw; go_simp; (try with_reducible rfl)
    simp only [Act.put, List.getElem_toArray, List.getElem_cons_succ, List.getElem_cons_zero, List.setIfInBounds_toArray, List.set_cons_succ, List.set_cons_zero]
    refine wpAnyH_take (i := 19) (oi := _) (v := ?_) rfl (by kernel_rfl) (by kernel_rfl) (by kernel_rfl) (fun _ _ _ h => h) (Or.inl ⟨by kernel_rfl, ?_⟩) (by assumption) ?_
    rotate_left 1
    · intro W hSw; obtain ⟨⟨y0, y1⟩, ⟨x0, x1⟩, ⟨m0, m1⟩, ⟨d0, d1⟩, c0, c1⟩ := hSw; go_simp; (try with_reducible rfl)
    simp only [Act.put, List.getElem_toArray, List.getElem_cons_succ, List.getElem_cons_zero, List.setIfInBounds_toArray, List.set_cons_succ, List.set_cons_zero]
    refine wpAnyH_take (i := 20) (oi := _) (v := ?_) rfl (by kernel_rfl) (by kernel_rfl) (by kernel_rfl) (fun _ _ _ h => h) (Or.inl ⟨by kernel_rfl, ?_⟩) (by assumption) ?_
    rotate_left 1
    · intro W hSw; obtain ⟨⟨y0, y1⟩, ⟨x0, x1⟩, ⟨m0, m1⟩, ⟨d0, d1⟩, c0, c1⟩ := hSw; go_simp; (try with_reducible rfl)
    simp only [Act.put, List.getElem_toArray, List.getElem_cons_succ, List.getElem_cons_zero, List.setIfInBounds_toArray, List.set_cons_succ, List.set_cons_zero]
    refine wpAnyH_take (i := 21) (oi := _) (v := ?_) rfl (by kernel_rfl) (by kernel_rfl) (by kernel_rfl) (fun _ _ _ h => h) (Or.inl ⟨by kernel_rfl, ?_⟩) (by assumption) ?_
    rotate_left 1
    · intro W hSw; obtain ⟨⟨y0, y1⟩, ⟨x0, x1⟩, ⟨m0, m1⟩, ⟨d0, d1⟩, c0, c1⟩ := hSw; go_simp; (try with_reducible rfl)
    simp only [Act.put, List.getElem_toArray, List.getElem_cons_succ, List.getElem_cons_zero, List.setIfInBounds_toArray, List.set_cons_succ, List.set_cons_zero]
    refine wpAnyH_take (i := 22) (oi := _) (v := ?_) rfl (by kernel_rfl) (by kernel_rfl) (by kernel_rfl) (fun _ _ _ h => h) (Or.inl ⟨by kernel_rfl, ?_⟩) (by assumption) ?_
    rotate_left 1
    · intro W hSw; obtain ⟨⟨y0, y1⟩, ⟨x0, x1⟩, ⟨m0, m1⟩, ⟨d0, d1⟩, c0, c1⟩ := hSw; go_simp; (try with_reducible rfl)
    simp only [Act.put, List.getElem_toArray, List.getElem_cons_succ, List.getElem_cons_zero, List.setIfInBounds_toArray, List.set_cons_succ, List.set_cons_zero]
    refine wpAnyH_take (i := 23) (oi := _) (v := ?_) rfl (by kernel_rfl) (by kernel_rfl) (by kernel_rfl) (fun _ _ _ h => h) (Or.inl ⟨by kernel_rfl, ?_⟩) (by assumption) ?_
    rotate_left 1
    · intro W hSw; obtain ⟨⟨y0, y1⟩, ⟨x0, x1⟩, ⟨m0, m1⟩, ⟨d0, d1⟩, c0, c1⟩ := hSw; go_simp; (try with_reducible rfl)
    simp only [Act.put, List.getElem_toArray, List.getElem_cons_succ, List.getElem_cons_zero, List.setIfInBounds_toArray, List.set_cons_succ, List.set_cons_zero]
    refine wpAnyH_take (i := 24) (oi := _) (v := ?_) rfl (by kernel_rfl) (by kernel_rfl) (by kernel_rfl) (fun _ _ _ h => h) (Or.inl ⟨by kernel_rfl, ?_⟩) (by assumption) ?_
    rotate_left 1
    · intro W hSw; obtain ⟨⟨y0, y1⟩, ⟨x0, x1⟩, ⟨m0, m1⟩, ⟨d0, d1⟩, c0, c1⟩ := hSw; go_simp; (try with_reducible rfl)
    simp only [Act.put, List.getElem_toArray, List.getElem_cons_succ, List.getElem_cons_zero, List.setIfInBounds_toArray, List.set_cons_succ, List.set_cons_zero]
    refine wpAnyH_take (i := 25) (oi := _) (v := ?_) rfl (by kernel_rfl) (by kernel_rfl) (by kernel_rfl) (fun _ _ _ h => h) (Or.inl ⟨by kernel_rfl, ?_⟩) (by assumption) ?_
    rotate_left 1
    · intro W hSw; obtain ⟨⟨y0, y1⟩, ⟨x0, x1⟩, ⟨m0, m1⟩, ⟨d0, d1⟩, c0, c1⟩ := hSw; go_simp; (try with_reducible rfl)
    simp only [Act.put, List.getElem_toArray, List.getElem_cons_succ, List.getElem_cons_zero, List.setIfInBounds_toArray, List.set_cons_succ, List.set_cons_zero]
    refine wpAnyH_take (i := 26) (oi := _) (v := ?_) rfl (by kernel_rfl) (by kernel_rfl) (by kernel_rfl) (fun _ _ _ h => h) (Or.inl ⟨by kernel_rfl, ?_⟩) (by assumption) ?_
    rotate_left 1
    · intro W hSw; obtain ⟨⟨y0, y1⟩, ⟨x0, x1⟩, ⟨m0, m1⟩, ⟨d0, d1⟩, c0, c1⟩ := hSw; go_simp; (try with_reducible rfl)
    simp only [Act.put, List.getElem_toArray, List.getElem_cons_succ, List.getElem_cons_zero, List.setIfInBounds_toArray, List.set_cons_succ, List.set_cons_zero]
    refine wpAnyH_take (i := 27) (oi := _) (v := ?_) rfl (by kernel_rfl) (by kernel_rfl) (by kernel_rfl) (fun _ _ _ h => h) (Or.inl ⟨by kernel_rfl, ?_⟩) (by assumption) ?_
    rotate_left 1
    · intro W hSw; obtain ⟨⟨y0, y1⟩, ⟨x0, x1⟩, ⟨m0, m1⟩, ⟨d0, d1⟩, c0, c1⟩ := hSw; go_simp; (try with_reducible rfl)
    simp only [Act.put, List.getElem_toArray, List.getElem_cons_succ, List.getElem_cons_zero, List.setIfInBounds_toArray, List.set_cons_succ, List.set_cons_zero]
    refine wpAnyH_take (i := 28) (oi := _) (v := ?_) rfl (by kernel_rfl) (by kernel_rfl) (by kernel_rfl) (fun _ _ _ h => h) (Or.inl ⟨by kernel_rfl, ?_⟩) (by assumption) ?_
    rotate_left 1
    · intro W hSw; obtain ⟨⟨y0, y1⟩, ⟨x0, x1⟩, ⟨m0, m1⟩, ⟨d0, d1⟩, c0, c1⟩ := hSw; go_simp; (try with_reducible rfl)
    simp only [Act.put, List.getElem_toArray, List.getElem_cons_succ, List.getElem_cons_zero, List.setIfInBounds_toArray, List.set_cons_succ, List.set_cons_zero]
    refine wpAnyH_take (i := 29) (oi := _) (v := ?_) rfl (by kernel_rfl) (by kernel_rfl) (by kernel_rfl) (fun _ _ _ h => h) (Or.inl ⟨by kernel_rfl, ?_⟩) (by assumption) ?_
    rotate_left 1
    · intro W hSw; obtain ⟨⟨y0, y1⟩, ⟨x0, x1⟩, ⟨m0, m1⟩, ⟨d0, d1⟩, c0, c1⟩ := hSw; go_simp; (try with_reducible rfl)
    simp only [Act.put, List.getElem_toArray, List.getElem_cons_succ, List.getElem_cons_zero, List.setIfInBounds_toArray, List.set_cons_succ, List.set_cons_zero]
    refine wpAnyH_take (i := 30) (oi := _) (v := ?_) rfl (by kernel_rfl) (by kernel_rfl) (by kernel_rfl) (fun _ _ _ h => h) (Or.inl ⟨by kernel_rfl, ?_⟩) (by assumption) ?_
    rotate_left 1
    · intro W hSw; obtain ⟨⟨y0, y1⟩, ⟨x0, x1⟩, ⟨m0, m1⟩, ⟨d0, d1⟩, c0, c1⟩ := hSw; go_simp; (try with_reducible rfl)
    simp only [Act.put, List.getElem_toArray, List.getElem_cons_succ, List.getElem_cons_zero, List.setIfInBounds_toArray, List.set_cons_succ, List.set_cons_zero]
    refine wpAnyH_take (i := 32) (oi := _) (v := ?_) rfl (by kernel_rfl) (by kernel_rfl) (by kernel_rfl) (fun _ _ _ h => h) (Or.inl ⟨by kernel_rfl, ?_⟩) (by assumption) ?_
    rotate_left 1
    · intro W hSw; obtain ⟨⟨y0, y1⟩, ⟨x0, x1⟩, ⟨m0, m1⟩, ⟨d0, d1⟩, c0, c1⟩ := hSw; go_simp; (try with_reducible rfl)
    simp only [Act.put, List.getElem_toArray, List.getElem_cons_succ, List.getElem_cons_zero, List.setIfInBounds_toArray, List.set_cons_succ, List.set_cons_zero]
    refine wpAnyH_take (i := 33) (oi := _) (v := ?_) rfl (by kernel_rfl) (by kernel_rfl) (by kernel_rfl) (fun _ _ _ h => h) (Or.inl ⟨by kernel_rfl, ?_⟩) (by assumption) ?_
    rotate_left 1
    · intro W hSw; obtain ⟨⟨y0, y1⟩, ⟨x0, x1⟩, ⟨m0, m1⟩, ⟨d0, d1⟩, c0, c1⟩ := hSw; go_simp; (try with_reducible rfl)
    simp only [Act.put, List.getElem_toArray, List.getElem_cons_succ, List.getElem_cons_zero, List.setIfInBounds_toArray, List.set_cons_succ, List.set_cons_zero]
    refine wpAnyH_ready (rs := [31]) (by kernel_rfl) (by simp) ?_
    refine AllReadyH.cons (o := _) rfl (fun K hK => ?_) AllReadyH.nil
    go_simp
    go_at_call 23; refine (CO.out _).mono ?_; rintro e V5 ⟨rfl, hb⟩
    go_wp2_with fail
    have hB := HB.out.call hb
    refine hK.out _ _ (KEY2.out _ hB) (fun hHeld => ?_)
    have HB := Lib.hid hB
    clear hK K hB hb
    simp only [Act.put, List.getElem_toArray, List.getElem_cons_succ, List.getElem_cons_zero, List.setIfInBounds_toArray, List.set_cons_succ, List.set_cons_zero]
    refine wpAnyH_ready (rs := [34]) (by kernel_rfl) (by simp) ?_
    refine AllReadyH.cons (o := _) rfl (fun K hK => ?_) AllReadyH.nil
    go_simp
    go_at_call 24; refine (CQ.out _).mono ?_; rintro e V6 ⟨rfl, hb⟩
    go_wp2_with fail
    have hB := HB.out.call hb
    refine hK.out _ _ (KEY2.out _ hB) (fun hHeld => ?_)
    have HB := Lib.hid hB
    clear hK K hB hb
    simp only [Act.put, List.getElem_toArray, List.getElem_cons_succ, List.getElem_cons_zero, List.setIfInBounds_toArray, List.set_cons_succ, List.set_cons_zero]
    refine wpAnyH_take (i := 35) (oi := _) (v := ?_) rfl (by kernel_rfl) (by kernel_rfl) (by kernel_rfl) (fun _ _ _ h => h) (Or.inl ⟨by kernel_rfl, ?_⟩) (by assumption) ?_
    rotate_left 1
    · intro W hSw; obtain ⟨⟨y0, y1⟩, ⟨x0, x1⟩, ⟨m0, m1⟩, ⟨d0, d1⟩, c0, c1⟩ := hSw; go_simp; (try with_reducible rfl)
    simp only [Act.put, List.getElem_toArray, List.getElem_cons_succ, List.getElem_cons_zero, List.setIfInBounds_toArray, List.set_cons_succ, List.set_cons_zero]
    refine wpAnyH_take (i := 36) (oi := _) (v := ?_) rfl (by kernel_rfl) (by kernel_rfl) (by kernel_rfl) (fun _ _ _ h => h) (Or.inl ⟨by kernel_rfl, ?_⟩) (by assumption) ?_
    rotate_left 1
    · intro W hSw; obtain ⟨⟨y0, y1⟩, ⟨x0, x1⟩, ⟨m0, m1⟩, ⟨d0, d1⟩, c0, c1⟩ := hSw; go_simp; (try with_reducible rfl)
    simp only [Act.put, List.getElem_toArray, List.getElem_cons_succ, List.getElem_cons_zero, List.setIfInBounds_toArray, List.set_cons_succ, List.set_cons_zero]
    refine wpAnyH_take (i := 37) (oi := _) (v := ?_) rfl (by kernel_rfl) (by kernel_rfl) (by kernel_rfl) (fun _ _ _ h => h) (Or.inl ⟨by kernel_rfl, ?_⟩) (by assumption) ?_
    rotate_left 1
    · intro W hSw; obtain ⟨⟨y0, y1⟩, ⟨x0, x1⟩, ⟨m0, m1⟩, ⟨d0, d1⟩, c0, c1⟩ := hSw; go_simp; (try with_reducible rfl)
    simp only [Act.put, List.getElem_toArray, List.getElem_cons_succ, List.getElem_cons_zero, List.setIfInBounds_toArray, List.set_cons_succ, List.set_cons_zero]
    refine wpAnyH_take (i := 38) (oi := _) (v := ?_) rfl (by kernel_rfl) (by kernel_rfl) (by kernel_rfl) (fun _ _ _ h => h) (Or.inl ⟨by kernel_rfl, ?_⟩) (by assumption) ?_
    rotate_left 1
    · intro W hSw; obtain ⟨⟨y0, y1⟩, ⟨x0, x1⟩, ⟨m0, m1⟩, ⟨d0, d1⟩, c0, c1⟩ := hSw; go_simp; (try with_reducible rfl)
    simp only [Act.put, List.getElem_toArray, List.getElem_cons_succ, List.getElem_cons_zero, List.setIfInBounds_toArray, List.set_cons_succ, List.set_cons_zero]
    refine wpAnyH_take (i := 39) (oi := _) (v := ?_) rfl (by kernel_rfl) (by kernel_rfl) (by kernel_rfl) (fun _ _ _ h => h) (Or.inl ⟨by kernel_rfl, ?_⟩) (by assumption) ?_
    rotate_left 1
    · intro W hSw; obtain ⟨⟨y0, y1⟩, ⟨x0, x1⟩, ⟨m0, m1⟩, ⟨d0, d1⟩, c0, c1⟩ := hSw; go_simp; (try with_reducible rfl)
    simp only [Act.put, List.getElem_toArray, List.getElem_cons_succ, List.getElem_cons_zero, List.setIfInBounds_toArray, List.set_cons_succ, List.set_cons_zero]
    refine wpAnyH_take (i := 40) (oi := _) (v := ?_) rfl (by kernel_rfl) (by kernel_rfl) (by kernel_rfl) (fun _ _ _ h => h) (Or.inl ⟨by kernel_rfl, ?_⟩) (by assumption) ?_
    rotate_left 1
    · intro W hSw; obtain ⟨⟨y0, y1⟩, ⟨x0, x1⟩, ⟨m0, m1⟩, ⟨d0, d1⟩, c0, c1⟩ := hSw; go_simp; (try with_reducible rfl)
    simp only [Act.put, List.getElem_toArray, List.getElem_cons_succ, List.getElem_cons_zero, List.setIfInBounds_toArray, List.set_cons_succ, List.set_cons_zero]
    refine wpAnyH_take (i := 41) (oi := _) (v := ?_) rfl (by kernel_rfl) (by kernel_rfl) (by kernel_rfl) (fun _ _ _ h => h) (Or.inl ⟨by kernel_rfl, ?_⟩) (by assumption) ?_
    rotate_left 1
    · intro W hSw; obtain ⟨⟨y0, y1⟩, ⟨x0, x1⟩, ⟨m0, m1⟩, ⟨d0, d1⟩, c0, c1⟩ := hSw; go_simp; (try with_reducible rfl)
    simp only [Act.put, List.getElem_toArray, List.getElem_cons_succ, List.getElem_cons_zero, List.setIfInBounds_toArray, List.set_cons_succ, List.set_cons_zero]
    refine wpAnyH_take (i := 42) (oi := _) (v := ?_) rfl (by kernel_rfl) (by kernel_rfl) (by kernel_rfl) (fun _ _ _ h => h) (Or.inl ⟨by kernel_rfl, ?_⟩) (by assumption) ?_
    rotate_left 1
    · intro W hSw; obtain ⟨⟨y0, y1⟩, ⟨x0, x1⟩, ⟨m0, m1⟩, ⟨d0, d1⟩, c0, c1⟩ := hSw; go_simp; (try with_reducible rfl)
    simp only [Act.put, List.getElem_toArray, List.getElem_cons_succ, List.getElem_cons_zero, List.setIfInBounds_toArray, List.set_cons_succ, List.set_cons_zero]
    refine wpAnyH_take (i := 43) (oi := _) (v := ?_) rfl (by kernel_rfl) (by kernel_rfl) (by kernel_rfl) (fun _ _ _ h => h) (Or.inl ⟨by kernel_rfl, ?_⟩) (by assumption) ?_
    rotate_left 1
    · intro W hSw; obtain ⟨⟨y0, y1⟩, ⟨x0, x1⟩, ⟨m0, m1⟩, ⟨d0, d1⟩, c0, c1⟩ := hSw; go_simp; (try with_reducible rfl)
    simp only [Act.put, List.getElem_toArray, List.getElem_cons_succ, List.getElem_cons_zero, List.setIfInBounds_toArray, List.set_cons_succ, List.set_cons_zero]
    refine wpAnyH_take (i := 44) (oi := _) (v := ?_) rfl (by kernel_rfl) (by kernel_rfl) (by kernel_rfl) (fun _ _ _ h => h) (Or.inl ⟨by kernel_rfl, ?_⟩) (by assumption) ?_
    rotate_left 1
    · intro W hSw; obtain ⟨⟨y0, y1⟩, ⟨x0, x1⟩, ⟨m0, m1⟩, ⟨d0, d1⟩, c0, c1⟩ := hSw; go_simp; (try with_reducible rfl)
    simp only [Act.put, List.getElem_toArray, List.getElem_cons_succ, List.getElem_cons_zero, List.setIfInBounds_toArray, List.set_cons_succ, List.set_cons_zero]
    refine wpAnyH_take (i := 45) (oi := _) (v := ?_) rfl (by kernel_rfl) (by kernel_rfl) (by kernel_rfl) (fun _ _ _ h => h) (Or.inl ⟨by kernel_rfl, ?_⟩) (by assumption) ?_
    rotate_left 1
    · intro W hSw; obtain ⟨⟨y0, y1⟩, ⟨x0, x1⟩, ⟨m0, m1⟩, ⟨d0, d1⟩, c0, c1⟩ := hSw; go_simp; (try with_reducible rfl)
    simp only [Act.put, List.getElem_toArray, List.getElem_cons_succ, List.getElem_cons_zero, List.setIfInBounds_toArray, List.set_cons_succ, List.set_cons_zero]
    refine wpAnyH_take (i := 46) (oi := _) (v := ?_) rfl (by kernel_rfl) (by kernel_rfl) (by kernel_rfl) (fun _ _ _ h => h) (Or.inl ⟨by kernel_rfl, ?_⟩) (by assumption) ?_
    rotate_left 1
    · intro W hSw; obtain ⟨⟨y0, y1⟩, ⟨x0, x1⟩, ⟨m0, m1⟩, ⟨d0, d1⟩, c0, c1⟩ := hSw; go_simp; (try with_reducible rfl)
    simp only [Act.put, List.getElem_toArray, List.getElem_cons_succ, List.getElem_cons_zero, List.setIfInBounds_toArray, List.set_cons_succ, List.set_cons_zero]
    refine wpAnyH_take (i := 47) (oi := _) (v := ?_) rfl (by kernel_rfl) (by kernel_rfl) (by kernel_rfl) (fun _ _ _ h => h) (Or.inl ⟨by kernel_rfl, ?_⟩) (by assumption) ?_
    rotate_left 1
    · intro W hSw; obtain ⟨⟨y0, y1⟩, ⟨x0, x1⟩, ⟨m0, m1⟩, ⟨d0, d1⟩, c0, c1⟩ := hSw; go_simp; (try with_reducible rfl)
    simp only [Act.put, List.getElem_toArray, List.getElem_cons_succ, List.getElem_cons_zero, List.setIfInBounds_toArray, List.set_cons_succ, List.set_cons_zero]
    refine wpAnyH_take (i := 49) (oi := _) (v := ?_) rfl (by kernel_rfl) (by kernel_rfl) (by kernel_rfl) (fun _ _ _ h => h) (Or.inl ⟨by kernel_rfl, ?_⟩) (by assumption) ?_
    rotate_left 1
    · intro W hSw; obtain ⟨⟨y0, y1⟩, ⟨x0, x1⟩, ⟨m0, m1⟩, ⟨d0, d1⟩, c0, c1⟩ := hSw; go_simp; (try with_reducible rfl)
    simp only [Act.put, List.getElem_toArray, List.getElem_cons_succ, List.getElem_cons_zero, List.setIfInBounds_toArray, List.set_cons_succ, List.set_cons_zero]
    refine wpAnyH_take (i := 50) (oi := _) (v := ?_) rfl (by kernel_rfl) (by kernel_rfl) (by kernel_rfl) (fun _ _ _ h => h) (Or.inl ⟨by kernel_rfl, ?_⟩) (by assumption) ?_
    rotate_left 1
    · intro W hSw; obtain ⟨⟨y0, y1⟩, ⟨x0, x1⟩, ⟨m0, m1⟩, ⟨d0, d1⟩, c0, c1⟩ := hSw; go_simp; (try with_reducible rfl)
    simp only [Act.put, List.getElem_toArray, List.getElem_cons_succ, List.getElem_cons_zero, List.setIfInBounds_toArray, List.set_cons_succ, List.set_cons_zero]
    refine wpAnyH_take (i := 51) (oi := _) (v := ?_) rfl (by kernel_rfl) (by kernel_rfl) (by kernel_rfl) (fun _ _ _ h => h) (Or.inl ⟨by kernel_rfl, ?_⟩) (by assumption) ?_
    rotate_left 1
    · intro W hSw; obtain ⟨⟨y0, y1⟩, ⟨x0, x1⟩, ⟨m0, m1⟩, ⟨d0, d1⟩, c0, c1⟩ := hSw; go_simp; (try with_reducible rfl)
    simp only [Act.put, List.getElem_toArray, List.getElem_cons_succ, List.getElem_cons_zero, List.setIfInBounds_toArray, List.set_cons_succ, List.set_cons_zero]
    refine wpAnyH_take (i := 52) (oi := _) (v := ?_) rfl (by kernel_rfl) (by kernel_rfl) (by kernel_rfl) (fun _ _ _ h => h) (Or.inl ⟨by kernel_rfl, ?_⟩) (by assumption) ?_
    rotate_left 1
    · intro W hSw; obtain ⟨⟨y0, y1⟩, ⟨x0, x1⟩, ⟨m0, m1⟩, ⟨d0, d1⟩, c0, c1⟩ := hSw; go_simp; (try with_reducible rfl)
    simp only [Act.put, List.getElem_toArray, List.getElem_cons_succ, List.getElem_cons_zero, List.setIfInBounds_toArray, List.set_cons_succ, List.set_cons_zero]
    refine wpAnyH_take (i := 53) (oi := _) (v := ?_) rfl (by kernel_rfl) (by kernel_rfl) (by kernel_rfl) (fun _ _ _ h => h) (Or.inl ⟨by kernel_rfl, ?_⟩) (by assumption) ?_
    rotate_left 1
    · intro W hSw; obtain ⟨⟨y0, y1⟩, ⟨x0, x1⟩, ⟨m0, m1⟩, ⟨d0, d1⟩, c0, c1⟩ := hSw; go_simp; (try with_reducible rfl)
    simp only [Act.put, List.getElem_toArray, List.getElem_cons_succ, List.getElem_cons_zero, List.setIfInBounds_toArray, List.set_cons_succ, List.set_cons_zero]
    refine wpAnyH_take (i := 54) (oi := _) (v := ?_) rfl (by kernel_rfl) (by kernel_rfl) (by kernel_rfl) (fun _ _ _ h => h) (Or.inl ⟨by kernel_rfl, ?_⟩) (by assumption) ?_
    rotate_left 1
    · intro W hSw; obtain ⟨⟨y0, y1⟩, ⟨x0, x1⟩, ⟨m0, m1⟩, ⟨d0, d1⟩, c0, c1⟩ := hSw; go_simp; (try with_reducible rfl)
    simp only [Act.put, List.getElem_toArray, List.getElem_cons_succ, List.getElem_cons_zero, List.setIfInBounds_toArray, List.set_cons_succ, List.set_cons_zero]
    refine wpAnyH_take (i := 55) (oi := _) (v := ?_) rfl (by kernel_rfl) (by kernel_rfl) (by kernel_rfl) (fun _ _ _ h => h) (Or.inl ⟨by kernel_rfl, ?_⟩) (by assumption) ?_
    rotate_left 1
    · intro W hSw; obtain ⟨⟨y0, y1⟩, ⟨x0, x1⟩, ⟨m0, m1⟩, ⟨d0, d1⟩, c0, c1⟩ := hSw; go_simp; (try with_reducible rfl)
    simp only [Act.put, List.getElem_toArray, List.getElem_cons_succ, List.getElem_cons_zero, List.setIfInBounds_toArray, List.set_cons_succ, List.set_cons_zero]
    refine wpAnyH_take (i := 56) (oi := _) (v := ?_) rfl (by kernel_rfl) (by kernel_rfl) (by kernel_rfl) (fun _ _ _ h => h) (Or.inl ⟨by kernel_rfl, ?_⟩) (by assumption) ?_
    rotate_left 1
    · intro W hSw; obtain ⟨⟨y0, y1⟩, ⟨x0, x1⟩, ⟨m0, m1⟩, ⟨d0, d1⟩, c0, c1⟩ := hSw; go_simp; (try with_reducible rfl)
    simp only [Act.put, List.getElem_toArray, List.getElem_cons_succ, List.getElem_cons_zero, List.setIfInBounds_toArray, List.set_cons_succ, List.set_cons_zero]
    refine wpAnyH_take (i := 57) (oi := _) (v := ?_) rfl (by kernel_rfl) (by kernel_rfl) (by kernel_rfl) (fun _ _ _ h => h) (Or.inl ⟨by kernel_rfl, ?_⟩) (by assumption) ?_
    rotate_left 1
    · intro W hSw; obtain ⟨⟨y0, y1⟩, ⟨x0, x1⟩, ⟨m0, m1⟩, ⟨d0, d1⟩, c0, c1⟩ := hSw; go_simp; (try with_reducible rfl)
    simp only [Act.put, List.getElem_toArray, List.getElem_cons_succ, List.getElem_cons_zero, List.setIfInBounds_toArray, List.set_cons_succ, List.set_cons_zero]
    refine wpAnyH_take (i := 58) (oi := _) (v := ?_) rfl (by kernel_rfl) (by kernel_rfl) (by kernel_rfl) (fun _ _ _ h => h) (Or.inl ⟨by kernel_rfl, ?_⟩) (by assumption) ?_
    rotate_left 1
    · intro W hSw; obtain ⟨⟨y0, y1⟩, ⟨x0, x1⟩, ⟨m0, m1⟩, ⟨d0, d1⟩, c0, c1⟩ := hSw; go_simp; (try with_reducible rfl)
    simp only [Act.put, List.getElem_toArray, List.getElem_cons_succ, List.getElem_cons_zero, List.setIfInBounds_toArray, List.set_cons_succ, List.set_cons_zero]
    refine wpAnyH_ready (rs := [48]) (by kernel_rfl) (by simp) ?_
    refine AllReadyH.cons (o := _) rfl (fun K hK => ?_) AllReadyH.nil
    go_simp
    go_at_call 25; refine (CF.out _).mono ?_; rintro e V7 ⟨rfl, hb⟩
    go_wp2_with fail
    have hB := HB.out.call hb
    refine hK.out _ _ (KEY2.out _ hB) (fun hHeld => ?_)
    have HB := Lib.hid hB
    clear hK K hB hb
    simp only [Act.put, List.getElem_toArray, List.getElem_cons_succ, List.getElem_cons_zero, List.setIfInBounds_toArray, List.set_cons_succ, List.set_cons_zero]
    refine wpAnyH_ready (rs := [59]) (by kernel_rfl) (by simp) ?_
    refine AllReadyH.cons (o := _) rfl (fun K hK => ?_) AllReadyH.nil
    go_simp
    go_at_call 26; refine (CG.out _).mono ?_; rintro e V8 ⟨rfl, hb⟩
    go_wp2_with fail
    have hB := HB.out.call hb
    refine hK.out _ _ (KEY2.out _ hB) (fun hHeld => ?_)
    have HB := Lib.hid hB
    clear hK K hB hb
    simp only [Act.put, List.getElem_toArray, List.getElem_cons_succ, List.getElem_cons_zero, List.setIfInBounds_toArray, List.set_cons_succ, List.set_cons_zero]
    refine wpAnyH_take (i := 60) (oi := _) (v := ?_) rfl (by kernel_rfl) (by kernel_rfl) (by kernel_rfl) (fun _ _ _ h => h) (Or.inl ⟨by kernel_rfl, ?_⟩) (by assumption) ?_
    rotate_left 1
    · intro W hSw; obtain ⟨⟨y0, y1⟩, ⟨x0, x1⟩, ⟨m0, m1⟩, ⟨d0, d1⟩, c0, c1⟩ := hSw; go_simp; (try with_reducible rfl)
    simp only [Act.put, List.getElem_toArray, List.getElem_cons_succ, List.getElem_cons_zero, List.setIfInBounds_toArray, List.set_cons_succ, List.set_cons_zero]
    refine wpAnyH_take (i := 61) (oi := _) (v := ?_) rfl (by kernel_rfl) (by kernel_rfl) (by kernel_rfl) (fun _ _ _ h => h) (Or.inl ⟨by kernel_rfl, ?_⟩) (by assumption) ?_
    rotate_left 1
    · intro W hSw; obtain ⟨⟨y0, y1⟩, ⟨x0, x1⟩, ⟨m0, m1⟩, ⟨d0, d1⟩, c0, c1⟩ := hSw; go_simp; (try with_reducible rfl)
    simp only [Act.put, List.getElem_toArray, List.getElem_cons_succ, List.getElem_cons_zero, List.setIfInBounds_toArray, List.set_cons_succ, List.set_cons_zero]
    refine wpAnyH_take (i := 62) (oi := _) (v := ?_) rfl (by kernel_rfl) (by kernel_rfl) (by kernel_rfl) (fun _ _ _ h => h) (Or.inl ⟨by kernel_rfl, ?_⟩) (by assumption) ?_
    rotate_left 1
    · intro W hSw; obtain ⟨⟨y0, y1⟩, ⟨x0, x1⟩, ⟨m0, m1⟩, ⟨d0, d1⟩, c0, c1⟩ := hSw; go_simp; (try with_reducible rfl)
    simp only [Act.put, List.getElem_toArray, List.getElem_cons_succ, List.getElem_cons_zero, List.setIfInBounds_toArray, List.set_cons_succ, List.set_cons_zero]
    refine wpAnyH_ready (rs := [63]) (by kernel_rfl) (by simp) ?_
    refine AllReadyH.cons (o := _) rfl (fun K hK => ?_) AllReadyH.nil
    go_simp
    go_at_call 12; refine (CA.out _).mono ?_; rintro e V9 ⟨rfl, hb⟩
    go_wp2_with fail
    have hB := HB.out.call hb
    refine hK.out _ _ (KEY2.out _ hB) (fun hHeld => ?_)
    have HB := Lib.hid hB
    clear hK K hB hb
    simp only [Act.put, List.getElem_toArray, List.getElem_cons_succ, List.getElem_cons_zero, List.setIfInBounds_toArray, List.set_cons_succ, List.set_cons_zero]
    refine wpAnyH_take (i := 64) (oi := _) (v := ?_) rfl (by kernel_rfl) (by kernel_rfl) (by kernel_rfl) (fun _ _ _ h => h) (Or.inl ⟨by kernel_rfl, ?_⟩) (by assumption) ?_
    rotate_left 1
    · intro W hSw; obtain ⟨⟨y0, y1⟩, ⟨x0, x1⟩, ⟨m0, m1⟩, ⟨d0, d1⟩, c0, c1⟩ := hSw; go_simp; (try with_reducible rfl)
    simp only [Act.put, List.getElem_toArray, List.getElem_cons_succ, List.getElem_cons_zero, List.setIfInBounds_toArray, List.set_cons_succ, List.set_cons_zero]
    refine wpAnyH_take (i := 65) (oi := _) (v := ?_) rfl (by kernel_rfl) (by kernel_rfl) (by kernel_rfl) (fun _ _ _ h => h) (Or.inl ⟨by kernel_rfl, ?_⟩) (by assumption) ?_
    rotate_left 1
    · intro W hSw; obtain ⟨⟨y0, y1⟩, ⟨x0, x1⟩, ⟨m0, m1⟩, ⟨d0, d1⟩, c0, c1⟩ := hSw; go_simp; (try with_reducible rfl)
    simp only [Act.put, List.getElem_toArray, List.getElem_cons_succ, List.getElem_cons_zero, List.setIfInBounds_toArray, List.set_cons_succ, List.set_cons_zero]
    refine wpAnyH_done (by kernel_rfl) ?_ _
    refine NoPanic.normal ?_
    go_wp2_with fail
    go_ret
    exact ⟨rfl, HB.out.below⟩
end Go.Proofs.Ythgfaajclghjhaa
