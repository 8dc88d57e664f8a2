/-
  The law TnumMeets, walked.
-/
import Derived.Test.YthgfaajclghjhaaTHeld
import Derived.Deep.RegionHeld3
import Derived.Deep.RegionWith
import Derived.Deep.CutRange
import Derived.Deep.LoopGhost
namespace Go.Proofs.Ythgfaajclghjhaa
open Go Go.RowKit Go.Maps Tn
set_option linter.unusedVariables false
set_option linter.unusedSimpArgs false
set_option maxRecDepth 100000
abbrev u3T : TypeId := 52
abbrev u3 (a b c : B64) : Array Value := #[uv a, uv b, uv c]
theorem Blk.three {W : World} {g : Nat} {t : TypeId} {u1 u2 u3 : Value} (h : Blk W g t #[u1, u2, u3]) : W.cell? ⟨g, 0, none⟩ = some u1 ∧ W.cell? ⟨g, 1, none⟩ = some u2 ∧ W.cell? ⟨g, 2, none⟩ = some u3 := ⟨h.cell 0, h.cell 1, h.cell 2⟩
theorem meet_bool {a b : TN} (ma : may a) (mb : may b) (x : B64) : (decide (Tn.has a x) && decide (Tn.has b x)) = (decide (agree a b) && decide (Tn.has (meetV a b) x)) := by
  rw [← Bool.decide_and, ← Bool.decide_and, decide_eq_decide, meet_has ma mb]
  unfold meetV
  constructor
  · rintro ⟨h1, h2⟩
    exact ⟨h1, by rw [if_pos h1]; exact h2⟩
  · rintro ⟨h1, h2⟩
    rw [if_pos h1] at h2
    exact ⟨h1, h2⟩
theorem join_bool (a b : TN) (x : B64) (h : (decide (Tn.has a x) || decide (Tn.has b x)) = true) : decide (Tn.has (tJoin a b) x) = true := by
  rw [← Bool.decide_or, decide_eq_true_eq] at h
  rcases h with h | h
  · exact decide_eq_true (join_left h)
  · exact decide_eq_true (join_right h)
theorem n64_tdiv2 (x : B64) : (n64 x).tdiv 2 = n64 (x >>> 1) := by rw [Int.tdiv_eq_ediv_of_nonneg (n64_lo x), n64_half]
theorem n64_wrap (x : B64) : IntKind.u64.wrap (n64 x) = n64 x := by rw [IntKind.wrap_u64, n64_mod]
theorem mid_between {lo hi : B64} (h : lo.toNat ≤ hi.toNat) : lo.toNat ≤ (lo + (hi - lo) >>> 1).toNat ∧ (lo + (hi - lo) >>> 1).toNat ≤ hi.toNat := by
  have h1 := hi.isLt
  rw [BitVec.toNat_add, BitVec.toNat_ushiftRight, BitVec.toNat_sub, Nat.shiftRight_eq_div_pow]
  omega
set_option maxHeartbeats 4000000 in
theorem meets_any (a b : TN) (n0 n1 n2 : B64) (w : World) : Calls Try.prog 8 #[tv a, tv b, .agg (u3 n0 n1 n2)] w fun e w' => e = .returned (.bool true) ∧ Below w.heap.size w w' := by
  have F := Lib.hid (HL.three w tnT tnT u3T (tC a) (tC b) (u3 n0 n1 n2))
  go_enter Try.func8, Try.ntmps8
  go_upto_region 1 with fail
  have hb := F.out
  clear F
  generalize ((w.alloc (.cells #[uv a.1, uv a.2] tnT)).alloc (.cells #[uv b.1, uv b.2] tnT)).alloc (.cells #[uv n0, uv n1, uv n2] u3T) = wz at *
  have key : ∀ (a b : TN) W, HL w [(w.heap.size + 1 + 1, u3T, u3 n0 n1 n2), (w.heap.size + 1, tnT, tC b), (w.heap.size, tnT, tC a)] W → ((W.cell? ⟨w.heap.size + 1 + 1, 0, none⟩ = some (uv n0) ∧ W.cell? ⟨w.heap.size + 1 + 1, 1, none⟩ = some (uv n1) ∧ W.cell? ⟨w.heap.size + 1 + 1, 2, none⟩ = some (uv n2)) ∧ (W.cell? ⟨w.heap.size + 1, 0, none⟩ = some (uv b.1) ∧ W.cell? ⟨w.heap.size + 1, 1, none⟩ = some (uv b.2)) ∧ (W.cell? ⟨w.heap.size, 0, none⟩ = some (uv a.1) ∧ W.cell? ⟨w.heap.size, 1, none⟩ = some (uv a.2))) := by
    rintro a b W ⟨⟨h3, h2, h1, _⟩, _⟩
    exact ⟨h3.three, h2.two, h1.two⟩
  have soft : ∀ (a b : TN) W, HL w [(w.heap.size + 1 + 1, u3T, u3 n0 n1 n2), (w.heap.size + 1, tnT, tC b), (w.heap.size, tnT, tC a)] W → (W.frozen? ⟨w.heap.size, 0, none⟩ = false ∧ W.frozen? ⟨w.heap.size, 1, none⟩ = false ∧ W.frozen? ⟨w.heap.size + 1, 0, none⟩ = false ∧ W.frozen? ⟨w.heap.size + 1, 1, none⟩ = false) := by
    rintro a b W ⟨⟨h3, h2, h1, _⟩, _⟩
    exact ⟨h1.frozen 0, h1.frozen 1, h2.frozen 0, h2.frozen 1⟩
  have KEY := Lib.hid key
  have SOFT := Lib.hid soft
  have HB := Lib.hid hb
  obtain ⟨_, ⟨d0, d1⟩, c0, c1⟩ := key _ _ _ hb
  clear soft hb key
  have CM := Lib.hid may_any
  go_cut [] from 16 to 119 (fun wc => HL w [(w.heap.size + 1 + 1, u3T, u3 n0 n1 n2), (w.heap.size + 1, tnT, tC (tMay b)), (w.heap.size, tnT, tC (tMay a))] wc)
  case first =>
    have ff := SOFT.out _ _ _ HB.out
    obtain ⟨f0, f1, f2, f3⟩ := ff
    go_region_with (go_at_call 9; refine (CM.out _ _).mono ?_; rintro e w1 ⟨rfl, hb1⟩; have hB := (by first | exact (HB.out.keeps (keeps_drew _)).call hb1 | exact HB.out.call hb1); have cc := (KEY.out _ _ _ hB).2; obtain ⟨⟨d0, d1⟩, c0, c1⟩ := cc; have ff := SOFT.out _ _ _ hB; obtain ⟨f0, f1, f2, f3⟩ := ff; have HB := Lib.hid hB; clear hB hb1)
    all_goals
      go_wp2_with fail
      go_meet
      case rel => exact HB.out.setAB (tMay a) (tMay b)
  case rest =>
    clear c0 c1 d0 d1 HB CM
    have hb := hcut
    clear hcut
    have MK := Lib.hid (meet_bool (may_tMay a) (may_tMay b))
    have MJ := Lib.hid (join_bool (tMay a) (tMay b))
    have CM := Lib.hid (fun W => pmeet_any (tMay a) (tMay b) W)
    have CO := Lib.hid (fun W => pjoin_any (tMay a) (tMay b) W)
    have C1 := Lib.hid (fun W => one_any (tMay a) n1 W)
    have hi1 := in_join (b := tMay b) (may_tMay a)
    generalize tMay a = a' at *
    generalize tMay b = b' at *
    generalize meetV a' b' = X at *
    generalize decide (agree a' b') = ok at *
    generalize tJoin a' b' = J at *
    have HIJ : Hid (decide (tIn J a') = true) := decide_eq_true hi1
    clear hi1
    have CH := Lib.hid phas_any
    have HB := Lib.hid hb
    obtain ⟨_, ⟨d0, d1⟩, c0, c1⟩ := KEY.out _ _ _ hb
    clear hb
    go_upto_region 3 with (go_at_call 19; refine (CM.out _).mono ?_; rintro e w2 ⟨rfl, hb⟩; have HB2 := Lib.hid (HB.out.call hb); clear hb)
    have hb := HB2.out.push tnT (tC X)
    clear d0 d1 c0 c1 HB HB2 CM SOFT
    generalize w2.heap.size = g7 at *
    generalize w2.alloc (.cells #[uv X.1, uv X.2] tnT) = w3 at *
    have key : ∀ W, HL w ((g7, tnT, tC X) :: [(w.heap.size + 1 + 1, u3T, u3 n0 n1 n2), (w.heap.size + 1, tnT, tC b'), (w.heap.size, tnT, tC a')]) W → (W.cell? ⟨g7, 0, none⟩ = some (uv X.1) ∧ W.cell? ⟨g7, 1, none⟩ = some (uv X.2)) ∧ (W.cell? ⟨w.heap.size + 1, 0, none⟩ = some (uv b'.1) ∧ W.cell? ⟨w.heap.size + 1, 1, none⟩ = some (uv b'.2)) ∧ (W.cell? ⟨w.heap.size, 0, none⟩ = some (uv a'.1) ∧ W.cell? ⟨w.heap.size, 1, none⟩ = some (uv a'.2)) := by
      rintro W ⟨⟨h0, h3, h2, h1, _⟩, _⟩
      exact ⟨h0.two, h2.two, h1.two⟩
    have KEY2 := Lib.hid key
    have HB := Lib.hid hb
    clear hb key
    go_wp2_with fail
    go_loopg [9] 3 (fun n s9 wr => ∃ i : Nat, i + n = 3 ∧ s9 = .int .i64 i ∧ HL w ((g7, tnT, tC X) :: [(w.heap.size + 1 + 1, u3T, u3 n0 n1 n2), (w.heap.size + 1, tnT, tC b'), (w.heap.size, tnT, tC a')]) wr)
    case atStart => exact ⟨0, by omega, rfl, HB.out⟩
    case round =>
      clear HB
      obtain ⟨i, hin, rfl, hb⟩ := hrel
      have HIN := Lib.hid hin
      have HB := Lib.hid hb
      have m := (KEY.out _ _ _ ⟨hb.all.2, hb.below⟩).1
      obtain ⟨m0, m1, m2⟩ := m
      obtain ⟨⟨x0, x1⟩, ⟨d0, d1⟩, c0, c1⟩ := KEY2.out _ hb
      clear hb
      by_cases hg : gk = 0
      · have hi : i = 3 := by omega
        subst hi
        clear hin hg
        obtain ⟨lo, hlo⟩ : ∃ x, minB n0 n2 = x := ⟨_, rfl⟩
        obtain ⟨hi, hhi⟩ : ∃ x, maxB n0 n2 = x := ⟨_, rfl⟩
        have hlm := min_le_max n0 n2
        rw [hlo, hhi] at hlm
        have rmin := n64_min n0 n2
        have rmax := n64_max n0 n2
        rw [hlo] at rmin
        rw [hhi] at rmax
        have hmid := mid_between hlm
        have s1 := n64_subw hi lo
        have s3 := n64_tdiv2 (hi - lo)
        have s4 := n64_wrap ((hi - lo) >>> 1)
        have s2 := n64_addw lo ((hi - lo) >>> 1)
        have CF := Lib.hid (fun W => pof_any lo hi W)
        have h1 := range_has (Nat.le_refl _) hlm
        have h2 := range_has hlm (Nat.le_refl _)
        have h3 := range_has hmid.1 hmid.2
        generalize tRange lo hi = T at *
        generalize lo + (hi - lo) >>> 1 = mid at *
        generalize (hi - lo) >>> 1 = hf at *
        generalize hi - lo = df at *
        have HT : Hid (decide (Tn.has T lo) = true ∧ decide (Tn.has T hi) = true ∧ decide (Tn.has T mid) = true) := ⟨decide_eq_true h1, decide_eq_true h2, decide_eq_true h3⟩
        clear h1 h2 h3 hmid hlm hlo hhi x0 x1 d0 d1 c0 c1
        go_upto_region 12 with fail
        go_cut [12, 13] from 73 to 119 (fun s12 s13 wc => s12 = uv lo ∧ s13 = uv hi ∧ HL w ((g7, tnT, tC X) :: [(w.heap.size + 1 + 1, u3T, u3 n0 n1 n2), (w.heap.size + 1, tnT, tC b'), (w.heap.size, tnT, tC a')]) wc)
        case first =>
          have S0 : Hid (wr.cell? ⟨w.heap.size + 1 + 1, 0, none⟩ = some (uv n0) ∧ wr.cell? ⟨w.heap.size + 1 + 1, 2, none⟩ = some (uv n2)) := ⟨m0, m2⟩
          go_region_held3 (fun W => W.cell? ⟨w.heap.size + 1 + 1, 0, none⟩ = some (uv n0) ∧ W.cell? ⟨w.heap.size + 1 + 1, 2, none⟩ = some (uv n2))
            (first | exact S0.out)
            (first | fail)
          all_goals
            go_wp2_with fail
            go_meet
            case rel => exact ⟨rfl, rfl, HB.out.keeps (keeps_drew wr)⟩
        case rest =>
          obtain ⟨rfl, rfl, hb⟩ := hcut
          clear HB m0 m1 m2 rmin rmax
          have HB6 := Lib.hid hb
          clear hb
          go_upto_region 15 with (go_at_call 25; refine (CF.out _).mono ?_; rintro e w5 ⟨rfl, hb⟩; have HB5 := Lib.hid (HB6.out.call hb); clear hb)
          have hb := HB5.out.push tnT (tC T)
          clear HB5 HB6 CF
          generalize w5.heap.size = g15 at *
          generalize w5.alloc (.cells #[uv T.1, uv T.2] tnT) = w6 at *
          obtain ⟨t1, t2, t3⟩ := HT.out
          have t4 := HIJ.out
          obtain ⟨U, hU, hin⟩ : ∃ U : TN, (∀ W, Calls Try.prog 29 #[] W fun e w' => e = .returned (tv U) ∧ Below W.heap.size W w') ∧ decide (tIn U a') = true := ⟨(0, ~~~0), punknown_any, decide_eq_true (in_all a')⟩
          have CU := Lib.hid hU
          have CI := Lib.hid pin_any
          have CA := Lib.hid awake_any
          have key : ∀ W, HL w ((g15, tnT, tC T) :: (g7, tnT, tC X) :: [(w.heap.size + 1 + 1, u3T, u3 n0 n1 n2), (w.heap.size + 1, tnT, tC b'), (w.heap.size, tnT, tC a')]) W → (W.cell? ⟨g15, 0, none⟩ = some (uv T.1) ∧ W.cell? ⟨g15, 1, none⟩ = some (uv T.2)) ∧ (W.cell? ⟨w.heap.size + 1, 0, none⟩ = some (uv b'.1) ∧ W.cell? ⟨w.heap.size + 1, 1, none⟩ = some (uv b'.2)) ∧ (W.cell? ⟨w.heap.size, 0, none⟩ = some (uv a'.1) ∧ W.cell? ⟨w.heap.size, 1, none⟩ = some (uv a'.2)) := by
            rintro W ⟨⟨h0, h4, h3, h2, h1, _⟩, _⟩
            exact ⟨h0.two, h2.two, h1.two⟩
          have KEY3 := Lib.hid key
          have HB := Lib.hid hb
          have S0 := Lib.hid (key _ hb)
          obtain ⟨⟨x0, x1⟩, ⟨d0, d1⟩, c0, c1⟩ := key _ hb
          clear hb key hU HT HIJ KEY KEY2 MK MJ HIN
          go_region_held3 (fun W => (W.cell? ⟨g15, 0, none⟩ = some (uv T.1) ∧ W.cell? ⟨g15, 1, none⟩ = some (uv T.2)) ∧ (W.cell? ⟨w.heap.size + 1, 0, none⟩ = some (uv b'.1) ∧ W.cell? ⟨w.heap.size + 1, 1, none⟩ = some (uv b'.2)) ∧ (W.cell? ⟨w.heap.size, 0, none⟩ = some (uv a'.1) ∧ W.cell? ⟨w.heap.size, 1, none⟩ = some (uv a'.2)))
            (first | exact S0.out)
            (first
            | (go_at_call 17; refine (CH.out _ _ _).mono ?_; rintro e w10 ⟨rfl, hb⟩; have ha := (by first | exact HB.out.call hb | exact (HB.out.keeps (keeps_drewN _ _)).call hb | exact (HB.out.keeps (keeps_drew _)).call hb); have HB := Lib.hid ha; have S0 := Lib.hid (KEY3.out _ ha); clear ha hb)
            | (go_at_call 23; refine (CO.out _).mono ?_; rintro e w10 ⟨rfl, hb⟩; have ha := (by first | exact HB.out.call hb | exact (HB.out.keeps (keeps_drewN _ _)).call hb | exact (HB.out.keeps (keeps_drew _)).call hb); have HB := Lib.hid ha; have S0 := Lib.hid (KEY3.out _ ha); clear ha hb)
            | (go_at_call 21; refine (CI.out _ _ _).mono ?_; rintro e w10 ⟨rfl, hb⟩; have ha := (by first | exact HB.out.call hb | exact (HB.out.keeps (keeps_drewN _ _)).call hb | exact (HB.out.keeps (keeps_drew _)).call hb); have HB := Lib.hid ha; have S0 := Lib.hid (KEY3.out _ ha); clear ha hb)
            | (go_at_call 29; refine (CU.out _).mono ?_; rintro e w10 ⟨rfl, hb⟩; have ha := (by first | exact HB.out.call hb | exact (HB.out.keeps (keeps_drewN _ _)).call hb | exact (HB.out.keeps (keeps_drew _)).call hb); have HB := Lib.hid ha; have S0 := Lib.hid (KEY3.out _ ha); clear ha hb)
            | (go_at_call 12; refine (CA.out _).mono ?_; rintro e w10 ⟨rfl, hb⟩; have ha := (by first | exact HB.out.call hb | exact (HB.out.keeps (keeps_drewN _ _)).call hb | exact (HB.out.keeps (keeps_drew _)).call hb); have HB := Lib.hid ha; have S0 := Lib.hid (KEY3.out _ ha); clear ha hb))
          go_wp2_with fail
          go_ret
          exact ⟨rfl, HB.out.below⟩
      · have g1 : decide ((i : Int) < 3) = true := decide_eq_true (by omega)
        have g2 : decide (i < 3) = true := decide_eq_true (by omega)
        have e1 : IntKind.i64.wrap ((i : Int) + 1) = (i : Int) + 1 := by rw [IntKind.wrap_i64]; omega
        have hi3 : i < 3 := by omega
        have mi : ∃ xi : B64, wr.cell? ⟨w.heap.size + 1 + 1, i, none⟩ = some (uv xi) := by
          rcases (show i = 0 ∨ i = 1 ∨ i = 2 by omega) with rfl | rfl | rfl
          · exact ⟨_, m0⟩
          · exact ⟨_, m1⟩
          · exact ⟨_, m2⟩
        obtain ⟨xi, mi⟩ := mi
        have HI3 := Lib.hid hi3
        clear hin hg m0 m2
        go_upto_region 6 with fail
        go_cut [10] from 26 to 72 (fun s10 wc => s10 = uv xi ∧ wc = wr)
        case first =>
          go_wp2_with fail
          go_meet
          case rel => exact ⟨rfl, rfl⟩
        case rest =>
          obtain ⟨rfl, rfl⟩ := hcut
          clear mi hi3
          go_upto_if 34 with fail
          go_cut [10] from 26 to 72 (fun s10 wc => ∃ x : B64, s10 = uv x ∧ HL w ((g7, tnT, tC X) :: [(w.heap.size + 1 + 1, u3T, u3 n0 n1 n2), (w.heap.size + 1, tnT, tC b'), (w.heap.size, tnT, tC a')]) wc)
          case first =>
            by_cases hi1 : i = 1
            · have q1 : ((i : Int) == 1) = true := by simp [hi1]
              have q2 : (i == 1) = true := by simp [hi1]
              clear hi1
              go_wp2_with (go_at_call 27; refine (C1.out _).mono ?_; rintro e w4 ⟨rfl, hb⟩; have HB := Lib.hid (HB.out.call hb); clear hb)
              go_meet
              case rel => exact ⟨_, rfl, HB.out⟩
            · have q1 : ((i : Int) == 1) = false := by simp; omega
              have q2 : (i == 1) = false := by simpa using hi1
              clear hi1
              go_wp2_with fail
              go_meet
              case rel => exact ⟨_, rfl, HB.out⟩
          case rest =>
            obtain ⟨x, rfl, hb⟩ := hcut
            clear HB m1 x0 x1 d0 d1 c0 c1
            have HB := Lib.hid hb
            obtain ⟨⟨x0, x1⟩, ⟨d0, d1⟩, c0, c1⟩ := KEY2.out _ hb
            clear hb
            have K := MK.out x
            have KJ := MJ.out x
            cases h1 : decide (Tn.has a' x) <;> cases h2 : decide (Tn.has b' x) <;> cases ok <;> rw [h1, h2] at K KJ
            · clear K KJ
              go_wp2_with (first
                | (go_at_call 17; refine (CH.out _ _ _).mono ?_; rintro e w6 ⟨rfl, hb⟩; have ha := HB.out.call hb; have cc := KEY2.out _ ha; obtain ⟨⟨x0, x1⟩, ⟨d0, d1⟩, c0, c1⟩ := cc; have HB := Lib.hid ha; clear ha hb)
                | (go_at_call 23; refine (CO.out _).mono ?_; rintro e w6 ⟨rfl, hb⟩; have ha := HB.out.call hb; have cc := KEY2.out _ ha; obtain ⟨⟨x0, x1⟩, ⟨d0, d1⟩, c0, c1⟩ := cc; have HB := Lib.hid ha; clear ha hb))
              go_roundg (gk - 1)
              case measure => have := HIN.out; have := HI3.out; omega
              case rel => exact ⟨i + 1, by have := HIN.out; have := HI3.out; omega, by rw [Int.natCast_add]; rfl, HB.out⟩
            · have h3 : decide (Tn.has X x) = false := by simpa using K.symm
              clear K KJ
              go_wp2_with (first
                | (go_at_call 17; refine (CH.out _ _ _).mono ?_; rintro e w6 ⟨rfl, hb⟩; have ha := HB.out.call hb; have cc := KEY2.out _ ha; obtain ⟨⟨x0, x1⟩, ⟨d0, d1⟩, c0, c1⟩ := cc; have HB := Lib.hid ha; clear ha hb)
                | (go_at_call 23; refine (CO.out _).mono ?_; rintro e w6 ⟨rfl, hb⟩; have ha := HB.out.call hb; have cc := KEY2.out _ ha; obtain ⟨⟨x0, x1⟩, ⟨d0, d1⟩, c0, c1⟩ := cc; have HB := Lib.hid ha; clear ha hb))
              go_roundg (gk - 1)
              case measure => have := HIN.out; have := HI3.out; omega
              case rel => exact ⟨i + 1, by have := HIN.out; have := HI3.out; omega, by rw [Int.natCast_add]; rfl, HB.out⟩
            · have h4 : decide (Tn.has J x) = true := KJ rfl
              clear K KJ
              go_wp2_with (first
                | (go_at_call 17; refine (CH.out _ _ _).mono ?_; rintro e w6 ⟨rfl, hb⟩; have ha := HB.out.call hb; have cc := KEY2.out _ ha; obtain ⟨⟨x0, x1⟩, ⟨d0, d1⟩, c0, c1⟩ := cc; have HB := Lib.hid ha; clear ha hb)
                | (go_at_call 23; refine (CO.out _).mono ?_; rintro e w6 ⟨rfl, hb⟩; have ha := HB.out.call hb; have cc := KEY2.out _ ha; obtain ⟨⟨x0, x1⟩, ⟨d0, d1⟩, c0, c1⟩ := cc; have HB := Lib.hid ha; clear ha hb))
              go_roundg (gk - 1)
              case measure => have := HIN.out; have := HI3.out; omega
              case rel => exact ⟨i + 1, by have := HIN.out; have := HI3.out; omega, by rw [Int.natCast_add]; rfl, HB.out⟩
            · have h3 : decide (Tn.has X x) = false := by simpa using K.symm
              have h4 : decide (Tn.has J x) = true := KJ rfl
              clear K KJ
              go_wp2_with (first
                | (go_at_call 17; refine (CH.out _ _ _).mono ?_; rintro e w6 ⟨rfl, hb⟩; have ha := HB.out.call hb; have cc := KEY2.out _ ha; obtain ⟨⟨x0, x1⟩, ⟨d0, d1⟩, c0, c1⟩ := cc; have HB := Lib.hid ha; clear ha hb)
                | (go_at_call 23; refine (CO.out _).mono ?_; rintro e w6 ⟨rfl, hb⟩; have ha := HB.out.call hb; have cc := KEY2.out _ ha; obtain ⟨⟨x0, x1⟩, ⟨d0, d1⟩, c0, c1⟩ := cc; have HB := Lib.hid ha; clear ha hb))
              go_roundg (gk - 1)
              case measure => have := HIN.out; have := HI3.out; omega
              case rel => exact ⟨i + 1, by have := HIN.out; have := HI3.out; omega, by rw [Int.natCast_add]; rfl, HB.out⟩
            · have h4 : decide (Tn.has J x) = true := KJ rfl
              clear K KJ
              go_wp2_with (first
                | (go_at_call 17; refine (CH.out _ _ _).mono ?_; rintro e w6 ⟨rfl, hb⟩; have ha := HB.out.call hb; have cc := KEY2.out _ ha; obtain ⟨⟨x0, x1⟩, ⟨d0, d1⟩, c0, c1⟩ := cc; have HB := Lib.hid ha; clear ha hb)
                | (go_at_call 23; refine (CO.out _).mono ?_; rintro e w6 ⟨rfl, hb⟩; have ha := HB.out.call hb; have cc := KEY2.out _ ha; obtain ⟨⟨x0, x1⟩, ⟨d0, d1⟩, c0, c1⟩ := cc; have HB := Lib.hid ha; clear ha hb))
              go_roundg (gk - 1)
              case measure => have := HIN.out; have := HI3.out; omega
              case rel => exact ⟨i + 1, by have := HIN.out; have := HI3.out; omega, by rw [Int.natCast_add]; rfl, HB.out⟩
            · have h3 : decide (Tn.has X x) = false := by simpa using K.symm
              have h4 : decide (Tn.has J x) = true := KJ rfl
              clear K KJ
              go_wp2_with (first
                | (go_at_call 17; refine (CH.out _ _ _).mono ?_; rintro e w6 ⟨rfl, hb⟩; have ha := HB.out.call hb; have cc := KEY2.out _ ha; obtain ⟨⟨x0, x1⟩, ⟨d0, d1⟩, c0, c1⟩ := cc; have HB := Lib.hid ha; clear ha hb)
                | (go_at_call 23; refine (CO.out _).mono ?_; rintro e w6 ⟨rfl, hb⟩; have ha := HB.out.call hb; have cc := KEY2.out _ ha; obtain ⟨⟨x0, x1⟩, ⟨d0, d1⟩, c0, c1⟩ := cc; have HB := Lib.hid ha; clear ha hb))
              go_roundg (gk - 1)
              case measure => have := HIN.out; have := HI3.out; omega
              case rel => exact ⟨i + 1, by have := HIN.out; have := HI3.out; omega, by rw [Int.natCast_add]; rfl, HB.out⟩
            · exact absurd K (by simp)
            · have h3 : decide (Tn.has X x) = true := by simpa using K.symm
              have h4 : decide (Tn.has J x) = true := KJ rfl
              clear K KJ
              go_wp2_with (first
                | (go_at_call 17; refine (CH.out _ _ _).mono ?_; rintro e w6 ⟨rfl, hb⟩; have ha := HB.out.call hb; have cc := KEY2.out _ ha; obtain ⟨⟨x0, x1⟩, ⟨d0, d1⟩, c0, c1⟩ := cc; have HB := Lib.hid ha; clear ha hb)
                | (go_at_call 23; refine (CO.out _).mono ?_; rintro e w6 ⟨rfl, hb⟩; have ha := HB.out.call hb; have cc := KEY2.out _ ha; obtain ⟨⟨x0, x1⟩, ⟨d0, d1⟩, c0, c1⟩ := cc; have HB := Lib.hid ha; clear ha hb))
              go_roundg (gk - 1)
              case measure => have := HIN.out; have := HI3.out; omega
              case rel => exact ⟨i + 1, by have := HIN.out; have := HI3.out; omega, by rw [Int.natCast_add]; rfl, HB.out⟩
end Go.Proofs.Ythgfaajclghjhaa
