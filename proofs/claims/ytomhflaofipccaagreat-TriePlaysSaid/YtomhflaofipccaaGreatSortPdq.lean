/-
  The library's sort: pdqsortOrdered and Sort: the row is permuted and rises.
-/
import Derived.Test.YtomhflaofipccaaGreatP5
import Derived.Sort.LotD3
import Derived.Sort.LotB
import Derived.Sort.LotA
import Derived.Sort.LotD1
import Derived.Deep.Cut
import Derived.Deep.CutRange
import Derived.Deep.LoopGhost
namespace Go.Proofs.YtomhflaofipccaaGreat
open Go Go.RowKit Go.Maps
set_option linter.unusedVariables false

theorem swo_ltN : Sort.SWO ltN where
  irrefl x := by simp [ltN]
  trans x y z h1 h2 := by simp [ltN] at *; omega
  ntrans x y z h1 h2 := by simp [ltN] at *; omega
/-- Within [a', b') dk is still to be sorted; once that is done, [a, b) of d is. -/
structure PQ (n : Nat) (d : Array Nat) (a b a' b' : Nat) (dk : Array Nat) : Prop where
  size : dk.size = n
  ab : a' ≤ b'
  hi : b' ≤ n
  bel : Sort.Below ltN a' b' dk
  fin : ∀ R, Sort.PermIn a' b' dk R → Sort.SortedIn ltN a' b' R → Sort.PermIn a b d R ∧ Sort.SortedIn ltN a b R
theorem PQ.perm {n : Nat} {d dk dk' : Array Nat} {a b a' b' : Nat} (h : PQ n d a b a' b' dk) (hp : Sort.PermIn a' b' dk dk') : PQ n d a b a' b' dk' :=
  ⟨hp.1.trans h.size, h.ab, h.hi, h.bel.perm (by rw [h.size]; exact h.hi) hp, fun R h1 h2 => h.fin R (Sort.permIn_trans _ _ _ _ _ hp h1) h2⟩
def PdqPost (w0 : World) (g : Nat) (sp : List Value) (d : Array Nat) (a b : Nat) (e : Ending) (w' : World) : Prop :=
  e = .returned (.tuple #[]) ∧ ∃ d', Sort.PermIn a b d d' ∧ Sort.SortedIn ltN a b d' ∧ SRow w0 w' g sp d'
theorem PQ.done {n : Nat} {d dk dk' : Array Nat} {a b a' b' : Nat} {w0 w : World} {g : Nat} {sp : List Value} (h : PQ n d a b a' b' dk) (hp : Sort.PermIn a' b' dk dk' ∧ Sort.SortedIn ltN a' b' dk') (hr : SRow w0 w g sp dk') :
    PdqPost w0 g sp d a b (.returned (.tuple #[])) w := by
  obtain ⟨h1, h2⟩ := h.fin dk' hp.1 hp.2
  exact ⟨rfl, dk', h1, h2, hr⟩
set_option maxRecDepth 1000000 in
set_option maxHeartbeats 12000000 in
theorem pdq_any : ∀ (N : Nat) (w0 w : World) (g : Nat) (sp : List Value) (d : Array Nat) (cap a b l : Nat), b - a < N → a ≤ b → b ≤ d.size → d.size ≤ cap → d.size ≤ 1048576 → l ≤ 64 → Sort.Below ltN a b d → SRow w0 w g sp d →
    Calls Tryz.prog 70 #[.slice (some ⟨g, 0, none⟩) d.size cap, .int .i64 (a : Int), .int .i64 (b : Int), .int .i64 (l : Int)] w (PdqPost w0 g sp d a b) := by
  intro N
  induction N with
  | zero => intro _ _ _ _ _ _ _ _ _ h; exact absurd h (Nat.not_lt_zero _)
  | succ N ih =>
    intro w0 w g sp d cap a b l hN hab hb hs hc hl hbel h
    have HIH := Lib.hid ih; clear ih
    obtain ⟨n, hn⟩ : ∃ n, n = d.size := ⟨_, rfl⟩
    rw [← hn] at hb hs hc ⊢
    have HQ := Lib.hid (show PQ n d a b a b d from ⟨hn.symm, hab, hb, hbel, fun R h1 h2 => ⟨h1, h2⟩⟩)
    have H0 := Lib.hid h
    clear h hbel hn
    obtain ⟨k0, hk0⟩ : ∃ k0, k0 = b - a := ⟨_, rfl⟩
    have hk1 : b - a ≤ k0 := by omega
    have hk2 : k0 ≤ N := by omega
    clear hk0 hN
    go_enter Tryz.func70, Tryz.ntmps70
    go_wp2
    go_loopg [1, 2, 3, 8, 9] k0 (fun k s1 s2 s3 s8 s9 wr => ∃ (a' b' l' : Nat) (wb wp : Bool) (dk : Array Nat), s1 = .int .i64 a' ∧ s2 = .int .i64 b' ∧ s3 = .int .i64 l' ∧ s8 = .bool wb ∧ s9 = .bool wp ∧
      b' - a' ≤ k ∧ k ≤ N ∧ l' ≤ 64 ∧ PQ n d a b a' b' dk ∧ SRow w0 wr g sp dk)
    case atStart => exact ⟨a, b, l, true, true, d, rfl, rfl, rfl, rfl, rfl, hk1, hk2, hl, HQ.out, H0.out⟩
    case round =>
      clear HQ H0 hab hb hl hk1 hk2
      obtain ⟨a', b', l', wb, wp, dk, rfl, rfl, rfl, rfl, rfl, hk, hkN, hl, hq, hr⟩ := hrel
      have HQ := Lib.hid hq
      have HR := Lib.hid hr
      have hab : a' ≤ b' := hq.ab
      have hb : b' ≤ n := hq.hi
      have HD := Lib.hid hq.size
      clear hq hr
      by_cases h12 : b' - a' ≤ 12
      · have g12 : decide ((b' : Int) - (a' : Int) ≤ 12) = true := by simp; omega
        have hcc := insSort_any w0 wr g sp dk cap a' b' (by rw [HD.out]; exact hb) (by rw [HD.out]; exact hs) (by rw [HD.out]; exact hc) hab HR.out
        rw [HD.out] at hcc
        have HC := Lib.hid hcc; clear hcc
        go_wp2_with (go_at_call 85; refine HC.out.mono ?_; rintro e w1 ⟨rfl, h1⟩; have H1 := Lib.hid h1; clear h1)
        (try simp only [Exit.inBlock, Exit.then]); refine bodyPost_ret (results_none rfl _ _ _) rfl ?_
        exact HQ.out.done (Sort.insertionSort_holds swo_ltN dk a' b' hab (by rw [HD.out]; exact hb)) H1.out
      · have g12 : decide ((b' : Int) - (a' : Int) ≤ 12) = false := by simp; omega
        by_cases hl0 : l' = 0
        · have gl : ((l' : Int) == 0) = true := by simp; omega
          have hcc := heapSort_any w0 wr g sp dk cap a' b' (by omega) (by rw [HD.out]; exact hb) (by rw [HD.out]; exact hs) (by rw [HD.out]; exact hc) HR.out
          rw [HD.out] at hcc
          have HC := Lib.hid hcc; clear hcc
          go_wp2_with (go_at_call 86; refine HC.out.mono ?_; rintro e w1 ⟨rfl, h1⟩; have H1 := Lib.hid h1; clear h1)
          (try simp only [Exit.inBlock, Exit.then]); refine bodyPost_ret (results_none rfl _ _ _) rfl ?_
          exact HQ.out.done (Sort.heapSort_holds swo_ltN dk a' b' hab (by rw [HD.out]; exact hb)) H1.out
        · have gl : ((l' : Int) == 0) = false := by simp; omega
          go_upto_if 35 with fail
          go_cut [3] from 19 to 133 (fun s3 wc => ∃ (l1 : Nat) (d1 : Array Nat), s3 = .int .i64 l1 ∧ l1 ≤ 64 ∧ PQ n d a b a' b' d1 ∧ SRow w0 wc g sp d1)
          case first =>
            cases wb
            · have hcc := brk_any w0 wr g sp dk cap a' b' (by omega) (by rw [HD.out]; exact hb) (by rw [HD.out]; exact hs) (by rw [HD.out]; exact hc) HR.out
              rw [HD.out] at hcc
              have HC := Lib.hid hcc; clear hcc
              go_wp2_with (go_at_call 87; refine HC.out.mono ?_; rintro e w1 ⟨rfl, h1⟩; have H1 := Lib.hid h1; clear h1)
              go_meet
              case rel =>
                obtain ⟨d1, hp, hr1⟩ := H1.out
                refine ⟨l' - 1, d1, ?_, by omega, HQ.out.perm hp, hr1⟩
                show Value.int .i64 ((l' : Int) - 1) = Value.int .i64 ((l' - 1 : Nat) : Int)
                congr 1
                omega
            · go_wp2_with fail
              go_meet
              case rel => exact ⟨l', dk, rfl, hl, HQ.out, HR.out⟩
          case rest =>
            clear HQ HR HD
            obtain ⟨l1, d1, rfl, hl1, hq1, hr1⟩ := hcut
            have HQ := Lib.hid hq1
            have HR := Lib.hid hr1
            have HD := Lib.hid hq1.size
            clear hq1 hr1
            have hcc := choosePivot_any w0 wc g sp d1 cap a' b' (by omega) (by rw [HD.out]; exact hb) (by rw [HD.out]; exact hs) (by rw [HD.out]; exact hc) HR.out
            rw [HD.out] at hcc
            have hpb := Sort.choosePivot_holds ltN d1 a' b' (by omega)
            generalize Sort.choosePivot ltN d1 a' b' = r at hcc hpb
            obtain ⟨p, hh⟩ := r
            have hp1 : a' ≤ p := hpb.1
            have hp2 : p < b' := hpb.2
            clear hpb
            have HC := Lib.hid hcc; clear hcc
            go_upto_if 50 with (go_at_call 88; refine HC.out.mono ?_; rintro e w2 ⟨rfl, h2⟩; have H2 := Lib.hid h2; clear h2)
            go_cut [11, 12] from 19 to 133 (fun s11 s12 wc => ∃ (p : Nat) (hi : Int) (d2 : Array Nat), s11 = .int .i64 p ∧ s12 = .int .i64 hi ∧ a' ≤ p ∧ p < b' ∧ PQ n d a b a' b' d2 ∧ SRow w0 wc g sp d2)
            case first =>
              clear HC
              by_cases hd : hh = .decreasing
              · subst hd
                have hcc := reverse_any w0 w2 g sp d1 cap a' b' (by omega) (by rw [HD.out]; exact hb) (by rw [HD.out]; exact hs) (by rw [HD.out]; exact hc) H2.out
                rw [HD.out] at hcc
                have HC := Lib.hid hcc; clear hcc
                have gd : (hintI .decreasing == 2) = true := rfl
                have gd2 : hintI .decreasing = 2 := rfl
                go_wp2_with (go_at_call 89; refine HC.out.mono ?_; rintro e w3 ⟨rfl, h3⟩; have H3 := Lib.hid h3; clear h3)
                go_meet
                case rel =>
                  refine ⟨b' - 1 - (p - a'), 1, _, ?_, rfl, by omega, by omega, HQ.out.perm (Sort.reverseRange_holds d1 a' b' hab (by rw [HD.out]; exact hb)), H3.out⟩
                  congr 1
                  omega
              · have gd : (hintI hh == 2) = false := by cases hh <;> first | rfl | exact absurd rfl hd
                go_wp2_with fail
                go_meet
                case rel => exact ⟨p, hintI hh, d1, rfl, rfl, hp1, hp2, HQ.out, H2.out⟩
            case rest =>
              clear HQ HR HD HC H2 hp1 hp2
              obtain ⟨p, hi, d2, rfl, rfl, hp1, hp2, hq2, hr2⟩ := hcut
              have HQ := Lib.hid hq2
              have HR := Lib.hid hr2
              have HD := Lib.hid hq2.size
              clear hq2 hr2
              go_upto_region 15 with fail
              go_cut [68] from 19 to 133 (fun s68 wx => ∃ c : Bool, s68 = .bool c ∧ wc = wx)
              case first =>
                cases wb <;> cases wp <;> cases hq : (hi == 1) <;>
                  (go_wp2_with fail
                   go_meet
                   exact ⟨_, rfl, rfl⟩)
              case rest =>
                obtain ⟨c, rfl, rfl⟩ := hcut
                go_upto_if 68 with fail
                go_cut [] from 19 to 133 (fun wx => ∃ d3 : Array Nat, PQ n d a b a' b' d3 ∧ SRow w0 wx g sp d3)
                case first =>
                  cases c
                  · go_wp2_with fail
                    go_meet
                    case rel => exact ⟨d2, HQ.out, HR.out⟩
                  · have hcc := partialIns_any w0 wc g sp d2 cap a' b' (by omega) (by rw [HD.out]; exact hb) (by rw [HD.out]; exact hs) (by rw [HD.out]; exact hc) HR.out
                    rw [HD.out] at hcc
                    have hpi := Sort.partialInsertionSort_holds swo_ltN d2 a' b' (by omega) (by rw [HD.out]; exact hb) HQ.out.bel
                    generalize Sort.partialInsertionSort ltN d2 a' b' = r at hcc hpi
                    obtain ⟨d3, ok⟩ := r
                    have HC := Lib.hid hcc; clear hcc
                    have HPI := Lib.hid hpi; clear hpi
                    cases ok
                    · go_wp2_with (go_at_call 90; refine HC.out.mono ?_; rintro e w3 ⟨rfl, h3⟩; have H3 := Lib.hid h3; clear h3)
                      go_meet
                      case rel => exact ⟨d3, HQ.out.perm HPI.out.1, H3.out⟩
                    · go_wp2_with (go_at_call 90; refine HC.out.mono ?_; rintro e w3 ⟨rfl, h3⟩; have H3 := Lib.hid h3; clear h3)
                      (try simp only [Exit.inBlock, Exit.then]); refine bodyPost_ret (results_none rfl _ _ _) rfl ?_
                      exact HQ.out.done ⟨HPI.out.1, HPI.out.2 trivial⟩ H3.out
                case rest =>
                  clear HQ HR HD
                  obtain ⟨d3, hq3, hr3⟩ := hcut
                  have HQ := Lib.hid hq3
                  have HR := Lib.hid hr3
                  have HD := Lib.hid hq3.size
                  clear hq3 hr3
                  go_upto_region 17 with fail
                  go_cut [87] from 19 to 133 (fun s87 wx => ∃ c : Bool, s87 = .bool c ∧ (c = true → 0 < a' ∧ ltN d3[a' - 1]! d3[p]! = false) ∧ SRow w0 wx g sp d3)
                  case first =>
                    rcases Nat.eq_zero_or_pos a' with ha0 | ha0
                    · have ga : decide ((0 : Int) < (a' : Int)) = false := by simp; omega
                      have ga2 : decide (0 < a') = false := by simp; omega
                      go_quiet (fail)
                      go_wp2_with fail
                      go_meet
                      case rel => exact ⟨false, rfl, fun h => (by cases h), HR.out.drewN _⟩
                    · have ga : decide ((0 : Int) < (a' : Int)) = true := by simp; omega
                      have ga2 : decide (0 < a') = true := by simp; omega
                      have hd1 : a' - 1 < d3.size := by rw [HD.out]; omega
                      have hd2 : p < d3.size := by rw [HD.out]; omega
                      have c1 := HR.out.cell hd1
                      have c2 := HR.out.cell hd2
                      obtain ⟨x, hx⟩ : ∃ x, d3[a' - 1]! = x := ⟨_, rfl⟩
                      obtain ⟨y, hy⟩ : ∃ y, d3[p]! = y := ⟨_, rfl⟩
                      rw [hx] at c1
                      rw [hy] at c2
                      have HX := Lib.hid hx; clear hx
                      have HY := Lib.hid hy; clear hy
                      have CL := Lib.hid (fun w => less_any x y w)
                      have i1 : (0 : Int) ≤ (a' : Int) - 1 := by omega
                      have i2 : (p : Int) < (n : Int) := by omega
                      have i3 : (a' : Int) - 1 < (n : Int) := by omega
                      have e1 : IntKind.i64.wrap ((a' : Int) - 1) = (a' : Int) - 1 := IntWalk.i64_in _ (by omega)
                      have e2 : ((a' : Int) - 1).toNat = a' - 1 := by omega
                      go_quiet ((go_at_call 91; exact quiet_left (CL.out _)))
                      go_wp2_with fail
                      go_meet
                      case rel => exact ⟨!decide (x < y), rfl, fun h => ⟨ha0, by rw [HX.out, HY.out]; simpa [ltN] using h⟩, HR.out.drewN _⟩
                  case rest =>
                    clear HR
                    obtain ⟨c, rfl, hcc, hr4⟩ := hcut
                    have HCC := Lib.hid hcc; clear hcc
                    have HR := Lib.hid hr4; clear hr4
                    cases c
                    · have hca := partition_any w0 wc g sp d3 cap a' b' p hp1 hp2 (by rw [HD.out]; exact hb) (by rw [HD.out]; exact hs) (by rw [HD.out]; exact hc) HR.out
                      rw [HD.out] at hca
                      obtain ⟨mid, ap, d4, hx⟩ : ∃ mid ap d4, Sort.partition ltN d3 a' b' p = (mid, ap, d4) := ⟨(Sort.partition ltN d3 a' b' p).1, (Sort.partition ltN d3 a' b' p).2.1, (Sort.partition ltN d3 a' b' p).2.2, rfl⟩
                      obtain ⟨r1, r2, r3, r4, r5, r6, r7⟩ := Sort.round_part swo_ltN (Sort.partition_holds _) hp1 hp2 (by rw [HD.out]; exact hb) HQ.out.bel hx
                      rw [hx] at hca
                      rw [HD.out] at r3
                      have HC := Lib.hid hca; have H4 := Lib.hid r4; have H5 := Lib.hid r5; have H6 := Lib.hid r6; have H7 := Lib.hid r7; have H3 := Lib.hid r3
                      clear hca hx r3 r4 r5 r6 r7
                      go_upto_if 113 with (go_at_call 93; refine HC.out.mono ?_; rintro e w7 ⟨rfl, h7⟩; have HS := Lib.hid h7; clear h7)
                      by_cases h4 : mid - a' < b' - mid
                      · have h4z : decide ((mid : Int) - (a' : Int) < (b' : Int) - (mid : Int)) = true := by simp; omega
                        have hih := HIH.out w0 w7 g sp d4 cap a' mid l1 (by omega) (by omega) (by rw [H3.out]; omega) (by rw [H3.out]; exact hs) (by rw [H3.out]; exact hc) hl1 H4.out HS.out
                        rw [H3.out] at hih
                        have HC2 := Lib.hid hih; clear hih
                        go_wp2_with (go_at_call 70; refine HC2.out.mono ?_; rintro e w8 ⟨rfl, h8⟩; have H8 := Lib.hid h8; clear h8)
                        go_roundg (b' - (mid + 1))
                        case measure => omega
                        case rel =>
                          obtain ⟨d5, q1, q2, q3⟩ := H8.out
                          obtain ⟨q4, q5⟩ := H6.out d5 q1 q2
                          exact ⟨mid + 1, b', l1, _, _, d5, by simp, rfl, rfl, rfl, rfl, Nat.le_refl _, by omega, hl1, ⟨q1.1.trans H3.out, by omega, hb, q4, fun R t1 t2 => HQ.out.fin R (q5 R t1 t2).1 (q5 R t1 t2).2⟩, q3⟩
                      · have h4z : decide ((mid : Int) - (a' : Int) < (b' : Int) - (mid : Int)) = false := by simp; omega
                        have hih := HIH.out w0 w7 g sp d4 cap (mid + 1) b' l1 (by omega) (by omega) (by rw [H3.out]; omega) (by rw [H3.out]; exact hs) (by rw [H3.out]; exact hc) hl1 H5.out HS.out
                        rw [H3.out] at hih
                        have HC2 := Lib.hid hih; clear hih
                        go_wp2_with (go_at_call 70; refine HC2.out.mono ?_; rintro e w8 ⟨rfl, h8⟩; have H8 := Lib.hid h8; clear h8)
                        go_roundg (mid - a')
                        case measure => omega
                        case rel =>
                          obtain ⟨d5, q1, q2, q3⟩ := H8.out
                          obtain ⟨q4, q5⟩ := H7.out d5 q1 q2
                          exact ⟨a', mid, l1, _, _, d5, rfl, rfl, rfl, rfl, rfl, Nat.le_refl _, by omega, hl1, ⟨q1.1.trans H3.out, r1, by omega, q4, fun R t1 t2 => HQ.out.fin R (q5 R t1 t2).1 (q5 R t1 t2).2⟩, q3⟩
                    · obtain ⟨ha0, hnl⟩ := HCC.out rfl
                      have hca := partitionEqual_any w0 wc g sp d3 cap a' b' p hp1 hp2 (by rw [HD.out]; exact hb) (by rw [HD.out]; exact hs) (by rw [HD.out]; exact hc) HR.out
                      rw [HD.out] at hca
                      obtain ⟨mid, d4, hx⟩ : ∃ mid d4, Sort.partitionEqual ltN d3 a' b' p = (mid, d4) := ⟨(Sort.partitionEqual ltN d3 a' b' p).1, (Sort.partitionEqual ltN d3 a' b' p).2, rfl⟩
                      obtain ⟨r1, r2, r3, r4, r5⟩ := Sort.round_eq swo_ltN (Sort.partitionEqual_holds _) ha0 hp1 hp2 (by rw [HD.out]; exact hb) HQ.out.bel hnl hx
                      rw [hx] at hca
                      rw [HD.out] at r3
                      have HC := Lib.hid hca; have H4 := Lib.hid r4; have H5 := Lib.hid r5; have H3 := Lib.hid r3
                      clear hca hx r3 r4 r5 hnl
                      go_wp2_with (go_at_call 92; refine HC.out.mono ?_; rintro e w7 ⟨rfl, h7⟩; have HS := Lib.hid h7; clear h7)
                      go_roundg (b' - mid)
                      case measure => omega
                      case rel =>
                        exact ⟨mid, b', l1, wb, wp, d4, rfl, rfl, rfl, rfl, rfl, Nat.le_refl _, by omega, hl1, ⟨H3.out, r2, hb, H4.out, fun R t1 t2 => HQ.out.fin R (H5.out R t1 t2).1 (H5.out R t1 t2).2⟩, HS.out⟩
theorem bitLen_le : ∀ (k n : Nat), n < 2 ^ k → k ≤ 64 → Lib.bitLen n ≤ k
  | 0, n, h, _ => by
    have : n = 0 := by simpa using h
    subst this
    decide
  | k + 1, n, h, h2 => by
    by_cases h0 : n = 0
    · subst h0; exact Nat.le_trans (by decide : Lib.bitLen 0 ≤ 0) (by omega)
    · have h64 : n < 2 ^ 64 := Nat.lt_of_lt_of_le h (Nat.pow_le_pow_right (by decide) h2)
      rw [Lib.bitLen_half n h0 h64]
      have := bitLen_le k (n / 2) (by rw [Nat.pow_succ] at h; omega) (by omega)
      omega
def SortPost (w0 : World) (g : Nat) (sp : List Value) (d : Array Nat) (e : Ending) (w' : World) : Prop :=
  e = .returned (.tuple #[]) ∧ ∃ d', d'.toList.Perm d.toList ∧ Sort.SortedIn ltN 0 d.size d' ∧ SRow w0 w' g sp d'
theorem sort_any (w0 w : World) (g : Nat) (sp : List Value) (d : Array Nat) (cap : Nat) (hs : d.size ≤ cap) (hc : d.size ≤ 1048576) (h : SRow w0 w g sp d) :
    Calls Tryz.prog 44 #[.slice (some ⟨g, 0, none⟩) d.size cap] w (SortPost w0 g sp d) := by
  have hb : Lib.bitLen d.size ≤ 64 := bitLen_le 64 d.size (by omega) (Nat.le_refl _)
  have CLN := Lib.hid (fun w => len_any d.size (by omega) w)
  have C := Lib.hid (pdq_any (d.size + 1) w0 w g sp d cap 0 d.size (Lib.bitLen d.size) (by omega) (by omega) (Nat.le_refl _) hs hc hb (.inl rfl) h)
  have HP : Hid (∀ e w', PdqPost w0 g sp d 0 d.size e w' → e = .returned (.tuple #[]) ∧ SortPost w0 g sp d (.returned (.tuple #[])) w') := by
    rintro e w' ⟨rfl, d', h1, h2, h3⟩
    refine ⟨rfl, rfl, d', ?_, h2, h3⟩
    have h5 := h1.2.2
    have hz : d'.toList.length = d.size := by rw [Array.length_toList]; exact h1.1
    simp only [Array.toList_extract, List.extract_eq_take_drop, List.drop_zero, Nat.sub_zero] at h5
    rw [List.take_of_length_le (by omega), List.take_of_length_le (by rw [Array.length_toList]; omega)] at h5
    exact h5
  clear h hb
  generalize Lib.bitLen d.size = k at *
  have HP2 := Lib.hid HP.out
  generalize SortPost w0 g sp d = post at *
  generalize PdqPost w0 g sp d 0 d.size = ppost at *
  generalize d.size = n at *
  clear HP
  go_enter Tryz.func44, Tryz.ntmps44
  go_wp2_with (first
    | (go_at_call 71; refine (CLN.out _).mono ?_; rintro e w' ⟨rfl, rfl⟩)
    | (go_at_call 70; refine C.out.mono ?_; rintro e w' h'; obtain ⟨rfl, h2⟩ := HP2.out e w' h'; have H2 := Lib.hid h2; clear h2 h'))
  go_end0
  exact H2.out
end Go.Proofs.YtomhflaofipccaaGreat
