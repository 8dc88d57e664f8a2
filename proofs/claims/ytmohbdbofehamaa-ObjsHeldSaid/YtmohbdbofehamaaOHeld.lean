/-
  The law ObjsHeld, walked.
-/
import Derived.Test.YtmohbdbofehamaaOHeldL
import Derived.Deep.CutRange
namespace Go.Proofs.Ytmohbdbofehamaa
open Go Go.RowKit Go.Maps OSt
set_option linter.unusedVariables false
set_option linter.unusedSimpArgs false
set_option maxRecDepth 100000
theorem box_kept (n0 n1 n2 : Int) (w W : World) (h : Below (w.heap.size + 1) (w.alloc (.cells #[.int .i64 n0, .int .i64 n1, .int .i64 n2] 39)) W) : W.cell? ⟨w.heap.size, 0, none⟩ = some (.int .i64 n0) ∧ W.cell? ⟨w.heap.size, 1, none⟩ = some (.int .i64 n1) ∧ W.cell? ⟨w.heap.size, 2, none⟩ = some (.int .i64 n2) := by
  have k := (Blk.new w 39 #[.int .i64 n0, .int .i64 n1, .int .i64 n2]).keeps (Below.keeps (S := fun b => w.heap.size + 1 ≤ b) h fun b h _ => h) (fun h : w.heap.size + 1 ≤ w.heap.size => by omega)
  exact ⟨k.cell 0, k.cell 1, k.cell 2⟩
set_option maxHeartbeats 4000000 in
theorem held_any (n0 n1 n2 : Int) (A : Option Addr) (len cap : Nat) (hlc : len ≤ cap) (hmx : len ≤ 140737488355328) (w : World) (hcell : ∀ i, i < len → ∃ (b off : Nat) (z : Int), A = some ⟨b, off, none⟩ ∧ b < w.heap.size ∧ w.cell? ⟨b, off + i, none⟩ = some (.int .i64 z) ∧ (-9223372036854775808 ≤ z ∧ z ≤ 9223372036854775807)) :
    Calls Try.prog 4 #[.agg #[.int .i64 n0, .int .i64 n1, .int .i64 n2], .slice A len cap] w fun e w' => e = .returned (.bool true) ∧ Below w.heap.size w w' := by
  obtain ⟨a0, ha0, ha9⟩ : ∃ a : Nat, max 0 (min n0 9) = (a : Int) ∧ a ≤ 9 := ⟨(max 0 (min n0 9)).toNat, by omega, by omega⟩
  obtain ⟨b0, hb0, hb9⟩ : ∃ a : Nat, max 0 (min n1 9) = (a : Int) ∧ a ≤ 9 := ⟨(max 0 (min n1 9)).toNat, by omega, by omega⟩
  obtain ⟨c0, hc0, hc9⟩ : ∃ a : Nat, max 0 (min n2 9) = (a : Int) ∧ a ≤ 9 := ⟨(max 0 (min n2 9)).toNat, by omega, by omega⟩
  have HC := Lib.hid hcell
  have HMX := Lib.hid hmx
  have HA9 := Lib.hid ha9
  have HB9 := Lib.hid hb9
  have HC9 := Lib.hid hc9
  clear hlc hmx hcell ha9 hb9 hc9
  go_enter Try.func4, Try.ntmps4
  go_upto_region 1 with fail
  have CN := Lib.hid (new_any (w.alloc (.cells #[.int .i64 n0, .int .i64 n1, .int .i64 n2] 39)))
  have H0 := Lib.hid (TO.new (w.alloc (.cells #[.int .i64 n0, .int .i64 n1, .int .i64 n2] 39)))
  have BW := Lib.hid ((Below.refl w.heap.size w).alloc (Nat.le_refl _) (.cells #[.int .i64 n0, .int .i64 n1, .int .i64 n2] 39))
  have HBX := Lib.hid (box_kept n0 n1 n2 w)
  have SZ : (w.alloc (.cells #[.int .i64 n0, .int .i64 n1, .int .i64 n2] 39)).heap.size = w.heap.size + 1 := by simp
  rw [SZ] at CN H0
  clear SZ
  generalize tabC none 0 newO.fds none = T0 at *
  generalize w.alloc (.cells #[.int .i64 n0, .int .i64 n1, .int .i64 n2] 39) = wa at *
  go_upto_region 8 with (first
    | (go_at_call 7; refine CN.out.mono ?_; rintro e w1 ⟨rfl, rfl⟩)
    | (go_at_call 13; refine (h_add H0.out).mono ?_; rintro e w2 ⟨rfl, h2⟩; have H2 := Lib.hid h2; have dd := HBX.out w2 h2.below; obtain ⟨d0, d1, d2⟩ := dd; clear h2))
  have L0 : Hid (TL (w.heap.size + 1) wa (w.heap.size + 1) w2.heap.size a0 b0 c0 (HS 0 1 0 0) (w2.alloc (.cells #[.int .i64 (a0 : Int), .int .i64 (b0 : Int), .int .i64 (c0 : Int)] intT))) := ⟨H2.out.quiet ((Keeps.refl _ _).alloc _), Blk.new _ _ _, H2.out.sz⟩
  generalize w2.alloc (.cells #[.int .i64 (a0 : Int), .int .i64 (b0 : Int), .int .i64 (c0 : Int)] intT) = w3 at *
  generalize w2.heap.size = g at *
  clear H0 H2 CN HBX d0 d1 d2 ha0 hb0 hc0
  generalize min n0 9 = q0 at *
  generalize min n1 9 = q1 at *
  generalize min n2 9 = q2 at *
  go_wp2_with fail
  go_loopw [10, 11, 12] (fun i v11 v12 wr => ∃ j : Nat, i = .int .i64 (j : Int) ∧ j ≤ a0 ∧ TL (w.heap.size + 1) wa (w.heap.size + 1) g a0 b0 c0 (HS 0 (1 + j) 0 0) wr) (fun i _ _ _ => a0 - (Lib.intOf i).toNat)
  case atStart => exact ⟨0, rfl, Nat.zero_le _, L0.out⟩
  case round =>
    clear L0
    obtain ⟨j, rfl, hj, ht⟩ := hrel
    obtain ⟨d0, d1, d2, _⟩ := ht.facts
    have HT := Lib.hid ht
    have HJ := Lib.hid hj
    clear ht hj
    by_cases hlt : j < a0
    · have g1 : decide ((j : Int) < (a0 : Int)) = true := decide_eq_true (by omega)
      have g2 : decide (j < a0) = true := decide_eq_true hlt
      have i1 : (j : Int) < (a0 : Int) := by omega
      have e1 : (j : Int) + 1 ≤ 9223372036854775807 := by have := HA9.out; omega
      have C1 := Lib.hid (l_dup HT.out (by have := HA9.out; omega))
      have HLT := Lib.hid hlt
      clear hlt HT
      go_wp2_with (go_at_call 14; refine C1.out.mono ?_; rintro e w4 ⟨⟨q, rfl⟩, h1⟩; have H1 := Lib.hid h1; clear h1)
      go_roundw
      case rel => exact ⟨j + 1, by go_num, HLT.out, H1.out⟩
      case measure => have := HLT.out; simp [Lib.intOf]; omega
    · obtain rfl : a0 = j := by have := HJ.out; omega
      have g1 : decide ((a0 : Int) < (a0 : Int)) = false := decide_eq_false (by omega)
      clear hlt HJ
      go_wp2_with fail
      go_loopw [13] (fun i wr => ∃ j : Nat, i = .int .i64 (j : Int) ∧ j ≤ b0 ∧ TL (w.heap.size + 1) wa (w.heap.size + 1) g a0 b0 c0 (HS j (1 + a0) j 0) wr) (fun i _ => b0 - (Lib.intOf i).toNat)
      case atStart => exact ⟨0, rfl, Nat.zero_le _, HT.out⟩
      case round =>
        clear HT d0 d1 d2
        obtain ⟨j, rfl, hj, ht⟩ := hrel
        obtain ⟨d0, d1, d2, _⟩ := ht.facts
        have HT := Lib.hid ht
        have HJ := Lib.hid hj
        clear ht hj
        by_cases hlt : j < b0
        · have g1 : decide ((j : Int) < (b0 : Int)) = true := decide_eq_true (by omega)
          have g2 : decide (j < b0) = true := decide_eq_true hlt
          have i1 : (j : Int) < (b0 : Int) := by omega
          have e1 : (j : Int) + 1 ≤ 9223372036854775807 := by have := HB9.out; omega
          have e2 : 97 + (j : Int) ≤ 9223372036854775807 := by have := HB9.out; omega
          have CV := Lib.hid (one_conv j (by have := HB9.out; omega))
          have C1 := Lib.hid (fun W (h : TL (w.heap.size + 1) wa (w.heap.size + 1) g a0 b0 c0 (HS j (1 + a0) j 0) W) => l_pin h HA9.out (by have := HB9.out; omega))
          have HLT := Lib.hid hlt
          clear hlt
          go_wp2_with fail
          rw [CV.out]
          have HT2 := Lib.hid (HT.out.alloc (.cells #[.int .u8 ((97 + (j : Int)) % 256)] 5))
          generalize wr.alloc (.cells #[.int .u8 ((97 + (j : Int)) % 256)] 5) = wc at *
          clear HT CV
          have sl : ∀ W, (Op.stringOp .add { data := #[47] } (letter j)).run Try.prog W = .ok (.string (pth j)) W := slash_run j
          generalize letter j = l at *
          go_wp2_with (go_at_call 15; refine (C1.out _ HT2.out).mono ?_; rintro e w4 ⟨rfl, h1⟩; have H1 := Lib.hid h1; clear h1)
          go_roundw
          case rel => exact ⟨j + 1, by go_num, HLT.out, H1.out⟩
          case measure => have := HLT.out; simp [Lib.intOf]; omega
        · obtain rfl : b0 = j := by have := HJ.out; omega
          have g1 : decide ((b0 : Int) < (b0 : Int)) = false := decide_eq_false (by omega)
          clear hlt HJ
          go_wp2_with fail
          go_loopw [14] (fun i wr => ∃ j : Nat, i = .int .i64 (j : Int) ∧ j ≤ c0 ∧ TL (w.heap.size + 1) wa (w.heap.size + 1) g a0 b0 c0 (HS b0 (1 + a0) b0 j) wr) (fun i _ => c0 - (Lib.intOf i).toNat)
          case atStart => exact ⟨0, rfl, Nat.zero_le _, HT.out⟩
          case round =>
            clear HT d0 d1 d2
            obtain ⟨j, rfl, hj, ht⟩ := hrel
            obtain ⟨d0, d1, d2, f0, f1, f2⟩ := ht.facts
            have HT := Lib.hid ht
            have HJ := Lib.hid hj
            clear ht hj
            by_cases hlt : j < c0
            · have g1 : decide ((j : Int) < (c0 : Int)) = true := decide_eq_true (by omega)
              have g2 : decide (j < c0) = true := decide_eq_true hlt
              have i1 : (j : Int) < (c0 : Int) := by omega
              have e1 : (j : Int) + 1 ≤ 9223372036854775807 := by have := HC9.out; omega
              have C1 := Lib.hid (l_hold HT.out HA9.out HB9.out (by have := HC9.out; omega))
              have HLT := Lib.hid hlt
              clear hlt HT
              go_wp2_with (go_at_call 16; refine C1.out.mono ?_; rintro e w4 ⟨rfl, h1⟩; have H1 := Lib.hid h1; clear h1)
              go_roundw
              case rel => exact ⟨j + 1, by go_num, HLT.out, H1.out⟩
              case measure => have := HLT.out; simp [Lib.intOf]; omega
            · obtain rfl : c0 = j := by have := HJ.out; omega
              have g1 : decide ((c0 : Int) < (c0 : Int)) = false := decide_eq_false (by omega)
              have e1 : (a0 : Int) + 1 ≤ 9223372036854775807 := by have := HA9.out; omega
              clear hlt HJ
              have ht2 := HT.out.set0 (a0 + 1)
              rw [show ((a0 + 1 : Nat) : Int) = (a0 : Int) + 1 from rfl] at ht2
              have HT2 := Lib.hid ht2
              clear ht2
              go_upto_region 25 with fail
              generalize wr.setCell ⟨g, 0, none⟩ (.int .i64 ((a0 : Int) + 1)) = wl at *
              clear HT d0 d1 d2 f0 f1 f2 e1 g1
              go_wp2_with fail
              go_loopw [15, 16, 17, 18, 19] (fun i v16 v17 v18 v19 wr => ∃ ii a b c : Nat, i = .int .i64 (ii : Int) ∧ (a ≤ 10 ∧ b ≤ 9 ∧ c ≤ 9) ∧ ii + mu len ii a b c ≤ 3 * len + 92 ∧ TL (w.heap.size + 1) wa (w.heap.size + 1) g a b c (HE b0 a b c) wr) (fun i _ _ _ _ _ => 3 * len + 93 - (Lib.intOf i).toNat)
              case atStart =>
                have h1 := HA9.out
                have h2 := HB9.out
                have h3 := HC9.out
                refine ⟨0, a0 + 1, b0, c0, rfl, ⟨by omega, h2, h3⟩, ?_, ?_⟩
                · have := mu_le (L := len) (a := a0 + 1) (b := b0) (c := c0) (by omega) h2 h3
                  omega
                · have h := HT2.out
                  unfold HE
                  rw [if_neg (by omega), Nat.add_comm a0 1]
                  rw [Nat.add_comm a0 1] at h
                  exact h
              case round =>
                clear HT2
                obtain ⟨ii, a, b, c, rfl, hbd, hm, ht⟩ := hrel
                obtain ⟨d0, d1, d2, f0, f1, f2⟩ := ht.facts
                have HT := Lib.hid ht
                have HBD := Lib.hid hbd
                have HM := Lib.hid hm
                have s1 : (a : Int) + (b : Int) ≤ 9223372036854775807 := by omega
                have s2 : (a : Int) + (b : Int) + (c : Int) ≤ 9223372036854775807 := by omega
                clear ht hbd hm
                by_cases hz : a + b + c = 0
                · obtain ⟨rfl, rfl, rfl⟩ : a = 0 ∧ b = 0 ∧ c = 0 := by omega
                  clear hz f0 f1 f2
                  go_upto_region 26 with fail
                  go_quiet (fail)
                  have HT1 := Lib.hid (HT.out.quiet (keeps_drewN wr nq))
                  clear HT d0 d1 d2
                  generalize wr.drewN nq = wd at *
                  go_wp2_with (go_at_call 12; refine (awake_later HT1.out.1.below HT1.out.1.sz).mono ?_; rintro e w7 ⟨rfl, hb⟩; have B7 := Lib.hid hb; clear hb)
                  go_ret
                  exact ⟨rfl, BW.out.trans (B7.out.mono (Nat.le_succ _))⟩
                · have g1 : decide ((0 : Int) < (a : Int) + (b : Int) + (c : Int)) = true := decide_eq_true (by omega)
                  have g2 : (0 : Int) < (a : Int) + (b : Int) + (c : Int) := by omega
                  have g3 : decide (0 < a + b + c) = true := decide_eq_true (by omega)
                  have HZ := Lib.hid hz
                  clear hz
                  go_upto_region 26 with fail
                  go_quiet (fail)
                  have HT1 := Lib.hid (HT.out.quiet (keeps_drewN wr nq))
                  clear HT d0 d1 d2 f0 f1 f2 s1 s2
                  generalize wr.drewN nq = wd at *
                  go_upto_if 110 with fail
                  go_cut [16] from 92 to 195 (fun s16 wc => ∃ z : Int, s16 = .int .i64 z ∧ (-9223372036854775808 ≤ z ∧ z ≤ 9223372036854775807) ∧ (len ≤ ii → z = (ii : Int)) ∧ wd = wc)
                  case first =>
                    by_cases hl : ii < len
                    · obtain ⟨bb, off, z, rfl, hlt, hc, hz1, hz2⟩ := HC.out ii hl
                      have c1 : wd.cell? ⟨bb, off + ii, none⟩ = some (.int .i64 z) := ((BW.out.trans (HT1.out.1.below.mono (Nat.le_succ _))).cell (p := ⟨bb, off + ii, none⟩) hlt).trans hc
                      have g1 : decide ((ii : Int) < (len : Int)) = true := decide_eq_true (by omega)
                      have g2 : decide (ii < len) = true := decide_eq_true hl
                      have i1 : (ii : Int) < (len : Int) := by omega
                      have HL := Lib.hid hl
                      have HZ1 := Lib.hid (And.intro hz1 hz2)
                      clear hl hc hlt hz1 hz2
                      go_wp2_with fail
                      go_meet
                      case rel => exact ⟨z, rfl, HZ1.out, fun h => by have := HL.out; omega, rfl⟩
                    · have g1 : decide ((ii : Int) < (len : Int)) = false := decide_eq_false (by omega)
                      have g2 : decide (ii < len) = false := decide_eq_false hl
                      have HL := Lib.hid hl
                      clear hl
                      go_wp2_with fail
                      go_meet
                      case rel => exact ⟨(ii : Int), rfl, by have := HM.out; have := HMX.out; omega, fun _ => rfl, rfl⟩
                  case rest =>
                    obtain ⟨z, rfl, hz, hzi, rfl⟩ := hcut
                    have HZ1 := Lib.hid hz
                    have HZI := Lib.hid hzi
                    clear hz hzi
                    have r3 := rem3 z
                    have eI : (ii : Int) + 1 ≤ 9223372036854775807 := by have := HM.out; have := HMX.out; omega
                    have KI : Hid (∀ k : Nat, (wrap64 (z.tmod 3 + 3)).tmod 3 = (k : Int) → len ≤ ii → k = ii % 3) := fun k hk h => by
                      have e := HZI.out h
                      rw [e, rem3n] at hk
                      omega
                    go_upto_region 32 with fail
                    rcases r3 with hk | hk | hk
                    · have HK := Lib.hid (KI.out 0 hk)
                      rw [hk]
                      clear hk
                      by_cases hx : a = 0
                      · subst hx
                        obtain ⟨d0, d1, d2, _⟩ := HT1.out.facts
                        have d0z : wd.cell? ⟨g, 0, none⟩ = some (.int .i64 0) := d0
                        clear d0
                        go_wp2_with fail
                        go_roundw
                        case rel => exact ⟨ii + 1, 0, b, c, by go_num, HBD.out, Nat.le_trans (mu_skip (k := 0) HK.out rfl (Nat.pos_of_ne_zero HZ.out)) HM.out, HT1.out⟩
                        case measure => have h1 := HM.out; have h2 := mu_pos (L := len) (i := ii) (Nat.pos_of_ne_zero HZ.out); simp [Lib.intOf]; omega
                      · obtain ⟨m, rfl⟩ : ∃ m, a = m + 1 := ⟨a - 1, by omega⟩
                        clear hx
                        have ht1 := HT1.out
                        unfold HE at ht1
                        rw [if_neg HZ.out] at ht1
                        obtain ⟨d0, d1, d2, f0, f1, f2⟩ := ht1.facts
                        have b0x : (m : Int) + 1 ≤ 9223372036854775807 := by have := HBD.out; omega
                        have g0 : (((m : Int) + 1) == 0) = false := by simp; omega
                        have HT2 := Lib.hid (ht1.set0 m)
                        clear HT1 ht1
                        go_upto_region 34 with fail
                        generalize wd.setCell ⟨g, 0, none⟩ (.int .i64 (m : Int)) = we at *
                        clear d0 d1 d2 f0 f1 f2 b0x g0
                        obtain ⟨d0, d1, d2, _⟩ := HT2.out.facts
                        have c1 := fun W (h : TL (w.heap.size + 1) wa (w.heap.size + 1) g m b c (HS b0 (m + 1) b c) W) => l_close h (by have := HBD.out; omega) (by have := HBD.out; omega) (by have := HBD.out; omega) HB9.out
                        have c2 := fun W (h : TL (w.heap.size + 1) wa (w.heap.size + 1) g m b c (HE b0 m b c) W) => l_live h (by have := HBD.out; omega) (by have := HBD.out; omega) (by have := HBD.out; omega) HB9.out
                        generalize hn : (if m + b + c = 0 then 1 else 0) = n at c1
                        generalize hl : (if m + b + c = 0 then 0 else 1) = l at c2
                        have HN := Lib.hid hn
                        have HL := Lib.hid hl
                        have C1 := Lib.hid c1
                        have C2 := Lib.hid c2
                        clear hn hl c1 c2
                        go_upto_region 42 with (go_at_call 17; refine (C1.out _ HT2.out).mono ?_; rintro e w4 ⟨⟨A4, c4, rfl⟩, h1⟩; have H1 := Lib.hid h1; clear h1)
                        clear HT2 d0 d1 d2
                        by_cases hs : m + b + c = 0
                        · obtain ⟨rfl, rfl, rfl⟩ : m = 0 ∧ b = 0 ∧ c = 0 := by omega
                          obtain rfl : n = 1 := HN.out.symm.trans (if_pos rfl)
                          obtain rfl : l = 0 := HL.out.symm.trans (if_pos rfl)
                          clear hs HN HL
                          have d0 : w4.cell? ⟨g, 0, none⟩ = some (.int .i64 0) := H1.out.facts.1
                          have d1 : w4.cell? ⟨g, 1, none⟩ = some (.int .i64 0) := H1.out.facts.2.1
                          have d2 : w4.cell? ⟨g, 2, none⟩ = some (.int .i64 0) := H1.out.facts.2.2.1
                          go_quiet (fail)
                          have HT4 := Lib.hid (H1.out.quiet (keeps_drewN w4 nq))
                          clear H1
                          generalize w4.drewN nq = w5 at *
                          go_wp2_with (go_at_call 10; refine (C2.out _ HT4.out).mono ?_; rintro e w6 ⟨⟨A6, c6, rfl⟩, h6⟩; have H6 := Lib.hid h6; clear h6)
                          go_roundw
                          case rel => exact ⟨ii + 1, 0, 0, 0, by go_num, (by have := HBD.out; omega), Nat.le_trans (mu_take (by omega)) HM.out, H6.out⟩
                          case measure => have h1 := HM.out; have h2 := mu_pos (L := len) (i := ii) (Nat.pos_of_ne_zero HZ.out); simp [Lib.intOf]; omega
                        · obtain ⟨d0, d1, d2, _⟩ := H1.out.facts
                          obtain rfl : n = 0 := HN.out.symm.trans (if_neg hs)
                          obtain rfl : l = 1 := HL.out.symm.trans (if_neg hs)
                          have s1 : (m : Int) + (b : Int) ≤ 9223372036854775807 := by have := HBD.out; omega
                          have s2 : (m : Int) + (b : Int) + (c : Int) ≤ 9223372036854775807 := by have := HBD.out; omega
                          have s3 : (((m : Int) + (b : Int) + (c : Int)) == 0) = false := by simp; omega
                          clear HN HL hs
                          go_quiet (fail)
                          have HT4 := Lib.hid (H1.out.quiet (keeps_drewN w4 nq))
                          clear H1
                          generalize w4.drewN nq = w5 at *
                          go_wp2_with (go_at_call 10; refine (C2.out _ HT4.out).mono ?_; rintro e w6 ⟨⟨A6, c6, rfl⟩, h6⟩; have H6 := Lib.hid h6; clear h6)
                          go_roundw
                          case rel => exact ⟨ii + 1, m, b, c, by go_num, (by have := HBD.out; omega), Nat.le_trans (mu_take (by omega)) HM.out, H6.out⟩
                          case measure => have h1 := HM.out; have h2 := mu_pos (L := len) (i := ii) (Nat.pos_of_ne_zero HZ.out); simp [Lib.intOf]; omega
                    · have HK := Lib.hid (KI.out 1 hk)
                      rw [hk]
                      clear hk
                      by_cases hx : b = 0
                      · subst hx
                        obtain ⟨d0, d1, d2, _⟩ := HT1.out.facts
                        have d1z : wd.cell? ⟨g, 1, none⟩ = some (.int .i64 0) := d1
                        clear d1
                        go_wp2_with fail
                        go_roundw
                        case rel => exact ⟨ii + 1, a, 0, c, by go_num, HBD.out, Nat.le_trans (mu_skip (k := 1) HK.out rfl (Nat.pos_of_ne_zero HZ.out)) HM.out, HT1.out⟩
                        case measure => have h1 := HM.out; have h2 := mu_pos (L := len) (i := ii) (Nat.pos_of_ne_zero HZ.out); simp [Lib.intOf]; omega
                      · obtain ⟨m, rfl⟩ : ∃ m, b = m + 1 := ⟨b - 1, by omega⟩
                        clear hx
                        have ht1 := HT1.out
                        unfold HE at ht1
                        rw [if_neg HZ.out] at ht1
                        obtain ⟨d0, d1, d2, f0, f1, f2⟩ := ht1.facts
                        have b0x : (m : Int) + 1 ≤ 9223372036854775807 := by have := HBD.out; omega
                        have g0 : (((m : Int) + 1) == 0) = false := by simp; omega
                        have HT2 := Lib.hid (ht1.set1 m)
                        clear HT1 ht1
                        go_upto_region 34 with fail
                        generalize wd.setCell ⟨g, 1, none⟩ (.int .i64 (m : Int)) = we at *
                        clear d0 d1 d2 f0 f1 f2 b0x g0
                        obtain ⟨d0, d1, d2, _⟩ := HT2.out.facts
                        have c1 := fun W (h : TL (w.heap.size + 1) wa (w.heap.size + 1) g a m c (HS b0 a (m + 1) c) W) => l_unpin h (by have := HBD.out; omega) (by have := HBD.out; omega) (by have := HBD.out; omega) HB9.out
                        have c2 := fun W (h : TL (w.heap.size + 1) wa (w.heap.size + 1) g a m c (HE b0 a m c) W) => l_live h (by have := HBD.out; omega) (by have := HBD.out; omega) (by have := HBD.out; omega) HB9.out
                        generalize hn : (if a + m + c = 0 then 1 else 0) = n at c1
                        generalize hl : (if a + m + c = 0 then 0 else 1) = l at c2
                        have HN := Lib.hid hn
                        have HL := Lib.hid hl
                        have C1 := Lib.hid c1
                        have C2 := Lib.hid c2
                        clear hn hl c1 c2
                        have e2 : 97 + (m : Int) ≤ 9223372036854775807 := by have := HBD.out; omega
                        have CV := Lib.hid (one_conv m (by have := HBD.out; omega))
                        go_wp2_with fail
                        rw [CV.out]
                        have HT3 := Lib.hid (HT2.out.alloc (.cells #[.int .u8 ((97 + (m : Int)) % 256)] 5))
                        generalize we.alloc (.cells #[.int .u8 ((97 + (m : Int)) % 256)] 5) = wf at *
                        clear HT2 CV d0 d1 d2
                        have sl : ∀ W, (Op.stringOp .add { data := #[47] } (letter m)).run Try.prog W = .ok (.string (pth m)) W := slash_run m
                        generalize letter m = lm at *
                        go_upto_region 42 with (go_at_call 18; refine (C1.out _ HT3.out).mono ?_; rintro e w4 ⟨⟨A4, c4, rfl⟩, h1⟩; have H1 := Lib.hid h1; clear h1)
                        clear sl e2
                        by_cases hs : a + m + c = 0
                        · obtain ⟨rfl, rfl, rfl⟩ : m = 0 ∧ a = 0 ∧ c = 0 := by omega
                          obtain rfl : n = 1 := HN.out.symm.trans (if_pos rfl)
                          obtain rfl : l = 0 := HL.out.symm.trans (if_pos rfl)
                          clear hs HN HL
                          have d0 : w4.cell? ⟨g, 0, none⟩ = some (.int .i64 0) := H1.out.facts.1
                          have d1 : w4.cell? ⟨g, 1, none⟩ = some (.int .i64 0) := H1.out.facts.2.1
                          have d2 : w4.cell? ⟨g, 2, none⟩ = some (.int .i64 0) := H1.out.facts.2.2.1
                          go_quiet (fail)
                          have HT4 := Lib.hid (H1.out.quiet (keeps_drewN w4 nq))
                          clear H1
                          generalize w4.drewN nq = w5 at *
                          go_wp2_with (go_at_call 10; refine (C2.out _ HT4.out).mono ?_; rintro e w6 ⟨⟨A6, c6, rfl⟩, h6⟩; have H6 := Lib.hid h6; clear h6)
                          go_roundw
                          case rel => exact ⟨ii + 1, 0, 0, 0, by go_num, (by have := HBD.out; omega), Nat.le_trans (mu_take (by omega)) HM.out, H6.out⟩
                          case measure => have h1 := HM.out; have h2 := mu_pos (L := len) (i := ii) (Nat.pos_of_ne_zero HZ.out); simp [Lib.intOf]; omega
                        · obtain ⟨d0, d1, d2, _⟩ := H1.out.facts
                          obtain rfl : n = 0 := HN.out.symm.trans (if_neg hs)
                          obtain rfl : l = 1 := HL.out.symm.trans (if_neg hs)
                          have s1 : (a : Int) + (m : Int) ≤ 9223372036854775807 := by have := HBD.out; omega
                          have s2 : (a : Int) + (m : Int) + (c : Int) ≤ 9223372036854775807 := by have := HBD.out; omega
                          have s3 : (((a : Int) + (m : Int) + (c : Int)) == 0) = false := by simp; omega
                          clear HN HL hs
                          go_quiet (fail)
                          have HT4 := Lib.hid (H1.out.quiet (keeps_drewN w4 nq))
                          clear H1
                          generalize w4.drewN nq = w5 at *
                          go_wp2_with (go_at_call 10; refine (C2.out _ HT4.out).mono ?_; rintro e w6 ⟨⟨A6, c6, rfl⟩, h6⟩; have H6 := Lib.hid h6; clear h6)
                          go_roundw
                          case rel => exact ⟨ii + 1, a, m, c, by go_num, (by have := HBD.out; omega), Nat.le_trans (mu_take (by omega)) HM.out, H6.out⟩
                          case measure => have h1 := HM.out; have h2 := mu_pos (L := len) (i := ii) (Nat.pos_of_ne_zero HZ.out); simp [Lib.intOf]; omega
                    · have HK := Lib.hid (KI.out 2 hk)
                      rw [hk]
                      clear hk
                      by_cases hx : c = 0
                      · subst hx
                        obtain ⟨d0, d1, d2, _⟩ := HT1.out.facts
                        have d2z : wd.cell? ⟨g, 2, none⟩ = some (.int .i64 0) := d2
                        clear d2
                        go_wp2_with fail
                        go_roundw
                        case rel => exact ⟨ii + 1, a, b, 0, by go_num, HBD.out, Nat.le_trans (mu_skip (k := 2) HK.out rfl (Nat.pos_of_ne_zero HZ.out)) HM.out, HT1.out⟩
                        case measure => have h1 := HM.out; have h2 := mu_pos (L := len) (i := ii) (Nat.pos_of_ne_zero HZ.out); simp [Lib.intOf]; omega
                      · obtain ⟨m, rfl⟩ : ∃ m, c = m + 1 := ⟨c - 1, by omega⟩
                        clear hx
                        have ht1 := HT1.out
                        unfold HE at ht1
                        rw [if_neg HZ.out] at ht1
                        obtain ⟨d0, d1, d2, f0, f1, f2⟩ := ht1.facts
                        have b0x : (m : Int) + 1 ≤ 9223372036854775807 := by have := HBD.out; omega
                        have g0 : (((m : Int) + 1) == 0) = false := by simp; omega
                        have HT2 := Lib.hid (ht1.set2 m)
                        clear HT1 ht1
                        go_upto_region 34 with fail
                        generalize wd.setCell ⟨g, 2, none⟩ (.int .i64 (m : Int)) = we at *
                        clear d0 d1 d2 f0 f1 f2 b0x g0
                        obtain ⟨d0, d1, d2, _⟩ := HT2.out.facts
                        have c1 := fun W (h : TL (w.heap.size + 1) wa (w.heap.size + 1) g a b m (HS b0 a b (m + 1)) W) => l_drop h (by have := HBD.out; omega) (by have := HBD.out; omega) (by have := HBD.out; omega) HB9.out
                        have c2 := fun W (h : TL (w.heap.size + 1) wa (w.heap.size + 1) g a b m (HE b0 a b m) W) => l_live h (by have := HBD.out; omega) (by have := HBD.out; omega) (by have := HBD.out; omega) HB9.out
                        generalize hn : (if a + b + m = 0 then 1 else 0) = n at c1
                        generalize hl : (if a + b + m = 0 then 0 else 1) = l at c2
                        have HN := Lib.hid hn
                        have HL := Lib.hid hl
                        have C1 := Lib.hid c1
                        have C2 := Lib.hid c2
                        clear hn hl c1 c2
                        go_upto_region 42 with (go_at_call 19; refine (C1.out _ HT2.out).mono ?_; rintro e w4 ⟨⟨A4, c4, rfl⟩, h1⟩; have H1 := Lib.hid h1; clear h1)
                        clear HT2 d0 d1 d2
                        by_cases hs : a + b + m = 0
                        · obtain ⟨rfl, rfl, rfl⟩ : m = 0 ∧ a = 0 ∧ b = 0 := by omega
                          obtain rfl : n = 1 := HN.out.symm.trans (if_pos rfl)
                          obtain rfl : l = 0 := HL.out.symm.trans (if_pos rfl)
                          clear hs HN HL
                          have d0 : w4.cell? ⟨g, 0, none⟩ = some (.int .i64 0) := H1.out.facts.1
                          have d1 : w4.cell? ⟨g, 1, none⟩ = some (.int .i64 0) := H1.out.facts.2.1
                          have d2 : w4.cell? ⟨g, 2, none⟩ = some (.int .i64 0) := H1.out.facts.2.2.1
                          go_quiet (fail)
                          have HT4 := Lib.hid (H1.out.quiet (keeps_drewN w4 nq))
                          clear H1
                          generalize w4.drewN nq = w5 at *
                          go_wp2_with (go_at_call 10; refine (C2.out _ HT4.out).mono ?_; rintro e w6 ⟨⟨A6, c6, rfl⟩, h6⟩; have H6 := Lib.hid h6; clear h6)
                          go_roundw
                          case rel => exact ⟨ii + 1, 0, 0, 0, by go_num, (by have := HBD.out; omega), Nat.le_trans (mu_take (by omega)) HM.out, H6.out⟩
                          case measure => have h1 := HM.out; have h2 := mu_pos (L := len) (i := ii) (Nat.pos_of_ne_zero HZ.out); simp [Lib.intOf]; omega
                        · obtain ⟨d0, d1, d2, _⟩ := H1.out.facts
                          obtain rfl : n = 0 := HN.out.symm.trans (if_neg hs)
                          obtain rfl : l = 1 := HL.out.symm.trans (if_neg hs)
                          have s1 : (a : Int) + (b : Int) ≤ 9223372036854775807 := by have := HBD.out; omega
                          have s2 : (a : Int) + (b : Int) + (m : Int) ≤ 9223372036854775807 := by have := HBD.out; omega
                          have s3 : (((a : Int) + (b : Int) + (m : Int)) == 0) = false := by simp; omega
                          clear HN HL hs
                          go_quiet (fail)
                          have HT4 := Lib.hid (H1.out.quiet (keeps_drewN w4 nq))
                          clear H1
                          generalize w4.drewN nq = w5 at *
                          go_wp2_with (go_at_call 10; refine (C2.out _ HT4.out).mono ?_; rintro e w6 ⟨⟨A6, c6, rfl⟩, h6⟩; have H6 := Lib.hid h6; clear h6)
                          go_roundw
                          case rel => exact ⟨ii + 1, a, b, m, by go_num, (by have := HBD.out; omega), Nat.le_trans (mu_take (by omega)) HM.out, H6.out⟩
                          case measure => have h1 := HM.out; have h2 := mu_pos (L := len) (i := ii) (Nat.pos_of_ne_zero HZ.out); simp [Lib.intOf]; omega
end Go.Proofs.Ytmohbdbofehamaa
