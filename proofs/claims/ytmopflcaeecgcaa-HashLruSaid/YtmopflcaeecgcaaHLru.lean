/-
  The law HashLru, walked.
-/
import Derived.Test.YtmopflcaeecgcaaHLruP
import Derived.Test.YtmopflcaeecgcaaP17
namespace Go.Proofs.Ytmopflcaeecgcaa
open Go Go.RowKit Go.Maps
set_option linter.unusedVariables false
set_option linter.unusedSimpArgs false
set_option maxRecDepth 100000
theorem empty_of {s : ByteArray} (h : s.size = 0) : s = ⟨#[]⟩ := ByteArray.ext (Array.eq_empty_of_size_eq_zero h)
/-- Behind i keys: the table, and the one that was used last. -/
structure LruAt (B : Nat) (w0 : World) (p : HPar) (i : Nat) (last : ByteArray) (s : HSt) (w : World) : Prop where
  ok : HOk p s
  gone : s.gone = false
  fail : s.m.fail = 0
  clock : s.clock ≤ 3 * i
  made : s.m.made ≤ i
  last : last = ⟨#[]⟩ ∨ (last.size = 1 ∧ Top s last)
  tb : TB B w0 p s w
abbrev vV : ByteArray := ⟨#[118]⟩
set_option maxHeartbeats 4000000 in
theorem lru_walk (A : Option Addr) (len cap : Nat) (hlc : len ≤ cap) (hm : cap ≤ maxLen) (most : Int) (w : World)
    (hA : ∀ i, i < len → ∃ (b off : Nat) (ss : ByteArray), A = some ⟨b, off, none⟩ ∧ b < w.heap.size ∧ w.cell? ⟨b, off + i, none⟩ = some (.string ss)) :
    Calls Try.prog 6 #[.slice A len cap, .int .i64 most] w fun e w' => e = .returned (.bool true) ∧ Below w.heap.size w w' := by
  obtain ⟨mx, hmx, m1, m2⟩ : ∃ mx : Nat, max 1 (min most 10) = (mx : Int) ∧ 1 ≤ mx ∧ mx ≤ 10 := ⟨(max 1 (min most 10)).toNat, by omega, by omega, by omega⟩
  have HMX := Lib.hid hmx
  clear hmx
  have hm' : cap ≤ 9223372036854775807 := by unfold maxLen at hm; omega
  have hfit : fitsH 9 (1 : Nat) (1 : Nat) mx = true := by simp [fitsH]; omega
  have C0 := Lib.hid (new_any w)
  have CN := Lib.hid (tb_new w 9 1 1 mx hfit)
  have HOK := Lib.hid (fun x => hok_new (bm := w.heap.size) (bx := 0) (x := x) (y := 0) (m := ⟨0, 0, fun _ => none⟩) hfit)
  have HA := Lib.hid hA
  have CAW := Lib.hid (fun (W : World) (h1 : Below w.heap.size w W) (h2 : w.heap.size ≤ W.heap.size) => awake_later h1 h2)
  clear hA hm hfit
  go_enter Try.func6, Try.ntmps6
  go_upto_region 2 with fail
  rw [HMX.out]
  generalize min most 10 = z0
  go_upto_region 6 with (first
    | (go_at_call 8; refine C0.out.mono ?_; rintro e w1 ⟨rfl, rfl⟩)
    | (go_at_call 9; refine CN.out.mono ?_; rintro e w2 ⟨x, rfl, hf⟩; have F := Lib.hid hf; clear hf))
  have H0 : Hid (LruAt w.heap.size w ⟨w.heap.size, 0, x, 0, 9, 1, 1, mx⟩ 0 ⟨#[]⟩ ⟨⟨0, 0, fun _ => none⟩, [], 0, false⟩ w2) := ⟨HOK.out x, rfl, rfl, Nat.zero_le _, Nat.zero_le _, .inl rfl, F.out⟩
  have EP : Hid ((⟨w.heap.size, 0, x, 0, 9, 1, 1, mx⟩ : HPar).x = x ∧ (⟨w.heap.size, 0, x, 0, 9, 1, 1, mx⟩ : HPar).key = 1 ∧ (⟨w.heap.size, 0, x, 0, 9, 1, 1, mx⟩ : HPar).v = 1 ∧ (⟨w.heap.size, 0, x, 0, 9, 1, 1, mx⟩ : HPar).mx = mx ∧ (⟨w.heap.size, 0, x, 0, 9, 1, 1, mx⟩ : HPar).k = 9) := ⟨rfl, rfl, rfl, rfl, rfl⟩
  clear F C0 CN HOK
  generalize (⟨w.heap.size, 0, x, 0, 9, 1, 1, mx⟩ : HPar) = p at H0 EP
  go_wp2_with fail
  go_loopw [8, 9] (fun l i wr => ∃ (q : Nat) (last : ByteArray) (s : HSt), q ≤ len ∧ q ≤ 200 ∧ l = .string last ∧ i = .int .i64 q ∧ LruAt w.heap.size w p q last s wr) (fun _ i _ => len - (intOf i).toNat)
  case atStart => exact ⟨0, _, _, by omega, by omega, rfl, rfl, H0.out⟩
  case round =>
    clear H0
    obtain ⟨q, last, s, hq1, hq2, rfl, rfl, hL⟩ := hrel
    have HL := Lib.hid hL
    clear hL
    by_cases hlt : q < len ∧ q < 200
    · obtain ⟨hlt, hlt2⟩ := hlt
      obtain ⟨b, off, ss, rfl, hbw, t0⟩ := HA.out q hlt
      have HT : Hid (∀ (W : World) (hb : Below w.heap.size w W), W.cell? ⟨b, off + q, none⟩ = some (.string ss)) := fun W hb => (hb.cell (p := ⟨b, off + q, none⟩) hbw).trans t0
      have t1 := HT.out _ HL.out.tb.below
      have g1 : decide (q < len) = true := decide_eq_true hlt
      have g2 : decide (q < 200) = true := decide_eq_true hlt2
      have i2 : (q : Int) < (len : Int) := by omega
      have i3 : (q : Int) < 200 := by omega
      have HJ := Lib.hid (And.intro hlt hlt2)
      have hcl := HL.out.clock
      have hmd := HL.out.made
      have CU := HL.out.tb.upd HL.out.ok (by omega) (by omega) ss vV 0
      rw [EP.out.1] at CU
      clear HA hlt hlt2 hbw t0 hq1 hq2
      by_cases hs1 : ss.size = 1
      · obtain ⟨ua, uo⟩ := upd_lru HL.out.ok EP.out.2.2.2.2 HL.out.gone HL.out.fail vV (hs1.trans EP.out.2.1.symm) ((show vV.size = 1 from rfl).trans EP.out.2.2.1.symm)
        rw [ua] at CU
        have HU := Lib.hid uo
        have HCU := Lib.hid CU
        have HS1 := Lib.hid hs1
        have HSK : Hid (ss.size ≤ maxLen) := by unfold Hid maxLen; omega
        have huc := uo.clock
        have hum := uo.made
        generalize updS p s ss vV 0 = s1 at *
        have HC1 : Hid (s1.clock ≤ 3 * q + 1) := by unfold Hid; omega
        have HM1 : Hid (s1.m.made ≤ q + 1) := by unfold Hid; omega
        clear ua uo CU hs1 hcl hmd huc hum
        -- what is left of the round, from any state in which both are found
        have HEND : Hid (∀ (s2 : HSt) (W : World), HOk p s2 → Has s2 ss → s2.gone = false → s2.m.fail = 0 → s2.clock ≤ 3 * q + 2 → s2.m.made ≤ q + 1 → TB w.heap.size w p s2 W →
            Calls Try.prog 21 #[tp x, .string ss] W fun e w' => ∃ a : Int, (a == 0) = false ∧ e = .returned (.int .u64 a) ∧ LruAt w.heap.size w p (q + 1) ss (lookS s2 ss) w') := by
          intro s2 W h1 h2 h3 h4 h5 h6 h7
          have hj := HJ.out.2
          have C := h7.look h1 (by omega) ss HSK.out
          rw [EP.out.1] at C
          obtain ⟨a1, a2, a3, a4, a5, a6, a7, a8⟩ := look_has h1 h2
          refine C.mono ?_
          rintro e w' ⟨rfl, h⟩
          exact ⟨lookA s2 ss, by rw [beq_eq_false_iff_ne]; exact a1, rfl, ⟨a8, by rw [a6]; exact h3, by rw [a5]; exact h4, by rw [a4]; omega, by rw [a5]; exact h6, .inr ⟨HS1.out, a2⟩, h⟩⟩
        have HLEN : Hid (∀ (s2 : HSt) (W : World), HOk p s2 → TB w.heap.size w p s2 W → Calls Try.prog 14 #[tp x] W fun e w' => ∃ n : Nat, decide (mx < n) = false ∧ ¬ ((mx : Int) < (n : Int)) ∧ e = .returned (.int .i64 n) ∧ W = w') := by
          intro s2 W h1 h2
          have C := h2.len h1
          rw [EP.out.1] at C
          have := h1.len
          rw [EP.out.2.2.2.1] at this
          refine C.mono ?_
          rintro e w' ⟨rfl, rfl⟩
          exact ⟨_, decide_eq_false (by omega), by omega, rfl, rfl⟩
        by_cases hl0 : last.size = 0
        · have el := empty_of hl0
          subst el
          clear HL hl0
          go_wp2_with (first
            | (go_at_call 19; refine HCU.out.mono ?_; rintro e w3 ⟨rfl, h⟩; have t3 := HT.out _ h.below; have H3 := Lib.hid h; clear h)
            | (go_at_call 14; refine (HLEN.out _ _ HU.out.ok H3.out).mono ?_; rintro e w4 ⟨n, n1, n2, rfl, rfl⟩)
            | (go_at_call 21; refine (HEND.out _ _ HU.out.ok HU.out.top.has HU.out.gone HU.out.fail (Nat.le_succ_of_le HC1.out) HM1.out H3.out).mono ?_; rintro e w5 ⟨a, a0, rfl, h⟩; have t5 := HT.out _ h.tb.below; have H5 := Lib.hid h; clear h))
          go_roundw
          case rel => exact ⟨q + 1, ss, _, by have := HJ.out; omega, by have := HJ.out; omega, rfl, by go_num, H5.out⟩
          case measure => simp [intOf]; have := HJ.out; omega
        · have b0 := ne_empty (k := last) (by omega)
          have HTL : Hid (Top s last ∧ last.size = 1) := by
            rcases HL.out.last with h | h
            · rw [h] at hl0; exact absurd rfl hl0
            · exact ⟨h.2, h.1⟩
          clear HL hl0
          by_cases hm1 : 1 < mx
          · have g3 : decide (1 < mx) = true := decide_eq_true hm1
            have i4 : (1 : Int) < (mx : Int) := by omega
            have HH : Hid (Has s1 last) := HU.out.keeps last HTL.out.1 (by rw [EP.out.2.2.2.1]; exact hm1)
            have HLL : Hid (∀ (W : World), TB w.heap.size w p s1 W → Calls Try.prog 21 #[tp x, .string last] W fun e w' => ∃ a : Int, (a == 0) = false ∧ e = .returned (.int .u64 a) ∧ TB w.heap.size w p (lookS s1 last) w') := by
              intro W h7
              have hj := HJ.out.2
              have hc1 := HC1.out
              have C := h7.look HU.out.ok (by omega) last (by have := HTL.out.2; unfold maxLen; omega)
              rw [EP.out.1] at C
              obtain ⟨a1, _⟩ := look_has HU.out.ok HH.out
              refine C.mono ?_
              rintro e w' ⟨rfl, h⟩
              exact ⟨lookA s1 last, by rw [beq_eq_false_iff_ne]; exact a1, rfl, h⟩
            have L2 := Lib.hid (look_has HU.out.ok HH.out)
            clear hm1
            go_wp2_with (first
              | (go_at_call 19; refine HCU.out.mono ?_; rintro e w3 ⟨rfl, h⟩; have t3 := HT.out _ h.below; have H3 := Lib.hid h; clear h)
              | (go_at_call 21; (have _p := H4.out); refine (HEND.out _ _ L2.out.2.2.2.2.2.2.2 (L2.out.2.2.1 _ HU.out.top.has) (L2.out.2.2.2.2.2.1.trans HU.out.gone) ((congrArg PS.fail L2.out.2.2.2.2.1).trans HU.out.fail) (by rw [L2.out.2.2.2.1]; exact Nat.succ_le_succ HC1.out) (by rw [L2.out.2.2.2.2.1]; exact HM1.out) H4.out).mono ?_; rintro e w5 ⟨a, a0, rfl, h⟩; have t5 := HT.out _ h.tb.below; have H5 := Lib.hid h; clear h)
              | (go_at_call 21; refine (HLL.out _ H3.out).mono ?_; rintro e w4 ⟨a, a0, rfl, h⟩; have t4 := HT.out _ h.below; have H4 := Lib.hid h; clear h)
              | (go_at_call 14; refine (HLEN.out _ _ L2.out.2.2.2.2.2.2.2 H4.out).mono ?_; rintro e w6 ⟨n, n1, n2, rfl, rfl⟩))
            go_roundw
            case rel => exact ⟨q + 1, ss, _, by have := HJ.out; omega, by have := HJ.out; omega, rfl, by go_num, H5.out⟩
            case measure => simp [intOf]; have := HJ.out; omega
          · have g3 : decide (1 < mx) = false := decide_eq_false hm1
            have i4 : ¬ (1 : Int) < (mx : Int) := by omega
            clear hm1
            go_wp2_with (first
              | (go_at_call 19; refine HCU.out.mono ?_; rintro e w3 ⟨rfl, h⟩; have t3 := HT.out _ h.below; have H3 := Lib.hid h; clear h)
              | (go_at_call 14; refine (HLEN.out _ _ HU.out.ok H3.out).mono ?_; rintro e w4 ⟨n, n1, n2, rfl, rfl⟩)
              | (go_at_call 21; refine (HEND.out _ _ HU.out.ok HU.out.top.has HU.out.gone HU.out.fail (Nat.le_succ_of_le HC1.out) HM1.out H3.out).mono ?_; rintro e w5 ⟨a, a0, rfl, h⟩; have t5 := HT.out _ h.tb.below; have H5 := Lib.hid h; clear h))
            go_roundw
            case rel => exact ⟨q + 1, ss, _, by have := HJ.out; omega, by have := HJ.out; omega, rfl, by go_num, H5.out⟩
            case measure => simp [intOf]; have := HJ.out; omega
      · obtain ⟨e1, e2⟩ := upd_badS (p := p) (s := s) (key := ss) (value := vV) (fl := 0) (.inr (.inl (by rw [EP.out.2.1]; exact hs1)))
        rw [e1, e2] at CU
        have HCU := Lib.hid CU
        clear CU e1 e2 hs1 hcl hmd
        go_wp2_with (go_at_call 19; refine HCU.out.mono ?_; rintro e w3 ⟨rfl, h⟩; have H3 := Lib.hid h; clear h)
        go_roundw
        case rel => exact ⟨q + 1, last, s, by have := HJ.out; omega, by have := HJ.out; omega, rfl, by go_num, ⟨HL.out.ok, HL.out.gone, HL.out.fail, by have := HL.out.clock; omega, Nat.le_succ_of_le HL.out.made, HL.out.last, H3.out⟩⟩
        case measure => simp [intOf]; have := HJ.out; omega
    · have HE : Hid (Below w.heap.size w wr ∧ w.heap.size ≤ wr.heap.size) := ⟨HL.out.tb.below, HL.out.tb.sz⟩
      have HLT2 := Lib.hid hlt
      clear HA HL hlt
      by_cases hl : q < len
      · obtain rfl : q = 200 := by have := HLT2.out; omega
        have g1 : decide (200 < len) = true := decide_eq_true hl
        have g2 : decide ((200 : Int) < (len : Int)) = true := decide_eq_true (by omega)
        go_wp2_with (go_at_call 18; refine (CAW.out _ HE.out.1 HE.out.2).mono ?_; rintro e w7 ⟨rfl, hb⟩; have B7 := Lib.hid hb; clear hb)
        go_ret
        exact ⟨rfl, B7.out⟩
      · obtain rfl : q = len := by omega
        have g1 : decide (q < q) = false := by simp
        go_wp2_with (go_at_call 18; refine (CAW.out _ HE.out.1 HE.out.2).mono ?_; rintro e w7 ⟨rfl, hb⟩; have B7 := Lib.hid hb; clear hb)
        go_ret
        exact ⟨rfl, B7.out⟩
end Go.Proofs.Ytmopflcaeecgcaa
