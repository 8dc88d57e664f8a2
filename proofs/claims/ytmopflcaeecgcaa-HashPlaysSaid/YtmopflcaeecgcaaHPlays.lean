/-
  The law HashPlays, walked.
-/
import Derived.Test.YtmopflcaeecgcaaHBoth
import Derived.Test.YtmopflcaeecgcaaP17
namespace Go.Proofs.Ytmopflcaeecgcaa
open Go Go.RowKit Go.Maps
set_option linter.unusedVariables false
set_option linter.unusedSimpArgs false
set_option maxRecDepth 100000
/-- The cells that the law reads again. -/
def Low (w : World) (b0 : Nat) (k key v mx : Int) : Prop :=
  w.cell? ⟨b0, 0, none⟩ = some (.int .i64 k) ∧ w.cell? ⟨b0, 1, none⟩ = some (.int .i64 key) ∧ w.cell? ⟨b0, 2, none⟩ = some (.int .i64 v) ∧ w.cell? ⟨b0, 3, none⟩ = some (.int .i64 mx)
theorem Low.below {w w' : World} {b0 B : Nat} {k key v mx : Int} (h : Low w b0 k key v mx) (hb : Below B w w') (hB : b0 < B) : Low w' b0 k key v mx := by
  obtain ⟨h0, h1, h2, h3⟩ := h
  exact ⟨(hb.cell (p := ⟨b0, 0, none⟩) hB).trans h0, (hb.cell (p := ⟨b0, 1, none⟩) hB).trans h1, (hb.cell (p := ⟨b0, 2, none⟩) hB).trans h2, (hb.cell (p := ⟨b0, 3, none⟩) hB).trans h3⟩
theorem low_start (w : World) (k key v mx : Int) : Low (w.alloc (.cells (specC k key v mx) 23)) w.heap.size k key v mx := by
  have h1 := Blk.new w 23 (specC k key v mx)
  exact ⟨h1.cell 0, h1.cell 1, h1.cell 2, h1.cell 3⟩
set_option maxHeartbeats 4000000 in
theorem plays_no (k key v mx fail : Int) (hf : fitsH k key v mx = false) (A : Option Addr) (len cap : Nat) (w : World) (f : Nat) (af : Int) (kf : KCall 11 #[.pointer (some ⟨w.heap.size + 1, 0, none⟩), .int .i64 fail] (w.heap.size + 1) ⟨0, 0, fun _ => none⟩ ⟨0, f, fun _ => none⟩ (.returned (.int .i64 af))) (xf : XCall 12 #[.pointer (some ⟨w.heap.size + 1 + 1, 0, none⟩), .int .i64 fail] (w.heap.size + 1 + 1) ⟨0, 0, fun _ => none⟩ ⟨0, f, fun _ => none⟩ (.returned (.int .i64 af))) :
    Calls Try.prog 3 #[specV k key v mx, .int .i64 fail, .slice A len cap] w fun e w' => e = .returned (.bool true) ∧ Below w.heap.size w w' := by
  have eW : (w.alloc (.cells (specC k key v mx) 23)).heap.size = w.heap.size + 1 := by simp
  have c0' := Lib.hid (new_any (w.alloc (.cells (specC k key v mx) 23)))
  have hst := bothM_start (w.alloc (.cells (specC k key v mx) 23))
  rw [eW] at hst
  have HST := Lib.hid hst
  have LOW := Lib.hid (low_start w k key v mx)
  have HLT : Hid (w.heap.size < w.heap.size + 1) := Nat.lt_succ_self _
  have BL : Hid (Below w.heap.size w (w.alloc (.cells (specC k key v mx) 23))) := below_alloc w _
  have CF := Lib.hid kf
  have CX := Lib.hid xf
  have C1 := Lib.hid (new_no (w.heap.size + 1) k key v mx hf)
  have C2 := Lib.hid (xnew_no (w.heap.size + 1 + 1) k key v mx hf)
  clear kf xf hst eW hf
  go_enter Try.func3, Try.ntmps3
  go_upto_region 4 with (go_at_call 8; refine c0'.out.mono ?_; rintro e w1 ⟨rfl, rfl⟩)
  have l0 := LOW.out.below HST.out.below HLT.out
  generalize ((w.alloc (.cells (specC k key v mx) 23)).alloc _).alloc _ = w2 at HST l0 ⊢
  obtain ⟨a0, a1, a2, a3⟩ := l0
  go_upto_region 5 with (go_at_call 9; refine (C1.out _).mono ?_; rintro e w3 ⟨rfl, hb⟩; have H3 := Lib.hid (HST.out.grow hb); clear hb)
  clear a0 a1 a2 a3
  obtain ⟨a0, a1, a2, a3⟩ := LOW.out.below H3.out.below HLT.out
  go_wp2_with (first
    | (go_at_call 10; refine (C2.out _).mono ?_; rintro e w4 ⟨rfl, hb⟩; have H4 := Lib.hid (H3.out.grow hb); clear hb)
    | (go_at_call 11; refine (H4.out.kcall CF.out).mono ?_; rintro e w5 ⟨rfl, h5⟩; have H5 := Lib.hid h5; clear h5)
    | (go_at_call 12; refine (H5.out.xcall CX.out).mono ?_; rintro e w6 ⟨rfl, h6⟩; have H6 := Lib.hid h6; clear h6))
  clear a0 a1 a2 a3
  go_loopw [13] (fun i wr => i = .int .i64 0 ∧ wr = w6) (fun _ _ => 0)
  case atStart => exact ⟨rfl, rfl⟩
  case round =>
    obtain ⟨rfl, hwr⟩ := hrel
    subst hwr
    have HB : Hid (Below w.heap.size w wr ∧ w.heap.size ≤ wr.heap.size) := by
      have h1 := H6.out.below
      have h2 : Below w.heap.size w wr := BL.out.trans (h1.mono (Nat.le_succ _))
      exact ⟨h2, h2.size⟩
    clear H6 H5 H4 H3 HST LOW C1 C2 CF CX
    by_cases hl : 0 < len
    · have g1 : decide (0 < len) = true := decide_eq_true hl
      have g2 : decide ((0 : Int) < (len : Int)) = true := decide_eq_true (by omega)
      go_wp2_with (go_at_call 18; refine (awake_later HB.out.1 HB.out.2).mono ?_; rintro e w7 ⟨rfl, hb⟩; have B7 := Lib.hid hb; clear hb)
      go_ret
      exact ⟨rfl, B7.out⟩
    · obtain rfl : len = 0 := by omega
      go_wp2_with (go_at_call 18; refine (awake_later HB.out.1 HB.out.2).mono ?_; rintro e w7 ⟨rfl, hb⟩; have B7 := Lib.hid hb; clear hb)
      go_ret
      exact ⟨rfl, B7.out⟩
/-- The header of the reference's list. -/
def yL (y : Nat) (W : World) : Value := (W.cell? ⟨y, 5, none⟩).getD undef
theorem yL_ok {B : Nat} {w0 w : World} {p : HPar} {sx s : HSt} (h : BothH PH B w0 p sx s w) : w.cell? ⟨p.y, 5, none⟩ = some (yL p.y w) := by
  obtain ⟨A, c, h1⟩ := h.list
  unfold yL
  rw [h1]; rfl
set_option maxHeartbeats 8000000 in
theorem plays_ok (k : Int) (key v mx : Nat) (fail : Int) (hf : fitsH k key v mx = true) (A : Option Addr) (len cap : Nat) (hlc : len ≤ cap) (hm : cap ≤ maxLen) (w : World) (f : Nat) (af : Int) (kf : KCall 11 #[.pointer (some ⟨w.heap.size + 1, 0, none⟩), .int .i64 fail] (w.heap.size + 1) ⟨0, 0, fun _ => none⟩ ⟨0, f, fun _ => none⟩ (.returned (.int .i64 af))) (xf : XCall 12 #[.pointer (some ⟨w.heap.size + 1 + 1, 0, none⟩), .int .i64 fail] (w.heap.size + 1 + 1) ⟨0, 0, fun _ => none⟩ ⟨0, f, fun _ => none⟩ (.returned (.int .i64 af)))
    (hA : ∀ i, i < len → ∃ (b off : Nat) (kd : Int) (ky vl : ByteArray) (fl uu : Int), A = some ⟨b, off, none⟩ ∧ b < w.heap.size ∧ DeedAt w b (off + i * 5) kd ky vl fl uu ∧ (0 ≤ uu ∧ uu ≤ 18446744073709551615) ∧ ky.size ≤ maxLen) :
    Calls Try.prog 3 #[specV k key v mx, .int .i64 fail, .slice A len cap] w fun e w' => e = .returned (.bool true) ∧ Below w.heap.size w w' := by
  have hm' : cap ≤ 9223372036854775807 := by unfold maxLen at hm; omega
  have eW : (w.alloc (.cells (specC k key v mx) 23)).heap.size = w.heap.size + 1 := by simp
  have c0' := Lib.hid (new_any (w.alloc (.cells (specC k key v mx) 23)))
  have hst := bothM_start (w.alloc (.cells (specC k key v mx) 23))
  rw [eW] at hst
  have HST := Lib.hid hst
  have LOW := Lib.hid (low_start w k key v mx)
  have HLT : Hid (w.heap.size < w.heap.size + 1) := Nat.lt_succ_self _
  have BL : Hid (Below w.heap.size w (w.alloc (.cells (specC k key v mx) 23))) := below_alloc w _
  have CF := Lib.hid kf
  have CX := Lib.hid xf
  have HFT := Lib.hid hf
  have HA := Lib.hid hA
  clear kf xf hst eW hf hA hm
  go_enter Try.func3, Try.ntmps3
  go_upto_region 4 with (go_at_call 8; refine c0'.out.mono ?_; rintro e w1 ⟨rfl, rfl⟩)
  have l0 := LOW.out.below HST.out.below HLT.out
  generalize ((w.alloc (.cells (specC k key v mx) 23)).alloc _).alloc _ = w2 at HST l0 ⊢
  obtain ⟨a0, a1, a2, a3⟩ := l0
  go_upto_region 5 with (go_at_call 9; refine (hnew_mid k key v mx HFT.out HST.out).mono ?_; rintro e w3 ⟨x, rfl, h3⟩; have H3 := Lib.hid h3; clear h3)
  clear a0 a1 a2 a3
  obtain ⟨a0, a1, a2, a3⟩ := LOW.out.below (show Below (w.heap.size + 1) (w.alloc (.cells (specC k key v mx) 23)) w3 by obtain ⟨P, T, b1, b2, b3, b4, b5, b6, b7⟩ := H3.out; exact b6) HLT.out
  go_upto_region 8 with (go_at_call 10; refine (hnew_both k key v mx HFT.out H3.out).mono ?_; rintro e w4 ⟨y, rfl, h4⟩; have H4 := Lib.hid h4; clear h4)
  clear a0 a1 a2 a3
  have CF2 := Lib.hid (PH.mem (p := ⟨w.heap.size + 1, w.heap.size + 1 + 1, x, y, k, key, v, mx⟩) (s := ⟨⟨0, 0, fun _ => none⟩, [], 0, false⟩) CF.out)
  have CX2 := Lib.hid (GCallH.mem (p := ⟨w.heap.size + 1, w.heap.size + 1 + 1, x, y, k, key, v, mx⟩) (s := ⟨⟨0, 0, fun _ => none⟩, [], 0, false⟩) CX.out)
  go_upto_region 10 with (first
    | (go_at_call 11; refine (H4.out.fcall CF2.out).mono ?_; rintro e w5 ⟨rfl, h5⟩; have H5 := Lib.hid h5; clear h5)
    | (go_at_call 12; refine (H5.out.gcall CX2.out).mono ?_; rintro e w6 ⟨rfl, h6⟩; have H6 := Lib.hid h6; clear h6))
  clear CF CX CF2 CX2 H5 H4 H3 HST LOW c0'
  have HO0 : Hid (HOk ⟨w.heap.size + 1, w.heap.size + 1 + 1, x, y, k, key, v, mx⟩ ⟨⟨0, f, fun _ => none⟩, [], 0, false⟩) := hok_new HFT.out
  have EX : Hid ((⟨w.heap.size + 1, w.heap.size + 1 + 1, x, y, k, key, v, mx⟩ : HPar).x = x ∧ (⟨w.heap.size + 1, w.heap.size + 1 + 1, x, y, k, key, v, mx⟩ : HPar).y = y ∧ (⟨w.heap.size + 1, w.heap.size + 1 + 1, x, y, k, key, v, mx⟩ : HPar).bm = w.heap.size + 1 ∧ (⟨w.heap.size + 1, w.heap.size + 1 + 1, x, y, k, key, v, mx⟩ : HPar).bx = w.heap.size + 1 + 1) := ⟨rfl, rfl, rfl, rfl⟩
  generalize (⟨w.heap.size + 1, w.heap.size + 1 + 1, x, y, k, key, v, mx⟩ : HPar) = p at H6 HO0 EX
  go_wp2_with fail
  go_loopw [13] (fun i wr => ∃ (j : Nat) (s : HSt), j ≤ len ∧ j ≤ 100 ∧ i = .int .i64 j ∧ HOk p s ∧ s.clock ≤ j ∧ s.m.made ≤ j ∧ BothH PH (w.heap.size + 1) (w.alloc (.cells (specC k key v mx) 23)) p s s wr) (fun i _ => len - (intOf i).toNat)
  case atStart => exact ⟨0, _, by omega, by omega, rfl, HO0.out, Nat.le_refl _, Nat.le_refl _, H6.out⟩
  case round =>
    clear H6 HO0
    obtain ⟨j, s, hk1, hk2, rfl, ho, hcl, hmd, hB⟩ := hrel
    have HB := Lib.hid hB
    have HO := Lib.hid ho
    have HCL := Lib.hid hcl
    have HMD := Lib.hid hmd
    clear hB ho hcl hmd
    by_cases hlt : j < len ∧ j < 100
    · obtain ⟨hlt, hlt2⟩ := hlt
      obtain ⟨b, off, kd, ky, vl, fl, uu, rfl, hbw, hd, bu, hks⟩ := HA.out j hlt
      obtain ⟨t0, t1, t2, t3, t4⟩ := hd
      have hc : ∀ (W : World) (hb : Below (w.heap.size + 1) (w.alloc (.cells (specC k key v mx) 23)) W) o, W.cell? ⟨b, o, none⟩ = w.cell? ⟨b, o, none⟩ := fun W hb o => (hb.cell (p := ⟨b, o, none⟩) (by show b < w.heap.size + 1; omega)).trans (BL.out.cell (p := ⟨b, o, none⟩) hbw)
      have HT : Hid (∀ (W : World) (hb : Below (w.heap.size + 1) (w.alloc (.cells (specC k key v mx) 23)) W), W.cell? ⟨b, off + j * 5, none⟩ = some (.int .i64 kd) ∧ W.cell? ⟨b, off + j * 5 + 1, none⟩ = some (.string ky) ∧ W.cell? ⟨b, off + j * 5 + 2, none⟩ = some (.string vl) ∧ W.cell? ⟨b, off + j * 5 + 3, none⟩ = some (.int .i64 fl) ∧ W.cell? ⟨b, off + j * 5 + 4, none⟩ = some (.int .u64 uu)) := fun W hb => ⟨(hc W hb _).trans t0, (hc W hb _).trans t1, (hc W hb _).trans t2, (hc W hb _).trans t3, (hc W hb _).trans t4⟩
      clear hc t0 t1 t2 t3 t4
      have g1 : decide (j < len) = true := decide_eq_true hlt
      have g2 : decide (j < 100) = true := decide_eq_true hlt2
      have i2 : (j : Int) < (len : Int) := by omega
      have i3 : (j : Int) < 100 := by omega
      have hcl := HCL.out
      have hmd := HMD.out
      have hd := hdo_any phProg HB.out.drew HO.out (by omega) (by omega) kd ky vl hks fl uu bu
      rw [EX.out.1, EX.out.2.1, EX.out.2.2.1] at hd
      have HD := Lib.hid hd
      have HJ := Lib.hid (And.intro hlt hlt2)
      have CLEN := Lib.hid (fun W s2 (h : BothH PH (w.heap.size + 1) (w.alloc (.cells (specC k key v mx) 23)) p s2 s2 W) (ho : HOk p s2) => (by have := h.len ho; rw [EX.out.1] at this; exact this : Calls Try.prog 14 #[tp x] W fun e w' => e = .returned (.int .i64 s2.es.length) ∧ W = w'))
      have CKR := Lib.hid (fun W s2 (h : BothH PH (w.heap.size + 1) (w.alloc (.cells (specC k key v mx) 23)) p s2 s2 W) => (by have := kregsH h; rw [EX.out.2.2.1] at this; exact this : Calls Try.prog 16 #[.pointer (some ⟨w.heap.size + 1, 0, none⟩)] W fun e w1 => ∃ A c, e = .returned (.slice A (lives s2.m.vs s2.m.made).length c) ∧ RegsH (w.heap.size + 1) (w.alloc (.cells (specC k key v mx) 23)) p s2 (.slice A (lives s2.m.vs s2.m.made).length c) w1))
      have CXR := Lib.hid (fun W s2 A2 n2 c2 (h : RegsH (w.heap.size + 1) (w.alloc (.cells (specC k key v mx) 23)) p s2 (.slice A2 n2 c2) W) (hn : n2 = (lives s2.m.vs s2.m.made).length) => (by have := xregsH h hn; rw [EX.out.2.2.2] at this; exact this : Calls Try.prog 17 #[.pointer (some ⟨w.heap.size + 1 + 1, 0, none⟩)] W fun e w2 => ∃ A' c', e = .returned (.slice A' n2 c') ∧ BothH PH (w.heap.size + 1) (w.alloc (.cells (specC k key v mx) 23)) p s2 s2 w2 ∧ n2 ≤ 4096 ∧ ∃ N P Bs, RowOf w2 A2 n2 N P Bs ∧ RowOf w2 A' n2 N P Bs))
      have HYL := Lib.hid (fun W s1 s2 (h : BothH PH (w.heap.size + 1) (w.alloc (.cells (specC k key v mx) 23)) p s1 s2 W) => (by have h1 := yL_ok h; have h2 := h.list; rw [EX.out.2.1] at h1 h2; exact ⟨h1, h2⟩ : W.cell? ⟨y, 5, none⟩ = some (yL y W) ∧ ∃ A c, W.cell? ⟨y, 5, none⟩ = some (.slice A s2.es.length c)))
      obtain ⟨t0, t1, t2, t3, t4⟩ := HT.out _ HB.out.below
      clear HA hd hlt hlt2 hbw hk1 hk2 bu hks hcl hmd
      go_upto_region 13 with fail
      go_region_law (first
        | (go_simp; go_at_call 13; refine HD.out.mono ?_; rintro e w3 ⟨rfl, s2, hg, hB3⟩; have HB3 := Lib.hid hB3; have HG := Lib.hid hg; obtain ⟨A5, c5, hy5⟩ := (HYL.out _ _ _ hB3).2; have CL2 := Lib.hid (CLEN.out w3 s2 hB3 hg.ok); have CK2 := Lib.hid (CKR.out w3 s2 hB3); obtain ⟨nr, hnr⟩ : ∃ nr, nr = (lives s2.m.vs s2.m.made).length := ⟨_, rfl⟩; have HNR := Lib.hid hnr; rw [← hnr] at CK2; clear hnr hB3 hg t0 t1 t2 t3 t4)
        | (go_simp; go_at_call 14; refine CL2.out.mono ?_; rintro e w9 ⟨rfl, rfl⟩)
        | (go_simp; go_at_call 16; refine CK2.out.mono ?_; rintro e w4 ⟨A1, cc1, rfl, hr4⟩; have CX2 := Lib.hid (CXR.out _ _ _ _ _ hr4 HNR.out); clear hr4)
        | (go_simp; go_at_call 17; refine CX2.out.mono ?_; rintro e w5 ⟨A2, cc2, rfl, hB5, hn5, N, P, Bs, r1, r2⟩; have CS := Lib.hid (xsame_any nr cc1 cc2 A1 A2 N P Bs w5 hn5 r1 r2); have HB5 := Lib.hid hB5; clear hB5 hn5 r1 r2)
        | (go_simp; go_at_call 15; refine CS.out.mono ?_; rintro e w6 ⟨rfl, hb6⟩; have HB6 := Lib.hid (HB5.out.quiet (keeps_grow hb6)); clear hb6))
      all_goals go_wp2_with fail
      all_goals go_roundw
      all_goals first
        | (simp [intOf]; have := HJ.out; omega)
        | (have h1 := HG.out.clock
           have h2 := HG.out.made
           have h3 := HCL.out
           have h4 := HMD.out
           have h5 := HJ.out
           exact ⟨j + 1, s2, by omega, by omega, by go_num, HG.out.ok, by omega, by omega, HB6.out⟩)
    · have HE : Hid (Below w.heap.size w wr ∧ w.heap.size ≤ wr.heap.size) := by
        have h1 := HB.out.below
        have h2 : Below w.heap.size w wr := BL.out.trans (h1.mono (Nat.le_succ _))
        exact ⟨h2, h2.size⟩
      have HLT2 := Lib.hid hlt
      clear HA HB hlt
      by_cases hl : j < len
      · obtain rfl : j = 100 := by have := HLT2.out; omega
        have g1 : decide (100 < len) = true := decide_eq_true hl
        have g2 : decide ((100 : Int) < (len : Int)) = true := decide_eq_true (by omega)
        go_wp2_with (go_at_call 18; refine (awake_later HE.out.1 HE.out.2).mono ?_; rintro e w7 ⟨rfl, hb⟩; have B7 := Lib.hid hb; clear hb)
        go_ret
        exact ⟨rfl, B7.out⟩
      · obtain rfl : j = len := by omega
        have g1 : decide (j < j) = false := by simp
        go_wp2_with (go_at_call 18; refine (awake_later HE.out.1 HE.out.2).mono ?_; rintro e w7 ⟨rfl, hb⟩; have B7 := Lib.hid hb; clear hb)
        go_ret
        exact ⟨rfl, B7.out⟩
theorem plays_any (k key v mx fail : Int) (A : Option Addr) (len cap : Nat) (hlc : len ≤ cap) (hm : cap ≤ maxLen) (w : World)
    (hA : ∀ i, i < len → ∃ (b off : Nat) (kd : Int) (ky vl : ByteArray) (fl uu : Int), A = some ⟨b, off, none⟩ ∧ b < w.heap.size ∧ DeedAt w b (off + i * 5) kd ky vl fl uu ∧ (0 ≤ uu ∧ uu ≤ 18446744073709551615) ∧ ky.size ≤ maxLen) :
    Calls Try.prog 3 #[specV k key v mx, .int .i64 fail, .slice A len cap] w fun e w' => e = .returned (.bool true) ∧ Below w.heap.size w w' := by
  obtain ⟨f, af, kf, xf⟩ := fail_pair (bm := w.heap.size + 1) (bx := w.heap.size + 1 + 1) fail
  cases hf : fitsH k key v mx
  · exact plays_no k key v mx fail hf A len cap w f af kf xf
  · obtain ⟨_, h1, h2, h3⟩ := fitsH_true hf
    obtain ⟨key, rfl⟩ := Int.eq_ofNat_of_zero_le (show 0 ≤ key by omega)
    obtain ⟨v, rfl⟩ := Int.eq_ofNat_of_zero_le (show 0 ≤ v by omega)
    obtain ⟨mx, rfl⟩ := Int.eq_ofNat_of_zero_le (show 0 ≤ mx by omega)
    exact plays_ok k key v mx fail hf A len cap hlc hm w f af kf xf hA
end Go.Proofs.Ytmopflcaeecgcaa
