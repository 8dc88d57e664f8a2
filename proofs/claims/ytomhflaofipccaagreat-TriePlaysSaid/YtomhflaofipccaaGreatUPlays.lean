/-
  The law TriePlays, walked.
-/
import Derived.Test.YtomhflaofipccaaGreatP33
import Derived.Test.YtomhflaofipccaaGreatP17
import Derived.Deep.CutBlock
namespace Go.Proofs.YtomhflaofipccaaGreat
open Go Go.RowKit Go.Maps
set_option linter.unusedVariables false
set_option linter.unusedSimpArgs false
set_option maxRecDepth 100000
/-- The cells that the law reads again. -/
def Low (w : World) (b0 : Nat) (k key v mx : Int) : Prop :=
  w.cell? ⟨b0, 0, none⟩ = some (.int .i64 k) ∧ w.cell? ⟨b0, 1, none⟩ = some (.int .i64 key) ∧ w.cell? ⟨b0, 2, none⟩ = some (.int .i64 v) ∧ w.cell? ⟨b0, 3, none⟩ = some (.int .i64 mx)
theorem Low.below {w w' : World} {b0 B : Nat} {k key v mx : Int} (h : Low w b0 k key v mx) (hb : Below B w w') (hB : b0 < B) : Low w' b0 k key v mx := by
  obtain ⟨h0, h1, h2, h3⟩ := h
  exact ⟨(hb.cell (p := ⟨b0, 0, none⟩) hB).trans h0, (hb.cell (p := ⟨b0, 1, none⟩) hB).trans h1, (hb.cell (p := ⟨b0, 2, none⟩) hB).trans h2, (hb.cell (p := ⟨b0, 3, none⟩) hB).trans h3⟩
theorem below_alloc (w : World) (o : Obj) : Below w.heap.size w (w.alloc o) := (Below.refl _ w).alloc (Nat.le_refl _) o
theorem low_start (w : World) (k key v mx : Int) : Low (w.alloc (.cells (specC k key v mx) 23)) w.heap.size k key v mx := by
  have h1 := Blk.new w 23 (specC k key v mx)
  exact ⟨h1.cell 0, h1.cell 1, h1.cell 2, h1.cell 3⟩
set_option maxHeartbeats 4000000 in
theorem plays_no (k key v mx fail : Int) (hf : fitsH k key v mx = false) (A : Option Addr) (len cap : Nat) (w : World) (f : Nat) (af : Int) (kf : KCall 7 #[.pointer (some ⟨w.heap.size + 1, 0, none⟩), .int .i64 fail] (w.heap.size + 1) ⟨0, 0, fun _ => none⟩ ⟨0, f, fun _ => none⟩ (.returned (.int .i64 af))) (xf : XCall 8 #[.pointer (some ⟨w.heap.size + 1 + 1, 0, none⟩), .int .i64 fail] (w.heap.size + 1 + 1) ⟨0, 0, fun _ => none⟩ ⟨0, f, fun _ => none⟩ (.returned (.int .i64 af))) :
    Calls Tryz.prog 3 #[specV k key v mx, .int .i64 fail, .slice A len cap] w fun e w' => e = .returned (.bool true) ∧ Below w.heap.size w w' := by
  have eW : (w.alloc (.cells (specC k key v mx) 23)).heap.size = w.heap.size + 1 := by simp
  have c0' := Lib.hid (new_any (w.alloc (.cells (specC k key v mx) 23)))
  have hst := bothM_start (w.alloc (.cells (specC k key v mx) 23))
  rw [eW] at hst
  have HST := Lib.hid hst
  have LOW := Lib.hid (low_start w k key v mx)
  have HLT : Hid (w.heap.size < w.heap.size + 1) := Nat.lt_succ_self _
  have BL : Hid (Below w.heap.size w (w.alloc (.cells (specC k key v mx) 23))) := below_alloc w _
  have CF := Lib.hid kf
  have CX := Lib.hid xf
  have C1 := Lib.hid (new_no (w.heap.size + 1) k key v mx hf)
  have C2 := Lib.hid (xnew_no (w.heap.size + 1 + 1) k key v mx hf)
  clear kf xf hst eW hf
  go_enter Tryz.func3, Tryz.ntmps3
  go_upto_region 4 with (go_at_call 4; refine c0'.out.mono ?_; rintro e w1 ⟨rfl, rfl⟩)
  have l0 := LOW.out.below HST.out.below HLT.out
  generalize ((w.alloc (.cells (specC k key v mx) 23)).alloc _).alloc _ = w2 at HST l0 ⊢
  obtain ⟨a0, a1, a2, a3⟩ := l0
  go_upto_region 5 with (go_at_call 5; refine (C1.out _).mono ?_; rintro e w3 ⟨rfl, hb⟩; have H3 := Lib.hid (HST.out.quiet hb); clear hb)
  clear a0 a1 a2 a3
  obtain ⟨a0, a1, a2, a3⟩ := LOW.out.below H3.out.below HLT.out
  go_wp2_with (first
    | (go_at_call 6; refine (C2.out _).mono ?_; rintro e w4 ⟨rfl, hb⟩; have H4 := Lib.hid (H3.out.quiet hb); clear hb)
    | (go_at_call 7; refine (H4.out.kcall CF.out).mono ?_; rintro e w5 ⟨rfl, h5⟩; have H5 := Lib.hid h5; clear h5)
    | (go_at_call 8; refine (H5.out.xcall CX.out).mono ?_; rintro e w6 ⟨rfl, h6⟩; have H6 := Lib.hid h6; clear h6))
  clear a0 a1 a2 a3
  go_loopw [13] (fun i wr => i = .int .i64 0 ∧ wr = w6) (fun _ _ => 0)
  case atStart => exact ⟨rfl, rfl⟩
  case round =>
    obtain ⟨rfl, hwr⟩ := hrel
    subst hwr
    have HB : Hid (Below w.heap.size w wr ∧ w.heap.size ≤ wr.heap.size) := by
      have h1 := H6.out.below
      have h2 : Below w.heap.size w wr := BL.out.trans (h1.mono (Nat.le_succ _))
      exact ⟨h2, h2.size⟩
    clear H6 H5 H4 H3 HST LOW C1 C2 CF CX
    by_cases hl : 0 < len
    · have g1 : decide (0 < len) = true := decide_eq_true hl
      have g2 : decide ((0 : Int) < (len : Int)) = true := decide_eq_true (by omega)
      go_wp2_with (go_at_call 25; refine (awake_later HB.out.1 HB.out.2).mono ?_; rintro e w7 ⟨rfl, hb⟩; have B7 := Lib.hid hb; clear hb)
      go_ret
      exact ⟨rfl, B7.out⟩
    · obtain rfl : len = 0 := by omega
      go_wp2_with (go_at_call 25; refine (awake_later HB.out.1 HB.out.2).mono ?_; rintro e w7 ⟨rfl, hb⟩; have B7 := Lib.hid hb; clear hb)
      go_ret
      exact ⟨rfl, B7.out⟩
/-- The header of the reference's list. -/
def yL (y : Nat) (W : World) : Value := (W.cell? ⟨y, 5, none⟩).getD undef
theorem yL_ok {B : Nat} {w0 w : World} {p : HPar} {sx s : HSt} (h : BothH B w0 p sx s w) : w.cell? ⟨p.y, 5, none⟩ = some (yL p.y w) := by
  obtain ⟨A, c, h1⟩ := h.list
  unfold yL
  rw [h1]; rfl
set_option maxHeartbeats 8000000 in
theorem plays_ok (k : Int) (key v mx : Nat) (fail : Int) (hf : fitsH k key v mx = true) (A : Option Addr) (len cap : Nat) (hlc : len ≤ cap) (hm : cap ≤ maxLen) (w : World) (f : Nat) (af : Int) (kf : KCall 7 #[.pointer (some ⟨w.heap.size + 1, 0, none⟩), .int .i64 fail] (w.heap.size + 1) ⟨0, 0, fun _ => none⟩ ⟨0, f, fun _ => none⟩ (.returned (.int .i64 af))) (xf : XCall 8 #[.pointer (some ⟨w.heap.size + 1 + 1, 0, none⟩), .int .i64 fail] (w.heap.size + 1 + 1) ⟨0, 0, fun _ => none⟩ ⟨0, f, fun _ => none⟩ (.returned (.int .i64 af)))
    (hA : ∀ i, i < len → ∃ (b off : Nat) (kd : Int) (ky vl : ByteArray) (fl : Int), A = some ⟨b, off, none⟩ ∧ b < w.heap.size ∧ DeedAt w b (off + i * 4) kd ky vl fl ∧ ky.size ≤ maxLen) :
    Calls Tryz.prog 3 #[specV k key v mx, .int .i64 fail, .slice A len cap] w fun e w' => e = .returned (.bool true) ∧ Below w.heap.size w w' := by
  have hm' : cap ≤ 9223372036854775807 := by unfold maxLen at hm; omega
  have eW : (w.alloc (.cells (specC k key v mx) 23)).heap.size = w.heap.size + 1 := by simp
  have c0' := Lib.hid (new_any (w.alloc (.cells (specC k key v mx) 23)))
  have hst := bothM_start (w.alloc (.cells (specC k key v mx) 23))
  rw [eW] at hst
  have HST := Lib.hid hst
  have LOW := Lib.hid (low_start w k key v mx)
  have HLT : Hid (w.heap.size < w.heap.size + 1) := Nat.lt_succ_self _
  have BL : Hid (Below w.heap.size w (w.alloc (.cells (specC k key v mx) 23))) := below_alloc w _
  have CF := Lib.hid kf
  have CX := Lib.hid xf
  have HFT := Lib.hid hf
  have HA := Lib.hid hA
  clear kf xf hst eW hf hA hm
  go_enter Tryz.func3, Tryz.ntmps3
  go_upto_region 4 with (go_at_call 4; refine c0'.out.mono ?_; rintro e w1 ⟨rfl, rfl⟩)
  have l0 := LOW.out.below HST.out.below HLT.out
  generalize ((w.alloc (.cells (specC k key v mx) 23)).alloc _).alloc _ = w2 at HST l0 ⊢
  obtain ⟨a0, a1, a2, a3⟩ := l0
  go_upto_region 5 with (go_at_call 5; refine (hnew_mid k key v mx HFT.out HST.out).mono ?_; rintro e w3 ⟨x, rfl, h3⟩; have H3 := Lib.hid h3; clear h3)
  clear a0 a1 a2 a3
  obtain ⟨a0, a1, a2, a3⟩ := LOW.out.below (show Below (w.heap.size + 1) (w.alloc (.cells (specC k key v mx) 23)) w3 by obtain ⟨P, T, b1, b2, b3, b4, b5, b6, b7⟩ := H3.out; exact b6) HLT.out
  go_upto_region 8 with (go_at_call 6; refine (hnew_both k key v mx HFT.out H3.out).mono ?_; rintro e w4 ⟨y, rfl, h4⟩; have H4 := Lib.hid h4; clear h4)
  clear a0 a1 a2 a3
  have CF2 := Lib.hid (PH.mem (p := ⟨w.heap.size + 1, w.heap.size + 1 + 1, x, y, k, key, v, mx⟩) (s := ⟨⟨0, 0, fun _ => none⟩, [], false⟩) CF.out)
  have CX2 := Lib.hid (GCallH.mem (p := ⟨w.heap.size + 1, w.heap.size + 1 + 1, x, y, k, key, v, mx⟩) (s := ⟨⟨0, 0, fun _ => none⟩, [], false⟩) CX.out)
  go_upto_region 10 with (first
    | (go_at_call 7; refine (H4.out.fcall CF2.out).mono ?_; rintro e w5 ⟨rfl, h5⟩; have H5 := Lib.hid h5; clear h5)
    | (go_at_call 8; refine (H5.out.gcall CX2.out).mono ?_; rintro e w6 ⟨rfl, h6⟩; have H6 := Lib.hid h6; clear h6))
  clear CF CX CF2 CX2 H5 H4 H3 HST LOW c0'
  have HO0 : Hid (HOk ⟨w.heap.size + 1, w.heap.size + 1 + 1, x, y, k, key, v, mx⟩ ⟨⟨0, f, fun _ => none⟩, [], false⟩) := hok_new HFT.out
  have EX : Hid ((⟨w.heap.size + 1, w.heap.size + 1 + 1, x, y, k, key, v, mx⟩ : HPar).x = x ∧ (⟨w.heap.size + 1, w.heap.size + 1 + 1, x, y, k, key, v, mx⟩ : HPar).y = y ∧ (⟨w.heap.size + 1, w.heap.size + 1 + 1, x, y, k, key, v, mx⟩ : HPar).bm = w.heap.size + 1 ∧ (⟨w.heap.size + 1, w.heap.size + 1 + 1, x, y, k, key, v, mx⟩ : HPar).bx = w.heap.size + 1 + 1) := ⟨rfl, rfl, rfl, rfl⟩
  generalize (⟨w.heap.size + 1, w.heap.size + 1 + 1, x, y, k, key, v, mx⟩ : HPar) = p at H6 HO0 EX
  go_wp2_with fail
  go_loopw [13] (fun i wr => ∃ (j : Nat) (s : HSt), j ≤ len ∧ j ≤ 100 ∧ i = .int .i64 j ∧ HOk p s  ∧ s.m.made ≤ j ∧ BothH (w.heap.size + 1) (w.alloc (.cells (specC k key v mx) 23)) p s s wr) (fun i _ => len - (intOf i).toNat)
  case atStart => exact ⟨0, _, by omega, by omega, rfl, HO0.out, Nat.le_refl _, H6.out⟩
  case round =>
    clear H6 HO0
    obtain ⟨j, s, hk1, hk2, rfl, ho, hmd, hB⟩ := hrel
    have HB := Lib.hid hB
    have HO := Lib.hid ho
    have HMD := Lib.hid hmd
    clear hB ho hmd
    by_cases hlt : j < len ∧ j < 100
    · obtain ⟨hlt, hlt2⟩ := hlt
      obtain ⟨b, off, kd, ky, vl, fl, rfl, hbw, hd, hks⟩ := HA.out j hlt
      obtain ⟨t0, t1, t2, t3⟩ := hd
      have hc : ∀ o, wr.cell? ⟨b, o, none⟩ = w.cell? ⟨b, o, none⟩ := fun o => (HB.out.below.cell (p := ⟨b, o, none⟩) (by show b < w.heap.size + 1; omega)).trans (BL.out.cell (p := ⟨b, o, none⟩) hbw)
      rw [← hc] at t0 t1 t2 t3
      clear hc
      have g1 : decide (j < len) = true := decide_eq_true hlt
      have g2 : decide (j < 100) = true := decide_eq_true hlt2
      have i2 : (j : Int) < (len : Int) := by omega
      have i3 : (j : Int) < 100 := by omega
      have hmd := HMD.out
      have HJ := Lib.hid (And.intro hlt hlt2)
      have CLEN := Lib.hid (fun W s2 (h : BothH (w.heap.size + 1) (w.alloc (.cells (specC k key v mx) 23)) p s2 s2 W) (ho : HOk p s2) => (by have := h.len ho; rw [EX.out.1] at this; exact this : Calls Tryz.prog 21 #[tp x] W fun e w' => e = .returned (.int .i64 s2.es.length) ∧ W = w'))
      have CKR := Lib.hid (fun W s2 (h : BothH (w.heap.size + 1) (w.alloc (.cells (specC k key v mx) 23)) p s2 s2 W) => (by have := kregsH h; rw [EX.out.2.2.1] at this; exact this : Calls Tryz.prog 23 #[.pointer (some ⟨w.heap.size + 1, 0, none⟩)] W fun e w1 => ∃ A c, e = .returned (.slice A (lives s2.m.vs s2.m.made).length c) ∧ RegsH (w.heap.size + 1) (w.alloc (.cells (specC k key v mx) 23)) p s2 (.slice A (lives s2.m.vs s2.m.made).length c) w1))
      have CXR := Lib.hid (fun W s2 A2 n2 c2 (h : RegsH (w.heap.size + 1) (w.alloc (.cells (specC k key v mx) 23)) p s2 (.slice A2 n2 c2) W) (hn : n2 = (lives s2.m.vs s2.m.made).length) => (by have := xregsH h hn; rw [EX.out.2.2.2] at this; exact this : Calls Tryz.prog 24 #[.pointer (some ⟨w.heap.size + 1 + 1, 0, none⟩)] W fun e w2 => ∃ A' c', e = .returned (.slice A' n2 c') ∧ BothH (w.heap.size + 1) (w.alloc (.cells (specC k key v mx) 23)) p s2 s2 w2 ∧ n2 ≤ 4096 ∧ ∃ N P Bs, RowOf w2 A2 n2 N P Bs ∧ RowOf w2 A' n2 N P Bs))
      have HYL := Lib.hid (fun W s1 s2 (h : BothH (w.heap.size + 1) (w.alloc (.cells (specC k key v mx) 23)) p s1 s2 W) => (by have h1 := yL_ok h; have h2 := h.list; rw [EX.out.2.1] at h1 h2; exact ⟨h1, h2⟩ : W.cell? ⟨y, 5, none⟩ = some (yL y W) ∧ ∃ A c, W.cell? ⟨y, 5, none⟩ = some (.slice A s2.es.length c)))
      have hmd4 : s.m.made < 4095 := by omega
      have HMD4 := Lib.hid hmd4
      have HEN := Lib.hid (HB.out.enter (deedC kd ky vl fl))
      clear HA hlt hlt2 hbw hk1 hk2 hks hmd hmd4
      go_upto_block 2 with fail
      go_cut [15] from 53 to 170 (fun s15 wc => s15 = .bool true ∧ ∃ s2, Goes p s s2 ∧ BothH (w.heap.size + 1) (w.alloc (.cells (specC k key v mx) 23)) p s2 s2 wc)
      case first =>
        clear t0 t1 t2 t3 CLEN CKR CXR HYL HB
        have d0 := HEN.out.c 0
        by_cases k0 : kd = 0
        · subst k0
          have cf := ph_look (p := p) (s := s) ky HO.out
          have cg := g_look HO.out ky
          rw [EX.out.1] at cf
          rw [EX.out.2.1] at cg
          have CF := Lib.hid cf
          have CG := Lib.hid cg
          have HG : Hid (Goes p s _) := ⟨HO.out, Nat.le_succ _⟩
          clear cf cg
          have h1d := HEN.out.drew
          have H1 := Lib.hid h1d
          clear h1d
          generalize lookA p s ky = a at *
          go_wp2_with fail
          go_region_held3 (fun W => W.cell? ⟨wr.heap.size, 1, none⟩ = some (.string ky))
            (first | exact H1.out.c 1 | exact H3.out.c 1 | exact H2.out.c 1)
            (first | (go_at_call 9; refine (H1.out.fcall CF.out).mono ?_; rintro e w1 ⟨rfl, h2⟩; have H2 := Lib.hid h2; clear h2) | (go_at_call 10; refine (H2.out.gcall CG.out).mono ?_; rintro e w2 ⟨rfl, h3⟩; have H3 := Lib.hid h3; clear h3))
          go_wp2_with fail
          go_meet
          case rel => exact ⟨rfl, _, HG.out, H3.out.out⟩
        by_cases k1 : kd = 1
        · subst k1
          have cf := ph_upd (p := p) (s := s) ky vl fl HO.out HMD4.out
          have cg := g_upd HO.out HMD4.out ky vl fl
          rw [EX.out.1] at cf
          rw [EX.out.2.1] at cg
          have CF := Lib.hid cf
          have CG := Lib.hid cg
          have HG : Hid (Goes p s _) := upd_goes HO.out ky vl fl
          clear cf cg
          have h1d := HEN.out.drew
          have H1 := Lib.hid h1d
          clear h1d
          generalize updA p s ky vl fl = a at *
          go_wp2_with fail
          go_region_held3 (fun W => W.cell? ⟨wr.heap.size, 1, none⟩ = some (.string ky) ∧ W.cell? ⟨wr.heap.size, 2, none⟩ = some (.string vl) ∧ W.cell? ⟨wr.heap.size, 3, none⟩ = some (.int .i64 fl))
            (first | exact ⟨H1.out.c 1, H1.out.c 2, H1.out.c 3⟩ | exact ⟨H3.out.c 1, H3.out.c 2, H3.out.c 3⟩ | exact ⟨H2.out.c 1, H2.out.c 2, H2.out.c 3⟩)
            (first | (go_at_call 11; refine (H1.out.fcall CF.out).mono ?_; rintro e w1 ⟨rfl, h2⟩; have H2 := Lib.hid h2; clear h2) | (go_at_call 12; refine (H2.out.gcall CG.out).mono ?_; rintro e w2 ⟨rfl, h3⟩; have H3 := Lib.hid h3; clear h3))
          go_wp2_with fail
          go_meet
          case rel => exact ⟨rfl, _, HG.out, H3.out.out⟩
        by_cases k2 : kd = 2
        · subst k2
          have cf := ph_del (p := p) (s := s) ky HO.out
          have cg := g_del HO.out ky
          rw [EX.out.1] at cf
          rw [EX.out.2.1] at cg
          have CF := Lib.hid cf
          have CG := Lib.hid cg
          have HG : Hid (Goes p s _) := del_goes HO.out ky
          clear cf cg
          have h1d := HEN.out.drew
          have H1 := Lib.hid h1d
          clear h1d
          generalize delA p s ky = a at *
          go_wp2_with fail
          go_region_held3 (fun W => W.cell? ⟨wr.heap.size, 1, none⟩ = some (.string ky))
            (first | exact H1.out.c 1 | exact H3.out.c 1 | exact H2.out.c 1)
            (first | (go_at_call 13; refine (H1.out.fcall CF.out).mono ?_; rintro e w1 ⟨rfl, h2⟩; have H2 := Lib.hid h2; clear h2) | (go_at_call 14; refine (H2.out.gcall CG.out).mono ?_; rintro e w2 ⟨rfl, h3⟩; have H3 := Lib.hid h3; clear h3))
          go_wp2_with fail
          go_meet
          case rel => exact ⟨rfl, _, HG.out, H3.out.out⟩
        by_cases k3 : kd = 3
        · subst k3
          have cf := ph_next (p := p) (s := s) ky HO.out
          have cg := g_next HO.out ky
          rw [EX.out.1] at cf
          rw [EX.out.2.1] at cg
          have CF := Lib.hid cf
          have CG := Lib.hid cg
          have HG : Hid (Goes p s _) := ⟨HO.out, Nat.le_succ _⟩
          clear cf cg
          have d1 := HEN.out.c 1
          have H1 := HEN
          unfold nextE nextA at CF CG
          generalize nextTo (nextP p ky) s.es s.es.length = nx at *
          generalize nx.getD ⟨#[]⟩ = t at *
          generalize nx.elim (4 : Int) (fun _ => 0) = a at *
          go_wp2_with (first | (go_at_call 15; refine (H1.out.fcall CF.out).mono ?_; rintro e w1 ⟨rfl, h2⟩; have d2 : w1.cell? ⟨wr.heap.size, 1, none⟩ = some (.string ky) := h2.c 1; have H2 := Lib.hid h2; clear h2) | (go_at_call 16; refine (H2.out.gcall CG.out).mono ?_; rintro e w2 ⟨rfl, h3⟩; have H3 := Lib.hid h3; clear h3))
          go_meet
          case rel => exact ⟨rfl, _, HG.out, H3.out.out⟩
        by_cases k4 : kd = 4
        · subst k4
          have cf := PH.mem (p := p) (s := s) (k_grace p.bm s.m)
          have cg := GCallH.mem (p := p) (s := s) (x_grace p.bx s.m)
          rw [EX.out.2.2.1] at cf
          rw [EX.out.2.2.2] at cg
          have CF := Lib.hid cf
          have CG := Lib.hid cg
          have HG : Hid (Goes p s { s with m := s.m.graced }) := ⟨HO.out.grace, Nat.le_succ _⟩
          clear cf cg
          have H1 := HEN
          go_wp2_with (first
            | (go_at_call 17; refine (H1.out.fcall CF.out).mono ?_; rintro e w1 ⟨rfl, h2⟩; have H2 := Lib.hid h2; clear h2)
            | (go_at_call 18; refine (H2.out.gcall CG.out).mono ?_; rintro e w2 ⟨rfl, h3⟩; have H3 := Lib.hid h3; clear h3))
          go_meet
          case rel => exact ⟨rfl, _, HG.out, H3.out.out⟩
        by_cases k5 : kd = 5
        · subst k5
          have cf := ph_free (p := p) (s := s) HO.out (by have := HMD4.out; omega)
          have cg := g_free HO.out
          rw [EX.out.1] at cf
          rw [EX.out.2.1] at cg
          have CF := Lib.hid cf
          have CG := Lib.hid cg
          have HG : Hid (Goes p s _) := free_goes HO.out
          clear cf cg
          have H1 := HEN
          generalize freeA s = a at *
          go_wp2_with (first | (go_at_call 19; refine (H1.out.fcall CF.out).mono ?_; rintro e w1 ⟨rfl, h2⟩; have H2 := Lib.hid h2; clear h2) | (go_at_call 20; refine (H2.out.gcall CG.out).mono ?_; rintro e w2 ⟨rfl, h3⟩; have H3 := Lib.hid h3; clear h3))
          go_meet
          case rel => exact ⟨rfl, _, HG.out, H3.out.out⟩
        have b0 : (kd == 0) = false := by simpa using k0
        have b1 : (kd == 1) = false := by simpa using k1
        have b2 : (kd == 2) = false := by simpa using k2
        have b3 : (kd == 3) = false := by simpa using k3
        have b4 : (kd == 4) = false := by simpa using k4
        have b5 : (kd == 5) = false := by simpa using k5
        clear k0 k1 k2 k3 k4 k5
        go_wp2_with fail
        go_meet
        case rel => exact ⟨rfl, s, ⟨HO.out, Nat.le_succ _⟩, HEN.out.out⟩
      case rest =>
        clear t0 t1 t2 t3 HB HEN
        obtain ⟨rfl, s2, hg, hB3⟩ := hcut
        have HG := Lib.hid hg
        obtain ⟨A5, c5, hy5⟩ := (HYL.out _ _ _ hB3).2
        have HB3 := Lib.hid hB3
        have cl2 := CLEN.out wc.drew s2 hB3.drew hg.ok
        have ck2 := CKR.out wc.drew s2 hB3.drew
        have hy6 : wc.drew.cell? ⟨y, 5, none⟩ = some (.slice A5 s2.es.length c5) := hy5
        obtain ⟨nr, hnr⟩ : ∃ nr, nr = (lives s2.m.vs s2.m.made).length := ⟨_, rfl⟩
        have HNR := Lib.hid hnr
        rw [← hnr] at ck2
        have CL2 := Lib.hid cl2
        have CK2 := Lib.hid ck2
        clear hnr hB3 hg cl2 ck2
        go_upto_region 31 with fail
        go_region_law (first
          | (go_simp; go_at_call 21; refine CL2.out.mono ?_; rintro e w9 ⟨rfl, rfl⟩)
          | (go_simp; go_at_call 23; refine CK2.out.mono ?_; rintro e w4 ⟨A1, cc1, rfl, hr4⟩; have CX2 := Lib.hid (CXR.out _ _ _ _ _ hr4 HNR.out); clear hr4)
          | (go_simp; go_at_call 24; refine CX2.out.mono ?_; rintro e w5 ⟨A2, cc2, rfl, hB5, hn5, N, P, Bs, r1, r2⟩; have CS := Lib.hid (xsame_any nr cc1 cc2 A1 A2 N P Bs w5 hn5 r1 r2); have HB5 := Lib.hid hB5; clear hB5 hn5 r1 r2)
          | (go_simp; go_at_call 22; refine CS.out.mono ?_; rintro e w6 ⟨rfl, hb6⟩; have HB6 := Lib.hid (HB5.out.quiet (keeps_grow hb6)); clear hb6))
        all_goals go_wp2_with fail
        all_goals go_roundw
        all_goals first
          | (simp [intOf]; have := HJ.out; omega)
          | (have h2 := HG.out.made
             have h4 := HMD.out
             have h5 := HJ.out
             exact ⟨j + 1, s2, by omega, by omega, by go_num, HG.out.ok, by omega, HB6.out⟩)
    · have HE : Hid (Below w.heap.size w wr ∧ w.heap.size ≤ wr.heap.size) := by
        have h1 := HB.out.below
        have h2 : Below w.heap.size w wr := BL.out.trans (h1.mono (Nat.le_succ _))
        exact ⟨h2, h2.size⟩
      have HLT2 := Lib.hid hlt
      clear HA HB hlt
      by_cases hl : j < len
      · obtain rfl : j = 100 := by have := HLT2.out; omega
        have g1 : decide (100 < len) = true := decide_eq_true hl
        have g2 : decide ((100 : Int) < (len : Int)) = true := decide_eq_true (by omega)
        go_wp2_with (go_at_call 25; refine (awake_later HE.out.1 HE.out.2).mono ?_; rintro e w7 ⟨rfl, hb⟩; have B7 := Lib.hid hb; clear hb)
        go_ret
        exact ⟨rfl, B7.out⟩
      · obtain rfl : j = len := by omega
        have g1 : decide (j < j) = false := by simp
        go_wp2_with (go_at_call 25; refine (awake_later HE.out.1 HE.out.2).mono ?_; rintro e w7 ⟨rfl, hb⟩; have B7 := Lib.hid hb; clear hb)
        go_ret
        exact ⟨rfl, B7.out⟩
theorem plays_any (k key v mx fail : Int) (A : Option Addr) (len cap : Nat) (hlc : len ≤ cap) (hm : cap ≤ maxLen) (w : World)
    (hA : ∀ i, i < len → ∃ (b off : Nat) (kd : Int) (ky vl : ByteArray) (fl : Int), A = some ⟨b, off, none⟩ ∧ b < w.heap.size ∧ DeedAt w b (off + i * 4) kd ky vl fl ∧ ky.size ≤ maxLen) :
    Calls Tryz.prog 3 #[specV k key v mx, .int .i64 fail, .slice A len cap] w fun e w' => e = .returned (.bool true) ∧ Below w.heap.size w w' := by
  obtain ⟨f, af, kf, xf⟩ := fail_pair (bm := w.heap.size + 1) (bx := w.heap.size + 1 + 1) fail
  cases hf : fitsH k key v mx
  · exact plays_no k key v mx fail hf A len cap w f af kf xf
  · obtain ⟨_, h1, h2, h3⟩ := fitsH_true hf
    obtain ⟨key, rfl⟩ := Int.eq_ofNat_of_zero_le (show 0 ≤ key by omega)
    obtain ⟨v, rfl⟩ := Int.eq_ofNat_of_zero_le (show 0 ≤ v by omega)
    obtain ⟨mx, rfl⟩ := Int.eq_ofNat_of_zero_le (show 0 ≤ mx by omega)
    exact plays_ok k key v mx fail hf A len cap hlc hm w f af kf xf hA
end Go.Proofs.YtomhflaofipccaaGreat
