/-
  The library's sort: partitionEqualOrdered.
-/
import Derived.Test.YtomhflaofipccaaGreatSortPart
import Derived.Sort.LotC
namespace Go.Proofs.YtomhflaofipccaaGreat
open Go Go.RowKit Go.Maps
set_option linter.unusedVariables false
set_option maxRecDepth 100000 in
set_option maxHeartbeats 8000000 in
theorem partitionEqual_any (w0 w : World) (g : Nat) (sp : List Value) (d : Array Nat) (cap a b pv : Nat) (hap : a ≤ pv) (hpb : pv < b) (hb : b ≤ d.size) (hs : d.size ≤ cap) (hc : d.size ≤ 1048576) (h : SRow w0 w g sp d) :
    Calls Tryz.prog 92 #[.slice (some ⟨g, 0, none⟩) d.size cap, .int .i64 (a : Int), .int .i64 (b : Int), .int .i64 (pv : Int)] w (PartEqPost w0 g sp (Sort.partitionEqual ltN d a b pv)) := by
  obtain ⟨q0, hq0⟩ : ∃ q0, q0 = b - 1 := ⟨_, rfl⟩
  have hqi : (b : Int) - 1 = (q0 : Int) := by omega
  obtain ⟨T, hT⟩ : ∃ T, T = Sort.partitionEqual ltN d a b pv := ⟨_, rfl⟩
  rw [← hT]
  obtain ⟨n, hn⟩ : ∃ n, n = d.size := ⟨_, rfl⟩
  rw [← hn] at hb hs hc ⊢
  have HT := Lib.hid hT; clear hT
  have HD := Lib.hid hn.symm; clear hn
  have H0 := Lib.hid h; clear h
  go_enter Tryz.func92, Tryz.ntmps92
  have hsi : a < d.size := by rw [HD.out]; omega
  have hsj : pv < d.size := by rw [HD.out]; omega
  have csi := H0.out.cell hsi
  have csj := H0.out.cell hsj
  have fsi := H0.out.frozen a
  have fsj := H0.out.frozen pv
  have hSW := H0.out.swp hsi hsj
  obtain ⟨s1, hs1⟩ : ∃ s1, d[a]! = s1 := ⟨_, rfl⟩
  obtain ⟨s2, hs2⟩ : ∃ s2, d[pv]! = s2 := ⟨_, rfl⟩
  rw [hs1] at csi
  rw [hs2] at csj
  rw [hs1, hs2] at hSW
  have HSW := Lib.hid hSW.drew
  clear hSW hs1 hs2 hsi hsj
  have p1 : (0 : Int) ≤ (a : Int) := by omega
  have p2 : (a : Int) < (n : Int) := by omega
  have p3 : (0 : Int) ≤ (pv : Int) := by omega
  have p4 : (pv : Int) < (n : Int) := by omega
  obtain ⟨v', hv'⟩ := cell?_setCell_some (w := w) (p := ⟨g, a, none⟩) (x := .int .u32 (s2 : Int)) (q := ⟨g, pv, none⟩) (v := .int .u32 (s2 : Int)) csj
  go_wp2
  go_region
  clear hv' csi csj fsi fsj
  have HD0 := HD
  have HR0 := Lib.hid (show Sort.partEqLoop ltN a (a + 1) q0 (Sort.swp d a pv) = T by rw [HT.out, hq0]; rfl)
  have hq1 : q0 < b := by omega
  have hq2 : b ≤ q0 + 1 := by omega
  clear hq0
  have HQI := Lib.hid hqi; clear hqi
  go_wp2
  rw [HQI.out]
  go_loopw [9, 10] (fun i j wr => ∃ (p q : Nat) (d : Array Nat), a < p ∧ p ≤ q + 1 ∧ q < b ∧ i = .int .i64 p ∧ j = .int .i64 q ∧ SRow w0 wr g sp d ∧ d.size = n ∧ Sort.partEqLoop ltN a p q d = T) (fun i j _ => (intOf j).toNat + 1 - (intOf i).toNat)
  case atStart => exact ⟨a + 1, q0, _, by omega, by omega, by omega, by first | rfl | go_num, by first | rfl | go_num, HSW.out, by rw [size_swp]; exact HD.out, HR0.out⟩
  case round =>
    clear HR0 HSW HD HD0
    obtain ⟨p, q, d, hp1, hpq, hqb, rfl, rfl, hr, hdn, hT⟩ := hrel
    have HRr := Lib.hid hr; clear hr
    have HD := Lib.hid hdn; clear hdn
    have HRR := Lib.hid hT; clear hT
    go_wp2
    obtain ⟨x0, hx0⟩ : ∃ x0, d[a]! = x0 := ⟨_, rfl⟩
    have HX0 := Lib.hid hx0; clear hx0
    obtain ⟨I2, hI2⟩ : ∃ I2, I2 = Sort.scanUp (fun x => !ltN d[a]! x) d q p := ⟨_, rfl⟩
    have HI2 := Lib.hid hI2; clear hI2
    go_loopw [9] (fun i wr => ∃ k : Nat, p ≤ k ∧ k ≤ q + 1 ∧ i = .int .i64 k ∧ SRow w0 wr g sp d ∧ Sort.scanUp (fun x => !ltN d[a]! x) d q k = I2) (fun i _ => q + 1 - (intOf i).toNat)
    case atStart => exact ⟨p, by omega, by omega, by first | rfl | go_num, HRr.out, HI2.out.symm⟩
    case round =>
      obtain ⟨k, hk1, hk2, rfl, hr, hsc⟩ := hrel
      have HRk := Lib.hid hr; clear hr
      have HSC := Lib.hid hsc; clear hsc
      by_cases hkq : k ≤ q
      · have hkd : k < d.size := by rw [HD.out]; omega
        have ck := HRk.out.cell hkd
        have ca := HRk.out.cell (show a < d.size by rw [HD.out]; omega)
        rw [HX0.out] at ca
        obtain ⟨x, hx⟩ : ∃ x, d[k]! = x := ⟨_, rfl⟩
        rw [hx] at ck
        have HX := Lib.hid hx; clear hx hkd
        have i1 : (0 : Int) ≤ (k : Int) := by omega
        have i2 : (k : Int) < (n : Int) := by omega
        have i3 : (0 : Int) ≤ (a : Int) := by omega
        have i4 : (a : Int) < (n : Int) := by omega
        have g1 : decide (k ≤ q) = true := by simpa using hkq
        have CL := Lib.hid (fun w => less_any x0 x w)
        by_cases hlt : x0 < x
        · have hl : decide (x0 < x) = true := by simpa using hlt
          have HE := Lib.hid (scanUp_stop (fun x => !ltN d[a]! x) d q k (.inr (by show (!ltN d[a]! d[k]!) = false; rw [HX0.out, HX.out]; exact congrArg not hl)))
          go_wp2
          go_quiet ((go_at_call 91; exact quiet_left (CL.out _)))
          go_wp2
          clear ck ca hl CL g1 i1 i2 i3 i4
          obtain rfl : k = I2 := (HE.out).symm.trans HSC.out
          have HR2 := Lib.hid (HRk.out.drewN nq)
          generalize wr.drewN nq = w2 at HR2 ⊢
          clear HRk HSC
          obtain ⟨J2, hJ2⟩ : ∃ J2, J2 = Sort.scanDown (fun x => ltN d[a]! x) d k q := ⟨_, rfl⟩
          have HJ2 := Lib.hid hJ2; clear hJ2
          go_loopw [10] (fun j wr => ∃ m : Nat, m ≤ q ∧ k ≤ m + 1 ∧ j = .int .i64 m ∧ SRow w0 wr g sp d ∧ Sort.scanDown (fun x => ltN d[a]! x) d k m = J2) (fun j _ => (intOf j).toNat)
          case atStart => exact ⟨q, by omega, by omega, rfl, HR2.out, HJ2.out.symm⟩
          case round =>
            obtain ⟨m, hm1, hm2, rfl, hr, hsc⟩ := hrel
            have HRk := Lib.hid hr; clear hr
            have HSC := Lib.hid hsc; clear hsc HR2
            by_cases hkm : k ≤ m
            · have hmd : m < d.size := by rw [HD.out]; omega
              have cm := HRk.out.cell hmd
              have ca := HRk.out.cell (show a < d.size by rw [HD.out]; omega)
              rw [HX0.out] at ca
              obtain ⟨y, hy⟩ : ∃ y, d[m]! = y := ⟨_, rfl⟩
              rw [hy] at cm
              have HY := Lib.hid hy; clear hy hmd
              have i1 : (0 : Int) ≤ (m : Int) := by omega
              have i2 : (m : Int) < (n : Int) := by omega
              have i3 : (0 : Int) ≤ (a : Int) := by omega
              have i4 : (a : Int) < (n : Int) := by omega
              have g1 : decide (k ≤ m) = true := by simpa using hkm
              have CL := Lib.hid (fun w => less_any x0 y w)
              by_cases hlt2 : x0 < y
              · have hl : decide (x0 < y) = true := by simpa using hlt2
                have HN2 := Lib.hid ((scanDown_on (fun x => ltN d[a]! x) d k m hkm (by omega) (by show (ltN d[a]! d[m]!) = true; rw [HX0.out, HY.out]; exact hl)).symm.trans HSC.out)
                go_wp2
                go_quiet ((go_at_call 91; exact quiet_left (CL.out _)))
                go_wp2
                go_roundw
                case rel => exact ⟨m - 1, by omega, by omega, by go_num, HRk.out.drewN _, HN2.out⟩
                case measure => simp [intOf]; omega
              · have hl : decide (x0 < y) = false := by simpa using hlt2
                have HE := Lib.hid (scanDown_stop (fun x => ltN d[a]! x) d k m (.inr (by show (ltN d[a]! d[m]!) = false; rw [HX0.out, HY.out]; exact hl)))
                have hne : k ≠ m := by
                  rintro rfl
                  have := HX.out.symm.trans HY.out
                  subst this
                  first | exact hlt hlt2 | exact hlt2 hlt
                obtain rfl : m = J2 := (HE.out).symm.trans HSC.out
                go_wp2
                go_quiet ((go_at_call 91; exact quiet_left (CL.out _)))
                have HR3 := Lib.hid (HRk.out.drewN nq)
                generalize wr.drewN nq = w3 at HR3 ⊢
                clear HRk HSC HE HX HY CL cm ca g1 hl i1 i2 i3 i4 hlt hlt2
                have hkm' : ¬ k > m := by omega
                have HG := Lib.hid (HRR.out.symm.trans ((partEq_next HI2.out HJ2.out).trans (if_neg hkm')))
                have g2 : decide (m < k) = false := by simpa using hkm'
                have hsi : k < d.size := by rw [HD.out]; omega
                have hsj : m < d.size := by rw [HD.out]; omega
                have csi := HR3.out.cell hsi
                have csj := HR3.out.cell hsj
                have fsi := HR3.out.frozen k
                have fsj := HR3.out.frozen m
                have hSW := HR3.out.swp hsi hsj
                obtain ⟨s1, hs1⟩ : ∃ s1, d[k]! = s1 := ⟨_, rfl⟩
                obtain ⟨s2, hs2⟩ : ∃ s2, d[m]! = s2 := ⟨_, rfl⟩
                rw [hs1] at csi
                rw [hs2] at csj
                rw [hs1, hs2] at hSW
                have HSW := Lib.hid hSW.drew
                clear hSW hs1 hs2 hsi hsj
                have p1 : (0 : Int) ≤ (k : Int) := by omega
                have p2 : (k : Int) < (n : Int) := by omega
                have p3 : (0 : Int) ≤ (m : Int) := by omega
                have p4 : (m : Int) < (n : Int) := by omega
                obtain ⟨v', hv'⟩ := cell?_setCell_some (w := w3) (p := ⟨g, k, none⟩) (x := .int .u32 (s2 : Int)) (q := ⟨g, m, none⟩) (v := .int .u32 (s2 : Int)) csj
                go_wp2
                go_region
                clear hv' csi csj fsi fsj
                go_wp2
                go_roundw
                case rel => exact ⟨k + 1, m - 1, _, by omega, by omega, by omega, by go_num, by go_num, HSW.out, by rw [size_swp]; exact HD.out, HG.out.symm⟩
                case measure => simp [intOf]; omega
            · have g1 : decide (k ≤ m) = false := by simpa using hkm
              have HE := Lib.hid (scanDown_stop (fun x => ltN d[a]! x) d k m (.inl hkm))
              obtain rfl : m = J2 := (HE.out).symm.trans HSC.out
              go_wp2
              go_quiet (fail)
              have HR3 := Lib.hid (HRk.out.drewN nq)
              generalize wr.drewN nq = w3 at HR3 ⊢
              clear HRk HSC HE g1
              have hkm' : k > m := by omega
              have HG := Lib.hid (HRR.out.symm.trans ((partEq_next HI2.out HJ2.out).trans (if_pos hkm')))
              have g2 : decide (m < k) = true := by simpa using hkm'
              go_wp2
              go_ret
              exact ⟨by rw [HG.out]; rfl, by rw [HG.out]; exact HR3.out⟩
        · have hl : decide (x0 < x) = false := by simpa using hlt
          have HN2 := Lib.hid ((scanUp_on (fun x => !ltN d[a]! x) d q k hkq (by show (!ltN d[a]! d[k]!) = true; rw [HX0.out, HX.out]; exact congrArg not hl)).symm.trans HSC.out)
          go_wp2
          go_quiet ((go_at_call 91; exact quiet_left (CL.out _)))
          go_wp2
          go_roundw
          case rel => exact ⟨k + 1, by omega, by omega, by go_num, HRk.out.drewN _, HN2.out⟩
          case measure => simp [intOf]; omega
      · have g1 : decide (k ≤ q) = false := by simpa using hkq
        have HE := Lib.hid (scanUp_stop (fun x => !ltN d[a]! x) d q k (.inl hkq))
        go_wp2
        go_quiet (fail)
        go_wp2
        clear g1
        obtain rfl : k = I2 := (HE.out).symm.trans HSC.out
        have HR2 := Lib.hid (HRk.out.drewN nq)
        generalize wr.drewN nq = w2 at HR2 ⊢
        clear HRk HSC
        obtain ⟨J2, hJ2⟩ : ∃ J2, J2 = Sort.scanDown (fun x => ltN d[a]! x) d k q := ⟨_, rfl⟩
        have HJ2 := Lib.hid hJ2; clear hJ2
        go_loopw [10] (fun j wr => ∃ m : Nat, m ≤ q ∧ k ≤ m + 1 ∧ j = .int .i64 m ∧ SRow w0 wr g sp d ∧ Sort.scanDown (fun x => ltN d[a]! x) d k m = J2) (fun j _ => (intOf j).toNat)
        case atStart => exact ⟨q, by omega, by omega, rfl, HR2.out, HJ2.out.symm⟩
        case round =>
          obtain ⟨m, hm1, hm2, rfl, hr, hsc⟩ := hrel
          have HRk := Lib.hid hr; clear hr
          have HSC := Lib.hid hsc; clear hsc HR2
          by_cases hkm : k ≤ m
          · exfalso; omega
          · have g1 : decide (k ≤ m) = false := by simpa using hkm
            have HE := Lib.hid (scanDown_stop (fun x => ltN d[a]! x) d k m (.inl hkm))
            obtain rfl : m = J2 := (HE.out).symm.trans HSC.out
            go_wp2
            go_quiet (fail)
            have HR3 := Lib.hid (HRk.out.drewN nq)
            generalize wr.drewN nq = w3 at HR3 ⊢
            clear HRk HSC HE g1
            have hkm' : k > m := by omega
            have HG := Lib.hid (HRR.out.symm.trans ((partEq_next HI2.out HJ2.out).trans (if_pos hkm')))
            have g2 : decide (m < k) = true := by simpa using hkm'
            go_wp2
            go_ret
            exact ⟨by rw [HG.out]; rfl, by rw [HG.out]; exact HR3.out⟩
end Go.Proofs.YtomhflaofipccaaGreat
