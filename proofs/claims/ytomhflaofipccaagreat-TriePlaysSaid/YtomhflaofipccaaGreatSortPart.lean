/-
  The library's sort: partitionOrdered.
-/
import Derived.Test.YtomhflaofipccaaGreatSortPiv
import Derived.Sort.LotC
namespace Go.Proofs.YtomhflaofipccaaGreat
open Go Go.RowKit Go.Maps
set_option linter.unusedVariables false

theorem scanUp_on (p : Nat → Bool) (d : Array Nat) (j i : Nat) (h : i ≤ j) (hp : p d[i]! = true) : Sort.scanUp p d j i = Sort.scanUp p d j (i + 1) := by
  rw [Sort.scanUp, if_pos (by rw [hp]; simpa using h)]
theorem scanUp_stop (p : Nat → Bool) (d : Array Nat) (j i : Nat) (h : ¬ i ≤ j ∨ p d[i]! = false) : Sort.scanUp p d j i = i := by
  rw [Sort.scanUp, if_neg]
  rcases h with h | h
  · rw [Bool.and_eq_true]; rintro ⟨h1, _⟩; exact h (of_decide_eq_true h1)
  · rw [h]; simp
theorem scanDown_on (p : Nat → Bool) (d : Array Nat) (i j : Nat) (h : i ≤ j) (h0 : 0 < j) (hp : p d[j]! = true) : Sort.scanDown p d i j = Sort.scanDown p d i (j - 1) := by
  obtain ⟨m, rfl⟩ : ∃ m, j = m + 1 := ⟨j - 1, by omega⟩
  rw [Sort.scanDown, if_pos (by rw [hp]; simpa using h)]
  rfl
theorem scanDown_stop (p : Nat → Bool) (d : Array Nat) (i j : Nat) (h : ¬ i ≤ j ∨ p d[j]! = false) : Sort.scanDown p d i j = j := by
  rcases j with _ | j
  · rfl
  · rw [Sort.scanDown, if_neg]
    rcases h with h | h
    · rw [Bool.and_eq_true]; rintro ⟨h1, _⟩; exact h (of_decide_eq_true h1)
    · rw [h]; simp
theorem part_first {d d1 : Array Nat} {a b pv i2 j2 : Nat} (hd : d1 = Sort.swp d a pv) (hi : i2 = Sort.scanUp (fun x => ltN x d1[a]!) d1 (b - 1) (a + 1)) (hj : j2 = Sort.scanDown (fun x => !ltN x d1[a]!) d1 i2 (b - 1)) :
    Sort.partition ltN d a b pv = if i2 > j2 then (j2, true, Sort.swp d1 j2 a) else ((Sort.partLoop ltN a (i2 + 1) (j2 - 1) (Sort.swp d1 i2 j2)).1, false, Sort.swp (Sort.partLoop ltN a (i2 + 1) (j2 - 1) (Sort.swp d1 i2 j2)).2 (Sort.partLoop ltN a (i2 + 1) (j2 - 1) (Sort.swp d1 i2 j2)).1 a) := by
  subst hd; subst hi; subst hj; rfl
theorem part_next {d : Array Nat} {a i j i2 j2 : Nat} (hi : i2 = Sort.scanUp (fun x => ltN x d[a]!) d j i) (hj : j2 = Sort.scanDown (fun x => !ltN x d[a]!) d i2 j) :
    Sort.partLoop ltN a i j d = if i2 > j2 then (j2, d) else Sort.partLoop ltN a (i2 + 1) (j2 - 1) (Sort.swp d i2 j2) := by
  subst hi; subst hj; rw [Sort.partLoop_eq]
theorem partEq_next {d : Array Nat} {a i j i2 j2 : Nat} (hi : i2 = Sort.scanUp (fun x => !ltN d[a]! x) d j i) (hj : j2 = Sort.scanDown (fun x => ltN d[a]! x) d i2 j) :
    Sort.partEqLoop ltN a i j d = if i2 > j2 then (i2, d) else Sort.partEqLoop ltN a (i2 + 1) (j2 - 1) (Sort.swp d i2 j2) := by
  subst hi; subst hj; rw [Sort.partEqLoop_eq]
def PartPost (w0 : World) (g : Nat) (sp : List Value) (r : Nat × Bool × Array Nat) (e : Ending) (w' : World) : Prop :=
  e = .returned (.tuple #[.int .i64 (r.1 : Int), .bool r.2.1]) ∧ SRow w0 w' g sp r.2.2
def PartEqPost (w0 : World) (g : Nat) (sp : List Value) (r : Nat × Array Nat) (e : Ending) (w' : World) : Prop :=
  e = .returned (.int .i64 (r.1 : Int)) ∧ SRow w0 w' g sp r.2
set_option maxRecDepth 100000 in
set_option maxHeartbeats 8000000 in
theorem partition_any (w0 w : World) (g : Nat) (sp : List Value) (d : Array Nat) (cap a b pv : Nat) (hap : a ≤ pv) (hpb : pv < b) (hb : b ≤ d.size) (hs : d.size ≤ cap) (hc : d.size ≤ 1048576) (h : SRow w0 w g sp d) :
    Calls Tryz.prog 93 #[.slice (some ⟨g, 0, none⟩) d.size cap, .int .i64 (a : Int), .int .i64 (b : Int), .int .i64 (pv : Int)] w (PartPost w0 g sp (Sort.partition ltN d a b pv)) := by
  obtain ⟨q0, hq0⟩ : ∃ q0, q0 = b - 1 := ⟨_, rfl⟩
  have hqi : (b : Int) - 1 = (q0 : Int) := by omega
  obtain ⟨T, hT⟩ : ∃ T, T = Sort.partition ltN d a b pv := ⟨_, rfl⟩
  rw [← hT]
  obtain ⟨n, hn⟩ : ∃ n, n = d.size := ⟨_, rfl⟩
  rw [← hn] at hb hs hc ⊢
  have HT := Lib.hid hT; clear hT
  have HD := Lib.hid hn.symm; clear hn
  have H0 := Lib.hid h; clear h
  go_enter Tryz.func93, Tryz.ntmps93
  have hsi : a < d.size := by rw [HD.out]; omega
  have hsj : pv < d.size := by rw [HD.out]; omega
  have csi := H0.out.cell hsi
  have csj := H0.out.cell hsj
  have fsi := H0.out.frozen a
  have fsj := H0.out.frozen pv
  have hSW := H0.out.swp hsi hsj
  obtain ⟨s1, hs1⟩ : ∃ s1, d[a]! = s1 := ⟨_, rfl⟩
  obtain ⟨s2, hs2⟩ : ∃ s2, d[pv]! = s2 := ⟨_, rfl⟩
  rw [hs1] at csi
  rw [hs2] at csj
  rw [hs1, hs2] at hSW
  have HSW := Lib.hid hSW.drew
  clear hSW hs1 hs2 hsi hsj
  have p1 : (0 : Int) ≤ (a : Int) := by omega
  have p2 : (a : Int) < (n : Int) := by omega
  have p3 : (0 : Int) ≤ (pv : Int) := by omega
  have p4 : (pv : Int) < (n : Int) := by omega
  obtain ⟨v', hv'⟩ := cell?_setCell_some (w := w) (p := ⟨g, a, none⟩) (x := .int .u32 (s2 : Int)) (q := ⟨g, pv, none⟩) (v := .int .u32 (s2 : Int)) csj
  go_wp2
  go_region
  clear hv' csi csj fsi fsj
  obtain ⟨d1, hd1⟩ : ∃ d1, d1 = Sort.swp d a pv := ⟨_, rfl⟩
  have HD0 := HD; clear HD
  have HD := Lib.hid (show d1.size = n by rw [hd1, size_swp]; exact HD0.out)
  rw [← hd1] at HSW
  have HD1 := Lib.hid hd1; clear hd1 HD0 H0
  have HQ0 := Lib.hid hq0
  have hq1 : q0 < b := by omega
  have hq2 : b ≤ q0 + 1 := by omega
  have hpq : a + 1 ≤ q0 + 1 := by omega
  clear hq0
  have HQI := Lib.hid hqi; clear hqi
  go_wp2
  rw [HQI.out]
  generalize hw1 : World.drew _ = w1 at HSW ⊢
  clear hw1
  obtain ⟨x0, hx0⟩ : ∃ x0, d1[a]! = x0 := ⟨_, rfl⟩
  have HX0 := Lib.hid hx0; clear hx0
  obtain ⟨I2, hI2⟩ : ∃ I2, I2 = Sort.scanUp (fun x => ltN x d1[a]!) d1 q0 (a + 1) := ⟨_, rfl⟩
  have HI2 := Lib.hid hI2; clear hI2
  go_loopw [10] (fun i wr => ∃ k : Nat, (a + 1) ≤ k ∧ k ≤ q0 + 1 ∧ i = .int .i64 k ∧ SRow w0 wr g sp d1 ∧ Sort.scanUp (fun x => ltN x d1[a]!) d1 q0 k = I2) (fun i _ => q0 + 1 - (intOf i).toNat)
  case atStart => exact ⟨(a + 1), by omega, by omega, by first | rfl | go_num, HSW.out, HI2.out.symm⟩
  case round =>
    obtain ⟨k, hk1, hk2, rfl, hr, hsc⟩ := hrel
    have HRk := Lib.hid hr; clear hr
    have HSC := Lib.hid hsc; clear hsc
    by_cases hkq : k ≤ q0
    · have hkd : k < d1.size := by rw [HD.out]; omega
      have ck := HRk.out.cell hkd
      have ca := HRk.out.cell (show a < d1.size by rw [HD.out]; omega)
      rw [HX0.out] at ca
      obtain ⟨x, hx⟩ : ∃ x, d1[k]! = x := ⟨_, rfl⟩
      rw [hx] at ck
      have HX := Lib.hid hx; clear hx hkd
      have i1 : (0 : Int) ≤ (k : Int) := by omega
      have i2 : (k : Int) < (n : Int) := by omega
      have i3 : (0 : Int) ≤ (a : Int) := by omega
      have i4 : (a : Int) < (n : Int) := by omega
      have g1 : decide (k ≤ q0) = true := by simpa using hkq
      have CL := Lib.hid (fun w => less_any x x0 w)
      by_cases hlt : x < x0
      · have hl : decide (x < x0) = true := by simpa using hlt
        have HN2 := Lib.hid ((scanUp_on (fun x => ltN x d1[a]!) d1 q0 k hkq (by show (ltN d1[k]! d1[a]!) = true; rw [HX0.out, HX.out]; exact hl)).symm.trans HSC.out)
        go_wp2
        go_quiet ((go_at_call 91; exact quiet_left (CL.out _)))
        go_wp2
        go_roundw
        case rel => exact ⟨k + 1, by omega, by omega, by go_num, HRk.out.drewN _, HN2.out⟩
        case measure => simp [intOf]; omega
      · have hl : decide (x < x0) = false := by simpa using hlt
        have HE := Lib.hid (scanUp_stop (fun x => ltN x d1[a]!) d1 q0 k (.inr (by show (ltN d1[k]! d1[a]!) = false; rw [HX0.out, HX.out]; exact hl)))
        go_wp2
        go_quiet ((go_at_call 91; exact quiet_left (CL.out _)))
        go_wp2
        clear ck ca hl CL g1 i1 i2 i3 i4
        obtain rfl : k = I2 := (HE.out).symm.trans HSC.out
        have HR2 := Lib.hid (HRk.out.drewN nq)
        generalize wr.drewN nq = w2 at HR2 ⊢
        clear HRk HSC
        obtain ⟨J2, hJ2⟩ : ∃ J2, J2 = Sort.scanDown (fun x => !ltN x d1[a]!) d1 k q0 := ⟨_, rfl⟩
        have HJ2 := Lib.hid hJ2; clear hJ2
        go_loopw [11] (fun j wr => ∃ m : Nat, m ≤ q0 ∧ k ≤ m + 1 ∧ j = .int .i64 m ∧ SRow w0 wr g sp d1 ∧ Sort.scanDown (fun x => !ltN x d1[a]!) d1 k m = J2) (fun j _ => (intOf j).toNat)
        case atStart => exact ⟨q0, by omega, by omega, rfl, HR2.out, HJ2.out.symm⟩
        case round =>
          obtain ⟨m, hm1, hm2, rfl, hr, hsc⟩ := hrel
          have HRk := Lib.hid hr; clear hr
          have HSC := Lib.hid hsc; clear hsc HR2
          by_cases hkm : k ≤ m
          · have hmd : m < d1.size := by rw [HD.out]; omega
            have cm := HRk.out.cell hmd
            have ca := HRk.out.cell (show a < d1.size by rw [HD.out]; omega)
            rw [HX0.out] at ca
            obtain ⟨y, hy⟩ : ∃ y, d1[m]! = y := ⟨_, rfl⟩
            rw [hy] at cm
            have HY := Lib.hid hy; clear hy hmd
            have i1 : (0 : Int) ≤ (m : Int) := by omega
            have i2 : (m : Int) < (n : Int) := by omega
            have i3 : (0 : Int) ≤ (a : Int) := by omega
            have i4 : (a : Int) < (n : Int) := by omega
            have g1 : decide (k ≤ m) = true := by simpa using hkm
            have CL := Lib.hid (fun w => less_any y x0 w)
            by_cases hlt2 : y < x0
            · have hl : decide (y < x0) = true := by simpa using hlt2
              have HE := Lib.hid (scanDown_stop (fun x => !ltN x d1[a]!) d1 k m (.inr (by show (!ltN d1[m]! d1[a]!) = false; rw [HX0.out, HY.out]; exact congrArg not hl)))
              have hne : k ≠ m := by
                rintro rfl
                have := HX.out.symm.trans HY.out
                subst this
                first | exact hlt hlt2 | exact hlt2 hlt
              obtain rfl : m = J2 := (HE.out).symm.trans HSC.out
              go_wp2
              go_quiet ((go_at_call 91; exact quiet_left (CL.out _)))
              have HR3 := Lib.hid (HRk.out.drewN nq)
              generalize wr.drewN nq = w3 at HR3 ⊢
              clear HRk HSC HE HX HY CL cm ca g1 hl i1 i2 i3 i4 hlt hlt2
              have hkm' : ¬ k > m := by omega
              obtain ⟨R, hR⟩ : ∃ R, R = Sort.partLoop ltN a (k + 1) (m - 1) (Sort.swp d1 k m) := ⟨_, rfl⟩
              have HF0 := (HT.out.trans ((part_first HD1.out (HQ0.out ▸ HI2.out) (HQ0.out ▸ HJ2.out)).trans (if_neg hkm')))
              rw [← hR] at HF0
              have HF := Lib.hid HF0; clear HF0
              have HRR := Lib.hid hR; clear hR
              have g2 : decide (m < k) = false := by simpa using hkm'
              have hsi : k < d1.size := by rw [HD.out]; omega
              have hsj : m < d1.size := by rw [HD.out]; omega
              have csi := HR3.out.cell hsi
              have csj := HR3.out.cell hsj
              have fsi := HR3.out.frozen k
              have fsj := HR3.out.frozen m
              have hSW := HR3.out.swp hsi hsj
              obtain ⟨s1, hs1⟩ : ∃ s1, d1[k]! = s1 := ⟨_, rfl⟩
              obtain ⟨s2, hs2⟩ : ∃ s2, d1[m]! = s2 := ⟨_, rfl⟩
              rw [hs1] at csi
              rw [hs2] at csj
              rw [hs1, hs2] at hSW
              have HSW := Lib.hid hSW.drew
              clear hSW hs1 hs2 hsi hsj
              have p1 : (0 : Int) ≤ (k : Int) := by omega
              have p2 : (k : Int) < (n : Int) := by omega
              have p3 : (0 : Int) ≤ (m : Int) := by omega
              have p4 : (m : Int) < (n : Int) := by omega
              obtain ⟨v', hv'⟩ := cell?_setCell_some (w := w3) (p := ⟨g, k, none⟩) (x := .int .u32 (s2 : Int)) (q := ⟨g, m, none⟩) (v := .int .u32 (s2 : Int)) csj
              go_wp2
              go_region
              clear hv' csi csj fsi fsj
              go_wp2
              go_loopw [10, 11] (fun i j wr => ∃ (p q : Nat) (d : Array Nat), a < p ∧ p ≤ q + 1 ∧ q < b ∧ i = .int .i64 p ∧ j = .int .i64 q ∧ SRow w0 wr g sp d ∧ d.size = n ∧ Sort.partLoop ltN a p q d = R) (fun i j _ => (intOf j).toNat + 1 - (intOf i).toNat)
              case atStart => exact ⟨k + 1, m - 1, _, by omega, by omega, by omega, by go_num, by go_num, HSW.out, by rw [size_swp]; exact HD.out, HRR.out.symm⟩
              case round =>
                clear HI2 HJ2 HRR HX0 HSW HR3 HD HD1 HQ0 hkm hne hk1 hk2 hm1 hm2 hkq hkm' g2
                obtain ⟨p, q, d, hp1, hpq, hqb, rfl, rfl, hr, hdn, hT⟩ := hrel
                have HRr := Lib.hid hr; clear hr
                have HD := Lib.hid hdn; clear hdn
                have HRR := Lib.hid hT; clear hT
                go_wp2
                obtain ⟨x0, hx0⟩ : ∃ x0, d[a]! = x0 := ⟨_, rfl⟩
                have HX0 := Lib.hid hx0; clear hx0
                obtain ⟨I2, hI2⟩ : ∃ I2, I2 = Sort.scanUp (fun x => ltN x d[a]!) d q p := ⟨_, rfl⟩
                have HI2 := Lib.hid hI2; clear hI2
                go_loopw [10] (fun i wr => ∃ k : Nat, p ≤ k ∧ k ≤ q + 1 ∧ i = .int .i64 k ∧ SRow w0 wr g sp d ∧ Sort.scanUp (fun x => ltN x d[a]!) d q k = I2) (fun i _ => q + 1 - (intOf i).toNat)
                case atStart => exact ⟨p, by omega, by omega, by first | rfl | go_num, HRr.out, HI2.out.symm⟩
                case round =>
                  obtain ⟨k, hk1, hk2, rfl, hr, hsc⟩ := hrel
                  have HRk := Lib.hid hr; clear hr
                  have HSC := Lib.hid hsc; clear hsc
                  by_cases hkq : k ≤ q
                  · have hkd : k < d.size := by rw [HD.out]; omega
                    have ck := HRk.out.cell hkd
                    have ca := HRk.out.cell (show a < d.size by rw [HD.out]; omega)
                    rw [HX0.out] at ca
                    obtain ⟨x, hx⟩ : ∃ x, d[k]! = x := ⟨_, rfl⟩
                    rw [hx] at ck
                    have HX := Lib.hid hx; clear hx hkd
                    have i1 : (0 : Int) ≤ (k : Int) := by omega
                    have i2 : (k : Int) < (n : Int) := by omega
                    have i3 : (0 : Int) ≤ (a : Int) := by omega
                    have i4 : (a : Int) < (n : Int) := by omega
                    have g1 : decide (k ≤ q) = true := by simpa using hkq
                    have CL := Lib.hid (fun w => less_any x x0 w)
                    by_cases hlt : x < x0
                    · have hl : decide (x < x0) = true := by simpa using hlt
                      have HN2 := Lib.hid ((scanUp_on (fun x => ltN x d[a]!) d q k hkq (by show (ltN d[k]! d[a]!) = true; rw [HX0.out, HX.out]; exact hl)).symm.trans HSC.out)
                      go_wp2
                      go_quiet ((go_at_call 91; exact quiet_left (CL.out _)))
                      go_wp2
                      go_roundw
                      case rel => exact ⟨k + 1, by omega, by omega, by go_num, HRk.out.drewN _, HN2.out⟩
                      case measure => simp [intOf]; omega
                    · have hl : decide (x < x0) = false := by simpa using hlt
                      have HE := Lib.hid (scanUp_stop (fun x => ltN x d[a]!) d q k (.inr (by show (ltN d[k]! d[a]!) = false; rw [HX0.out, HX.out]; exact hl)))
                      go_wp2
                      go_quiet ((go_at_call 91; exact quiet_left (CL.out _)))
                      go_wp2
                      clear ck ca hl CL g1 i1 i2 i3 i4
                      obtain rfl : k = I2 := (HE.out).symm.trans HSC.out
                      have HR2 := Lib.hid (HRk.out.drewN nq)
                      generalize wr.drewN nq = w2 at HR2 ⊢
                      clear HRk HSC
                      obtain ⟨J2, hJ2⟩ : ∃ J2, J2 = Sort.scanDown (fun x => !ltN x d[a]!) d k q := ⟨_, rfl⟩
                      have HJ2 := Lib.hid hJ2; clear hJ2
                      go_loopw [11] (fun j wr => ∃ m : Nat, m ≤ q ∧ k ≤ m + 1 ∧ j = .int .i64 m ∧ SRow w0 wr g sp d ∧ Sort.scanDown (fun x => !ltN x d[a]!) d k m = J2) (fun j _ => (intOf j).toNat)
                      case atStart => exact ⟨q, by omega, by omega, rfl, HR2.out, HJ2.out.symm⟩
                      case round =>
                        obtain ⟨m, hm1, hm2, rfl, hr, hsc⟩ := hrel
                        have HRk := Lib.hid hr; clear hr
                        have HSC := Lib.hid hsc; clear hsc HR2
                        by_cases hkm : k ≤ m
                        · have hmd : m < d.size := by rw [HD.out]; omega
                          have cm := HRk.out.cell hmd
                          have ca := HRk.out.cell (show a < d.size by rw [HD.out]; omega)
                          rw [HX0.out] at ca
                          obtain ⟨y, hy⟩ : ∃ y, d[m]! = y := ⟨_, rfl⟩
                          rw [hy] at cm
                          have HY := Lib.hid hy; clear hy hmd
                          have i1 : (0 : Int) ≤ (m : Int) := by omega
                          have i2 : (m : Int) < (n : Int) := by omega
                          have i3 : (0 : Int) ≤ (a : Int) := by omega
                          have i4 : (a : Int) < (n : Int) := by omega
                          have g1 : decide (k ≤ m) = true := by simpa using hkm
                          have CL := Lib.hid (fun w => less_any y x0 w)
                          by_cases hlt2 : y < x0
                          · have hl : decide (y < x0) = true := by simpa using hlt2
                            have HE := Lib.hid (scanDown_stop (fun x => !ltN x d[a]!) d k m (.inr (by show (!ltN d[m]! d[a]!) = false; rw [HX0.out, HY.out]; exact congrArg not hl)))
                            have hne : k ≠ m := by
                              rintro rfl
                              have := HX.out.symm.trans HY.out
                              subst this
                              first | exact hlt hlt2 | exact hlt2 hlt
                            obtain rfl : m = J2 := (HE.out).symm.trans HSC.out
                            go_wp2
                            go_quiet ((go_at_call 91; exact quiet_left (CL.out _)))
                            have HR3 := Lib.hid (HRk.out.drewN nq)
                            generalize wr.drewN nq = w3 at HR3 ⊢
                            clear HRk HSC HE HX HY CL cm ca g1 hl i1 i2 i3 i4 hlt hlt2
                            have hkm' : ¬ k > m := by omega
                            have HG := Lib.hid (HRR.out.symm.trans ((part_next HI2.out HJ2.out).trans (if_neg hkm')))
                            have g2 : decide (m < k) = false := by simpa using hkm'
                            have hsi : k < d.size := by rw [HD.out]; omega
                            have hsj : m < d.size := by rw [HD.out]; omega
                            have csi := HR3.out.cell hsi
                            have csj := HR3.out.cell hsj
                            have fsi := HR3.out.frozen k
                            have fsj := HR3.out.frozen m
                            have hSW := HR3.out.swp hsi hsj
                            obtain ⟨s1, hs1⟩ : ∃ s1, d[k]! = s1 := ⟨_, rfl⟩
                            obtain ⟨s2, hs2⟩ : ∃ s2, d[m]! = s2 := ⟨_, rfl⟩
                            rw [hs1] at csi
                            rw [hs2] at csj
                            rw [hs1, hs2] at hSW
                            have HSW := Lib.hid hSW.drew
                            clear hSW hs1 hs2 hsi hsj
                            have p1 : (0 : Int) ≤ (k : Int) := by omega
                            have p2 : (k : Int) < (n : Int) := by omega
                            have p3 : (0 : Int) ≤ (m : Int) := by omega
                            have p4 : (m : Int) < (n : Int) := by omega
                            obtain ⟨v', hv'⟩ := cell?_setCell_some (w := w3) (p := ⟨g, k, none⟩) (x := .int .u32 (s2 : Int)) (q := ⟨g, m, none⟩) (v := .int .u32 (s2 : Int)) csj
                            go_wp2
                            go_region
                            clear hv' csi csj fsi fsj
                            go_wp2
                            go_roundw
                            case rel => exact ⟨k + 1, m - 1, _, by omega, by omega, by omega, by go_num, by go_num, HSW.out, by rw [size_swp]; exact HD.out, HG.out.symm⟩
                            case measure => simp [intOf]; omega
                          · have hl : decide (y < x0) = false := by simpa using hlt2
                            have HN2 := Lib.hid ((scanDown_on (fun x => !ltN x d[a]!) d k m hkm (by omega) (by show (!ltN d[m]! d[a]!) = true; rw [HX0.out, HY.out]; exact congrArg not hl)).symm.trans HSC.out)
                            go_wp2
                            go_quiet ((go_at_call 91; exact quiet_left (CL.out _)))
                            go_wp2
                            go_roundw
                            case rel => exact ⟨m - 1, by omega, by omega, by go_num, HRk.out.drewN _, HN2.out⟩
                            case measure => simp [intOf]; omega
                        · have g1 : decide (k ≤ m) = false := by simpa using hkm
                          have HE := Lib.hid (scanDown_stop (fun x => !ltN x d[a]!) d k m (.inl hkm))
                          obtain rfl : m = J2 := (HE.out).symm.trans HSC.out
                          go_wp2
                          go_quiet (fail)
                          have HR3 := Lib.hid (HRk.out.drewN nq)
                          generalize wr.drewN nq = w3 at HR3 ⊢
                          clear HRk HSC HE g1
                          have hkm' : k > m := by omega
                          have HG := Lib.hid (HRR.out.symm.trans ((part_next HI2.out HJ2.out).trans (if_pos hkm')))
                          have g2 : decide (m < k) = true := by simpa using hkm'
                          have hsi : m < d.size := by rw [HD.out]; omega
                          have hsj : a < d.size := by rw [HD.out]; omega
                          have csi := HR3.out.cell hsi
                          have csj := HR3.out.cell hsj
                          have fsi := HR3.out.frozen m
                          have fsj := HR3.out.frozen a
                          have hSW := HR3.out.swp hsi hsj
                          obtain ⟨s1, hs1⟩ : ∃ s1, d[m]! = s1 := ⟨_, rfl⟩
                          obtain ⟨s2, hs2⟩ : ∃ s2, d[a]! = s2 := ⟨_, rfl⟩
                          rw [hs1] at csi
                          rw [hs2] at csj
                          rw [hs1, hs2] at hSW
                          have HSW := Lib.hid hSW.drew
                          clear hSW hs1 hs2 hsi hsj
                          have p1 : (0 : Int) ≤ (m : Int) := by omega
                          have p2 : (m : Int) < (n : Int) := by omega
                          have p3 : (0 : Int) ≤ (a : Int) := by omega
                          have p4 : (a : Int) < (n : Int) := by omega
                          obtain ⟨v', hv'⟩ := cell?_setCell_some (w := w3) (p := ⟨g, m, none⟩) (x := .int .u32 (s2 : Int)) (q := ⟨g, a, none⟩) (v := .int .u32 (s2 : Int)) csj
                          go_wp2
                          go_region
                          clear hv' csi csj fsi fsj
                          go_wp2
                          go_ret2
                          exact ⟨by rw [HF.out, HG.out]; rfl, by rw [HF.out, HG.out]; exact HSW.out⟩
                  · have g1 : decide (k ≤ q) = false := by simpa using hkq
                    have HE := Lib.hid (scanUp_stop (fun x => ltN x d[a]!) d q k (.inl hkq))
                    go_wp2
                    go_quiet (fail)
                    go_wp2
                    clear g1
                    obtain rfl : k = I2 := (HE.out).symm.trans HSC.out
                    have HR2 := Lib.hid (HRk.out.drewN nq)
                    generalize wr.drewN nq = w2 at HR2 ⊢
                    clear HRk HSC
                    obtain ⟨J2, hJ2⟩ : ∃ J2, J2 = Sort.scanDown (fun x => !ltN x d[a]!) d k q := ⟨_, rfl⟩
                    have HJ2 := Lib.hid hJ2; clear hJ2
                    go_loopw [11] (fun j wr => ∃ m : Nat, m ≤ q ∧ k ≤ m + 1 ∧ j = .int .i64 m ∧ SRow w0 wr g sp d ∧ Sort.scanDown (fun x => !ltN x d[a]!) d k m = J2) (fun j _ => (intOf j).toNat)
                    case atStart => exact ⟨q, by omega, by omega, rfl, HR2.out, HJ2.out.symm⟩
                    case round =>
                      obtain ⟨m, hm1, hm2, rfl, hr, hsc⟩ := hrel
                      have HRk := Lib.hid hr; clear hr
                      have HSC := Lib.hid hsc; clear hsc HR2
                      by_cases hkm : k ≤ m
                      · exfalso; omega
                      · have g1 : decide (k ≤ m) = false := by simpa using hkm
                        have HE := Lib.hid (scanDown_stop (fun x => !ltN x d[a]!) d k m (.inl hkm))
                        obtain rfl : m = J2 := (HE.out).symm.trans HSC.out
                        go_wp2
                        go_quiet (fail)
                        have HR3 := Lib.hid (HRk.out.drewN nq)
                        generalize wr.drewN nq = w3 at HR3 ⊢
                        clear HRk HSC HE g1
                        have hkm' : k > m := by omega
                        have HG := Lib.hid (HRR.out.symm.trans ((part_next HI2.out HJ2.out).trans (if_pos hkm')))
                        have g2 : decide (m < k) = true := by simpa using hkm'
                        have hsi : m < d.size := by rw [HD.out]; omega
                        have hsj : a < d.size := by rw [HD.out]; omega
                        have csi := HR3.out.cell hsi
                        have csj := HR3.out.cell hsj
                        have fsi := HR3.out.frozen m
                        have fsj := HR3.out.frozen a
                        have hSW := HR3.out.swp hsi hsj
                        obtain ⟨s1, hs1⟩ : ∃ s1, d[m]! = s1 := ⟨_, rfl⟩
                        obtain ⟨s2, hs2⟩ : ∃ s2, d[a]! = s2 := ⟨_, rfl⟩
                        rw [hs1] at csi
                        rw [hs2] at csj
                        rw [hs1, hs2] at hSW
                        have HSW := Lib.hid hSW.drew
                        clear hSW hs1 hs2 hsi hsj
                        have p1 : (0 : Int) ≤ (m : Int) := by omega
                        have p2 : (m : Int) < (n : Int) := by omega
                        have p3 : (0 : Int) ≤ (a : Int) := by omega
                        have p4 : (a : Int) < (n : Int) := by omega
                        obtain ⟨v', hv'⟩ := cell?_setCell_some (w := w3) (p := ⟨g, m, none⟩) (x := .int .u32 (s2 : Int)) (q := ⟨g, a, none⟩) (v := .int .u32 (s2 : Int)) csj
                        go_wp2
                        go_region
                        clear hv' csi csj fsi fsj
                        go_wp2
                        go_ret2
                        exact ⟨by rw [HF.out, HG.out]; rfl, by rw [HF.out, HG.out]; exact HSW.out⟩
            · have hl : decide (y < x0) = false := by simpa using hlt2
              have HN2 := Lib.hid ((scanDown_on (fun x => !ltN x d1[a]!) d1 k m hkm (by omega) (by show (!ltN d1[m]! d1[a]!) = true; rw [HX0.out, HY.out]; exact congrArg not hl)).symm.trans HSC.out)
              go_wp2
              go_quiet ((go_at_call 91; exact quiet_left (CL.out _)))
              go_wp2
              go_roundw
              case rel => exact ⟨m - 1, by omega, by omega, by go_num, HRk.out.drewN _, HN2.out⟩
              case measure => simp [intOf]; omega
          · have g1 : decide (k ≤ m) = false := by simpa using hkm
            have HE := Lib.hid (scanDown_stop (fun x => !ltN x d1[a]!) d1 k m (.inl hkm))
            obtain rfl : m = J2 := (HE.out).symm.trans HSC.out
            go_wp2
            go_quiet (fail)
            have HR3 := Lib.hid (HRk.out.drewN nq)
            generalize wr.drewN nq = w3 at HR3 ⊢
            clear HRk HSC HE g1
            have hkm' : k > m := by omega
            have HF := Lib.hid (HT.out.trans ((part_first HD1.out (HQ0.out ▸ HI2.out) (HQ0.out ▸ HJ2.out)).trans (if_pos hkm')))
            have g2 : decide (m < k) = true := by simpa using hkm'
            have hsi : m < d1.size := by rw [HD.out]; omega
            have hsj : a < d1.size := by rw [HD.out]; omega
            have csi := HR3.out.cell hsi
            have csj := HR3.out.cell hsj
            have fsi := HR3.out.frozen m
            have fsj := HR3.out.frozen a
            have hSW := HR3.out.swp hsi hsj
            obtain ⟨s1, hs1⟩ : ∃ s1, d1[m]! = s1 := ⟨_, rfl⟩
            obtain ⟨s2, hs2⟩ : ∃ s2, d1[a]! = s2 := ⟨_, rfl⟩
            rw [hs1] at csi
            rw [hs2] at csj
            rw [hs1, hs2] at hSW
            have HSW := Lib.hid hSW.drew
            clear hSW hs1 hs2 hsi hsj
            have p1 : (0 : Int) ≤ (m : Int) := by omega
            have p2 : (m : Int) < (n : Int) := by omega
            have p3 : (0 : Int) ≤ (a : Int) := by omega
            have p4 : (a : Int) < (n : Int) := by omega
            obtain ⟨v', hv'⟩ := cell?_setCell_some (w := w3) (p := ⟨g, m, none⟩) (x := .int .u32 (s2 : Int)) (q := ⟨g, a, none⟩) (v := .int .u32 (s2 : Int)) csj
            go_wp2
            go_region
            clear hv' csi csj fsi fsj
            go_wp2
            go_ret2
            exact ⟨by rw [HF.out]; rfl, by rw [HF.out]; exact HSW.out⟩
    · have g1 : decide (k ≤ q0) = false := by simpa using hkq
      have HE := Lib.hid (scanUp_stop (fun x => ltN x d1[a]!) d1 q0 k (.inl hkq))
      go_wp2
      go_quiet (fail)
      go_wp2
      clear g1
      obtain rfl : k = I2 := (HE.out).symm.trans HSC.out
      have HR2 := Lib.hid (HRk.out.drewN nq)
      generalize wr.drewN nq = w2 at HR2 ⊢
      clear HRk HSC
      obtain ⟨J2, hJ2⟩ : ∃ J2, J2 = Sort.scanDown (fun x => !ltN x d1[a]!) d1 k q0 := ⟨_, rfl⟩
      have HJ2 := Lib.hid hJ2; clear hJ2
      go_loopw [11] (fun j wr => ∃ m : Nat, m ≤ q0 ∧ k ≤ m + 1 ∧ j = .int .i64 m ∧ SRow w0 wr g sp d1 ∧ Sort.scanDown (fun x => !ltN x d1[a]!) d1 k m = J2) (fun j _ => (intOf j).toNat)
      case atStart => exact ⟨q0, by omega, by omega, rfl, HR2.out, HJ2.out.symm⟩
      case round =>
        obtain ⟨m, hm1, hm2, rfl, hr, hsc⟩ := hrel
        have HRk := Lib.hid hr; clear hr
        have HSC := Lib.hid hsc; clear hsc HR2
        by_cases hkm : k ≤ m
        · exfalso; omega
        · have g1 : decide (k ≤ m) = false := by simpa using hkm
          have HE := Lib.hid (scanDown_stop (fun x => !ltN x d1[a]!) d1 k m (.inl hkm))
          obtain rfl : m = J2 := (HE.out).symm.trans HSC.out
          go_wp2
          go_quiet (fail)
          have HR3 := Lib.hid (HRk.out.drewN nq)
          generalize wr.drewN nq = w3 at HR3 ⊢
          clear HRk HSC HE g1
          have hkm' : k > m := by omega
          have HF := Lib.hid (HT.out.trans ((part_first HD1.out (HQ0.out ▸ HI2.out) (HQ0.out ▸ HJ2.out)).trans (if_pos hkm')))
          have g2 : decide (m < k) = true := by simpa using hkm'
          have hsi : m < d1.size := by rw [HD.out]; omega
          have hsj : a < d1.size := by rw [HD.out]; omega
          have csi := HR3.out.cell hsi
          have csj := HR3.out.cell hsj
          have fsi := HR3.out.frozen m
          have fsj := HR3.out.frozen a
          have hSW := HR3.out.swp hsi hsj
          obtain ⟨s1, hs1⟩ : ∃ s1, d1[m]! = s1 := ⟨_, rfl⟩
          obtain ⟨s2, hs2⟩ : ∃ s2, d1[a]! = s2 := ⟨_, rfl⟩
          rw [hs1] at csi
          rw [hs2] at csj
          rw [hs1, hs2] at hSW
          have HSW := Lib.hid hSW.drew
          clear hSW hs1 hs2 hsi hsj
          have p1 : (0 : Int) ≤ (m : Int) := by omega
          have p2 : (m : Int) < (n : Int) := by omega
          have p3 : (0 : Int) ≤ (a : Int) := by omega
          have p4 : (a : Int) < (n : Int) := by omega
          obtain ⟨v', hv'⟩ := cell?_setCell_some (w := w3) (p := ⟨g, m, none⟩) (x := .int .u32 (s2 : Int)) (q := ⟨g, a, none⟩) (v := .int .u32 (s2 : Int)) csj
          go_wp2
          go_region
          clear hv' csi csj fsi fsj
          go_wp2
          go_ret2
          exact ⟨by rw [HF.out]; rfl, by rw [HF.out]; exact HSW.out⟩
end Go.Proofs.YtomhflaofipccaaGreat
