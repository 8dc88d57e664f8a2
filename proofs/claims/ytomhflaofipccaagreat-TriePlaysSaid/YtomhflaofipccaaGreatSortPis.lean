/-
  The library's sort: partialInsertionSortOrdered.
-/
import Derived.Test.YtomhflaofipccaaGreatSortPartEq
namespace Go.Proofs.YtomhflaofipccaaGreat
open Go Go.RowKit Go.Maps
set_option linter.unusedVariables false

theorem ltN_true {x y : Nat} (h : x < y) : ltN x y = true := decide_eq_true h
theorem ltN_false {x y : Nat} (h : ¬ x < y) : ltN x y = false := decide_eq_false h
theorem shiftDown_on (d : Array Nat) (m : Nat) (h : 1 ≤ m) (hl : d[m]! < d[m - 1]!) : Sort.shiftDown ltN m d = Sort.shiftDown ltN (m - 1) (Sort.swp d m (m - 1)) := by
  obtain ⟨k, rfl⟩ : ∃ k, m = k + 1 := ⟨m - 1, by omega⟩
  have hl' : d[k + 1]! < d[k]! := hl
  rw [Sort.shiftDown, ltN_true hl']
  rfl
theorem shiftDown_stop (d : Array Nat) (m : Nat) (h : m < 1 ∨ ¬ d[m]! < d[m - 1]!) : Sort.shiftDown ltN m d = d := by
  rcases m with _ | k
  · rfl
  · rcases h with h | h
    · omega
    · have h' : ¬ d[k + 1]! < d[k]! := h
      rw [Sort.shiftDown, ltN_false h']
      rfl
theorem shiftUp_on (d : Array Nat) (m b : Nat) (h : m < b) (hl : d[m]! < d[m - 1]!) : Sort.shiftUp ltN b m d = Sort.shiftUp ltN b (m + 1) (Sort.swp d m (m - 1)) := by
  rw [Sort.shiftUp, if_pos h, ltN_true hl]
  rfl
theorem shiftUp_stop (d : Array Nat) (m b : Nat) (h : ¬ m < b ∨ ¬ d[m]! < d[m - 1]!) : Sort.shiftUp ltN b m d = d := by
  rw [Sort.shiftUp]
  split
  · rcases h with h | h
    · omega
    · rw [ltN_false h]; rfl
  · rfl
theorem scanSorted_on (d : Array Nat) (k b : Nat) (h : k < b) (hl : ¬ d[k]! < d[k - 1]!) : Sort.scanSorted ltN d b k = Sort.scanSorted ltN d b (k + 1) := by
  rw [Sort.scanSorted, if_pos]
  rw [ltN_false hl]; simpa using h
theorem scanSorted_stop (d : Array Nat) (k b : Nat) (h : ¬ k < b ∨ d[k]! < d[k - 1]!) : Sort.scanSorted ltN d b k = k := by
  rw [Sort.scanSorted, if_neg]
  rcases h with h | h
  · rw [Bool.and_eq_true]; rintro ⟨h1, _⟩; exact h (of_decide_eq_true h1)
  · rw [ltN_true h]; simp
theorem pis_done {d : Array Nat} {a b s i k : Nat} (hk : k = Sort.scanSorted ltN d b i) (h : k = b) : Sort.partialIns ltN a b (s + 1) i d = (d, true) := by
  subst hk; rw [Sort.partialIns]; exact if_pos h
theorem pis_short {d : Array Nat} {a b s i k : Nat} (hk : k = Sort.scanSorted ltN d b i) (h : k ≠ b) (h2 : b - a < 50) : Sort.partialIns ltN a b (s + 1) i d = (d, false) := by
  subst hk; rw [Sort.partialIns]; exact (if_neg h).trans (if_pos h2)
theorem pis_go {d X2 X3 : Array Nat} {a b s i k : Nat} (hk : k = Sort.scanSorted ltN d b i) (h : k ≠ b) (h2 : ¬ b - a < 50) (hX2 : X2 = if k - a ≥ 2 then Sort.shiftDown ltN (k - 1) (Sort.swp d k (k - 1)) else Sort.swp d k (k - 1)) (hX3 : X3 = if b - k ≥ 2 then Sort.shiftUp ltN b (k + 1) X2 else X2) :
    Sort.partialIns ltN a b (s + 1) i d = Sort.partialIns ltN a b s k X3 := by
  subst hk; subst hX3; subst hX2; rw [Sort.partialIns]; exact (if_neg h).trans (if_neg h2)
theorem size_shiftDown : ∀ (m : Nat) (d : Array Nat), (Sort.shiftDown ltN m d).size = d.size
  | 0, d => rfl
  | m + 1, d => by
    rw [Sort.shiftDown]
    split
    · rfl
    · rw [size_shiftDown m, size_swp]
theorem size_shiftUp (b : Nat) : ∀ (t m : Nat) (d : Array Nat), b - m ≤ t → (Sort.shiftUp ltN b m d).size = d.size
  | 0, m, d, h => by rw [Sort.shiftUp, if_neg (by omega)]
  | t + 1, m, d, h => by
    rw [Sort.shiftUp]
    split
    · split
      · rfl
      · rw [size_shiftUp b t (m + 1) _ (by omega), size_swp]
    · rfl
def PisPost (w0 : World) (g : Nat) (sp : List Value) (r : Array Nat × Bool) (e : Ending) (w' : World) : Prop := e = .returned (.bool r.2) ∧ SRow w0 w' g sp r.1
set_option maxRecDepth 100000 in
set_option maxHeartbeats 8000000 in
theorem partialIns_any (w0 w : World) (g : Nat) (sp : List Value) (d : Array Nat) (cap a b : Nat) (hab : a < b) (hb : b ≤ d.size) (hs : d.size ≤ cap) (hc : d.size ≤ 1048576) (h : SRow w0 w g sp d) :
    Calls Tryz.prog 90 #[.slice (some ⟨g, 0, none⟩) d.size cap, .int .i64 (a : Int), .int .i64 (b : Int)] w (PisPost w0 g sp (Sort.partialInsertionSort ltN d a b)) := by
  obtain ⟨R, hR⟩ : ∃ R, R = Sort.partialInsertionSort ltN d a b := ⟨_, rfl⟩
  rw [← hR]
  obtain ⟨n, hn⟩ : ∃ n, n = d.size := ⟨_, rfl⟩
  rw [← hn] at hb hs hc ⊢
  have HRR := Lib.hid (show Sort.partialIns ltN a b (5 - 0) (a + 1) d = R from hR.symm); clear hR
  have HD := Lib.hid hn.symm; clear hn
  have H0 := Lib.hid h; clear h
  go_enter Tryz.func90, Tryz.ntmps90
  go_wp2
  go_loopw [7, 8] (fun i j wr => ∃ (c k0 : Nat) (d : Array Nat), c ≤ 5 ∧ a + 1 ≤ k0 ∧ k0 ≤ b ∧ i = .int .i64 k0 ∧ j = .int .i64 c ∧ SRow w0 wr g sp d ∧ d.size = n ∧ Sort.partialIns ltN a b (5 - c) k0 d = R) (fun _ j _ => 5 - (intOf j).toNat)
  case atStart => exact ⟨0, a + 1, d, by omega, by omega, by omega, by go_num, rfl, H0.out, HD.out, HRR.out⟩
  case round =>
    clear H0 HD HRR
    obtain ⟨c, k0, d, hc5, hk01, hk02, rfl, rfl, hr, hdn, hT⟩ := hrel
    have HRr := Lib.hid hr; clear hr
    have HD := Lib.hid hdn; clear hdn
    have HRR := Lib.hid hT; clear hT
    by_cases hcc : c < 5
    · have g5 : decide (c < 5) = true := by simpa using hcc
      obtain ⟨s, hs5⟩ : ∃ s, 5 - c = s + 1 ∧ s = 5 - (c + 1) := ⟨5 - (c + 1), by omega, rfl⟩
      have HS5 := Lib.hid hs5; clear hs5
      go_wp2
      obtain ⟨I2, hI2⟩ : ∃ I2, I2 = Sort.scanSorted ltN d b k0 := ⟨_, rfl⟩
      have HI2 := Lib.hid hI2; clear hI2
      go_loopw [7] (fun i wr => ∃ k : Nat, a + 1 ≤ k ∧ k ≤ b ∧ i = .int .i64 k ∧ SRow w0 wr g sp d ∧ Sort.scanSorted ltN d b k = I2) (fun i _ => b - (intOf i).toNat)
      case atStart => exact ⟨k0, by omega, by omega, rfl, HRr.out, HI2.out.symm⟩
      case round =>
        clear HRr
        obtain ⟨k, hk1, hk2, rfl, hr, hsc⟩ := hrel
        have HRk := Lib.hid hr; clear hr
        have HSC := Lib.hid hsc; clear hsc
        by_cases hkb : k < b
        · have g1 : decide (k < b) = true := by simpa using hkb
          have hd1 : k < d.size := by rw [HD.out]; omega
          have hd0 : k - 1 < d.size := by rw [HD.out]; omega
          have c1 := HRk.out.cell hd1
          have c0 := HRk.out.cell hd0
          have f1 := HRk.out.frozen k
          have f0 := HRk.out.frozen (k - 1)
          have i1 : (0 : Int) ≤ (k : Int) - 1 := by omega
          have i2 : (k : Int) < (n : Int) := by omega
          have i3 : (k : Int) - 1 < (n : Int) := by omega
          obtain ⟨x, hx⟩ : ∃ x, d[k]! = x := ⟨_, rfl⟩
          obtain ⟨y, hy⟩ : ∃ y, d[k - 1]! = y := ⟨_, rfl⟩
          rw [hx] at c1
          rw [hy] at c0
          have HX := Lib.hid hx; clear hx
          have HY := Lib.hid hy; clear hy
          have CL := Lib.hid (fun w => less_any x y w)
          have e1 : IntKind.i64.wrap ((k : Int) - 1) = (k : Int) - 1 := IntWalk.i64_in _ (by omega)
          have e2 : ((k : Int) - 1).toNat = k - 1 := by omega
          by_cases hlt : x < y
          · have hl : decide (x < y) = true := by simpa using hlt
            have HE := Lib.hid (scanSorted_stop d k b (.inr (by rw [HX.out, HY.out]; exact hlt)))
            obtain rfl : k = I2 := (HE.out).symm.trans HSC.out
            have hne : k ≠ b := by omega
            have g2 : ((k : Int) == (b : Int)) = false := by simp; omega
            have g2' : (k == b) = false := by simp; omega
            by_cases hsh : b - a < 50
            · have g3 : decide ((b : Int) - (a : Int) < 50) = true := by simp; omega
              have HG := Lib.hid ((by rw [HS5.out.1]; exact pis_short HI2.out hne hsh : Sort.partialIns ltN a b (5 - c) k0 d = (d, false)).symm.trans HRR.out)
              go_wp2
              go_quiet ((go_at_call 91; exact quiet_left (CL.out _)))
              clear e1 e2
              go_wp2
              go_ret
              exact ⟨by rw [← HG.out]; rfl, by rw [← HG.out]; exact HRk.out.drewN _⟩
            · have g3 : decide ((b : Int) - (a : Int) < 50) = false := by simp; omega
              obtain ⟨X2, hX2⟩ : ∃ X2, X2 = if k - a ≥ 2 then Sort.shiftDown ltN (k - 1) (Sort.swp d k (k - 1)) else Sort.swp d k (k - 1) := ⟨_, rfl⟩
              obtain ⟨X3, hX3⟩ : ∃ X3, X3 = if b - k ≥ 2 then Sort.shiftUp ltN b (k + 1) X2 else X2 := ⟨_, rfl⟩
              have HG := Lib.hid ((by rw [HS5.out.1]; exact pis_go HI2.out hne hsh hX2 hX3 : Sort.partialIns ltN a b (5 - c) k0 d = Sort.partialIns ltN a b s k X3).symm.trans HRR.out)
              have hs2 : X2.size = n := by rw [hX2]; split <;> simp only [size_shiftDown, size_swp] <;> exact HD.out
              have hs3 : X3.size = n := by rw [hX3]; split <;> first | exact (size_shiftUp b _ _ _ (Nat.le_refl _)).trans hs2 | exact hs2
              have HS2 := Lib.hid hs2; clear hs2
              have HS3 := Lib.hid hs3; clear hs3
              have HX2 := Lib.hid hX2; clear hX2
              have HX3 := Lib.hid hX3; clear hX3
              go_wp2
              go_quiet ((go_at_call 91; exact quiet_left (CL.out _)))
              clear e1 e2
              have e1 : IntKind.i64.wrap ((k : Int) - 1) = (k : Int) - 1 := IntWalk.i64_in _ (by omega)
              have e2 : ((k : Int) - 1).toNat = k - 1 := by omega
              have HR2 := Lib.hid (HRk.out.drewN nq)
              have dd1 : (wr.drewN nq).cell? ⟨g, k, none⟩ = some (.int .u32 (x : Int)) := c1
              have dd0 : (wr.drewN nq).cell? ⟨g, k - 1, none⟩ = some (.int .u32 (y : Int)) := c0
              have h1 : (wr.drewN nq).frozen? ⟨g, k, none⟩ = false := f1
              have h0 : (wr.drewN nq).frozen? ⟨g, k - 1, none⟩ = false := f0
              clear c1 c0 f1 f0
              generalize wr.drewN nq = wq at HR2 dd1 dd0 h1 h0 ⊢
              go_wp2
              go_region
              clear e1 e2
              have hsw := HR2.out.swp hd1 hd0
              rw [HX.out, HY.out] at hsw
              have HSW := Lib.hid hsw.drew
              clear hsw HR2 dd1 dd0 h1 h0 HX HY i1 i2 i3 CL
              generalize World.drew _ = wz at HSW ⊢
              by_cases hka : k - a ≥ 2
              · have g7 : decide ((2 : Int) ≤ (k : Int) - (a : Int)) = true := by simp; omega
                have HTs := Lib.hid (HX2.out.trans (if_pos hka))
                have HDs := Lib.hid (show (Sort.swp d k (k - 1)).size = n by rw [size_swp]; exact HD.out)
                go_wp2
                go_loopw [9] (fun i wr => ∃ (m : Nat) (d : Array Nat), m ≤ k - 1 ∧ i = .int .i64 m ∧ SRow w0 wr g sp d ∧ d.size = n ∧ Sort.shiftDown ltN m d = X2) (fun i _ => (intOf i).toNat)
                case atStart => exact ⟨k - 1, _, by omega, by go_num, HSW.out, HDs.out, HTs.out.symm⟩
                case round =>
                  clear HSW HDs HTs
                  obtain ⟨m, d, hm2, rfl, hr, hdn, hT⟩ := hrel
                  have HRk := Lib.hid hr; clear hr
                  have HD := Lib.hid hdn; clear hdn
                  have HSC := Lib.hid hT; clear hT
                  by_cases hmb : 1 ≤ m
                  · have g1 : decide (1 ≤ m) = true := by simpa using hmb
                    have hd1 : m < d.size := by rw [HD.out]; omega
                    have hd0 : m - 1 < d.size := by rw [HD.out]; omega
                    have c1 := HRk.out.cell hd1
                    have c0 := HRk.out.cell hd0
                    have f1 := HRk.out.frozen m
                    have f0 := HRk.out.frozen (m - 1)
                    have i1 : (0 : Int) ≤ (m : Int) - 1 := by omega
                    have i2 : (m : Int) < (n : Int) := by omega
                    have i3 : (m : Int) - 1 < (n : Int) := by omega
                    obtain ⟨x, hx⟩ : ∃ x, d[m]! = x := ⟨_, rfl⟩
                    obtain ⟨y, hy⟩ : ∃ y, d[m - 1]! = y := ⟨_, rfl⟩
                    rw [hx] at c1
                    rw [hy] at c0
                    have HX := Lib.hid hx; clear hx
                    have HY := Lib.hid hy; clear hy
                    have CL := Lib.hid (fun w => less_any x y w)
                    have e1 : IntKind.i64.wrap ((m : Int) - 1) = (m : Int) - 1 := IntWalk.i64_in _ (by omega)
                    have e2 : ((m : Int) - 1).toNat = m - 1 := by omega
                    by_cases hlt : x < y
                    · have hl : decide (x < y) = true := by simpa using hlt
                      have HN2 := Lib.hid ((shiftDown_on d m (by omega) (by rw [HX.out, HY.out]; exact hlt)).symm.trans HSC.out)
                      go_wp2
                      go_quiet ((go_at_call 91; exact quiet_left (CL.out _)))
                      clear e1 e2
                      go_wp2
                      have HR2 := Lib.hid (HRk.out.drewN nq)
                      have dd1 : (wr.drewN nq).cell? ⟨g, m, none⟩ = some (.int .u32 (x : Int)) := c1
                      have dd0 : (wr.drewN nq).cell? ⟨g, m - 1, none⟩ = some (.int .u32 (y : Int)) := c0
                      have h1 : (wr.drewN nq).frozen? ⟨g, m, none⟩ = false := f1
                      have h0 : (wr.drewN nq).frozen? ⟨g, m - 1, none⟩ = false := f0
                      clear c1 c0 f1 f0
                      generalize wr.drewN nq = wq at HR2 dd1 dd0 h1 h0 ⊢
                      go_region
                      have hsw := HR2.out.swp hd1 hd0
                      rw [HX.out, HY.out] at hsw
                      have HSW := Lib.hid hsw.drew
                      clear hsw HR2 dd1 dd0 h1 h0 HX HY i1 i2 i3 CL
                      go_wp2
                      go_roundw
                      case rel => exact ⟨m - 1, _, by omega, by go_num, HSW.out, by rw [size_swp]; exact HD.out, HN2.out⟩
                      case measure => simp [intOf]; omega
                    · have hl : decide (x < y) = false := by simpa using hlt
                      have HE := Lib.hid ((shiftDown_stop d m (.inr (by rw [HX.out, HY.out]; exact hlt))).symm.trans HSC.out)
                      go_wp2
                      go_quiet ((go_at_call 91; exact quiet_left (CL.out _)))
                      clear e1 e2
                      have HRe := Lib.hid (show SRow w0 (wr.drewN nq) g sp X2 from HE.out ▸ HRk.out.drewN nq)
                      generalize wr.drewN nq = we at HRe ⊢
                      clear HSC HX HY CL c1 c0 f1 f0 i1 i2 i3 hd1 hd0 HE HRk HD
                      have HRe2 := HRe; clear HRe
                      by_cases hbk : b - k ≥ 2
                      · have g6 : decide ((2 : Int) ≤ (b : Int) - (k : Int)) = true := by simp; omega
                        have HTs := Lib.hid (HX3.out.trans (if_pos hbk))
                        have HDs := HS2
                        go_wp2
                        go_loopw [10] (fun i wr => ∃ (m : Nat) (d : Array Nat), k + 1 ≤ m ∧ m ≤ b ∧ i = .int .i64 m ∧ SRow w0 wr g sp d ∧ d.size = n ∧ Sort.shiftUp ltN b m d = X3) (fun i _ => b - (intOf i).toNat)
                        case atStart => exact ⟨k + 1, _, by omega, by omega, by go_num, HRe2.out, HDs.out, HTs.out.symm⟩
                        case round =>
                          clear HRe2 HDs HTs
                          obtain ⟨m, d, hm1, hm2, rfl, hr, hdn, hT⟩ := hrel
                          have HRk := Lib.hid hr; clear hr
                          have HD := Lib.hid hdn; clear hdn
                          have HSC := Lib.hid hT; clear hT
                          by_cases hmb : m < b
                          · have g1 : decide (m < b) = true := by simpa using hmb
                            have hd1 : m < d.size := by rw [HD.out]; omega
                            have hd0 : m - 1 < d.size := by rw [HD.out]; omega
                            have c1 := HRk.out.cell hd1
                            have c0 := HRk.out.cell hd0
                            have f1 := HRk.out.frozen m
                            have f0 := HRk.out.frozen (m - 1)
                            have i1 : (0 : Int) ≤ (m : Int) - 1 := by omega
                            have i2 : (m : Int) < (n : Int) := by omega
                            have i3 : (m : Int) - 1 < (n : Int) := by omega
                            obtain ⟨x, hx⟩ : ∃ x, d[m]! = x := ⟨_, rfl⟩
                            obtain ⟨y, hy⟩ : ∃ y, d[m - 1]! = y := ⟨_, rfl⟩
                            rw [hx] at c1
                            rw [hy] at c0
                            have HX := Lib.hid hx; clear hx
                            have HY := Lib.hid hy; clear hy
                            have CL := Lib.hid (fun w => less_any x y w)
                            have e1 : IntKind.i64.wrap ((m : Int) - 1) = (m : Int) - 1 := IntWalk.i64_in _ (by omega)
                            have e2 : ((m : Int) - 1).toNat = m - 1 := by omega
                            by_cases hlt : x < y
                            · have hl : decide (x < y) = true := by simpa using hlt
                              have HN2 := Lib.hid ((shiftUp_on d m b (by omega) (by rw [HX.out, HY.out]; exact hlt)).symm.trans HSC.out)
                              go_wp2
                              go_quiet ((go_at_call 91; exact quiet_left (CL.out _)))
                              clear e1 e2
                              go_wp2
                              have HR2 := Lib.hid (HRk.out.drewN nq)
                              have dd1 : (wr.drewN nq).cell? ⟨g, m, none⟩ = some (.int .u32 (x : Int)) := c1
                              have dd0 : (wr.drewN nq).cell? ⟨g, m - 1, none⟩ = some (.int .u32 (y : Int)) := c0
                              have h1 : (wr.drewN nq).frozen? ⟨g, m, none⟩ = false := f1
                              have h0 : (wr.drewN nq).frozen? ⟨g, m - 1, none⟩ = false := f0
                              clear c1 c0 f1 f0
                              generalize wr.drewN nq = wq at HR2 dd1 dd0 h1 h0 ⊢
                              go_region
                              have hsw := HR2.out.swp hd1 hd0
                              rw [HX.out, HY.out] at hsw
                              have HSW := Lib.hid hsw.drew
                              clear hsw HR2 dd1 dd0 h1 h0 HX HY i1 i2 i3 CL
                              go_wp2
                              go_roundw
                              case rel => exact ⟨m + 1, _, by omega, by omega, by go_num, HSW.out, by rw [size_swp]; exact HD.out, HN2.out⟩
                              case measure => simp [intOf]; omega
                            · have hl : decide (x < y) = false := by simpa using hlt
                              have HE := Lib.hid ((shiftUp_stop d m b (.inr (by rw [HX.out, HY.out]; exact hlt))).symm.trans HSC.out)
                              go_wp2
                              go_quiet ((go_at_call 91; exact quiet_left (CL.out _)))
                              clear e1 e2
                              have HRe := Lib.hid (show SRow w0 (wr.drewN nq) g sp X3 from HE.out ▸ HRk.out.drewN nq)
                              generalize wr.drewN nq = we at HRe ⊢
                              clear HSC HX HY CL c1 c0 f1 f0 i1 i2 i3 hd1 hd0 HE HRk HD
                              go_wp2
                              go_roundw
                              case rel => exact ⟨c + 1, k, X3, by omega, by omega, by omega, rfl, by go_num, HRe.out, HS3.out, by rw [← HS5.out.2]; exact HG.out⟩
                              case measure => simp [intOf]; omega
                          · have g1 : decide (m < b) = false := by simpa using hmb
                            have HE := Lib.hid ((shiftUp_stop d m b (.inl (by omega))).symm.trans HSC.out)
                            have HRe := Lib.hid (show SRow w0 wr g sp X3 from HE.out ▸ HRk.out)
                            generalize wr = we at HRe ⊢
                            clear HSC HE HD
                            go_wp2
                            go_roundw
                            case rel => exact ⟨c + 1, k, X3, by omega, by omega, by omega, rfl, by go_num, HRe.out, HS3.out, by rw [← HS5.out.2]; exact HG.out⟩
                            case measure => simp [intOf]; omega
                      · have g6 : decide ((2 : Int) ≤ (b : Int) - (k : Int)) = false := by simp; omega
                        obtain rfl : X3 = X2 := HX3.out.trans (if_neg hbk)
                        have HRe := HRe2
                        go_wp2
                        go_roundw
                        case rel => exact ⟨c + 1, k, X3, by omega, by omega, by omega, rfl, by go_num, HRe.out, HS3.out, by rw [← HS5.out.2]; exact HG.out⟩
                        case measure => simp [intOf]; omega
                  · have g1 : decide (1 ≤ m) = false := by simpa using hmb
                    have HE := Lib.hid ((shiftDown_stop d m (.inl (by omega))).symm.trans HSC.out)
                    have HRe := Lib.hid (show SRow w0 wr g sp X2 from HE.out ▸ HRk.out)
                    generalize wr = we at HRe ⊢
                    clear HSC HE HD
                    have HRe2 := HRe; clear HRe
                    by_cases hbk : b - k ≥ 2
                    · have g6 : decide ((2 : Int) ≤ (b : Int) - (k : Int)) = true := by simp; omega
                      have HTs := Lib.hid (HX3.out.trans (if_pos hbk))
                      have HDs := HS2
                      go_wp2
                      go_loopw [10] (fun i wr => ∃ (m : Nat) (d : Array Nat), k + 1 ≤ m ∧ m ≤ b ∧ i = .int .i64 m ∧ SRow w0 wr g sp d ∧ d.size = n ∧ Sort.shiftUp ltN b m d = X3) (fun i _ => b - (intOf i).toNat)
                      case atStart => exact ⟨k + 1, _, by omega, by omega, by go_num, HRe2.out, HDs.out, HTs.out.symm⟩
                      case round =>
                        clear HRe2 HDs HTs
                        obtain ⟨m, d, hm1, hm2, rfl, hr, hdn, hT⟩ := hrel
                        have HRk := Lib.hid hr; clear hr
                        have HD := Lib.hid hdn; clear hdn
                        have HSC := Lib.hid hT; clear hT
                        by_cases hmb : m < b
                        · have g1 : decide (m < b) = true := by simpa using hmb
                          have hd1 : m < d.size := by rw [HD.out]; omega
                          have hd0 : m - 1 < d.size := by rw [HD.out]; omega
                          have c1 := HRk.out.cell hd1
                          have c0 := HRk.out.cell hd0
                          have f1 := HRk.out.frozen m
                          have f0 := HRk.out.frozen (m - 1)
                          have i1 : (0 : Int) ≤ (m : Int) - 1 := by omega
                          have i2 : (m : Int) < (n : Int) := by omega
                          have i3 : (m : Int) - 1 < (n : Int) := by omega
                          obtain ⟨x, hx⟩ : ∃ x, d[m]! = x := ⟨_, rfl⟩
                          obtain ⟨y, hy⟩ : ∃ y, d[m - 1]! = y := ⟨_, rfl⟩
                          rw [hx] at c1
                          rw [hy] at c0
                          have HX := Lib.hid hx; clear hx
                          have HY := Lib.hid hy; clear hy
                          have CL := Lib.hid (fun w => less_any x y w)
                          have e1 : IntKind.i64.wrap ((m : Int) - 1) = (m : Int) - 1 := IntWalk.i64_in _ (by omega)
                          have e2 : ((m : Int) - 1).toNat = m - 1 := by omega
                          by_cases hlt : x < y
                          · have hl : decide (x < y) = true := by simpa using hlt
                            have HN2 := Lib.hid ((shiftUp_on d m b (by omega) (by rw [HX.out, HY.out]; exact hlt)).symm.trans HSC.out)
                            go_wp2
                            go_quiet ((go_at_call 91; exact quiet_left (CL.out _)))
                            clear e1 e2
                            go_wp2
                            have HR2 := Lib.hid (HRk.out.drewN nq)
                            have dd1 : (wr.drewN nq).cell? ⟨g, m, none⟩ = some (.int .u32 (x : Int)) := c1
                            have dd0 : (wr.drewN nq).cell? ⟨g, m - 1, none⟩ = some (.int .u32 (y : Int)) := c0
                            have h1 : (wr.drewN nq).frozen? ⟨g, m, none⟩ = false := f1
                            have h0 : (wr.drewN nq).frozen? ⟨g, m - 1, none⟩ = false := f0
                            clear c1 c0 f1 f0
                            generalize wr.drewN nq = wq at HR2 dd1 dd0 h1 h0 ⊢
                            go_region
                            have hsw := HR2.out.swp hd1 hd0
                            rw [HX.out, HY.out] at hsw
                            have HSW := Lib.hid hsw.drew
                            clear hsw HR2 dd1 dd0 h1 h0 HX HY i1 i2 i3 CL
                            go_wp2
                            go_roundw
                            case rel => exact ⟨m + 1, _, by omega, by omega, by go_num, HSW.out, by rw [size_swp]; exact HD.out, HN2.out⟩
                            case measure => simp [intOf]; omega
                          · have hl : decide (x < y) = false := by simpa using hlt
                            have HE := Lib.hid ((shiftUp_stop d m b (.inr (by rw [HX.out, HY.out]; exact hlt))).symm.trans HSC.out)
                            go_wp2
                            go_quiet ((go_at_call 91; exact quiet_left (CL.out _)))
                            clear e1 e2
                            have HRe := Lib.hid (show SRow w0 (wr.drewN nq) g sp X3 from HE.out ▸ HRk.out.drewN nq)
                            generalize wr.drewN nq = we at HRe ⊢
                            clear HSC HX HY CL c1 c0 f1 f0 i1 i2 i3 hd1 hd0 HE HRk HD
                            go_wp2
                            go_roundw
                            case rel => exact ⟨c + 1, k, X3, by omega, by omega, by omega, rfl, by go_num, HRe.out, HS3.out, by rw [← HS5.out.2]; exact HG.out⟩
                            case measure => simp [intOf]; omega
                        · have g1 : decide (m < b) = false := by simpa using hmb
                          have HE := Lib.hid ((shiftUp_stop d m b (.inl (by omega))).symm.trans HSC.out)
                          have HRe := Lib.hid (show SRow w0 wr g sp X3 from HE.out ▸ HRk.out)
                          generalize wr = we at HRe ⊢
                          clear HSC HE HD
                          go_wp2
                          go_roundw
                          case rel => exact ⟨c + 1, k, X3, by omega, by omega, by omega, rfl, by go_num, HRe.out, HS3.out, by rw [← HS5.out.2]; exact HG.out⟩
                          case measure => simp [intOf]; omega
                    · have g6 : decide ((2 : Int) ≤ (b : Int) - (k : Int)) = false := by simp; omega
                      obtain rfl : X3 = X2 := HX3.out.trans (if_neg hbk)
                      have HRe := HRe2
                      go_wp2
                      go_roundw
                      case rel => exact ⟨c + 1, k, X3, by omega, by omega, by omega, rfl, by go_num, HRe.out, HS3.out, by rw [← HS5.out.2]; exact HG.out⟩
                      case measure => simp [intOf]; omega
              · have g7 : decide ((2 : Int) ≤ (k : Int) - (a : Int)) = false := by simp; omega
                have HRe := Lib.hid (show SRow w0 wz g sp X2 by rw [HX2.out.trans (if_neg hka)]; exact HSW.out)
                generalize wz = we at HRe ⊢
                have HRe2 := HRe; clear HRe
                by_cases hbk : b - k ≥ 2
                · have g6 : decide ((2 : Int) ≤ (b : Int) - (k : Int)) = true := by simp; omega
                  have HTs := Lib.hid (HX3.out.trans (if_pos hbk))
                  have HDs := HS2
                  go_wp2
                  go_loopw [10] (fun i wr => ∃ (m : Nat) (d : Array Nat), k + 1 ≤ m ∧ m ≤ b ∧ i = .int .i64 m ∧ SRow w0 wr g sp d ∧ d.size = n ∧ Sort.shiftUp ltN b m d = X3) (fun i _ => b - (intOf i).toNat)
                  case atStart => exact ⟨k + 1, _, by omega, by omega, by go_num, HRe2.out, HDs.out, HTs.out.symm⟩
                  case round =>
                    clear HRe2 HDs HTs
                    obtain ⟨m, d, hm1, hm2, rfl, hr, hdn, hT⟩ := hrel
                    have HRk := Lib.hid hr; clear hr
                    have HD := Lib.hid hdn; clear hdn
                    have HSC := Lib.hid hT; clear hT
                    by_cases hmb : m < b
                    · have g1 : decide (m < b) = true := by simpa using hmb
                      have hd1 : m < d.size := by rw [HD.out]; omega
                      have hd0 : m - 1 < d.size := by rw [HD.out]; omega
                      have c1 := HRk.out.cell hd1
                      have c0 := HRk.out.cell hd0
                      have f1 := HRk.out.frozen m
                      have f0 := HRk.out.frozen (m - 1)
                      have i1 : (0 : Int) ≤ (m : Int) - 1 := by omega
                      have i2 : (m : Int) < (n : Int) := by omega
                      have i3 : (m : Int) - 1 < (n : Int) := by omega
                      obtain ⟨x, hx⟩ : ∃ x, d[m]! = x := ⟨_, rfl⟩
                      obtain ⟨y, hy⟩ : ∃ y, d[m - 1]! = y := ⟨_, rfl⟩
                      rw [hx] at c1
                      rw [hy] at c0
                      have HX := Lib.hid hx; clear hx
                      have HY := Lib.hid hy; clear hy
                      have CL := Lib.hid (fun w => less_any x y w)
                      have e1 : IntKind.i64.wrap ((m : Int) - 1) = (m : Int) - 1 := IntWalk.i64_in _ (by omega)
                      have e2 : ((m : Int) - 1).toNat = m - 1 := by omega
                      by_cases hlt : x < y
                      · have hl : decide (x < y) = true := by simpa using hlt
                        have HN2 := Lib.hid ((shiftUp_on d m b (by omega) (by rw [HX.out, HY.out]; exact hlt)).symm.trans HSC.out)
                        go_wp2
                        go_quiet ((go_at_call 91; exact quiet_left (CL.out _)))
                        clear e1 e2
                        go_wp2
                        have HR2 := Lib.hid (HRk.out.drewN nq)
                        have dd1 : (wr.drewN nq).cell? ⟨g, m, none⟩ = some (.int .u32 (x : Int)) := c1
                        have dd0 : (wr.drewN nq).cell? ⟨g, m - 1, none⟩ = some (.int .u32 (y : Int)) := c0
                        have h1 : (wr.drewN nq).frozen? ⟨g, m, none⟩ = false := f1
                        have h0 : (wr.drewN nq).frozen? ⟨g, m - 1, none⟩ = false := f0
                        clear c1 c0 f1 f0
                        generalize wr.drewN nq = wq at HR2 dd1 dd0 h1 h0 ⊢
                        go_region
                        have hsw := HR2.out.swp hd1 hd0
                        rw [HX.out, HY.out] at hsw
                        have HSW := Lib.hid hsw.drew
                        clear hsw HR2 dd1 dd0 h1 h0 HX HY i1 i2 i3 CL
                        go_wp2
                        go_roundw
                        case rel => exact ⟨m + 1, _, by omega, by omega, by go_num, HSW.out, by rw [size_swp]; exact HD.out, HN2.out⟩
                        case measure => simp [intOf]; omega
                      · have hl : decide (x < y) = false := by simpa using hlt
                        have HE := Lib.hid ((shiftUp_stop d m b (.inr (by rw [HX.out, HY.out]; exact hlt))).symm.trans HSC.out)
                        go_wp2
                        go_quiet ((go_at_call 91; exact quiet_left (CL.out _)))
                        clear e1 e2
                        have HRe := Lib.hid (show SRow w0 (wr.drewN nq) g sp X3 from HE.out ▸ HRk.out.drewN nq)
                        generalize wr.drewN nq = we at HRe ⊢
                        clear HSC HX HY CL c1 c0 f1 f0 i1 i2 i3 hd1 hd0 HE HRk HD
                        go_wp2
                        go_roundw
                        case rel => exact ⟨c + 1, k, X3, by omega, by omega, by omega, rfl, by go_num, HRe.out, HS3.out, by rw [← HS5.out.2]; exact HG.out⟩
                        case measure => simp [intOf]; omega
                    · have g1 : decide (m < b) = false := by simpa using hmb
                      have HE := Lib.hid ((shiftUp_stop d m b (.inl (by omega))).symm.trans HSC.out)
                      have HRe := Lib.hid (show SRow w0 wr g sp X3 from HE.out ▸ HRk.out)
                      generalize wr = we at HRe ⊢
                      clear HSC HE HD
                      go_wp2
                      go_roundw
                      case rel => exact ⟨c + 1, k, X3, by omega, by omega, by omega, rfl, by go_num, HRe.out, HS3.out, by rw [← HS5.out.2]; exact HG.out⟩
                      case measure => simp [intOf]; omega
                · have g6 : decide ((2 : Int) ≤ (b : Int) - (k : Int)) = false := by simp; omega
                  obtain rfl : X3 = X2 := HX3.out.trans (if_neg hbk)
                  have HRe := HRe2
                  go_wp2
                  go_roundw
                  case rel => exact ⟨c + 1, k, X3, by omega, by omega, by omega, rfl, by go_num, HRe.out, HS3.out, by rw [← HS5.out.2]; exact HG.out⟩
                  case measure => simp [intOf]; omega
          · have hl : decide (x < y) = false := by simpa using hlt
            have HN2 := Lib.hid ((scanSorted_on d k b hkb (by rw [HX.out, HY.out]; exact hlt)).symm.trans HSC.out)
            go_wp2
            go_quiet ((go_at_call 91; exact quiet_left (CL.out _)))
            clear e1 e2
            go_wp2
            go_roundw
            case rel => exact ⟨k + 1, by omega, by omega, by go_num, HRk.out.drewN _, HN2.out⟩
            case measure => simp [intOf]; omega
        · have g1 : decide (k < b) = false := by simpa using hkb
          have HE := Lib.hid (scanSorted_stop d k b (.inl hkb))
          obtain rfl : k = I2 := (HE.out).symm.trans HSC.out
          have hkb' : k = b := by omega
          have HG := Lib.hid ((by rw [HS5.out.1]; exact pis_done HI2.out hkb' : Sort.partialIns ltN a b (5 - c) k0 d = (d, true)).symm.trans HRR.out)
          have g2 : ((k : Int) == (b : Int)) = true := by simp; omega
          have g2' : (k == b) = true := by simp; omega
          go_wp2
          go_quiet (fail)
          go_wp2
          go_ret
          exact ⟨by rw [← HG.out]; rfl, by rw [← HG.out]; exact HRk.out.drewN _⟩
    · have g5 : decide (c < 5) = false := by simpa using hcc
      have HG := Lib.hid ((by rw [show 5 - c = 0 by omega]; rfl : Sort.partialIns ltN a b (5 - c) k0 d = (d, false)).symm.trans HRR.out)
      go_wp2
      go_ret
      exact ⟨by rw [← HG.out]; rfl, by rw [← HG.out]; exact HRr.out⟩
end Go.Proofs.YtomhflaofipccaaGreat
