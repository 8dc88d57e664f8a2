/-
  The library's sort: siftDownOrdered, heapSortOrdered.
-/
import Derived.Test.YtmbkagjdhpfngaaSortPiv
namespace Go.Proofs.Ytmbkagjdhpfngaa
open Go Go.RowKit Go.Maps
set_option linter.unusedVariables false

theorem quiet_add_left {P : Program} {f : FuncId} {args : Array Value} {w : World} {a n : Nat} {v : Value}
    (h : Calls P f args (w.drewN (a + n)) fun e w' => e = .returned v ∧ w.drewN (a + n) = w') :
    Calls P f args (w.drewN (a + n)) fun e w'' => e = .returned v ∧ ∃ m, w'' = w.drewN (a + m) :=
  h.mono fun _ _ ⟨he, hm⟩ => ⟨he, n, hm.symm⟩
theorem siftDown_stop0 (hi f r : Nat) (d : Array Nat) (h : 2 * r + 1 ≥ hi) : Sort.siftDown ltN hi f r d = d := by
  rw [Sort.siftDown, dif_pos h]
theorem siftDown_hi (hi f r : Nat) (d : Array Nat) (h : ¬ 2 * r + 1 ≥ hi) (h1 : 2 * r + 1 + 1 < hi) (h2 : d[f + (2 * r + 1)]! < d[f + (2 * r + 1) + 1]!) :
    Sort.siftDown ltN hi f r d = if d[f + r]! < d[f + (2 * r + 1) + 1]! then Sort.siftDown ltN hi f (2 * r + 1 + 1) (Sort.swp d (f + r) (f + (2 * r + 1) + 1)) else d := by
  rw [Sort.siftDown, dif_neg h, if_pos (by rw [Bool.and_eq_true]; exact ⟨by simpa using h1, decide_eq_true h2⟩)]
  have e : f + (2 * r + 2) = f + (2 * r + 1) + 1 := by omega
  rw [e]
  by_cases h3 : d[f + r]! < d[f + (2 * r + 1) + 1]!
  · rw [if_pos h3, if_neg (by simp [ltN, h3]), dif_pos (by omega)]
  · rw [if_neg h3, if_pos (by simp [ltN]; omega)]
theorem siftDown_lo (hi f r : Nat) (d : Array Nat) (h : ¬ 2 * r + 1 ≥ hi) (h1 : ¬ (2 * r + 1 + 1 < hi ∧ d[f + (2 * r + 1)]! < d[f + (2 * r + 1) + 1]!)) :
    Sort.siftDown ltN hi f r d = if d[f + r]! < d[f + (2 * r + 1)]! then Sort.siftDown ltN hi f (2 * r + 1) (Sort.swp d (f + r) (f + (2 * r + 1))) else d := by
  rw [Sort.siftDown, dif_neg h, if_neg (by rw [Bool.and_eq_true]; rintro ⟨a, b⟩; exact h1 ⟨by simpa using a, of_decide_eq_true b⟩)]
  by_cases h3 : d[f + r]! < d[f + (2 * r + 1)]!
  · rw [if_pos h3, if_neg (by simp [ltN, h3])]
  · rw [if_neg h3, if_pos (by simp [ltN]; omega)]
/-- An index that is reckoned: what the walk wants to know of a sum. -/
def Idx (z : Int) (k n : Nat) : Prop := IntKind.i64.wrap z = z ∧ 0 ≤ z ∧ z < (n : Int) ∧ z.toNat = k
theorem Idx.mk' {z : Int} {k n : Nat} (h : z = (k : Int)) (hk : k < n) (hn : n ≤ 4611686018427387904) : Idx z k n := ⟨IntWalk.i64_in _ (by omega), by omega, by omega, by omega⟩
set_option maxRecDepth 100000 in
set_option maxHeartbeats 4000000 in
theorem siftDown_any (w0 w : World) (g : Nat) (sp : List Value) (d : Array Nat) (cap lo hi f : Nat) (hlo : lo ≤ hi) (hb : f + hi ≤ d.size) (hs : d.size ≤ cap) (hc : d.size ≤ 1048576) (h : SRow w0 w g sp d) :
    Calls Try.prog 63 #[.slice (some ⟨g, 0, none⟩) d.size cap, .int .i64 (lo : Int), .int .i64 (hi : Int), .int .i64 (f : Int)] w (SPost w0 g sp (Sort.siftDown ltN hi f lo d)) := by
  obtain ⟨T, hT⟩ : ∃ T, T = Sort.siftDown ltN hi f lo d := ⟨_, rfl⟩
  rw [← hT]
  obtain ⟨n, hn⟩ : ∃ n, n = d.size := ⟨_, rfl⟩
  rw [← hn] at hb hs hc ⊢
  have HT := Lib.hid hT; clear hT
  have HN := Lib.hid hn; clear hn
  have H0 := Lib.hid h; clear h
  go_enter Try.func63, Try.ntmps63
  go_wp2
  go_loopw [8] (fun i wr => ∃ (r : Nat) (d : Array Nat), r ≤ hi ∧ i = .int .i64 r ∧ SRow w0 wr g sp d ∧ d.size = n ∧ Sort.siftDown ltN hi f r d = T) (fun i _ => hi - (intOf i).toNat)
  case atStart => exact ⟨lo, d, hlo, rfl, H0.out, HN.out.symm, HT.out.symm⟩
  case round =>
    obtain ⟨r, d, hr1, rfl, hr, hdn, hT⟩ := hrel
    have HR := Lib.hid hr; clear hr
    have HD := Lib.hid hdn; clear hdn
    have HT2 := Lib.hid hT; clear hT
    obtain ⟨c, hc0⟩ : ∃ c, c = 2 * r + 1 := ⟨_, rfl⟩
    have hci : 2 * (r : Int) + 1 = (c : Int) := by omega
    by_cases hch : hi ≤ c
    · have g1 : decide (hi ≤ c) = true := by simpa using hch
      have e0 := HT2.out
      rw [siftDown_stop0 _ _ _ _ (by omega)] at e0
      have HE := Lib.hid e0
      clear hc0 e0
      go_wp2
      exact bodyPost_ret (results_none rfl _ _ _) rfl ⟨rfl, by rw [← HE.out]; exact HR.out⟩
    · have g1 : decide (hi ≤ c) = false := by simpa using hch
      have hrn : f + r < n := by omega
      have hcn : f + c < n := by omega
      have Ir := Lib.hid (Idx.mk' (z := (f : Int) + (r : Int)) (k := f + r) (by omega) hrn (by omega))
      have Ic := Lib.hid (Idx.mk' (z := (f : Int) + (c : Int)) (k := f + c) (by omega) hcn (by omega))
      have hrc : r < c := by omega
      have hrd : f + r < d.size := by rw [HD.out]; exact hrn
      have hcd : f + c < d.size := by rw [HD.out]; exact hcn
      obtain ⟨x, hx⟩ : ∃ x, d[f + r]! = x := ⟨_, rfl⟩
      obtain ⟨y, hy⟩ : ∃ y, d[f + c]! = y := ⟨_, rfl⟩
      have HX := Lib.hid hx; clear hx
      have HY := Lib.hid hy; clear hy
      have HC0 := Lib.hid hc0; clear hc0
      by_cases hc1 : c + 1 < hi
      · have g2 : decide ((c : Int) + 1 < (hi : Int)) = true := by simp; omega
        have h2n : f + c + 1 < n := by omega
        have h2d : f + c + 1 < d.size := by rw [HD.out]; exact h2n
        have I2 := Lib.hid (Idx.mk' (z := (f : Int) + ((c : Int) + 1)) (k := f + c + 1) (by omega) h2n (by omega))
        have I2' := Lib.hid (Idx.mk' (z := (f : Int) + (c : Int) + 1) (k := f + c + 1) (by omega) h2n (by omega))
        obtain ⟨z, hz⟩ : ∃ z, d[f + c + 1]! = z := ⟨_, rfl⟩
        have HZ := Lib.hid hz; clear hz
        by_cases hlt2 : y < z
        · have hl2 : decide (y < z) = true := by simpa using hlt2
          have HE := Lib.hid (by have := siftDown_hi hi f r d (by have := HC0.out; omega) (by have := HC0.out; omega) (by rw [← HC0.out, HY.out, HZ.out]; exact hlt2); rw [← HC0.out] at this; exact this)
          have CL2 := Lib.hid (fun w => less_any y z w)
          have w1 : IntKind.i64.wrap ((c : Int) + 1) = (c : Int) + 1 := IntWalk.i64_in _ (by omega)
          have cr := HR.out.cell hrd
          have cc := HR.out.cell hcd
          rw [HX.out] at cr
          rw [HY.out] at cc
          have fr := HR.out.frozen (f + r)
          have fc := HR.out.frozen (f + c)
          have c2 := HR.out.cell h2d
          rw [HZ.out] at c2
          have f2 := HR.out.frozen (f + c + 1)
          obtain ⟨p1, p2, p3, p4⟩ := Ic.out
          obtain ⟨q1, q2, q3, q4⟩ := I2'.out
          go_wp2
          go_quiet ((go_at_call 58; exact quiet_left (CL2.out _)))
          clear p1 p2 p3 p4 q1 q2 q3 q4 w1
          have HR1 := Lib.hid (HR.out.drewN nq)
          clear cr cc fr fc c2 f2
          generalize wr.drewN nq = w1 at HR1 ⊢
          by_cases hlt : x < z
          · have hl : decide (x < z) = true := by simpa using hlt
            have CL := Lib.hid (fun w => less_any x z w)
            have cr := HR1.out.cell hrd
            have cc := HR1.out.cell hcd
            rw [HX.out] at cr
            rw [HY.out] at cc
            have fr := HR1.out.frozen (f + r)
            have fc := HR1.out.frozen (f + c)
            have c2 := HR1.out.cell h2d
            rw [HZ.out] at c2
            have f2 := HR1.out.frozen (f + c + 1)
            obtain ⟨p1, p2, p3, p4⟩ := Ir.out
            obtain ⟨q1, q2, q3, q4⟩ := I2.out
            go_wp2
            go_quiet ((go_at_call 58; exact quiet_left (CL.out _)))
            clear p1 p2 p3 p4 q1 q2 q3 q4
            have HR2 := Lib.hid (HR1.out.drewN nq)
            clear cr cc fr fc c2 f2
            generalize w1.drewN nq = w2 at HR2 ⊢
            have cr := HR2.out.cell hrd
            have cc := HR2.out.cell hcd
            rw [HX.out] at cr
            rw [HY.out] at cc
            have fr := HR2.out.frozen (f + r)
            have fc := HR2.out.frozen (f + c)
            have c2 := HR2.out.cell h2d
            rw [HZ.out] at c2
            have f2 := HR2.out.frozen (f + c + 1)
            have c3 : w2.cell? ⟨g, f + (c + 1), none⟩ = some (.int .u32 (z : Int)) := c2
            have f3 : w2.frozen? ⟨g, f + (c + 1), none⟩ = false := f2
            obtain ⟨p1, p2, p3, p4⟩ := Ir.out
            obtain ⟨q1, q2, q3, q4⟩ := I2.out
            clear p1 p4 q1 q4
            go_wp2
            go_region
            go_wp2
            go_roundw
            case rel =>
              refine ⟨c + 1, Sort.swp d (f + r) (f + c + 1), by omega, by go_num, ?_, by rw [size_swp]; exact HD.out, ?_⟩
              · have := HR2.out.swp hrd h2d
                rw [HX.out, HZ.out] at this
                exact this.drew
              · have e := HE.out
                rw [HX.out, HZ.out, if_pos hlt] at e
                exact e.symm.trans HT2.out
            case measure => simp [intOf]; omega
          · have hl : decide (x < z) = false := by simpa using hlt
            have CL := Lib.hid (fun w => less_any x z w)
            have cr := HR1.out.cell hrd
            have cc := HR1.out.cell hcd
            rw [HX.out] at cr
            rw [HY.out] at cc
            have fr := HR1.out.frozen (f + r)
            have fc := HR1.out.frozen (f + c)
            have c2 := HR1.out.cell h2d
            rw [HZ.out] at c2
            have f2 := HR1.out.frozen (f + c + 1)
            obtain ⟨p1, p2, p3, p4⟩ := Ir.out
            obtain ⟨q1, q2, q3, q4⟩ := I2.out
            go_wp2
            go_quiet ((go_at_call 58; exact quiet_left (CL.out _)))
            clear p1 p2 p3 p4 q1 q2 q3 q4
            have HR2 := Lib.hid (HR1.out.drewN nq)
            clear cr cc fr fc c2 f2
            generalize w1.drewN nq = w2 at HR2 ⊢
            have HF := Lib.hid (show d = T by
              have e := HE.out
              rw [HX.out, HZ.out, if_neg hlt] at e
              exact e.symm.trans HT2.out)
            go_wp2
            exact bodyPost_ret (results_none rfl _ _ _) rfl ⟨rfl, by rw [← HF.out]; exact HR2.out⟩
        · have hl2 : decide (y < z) = false := by simpa using hlt2
          have HE := Lib.hid (by have := siftDown_lo hi f r d (by have := HC0.out; omega) (by rw [← HC0.out, HY.out, HZ.out]; exact fun h => hlt2 h.2); rw [← HC0.out] at this; exact this)
          have CL2 := Lib.hid (fun w => less_any y z w)
          have w1 : IntKind.i64.wrap ((c : Int) + 1) = (c : Int) + 1 := IntWalk.i64_in _ (by omega)
          have cr := HR.out.cell hrd
          have cc := HR.out.cell hcd
          rw [HX.out] at cr
          rw [HY.out] at cc
          have fr := HR.out.frozen (f + r)
          have fc := HR.out.frozen (f + c)
          have c2 := HR.out.cell h2d
          rw [HZ.out] at c2
          have f2 := HR.out.frozen (f + c + 1)
          obtain ⟨p1, p2, p3, p4⟩ := Ic.out
          obtain ⟨q1, q2, q3, q4⟩ := I2'.out
          go_wp2
          go_quiet ((go_at_call 58; exact quiet_left (CL2.out _)))
          clear p1 p2 p3 p4 q1 q2 q3 q4 w1
          have HR1 := Lib.hid (HR.out.drewN nq)
          clear cr cc fr fc c2 f2
          generalize wr.drewN nq = w1 at HR1 ⊢
          by_cases hlt : x < y
          · have hl : decide (x < y) = true := by simpa using hlt
            have CL := Lib.hid (fun w => less_any x y w)
            have cr := HR1.out.cell hrd
            have cc := HR1.out.cell hcd
            rw [HX.out] at cr
            rw [HY.out] at cc
            have fr := HR1.out.frozen (f + r)
            have fc := HR1.out.frozen (f + c)
            have c2 := HR1.out.cell h2d
            rw [HZ.out] at c2
            have f2 := HR1.out.frozen (f + c + 1)
            obtain ⟨p1, p2, p3, p4⟩ := Ir.out
            obtain ⟨q1, q2, q3, q4⟩ := Ic.out
            go_wp2
            go_quiet ((go_at_call 58; exact quiet_left (CL.out _)))
            clear p1 p2 p3 p4 q1 q2 q3 q4
            have HR2 := Lib.hid (HR1.out.drewN nq)
            clear cr cc fr fc c2 f2
            generalize w1.drewN nq = w2 at HR2 ⊢
            have cr := HR2.out.cell hrd
            have cc := HR2.out.cell hcd
            rw [HX.out] at cr
            rw [HY.out] at cc
            have fr := HR2.out.frozen (f + r)
            have fc := HR2.out.frozen (f + c)
            have c2 := HR2.out.cell h2d
            rw [HZ.out] at c2
            have f2 := HR2.out.frozen (f + c + 1)
            obtain ⟨p1, p2, p3, p4⟩ := Ir.out
            obtain ⟨q1, q2, q3, q4⟩ := Ic.out
            clear p1 p4 q1 q4
            go_wp2
            go_region
            go_wp2
            go_roundw
            case rel =>
              refine ⟨c, Sort.swp d (f + r) (f + c), by omega, by go_num, ?_, by rw [size_swp]; exact HD.out, ?_⟩
              · have := HR2.out.swp hrd hcd
                rw [HX.out, HY.out] at this
                exact this.drew
              · have e := HE.out
                rw [HX.out, HY.out, if_pos hlt] at e
                exact e.symm.trans HT2.out
            case measure => simp [intOf]; omega
          · have hl : decide (x < y) = false := by simpa using hlt
            have CL := Lib.hid (fun w => less_any x y w)
            have cr := HR1.out.cell hrd
            have cc := HR1.out.cell hcd
            rw [HX.out] at cr
            rw [HY.out] at cc
            have fr := HR1.out.frozen (f + r)
            have fc := HR1.out.frozen (f + c)
            have c2 := HR1.out.cell h2d
            rw [HZ.out] at c2
            have f2 := HR1.out.frozen (f + c + 1)
            obtain ⟨p1, p2, p3, p4⟩ := Ir.out
            obtain ⟨q1, q2, q3, q4⟩ := Ic.out
            go_wp2
            go_quiet ((go_at_call 58; exact quiet_left (CL.out _)))
            clear p1 p2 p3 p4 q1 q2 q3 q4
            have HR2 := Lib.hid (HR1.out.drewN nq)
            clear cr cc fr fc c2 f2
            generalize w1.drewN nq = w2 at HR2 ⊢
            have HF := Lib.hid (show d = T by
              have e := HE.out
              rw [HX.out, HY.out, if_neg hlt] at e
              exact e.symm.trans HT2.out)
            go_wp2
            exact bodyPost_ret (results_none rfl _ _ _) rfl ⟨rfl, by rw [← HF.out]; exact HR2.out⟩
      · have g2 : decide ((c : Int) + 1 < (hi : Int)) = false := by simp; omega
        have w1 : IntKind.i64.wrap ((c : Int) + 1) = (c : Int) + 1 := IntWalk.i64_in _ (by omega)
        have HE := Lib.hid (by have := siftDown_lo hi f r d (by have := HC0.out; omega) (by have := HC0.out; omega); rw [← HC0.out] at this; exact this)
        go_wp2
        go_quiet (fail)
        clear w1
        have HR1 := Lib.hid (HR.out.drewN nq)
        generalize wr.drewN nq = w1 at HR1 ⊢
        by_cases hlt : x < y
        · have hl : decide (x < y) = true := by simpa using hlt
          have CL := Lib.hid (fun w => less_any x y w)
          have cr := HR1.out.cell hrd
          have cc := HR1.out.cell hcd
          rw [HX.out] at cr
          rw [HY.out] at cc
          have fr := HR1.out.frozen (f + r)
          have fc := HR1.out.frozen (f + c)
          obtain ⟨p1, p2, p3, p4⟩ := Ir.out
          obtain ⟨q1, q2, q3, q4⟩ := Ic.out
          go_wp2
          go_quiet ((go_at_call 58; exact quiet_left (CL.out _)))
          clear p1 p2 p3 p4 q1 q2 q3 q4
          have HR2 := Lib.hid (HR1.out.drewN nq)
          clear cr cc fr fc
          generalize w1.drewN nq = w2 at HR2 ⊢
          have cr := HR2.out.cell hrd
          have cc := HR2.out.cell hcd
          rw [HX.out] at cr
          rw [HY.out] at cc
          have fr := HR2.out.frozen (f + r)
          have fc := HR2.out.frozen (f + c)
          obtain ⟨p1, p2, p3, p4⟩ := Ir.out
          obtain ⟨q1, q2, q3, q4⟩ := Ic.out
          clear p1 p4 q1 q4
          go_wp2
          go_region
          go_wp2
          go_roundw
          case rel =>
            refine ⟨c, Sort.swp d (f + r) (f + c), by omega, by go_num, ?_, by rw [size_swp]; exact HD.out, ?_⟩
            · have := HR2.out.swp hrd hcd
              rw [HX.out, HY.out] at this
              exact this.drew
            · have e := HE.out
              rw [HX.out, HY.out, if_pos hlt] at e
              exact e.symm.trans HT2.out
          case measure => simp [intOf]; omega
        · have hl : decide (x < y) = false := by simpa using hlt
          have CL := Lib.hid (fun w => less_any x y w)
          have cr := HR1.out.cell hrd
          have cc := HR1.out.cell hcd
          rw [HX.out] at cr
          rw [HY.out] at cc
          have fr := HR1.out.frozen (f + r)
          have fc := HR1.out.frozen (f + c)
          obtain ⟨p1, p2, p3, p4⟩ := Ir.out
          obtain ⟨q1, q2, q3, q4⟩ := Ic.out
          go_wp2
          go_quiet ((go_at_call 58; exact quiet_left (CL.out _)))
          clear p1 p2 p3 p4 q1 q2 q3 q4
          have HR2 := Lib.hid (HR1.out.drewN nq)
          clear cr cc fr fc
          generalize w1.drewN nq = w2 at HR2 ⊢
          have HF := Lib.hid (show d = T by
            have e := HE.out
            rw [HX.out, HY.out, if_neg hlt] at e
            exact e.symm.trans HT2.out)
          go_wp2
          exact bodyPost_ret (results_none rfl _ _ _) rfl ⟨rfl, by rw [← HF.out]; exact HR2.out⟩
end Go.Proofs.Ytmbkagjdhpfngaa
