/-
  The library's sort: siftDownOrdered, heapSortOrdered. The library's sort: heapSortOrdered, reverseRangeOrdered. The library's sort: (*xorshift).Next, nextPowerOfTwo, breakPatternsOrdered (some permutation of its part, whichever).
-/
import Derived.Test.YtomhflaofipccaaGreatSortPiv
import Derived.Test.YtomhflaofipccaaGreatSortPis
import Derived.Sort.Lot0
import Derived.Laws.Bits64
import Derived.Laws.Bits64b
namespace Go.Proofs.YtomhflaofipccaaGreat
open Go Go.RowKit Go.Maps
set_option linter.unusedVariables false

theorem quiet_add_left {P : Program} {f : FuncId} {args : Array Value} {w : World} {a n : Nat} {v : Value}
    (h : Calls P f args (w.drewN (a + n)) fun e w' => e = .returned v ∧ w.drewN (a + n) = w') :
    Calls P f args (w.drewN (a + n)) fun e w'' => e = .returned v ∧ ∃ m, w'' = w.drewN (a + m) :=
  h.mono fun _ _ ⟨he, hm⟩ => ⟨he, n, hm.symm⟩
theorem siftDown_stop0 (hi f r : Nat) (d : Array Nat) (h : 2 * r + 1 ≥ hi) : Sort.siftDown ltN hi f r d = d := by
  rw [Sort.siftDown, dif_pos h]
theorem siftDown_hi (hi f r : Nat) (d : Array Nat) (h : ¬ 2 * r + 1 ≥ hi) (h1 : 2 * r + 1 + 1 < hi) (h2 : d[f + (2 * r + 1)]! < d[f + (2 * r + 1) + 1]!) :
    Sort.siftDown ltN hi f r d = if d[f + r]! < d[f + (2 * r + 1) + 1]! then Sort.siftDown ltN hi f (2 * r + 1 + 1) (Sort.swp d (f + r) (f + (2 * r + 1) + 1)) else d := by
  rw [Sort.siftDown, dif_neg h, if_pos (by rw [Bool.and_eq_true]; exact ⟨by simpa using h1, decide_eq_true h2⟩)]
  have e : f + (2 * r + 2) = f + (2 * r + 1) + 1 := by omega
  rw [e]
  by_cases h3 : d[f + r]! < d[f + (2 * r + 1) + 1]!
  · rw [if_pos h3, if_neg (by simp [ltN, h3]), dif_pos (by omega)]
  · rw [if_neg h3, if_pos (by simp [ltN]; omega)]
theorem siftDown_lo (hi f r : Nat) (d : Array Nat) (h : ¬ 2 * r + 1 ≥ hi) (h1 : ¬ (2 * r + 1 + 1 < hi ∧ d[f + (2 * r + 1)]! < d[f + (2 * r + 1) + 1]!)) :
    Sort.siftDown ltN hi f r d = if d[f + r]! < d[f + (2 * r + 1)]! then Sort.siftDown ltN hi f (2 * r + 1) (Sort.swp d (f + r) (f + (2 * r + 1))) else d := by
  rw [Sort.siftDown, dif_neg h, if_neg (by rw [Bool.and_eq_true]; rintro ⟨a, b⟩; exact h1 ⟨by simpa using a, of_decide_eq_true b⟩)]
  by_cases h3 : d[f + r]! < d[f + (2 * r + 1)]!
  · rw [if_pos h3, if_neg (by simp [ltN, h3])]
  · rw [if_neg h3, if_pos (by simp [ltN]; omega)]
/-- An index that is reckoned: what the walk wants to know of a sum. -/
def Idx (z : Int) (k n : Nat) : Prop := IntKind.i64.wrap z = z ∧ 0 ≤ z ∧ z < (n : Int) ∧ z.toNat = k
theorem Idx.mk' {z : Int} {k n : Nat} (h : z = (k : Int)) (hk : k < n) (hn : n ≤ 4611686018427387904) : Idx z k n := ⟨IntWalk.i64_in _ (by omega), by omega, by omega, by omega⟩
set_option maxRecDepth 100000 in
set_option maxHeartbeats 4000000 in
theorem siftDown_any (w0 w : World) (g : Nat) (sp : List Value) (d : Array Nat) (cap lo hi f : Nat) (hlo : lo ≤ hi) (hb : f + hi ≤ d.size) (hs : d.size ≤ cap) (hc : d.size ≤ 1048576) (h : SRow w0 w g sp d) :
    Calls Tryz.prog 99 #[.slice (some ⟨g, 0, none⟩) d.size cap, .int .i64 (lo : Int), .int .i64 (hi : Int), .int .i64 (f : Int)] w (SPost w0 g sp (Sort.siftDown ltN hi f lo d)) := by
  obtain ⟨T, hT⟩ : ∃ T, T = Sort.siftDown ltN hi f lo d := ⟨_, rfl⟩
  rw [← hT]
  obtain ⟨n, hn⟩ : ∃ n, n = d.size := ⟨_, rfl⟩
  rw [← hn] at hb hs hc ⊢
  have HT := Lib.hid hT; clear hT
  have HN := Lib.hid hn; clear hn
  have H0 := Lib.hid h; clear h
  go_enter Tryz.func99, Tryz.ntmps99
  go_wp2
  go_loopw [8] (fun i wr => ∃ (r : Nat) (d : Array Nat), r ≤ hi ∧ i = .int .i64 r ∧ SRow w0 wr g sp d ∧ d.size = n ∧ Sort.siftDown ltN hi f r d = T) (fun i _ => hi - (intOf i).toNat)
  case atStart => exact ⟨lo, d, hlo, rfl, H0.out, HN.out.symm, HT.out.symm⟩
  case round =>
    obtain ⟨r, d, hr1, rfl, hr, hdn, hT⟩ := hrel
    have HR := Lib.hid hr; clear hr
    have HD := Lib.hid hdn; clear hdn
    have HT2 := Lib.hid hT; clear hT
    obtain ⟨c, hc0⟩ : ∃ c, c = 2 * r + 1 := ⟨_, rfl⟩
    have hci : 2 * (r : Int) + 1 = (c : Int) := by omega
    by_cases hch : hi ≤ c
    · have g1 : decide (hi ≤ c) = true := by simpa using hch
      have e0 := HT2.out
      rw [siftDown_stop0 _ _ _ _ (by omega)] at e0
      have HE := Lib.hid e0
      clear hc0 e0
      go_wp2
      exact bodyPost_ret (results_none rfl _ _ _) rfl ⟨rfl, by rw [← HE.out]; exact HR.out⟩
    · have g1 : decide (hi ≤ c) = false := by simpa using hch
      have hrn : f + r < n := by omega
      have hcn : f + c < n := by omega
      have Ir := Lib.hid (Idx.mk' (z := (f : Int) + (r : Int)) (k := f + r) (by omega) hrn (by omega))
      have Ic := Lib.hid (Idx.mk' (z := (f : Int) + (c : Int)) (k := f + c) (by omega) hcn (by omega))
      have hrc : r < c := by omega
      have hrd : f + r < d.size := by rw [HD.out]; exact hrn
      have hcd : f + c < d.size := by rw [HD.out]; exact hcn
      obtain ⟨x, hx⟩ : ∃ x, d[f + r]! = x := ⟨_, rfl⟩
      obtain ⟨y, hy⟩ : ∃ y, d[f + c]! = y := ⟨_, rfl⟩
      have HX := Lib.hid hx; clear hx
      have HY := Lib.hid hy; clear hy
      have HC0 := Lib.hid hc0; clear hc0
      by_cases hc1 : c + 1 < hi
      · have g2 : decide ((c : Int) + 1 < (hi : Int)) = true := by simp; omega
        have h2n : f + c + 1 < n := by omega
        have h2d : f + c + 1 < d.size := by rw [HD.out]; exact h2n
        have I2 := Lib.hid (Idx.mk' (z := (f : Int) + ((c : Int) + 1)) (k := f + c + 1) (by omega) h2n (by omega))
        have I2' := Lib.hid (Idx.mk' (z := (f : Int) + (c : Int) + 1) (k := f + c + 1) (by omega) h2n (by omega))
        obtain ⟨z, hz⟩ : ∃ z, d[f + c + 1]! = z := ⟨_, rfl⟩
        have HZ := Lib.hid hz; clear hz
        by_cases hlt2 : y < z
        · have hl2 : decide (y < z) = true := by simpa using hlt2
          have HE := Lib.hid (by have := siftDown_hi hi f r d (by have := HC0.out; omega) (by have := HC0.out; omega) (by rw [← HC0.out, HY.out, HZ.out]; exact hlt2); rw [← HC0.out] at this; exact this)
          have CL2 := Lib.hid (fun w => less_any y z w)
          have w1 : IntKind.i64.wrap ((c : Int) + 1) = (c : Int) + 1 := IntWalk.i64_in _ (by omega)
          have cr := HR.out.cell hrd
          have cc := HR.out.cell hcd
          rw [HX.out] at cr
          rw [HY.out] at cc
          have fr := HR.out.frozen (f + r)
          have fc := HR.out.frozen (f + c)
          have c2 := HR.out.cell h2d
          rw [HZ.out] at c2
          have f2 := HR.out.frozen (f + c + 1)
          obtain ⟨p1, p2, p3, p4⟩ := Ic.out
          obtain ⟨q1, q2, q3, q4⟩ := I2'.out
          go_wp2
          go_quiet ((go_at_call 91; exact quiet_left (CL2.out _)))
          clear p1 p2 p3 p4 q1 q2 q3 q4 w1
          have HR1 := Lib.hid (HR.out.drewN nq)
          clear cr cc fr fc c2 f2
          generalize wr.drewN nq = w1 at HR1 ⊢
          by_cases hlt : x < z
          · have hl : decide (x < z) = true := by simpa using hlt
            have CL := Lib.hid (fun w => less_any x z w)
            have cr := HR1.out.cell hrd
            have cc := HR1.out.cell hcd
            rw [HX.out] at cr
            rw [HY.out] at cc
            have fr := HR1.out.frozen (f + r)
            have fc := HR1.out.frozen (f + c)
            have c2 := HR1.out.cell h2d
            rw [HZ.out] at c2
            have f2 := HR1.out.frozen (f + c + 1)
            obtain ⟨p1, p2, p3, p4⟩ := Ir.out
            obtain ⟨q1, q2, q3, q4⟩ := I2.out
            go_wp2
            go_quiet ((go_at_call 91; exact quiet_left (CL.out _)))
            clear p1 p2 p3 p4 q1 q2 q3 q4
            have HR2 := Lib.hid (HR1.out.drewN nq)
            clear cr cc fr fc c2 f2
            generalize w1.drewN nq = w2 at HR2 ⊢
            have cr := HR2.out.cell hrd
            have cc := HR2.out.cell hcd
            rw [HX.out] at cr
            rw [HY.out] at cc
            have fr := HR2.out.frozen (f + r)
            have fc := HR2.out.frozen (f + c)
            have c2 := HR2.out.cell h2d
            rw [HZ.out] at c2
            have f2 := HR2.out.frozen (f + c + 1)
            have c3 : w2.cell? ⟨g, f + (c + 1), none⟩ = some (.int .u32 (z : Int)) := c2
            have f3 : w2.frozen? ⟨g, f + (c + 1), none⟩ = false := f2
            obtain ⟨p1, p2, p3, p4⟩ := Ir.out
            obtain ⟨q1, q2, q3, q4⟩ := I2.out
            clear p1 p4 q1 q4
            go_wp2
            go_region
            go_wp2
            go_roundw
            case rel =>
              refine ⟨c + 1, Sort.swp d (f + r) (f + c + 1), by omega, by go_num, ?_, by rw [size_swp]; exact HD.out, ?_⟩
              · have := HR2.out.swp hrd h2d
                rw [HX.out, HZ.out] at this
                exact this.drew
              · have e := HE.out
                rw [HX.out, HZ.out, if_pos hlt] at e
                exact e.symm.trans HT2.out
            case measure => simp [intOf]; omega
          · have hl : decide (x < z) = false := by simpa using hlt
            have CL := Lib.hid (fun w => less_any x z w)
            have cr := HR1.out.cell hrd
            have cc := HR1.out.cell hcd
            rw [HX.out] at cr
            rw [HY.out] at cc
            have fr := HR1.out.frozen (f + r)
            have fc := HR1.out.frozen (f + c)
            have c2 := HR1.out.cell h2d
            rw [HZ.out] at c2
            have f2 := HR1.out.frozen (f + c + 1)
            obtain ⟨p1, p2, p3, p4⟩ := Ir.out
            obtain ⟨q1, q2, q3, q4⟩ := I2.out
            go_wp2
            go_quiet ((go_at_call 91; exact quiet_left (CL.out _)))
            clear p1 p2 p3 p4 q1 q2 q3 q4
            have HR2 := Lib.hid (HR1.out.drewN nq)
            clear cr cc fr fc c2 f2
            generalize w1.drewN nq = w2 at HR2 ⊢
            have HF := Lib.hid (show d = T by
              have e := HE.out
              rw [HX.out, HZ.out, if_neg hlt] at e
              exact e.symm.trans HT2.out)
            go_wp2
            exact bodyPost_ret (results_none rfl _ _ _) rfl ⟨rfl, by rw [← HF.out]; exact HR2.out⟩
        · have hl2 : decide (y < z) = false := by simpa using hlt2
          have HE := Lib.hid (by have := siftDown_lo hi f r d (by have := HC0.out; omega) (by rw [← HC0.out, HY.out, HZ.out]; exact fun h => hlt2 h.2); rw [← HC0.out] at this; exact this)
          have CL2 := Lib.hid (fun w => less_any y z w)
          have w1 : IntKind.i64.wrap ((c : Int) + 1) = (c : Int) + 1 := IntWalk.i64_in _ (by omega)
          have cr := HR.out.cell hrd
          have cc := HR.out.cell hcd
          rw [HX.out] at cr
          rw [HY.out] at cc
          have fr := HR.out.frozen (f + r)
          have fc := HR.out.frozen (f + c)
          have c2 := HR.out.cell h2d
          rw [HZ.out] at c2
          have f2 := HR.out.frozen (f + c + 1)
          obtain ⟨p1, p2, p3, p4⟩ := Ic.out
          obtain ⟨q1, q2, q3, q4⟩ := I2'.out
          go_wp2
          go_quiet ((go_at_call 91; exact quiet_left (CL2.out _)))
          clear p1 p2 p3 p4 q1 q2 q3 q4 w1
          have HR1 := Lib.hid (HR.out.drewN nq)
          clear cr cc fr fc c2 f2
          generalize wr.drewN nq = w1 at HR1 ⊢
          by_cases hlt : x < y
          · have hl : decide (x < y) = true := by simpa using hlt
            have CL := Lib.hid (fun w => less_any x y w)
            have cr := HR1.out.cell hrd
            have cc := HR1.out.cell hcd
            rw [HX.out] at cr
            rw [HY.out] at cc
            have fr := HR1.out.frozen (f + r)
            have fc := HR1.out.frozen (f + c)
            have c2 := HR1.out.cell h2d
            rw [HZ.out] at c2
            have f2 := HR1.out.frozen (f + c + 1)
            obtain ⟨p1, p2, p3, p4⟩ := Ir.out
            obtain ⟨q1, q2, q3, q4⟩ := Ic.out
            go_wp2
            go_quiet ((go_at_call 91; exact quiet_left (CL.out _)))
            clear p1 p2 p3 p4 q1 q2 q3 q4
            have HR2 := Lib.hid (HR1.out.drewN nq)
            clear cr cc fr fc c2 f2
            generalize w1.drewN nq = w2 at HR2 ⊢
            have cr := HR2.out.cell hrd
            have cc := HR2.out.cell hcd
            rw [HX.out] at cr
            rw [HY.out] at cc
            have fr := HR2.out.frozen (f + r)
            have fc := HR2.out.frozen (f + c)
            have c2 := HR2.out.cell h2d
            rw [HZ.out] at c2
            have f2 := HR2.out.frozen (f + c + 1)
            obtain ⟨p1, p2, p3, p4⟩ := Ir.out
            obtain ⟨q1, q2, q3, q4⟩ := Ic.out
            clear p1 p4 q1 q4
            go_wp2
            go_region
            go_wp2
            go_roundw
            case rel =>
              refine ⟨c, Sort.swp d (f + r) (f + c), by omega, by go_num, ?_, by rw [size_swp]; exact HD.out, ?_⟩
              · have := HR2.out.swp hrd hcd
                rw [HX.out, HY.out] at this
                exact this.drew
              · have e := HE.out
                rw [HX.out, HY.out, if_pos hlt] at e
                exact e.symm.trans HT2.out
            case measure => simp [intOf]; omega
          · have hl : decide (x < y) = false := by simpa using hlt
            have CL := Lib.hid (fun w => less_any x y w)
            have cr := HR1.out.cell hrd
            have cc := HR1.out.cell hcd
            rw [HX.out] at cr
            rw [HY.out] at cc
            have fr := HR1.out.frozen (f + r)
            have fc := HR1.out.frozen (f + c)
            have c2 := HR1.out.cell h2d
            rw [HZ.out] at c2
            have f2 := HR1.out.frozen (f + c + 1)
            obtain ⟨p1, p2, p3, p4⟩ := Ir.out
            obtain ⟨q1, q2, q3, q4⟩ := Ic.out
            go_wp2
            go_quiet ((go_at_call 91; exact quiet_left (CL.out _)))
            clear p1 p2 p3 p4 q1 q2 q3 q4
            have HR2 := Lib.hid (HR1.out.drewN nq)
            clear cr cc fr fc c2 f2
            generalize w1.drewN nq = w2 at HR2 ⊢
            have HF := Lib.hid (show d = T by
              have e := HE.out
              rw [HX.out, HY.out, if_neg hlt] at e
              exact e.symm.trans HT2.out)
            go_wp2
            exact bodyPost_ret (results_none rfl _ _ _) rfl ⟨rfl, by rw [← HF.out]; exact HR2.out⟩
      · have g2 : decide ((c : Int) + 1 < (hi : Int)) = false := by simp; omega
        have w1 : IntKind.i64.wrap ((c : Int) + 1) = (c : Int) + 1 := IntWalk.i64_in _ (by omega)
        have HE := Lib.hid (by have := siftDown_lo hi f r d (by have := HC0.out; omega) (by have := HC0.out; omega); rw [← HC0.out] at this; exact this)
        go_wp2
        go_quiet (fail)
        clear w1
        have HR1 := Lib.hid (HR.out.drewN nq)
        generalize wr.drewN nq = w1 at HR1 ⊢
        by_cases hlt : x < y
        · have hl : decide (x < y) = true := by simpa using hlt
          have CL := Lib.hid (fun w => less_any x y w)
          have cr := HR1.out.cell hrd
          have cc := HR1.out.cell hcd
          rw [HX.out] at cr
          rw [HY.out] at cc
          have fr := HR1.out.frozen (f + r)
          have fc := HR1.out.frozen (f + c)
          obtain ⟨p1, p2, p3, p4⟩ := Ir.out
          obtain ⟨q1, q2, q3, q4⟩ := Ic.out
          go_wp2
          go_quiet ((go_at_call 91; exact quiet_left (CL.out _)))
          clear p1 p2 p3 p4 q1 q2 q3 q4
          have HR2 := Lib.hid (HR1.out.drewN nq)
          clear cr cc fr fc
          generalize w1.drewN nq = w2 at HR2 ⊢
          have cr := HR2.out.cell hrd
          have cc := HR2.out.cell hcd
          rw [HX.out] at cr
          rw [HY.out] at cc
          have fr := HR2.out.frozen (f + r)
          have fc := HR2.out.frozen (f + c)
          obtain ⟨p1, p2, p3, p4⟩ := Ir.out
          obtain ⟨q1, q2, q3, q4⟩ := Ic.out
          clear p1 p4 q1 q4
          go_wp2
          go_region
          go_wp2
          go_roundw
          case rel =>
            refine ⟨c, Sort.swp d (f + r) (f + c), by omega, by go_num, ?_, by rw [size_swp]; exact HD.out, ?_⟩
            · have := HR2.out.swp hrd hcd
              rw [HX.out, HY.out] at this
              exact this.drew
            · have e := HE.out
              rw [HX.out, HY.out, if_pos hlt] at e
              exact e.symm.trans HT2.out
          case measure => simp [intOf]; omega
        · have hl : decide (x < y) = false := by simpa using hlt
          have CL := Lib.hid (fun w => less_any x y w)
          have cr := HR1.out.cell hrd
          have cc := HR1.out.cell hcd
          rw [HX.out] at cr
          rw [HY.out] at cc
          have fr := HR1.out.frozen (f + r)
          have fc := HR1.out.frozen (f + c)
          obtain ⟨p1, p2, p3, p4⟩ := Ir.out
          obtain ⟨q1, q2, q3, q4⟩ := Ic.out
          go_wp2
          go_quiet ((go_at_call 91; exact quiet_left (CL.out _)))
          clear p1 p2 p3 p4 q1 q2 q3 q4
          have HR2 := Lib.hid (HR1.out.drewN nq)
          clear cr cc fr fc
          generalize w1.drewN nq = w2 at HR2 ⊢
          have HF := Lib.hid (show d = T by
            have e := HE.out
            rw [HX.out, HY.out, if_neg hlt] at e
            exact e.symm.trans HT2.out)
          go_wp2
          exact bodyPost_ret (results_none rfl _ _ _) rfl ⟨rfl, by rw [← HF.out]; exact HR2.out⟩
end Go.Proofs.YtomhflaofipccaaGreat
namespace Go.Proofs.YtomhflaofipccaaGreat
open Go Go.RowKit Go.Maps
set_option linter.unusedVariables false

theorem size_siftDown' (hi f : Nat) : ∀ (m r : Nat) (d : Array Nat), hi - r ≤ m → (Sort.siftDown ltN hi f r d).size = d.size
  | 0, r, d, h => by rw [siftDown_stop0 _ _ _ _ (by omega)]
  | m + 1, r, d, h => by
    by_cases h0 : 2 * r + 1 ≥ hi
    · rw [siftDown_stop0 _ _ _ _ h0]
    · by_cases h1 : 2 * r + 1 + 1 < hi ∧ d[f + (2 * r + 1)]! < d[f + (2 * r + 1) + 1]!
      · rw [siftDown_hi _ _ _ _ h0 h1.1 h1.2]
        split
        · rw [size_siftDown' hi f m _ _ (by omega), size_swp]
        · rfl
      · rw [siftDown_lo _ _ _ _ h0 h1]
        split
        · rw [size_siftDown' hi f m _ _ (by omega), size_swp]
        · rfl
theorem size_siftDown (hi f r : Nat) (d : Array Nat) : (Sort.siftDown ltN hi f r d).size = d.size := size_siftDown' hi f _ r d (Nat.le_refl _)
set_option maxRecDepth 100000 in
set_option maxHeartbeats 2000000 in
theorem heapSort_any (w0 w : World) (g : Nat) (sp : List Value) (d : Array Nat) (cap a b : Nat) (ha : a < b) (hb : b ≤ d.size) (hs : d.size ≤ cap) (hc : d.size ≤ 1048576) (h : SRow w0 w g sp d) :
    Calls Tryz.prog 86 #[.slice (some ⟨g, 0, none⟩) d.size cap, .int .i64 (a : Int), .int .i64 (b : Int)] w (SPost w0 g sp (Sort.heapSort ltN d a b)) := by
  obtain ⟨T, hT⟩ : ∃ T, T = Sort.heapSort ltN d a b := ⟨_, rfl⟩
  rw [← hT]
  obtain ⟨n, hn⟩ : ∃ n, n = d.size := ⟨_, rfl⟩
  rw [← hn] at hb hs hc ⊢
  obtain ⟨hi, hhi⟩ : ∃ hi, hi = b - a := ⟨_, rfl⟩
  have h1 : 1 ≤ hi := by omega
  have hhi' : (b : Int) - (a : Int) = (hi : Int) := by omega
  have hfn : a + hi ≤ n := by omega
  unfold Sort.heapSort at hT
  rw [← hhi] at hT
  obtain ⟨T1, hT1⟩ : ∃ T1, T1 = Sort.heapBuild ltN hi a ((hi - 1) / 2 + 1) d := ⟨_, rfl⟩
  rw [← hT1] at hT
  have HT := Lib.hid hT; clear hT
  have HT1 := Lib.hid hT1; clear hT1
  have HN := Lib.hid hn; clear hn
  have H0 := Lib.hid h; clear h
  have HH := Lib.hid hhi; clear hhi
  go_enter Tryz.func86, Tryz.ntmps86
  go_wp2
  go_loopw [9] (fun i wr => ∃ (k : Nat) (d : Array Nat), k ≤ hi ∧ i = .int .i64 ((k : Int) - 1) ∧ SRow w0 wr g sp d ∧ d.size = n ∧ Sort.heapBuild ltN hi a k d = T1) (fun i _ => (intOf i + 1).toNat)
  case atStart => exact ⟨(hi - 1) / 2 + 1, d, by omega, by congr 1; omega, H0.out, HN.out.symm, HT1.out.symm⟩
  case round =>
    obtain ⟨k, d, hk1, rfl, hr, hdn, hT⟩ := hrel
    have HR := Lib.hid hr; clear hr
    have HD := Lib.hid hdn; clear hdn
    have HT2 := Lib.hid hT; clear hT
    rcases k with _ | k
    · have HE := Lib.hid (show d = T1 from HT2.out)
      rw [show ((0 : Nat) : Int) - 1 = -1 from rfl]
      go_wp2
      go_loopw [10] (fun i wr => ∃ (k : Nat) (d : Array Nat), k ≤ hi ∧ i = .int .i64 ((k : Int) - 1) ∧ SRow w0 wr g sp d ∧ d.size = n ∧ Sort.heapPop ltN a k d = T) (fun i _ => (intOf i + 1).toNat)
      case atStart => exact ⟨hi, d, by omega, rfl, HR.out, HD.out, by rw [HE.out]; exact HT.out.symm⟩
      case round =>
        obtain ⟨k, d, hk1, rfl, hr, hdn, hT⟩ := hrel
        have HR := Lib.hid hr; clear hr
        have HD := Lib.hid hdn; clear hdn
        have HT3 := Lib.hid hT; clear hT
        rcases k with _ | k
        · have HE := Lib.hid (show d = T from HT3.out)
          go_wp2
          go_end0
          exact ⟨rfl, by rw [← HE.out]; exact HR.out⟩
        · have ek : ((k + 1 : Nat) : Int) - 1 = (k : Int) := by omega
          rw [ek]
          clear ek
          have hE : Sort.heapPop ltN a k (Sort.siftDown ltN k a 0 (Sort.swp d a (a + k))) = T := HT3.out
          have HE := Lib.hid hE; clear hE
          have had : a < d.size := by rw [HD.out]; omega
          have hkd : a + k < d.size := by rw [HD.out]; omega
          have i0 := Lib.hid (Idx.mk' (z := (a : Int)) (k := a) (n := n) (by omega) (by omega) (by omega))
          have i1 := Lib.hid (Idx.mk' (z := (a : Int) + (k : Int)) (k := a + k) (n := n) (by omega) (by omega) (by omega))
          obtain ⟨x, hx⟩ : ∃ x, d[a]! = x := ⟨_, rfl⟩
          obtain ⟨y, hy⟩ : ∃ y, d[a + k]! = y := ⟨_, rfl⟩
          have HX := Lib.hid hx; clear hx
          have HY := Lib.hid hy; clear hy
          have ca := HR.out.cell had
          have ck := HR.out.cell hkd
          rw [HX.out] at ca
          rw [HY.out] at ck
          have fa := HR.out.frozen a
          have fk := HR.out.frozen (a + k)
          have hSW := HR.out.swp had hkd
          rw [HX.out, HY.out] at hSW
          have HS := Lib.hid hSW.drew; clear hSW
          have HS2 := Lib.hid (siftDown_any w0 _ g sp (Sort.swp d a (a + k)) cap 0 k a (by omega) (by rw [size_swp, HD.out]; omega) (by rw [size_swp, HD.out]; exact hs) (by rw [size_swp, HD.out]; exact hc) HS.out)
          have c2 := HS2.out
          rw [size_swp, HD.out] at c2
          have C2 := Lib.hid c2; clear c2
          obtain ⟨p1, p2, p3, p4⟩ := i0.out
          obtain ⟨q1, q2, q3, q4⟩ := i1.out
          clear p1 p4 q1 q4
          obtain ⟨v', hv'⟩ := cell?_setCell_some (w := wr) (p := ⟨g, a, none⟩) (x := .int .u32 (y : Int)) (q := ⟨g, a + k, none⟩) (v := .int .u32 (y : Int)) ck
          go_wp2
          go_region
          clear hv'
          go_wp2_with fail
          refine C2.out.mono ?_
          rintro e w4 ⟨rfl, h4⟩
          have H4 := Lib.hid h4; clear h4
          go_wp2_with fail
          go_roundw
          case rel => exact ⟨k, _, by omega, by go_num, H4.out, by rw [size_siftDown, size_swp]; exact HD.out, HE.out⟩
          case measure => simp [intOf]
    · have ek : ((k + 1 : Nat) : Int) - 1 = (k : Int) := by omega
      rw [ek]
      clear ek
      have hE : Sort.heapBuild ltN hi a k (Sort.siftDown ltN hi a k d) = T1 := HT2.out
      have HE := Lib.hid hE; clear hE
      have c2 := siftDown_any w0 wr g sp d cap k hi a (by omega) (by rw [HD.out]; omega) (by rw [HD.out]; exact hs) (by rw [HD.out]; exact hc) HR.out
      rw [HD.out] at c2
      have C2 := Lib.hid c2; clear c2
      go_wp2_with fail
      refine C2.out.mono ?_
      rintro e w4 ⟨rfl, h4⟩
      have H4 := Lib.hid h4; clear h4
      go_wp2_with fail
      go_roundw
      case rel => exact ⟨k, _, by omega, by go_num, H4.out, by rw [size_siftDown]; exact HD.out, HE.out⟩
      case measure => simp [intOf]
set_option maxRecDepth 100000 in
set_option maxHeartbeats 2000000 in
theorem reverse_any (w0 w : World) (g : Nat) (sp : List Value) (d : Array Nat) (cap a b : Nat) (ha : a < b) (hb : b ≤ d.size) (hs : d.size ≤ cap) (hc : d.size ≤ 1048576) (h : SRow w0 w g sp d) :
    Calls Tryz.prog 89 #[.slice (some ⟨g, 0, none⟩) d.size cap, .int .i64 (a : Int), .int .i64 (b : Int)] w (SPost w0 g sp (Sort.reverseRange d a b)) := by
  obtain ⟨T, hT⟩ : ∃ T, T = Sort.reverseRange d a b := ⟨_, rfl⟩
  rw [← hT]
  obtain ⟨n, hn⟩ : ∃ n, n = d.size := ⟨_, rfl⟩
  rw [← hn] at hb hs hc ⊢
  unfold Sort.reverseRange at hT
  have HT := Lib.hid hT; clear hT
  have HN := Lib.hid hn; clear hn
  have H0 := Lib.hid h; clear h
  go_enter Tryz.func89, Tryz.ntmps89
  go_wp2
  go_loopw [6, 7] (fun i j wr => ∃ (p q : Nat) (d : Array Nat), p ≤ n ∧ q < n ∧ i = .int .i64 p ∧ j = .int .i64 q ∧ SRow w0 wr g sp d ∧ d.size = n ∧ Sort.reverseLoop p q d = T) (fun i j _ => (intOf j).toNat)
  case atStart => exact ⟨a, b - 1, d, by omega, by omega, rfl, by congr 1; omega, H0.out, HN.out.symm, HT.out.symm⟩
  case round =>
    obtain ⟨p, q, d, hp, hq, rfl, rfl, hr, hdn, hT⟩ := hrel
    have HR := Lib.hid hr; clear hr
    have HD := Lib.hid hdn; clear hdn
    have HT2 := Lib.hid hT; clear hT
    by_cases hpq : p < q
    · have e0 := HT2.out
      rw [Sort.reverseLoop, if_pos hpq] at e0
      have HE := Lib.hid e0; clear e0
      have hpd : p < d.size := by rw [HD.out]; omega
      have hqd : q < d.size := by rw [HD.out]; omega
      obtain ⟨x, hx⟩ : ∃ x, d[p]! = x := ⟨_, rfl⟩
      obtain ⟨y, hy⟩ : ∃ y, d[q]! = y := ⟨_, rfl⟩
      have HX := Lib.hid hx; clear hx
      have HY := Lib.hid hy; clear hy
      have ca := HR.out.cell hpd
      have ck := HR.out.cell hqd
      rw [HX.out] at ca
      rw [HY.out] at ck
      have fa := HR.out.frozen p
      have fk := HR.out.frozen q
      have hSW := HR.out.swp hpd hqd
      rw [HX.out, HY.out] at hSW
      have HS := Lib.hid hSW.drew; clear hSW
      have p2 : (0 : Int) ≤ (p : Int) := by omega
      have p3 : (p : Int) < (n : Int) := by omega
      have q2 : (0 : Int) ≤ (q : Int) := by omega
      have q3 : (q : Int) < (n : Int) := by omega
      go_wp2
      go_region
      go_wp2
      go_roundw
      case rel => exact ⟨p + 1, q - 1, _, by omega, by omega, by go_num, by go_num, HS.out, by rw [size_swp]; exact HD.out, HE.out⟩
      case measure => simp [intOf]; omega
    · have e0 := HT2.out
      rw [Sort.reverseLoop, if_neg hpq] at e0
      have HE := Lib.hid e0; clear e0
      go_wp2
      go_end0
      exact ⟨rfl, by rw [← HE.out]; exact HR.out⟩
end Go.Proofs.YtomhflaofipccaaGreat
namespace Go.Proofs.YtomhflaofipccaaGreat
open Go Go.RowKit Go.Maps
set_option linter.unusedVariables false

theorem setCell_twice (w : World) (s : Nat) (v v' : Value) : (w.setCell ⟨s, 0, none⟩ v).setCell ⟨s, 0, none⟩ v' = w.setCell ⟨s, 0, none⟩ v' := by
  simp only [World.setCell]
  congr 1
  apply Array.ext_getElem?
  intro i
  simp only [Array.getElem?_modify]
  by_cases h : s = i
  · subst h
    simp only [if_true]
    rcases w.heap[s]? with _ | o
    · rfl
    · cases o <;> simp
  · simp [h]
def NextPost (w : World) (s : Nat) (e : Ending) (w' : World) : Prop :=
  ∃ C : Nat, C < 18446744073709551616 ∧ e = .returned (.int .u64 (C : Int)) ∧ Keeps (fun b => b = s) w w' ∧ Blk w' s 157 #[.int .u64 (C : Int)]
set_option maxRecDepth 100000 in
set_option maxHeartbeats 2000000 in
theorem next_any (s X : Nat) (hX : X < 18446744073709551616) (w : World) (hb : Blk w s 157 #[.int .u64 (X : Int)]) :
    Calls Tryz.prog 101 #[.pointer (some ⟨s, 0, none⟩)] w (NextPost w s) := by
  obtain ⟨A, hA⟩ : ∃ A : Nat, A = X ^^^ (X * 8192 % 18446744073709551616) := ⟨_, rfl⟩
  obtain ⟨B, hB⟩ : ∃ B : Nat, B = A ^^^ (A / 128) := ⟨_, rfl⟩
  obtain ⟨C, hC⟩ : ∃ C : Nat, C = B ^^^ (B * 131072 % 18446744073709551616) := ⟨_, rfl⟩
  have lA : A < 18446744073709551616 := by rw [hA]; exact Nat.xor_lt_two_pow (n := 64) (by omega) (by omega)
  have lB : B < 18446744073709551616 := by rw [hB]; exact Nat.xor_lt_two_pow (n := 64) (by omega) (by omega)
  have lC : C < 18446744073709551616 := by rw [hC]; exact Nat.xor_lt_two_pow (n := 64) (by omega) (by omega)
  have e1 : bits .xor .u64 (X : Int) (IntKind.u64.wrap ((X : Int) * 8192)) = (A : Int) := by
    rw [IntKind.wrap_u64, show ((X : Int) * 8192 % 18446744073709551616) = ((X * 8192 % 18446744073709551616 : Nat) : Int) by omega, bits_xor_u64_nat _ _ hX (by omega), hA]
  have e2 : bits .xor .u64 (A : Int) ((A : Int) / 128) = (B : Int) := by
    rw [show ((A : Int) / 128) = ((A / 128 : Nat) : Int) by omega, bits_xor_u64_nat _ _ lA (by omega), hB]
  have e3 : bits .xor .u64 (B : Int) (IntKind.u64.wrap ((B : Int) * 131072)) = (C : Int) := by
    rw [IntKind.wrap_u64, show ((B : Int) * 131072 % 18446744073709551616) = ((B * 131072 % 18446744073709551616 : Nat) : Int) by omega, bits_xor_u64_nat _ _ lB (by omega), hC]
  have END := Lib.hid (show NextPost w s (.returned (.int .u64 (C : Int))) ((w.setCell ⟨s, 0, none⟩ (.int .u64 (C : Int))).drewN 3) from
    ⟨C, lC, rfl, Keeps.drewN (Keeps.setCell (S := fun b => b = s) (p := ⟨s, 0, none⟩) (Keeps.refl _ w) (.inl rfl) _) 3, show Blk (w.setCell ⟨s, 0, none⟩ (.int .u64 (C : Int))) s _ _ by have := hb.set_ 0 (.int .u64 (C : Int)); simpa using this⟩)
  have c0 : w.cell? ⟨s, 0, none⟩ = some (.int .u64 (X : Int)) := hb.cell 0
  have f0 : w.frozen? ⟨s, 0, none⟩ = false := hb.frozen 0
  clear hA hB hC hb
  have hss : ∀ v v', (w.setCell ⟨s, 0, none⟩ v).setCell ⟨s, 0, none⟩ v' = w.setCell ⟨s, 0, none⟩ v' := setCell_twice w s
  generalize NextPost w s = post at END ⊢
  go_enter Tryz.func101, Tryz.ntmps101
  go_wp2
  go_region
  all_goals go_wp2
  all_goals go_region
  all_goals go_wp2
  all_goals go_region
  all_goals go_wp2
  exact END.out
theorem pow_bitLen : ∀ (t n : Nat), n ≤ t → 0 < n → n < 18446744073709551616 → 2 ^ Lib.bitLen n ≤ 2 * n
  | 0, n, h, h0, _ => by omega
  | t + 1, n, h, h0, h1 => by
    rw [Lib.bitLen_half n (by omega) (by omega), Nat.pow_add]
    by_cases h2 : n < 2
    · have : n = 1 := by omega
      subst this
      decide
    · have := pow_bitLen t (n / 2) (by omega) (by omega) (by omega)
      omega
theorem nextPow_any (n : Nat) (h0 : 0 < n) (hn : n ≤ 1048576) (w : World) :
    Calls Tryz.prog 100 #[.int .i64 (n : Int)] w fun e w' => ∃ M : Nat, (1 ≤ M ∧ M ≤ 2 * n) ∧ e = .returned (.int .u64 (M : Int)) ∧ w = w' := by
  have hb := pow_bitLen n n (Nat.le_refl _) h0 (by omega)
  have h1 : 1 ≤ 2 ^ Lib.bitLen n := Nat.one_le_two_pow
  have hk : Lib.bitLen n ≤ 22 := by
    rcases Nat.lt_or_ge 22 (Lib.bitLen n) with h | h
    · have : (2 : Nat) ^ 23 ≤ 2 ^ Lib.bitLen n := Nat.pow_le_pow_right (by decide) h
      have e : (2 : Nat) ^ 23 = 8388608 := by decide
      omega
    · exact h
  have hp : IntKind.u64.wrap ((2 : Int) ^ Lib.bitLen n) = ((2 ^ Lib.bitLen n : Nat) : Int) := by
    rw [IntKind.wrap_u64, show ((2 : Int) ^ Lib.bitLen n) = ((2 ^ Lib.bitLen n : Nat) : Int) by push_cast; rfl]
    generalize (2 : Nat) ^ Lib.bitLen n = p at hb
    omega
  have END := Lib.hid (show ∃ M : Nat, (1 ≤ M ∧ M ≤ 2 * n) ∧ Ending.returned (.int .u64 ((2 ^ Lib.bitLen n : Nat) : Int)) = .returned (.int .u64 (M : Int)) ∧ w = w from ⟨_, ⟨h1, hb⟩, rfl, rfl⟩)
  have CL := Lib.hid (fun w => len_any n (by omega) w)
  generalize Lib.bitLen n = k at *
  clear hb h1
  generalize hM : ((2 ^ k : Nat) : Int) = M at hp END
  clear hM
  go_enter Tryz.func100, Tryz.ntmps100
  go_wp2_with (first | (go_at_call 71; refine (CL.out _).mono ?_; rintro e w' ⟨rfl, rfl⟩))
  go_ret
  obtain ⟨M', h1, h2, _⟩ := END.out
  exact ⟨M', h1, h2, rfl⟩
/-- The row holds d, and the generator, in a block of its own that w0 has not, some number. -/
structure RB (w0 w : World) (g : Nat) (sp : List Value) (d : Array Nat) (s : Nat) : Prop where
  row : SRow w0 w g sp d
  gen : ∃ X : Nat, X < 18446744073709551616 ∧ Blk w s 157 #[.int .u64 (X : Int)]
  new : w0.heap.size ≤ s
theorem RB.ne {w0 w : World} {g : Nat} {sp : List Value} {d : Array Nat} {s : Nat} (h : RB w0 w g sp d s) : g ≠ s := by
  obtain ⟨X, _, hb⟩ := h.gen
  exact Blk.ne_ h.row.row hb (by decide)
theorem RB.next {w0 w w' : World} {g : Nat} {sp : List Value} {d : Array Nat} {s C : Nat} (h : RB w0 w g sp d s) (k : Keeps (fun b => b = s) w w') (hC : C < 18446744073709551616) (hb : Blk w' s 157 #[.int .u64 (C : Int)]) : RB w0 w' g sp d s := by
  obtain ⟨X, _, hx⟩ := h.gen
  exact ⟨⟨h.row.keep.trans (k.mono (fun b e => .inr (by subst e; exact ⟨h.new, hx.lt⟩))), h.row.row.keeps k h.ne⟩, ⟨C, hC, hb⟩, h.new⟩
theorem RB.swp {w0 w : World} {g : Nat} {sp : List Value} {d : Array Nat} {s i j : Nat} (h : RB w0 w g sp d s) (hi : i < d.size) (hj : j < d.size) :
    RB w0 ((w.setCell ⟨g, i, none⟩ (.int .u32 (d[j]! : Int))).setCell ⟨g, j, none⟩ (.int .u32 (d[i]! : Int))).drew g sp (Sort.swp d i j) s := by
  obtain ⟨X, hX, hx⟩ := h.gen
  exact ⟨(h.row.swp hi hj).drew, ⟨X, hX, (hx.far (p := ⟨g, i, none⟩) (Ne.symm h.ne) _).far (p := ⟨g, j, none⟩) (Ne.symm h.ne) _⟩, h.new⟩
def BrkPost (w0 : World) (g : Nat) (sp : List Value) (d : Array Nat) (a b : Nat) (e : Ending) (w' : World) : Prop :=
  e = .returned (.tuple #[]) ∧ ∃ d', Sort.PermIn a b d d' ∧ SRow w0 w' g sp d'
set_option maxRecDepth 100000 in
set_option maxHeartbeats 4000000 in
theorem brk_any (w0 w : World) (g : Nat) (sp : List Value) (d : Array Nat) (cap a b : Nat) (hab : a + 8 ≤ b) (hb : b ≤ d.size) (hs : d.size ≤ cap) (hc : d.size ≤ 1048576) (h : SRow w0 w g sp d) :
    Calls Tryz.prog 87 #[.slice (some ⟨g, 0, none⟩) d.size cap, .int .i64 (a : Int), .int .i64 (b : Int)] w (BrkPost w0 g sp d a b) := by
  obtain ⟨n, hn⟩ : ∃ n, n = d.size := ⟨_, rfl⟩
  rw [← hn] at hb hs hc ⊢
  obtain ⟨l, hl⟩ : ∃ l : Nat, (b : Int) - (a : Int) = (l : Int) ∧ 8 ≤ l ∧ a + l = b := ⟨b - a, by omega, by omega, by omega⟩
  obtain ⟨hl, hl8, hal⟩ := hl
  obtain ⟨c, hc0⟩ : ∃ c : Nat, (a : Int) + (l : Int) / 4 * 2 - 1 = (c : Int) ∧ (a : Int) + (l : Int) / 4 * 2 + 1 = (c : Int) + 2 ∧ a ≤ c ∧ c + 2 < b := ⟨a + l / 4 * 2 - 1, by omega, by omega, by omega, by omega⟩
  obtain ⟨hc1, hc2, hc3, hc4⟩ := hc0
  have HL := Lib.hid hl
  have HC1 := Lib.hid hc1
  have HC2 := Lib.hid hc2
  have g0 : decide ((8 : Int) ≤ (b : Int) - (a : Int)) = true := by simp; omega
  have CN := Lib.hid (fun w => nextPow_any l (by omega) (by omega) w)
  have HST := Lib.hid (show RB w0 (w.alloc (.cells #[.int .u64 (l : Int)] 157)) g sp d w.heap.size from
    ⟨h.alloc _, ⟨l, by omega, Blk.new w _ _⟩, h.keep.size⟩)
  have HD := Lib.hid hn.symm
  clear hn h hl hc1 hc2
  go_enter Tryz.func87, Tryz.ntmps87
  go_wp2_with fail
  rw [HL.out]
  clear g0
  refine (CN.out _).mono ?_
  rintro e w' ⟨M, hM, rfl, rfl⟩
  obtain ⟨hM1, hM2⟩ := hM
  go_wp2_with fail
  rw [HC1.out]
  generalize hw1 : w.alloc (.cells #[.int .u64 (l : Int)] 157) = w1 at HST ⊢
  generalize hs1 : w.heap.size = s at HST ⊢
  clear hw1
  go_loopw [9] (fun i wr => ∃ (k : Nat) (d' : Array Nat), c ≤ k ∧ k ≤ c + 3 ∧ i = .int .i64 k ∧ RB w0 wr g sp d' s ∧ d'.size = n ∧ Sort.PermIn a b d d') (fun i _ => c + 3 - (intOf i).toNat)
  case atStart => exact ⟨c, d, by omega, by omega, rfl, HST.out, HD.out, Sort.permIn_refl _ _ _⟩
  case round =>
    clear HST
    obtain ⟨k, d', hk1, hk2, rfl, hr, hdn, hper⟩ := hrel
    have HR := Lib.hid hr; clear hr
    have HDn := Lib.hid hdn; clear hdn
    have HPE := Lib.hid hper; clear hper
    have hc2 := HC2.out
    by_cases hkc : k ≤ c + 2
    · have g1 : decide ((k : Int) ≤ (c : Int) + 2) = true := by simp; omega
      obtain ⟨X, hX, hx⟩ := HR.out.gen
      have CX := Lib.hid (next_any s X hX wr hx)
      clear hx
      go_wp2_with fail
      refine CX.out.mono ?_
      rintro e w2 ⟨C, hC, rfl, kk, hbk⟩
      have HR2 := Lib.hid (HR.out.next kk hC hbk)
      clear kk hbk CX HR
      obtain ⟨o, ho1, ho2⟩ : ∃ o : Nat, bits .and .u64 (C : Int) ((M : Int) - 1) = (o : Int) ∧ o < 2 * l := by
        have hle := Nat.and_le_right (n := C) (m := M - 1)
        refine ⟨C &&& (M - 1), ?_, by omega⟩
        rw [show ((M : Int) - 1) = ((M - 1 : Nat) : Int) by omega, bits_and_u64_nat _ _ hC (by omega)]
      clear hC
      by_cases hol : l ≤ o
      · have g2 : decide ((l : Int) ≤ (o : Int)) = true := by simp; omega
        obtain ⟨o2, ho3, ho4⟩ : ∃ o2 : Nat, (o : Int) - (l : Int) = (o2 : Int) ∧ o2 < l := ⟨o - l, by omega, by omega⟩
        have hkd : k < d'.size := by rw [HDn.out]; omega
        have hjd : a + o2 < d'.size := by rw [HDn.out]; omega
        have ca := HR2.out.row.cell hkd
        have ck := HR2.out.row.cell hjd
        have fa := HR2.out.row.frozen k
        have fk := HR2.out.row.frozen (a + o2)
        have hSW := HR2.out.swp hkd hjd
        obtain ⟨x, hx⟩ : ∃ x, d'[k]! = x := ⟨_, rfl⟩
        obtain ⟨y, hy⟩ : ∃ y, d'[a + o2]! = y := ⟨_, rfl⟩
        rw [hx] at ca
        rw [hy] at ck
        rw [hx, hy] at hSW
        have HSW := Lib.hid hSW
        have HP2 := Lib.hid (Sort.permIn_trans _ _ _ _ _ HPE.out (Sort.swp_permIn d' a b k (a + o2) (by omega) (by omega) (by omega) (by omega) (by rw [HDn.out]; omega)))
        clear hSW hx hy hkd hjd HR2
        have p2 : (0 : Int) ≤ (k : Int) := by omega
        have p3 : (k : Int) < (n : Int) := by omega
        obtain ⟨q1, q2, q3, q4⟩ := Idx.mk' (z := (a : Int) + (o2 : Int)) (k := a + o2) (n := n) (by omega) (by omega) (by omega)
        clear q1 q4
        obtain ⟨v', hv'⟩ := cell?_setCell_some (w := w2) (p := ⟨g, k, none⟩) (x := .int .u32 (y : Int)) (q := ⟨g, a + o2, none⟩) (v := .int .u32 (y : Int)) ck
        go_wp2_with fail
        go_region
        clear hv'
        go_wp2_with fail
        go_roundw
        case rel => exact ⟨k + 1, _, by omega, by omega, by go_num, HSW.out, by rw [size_swp]; exact HDn.out, HP2.out⟩
        case measure => simp [intOf]; omega
      · have g2 : decide ((l : Int) ≤ (o : Int)) = false := by simp; omega
        have hkd : k < d'.size := by rw [HDn.out]; omega
        have hjd : a + o < d'.size := by rw [HDn.out]; omega
        have ca := HR2.out.row.cell hkd
        have ck := HR2.out.row.cell hjd
        have fa := HR2.out.row.frozen k
        have fk := HR2.out.row.frozen (a + o)
        have hSW := HR2.out.swp hkd hjd
        obtain ⟨x, hx⟩ : ∃ x, d'[k]! = x := ⟨_, rfl⟩
        obtain ⟨y, hy⟩ : ∃ y, d'[a + o]! = y := ⟨_, rfl⟩
        rw [hx] at ca
        rw [hy] at ck
        rw [hx, hy] at hSW
        have HSW := Lib.hid hSW
        have HP2 := Lib.hid (Sort.permIn_trans _ _ _ _ _ HPE.out (Sort.swp_permIn d' a b k (a + o) (by omega) (by omega) (by omega) (by omega) (by rw [HDn.out]; omega)))
        clear hSW hx hy hkd hjd HR2
        have p2 : (0 : Int) ≤ (k : Int) := by omega
        have p3 : (k : Int) < (n : Int) := by omega
        obtain ⟨q1, q2, q3, q4⟩ := Idx.mk' (z := (a : Int) + (o : Int)) (k := a + o) (n := n) (by omega) (by omega) (by omega)
        clear q1 q4
        obtain ⟨v', hv'⟩ := cell?_setCell_some (w := w2) (p := ⟨g, k, none⟩) (x := .int .u32 (y : Int)) (q := ⟨g, a + o, none⟩) (v := .int .u32 (y : Int)) ck
        go_wp2_with fail
        go_region
        clear hv'
        go_wp2_with fail
        go_roundw
        case rel => exact ⟨k + 1, _, by omega, by omega, by go_num, HSW.out, by rw [size_swp]; exact HDn.out, HP2.out⟩
        case measure => simp [intOf]; omega
    · have g1 : decide ((k : Int) ≤ (c : Int) + 2) = false := by simp; omega
      go_wp2_with fail
      go_end0
      exact ⟨rfl, d', HPE.out, HR.out.row⟩
end Go.Proofs.YtomhflaofipccaaGreat
