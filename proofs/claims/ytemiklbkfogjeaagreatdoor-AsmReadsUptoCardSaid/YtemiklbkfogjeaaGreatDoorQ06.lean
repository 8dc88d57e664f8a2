/-
  Package asm, writing: the line of an ALU that turns bytes round. Two slots compared. Package asm, writing: the line of a JMP or a JMP32.
-/
import Derived.Test.YtemiklbkfogjeaaGreatDoorQ05
namespace Go.Proofs.YtemiklbkfogjeaaGreatDoor
open Go Go.RowKit Go.Maps
set_option linter.unusedVariables false
set_option linter.unusedSimpArgs false
set_option maxRecDepth 100000
def turnB (rd nm : ByteArray) (op o s f m : Int) : List Int → Option ByteArray
 | [] => none
 | b :: l => if o = op ∧ s = 0 ∧ f = 0 ∧ m = b then some (saidT [rd, eqT, nm ++ dec b, rd]) else turnB rd nm op o s f m l
def turnG (rd : ByteArray) (o s f m : Int) : List (ByteArray × Int) → ByteArray
 | [] => emptyT
 | (nm, op) :: l => (turnB rd nm op o s f m [16, 32, 64]).getD (turnG rd o s f m l)
def turnT (o d s f m : Int) : ByteArray := turnG (regT wholeT d) o s f m turnL
set_option maxHeartbeats 2000000 in
theorem turnW_any (o d s f m : Int) (h : Fits o d s f m) (w : World) (hT : Tabs w) :
  Calls Tryz.prog 105 #[insV o d s f m] w (SaysT w (turnT o d s f m)) := by
 unfold insV turnT
 have hI := In.start hT o d s f m
 obtain ⟨h1, h2, h3, h4, h5⟩ := h
 have C1 := Lib.hid (fun w (h : Tabs w) => regW_any wholeT (by decide) d (by omega) (by omega) w h.pow)
 have C2 := Lib.hid (fun b (hb : 0 ≤ b ∧ b ≤ 64) w (h : Tabs w) => itoa_any b (by omega) (by omega) w h.pow)
 have HRS : Hid ((regT wholeT d).size ≤ 22) := regT_size wholeT d (by omega) (by omega)
 have HI := Lib.hid hI
 have c1 := hI.slot.cell 1
 clear hI hT h1 h2 h3 h4 h5
 generalize regT wholeT d = rd at *
 go_enter Tryz.func105, Tryz.ntmps105
 go_upto_region 2 with (go_at_call 96; refine (C1.out _ HI.out.tabs).mono ?_; rintro e w1 ⟨rfl, hb⟩; have H1 := Lib.hid (HI.out.on hb); clear hb)
 obtain ⟨tyq, cs, hB, hi, hat⟩ := H1.out.tabs.turns_any
 have HB := Lib.hid hB
 have HX := Lib.hid hi
 have HA := Lib.hid hat
 clear hB hi hat HI c1
 go_wp2_with (refine wpList_load_row rfl turnsT _ rfl 6 rfl tyq cs (0, 0) _ HB.out Tryz.underlying127 rfl HX.out ?_)
 clear HB HX
 go_loopw [12] (fun i wr => ∃ k : Nat, i = .int .i64 (k : Int) ∧ k ≤ 3 ∧ In w wr w.heap.size o d s f m ∧ turnG rd o s f m (turnL.drop k) = turnG rd o s f m turnL) (fun i _ => 3 - (Lib.intOf i).toNat)
 case atStart => exact ⟨0, rfl, by decide, H1.out, rfl⟩
 case round =>
  obtain ⟨k, rfl, hk, hR, hD⟩ := hrel
  have HR := Lib.hid hR
  have HD := Lib.hid hD
  have HK := Lib.hid hk
  clear hR hD hk H1
  by_cases h7 : k < 3
  ·obtain ⟨nm, op, e1, e2, e3⟩ := HA.out k h7
   have HS := Lib.hid e2
   have i1 : (k : Int) < 3 := by omega
   have HW := Lib.hid h7
   have HD2 : Hid ((turnB rd nm op o s f m [16, 32, 64]).getD (turnG rd o s f m (turnL.drop (k + 1))) = turnG rd o s f m turnL) := by
    have := HD.out
    rwa [drop_at e1] at this
   clear h7 e1 e2
   have HN : Hid (∀ o', In w (wr.alloc o') w.heap.size o d s f m) := fun o' => HR.out.on (below_alloc _ _)
   clear HD
   go_upto_region 5 with fail
   have H2 := Lib.hid (HN.out (.cells #[.string nm, .int .i64 op] 126))
   have HT2 : Hid (Blk (wr.alloc (.cells #[.string nm, .int .i64 op] 126)) wr.heap.size 126 #[.string nm, .int .i64 op]) := Blk.new _ _ _
   obtain ⟨tyq, ts, hB, hi, hat⟩ := H2.out.tabs.turnBits_any
   have HB := Lib.hid hB
   have HX := Lib.hid hi
   have HAB := Lib.hid hat
   clear hB hi hat
   go_wp2_with (refine wpList_load_row rfl turnBitsT _ rfl 7 rfl tyq ts (0, 0) _ HB.out Tryz.underlying128 rfl HX.out ?_)
   clear HB HX
   obtain ⟨wo, hwo⟩ : ∃ x, x = wr := ⟨_, rfl⟩
   subst hwo
   generalize hwq : wo.alloc (.cells #[.string nm, .int .i64 op] 126) = wq at *
   go_loopw [16] (fun i w2 => ∃ j : Nat, i = .int .i64 (j : Int) ∧ j ≤ 3 ∧ w2 = wq ∧ turnB rd nm op o s f m ([16, 32, 64].drop j) = turnB rd nm op o s f m [16, 32, 64]) (fun i _ => 3 - (Lib.intOf i).toNat)
   case atStart => exact ⟨0, rfl, by decide, rfl, rfl⟩
   case round =>
    obtain ⟨jj, rfl, hj, rfl, hE⟩ := hrel
    have HE := Lib.hid hE
    have HJ := Lib.hid hj
    have HQ := Lib.hid hwq
    clear hE hj hwq
    by_cases h8 : jj < 3
    ·obtain ⟨bn, b1, b2⟩ := HAB.out jj h8
     have i2 : (jj : Int) < 3 := by omega
     have HW2 := Lib.hid h8
     have HE2 : Hid (turnB rd nm op o s f m (bn :: [16, 32, 64].drop (jj + 1)) = turnB rd nm op o s f m [16, 32, 64]) := by
      have := HE.out
      rwa [drop_at b1] at this
     have HBN : Hid (0 ≤ bn ∧ bn ≤ 64) := by
      show 0 ≤ bn ∧ bn ≤ 64
      have := List.mem_of_getElem? b1
      simp only [List.mem_cons, List.not_mem_nil, or_false] at this
      omega
     clear h8 b1 HE
     obtain ⟨l0, l1, l2, l3, l4⟩ := H2.out.five
     have t0 := HT2.out.cell 0
     have t1 := HT2.out.cell 1
     by_cases hc : o = op ∧ s = 0 ∧ f = 0 ∧ m = bn
     ·obtain ⟨rfl, rfl, rfl, rfl⟩ := hc
      have HP : Hid (turnG rd o 0 0 m turnL = saidT [rd, eqT, nm ++ dec m, rd]) := by
       rw [← HD2.out, ← HE2.out, turnB, if_pos ⟨rfl, rfl, rfl, rfl⟩]
       exact rfl
      have hdz := dec_size m (by have := HBN.out; omega) (by have := HBN.out; omega)
      have b4 : ¬ 9223372036854775807 < nm.size + (dec m).size := by have := HS.out; omega
      have HSZ : Hid (∀ x ∈ ([rd, eqT, nm ++ dec m, rd] : List ByteArray), x.size ≤ 100) := by
       intro x hx
       have h1 := HS.out
       have h2 := HRS.out
       have h4 : eqT.size = 1 := rfl
       have e2 : (nm ++ dec m).size = nm.size + (dec m).size := size_app _ _
       simp only [List.mem_cons, List.not_mem_nil, or_false] at hx
       rcases hx with rfl | rfl | rfl | rfl <;> omega
      clear hdz HE2 HD2
      have CI := Lib.hid (fun w hw => C2.out m HBN.out w hw)
      generalize dec m = dm at *
      go_upto_region 9 with fail
      have J0 := Lib.hid (H2.out.on (below_drew _))
      have K0 := Lib.hid (blk_on HT2.out (below_drew _))
      go_region_held3 (fun W => W.cell? ⟨wo.heap.size, 0, none⟩ = some (.string nm))
       (first | exact K0.out.cell 0 | exact K1.out.cell 0 | exact (blk_on K1.out (below_alloc _ _)).cell 0 | exact K2.out.cell 0)
       (first
        | (go_at_call 86; refine (CI.out _ J0.out.tabs).mono ?_; rintro e w2 ⟨rfl, hb⟩; have J1 := Lib.hid (J0.out.on hb); have K1 := Lib.hid (blk_on K0.out hb); clear hb)
        | (go_at_call 97; refine (said_any _ _ _ [rd, eqT, nm ++ dm, rd] (Blk.new _ _ _) (Nat.le_of_ble_eq_true rfl) 100 (by decide) HSZ.out).mono ?_; rintro e w5 ⟨rfl, hb⟩; have J2 := Lib.hid ((J1.out.on (below_alloc _ _)).on hb); have K2 := Lib.hid (blk_on (blk_on K1.out (below_alloc _ _)) hb); clear hb))
      go_wp2_with fail
      go_ret
      exact ⟨by rw [HP.out]; rfl, J2.out.below⟩
     ·have HE3 : Hid (turnB rd nm op o s f m ([16, 32, 64].drop (jj + 1)) = turnB rd nm op o s f m [16, 32, 64]) := by
       rw [← HE2.out, turnB, if_neg hc]
       exact rfl
      clear HE2
      rcases (by omega : o ≠ op ∨ (o = op ∧ s ≠ 0) ∨ (o = op ∧ s = 0 ∧ f ≠ 0) ∨ (o = op ∧ s = 0 ∧ f = 0 ∧ m ≠ bn)) with h | ⟨rfl, h⟩ | ⟨rfl, rfl, h⟩ | ⟨rfl, rfl, rfl, h⟩
      all_goals
       clear hc
       go_wp2_with fail
       go_roundw
       case rel => exact ⟨jj + 1, rfl, HW2.out, trivial, HE3.out⟩
       case measure =>
        have := HW2.out
        simp only [Lib.intOf]
        omega
    ·have hj3 : jj = 3 := by have := HJ.out; omega
     subst hj3
     have HD3 : Hid (turnG rd o s f m (turnL.drop (k + 1)) = turnG rd o s f m turnL) := by
      have h1 := HD2.out
      rw [← HE.out] at h1
      exact h1
     clear h8 HE HJ
     go_wp2_with fail
     go_roundw
     case rel => exact ⟨k + 1, rfl, HW.out, H2.out, HD3.out⟩
     case measure =>
      have := HW.out
      simp only [Lib.intOf]
      omega
  ·have hk7 : k = 3 := by have := HK.out; omega
   subst hk7
   have HF : Hid (turnG rd o s f m turnL = emptyT) := by
    rw [← HD.out]
    exact rfl
   clear h7 HD HK
   go_wp2_with fail
   go_ret
   exact ⟨by rw [HF.out]; rfl, HR.out.below⟩
def same5 (o d s f m o' d' s' f' m' : Int) : Bool := decide (o = o' ∧ d = d' ∧ s = s' ∧ f = f' ∧ m = m')
theorem eq5 (o d s f m o' d' s' f' m' : Int) (w : World) : (binOp .eql inT (.agg (inC o d s f m)) (.agg (inC o' d' s' f' m'))).run Tryz.prog w = .ok (.bool (same5 o d s f m o' d' s' f' m')) w := by
 have key : ∀ c : Bool, same5 o d s f m o' d' s' f' m' = c → (binOp .eql inT (.agg (inC o d s f m)) (.agg (inC o' d' s' f' m'))).run Tryz.prog w = .ok (.bool c) w := by
  intro c hc
  unfold same5 at hc
  go_simp
  rw [← hc]
  by_cases h1 : o = o'
  ·by_cases h2 : d = d'
   ·by_cases h3 : s = s'
    ·by_cases h4 : f = f'
     ·by_cases h5 : m = m'
      ·rw [if_pos h1, if_pos h2, if_pos h3, if_pos h4, if_pos h5, decide_eq_true ⟨h1, h2, h3, h4, h5⟩]
      ·rw [if_pos h1, if_pos h2, if_pos h3, if_pos h4, if_neg h5, decide_eq_false (fun h => h5 h.2.2.2.2)]
     ·rw [if_pos h1, if_pos h2, if_pos h3, if_neg h4, decide_eq_false (fun h => h4 h.2.2.2.1)]
    ·rw [if_pos h1, if_pos h2, if_neg h3, decide_eq_false (fun h => h3 h.2.2.1)]
   ·rw [if_pos h1, if_neg h2, decide_eq_false (fun h => h2 h.2.1)]
  ·rw [if_neg h1, decide_eq_false (fun h => h1 h.1)]
 exact key _ rfl
theorem neq5 (o d s f m o' d' s' f' m' : Int) (w : World) : (binOp .neq inT (.agg (inC o d s f m)) (.agg (inC o' d' s' f' m'))).run Tryz.prog w = .ok (.bool (!same5 o d s f m o' d' s' f' m')) w := by
 have h := eq5 o d s f m o' d' s' f' m' w
 rw [run_eql_struct] at h
 rw [run_neq_struct]
 revert h
 generalize (Op.equalIn 10000 inT (.agg (inC o d s f m)) (.agg (inC o' d' s' f' m'))).run Tryz.prog w = r
 intro h
 cases r with
 | ok b w' =>
  simp only [Result.andThen_ok, Result.ok.injEq, Value.bool.injEq] at h ⊢
  exact ⟨by rw [h.1], h.2⟩
 | halt x w' => cases h
abbrev gotoT : ByteArray := ⟨#[103, 111, 116, 111]⟩
abbrev callT : ByteArray := ⟨#[99, 97, 108, 108]⟩
abbrev exitT : ByteArray := ⟨#[101, 120, 105, 116]⟩
abbrev ifT : ByteArray := ⟨#[105, 102]⟩
def testG (z : Int) (g : ByteArray → ByteArray) : List (ByteArray × Int) → ByteArray
 | [] => emptyT
 | (nm, k) :: l => if k = z then g nm else testG z g l
def testLine (o d s f m : Int) (nm : ByteArray) : ByteArray := saidT [ifT, regT (letterS (o % 8)) d, nm, secT s m (bits .and .i64 o 8 != 0) (letterS (o % 8)), gotoT, farT f]
def jumpT (o d s f m : Int) : ByteArray :=
 if same5 o d s f m 5 0 0 f 0 = true then saidT [gotoT, farT f]
 else if same5 o d s f m 133 0 0 0 m = true then saidT [callT, dec m]
 else if same5 o d s f m 149 0 0 0 0 = true then exitT
 else testG (bits .and .i64 o 240) (testLine o d s f m) testL
theorem letterS_size (c : Int) : (letterS c).size ≤ 1 := by
 unfold letterS
 split <;> exact Nat.le_refl _
set_option maxHeartbeats 4000000 in
theorem jumpW_any (o d s f m : Int) (h : Fits o d s f m) (w : World) (hT : Tabs w) :
  Calls Tryz.prog 72 #[insV o d s f m] w (SaysT w (jumpT o d s f m)) := by
 have hI := In.start hT o d s f m
 have HI := Lib.hid hI
 have CS := Lib.hid (fun w (hT : Tabs w) => secW_any o d s f m (bits .and .i64 o 8 != 0) (letterS (o % 8)) (Nat.le_trans (letterS_size _) (by decide)) h w hT)
 have CC := Lib.hid (fun w => class_any o d s f m w)
 have CL := Lib.hid (fun w => letterOf_any (o % 8) w)
 have CR := Lib.hid (fun w (hT : Tabs w) => regW_any (letterS (o % 8)) (Nat.le_trans (letterS_size _) (by decide)) d (by have := h.2.1; omega) (by have := h.2.1; omega) w hT.pow)
 have CF := Lib.hid (fun w (hT : Tabs w) => farW_any f (by have := h.2.2.2.1; omega) (by have := h.2.2.2.1; omega) w hT.pow)
 have CI := Lib.hid (fun w (hT : Tabs w) => itoa_any m (by have := h.2.2.2.2; omega) (by have := h.2.2.2.2; omega) w hT.pow)
 have hfs := farT_size f (by have := h.2.2.2.1; omega) (by have := h.2.2.2.1; omega)
 have hds := dec_size m (by have := h.2.2.2.2; omega) (by have := h.2.2.2.2; omega)
 have hrs := regT_size (letterS (o % 8)) d (by have := h.2.1; omega) (by have := h.2.1; omega)
 have hss := secT_size s m (bits .and .i64 o 8 != 0) (letterS (o % 8)) h.2.2.1 h.2.2.2.2
 have hls := letterS_size (o % 8)
 have hg4 : gotoT.size = 4 := rfl
 have hc4 : callT.size = 4 := rfl
 have hi2 : ifT.size = 2 := rfl
 have Z1 : Hid (∀ x ∈ ([gotoT, farT f] : List ByteArray), x.size ≤ 100) := by
  intro x hx
  simp only [List.mem_cons, List.not_mem_nil, or_false] at hx
  rcases hx with rfl | rfl <;> omega
 have Z2 : Hid (∀ x ∈ ([callT, dec m] : List ByteArray), x.size ≤ 100) := by
  intro x hx
  simp only [List.mem_cons, List.not_mem_nil, or_false] at hx
  rcases hx with rfl | rfl <;> omega
 have Z3 : Hid (∀ nm : ByteArray, nm.size ≤ 3 → ∀ x ∈ ([ifT, regT (letterS (o % 8)) d, nm, secT s m (bits .and .i64 o 8 != 0) (letterS (o % 8)), gotoT, farT f] : List ByteArray), x.size ≤ 100) := by
  intro nm hn x hx
  simp only [List.mem_cons, List.not_mem_nil, or_false] at hx
  rcases hx with rfl | rfl | rfl | rfl | rfl | rfl <;> omega
 unfold jumpT
 have HU : Hid (∀ nm, testLine o d s f m nm = saidT [ifT, regT (letterS (o % 8)) d, nm, secT s m (bits .and .i64 o 8 != 0) (letterS (o % 8)), gotoT, farT f]) := fun nm => rfl
 unfold insV at *
 clear h hT hfs hds hrs hss hls hg4 hc4 hi2
 obtain ⟨k0, k1, k2, k3, k4⟩ := hI.five
 clear hI
 have j1 : ∀ w, (binOp .eql inT (.agg (inC o d s f m)) (.agg (inC 5 0 0 f 0))).run Tryz.prog w = .ok (.bool (same5 o d s f m 5 0 0 f 0)) w := fun w => eq5 ..
 have j2 : ∀ w, (binOp .eql inT (.agg (inC o d s f m)) (.agg (inC 133 0 0 0 m))).run Tryz.prog w = .ok (.bool (same5 o d s f m 133 0 0 0 m)) w := fun w => eq5 ..
 have j3 : ∀ w, (binOp .eql inT (.agg (inC o d s f m)) (.agg (inC 149 0 0 0 0))).run Tryz.prog w = .ok (.bool (same5 o d s f m 149 0 0 0 0)) w := fun w => eq5 ..
 obtain ⟨x8, e8⟩ : ∃ x, bits .and .i64 o 8 = x := ⟨_, rfl⟩
 rw [e8] at CS Z3 HU
 obtain ⟨b8, eb⟩ : ∃ b, (x8 != 0) = b := ⟨_, rfl⟩
 rw [eb] at CS Z3 HU
 obtain ⟨q, eq⟩ : ∃ q, o % 8 = q := ⟨_, rfl⟩
 rw [eq] at CS Z3 HU CC CL CR
 clear eq
 generalize letterS q = lt at *
 generalize secT s m b8 lt = sc at *
 generalize regT lt d = rd at *
 generalize farT f = ft at *
 generalize dec m = dm at *
 generalize same5 o d s f m 5 0 0 f 0 = c1 at *
 generalize same5 o d s f m 133 0 0 0 m = c2 at *
 generalize same5 o d s f m 149 0 0 0 0 = c3 at *
 cases c1
 case true =>
  rw [if_pos rfl]
  clear HU Z3 Z2 CS CC CL CR CI j2 j3 e8 eb
  go_enter Tryz.func72, Tryz.ntmps72
  go_wp2_with (first
   | (go_at_call 106; refine (CF.out _ HI.out.tabs).mono ?_; rintro e w1 ⟨rfl, hb⟩; have H1 := Lib.hid (HI.out.on hb); clear hb)
   | (go_at_call 97; refine (said_any _ _ _ [gotoT, ft] (Blk.new _ _ _) (Nat.le_of_ble_eq_true rfl) 100 (by decide) Z1.out).mono ?_; rintro e w5 ⟨rfl, hb⟩; have J3 := Lib.hid ((H1.out.on (below_alloc _ _)).on hb); clear hb))
  go_ret
  exact ⟨rfl, J3.out.below⟩
 rw [if_neg (by decide)]
 cases c2
 case true =>
  rw [if_pos rfl]
  clear HU Z3 Z1 CS CC CL CR CF j3 e8 eb
  go_enter Tryz.func72, Tryz.ntmps72
  go_wp2_with (first
   | (go_at_call 86; refine (CI.out _ HI.out.tabs).mono ?_; rintro e w1 ⟨rfl, hb⟩; have H1 := Lib.hid (HI.out.on hb); clear hb)
   | (go_at_call 97; refine (said_any _ _ _ [callT, dm] (Blk.new _ _ _) (Nat.le_of_ble_eq_true rfl) 100 (by decide) Z2.out).mono ?_; rintro e w5 ⟨rfl, hb⟩; have J3 := Lib.hid ((H1.out.on (below_alloc _ _)).on hb); clear hb))
  go_ret
  exact ⟨rfl, J3.out.below⟩
 rw [if_neg (by decide)]
 cases c3
 case true =>
  rw [if_pos rfl]
  clear HU Z1 Z2 Z3 CS CC CL CR CF e8 eb
  go_enter Tryz.func72, Tryz.ntmps72
  go_wp2_with fail
  go_ret
  exact ⟨rfl, HI.out.below⟩
 rw [if_neg (by decide)]
 clear Z1 Z2 CI
 go_enter Tryz.func72, Tryz.ntmps72
 go_upto_region 9 with (first
  | (go_at_call 67; refine (CC.out _).mono ?_; rintro e w1 ⟨rfl, hb⟩; have H1 := Lib.hid (HI.out.on hb); clear hb)
  | (go_at_call 81; refine (CL.out _).mono ?_; rintro e w2 ⟨rfl, rfl⟩))
 obtain ⟨tyq, cs, hB, hi, hat⟩ := H1.out.tabs.tests_any
 have HB := Lib.hid hB
 have HX := Lib.hid hi
 have HA := Lib.hid hat
 clear hB hi hat HI k0 k1 k2 k3 k4 j1 j2 j3 CC CL
 go_wp2_with (refine wpList_load_row rfl testsT _ rfl 3 rfl tyq cs (0, 0) _ HB.out Tryz.underlying111 rfl HX.out ?_)
 clear HB HX
 go_loopw [34] (fun i wr => ∃ k : Nat, i = .int .i64 (k : Int) ∧ k ≤ 11 ∧ In w wr w.heap.size o d s f m ∧ testG (bits .and .i64 o 240) (testLine o d s f m) (testL.drop k) = testG (bits .and .i64 o 240) (testLine o d s f m) testL) (fun i _ => 11 - (Lib.intOf i).toNat)
 case atStart => exact ⟨0, rfl, by decide, H1.out, rfl⟩
 case round =>
  obtain ⟨k, rfl, hk, hR, hD⟩ := hrel
  have HR := Lib.hid hR
  have HD := Lib.hid hD
  have HK := Lib.hid hk
  clear hR hD hk H1
  by_cases h7 : k < 11
  ·obtain ⟨nm, md, e1, e2, e3⟩ := HA.out k h7
   have HS := Lib.hid e2
   have i1 : (k : Int) < 11 := by omega
   have HW := Lib.hid h7
   have HD2 : Hid (testG (bits .and .i64 o 240) (testLine o d s f m) ((nm, md) :: testL.drop (k + 1)) = testG (bits .and .i64 o 240) (testLine o d s f m) testL) := by
    have := HD.out
    rwa [drop_at e1] at this
   have HN : Hid (∀ o', In w (wr.alloc o') w.heap.size o d s f m) := fun o' => HR.out.on (below_alloc _ _)
   have HC : Hid (∀ cs, Blk (wr.alloc (.cells cs 110)) wr.heap.size 110 cs) := fun cs => Blk.new _ _ _
   have c0 : ∀ o', (wr.alloc o').cell? ⟨w.heap.size, 0, none⟩ = some (.int .i64 o) := fun o' => (HN.out o').slot.cell 0
   clear h7 e1 e2 HD
   obtain ⟨z, ez⟩ : ∃ z, bits .and .i64 o 240 = z := ⟨_, rfl⟩
   have HZ := Lib.hid ez
   by_cases hq : md = z
   ·have HP : Hid (testG (bits .and .i64 o 240) (testLine o d s f m) testL = saidT [ifT, rd, nm, sc, gotoT, ft]) := by
     rw [← HD2.out, testG, if_pos (hq.trans HZ.out.symm), HU.out nm]
     exact rfl
    have HSZ := Lib.hid (Z3.out nm HS.out)
    subst hq
    clear HD2 HU Z3
    go_upto_region 13 with fail
    have G0 := Lib.hid ((HN.out (.cells #[.string nm, .int .i64 md] 110)).on (below_drew _))
    have T0 := Lib.hid (blk_on (HC.out #[.string nm, .int .i64 md]) (below_drew _))
    go_region_held3 (fun W => W.cell? ⟨wr.heap.size, 0, none⟩ = some (.string nm) ∧ W.cell? ⟨w.heap.size, 0, none⟩ = some (.int .i64 o) ∧ W.cell? ⟨w.heap.size, 1, none⟩ = some (.int .i64 d) ∧ W.cell? ⟨w.heap.size, 2, none⟩ = some (.int .i64 s) ∧ W.cell? ⟨w.heap.size, 3, none⟩ = some (.int .i64 f) ∧ W.cell? ⟨w.heap.size, 4, none⟩ = some (.int .i64 m))
     (first | exact ⟨T0.out.cell 0, G0.out.five⟩ | exact ⟨T1.out.cell 0, G1.out.five⟩ | exact ⟨T2.out.cell 0, G2.out.five⟩ | exact ⟨T3.out.cell 0, G3.out.five⟩ | exact ⟨(blk_on T3.out (below_alloc _ _)).cell 0, (G3.out.on (below_alloc _ _)).five⟩ | exact ⟨T4.out.cell 0, G4.out.five⟩)
     (first
      | (go_at_call 96; refine (CR.out _ G0.out.tabs).mono ?_; rintro e w2 ⟨rfl, hb⟩; have G1 := Lib.hid (G0.out.on hb); have T1 := Lib.hid (blk_on T0.out hb); clear hb)
      | (go_at_call 102; refine (CS.out _ G1.out.tabs).mono ?_; rintro e w2 ⟨rfl, hb⟩; have G2 := Lib.hid (G1.out.on hb); have T2 := Lib.hid (blk_on T1.out hb); clear hb)
      | (go_at_call 106; refine (CF.out _ G2.out.tabs).mono ?_; rintro e w2 ⟨rfl, hb⟩; have G3 := Lib.hid (G2.out.on hb); have T3 := Lib.hid (blk_on T2.out hb); clear hb)
      | (go_at_call 97; refine (said_any _ _ _ [ifT, rd, nm, sc, gotoT, ft] (Blk.new _ _ _) (Nat.le_of_ble_eq_true rfl) 100 (by decide) HSZ.out).mono ?_; rintro e w5 ⟨rfl, hb⟩; have G4 := Lib.hid ((G3.out.on (below_alloc _ _)).on hb); have T4 := Lib.hid (blk_on (blk_on T3.out (below_alloc _ _)) hb); clear hb))
    go_wp2_with fail
    go_ret
    exact ⟨by rw [HP.out]; rfl, G4.out.below⟩
   ·have HD3 : Hid (testG (bits .and .i64 o 240) (testLine o d s f m) (testL.drop (k + 1)) = testG (bits .and .i64 o 240) (testLine o d s f m) testL) := by
     rw [← HD2.out, testG, if_neg (fun h => hq (h.trans HZ.out))]
     exact rfl
    have b0 : (md == z) = false := by simpa using hq
    clear HD2 hq
    go_wp2_with fail
    go_roundw
    case rel => exact ⟨k + 1, rfl, HW.out, HN.out _, HD3.out⟩
    case measure =>
     have := HW.out
     simp only [Lib.intOf]
     omega
  ·have hk7 : k = 11 := by have := HK.out; omega
   subst hk7
   have HF : Hid (testG (bits .and .i64 o 240) (testLine o d s f m) testL = emptyT) := by
    rw [← HD.out]
    exact rfl
   clear h7 HD HK
   go_wp2_with fail
   go_ret
   exact ⟨by rw [HF.out]; rfl, HR.out.below⟩
end Go.Proofs.YtemiklbkfogjeaaGreatDoor
