/-
  Package asm, writing: the line of a JMP or a JMP32.
-/
import Derived.Test.YtpjfnnlopcccaaaDoorQP4
namespace Go.Proofs.YtpjfnnlopcccaaaDoor
open Go Go.RowKit Go.Maps
set_option linter.unusedVariables false
set_option linter.unusedSimpArgs false
set_option maxRecDepth 100000
abbrev gotoT : ByteArray := ⟨#[103, 111, 116, 111]⟩
abbrev callT : ByteArray := ⟨#[99, 97, 108, 108]⟩
abbrev exitT : ByteArray := ⟨#[101, 120, 105, 116]⟩
abbrev ifT : ByteArray := ⟨#[105, 102]⟩
def testG (z : Int) (g : ByteArray → ByteArray) : List (ByteArray × Int) → ByteArray
  | [] => emptyT
  | (nm, k) :: l => if k = z then g nm else testG z g l
def testLine (o d s f m : Int) (nm : ByteArray) : ByteArray := saidT [ifT, regT (letterS (o % 8)) d, nm, secT s m (bits .and .i64 o 8 != 0) (letterS (o % 8)), gotoT, farT f]
def jumpT (o d s f m : Int) : ByteArray :=
  if same5 o d s f m 5 0 0 f 0 = true then saidT [gotoT, farT f]
  else if same5 o d s f m 133 0 0 0 m = true then saidT [callT, dec m]
  else if same5 o d s f m 149 0 0 0 0 = true then exitT
  else testG (bits .and .i64 o 240) (testLine o d s f m) testL
theorem letterS_size (c : Int) : (letterS c).size ≤ 1 := by
  unfold letterS
  split <;> exact Nat.le_refl _
set_option maxHeartbeats 4000000 in
theorem jumpW_any (o d s f m : Int) (h : Fits o d s f m) (w : World) (hT : Tabs w) :
    Calls Tryd.prog 27 #[insV o d s f m] w (SaysT w (jumpT o d s f m)) := by
  have hI := In.start hT o d s f m
  have HI := Lib.hid hI
  have CS := Lib.hid (fun w (hT : Tabs w) => secW_any o d s f m (bits .and .i64 o 8 != 0) (letterS (o % 8)) (Nat.le_trans (letterS_size _) (by decide)) h w hT)
  have CC := Lib.hid (fun w => class_any o d s f m w)
  have CL := Lib.hid (fun w => letterOf_any (o % 8) w)
  have CR := Lib.hid (fun w (hT : Tabs w) => regW_any (letterS (o % 8)) (Nat.le_trans (letterS_size _) (by decide)) d (by have := h.2.1; omega) (by have := h.2.1; omega) w hT.pow)
  have CF := Lib.hid (fun w (hT : Tabs w) => farW_any f (by have := h.2.2.2.1; omega) (by have := h.2.2.2.1; omega) w hT.pow)
  have CI := Lib.hid (fun w (hT : Tabs w) => itoa_any m (by have := h.2.2.2.2; omega) (by have := h.2.2.2.2; omega) w hT.pow)
  have hfs := farT_size f (by have := h.2.2.2.1; omega) (by have := h.2.2.2.1; omega)
  have hds := dec_size m (by have := h.2.2.2.2; omega) (by have := h.2.2.2.2; omega)
  have hrs := regT_size (letterS (o % 8)) d (by have := h.2.1; omega) (by have := h.2.1; omega)
  have hss := secT_size s m (bits .and .i64 o 8 != 0) (letterS (o % 8)) h.2.2.1 h.2.2.2.2
  have hls := letterS_size (o % 8)
  have hg4 : gotoT.size = 4 := rfl
  have hc4 : callT.size = 4 := rfl
  have hi2 : ifT.size = 2 := rfl
  have Z1 : Hid (∀ x ∈ ([gotoT, farT f] : List ByteArray), x.size ≤ 100) := by
    intro x hx
    simp only [List.mem_cons, List.not_mem_nil, or_false] at hx
    rcases hx with rfl | rfl <;> omega
  have Z2 : Hid (∀ x ∈ ([callT, dec m] : List ByteArray), x.size ≤ 100) := by
    intro x hx
    simp only [List.mem_cons, List.not_mem_nil, or_false] at hx
    rcases hx with rfl | rfl <;> omega
  have Z3 : Hid (∀ nm : ByteArray, nm.size ≤ 3 → ∀ x ∈ ([ifT, regT (letterS (o % 8)) d, nm, secT s m (bits .and .i64 o 8 != 0) (letterS (o % 8)), gotoT, farT f] : List ByteArray), x.size ≤ 100) := by
    intro nm hn x hx
    simp only [List.mem_cons, List.not_mem_nil, or_false] at hx
    rcases hx with rfl | rfl | rfl | rfl | rfl | rfl <;> omega
  unfold jumpT
  have HU : Hid (∀ nm, testLine o d s f m nm = saidT [ifT, regT (letterS (o % 8)) d, nm, secT s m (bits .and .i64 o 8 != 0) (letterS (o % 8)), gotoT, farT f]) := fun nm => rfl
  unfold insV at *
  clear h hT hfs hds hrs hss hls hg4 hc4 hi2
  obtain ⟨k0, k1, k2, k3, k4⟩ := hI.five
  clear hI
  have j1 : ∀ w, (binOp .eql inT (.agg (inC o d s f m)) (.agg (inC 5 0 0 f 0))).run Tryd.prog w = .ok (.bool (same5 o d s f m 5 0 0 f 0)) w := fun w => eq5 ..
  have j2 : ∀ w, (binOp .eql inT (.agg (inC o d s f m)) (.agg (inC 133 0 0 0 m))).run Tryd.prog w = .ok (.bool (same5 o d s f m 133 0 0 0 m)) w := fun w => eq5 ..
  have j3 : ∀ w, (binOp .eql inT (.agg (inC o d s f m)) (.agg (inC 149 0 0 0 0))).run Tryd.prog w = .ok (.bool (same5 o d s f m 149 0 0 0 0)) w := fun w => eq5 ..
  obtain ⟨x8, e8⟩ : ∃ x, bits .and .i64 o 8 = x := ⟨_, rfl⟩
  rw [e8] at CS Z3 HU
  obtain ⟨b8, eb⟩ : ∃ b, (x8 != 0) = b := ⟨_, rfl⟩
  rw [eb] at CS Z3 HU
  obtain ⟨q, eq⟩ : ∃ q, o % 8 = q := ⟨_, rfl⟩
  rw [eq] at CS Z3 HU CC CL CR
  clear eq
  generalize letterS q = lt at *
  generalize secT s m b8 lt = sc at *
  generalize regT lt d = rd at *
  generalize farT f = ft at *
  generalize dec m = dm at *
  generalize same5 o d s f m 5 0 0 f 0 = c1 at *
  generalize same5 o d s f m 133 0 0 0 m = c2 at *
  generalize same5 o d s f m 149 0 0 0 0 = c3 at *
  cases c1
  case true =>
    rw [if_pos rfl]
    clear HU Z3 Z2 CS CC CL CR CI j2 j3 e8 eb
    go_enter Tryd.func27, Tryd.ntmps27
    go_wp2_with (first
      | (go_at_call 49; refine (CF.out _ HI.out.tabs).mono ?_; rintro e w1 ⟨rfl, hb⟩; have H1 := Lib.hid (HI.out.on hb); clear hb)
      | (go_at_call 37; refine (said_any _ _ _ [gotoT, ft] (Blk.new _ _ _) (Nat.le_of_ble_eq_true rfl) 100 (by decide) Z1.out).mono ?_; rintro e w5 ⟨rfl, hb⟩; have J3 := Lib.hid ((H1.out.on (below_alloc _ _)).on hb); clear hb))
    go_ret
    exact ⟨rfl, J3.out.below⟩
  rw [if_neg (by decide)]
  cases c2
  case true =>
    rw [if_pos rfl]
    clear HU Z3 Z1 CS CC CL CR CF j3 e8 eb
    go_enter Tryd.func27, Tryd.ntmps27
    go_wp2_with (first
      | (go_at_call 40; refine (CI.out _ HI.out.tabs).mono ?_; rintro e w1 ⟨rfl, hb⟩; have H1 := Lib.hid (HI.out.on hb); clear hb)
      | (go_at_call 37; refine (said_any _ _ _ [callT, dm] (Blk.new _ _ _) (Nat.le_of_ble_eq_true rfl) 100 (by decide) Z2.out).mono ?_; rintro e w5 ⟨rfl, hb⟩; have J3 := Lib.hid ((H1.out.on (below_alloc _ _)).on hb); clear hb))
    go_ret
    exact ⟨rfl, J3.out.below⟩
  rw [if_neg (by decide)]
  cases c3
  case true =>
    rw [if_pos rfl]
    clear HU Z1 Z2 Z3 CS CC CL CR CF e8 eb
    go_enter Tryd.func27, Tryd.ntmps27
    go_wp2_with fail
    go_ret
    exact ⟨rfl, HI.out.below⟩
  rw [if_neg (by decide)]
  clear Z1 Z2 CI
  go_enter Tryd.func27, Tryd.ntmps27
  go_upto_region 9 with (first
    | (go_at_call 22; refine (CC.out _).mono ?_; rintro e w1 ⟨rfl, hb⟩; have H1 := Lib.hid (HI.out.on hb); clear hb)
    | (go_at_call 45; refine (CL.out _).mono ?_; rintro e w2 ⟨rfl, rfl⟩))
  obtain ⟨tyq, cs, hB, hi, hat⟩ := H1.out.tabs.tests_any
  have HB := Lib.hid hB
  have HX := Lib.hid hi
  have HA := Lib.hid hat
  clear hB hi hat HI k0 k1 k2 k3 k4 j1 j2 j3 CC CL
  go_wp2_with (refine wpList_load_row rfl testsT _ rfl 1 rfl tyq cs (0, 0) _ HB.out Tryd.underlying88 rfl HX.out ?_)
  clear HB HX
  go_loopw [34] (fun i wr => ∃ k : Nat, i = .int .i64 (k : Int) ∧ k ≤ 11 ∧ In w wr w.heap.size o d s f m ∧ testG (bits .and .i64 o 240) (testLine o d s f m) (testL.drop k) = testG (bits .and .i64 o 240) (testLine o d s f m) testL) (fun i _ => 11 - (Lib.intOf i).toNat)
  case atStart => exact ⟨0, rfl, by decide, H1.out, rfl⟩
  case round =>
    obtain ⟨k, rfl, hk, hR, hD⟩ := hrel
    have HR := Lib.hid hR
    have HD := Lib.hid hD
    have HK := Lib.hid hk
    clear hR hD hk H1
    by_cases h7 : k < 11
    · obtain ⟨nm, md, e1, e2, e3⟩ := HA.out k h7
      have HS := Lib.hid e2
      have i1 : (k : Int) < 11 := by omega
      have HW := Lib.hid h7
      have HD2 : Hid (testG (bits .and .i64 o 240) (testLine o d s f m) ((nm, md) :: testL.drop (k + 1)) = testG (bits .and .i64 o 240) (testLine o d s f m) testL) := by
        have := HD.out
        rwa [drop_at e1] at this
      have HN : Hid (∀ o', In w (wr.alloc o') w.heap.size o d s f m) := fun o' => HR.out.on (below_alloc _ _)
      have HC : Hid (∀ cs, Blk (wr.alloc (.cells cs 87)) wr.heap.size 87 cs) := fun cs => Blk.new _ _ _
      have c0 : ∀ o', (wr.alloc o').cell? ⟨w.heap.size, 0, none⟩ = some (.int .i64 o) := fun o' => (HN.out o').slot.cell 0
      clear h7 e1 e2 HD
      obtain ⟨z, ez⟩ : ∃ z, bits .and .i64 o 240 = z := ⟨_, rfl⟩
      have HZ := Lib.hid ez
      by_cases hq : md = z
      · have HP : Hid (testG (bits .and .i64 o 240) (testLine o d s f m) testL = saidT [ifT, rd, nm, sc, gotoT, ft]) := by
          rw [← HD2.out, testG, if_pos (hq.trans HZ.out.symm), HU.out nm]
          exact rfl
        have HSZ := Lib.hid (Z3.out nm HS.out)
        subst hq
        clear HD2 HU Z3
        go_upto_region 13 with fail
        have G0 := Lib.hid ((HN.out (.cells #[.string nm, .int .i64 md] 87)).on (below_drew _))
        have T0 := Lib.hid (blk_on (HC.out #[.string nm, .int .i64 md]) (below_drew _))
        go_region_held3 (fun W => W.cell? ⟨wr.heap.size, 0, none⟩ = some (.string nm) ∧ W.cell? ⟨w.heap.size, 0, none⟩ = some (.int .i64 o) ∧ W.cell? ⟨w.heap.size, 1, none⟩ = some (.int .i64 d) ∧ W.cell? ⟨w.heap.size, 2, none⟩ = some (.int .i64 s) ∧ W.cell? ⟨w.heap.size, 3, none⟩ = some (.int .i64 f) ∧ W.cell? ⟨w.heap.size, 4, none⟩ = some (.int .i64 m))
          (first | exact ⟨T0.out.cell 0, G0.out.five⟩ | exact ⟨T1.out.cell 0, G1.out.five⟩ | exact ⟨T2.out.cell 0, G2.out.five⟩ | exact ⟨T3.out.cell 0, G3.out.five⟩ | exact ⟨(blk_on T3.out (below_alloc _ _)).cell 0, (G3.out.on (below_alloc _ _)).five⟩ | exact ⟨T4.out.cell 0, G4.out.five⟩)
          (first
            | (go_at_call 36; refine (CR.out _ G0.out.tabs).mono ?_; rintro e w2 ⟨rfl, hb⟩; have G1 := Lib.hid (G0.out.on hb); have T1 := Lib.hid (blk_on T0.out hb); clear hb)
            | (go_at_call 44; refine (CS.out _ G1.out.tabs).mono ?_; rintro e w2 ⟨rfl, hb⟩; have G2 := Lib.hid (G1.out.on hb); have T2 := Lib.hid (blk_on T1.out hb); clear hb)
            | (go_at_call 49; refine (CF.out _ G2.out.tabs).mono ?_; rintro e w2 ⟨rfl, hb⟩; have G3 := Lib.hid (G2.out.on hb); have T3 := Lib.hid (blk_on T2.out hb); clear hb)
            | (go_at_call 37; refine (said_any _ _ _ [ifT, rd, nm, sc, gotoT, ft] (Blk.new _ _ _) (Nat.le_of_ble_eq_true rfl) 100 (by decide) HSZ.out).mono ?_; rintro e w5 ⟨rfl, hb⟩; have G4 := Lib.hid ((G3.out.on (below_alloc _ _)).on hb); have T4 := Lib.hid (blk_on (blk_on T3.out (below_alloc _ _)) hb); clear hb))
        go_wp2_with fail
        go_ret
        exact ⟨by rw [HP.out]; rfl, G4.out.below⟩
      · have HD3 : Hid (testG (bits .and .i64 o 240) (testLine o d s f m) (testL.drop (k + 1)) = testG (bits .and .i64 o 240) (testLine o d s f m) testL) := by
          rw [← HD2.out, testG, if_neg (fun h => hq (h.trans HZ.out))]
          exact rfl
        have b0 : (md == z) = false := by simpa using hq
        clear HD2 hq
        go_wp2_with fail
        go_roundw
        case rel => exact ⟨k + 1, rfl, HW.out, HN.out _, HD3.out⟩
        case measure =>
          have := HW.out
          simp only [Lib.intOf]
          omega
    · have hk7 : k = 11 := by have := HK.out; omega
      subst hk7
      have HF : Hid (testG (bits .and .i64 o 240) (testLine o d s f m) testL = emptyT) := by
        rw [← HD.out]
        exact rfl
      clear h7 HD HK
      go_wp2_with fail
      go_ret
      exact ⟨by rw [HF.out]; rfl, HR.out.below⟩
end Go.Proofs.YtpjfnnlopcccaaaDoor
