/-
  The law QueuePlays, walked.
-/
import Derived.Test.YtgmombgjjmgooaaQAwake
namespace Go.Proofs.Ytgmombgjjmgooaa
open Go Go.RowKit
set_option linter.unusedVariables false
set_option linter.unusedSimpArgs false
set_option maxRecDepth 100000
abbrev deedT : TypeId := 33
abbrev deedC (kd fl : Int) (s : ByteArray) : Array Value := #[.int .i64 kd, .int .i64 fl, .string s]
structure PB (B : Nat) (w0 : World) (x r g base y : Nat) (k : Int) (v mx : Nat) (L M : List ByteArray) (w : World) : Prop where
  below : Below B w0 w
  sz : B ≤ w.heap.size
  qq : QM w x r g k v mx L
  rr : RQ w base y k v mx M
  hr : B ≤ r ∧ r < base ∧ r ≠ y
  hg : B ≤ g ∧ g < base ∧ g ≠ y
  hx : x ≠ y
  hy : B ≤ y
section
variable {B : Nat} {w0 w w1 : World} {x r g base y v mx : Nat} {k : Int} {L L' M M' : List ByteArray}
theorem PB.quiet (h : PB B w0 x r g base y k v mx L M w) (hb : Below w.heap.size w w1) : PB B w0 x r g base y k v mx L M w1 :=
  ⟨h.below.trans (hb.mono h.sz), Nat.le_trans h.sz hb.size, h.qq.below hb, h.rr.below hb, h.hr, h.hg, h.hx, h.hy⟩
theorem PB.prog (h : PB B w0 x r g base y k v mx L M w) (hq : QM w1 x r g k v mx L') (hk : Keeps (rg r g) w w1) : PB B w0 x r g base y k v mx L' M w1 :=
  ⟨h.below.trans (hk.below (fun b hb => by have := h.hr; have := h.hg; rcases hb with rfl | rfl <;> omega) h.sz), Nat.le_trans h.sz hk.size, hq,
    h.rr.keeps hk (by have := h.hr; have := h.hg; rintro (e | e) <;> omega) (fun b hb => by have := h.hr; have := h.hg; rcases hb with rfl | rfl <;> omega), h.hr, h.hg, h.hx, h.hy⟩
theorem QM.keeps {S : Nat → Prop} (h : QM w x r g k v mx L) (hk : Keeps S w w1) (hx : ¬ S x) (hr : ¬ S r) (hg : ¬ S g) : QM w1 x r g k v mx L :=
  ⟨h.map.keeps hk hx, h.row.keeps hk hr hg, h.v4⟩
theorem PB.ref (h : PB B w0 x r g base y k v mx L M w) (hq : RQ w1 base y k v mx M') (hk : Keeps (isY y) w w1) : PB B w0 x r g base y k v mx L M' w1 :=
  ⟨h.below.trans (hk.below (fun b hb => by have e : b = y := hb; have := h.hy; omega) h.sz), Nat.le_trans h.sz hk.size,
    h.qq.keeps hk h.hx h.hr.2.2 h.hg.2.2, hq, h.hr, h.hg, h.hx, h.hy⟩
theorem QM.off {d : Nat} {cs : Array Value} (h : QM w x r g k v mx L) (hd : Blk w d deedT cs) : ¬ rg r g d := by
  obtain ⟨h1, ⟨f, h2, ⟨cs', h3, _⟩, _⟩, _⟩ := h
  rintro (e | e)
  · exact hd.ne_ h2 (by decide) e
  · exact hd.ne_ h3 (by decide) e
theorem RQ.off {d : Nat} {cs : Array Value} (h : RQ w base y k v mx L) (hd : Blk w d deedT cs) : ¬ isY y d := by
  obtain ⟨⟨V, h1, _⟩, _⟩ := h
  exact hd.ne_ h1 (by decide)
theorem below_drew1 (w : World) : Below w.heap.size w w.drew := ⟨rfl, rfl, rfl, Nat.le_refl _, fun _ _ => rfl⟩
theorem PB.drew (h : PB B w0 x r g base y k v mx L M w) : PB B w0 x r g base y k v mx L M w.drew := h.quiet (below_drew1 w)
theorem PB.drewN (h : PB B w0 x r g base y k v mx L M w) (n : Nat) : PB B w0 x r g base y k v mx L M (w.drewN n) := h.quiet (below_drewN w n)
/-- Where the reference's list lies. -/
theorem PB.list (h : PB B w0 x r g base y k v mx L M w) : ∃ A c, w.cell? ⟨y, 4, none⟩ = some (.slice A M.length c) := by
  obtain ⟨⟨V, h1, h2⟩, _⟩ := h.rr
  obtain ⟨A, c, rfl⟩ := strs_shape h2
  exact ⟨A, c, h1.cell 4⟩
end
theorem plays_no (k key v mx : Int) (h : fitsB k key v mx = false) (A : Option Addr) (len cap : Nat) (w : World) :
    Calls Try.prog 3 #[specV k key v mx, .slice A len cap] w fun e w' => e = .returned (.bool true) ∧ Below w.heap.size w w' := by
  have B0 := Lib.hid (below_alloc w (.cells (specC k key v mx) 23))
  have HB := Lib.hid (Blk.new w 23 (specC k key v mx))
  have C1 := Lib.hid (new_no k key v mx h)
  have C2 := Lib.hid (xnew_no k key v mx h)
  clear h
  go_enter Try.func3, Try.ntmps3
  go_upto_region 2 with (go_at_call 7; refine (C1.out _).mono ?_; rintro e w1 ⟨rfl, hb⟩; have B1 := Lib.hid (below_then B0.out hb); have HB1 := Lib.hid (blk_below HB.out hb); clear hb)
  have d0 : w1.cell? ⟨w.heap.size, 0, none⟩ = some (.int .i64 k) := HB1.out.cell 0
  have d1 : w1.cell? ⟨w.heap.size, 1, none⟩ = some (.int .i64 key) := HB1.out.cell 1
  have d2 : w1.cell? ⟨w.heap.size, 2, none⟩ = some (.int .i64 v) := HB1.out.cell 2
  have d3 : w1.cell? ⟨w.heap.size, 3, none⟩ = some (.int .i64 mx) := HB1.out.cell 3
  go_upto_region 5 with (go_at_call 8; refine (C2.out _).mono ?_; rintro e w2 ⟨rfl, hb⟩; have B2 := Lib.hid (below_then B1.out hb); clear hb)
  clear d0 d1 d2 d3
  go_wp2_with fail
  go_loopw [9] (fun i wr => i = .int .i64 0 ∧ Below w.heap.size w wr) (fun _ _ => 0)
  case atStart => exact ⟨rfl, B2.out⟩
  case round =>
    obtain ⟨rfl, hb⟩ := hrel
    have BR := Lib.hid hb
    clear hb B0 B1 B2 HB HB1 C1 C2
    by_cases hl : 0 < len
    · have g1 : decide (0 < len) = true := by simpa using hl
      go_wp2_with (go_at_call 16; refine (awake_later BR.out BR.out.size).mono ?_; rintro e w7 ⟨rfl, hb⟩; have B7 := Lib.hid hb; clear hb)
      go_ret
      exact ⟨rfl, B7.out⟩
    · obtain rfl : len = 0 := by omega
      go_wp2_with (go_at_call 16; refine (awake_later BR.out BR.out.size).mono ?_; rintro e w7 ⟨rfl, hb⟩; have B7 := Lib.hid hb; clear hb)
      go_ret
      exact ⟨rfl, B7.out⟩
/-- Deed i of a list of deeds. -/
def DeedAt (w : World) (b o : Nat) (kd fl : Int) (s : ByteArray) : Prop := w.cell? ⟨b, o, none⟩ = some (.int .i64 kd) ∧ w.cell? ⟨b, o + 1, none⟩ = some (.int .i64 fl) ∧ w.cell? ⟨b, o + 2, none⟩ = some (.string s)
theorem new_both (k : Int) (v mx : Nat) (h : fitsB k 0 v mx = true) (w w1 : World) (x r g y : Nat) (w2 : World) (b0 : Below w.heap.size w w1) (hq : QM w1 x r g k v mx []) (hz : w.heap.size ≤ x ∧ w.heap.size ≤ r ∧ w.heap.size ≤ g) (hx : RQ w2 w2.heap.size y k v mx []) (hy : w1.heap.size ≤ y) (hb : Below w1.heap.size w1 w2) :
    PB w.heap.size w x r g w2.heap.size y k v mx [] [] w2 := by
  have h1 := hq.row.lt
  have h2 := hq.map.lt
  have h3 := hb.size
  have h4 := b0.size
  exact ⟨b0.trans (hb.mono h4), Nat.le_trans h4 h3, hq.below hb, hx, by omega, by omega, by omega, by omega⟩
set_option maxHeartbeats 4000000 in
theorem plays_ok (k : Int) (v mx : Nat) (h : fitsB k 0 v mx = true) (A : Option Addr) (len cap : Nat) (hlc : len ≤ cap) (hm : cap ≤ 9223372036854775807) (w : World)
    (hA : ∀ i, i < len → ∃ (b off : Nat) (kd fl : Int) (ss : ByteArray), A = some ⟨b, off, none⟩ ∧ b < w.heap.size ∧ DeedAt w b (off + i * 3) kd fl ss) :
    Calls Try.prog 3 #[specV k 0 v mx, .slice A len cap] w fun e w' => e = .returned (.bool true) ∧ Below w.heap.size w w' := by
  have B0 := Lib.hid (below_alloc w (.cells (specC k 0 v mx) 23))
  have HB := Lib.hid (Blk.new w 23 (specC k 0 v mx))
  have C1 := Lib.hid (new_ok k v mx h)
  have C2 := Lib.hid (xnew_ok k v mx h)
  have HF := Lib.hid h
  have HA := Lib.hid hA
  clear h hA
  go_enter Try.func3, Try.ntmps3
  go_upto_region 2 with (go_at_call 7; refine (C1.out _).mono ?_; rintro e w1 ⟨x, r, g, rfl, h1, h2, h3⟩; have B1 := Lib.hid (below_then B0.out h3); have HB1 := Lib.hid (blk_below HB.out h3); have H1 := Lib.hid h1; have HZ : Hid (w.heap.size ≤ x ∧ w.heap.size ≤ r ∧ w.heap.size ≤ g) := ⟨Nat.le_trans B0.out.size h2.1, Nat.le_trans B0.out.size h2.2.1, Nat.le_trans B0.out.size h2.2.2⟩; clear h1 h2 h3)
  have d0 : w1.cell? ⟨w.heap.size, 0, none⟩ = some (.int .i64 k) := HB1.out.cell 0
  have d1 : w1.cell? ⟨w.heap.size, 1, none⟩ = some (.int .i64 0) := HB1.out.cell 1
  have d2 : w1.cell? ⟨w.heap.size, 2, none⟩ = some (.int .i64 v) := HB1.out.cell 2
  have d3 : w1.cell? ⟨w.heap.size, 3, none⟩ = some (.int .i64 mx) := HB1.out.cell 3
  go_upto_region 5 with (go_at_call 8; refine (C2.out _).mono ?_; rintro e w2 ⟨y, rfl, h1, h2, h3⟩; have HP := Lib.hid (new_both k v mx HF.out w w1 x r g y w2 B1.out H1.out HZ.out h1 h2 h3); clear h1 h2 h3)
  clear d0 d1 d2 d3 B0 B1 HB HB1 C1 C2 H1 HZ
  have HMX : Hid (1 ≤ mx) := by have := fits_true HF.out; unfold Hid; omega
  clear HF
  generalize w2.heap.size = base at *
  go_wp2_with fail
  go_loopw [9] (fun i wr => ∃ q : Nat, q ≤ len ∧ i = .int .i64 q ∧ ∃ L, PB w.heap.size w x r g base y k v mx L L wr) (fun i _ => len - (intOf i).toNat)
  case atStart => exact ⟨0, by omega, rfl, [], HP.out⟩
  case round =>
    clear HP
    obtain ⟨q, hq1, rfl, L, hP⟩ := hrel
    have HP := Lib.hid hP; clear hP
    by_cases hlt : q < len
    · obtain ⟨b, off, kd, fl, ss, rfl, hb, t0, t1, t2⟩ := HA.out q hlt
      have hc : ∀ o, wr.cell? ⟨b, o, none⟩ = w.cell? ⟨b, o, none⟩ := fun o => HP.out.below.cell (p := ⟨b, o, none⟩) hb
      rw [← hc] at t0 t1 t2
      clear hc
      have g1 : decide (q < len) = true := by simpa using hlt
      have i2 : (q : Int) < (len : Int) := by omega
      have HP1 : Hid (∀ cs, PB w.heap.size w x r g base y k v mx L L (wr.alloc (.cells cs deedT))) := fun cs => HP.out.quiet (below_alloc _ _)
      have HD : Hid (∀ cs, Blk (wr.alloc (.cells cs deedT)) wr.heap.size deedT cs) := fun cs => Blk.new wr deedT cs
      clear HA
      go_upto_region 10 with fail
      have HP2 := Lib.hid (HP1.out (deedC kd fl ss))
      have HD2 := Lib.hid (HD.out (deedC kd fl ss))
      generalize wr.heap.size = D at *
      generalize World.alloc _ _ = wd at HP2 HD2 ⊢
      have u0 : wd.cell? ⟨D, 0, none⟩ = some (.int .i64 kd) := HD2.out.cell 0
      by_cases h0 : kd = 0
      · subst h0
        have CX := Lib.hid (fun W (h : PB w.heap.size w x r g base y k v mx L L W) => push_any h.qq HMX.out ss fl)
        have CY := Lib.hid (fun W (h : PB w.heap.size w x r g base y k v mx (pushL v mx L ss fl) L W) => xpush_any h.rr HMX.out ss fl)
        generalize pushE v mx L ss fl = E at *
        generalize pushL v mx L ss fl = L' at *
        go_upto_region 15 with fail
        have S0 : Hid (wd.cell? ⟨D, 1, none⟩ = some (.int .i64 fl) ∧ wd.cell? ⟨D, 2, none⟩ = some (.string ss)) := ⟨HD2.out.cell 1, HD2.out.cell 2⟩
        go_region_held3 (fun W => W.cell? ⟨D, 1, none⟩ = some (.int .i64 fl) ∧ W.cell? ⟨D, 2, none⟩ = some (.string ss))
          (first | exact S0.out | exact S1.out | exact S2.out)
          (first
            | (go_at_call 9; refine (CX.out _ HP2.out.drew).mono ?_; rintro e w3 ⟨rfl, hq, hk⟩; have HP3 := Lib.hid (HP2.out.drew.prog hq hk); have HD3 := Lib.hid (HD2.out.drew.keeps hk (HP2.out.drew.qq.off HD2.out.drew)); have S1 : Hid (w3.cell? ⟨D, 1, none⟩ = some (.int .i64 fl) ∧ w3.cell? ⟨D, 2, none⟩ = some (.string ss)) := ⟨HD3.out.cell 1, HD3.out.cell 2⟩; clear hq hk)
            | (go_at_call 10; refine (CY.out _ HP3.out).mono ?_; rintro e w4 ⟨rfl, hq, hk⟩; have HP4 := Lib.hid (HP3.out.ref hq hk); have HD4 := Lib.hid (HD3.out.keeps hk (HP3.out.rr.off HD3.out)); have S2 : Hid (w4.cell? ⟨D, 1, none⟩ = some (.int .i64 fl) ∧ w4.cell? ⟨D, 2, none⟩ = some (.string ss)) := ⟨HD4.out.cell 1, HD4.out.cell 2⟩; clear hq hk))
        obtain ⟨A5, c5, hy4⟩ := HP4.out.list
        have CL := Lib.hid (fun N => (len_any (HP4.out.drewN N).qq).mono fun e w' he => (⟨he.1, he.2.symm⟩ : _ ∧ _))
        go_upto_region 20 with fail
        generalize List.length L' = n at *
        go_quiet ((go_at_call 15; exact Calls.quiet_of_same (CL.out _)))
        go_wp2_with fail
        go_roundw
        case rel => exact ⟨q + 1, by omega, by go_num, L', HP4.out.drewN _⟩
        case measure => simp [intOf]; omega
      · by_cases h1 : kd = 1
        · subst h1
          have CX := Lib.hid (fun W (h : PB w.heap.size w x r g base y k v mx L L W) => pop_any h.qq)
          have CY := Lib.hid (fun W (h : PB w.heap.size w x r g base y k v mx (rest k L) L W) => xpop_any h.rr)
          generalize peekS k L = s1 at *
          generalize peekE k L = e1 at *
          generalize rest k L = L' at *
          go_upto_region 20 with (first
            | (go_at_call 11; refine (CX.out _ HP2.out).mono ?_; rintro e w3 ⟨rfl, hq, hk⟩; have HP3 := Lib.hid (HP2.out.prog hq hk); clear hq hk)
            | (go_at_call 12; refine (CY.out _ HP3.out).mono ?_; rintro e w4 ⟨rfl, hq, hk⟩; have HP4 := Lib.hid (HP3.out.ref hq hk); clear hq hk))
          obtain ⟨A5, c5, hy4⟩ := HP4.out.list
          have CL := Lib.hid (fun N => (len_any (HP4.out.drewN N).qq).mono fun e w' he => (⟨he.1, he.2.symm⟩ : _ ∧ _))
          generalize List.length L' = n at *
          go_quiet ((go_at_call 15; exact Calls.quiet_of_same (CL.out _)))
          go_wp2_with fail
          go_roundw
          case rel => exact ⟨q + 1, by omega, by go_num, L', HP4.out.drewN _⟩
          case measure => simp [intOf]; omega
        · have CX := Lib.hid (fun W (h : PB w.heap.size w x r g base y k v mx L L W) => peek_any h.qq)
          have CY := Lib.hid (fun W (h : PB w.heap.size w x r g base y k v mx L L W) => xpeek_any h.rr)
          have z0 : (kd == 0) = false := by simpa using h0
          have z1 : (kd == 1) = false := by simpa using h1
          generalize peekS k L = s1 at *
          generalize peekE k L = e1 at *
          go_upto_region 20 with (first
            | (go_at_call 13; refine (CX.out _ HP2.out).mono ?_; rintro e w3 ⟨rfl, hq, hk⟩; have HP3 := Lib.hid (HP2.out.prog hq hk); clear hq hk)
            | (go_at_call 14; refine (CY.out _ HP3.out).mono ?_; rintro e w4 ⟨rfl, hq, hk⟩; have HP4 := Lib.hid (HP3.out.ref hq hk); clear hq hk))
          obtain ⟨A5, c5, hy4⟩ := HP4.out.list
          have CL := Lib.hid (fun N => (len_any (HP4.out.drewN N).qq).mono fun e w' he => (⟨he.1, he.2.symm⟩ : _ ∧ _))
          generalize List.length L = n at *
          go_quiet ((go_at_call 15; exact Calls.quiet_of_same (CL.out _)))
          go_wp2_with fail
          go_roundw
          case rel => exact ⟨q + 1, by omega, by go_num, L, HP4.out.drewN _⟩
          case measure => simp [intOf]; omega
    · obtain rfl : q = len := by omega
      go_wp2_with (go_at_call 16; refine (awake_later HP.out.below HP.out.sz).mono ?_; rintro e w7 ⟨rfl, hb⟩; have B7 := Lib.hid hb; clear hb)
      go_ret
      exact ⟨rfl, B7.out⟩
end Go.Proofs.Ytgmombgjjmgooaa
