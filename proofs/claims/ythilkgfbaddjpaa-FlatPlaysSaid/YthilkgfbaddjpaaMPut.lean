/-
  The reference of layer 8: Update that writes.
-/
import Derived.Test.YthilkgfbaddjpaaMUp
namespace Go.Proofs.Ythilkgfbaddjpaa
open Go Go.RowKit Go.Maps
set_option linter.unusedVariables false
set_option linter.unusedSimpArgs false
set_option maxRecDepth 100000
/-- Bytes l laid at q in those of p. -/
def zq (z : Nat → List UInt8) (q : Nat) (l : List UInt8) (p : Nat → Bool) : Nat → List UInt8 := fun i => if p i = true then setAt (z i) q l else z i
/-- Whom an Update of a CPU writes, of the first m regions. -/
def pU (k cpu : Int) (m : Nat) : Nat → Bool := fun i => decide (1 ≤ i ∧ i ≤ m ∧ (k = 2 ∨ cpu = -1 ∨ cpu = (i : Int) - 1))
theorem keeps_drew_grow {wr w1 : World} (hb : Below wr.drew.heap.size wr.drew w1) : Keeps (fun _ => False) wr w1 :=
  ((Keeps.refl _ wr).drew).trans ((keeps_grow hb).mono fun b hf => hf.elim)
section
variable {z : Nat → List UInt8} {q m n : Nat} {l : List UInt8} {k cpu : Int}
theorem pU_zero : zq z q l (pU k cpu 0) = z := by
  funext i
  unfold zq pU
  rw [if_neg (by simp; omega)]
theorem pU_yes (h : k = 2 ∨ cpu = -1 ∨ cpu = (m : Int)) : upz (zq z q l (pU k cpu m)) (m + 1) (setAt (zq z q l (pU k cpu m) (m + 1)) q l) = zq z q l (pU k cpu (m + 1)) := by
  funext i
  unfold upz zq pU
  by_cases hi : i = m + 1
  · subst hi
    rw [if_pos rfl, if_neg (by simp; omega), if_pos (by simp; omega)]
  · rw [if_neg hi]
    by_cases h2 : 1 ≤ i ∧ i ≤ m ∧ (k = 2 ∨ cpu = -1 ∨ cpu = (i : Int) - 1)
    · rw [if_pos (by simpa using h2), if_pos (by simp; omega)]
    · rw [if_neg (by simpa using h2), if_neg (by simp; omega)]
theorem pU_no (h : ¬ (k = 2 ∨ cpu = -1 ∨ cpu = (m : Int))) : pU k cpu m = pU k cpu (m + 1) := by
  funext i
  unfold pU
  refine decide_eq_decide.2 ⟨fun ⟨h1, h2, h3⟩ => ⟨h1, by omega, h3⟩, fun ⟨h1, h2, h3⟩ => ⟨h1, ?_, h3⟩⟩
  rcases Nat.lt_or_ge m i with h4 | h4
  · exfalso; apply h; rcases h3 with h3 | h3 | h3
    · exact .inl h3
    · exact .inr (.inl h3)
    · exact .inr (.inr (by omega))
  · exact h4
theorem zq_len {p : Nat → Bool} {L : Nat} (hz : ∀ i, (z i).length = L) (h : q + l.length ≤ L) : ∀ i, (zq z q l p i).length = L := by
  intro i
  unfold zq
  by_cases h2 : p i = true
  · rw [if_pos h2, setAt_length _ _ _ (by rw [hz]; exact h), hz]
  · rw [if_neg h2, hz]
/-- A value lies within its region. -/
theorem fit_in {j mx v : Nat} (h : j < mx) : j * wide v + v ≤ mx * wide v := by
  have h1 : (j + 1) * wide v ≤ mx * wide v := Nat.mul_le_mul_right _ h
  have h2 : v ≤ wide v := by unfold wide; omega
  rw [Nat.succ_mul] at h1
  omega
end
section
variable {w : World} {T : Nat → Prop} {bx y : Nat}
set_option maxHeartbeats 2000000 in
theorem yupd_ok_arr (c cpu : Int) (v mx made fl cc : Nat) (z : Nat → List UInt8) (A : Option Addr) (s : ByteArray) (l : List UInt8) (f : Int) (hx : XSide w T bx ⟨made, fl, rng 0 1 z⟩) (hy : Blk w y 79 (refC bx 2 v mx c (.slice A 1 cc) false)) (ny : ¬ T y)
    (hA : ∀ i, i < 1 → ∃ g, A = some ⟨g, 0, none⟩ ∧ g < w.heap.size ∧ ¬ T g ∧ g ≠ y ∧ w.cell? ⟨g, i, none⟩ = some (.int .u64 (addr (i + 1) 0))) (hv : v ≤ 4096) (hm : mx ≤ 4096) (hf : f = 0 ∨ f = 2) (hl : l.length = v) (j : Nat) (hj : idx s = j) (hjm : j < mx) (hz : ∀ i, (z i).length = mx * wide v) :
    Calls Try.prog 35 #[.pointer (some ⟨y, 0, none⟩), .string s, .string (bstr l), .int .i64 f, .int .i64 cpu] w fun e w' => e = .returned (.int .i64 0) ∧ ∃ T', XS w T bx ⟨made, fl, rng 0 1 (zq z (j * wide v) l (pU 2 cpu 1))⟩ T' w' := by
  have CI := Lib.hid (index_any (.pointer (some ⟨y, 0, none⟩)) s)
  rw [hj] at CI
  have c7 : w.cell? ⟨y, 7, none⟩ = some (.bool false) := hy.cell 7
  have c1 : w.cell? ⟨y, 1, none⟩ = some (.int .i64 2) := hy.cell 1
  have c3 : w.cell? ⟨y, 3, none⟩ = some (.int .i64 v) := hy.cell 3
  have c4 : w.cell? ⟨y, 4, none⟩ = some (.int .i64 mx) := hy.cell 4
  have c5 : w.cell? ⟨y, 5, none⟩ = some (.int .i64 c) := hy.cell 5
  have g1 : decide ((j : Int) < 0) = false := decide_eq_false (by omega)
  have g2 : decide ((mx : Int) ≤ (j : Int)) = false := decide_eq_false (by omega)
  have g0 : decide (mx ≤ j) = false := decide_eq_false (by omega)
  have g3 : (((bstr l).size : Int) != (v : Int)) = false := by rw [bstr_size, hl]; simp
  have f1 : decide (f < 0) = false := decide_eq_false (by omega)
  have f2 : decide (2 < f) = false := decide_eq_false (by omega)
  have f3 : (f == 1) = false := by rw [beq_eq_false_iff_ne]; omega
  have HX := Lib.hid (XS.start hx)
  have HY := Lib.hid hy
  have NY := Lib.hid ny
  have HA := Lib.hid hA
  have HV := Lib.hid (And.intro hv (And.intro hm hl))
  have HJ := Lib.hid (And.intro hj hjm)
  have HZ := Lib.hid hz
  clear hx hy ny hA hv hm hf hl hj hjm hz
  go_enter Try.func35, Try.ntmps35
  go_wp2_with (go_at_call 52; refine (CI.out _).mono ?_; rintro e w1 ⟨rfl, rfl⟩)
  clear c1 c3 c4 c5 c7 g1 g2 g0 g3 f1 f2 f3
  go_loopw [12] (fun i wr => ∃ (j' : Nat) (T' : Nat → Prop), j' ≤ 1 ∧ i = .int .i64 j' ∧ XS w T bx ⟨made, fl, rng 0 1 (zq z (j * wide v) l (pU 2 cpu j'))⟩ T' wr) (fun i _ => 1 - (intOf i).toNat)
  case atStart => exact ⟨0, T, by omega, rfl, by rw [pU_zero]; exact HX.out⟩
  case round =>
    clear HX
    obtain ⟨j', T', hj', rfl, hk⟩ := hrel
    have HK := Lib.hid hk
    clear hk
    have hyr := HY.out.keeps HK.out.2.1 NY.out
    have d0 : wr.cell? ⟨y, 0, none⟩ = some (.pointer (some ⟨bx, 0, none⟩)) := hyr.cell 0
    have d1 : wr.cell? ⟨y, 1, none⟩ = some (.int .i64 2) := hyr.cell 1
    have d6 : wr.cell? ⟨y, 6, none⟩ = some (.slice A 1 cc) := hyr.cell 6
    by_cases hlt : j' < 1
    · obtain ⟨g, rfl, g1, g2, g3, g4⟩ := HA.out j' hlt
      have c0 : wr.cell? ⟨g, j', none⟩ = some (.int .u64 (addr (j' + 1) 0)) := (World.cell?_of_block (HK.out.2.1.block g g1 g2)).trans g4
      have NYT : Hid (¬ T' y) := fun hs => by
        rcases HK.out.2.2 y hs with hs | hs
        · exact NY.out hs
        · have := HY.out.lt; omega
      have HW : Hid (wrap64 ((j' : Int) + 1) = (j' : Int) + 1) := by unfold Hid wrap64; omega
      obtain rfl : j' = 0 := by omega
      have CL := Lib.hid (ylook_arr (c := c) ((0 : Nat) : Int) v mx cc g HV.out.1 HV.out.2.1 s (show Blk wr.drew y _ _ from hyr) (show wr.drew.cell? _ = _ from c0) j HJ.out.1 HJ.out.2)
      have S1 : Hid (wr.cell? ⟨y, 0, none⟩ = some (.pointer (some ⟨bx, 0, none⟩))) := d0
      have HYR := Lib.hid hyr
      have HLT := Lib.hid hlt
      have hq : j * wide v + v ≤ mx * wide v := fit_in HJ.out.2
      have hq2 : j * wide v ≤ 4096 * 4103 := Nat.mul_le_mul (by have := HJ.out.2; have := HV.out.2.1; omega) (by have := HV.out.1; unfold wide; omega)
      have h3 := xput bx made fl 1 (zq z (j * wide v) l (pU 2 cpu 0)) (0 + 1) (j * wide v) (by omega) (by decide) l (by have := HV.out; omega) (by omega) (by rw [zq_len HZ.out (by have := HV.out; omega)]; have := HV.out; omega)
      have hp2 : ∀ hc : 2 = (2 : Int) ∨ cpu = -1 ∨ cpu = ((0 : Nat) : Int), _ := fun hc => (pU_yes (z := z) (q := j * wide v) (l := l) hc)
      clear g1 g2 g3 g4 hyr c0 hlt HA hq hq2
      rw [hp2 (.inl rfl)] at h3
      have XP := Lib.hid h3
      clear hp2 h3
      generalize j * wide v = q at *
      go_wp2_with fail
      go_region_held3 (fun W => W.cell? ⟨y, 0, none⟩ = some (.pointer (some ⟨bx, 0, none⟩)))
        (first | exact S1.out | exact S2.out | exact S3.out)
        (first
          | (go_at_call 34; go_loud (refine CL.out.mono ?_); rintro e w1 ⟨rfl, hb⟩; have K1 := Lib.hid (keeps_drew_grow hb); have S2 : Hid (w1.cell? ⟨y, 0, none⟩ = some (.pointer (some ⟨bx, 0, none⟩))) := (HYR.out.keeps K1.out (fun hf => hf.elim)).cell 0; clear hb)
          | (go_at_call 53; refine ((HK.out.grow K1.out).call XP.out).mono ?_; rintro e w2 ⟨rfl, hx, kk⟩; have HX := Lib.hid hx; have S3 : Hid (w2.cell? ⟨y, 0, none⟩ = some (.pointer (some ⟨bx, 0, none⟩))) := ((HYR.out.keeps K1.out (fun hf => hf.elim)).keeps kk NYT.out).cell 0; clear hx kk))
      go_wp2_with fail
      go_roundw
      case rel => exact ⟨0 + 1, _, by have := HLT.out; omega, by first | (rw [HW.out]; go_num) | go_num, HX.out⟩
      case measure => (first | (rw [HW.out]; simp [intOf]) | simp [intOf])
    · obtain rfl : 1 = j' := by omega
      clear hlt hj'
      go_wp2_with fail
      go_ret
      exact ⟨rfl, T', HK.out⟩
end
section
variable {w : World} {T : Nat → Prop} {bx y : Nat}
set_option maxHeartbeats 2000000 in
theorem yupd_ok_cpu (n : Nat) (cpu : Int) (hn : n ≤ 8) (hc : -1 ≤ cpu ∧ cpu < n) (v mx made fl cc : Nat) (z : Nat → List UInt8) (A : Option Addr) (s : ByteArray) (l : List UInt8) (f : Int) (hx : XSide w T bx ⟨made, fl, rng 0 n z⟩) (hy : Blk w y 79 (refC bx 6 v mx n (.slice A n cc) false)) (ny : ¬ T y)
    (hA : ∀ i, i < n → ∃ g, A = some ⟨g, 0, none⟩ ∧ g < w.heap.size ∧ ¬ T g ∧ g ≠ y ∧ w.cell? ⟨g, i, none⟩ = some (.int .u64 (addr (i + 1) 0))) (hv : v ≤ 4096) (hm : mx ≤ 4096) (hf : f = 0 ∨ f = 2) (hl : l.length = v) (j : Nat) (hj : idx s = j) (hjm : j < mx) (hz : ∀ i, (z i).length = mx * wide v) :
    Calls Try.prog 35 #[.pointer (some ⟨y, 0, none⟩), .string s, .string (bstr l), .int .i64 f, .int .i64 cpu] w fun e w' => e = .returned (.int .i64 0) ∧ ∃ T', XS w T bx ⟨made, fl, rng 0 n (zq z (j * wide v) l (pU 6 cpu n))⟩ T' w' := by
  have CI := Lib.hid (index_any (.pointer (some ⟨y, 0, none⟩)) s)
  rw [hj] at CI
  have c7 : w.cell? ⟨y, 7, none⟩ = some (.bool false) := hy.cell 7
  have c1 : w.cell? ⟨y, 1, none⟩ = some (.int .i64 6) := hy.cell 1
  have c3 : w.cell? ⟨y, 3, none⟩ = some (.int .i64 v) := hy.cell 3
  have c4 : w.cell? ⟨y, 4, none⟩ = some (.int .i64 mx) := hy.cell 4
  have c5 : w.cell? ⟨y, 5, none⟩ = some (.int .i64 n) := hy.cell 5
  have g1 : decide ((j : Int) < 0) = false := decide_eq_false (by omega)
  have g2 : decide ((mx : Int) ≤ (j : Int)) = false := decide_eq_false (by omega)
  have g0 : decide (mx ≤ j) = false := decide_eq_false (by omega)
  have g3 : (((bstr l).size : Int) != (v : Int)) = false := by rw [bstr_size, hl]; simp
  have f1 : decide (f < 0) = false := decide_eq_false (by omega)
  have f2 : decide (2 < f) = false := decide_eq_false (by omega)
  have f3 : (f == 1) = false := by rw [beq_eq_false_iff_ne]; omega
  have k1 : decide (cpu < -1) = false := decide_eq_false (by omega)
  have k2 : decide ((n : Int) ≤ cpu) = false := decide_eq_false (by omega)
  have HC := Lib.hid hc
  have HN := Lib.hid hn
  clear hn hc
  have HX := Lib.hid (XS.start hx)
  have HY := Lib.hid hy
  have NY := Lib.hid ny
  have HA := Lib.hid hA
  have HV := Lib.hid (And.intro hv (And.intro hm hl))
  have HJ := Lib.hid (And.intro hj hjm)
  have HZ := Lib.hid hz
  clear hx hy ny hA hv hm hf hl hj hjm hz
  go_enter Try.func35, Try.ntmps35
  go_wp2_with (go_at_call 52; refine (CI.out _).mono ?_; rintro e w1 ⟨rfl, rfl⟩)
  clear c1 c3 c4 c5 c7 g1 g2 g0 g3 f1 f2 f3 k1 k2
  go_loopw [12] (fun i wr => ∃ (j' : Nat) (T' : Nat → Prop), j' ≤ n ∧ i = .int .i64 j' ∧ XS w T bx ⟨made, fl, rng 0 n (zq z (j * wide v) l (pU 6 cpu j'))⟩ T' wr) (fun i _ => n - (intOf i).toNat)
  case atStart => exact ⟨0, T, by omega, rfl, by rw [pU_zero]; exact HX.out⟩
  case round =>
    clear HX
    obtain ⟨j', T', hj', rfl, hk⟩ := hrel
    have HK := Lib.hid hk
    clear hk
    have hyr := HY.out.keeps HK.out.2.1 NY.out
    have d0 : wr.cell? ⟨y, 0, none⟩ = some (.pointer (some ⟨bx, 0, none⟩)) := hyr.cell 0
    have d1 : wr.cell? ⟨y, 1, none⟩ = some (.int .i64 6) := hyr.cell 1
    have d6 : wr.cell? ⟨y, 6, none⟩ = some (.slice A n cc) := hyr.cell 6
    by_cases hlt : j' < n
    · obtain ⟨g, rfl, g1, g2, g3, g4⟩ := HA.out j' hlt
      have c0 : wr.cell? ⟨g, j', none⟩ = some (.int .u64 (addr (j' + 1) 0)) := (World.cell?_of_block (HK.out.2.1.block g g1 g2)).trans g4
      have NYT : Hid (¬ T' y) := fun hs => by
        rcases HK.out.2.2 y hs with hs | hs
        · exact NY.out hs
        · have := HY.out.lt; omega
      have HW : Hid (wrap64 ((j' : Int) + 1) = (j' : Int) + 1) := by unfold Hid wrap64; have := HN.out; omega
      have CL := Lib.hid (ylook_cpu (c := n) j' n hlt HN.out v mx cc g HV.out.1 HV.out.2.1 s (show Blk wr.drew y _ _ from hyr) (show wr.drew.cell? _ = _ from c0) j HJ.out.1 HJ.out.2)
      have S1 : Hid (wr.cell? ⟨y, 0, none⟩ = some (.pointer (some ⟨bx, 0, none⟩))) := d0
      have HYR := Lib.hid hyr
      have HLT := Lib.hid hlt
      have hq : j * wide v + v ≤ mx * wide v := fit_in HJ.out.2
      have hq2 : j * wide v ≤ 4096 * 4103 := Nat.mul_le_mul (by have := HJ.out.2; have := HV.out.2.1; omega) (by have := HV.out.1; unfold wide; omega)
      have h3 := xput bx made fl n (zq z (j * wide v) l (pU 6 cpu j')) (j' + 1) (j * wide v) (by omega) (by exact HN.out) l (by have := HV.out; omega) (by omega) (by rw [zq_len HZ.out (by have := HV.out; omega)]; have := HV.out; omega)
      have hp2 : ∀ hc : 6 = (2 : Int) ∨ cpu = -1 ∨ cpu = ((j' : Nat) : Int), _ := fun hc => (pU_yes (z := z) (q := j * wide v) (l := l) hc)
      clear g1 g2 g3 g4 hyr c0 hlt HA hq hq2
      rcases (show (cpu = -1) ∨ ((cpu == -1) = false ∧ (cpu == (j' : Int)) = true) ∨ ((cpu == -1) = false ∧ (cpu == (j' : Int)) = false) by
        by_cases h1 : cpu = -1
        · exact .inl h1
        · by_cases h2 : cpu = (j' : Int)
          · exact .inr (.inl ⟨by rw [beq_eq_false_iff_ne]; exact h1, by rw [beq_iff_eq]; exact h2⟩)
          · exact .inr (.inr ⟨by rw [beq_eq_false_iff_ne]; exact h1, by rw [beq_eq_false_iff_ne]; exact h2⟩)) with rfl | ⟨h1, h2⟩ | ⟨h1, h2⟩
      · rw [hp2 (.inr (.inl rfl))] at h3
        have XP := Lib.hid h3
        clear hp2 h3
        generalize j * wide v = q at *
        go_wp2_with fail
        go_region_held3 (fun W => W.cell? ⟨y, 0, none⟩ = some (.pointer (some ⟨bx, 0, none⟩)))
          (first | exact S1.out | exact S2.out | exact S3.out)
          (first
            | (go_at_call 34; go_loud (refine CL.out.mono ?_); rintro e w1 ⟨rfl, hb⟩; have K1 := Lib.hid (keeps_drew_grow hb); have S2 : Hid (w1.cell? ⟨y, 0, none⟩ = some (.pointer (some ⟨bx, 0, none⟩))) := (HYR.out.keeps K1.out (fun hf => hf.elim)).cell 0; clear hb)
            | (go_at_call 53; refine ((HK.out.grow K1.out).call XP.out).mono ?_; rintro e w2 ⟨rfl, hx, kk⟩; have HX := Lib.hid hx; have S3 : Hid (w2.cell? ⟨y, 0, none⟩ = some (.pointer (some ⟨bx, 0, none⟩))) := ((HYR.out.keeps K1.out (fun hf => hf.elim)).keeps kk NYT.out).cell 0; clear hx kk))
        go_wp2_with fail
        go_roundw
        case rel => exact ⟨j' + 1, _, by have := HLT.out; omega, by first | (rw [HW.out]; go_num) | go_num, HX.out⟩
        case measure => (first | (rw [HW.out]; simp [intOf]; have := HLT.out; omega) | (simp [intOf]; have := HLT.out; omega))
      · rw [hp2 (.inr (.inr (by simpa using h2)))] at h3
        have XP := Lib.hid h3
        clear hp2 h3
        generalize j * wide v = q at *
        go_wp2_with fail
        go_region_held3 (fun W => W.cell? ⟨y, 0, none⟩ = some (.pointer (some ⟨bx, 0, none⟩)))
          (first | exact S1.out | exact S2.out | exact S3.out)
          (first
            | (go_at_call 34; go_loud (refine CL.out.mono ?_); rintro e w1 ⟨rfl, hb⟩; have K1 := Lib.hid (keeps_drew_grow hb); have S2 : Hid (w1.cell? ⟨y, 0, none⟩ = some (.pointer (some ⟨bx, 0, none⟩))) := (HYR.out.keeps K1.out (fun hf => hf.elim)).cell 0; clear hb)
            | (go_at_call 53; refine ((HK.out.grow K1.out).call XP.out).mono ?_; rintro e w2 ⟨rfl, hx, kk⟩; have HX := Lib.hid hx; have S3 : Hid (w2.cell? ⟨y, 0, none⟩ = some (.pointer (some ⟨bx, 0, none⟩))) := ((HYR.out.keeps K1.out (fun hf => hf.elim)).keeps kk NYT.out).cell 0; clear hx kk))
        go_wp2_with fail
        go_roundw
        case rel => exact ⟨j' + 1, _, by have := HLT.out; omega, by first | (rw [HW.out]; go_num) | go_num, HX.out⟩
        case measure => (first | (rw [HW.out]; simp [intOf]; have := HLT.out; omega) | (simp [intOf]; have := HLT.out; omega))
      · have HP : Hid (pU 6 cpu j' = pU 6 cpu (j' + 1)) := pU_no (by
          have a1 : cpu ≠ -1 := by simpa using h1
          have a2 : cpu ≠ (j' : Int) := by simpa using h2
          omega)
        clear h3 hp2
        go_wp2_with fail
        go_roundw
        case rel => exact ⟨j' + 1, T', by have := HLT.out; omega, by first | (rw [HW.out]; go_num) | go_num, by rw [← HP.out]; exact HK.out⟩
        case measure => (first | (rw [HW.out]; simp [intOf]; have := HLT.out; omega) | (simp [intOf]; have := HLT.out; omega))
    · obtain rfl : n = j' := by omega
      clear hlt hj'
      go_wp2_with fail
      go_ret
      exact ⟨rfl, T', HK.out⟩
end
end Go.Proofs.Ythilkgfbaddjpaa
