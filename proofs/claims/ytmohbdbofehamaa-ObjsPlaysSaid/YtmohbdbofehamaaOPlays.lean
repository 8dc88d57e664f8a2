/-
  The law ObjsPlays, walked.
-/
import Derived.Test.YtmohbdbofehamaaODo
namespace Go.Proofs.Ytmohbdbofehamaa
open Go Go.RowKit Go.Maps OSt
set_option linter.unusedVariables false
set_option linter.unusedSimpArgs false
set_option maxRecDepth 100000
theorem bothO_start (w : World) : BothO w.heap.size w w.heap.size (w.heap.size + 1) newO newO ((w.alloc (.cells (tabC none 0 newO.fds none) tabT)).alloc (.cells (refC (.slice none 0 0) newO.fds (.slice none 0 0)) refT)) := by
  have h1 := pr_new w
  have h2 := yr_new (w.alloc (.cells (tabC none 0 newO.fds none) tabT))
  have e : (w.alloc (.cells (tabC none 0 newO.fds none) tabT)).heap.size = w.heap.size + 1 := by simp
  rw [e] at h2
  refine ⟨_, _, h1.keeps ((Keeps.refl (fun _ => False) _).alloc _) (fun _ _ h => h), h2, fun b hb hb' => ?_, fun b hb => ?_, fun b hb => ?_, ((Below.refl _ w).alloc (Nat.le_refl _) _).alloc (by simp) _, by simp; omega⟩
  · have e1 : b = w.heap.size := hb
    have e2 : b = w.heap.size + 1 := hb'
    omega
  · have e1 : b = w.heap.size := hb
    omega
  · have e2 : b = w.heap.size + 1 := hb
    omega
theorem refC_new : refC (.slice none 0 0) newO.fds (.slice none 0 0) = refC (.slice none 0 0) (List.replicate 64 0) (.slice none 0 0) := rfl
theorem liveS_le {n : Nat} {s : OSt} (ho : OOk n s) : (liveS s).length ≤ n := Nat.le_trans (liveTo_le _ _) ho.os
set_option maxHeartbeats 4000000 in
theorem plays_any (A : Option Addr) (len cap : Nat) (hlc : len ≤ cap) (hm : cap ≤ maxLen) (w : World)
    (hA : ∀ i, i < len → ∃ (b off : Nat) (kd n m : Int) (p : ByteArray), A = some ⟨b, off, none⟩ ∧ b < w.heap.size ∧ (w.cell? ⟨b, off + i * 4, none⟩ = some (.int .i64 kd) ∧ w.cell? ⟨b, off + i * 4 + 1, none⟩ = some (.int .i64 n) ∧ w.cell? ⟨b, off + i * 4 + 2, none⟩ = some (.int .i64 m) ∧ w.cell? ⟨b, off + i * 4 + 3, none⟩ = some (.string p)) ∧ p.size ≤ maxLen ∧ (-9223372036854775808 ≤ n ∧ n ≤ 9223372036854775807)) :
    Calls Try.prog 3 #[.slice A len cap] w fun e w' => e = .returned (.bool true) ∧ Below w.heap.size w w' := by
  have hm' : cap ≤ 9223372036854775807 := by unfold maxLen at hm; omega
  have CN := Lib.hid (new_any w)
  have HS := Lib.hid (bothO_start w)
  have HA := Lib.hid hA
  have HSZ : Hid ((w.alloc (.cells (tabC none 0 newO.fds none) tabT)).heap.size = w.heap.size + 1) := by unfold Hid; simp
  clear hA hm
  generalize hT : tabC none 0 newO.fds none = T0 at *
  clear hT
  go_enter Try.func3, Try.ntmps3
  go_wp2_with (go_at_call 7; refine CN.out.mono ?_; rintro e w1 ⟨rfl, rfl⟩)
  go_loopw [5] (fun i wr => ∃ (j : Nat) (s : OSt), j ≤ len ∧ j ≤ 200 ∧ i = .int .i64 j ∧ OOk j s ∧ BothO w.heap.size w w.heap.size (w.heap.size + 1) s s wr) (fun i _ => len - (Lib.intOf i).toNat)
  case atStart => exact ⟨0, newO, by omega, by omega, rfl, newO_ok 0, HS.out⟩
  case round =>
    clear HS CN HSZ
    obtain ⟨j, s, hk1, hk2, rfl, ho, hB⟩ := hrel
    have HB := Lib.hid hB
    have HO := Lib.hid ho
    clear hB ho
    by_cases hlt : j < len ∧ j < 200
    · obtain ⟨hlt, hlt2⟩ := hlt
      obtain ⟨b, off, kd, n, m, p, rfl, hbw, ⟨t0, t1, t2, t3⟩, hps, hnb⟩ := HA.out j hlt
      have hc : ∀ o, wr.cell? ⟨b, o, none⟩ = w.cell? ⟨b, o, none⟩ := fun o => HB.out.below.cell (p := ⟨b, o, none⟩) hbw
      rw [← hc] at t0 t1 t2 t3
      clear hc
      have g1 : decide (j < len) = true := decide_eq_true hlt
      have g2 : decide (j < 200) = true := decide_eq_true hlt2
      have i2 : (j : Int) < (len : Int) := by omega
      have i3 : (j : Int) < 200 := by omega
      have CD := Lib.hid (do_any HB.out HO.out (by omega) kd n m p hps hnb)
      unfold DoPost at CD
      have HJ := Lib.hid (And.intro hlt hlt2)
      have CL : Hid (∀ (s' : OSt) w3, OOk (j + 1) s' → BothO w.heap.size w w.heap.size (w.heap.size + 1) s' s' w3 → Calls Try.prog 10 #[tp w.heap.size] w3 fun e w4 => ∃ A c, e = .returned (.slice A (liveS s').length c) ∧ RowI 0 w4 A (liveS s') ∧ BothO w.heap.size w w.heap.size (w.heap.size + 1) s' s' w4) := fun s' w3 ho' hb' => (hb'.live ho' (by omega)).mono fun e w4 ⟨A, c, he, hr, hb2⟩ => ⟨A, c, he, hr.mono (Nat.zero_le _), hb2⟩
      have CX : Hid (∀ (s' : OSt) w3, OOk (j + 1) s' → BothO w.heap.size w w.heap.size (w.heap.size + 1) s' s' w3 → Calls Try.prog 11 #[tp (w.heap.size + 1)] w3 fun e w4 => ∃ A c, e = .returned (.slice A (liveS s').length c) ∧ RowI 0 w4 A (liveS s') ∧ BothO w.heap.size w w.heap.size (w.heap.size + 1) s' s' w4 ∧ ∀ A, RowI 0 w3 A (liveS s') → RowI 0 w4 A (liveS s')) := fun s' w3 ho' hb' => (hb'.xlive ho' (by omega)).mono fun e w4 ⟨A, c, he, hr, hb2, hbl⟩ => ⟨A, c, he, hr.mono (Nat.zero_le _), hb2, fun A hr' => hr'.keeps (keeps_below hbl) (fun _ _ _ hf => hf)⟩
      have CI : Hid (∀ (s' : OSt) W A B c d, OOk (j + 1) s' → RowI 0 W A (liveS s') → RowI 0 W B (liveS s') → Calls Try.prog 9 #[.slice A (liveS s').length c, .slice B (liveS s').length d] W fun e w' => e = .returned (.bool true) ∧ Keeps (fun _ => False) W w') := fun s' W A B c d ho' h1 h2 => ints_same h1 h2 (by have := liveS_le ho'; omega)
      clear HA hlt hlt2 hbw hk1 hk2 hnb hps
      go_wp2_with (first
        | (go_at_call 8; refine CD.out.mono ?_; rintro e w3 ⟨rfl, s', ho3, hb3⟩; have O3 := Lib.hid ho3; have B3 := Lib.hid hb3; clear ho3 hb3)
        | (go_at_call 10; refine (CL.out s' _ O3.out B3.out).mono ?_; rintro e w4 ⟨A4, c4, rfl, hr4, hb4⟩; have R4 := Lib.hid hr4; have B4 := Lib.hid hb4; clear hr4 hb4)
        | (go_at_call 11; refine (CX.out s' _ O3.out B4.out).mono ?_; rintro e w5 ⟨A5, c5, rfl, hr5, hb5, hk5⟩; have CT := Lib.hid (CI.out s' w5 A4 A5 c4 c5 O3.out (hk5 A4 R4.out) hr5); have B5 := Lib.hid hb5; clear hr5 hb5 hk5)
        | (go_at_call 9; refine CT.out.mono ?_; rintro e w6 ⟨rfl, h6⟩; have B6 := Lib.hid (B5.out.quiet h6); clear h6))
      go_roundw
      case rel => exact ⟨j + 1, s', by have := HJ.out; omega, by have := HJ.out; omega, by go_num, O3.out, B6.out⟩
      case measure => simp [Lib.intOf]; have := HJ.out; omega
    · have HF : Hid (Below w.heap.size w wr ∧ w.heap.size ≤ wr.heap.size) := ⟨HB.out.below, HB.out.sz⟩
      clear HB HO
      by_cases h1 : j < len
      · have h2 : ¬ j < 200 := fun h2 => hlt ⟨h1, h2⟩
        have g1 : decide (j < len) = true := decide_eq_true h1
        have g1' : decide ((j : Int) < (len : Int)) = true := decide_eq_true (by omega)
        have g2 : decide (j < 200) = false := decide_eq_false h2
        have g2' : decide ((j : Int) < 200) = false := decide_eq_false (by omega)
        clear hlt
        go_wp2_with (go_at_call 12; refine (awake_later HF.out.1 HF.out.2).mono ?_; rintro e w7 ⟨rfl, hb⟩; have B7 := Lib.hid hb; clear hb)
        go_ret
        exact ⟨rfl, B7.out⟩
      · have g1 : decide (j < len) = false := decide_eq_false h1
        have g1' : decide ((j : Int) < (len : Int)) = false := decide_eq_false (by omega)
        clear hlt
        go_wp2_with (go_at_call 12; refine (awake_later HF.out.1 HF.out.2).mono ?_; rintro e w7 ⟨rfl, hb⟩; have B7 := Lib.hid hb; clear hb)
        go_ret
        exact ⟨rfl, B7.out⟩
end Go.Proofs.Ytmohbdbofehamaa
