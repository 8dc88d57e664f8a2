/-
  The law ObjsFds, walked.
-/
import Derived.Test.YtmohbdbofehamaaOFdsP
namespace Go.Proofs.Ytmohbdbofehamaa
open Go Go.RowKit Go.Maps OSt
set_option linter.unusedVariables false
set_option linter.unusedSimpArgs false
set_option maxRecDepth 100000
section
variable {B x : Nat} {w0 w : World}
theorem fd1 {j : Nat} (h : TO B w0 x (FS j) w) (hj : j < 64) : Calls Try.prog 13 #[tp x, .int .i64 (j : Int)] w fun e w' => (∃ p, e = .returned (.tuple #[.int .i64 (j : Int), .int .i64 p, .int .i64 0])) ∧ TO B w0 x (FS (j + 1)) w' :=
  h.call fun P hg => by
    have := add_any hg (fs_ok j (Nat.le_of_lt hj)) (by decide) (j : Int)
    obtain ⟨h1, h2, h3⟩ := fs_add hj
    rw [h1, h2, h3] at this
    exact this.mono fun e w' ⟨he, hg'⟩ => ⟨⟨_, he⟩, hg'⟩
theorem fd2 (k : Int) (h : TO B w0 x (FS 64) w) : Calls Try.prog 13 #[tp x, .int .i64 k] w fun e w' => (∃ a p, e = .returned (.tuple #[.int .i64 a, .int .i64 p, .int .i64 8])) ∧ TO B w0 x (FS 64) w' :=
  h.call fun P hg => by
    have := add_any hg (fs_ok 64 (Nat.le_refl _)) (by decide) k
    obtain ⟨h1, h2⟩ := fs_full k
    rw [h1, h2] at this
    exact this.mono fun e w' ⟨he, hg'⟩ => ⟨⟨_, _, he⟩, hg'⟩
theorem fd3 {M G : Nat} (hM : M ≤ 64) (hG : G < M) (h : TO B w0 x (FS M) w) : Calls Try.prog 17 #[tp x, .int .i64 (G : Int)] w fun e w' => (∃ g o c, e = .returned (.tuple #[.slice (some ⟨g, o, none⟩) 1 c, .int .i64 0]) ∧ ∃ cs, Blk w' g intT cs ∧ cs[o]? = some (.int .i64 ((G + 1 : Nat) : Int))) ∧ TO B w0 x (closeS (FS M) (G : Int)) w' :=
  h.call fun P hg => (close_any hg (fs_ok M hM) (by decide) (G : Int)).mono fun e w' ⟨A, c, he, hr, hg'⟩ => by
    obtain ⟨h1, h2, _⟩ := fs_close M (by omega) G hG
    rw [h1] at he hr
    rw [h2] at he
    obtain ⟨g, o, rfl, hb, hl, hc, cs, hcs⟩ := hr 0 (G + 1) rfl
    exact ⟨⟨g, o, c, he, cs, hcs, (hcs.cell o).symm.trans hc⟩, hg'⟩
theorem fd4 {M G g : Nat} {cs : Array Value} (hM : M ≤ 64) (hG : G < M) (h : TO B w0 x (closeS (FS M) (G : Int)) w) (hb : Blk w g intT cs) : Calls Try.prog 13 #[tp x, .int .i64 7] w fun e w' => e = .returned (.tuple #[.int .i64 (G : Int), .int .i64 ((M + 1 : Nat) : Int), .int .i64 0]) ∧ TO B w0 x (addS (closeS (FS M) (G : Int)) 7) w' ∧ Blk w' g intT cs :=
  h.callK hb fun P hg => by
    have := add_any hg (fs_ok2 hM hG) (by decide) 7
    obtain ⟨_, _, h3, h4⟩ := fs_close M (by omega) G hG
    have hf : (closeS (FS M) (G : Int)).free = some G := h3
    have e1 : addN (closeS (FS M) (G : Int)) = (G : Int) := by unfold addN; rw [hf]; rfl
    have e2 : openE (closeS (FS M) (G : Int)) = 0 := by unfold openE; rw [hf]; rfl
    have e3 : addP (closeS (FS M) (G : Int)) = ((M + 1 : Nat) : Int) := by unfold addP; rw [hf, h4]; rfl
    rw [e1, e2, e3] at this
    exact this
end
set_option maxHeartbeats 2000000 in
theorem fds_any (n gone : Int) (hn : -9223372036854775808 ≤ n ∧ n ≤ 9223372036854775807) (hg : -9223372036854775808 ≤ gone ∧ gone ≤ 9223372036854775807) (w : World) :
    Calls Try.prog 5 #[.int .i64 n, .int .i64 gone] w fun e w' => e = .returned (.bool true) ∧ Below w.heap.size w w' := by
  have CN := Lib.hid (new_any w)
  have H0 := Lib.hid (TO.new w)
  generalize tabC none 0 newO.fds none = T0 at *
  go_enter Try.func5, Try.ntmps5
  go_upto_region 5 with (go_at_call 7; refine CN.out.mono ?_; rintro e w1 ⟨rfl, rfl⟩)
  obtain ⟨N, hN, hN1, hN2⟩ : ∃ N : Nat, max 1 (min n 70) = (N : Int) ∧ 1 ≤ N ∧ N ≤ 70 := ⟨(max 1 (min n 70)).toNat, by omega, by omega, by omega⟩
  rw [hN]
  generalize min n 70 = q0
  have HN1 := Lib.hid hN1
  have HN2 := Lib.hid hN2
  have H0 : Hid (TO w.heap.size w w.heap.size (FS (min 0 64)) (w.alloc (.cells T0 tabT))) := H0
  clear hN hn CN hN1 hN2
  go_wp2_with fail
  go_loopw [6, 7, 8, 9] (fun i v7 v8 v9 wr => ∃ j : Nat, i = .int .i64 (j : Int) ∧ j ≤ N ∧ TO w.heap.size w w.heap.size (FS (min j 64)) wr) (fun i _ _ _ _ => N - (Lib.intOf i).toNat)
  case atStart => exact ⟨0, rfl, Nat.zero_le _, H0.out⟩
  case round =>
    clear H0
    obtain ⟨j, rfl, hj, ht⟩ := hrel
    have HT := Lib.hid ht
    have HJ := Lib.hid hj
    clear ht hj
    by_cases hlt : j < N
    · have g1 : decide ((j : Int) < (N : Int)) = true := decide_eq_true (by omega)
      have g2 : decide (j < N) = true := decide_eq_true hlt
      have i1 : (j : Int) < (N : Int) := by omega
      have e1 : (j : Int) + 1 ≤ 9223372036854775807 := by have := HN2.out; omega
      have HLT := Lib.hid hlt
      clear hlt
      by_cases h64 : j < 64
      · have C1 := Lib.hid (fd1 (show TO w.heap.size w w.heap.size (FS j) wr by have := HT.out; rwa [show min j 64 = j by omega] at this) h64)
        have k1 : decide ((j : Int) < 64) = true := decide_eq_true (by omega)
        have k2 : decide (j < 64) = true := decide_eq_true h64
        have k3 : decide ((64 : Int) ≤ (j : Int)) = false := decide_eq_false (by omega)
        have k4 : decide (64 ≤ j) = false := decide_eq_false (by omega)
        have H64 := Lib.hid h64
        clear h64 HT
        go_wp2_with (go_at_call 13; refine C1.out.mono ?_; rintro e w1 ⟨⟨q, rfl⟩, h1⟩; have H1 := Lib.hid h1; clear h1)
        go_roundw
        case rel => exact ⟨j + 1, by go_num, HLT.out, by rw [show min (j + 1) 64 = j + 1 by have := H64.out; omega]; exact H1.out⟩
        case measure => have := HLT.out; simp [Lib.intOf]; omega
      · have C1 := Lib.hid (fd2 (j : Int) (show TO w.heap.size w w.heap.size (FS 64) wr by have := HT.out; rwa [show min j 64 = 64 by omega] at this))
        have k1 : decide ((j : Int) < 64) = false := decide_eq_false (by omega)
        have k2 : decide (j < 64) = false := decide_eq_false h64
        have k3 : decide ((64 : Int) ≤ (j : Int)) = true := decide_eq_true (by omega)
        have k4 : decide (64 ≤ j) = true := decide_eq_true (by omega)
        have H64 := Lib.hid h64
        clear h64 HT
        go_wp2_with (go_at_call 13; refine C1.out.mono ?_; rintro e w1 ⟨⟨a, q, rfl⟩, h1⟩; have H1 := Lib.hid h1; clear h1)
        go_roundw
        case rel => exact ⟨j + 1, by go_num, HLT.out, by rw [show min (j + 1) 64 = 64 by have := H64.out; omega]; exact H1.out⟩
        case measure => have := HLT.out; simp [Lib.intOf]; omega
    · obtain rfl : j = N := by have := HJ.out; omega
      have g1 : decide ((j : Int) < (j : Int)) = false := decide_eq_false (by omega)
      obtain ⟨M, hM⟩ : ∃ M, M = min j 64 := ⟨_, rfl⟩
      have m1 : min (j : Int) 64 = (M : Int) := by omega
      have m2 : IntKind.i64.wrap ((M : Int) - 1) = ((M - 1 : Nat) : Int) := by have := HN1.out; rw [IntWalk.i64_in _ (by omega)]; omega
      obtain ⟨G, hG, hG2⟩ : ∃ G : Nat, max 0 (min gone ((M - 1 : Nat) : Int)) = (G : Int) ∧ G < M := ⟨(max 0 (min gone ((M - 1 : Nat) : Int))).toNat, by omega, by have := HN1.out; omega⟩
      have hM64 : M ≤ 64 := by omega
      rw [← hM] at HT
      have HGM := Lib.hid (And.intro hM64 hG2)
      clear hlt hM HN1 HN2 HJ hM64 hG2
      have C3 := Lib.hid (fd3 HGM.out.1 HGM.out.2 HT.out)
      have C4 := Lib.hid (fun W g cs (h : TO w.heap.size w w.heap.size (closeS (FS M) (G : Int)) W) (hb : Blk W g intT cs) => fd4 HGM.out.1 HGM.out.2 h hb)
      have e1 : IntKind.i64.wrap ((G : Int) + 1) = ((G + 1 : Nat) : Int) := by have := HGM.out; rw [IntWalk.i64_in _ (by omega)]; omega
      have e2 : IntKind.i64.wrap ((M : Int) + 1) = ((M + 1 : Nat) : Int) := by have := HGM.out; rw [IntWalk.i64_in _ (by omega)]; omega
      clear HT
      generalize addS (closeS (FS M) (G : Int)) 7 = s9 at *
      generalize closeS (FS M) (G : Int) = s8 at *
      generalize G + 1 = G1 at *
      generalize M + 1 = M1 at *
      go_upto_region 14 with (first
        | (go_at_call 17; refine C3.out.mono ?_; rintro e w3 ⟨⟨g, o, c, rfl, cs, hcs, hc⟩, h3⟩; have H3 := Lib.hid h3; have HCS := Lib.hid hcs; have HC := Lib.hid hc; clear h3 hcs hc)
        | (go_at_call 13; refine (C4.out _ _ _ H3.out HCS.out).mono ?_; rintro e w4 ⟨rfl, h4, h5⟩; have H4 := Lib.hid h4; have d4 : w4.cell? ⟨g, o, none⟩ = some (.int .i64 (G1 : Int)) := (h5.cell o).trans HC.out; clear h4 h5))
      go_wp2_with (go_at_call 12; refine (awake_later H4.out.below H4.out.sz).mono ?_; rintro e w7 ⟨rfl, hb⟩; have B7 := Lib.hid hb; clear hb)
      go_ret
      exact ⟨rfl, B7.out⟩
end Go.Proofs.Ytmohbdbofehamaa
