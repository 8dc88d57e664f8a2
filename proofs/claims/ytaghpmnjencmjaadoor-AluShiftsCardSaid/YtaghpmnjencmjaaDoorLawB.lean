/-
  The laws AluHalves and AluShifts, walked.
-/
import Derived.Test.YtaghpmnjencmjaaDoorLawA
import Derived.Deep.QuietTactic
import Derived.BigQuiet
namespace Go.Proofs.YtaghpmnjencmjaaDoor
open Go.RowKit (wrap32 wrap64 Below Hid)
set_option linter.unusedVariables false

theorem drewN_below {B : Nat} {a w : World} (h : Below B a w) (n : Nat) : Below B a (w.drewN n) := ⟨h.os, h.tape, h.output, h.size, h.block⟩
/-- n0's lower half, and n2 as the upper one. -/
def mix (n0 n2 : Int) : Int := bits .or .u64 (bits .and .u64 n0 4294967295) (IntKind.u64.wrap (n2 * 4294967296))
theorem mix_eq (n0 n2 : Int) (h : 0 ≤ n0) (h' : n0 ≤ 18446744073709551615) : mix n0 n2 = n0 % 4294967296 + n2 * 4294967296 % 18446744073709551616 := by
  unfold mix
  rw [and_low n0 h h', IntKind.wrap_u64, u64_or _ _ (by omega) (by omega) (by omega) (by omega), Nat.or_comm, nat_join 32 _ _ (by omega) (by omega)]
  omega
theorem mix_lo (n0 n2 : Int) (h : 0 ≤ n0) (h' : n0 ≤ 18446744073709551615) : 0 ≤ mix n0 n2 := by rw [mix_eq n0 n2 h h']; omega
theorem mix_hi (n0 n2 : Int) (h : 0 ≤ n0) (h' : n0 ≤ 18446744073709551615) : mix n0 n2 ≤ 18446744073709551615 := by rw [mix_eq n0 n2 h h']; omega
theorem mix_cut (n0 n2 : Int) (h : 0 ≤ n0) (h' : n0 ≤ 18446744073709551615) : cut false (mix n0 n2) = cut false n0 := by rw [mix_eq n0 n2 h h']; simp [cut]; omega

theorem halves_walk (op : Int) (signed : Bool) (n0 n1 n2 n3 : Int) (b0 : 0 ≤ n0 ∧ n0 ≤ 18446744073709551615) (b1 : 0 ≤ n1 ∧ n1 ≤ 18446744073709551615) (b2 : 0 ≤ n2 ∧ n2 ≤ 18446744073709551615) (b3 : 0 ≤ n3 ∧ n3 ≤ 18446744073709551615) (w : World) (hE : Edges w) :
    Calls Tryd.prog 6 #[.int .i64 op, .bool signed, .agg #[.int .u64 n0, .int .u64 n1, .int .u64 n2, .int .u64 n3]] w fun e w' => e = .returned (.bool true) ∧ Below w.heap.size w w' := by
  have K1 : ∃ r err : Int, 0 ≤ r ∧ r ≤ 4294967295 ∧ (∀ W, Edges W → BinGives op false signed n0 n1 W r err) ∧ (∀ W, Edges W → BinGives op false signed (mix n0 n2) (mix n1 n3) W r err) := by
    refine ⟨binV op false signed n0 n1, binE op signed, binV_lo _ _ _ _ _, ?_, fun W h => bin_any false n0 n1 W b0.1 b0.2 b1.1 b1.2 h op signed, fun W h => ?_⟩
    · unfold binV; split
      · exact cut_f_hi _
      · omega
    · have e : binV op false signed (mix n0 n2) (mix n1 n3) = binV op false signed n0 n1 := by unfold binV; rw [mix_cut n0 n2 b0.1 b0.2, mix_cut n1 n3 b1.1 b1.2]
      rw [← e]
      exact bin_any false _ _ W (mix_lo _ _ b0.1 b0.2) (mix_hi _ _ b0.1 b0.2) (mix_lo _ _ b1.1 b1.2) (mix_hi _ _ b1.1 b1.2) h op signed
  have K2 : ∃ (t : Bool) (err : Int), (∀ W, TestGives op false n0 n1 W t err) ∧ (∀ W, TestGives op false (mix n0 n2) (mix n1 n3) W t err) := by
    refine ⟨testV op false n0 n1, testE op, fun W => test_any n0 n1 b0.1 b0.2 b1.1 b1.2 W op false, fun W => ?_⟩
    have e : testV op false (mix n0 n2) (mix n1 n3) = testV op false n0 n1 := by unfold testV; rw [mix_cut n0 n2 b0.1 b0.2, mix_cut n1 n3 b1.1 b1.2]
    rw [← e]
    exact test_any _ _ (mix_lo _ _ b0.1 b0.2) (mix_hi _ _ b0.1 b0.2) (mix_lo _ _ b1.1 b1.2) (mix_hi _ _ b1.1 b1.2) W op false
  obtain ⟨r, err, hr0, hr1, k1, k2⟩ := K1
  obtain ⟨t, err', k3, k4⟩ := K2
  have K1 := Lib.hid k1
  have K2 := Lib.hid k2
  have K3 := Lib.hid k3
  have K4 := Lib.hid k4
  have HE := Lib.hid hE
  clear k1 k2 k3 k4 hE b0 b1 b2 b3
  go_enter Tryd.func6, Tryd.ntmps6
  go_wp2_with fail
  go_quiet (fail)
  go_wp2_with fail
  refine (K1.out _ (by exact HE.out.below (drewN_below (one_box _ _) _))).mono ?_
  rintro e w1 ⟨rfl, b1⟩
  have hc := cells_of b1
  have E1 := Lib.hid (HE.out.below ((drewN_below (one_box _ _) _).trans (b1.mono (by simp))))
  have B1 := Lib.hid ((drewN_below (one_box _ _) _).trans (b1.mono (B' := w.heap.size) (by simp)))
  have hz := b1.size
  clear b1
  go_wp2_with fail
  refine (K2.out _ E1.out).mono ?_
  rintro e w2 ⟨rfl, b2⟩
  have hc2 : ∀ o, w2.cell? ⟨w.heap.size, o, none⟩ = w1.cell? ⟨w.heap.size, o, none⟩ := fun o => b2.cell (p := ⟨_, o, none⟩) (by simp at hz ⊢; omega)
  have E2 := Lib.hid (E1.out.below b2)
  have B2 := Lib.hid (B1.out.trans (b2.mono B1.out.size))
  clear b2 B1 E1 hz
  go_wp2_with fail
  refine (K3.out _).mono ?_
  rintro e w' ⟨rfl, rfl⟩
  go_wp2_with fail
  refine (K4.out _).mono ?_
  rintro e w' ⟨rfl, rfl⟩
  go_wp2_with fail
  refine (awake_true _ E2.out).mono ?_
  rintro e w3 ⟨rfl, b3⟩
  have B3 := B2.out.trans (b3.mono B2.out.size)
  clear b3 B2 E2 hc hc2
  go_wp2
  go_ret
  exact ⟨rfl, B3⟩


def width (wide : Bool) : Int := if wide then 64 else 32
theorem pow_bd (wide : Bool) (s : Int) (h : 0 ≤ s) (h' : s < width wide) : 1 ≤ (2 : Int) ^ s.toNat ∧ (2 : Int) ^ s.toNat ≤ mask wide ∧ (2 : Int) ^ s.toNat ≤ 18446744073709551615 := by
  have h1 : (1 : Int) ≤ 2 ^ s.toNat := by have := Int.pow_pos (n := 2) (m := s.toNat) (by decide); omega
  have mono : ∀ k : Nat, s.toNat ≤ k → (2 : Int) ^ s.toNat ≤ 2 ^ k := fun k hk => by
    have := Nat.pow_le_pow_right (n := 2) (by decide) hk
    exact_mod_cast this
  cases wide
  · have := mono 31 (by simp [width] at h'; omega)
    exact ⟨h1, show _ ≤ 4294967295 by omega, by omega⟩
  · have := mono 63 (by simp [width] at h'; omega)
    exact ⟨h1, show _ ≤ 18446744073709551615 by omega, by omega⟩
theorem cut_small (wide : Bool) (x : Int) (h : 0 ≤ x) (h' : x ≤ mask wide) : cut wide x = x := by cases wide <;> simp [cut, mask] at * <;> omega
theorem shc_small (wide : Bool) (s : Int) (h : 0 ≤ s) (h' : s < width wide) : shc wide s = s ∧ shc wide (s + width wide) = s := by cases wide <;> simp [shc, width] at * <;> omega
theorem shl_val (wide : Bool) (n s : Int) (h : 0 ≤ s) (h' : s < width wide) : binV 96 wide false n s = cut wide (cut wide n * 2 ^ s.toNat) ∧ binV 96 wide false n (s + width wide) = cut wide (cut wide n * 2 ^ s.toNat) := by
  obtain ⟨e1, e2⟩ := shc_small wide s h h'
  constructor
  · show cut wide (cut wide n * 2 ^ (shc wide (cut wide s)).toNat) = _
    rw [shc_cut, e1]
  · show cut wide (cut wide n * 2 ^ (shc wide (cut wide (s + width wide))).toNat) = _
    rw [shc_cut, e2]
theorem mul_val (wide : Bool) (n s : Int) (h : 0 ≤ s) (h' : s < width wide) : binV 32 wide false n (2 ^ s.toNat) = cut wide (cut wide n * 2 ^ s.toNat) := by
  obtain ⟨p1, p2, _⟩ := pow_bd wide s h h'
  show cut wide (cut wide n * cut wide (2 ^ s.toNat)) = _
  rw [cut_small wide (2 ^ s.toNat) (by omega) p2]
theorem shr_val (wide : Bool) (n s : Int) (h : 0 ≤ s) (h' : s < width wide) : binV 112 wide false n s = cut wide (cut wide n / 2 ^ s.toNat) := by
  show cut wide (cut wide n / 2 ^ (shc wide (cut wide s)).toNat) = _
  rw [shc_cut, (shc_small wide s h h').1]
theorem quo_val (wide : Bool) (n s : Int) (h : 0 ≤ s) (h' : s < width wide) : binV 48 wide false n (2 ^ s.toNat) = cut wide (cut wide n / 2 ^ s.toNat) := by
  obtain ⟨p1, p2, _⟩ := pow_bd wide s h h'
  show cut wide (if cut wide (2 ^ s.toNat) = 0 then 0 else cut wide n / cut wide (2 ^ s.toNat)) = _
  rw [cut_small wide (2 ^ s.toNat) (by omega) p2, if_neg (by omega)]

theorem shifts_t (n b : Int) (h : 0 ≤ n) (h' : n ≤ 18446744073709551615) (hb : -9223372036854775808 ≤ b) (hb' : b ≤ 9223372036854775807) (w : World) (hE : Edges w) :
    Calls Tryd.prog 8 #[.int .u64 n, .int .i64 b, .bool true] w fun e w' => e = .returned (.bool true) ∧ Below w.heap.size w w' := by
  obtain ⟨s, hs0, hs1, es⟩ : ∃ s : Int, 0 ≤ s ∧ s ≤ 63 ∧ (wrap64 (b.tmod 64 + 64)).tmod 64 = s := by
    have t1 := Int.tmod_lt_of_pos b (b := 64) (by decide)
    have t2 : -64 < b.tmod 64 := Int.lt_tmod_of_pos b (by decide)
    have e : wrap64 (b.tmod 64 + 64) = b.tmod 64 + 64 := by unfold wrap64; omega
    rw [e]
    exact ⟨_, Int.tmod_nonneg _ (by omega), by have := Int.tmod_lt_of_pos (b.tmod 64 + 64) (b := 64) (by decide); omega, rfl⟩
  have hw' : s < width true := by simp [width]; omega
  obtain ⟨p1, p2, p3⟩ := pow_bd true s hs0 hw'
  have K : ∃ A C P : Int, P = 2 ^ s.toNat ∧ 1 ≤ P ∧ P ≤ 18446744073709551615 ∧ (∀ W, Edges W → BinGives 96 true false n s W A 0) ∧ (∀ W, Edges W → BinGives 32 true false n P W A 0) ∧ (∀ W, Edges W → BinGives 112 true false n s W C 0) ∧ (∀ W, Edges W → BinGives 48 true false n P W C 0) ∧ (∀ W, Edges W → BinGives 96 true false n (s + 64) W A 0) := by
    refine ⟨cut true (cut true n * 2 ^ s.toNat), cut true (cut true n / 2 ^ s.toNat), 2 ^ s.toNat, rfl, p1, p3, fun W hW => ?_, fun W hW => ?_, fun W hW => ?_, fun W hW => ?_, fun W hW => ?_⟩
    · rw [← (shl_val true n s hs0 hw').1]; exact bin_any _ _ _ W h h' (by omega) (by omega) hW 96 false
    · rw [← mul_val true n s hs0 hw']; exact bin_any _ _ _ W h h' (by omega) p3 hW 32 false
    · rw [← shr_val true n s hs0 hw']; exact bin_any _ _ _ W h h' (by omega) (by omega) hW 112 false
    · rw [← quo_val true n s hs0 hw']; exact bin_any _ _ _ W h h' (by omega) p3 hW 48 false
    · rw [← (shl_val true n s hs0 hw').2]; exact bin_any _ _ _ W h h' (by omega) (by omega) hW 96 false
  obtain ⟨A, C, P, eP, hP1, hP2, k1, k2, k3, k4, k5⟩ := K
  have u1 : IntKind.u64.wrap s = s := IntWalk.u64_in s (by omega)
  have u2 : IntKind.u64.wrap (2 ^ min s.toNat 64) = P := by rw [show min s.toNat 64 = s.toNat by omega, ← eP]; exact IntWalk.u64_in P (by omega)
  have K1 := Lib.hid k1
  have K2 := Lib.hid k2
  have K3 := Lib.hid k3
  have K4 := Lib.hid k4
  have K5 := Lib.hid k5
  have HE := Lib.hid hE
  have ES := Lib.hid es
  have U1 := Lib.hid u1
  have U2 := Lib.hid u2
  clear k1 k2 k3 k4 k5 hE es u1 u2 p1 p2 p3 hw' eP
  go_enter Tryd.func8, Tryd.ntmps8
  go_wp2_with fail
  rw [ES.out]
  rw [U1.out]
  rw [U2.out]
  refine (K1.out _ HE.out).mono ?_
  rintro e w1 ⟨rfl, b1⟩
  have E1 := Lib.hid (HE.out.below b1)
  have B1 := Lib.hid b1
  clear b1
  go_wp2_with fail
  refine (K2.out _ E1.out).mono ?_
  rintro e w2 ⟨rfl, b2⟩
  have E2 := Lib.hid (E1.out.below b2)
  have B2 := Lib.hid (B1.out.trans (b2.mono B1.out.size))
  clear b2 B1 E1
  go_wp2_with fail
  refine (K3.out _ E2.out).mono ?_
  rintro e w3 ⟨rfl, b3⟩
  have E3 := Lib.hid (E2.out.below b3)
  have B3 := Lib.hid (B2.out.trans (b3.mono B2.out.size))
  clear b3 B2 E2
  go_wp2_with fail
  refine (K4.out _ E3.out).mono ?_
  rintro e w4 ⟨rfl, b4⟩
  have E4 := Lib.hid (E3.out.below b4)
  have B4 := Lib.hid (B3.out.trans (b4.mono B3.out.size))
  clear b4 B3 E3
  go_wp2_with fail
  refine (K5.out _ E4.out).mono ?_
  rintro e w5 ⟨rfl, b5⟩
  have E5 := Lib.hid (E4.out.below b5)
  have B5 := Lib.hid (B4.out.trans (b5.mono B4.out.size))
  clear b5 B4 E4
  go_wp2_with fail
  refine (awake_true _ E5.out).mono ?_
  rintro e w6 ⟨rfl, b6⟩
  have B6 := B5.out.trans (b6.mono B5.out.size)
  clear b6 B5 E5
  go_wp2
  go_ret
  exact ⟨rfl, B6⟩

theorem shifts_f (n b : Int) (h : 0 ≤ n) (h' : n ≤ 18446744073709551615) (hb : -9223372036854775808 ≤ b) (hb' : b ≤ 9223372036854775807) (w : World) (hE : Edges w) :
    Calls Tryd.prog 8 #[.int .u64 n, .int .i64 b, .bool false] w fun e w' => e = .returned (.bool true) ∧ Below w.heap.size w w' := by
  obtain ⟨s, hs0, hs1, es⟩ : ∃ s : Int, 0 ≤ s ∧ s ≤ 31 ∧ (wrap64 (b.tmod 32 + 32)).tmod 32 = s := by
    have t1 := Int.tmod_lt_of_pos b (b := 32) (by decide)
    have t2 : -32 < b.tmod 32 := Int.lt_tmod_of_pos b (by decide)
    have e : wrap64 (b.tmod 32 + 32) = b.tmod 32 + 32 := by unfold wrap64; omega
    rw [e]
    exact ⟨_, Int.tmod_nonneg _ (by omega), by have := Int.tmod_lt_of_pos (b.tmod 32 + 32) (b := 32) (by decide); omega, rfl⟩
  have hw' : s < width false := by simp [width]; omega
  obtain ⟨p1, p2, p3⟩ := pow_bd false s hs0 hw'
  have K : ∃ A C P : Int, P = 2 ^ s.toNat ∧ 1 ≤ P ∧ P ≤ 18446744073709551615 ∧ (∀ W, Edges W → BinGives 96 false false n s W A 0) ∧ (∀ W, Edges W → BinGives 32 false false n P W A 0) ∧ (∀ W, Edges W → BinGives 112 false false n s W C 0) ∧ (∀ W, Edges W → BinGives 48 false false n P W C 0) ∧ (∀ W, Edges W → BinGives 96 false false n (s + 32) W A 0) := by
    refine ⟨cut false (cut false n * 2 ^ s.toNat), cut false (cut false n / 2 ^ s.toNat), 2 ^ s.toNat, rfl, p1, p3, fun W hW => ?_, fun W hW => ?_, fun W hW => ?_, fun W hW => ?_, fun W hW => ?_⟩
    · rw [← (shl_val false n s hs0 hw').1]; exact bin_any _ _ _ W h h' (by omega) (by omega) hW 96 false
    · rw [← mul_val false n s hs0 hw']; exact bin_any _ _ _ W h h' (by omega) p3 hW 32 false
    · rw [← shr_val false n s hs0 hw']; exact bin_any _ _ _ W h h' (by omega) (by omega) hW 112 false
    · rw [← quo_val false n s hs0 hw']; exact bin_any _ _ _ W h h' (by omega) p3 hW 48 false
    · rw [← (shl_val false n s hs0 hw').2]; exact bin_any _ _ _ W h h' (by omega) (by omega) hW 96 false
  obtain ⟨A, C, P, eP, hP1, hP2, k1, k2, k3, k4, k5⟩ := K
  have u1 : IntKind.u64.wrap s = s := IntWalk.u64_in s (by omega)
  have u2 : IntKind.u64.wrap (2 ^ min s.toNat 64) = P := by rw [show min s.toNat 64 = s.toNat by omega, ← eP]; exact IntWalk.u64_in P (by omega)
  have K1 := Lib.hid k1
  have K2 := Lib.hid k2
  have K3 := Lib.hid k3
  have K4 := Lib.hid k4
  have K5 := Lib.hid k5
  have HE := Lib.hid hE
  have ES := Lib.hid es
  have U1 := Lib.hid u1
  have U2 := Lib.hid u2
  clear k1 k2 k3 k4 k5 hE es u1 u2 p1 p2 p3 hw' eP
  go_enter Tryd.func8, Tryd.ntmps8
  go_wp2_with fail
  rw [ES.out]
  rw [U1.out]
  rw [U2.out]
  refine (K1.out _ HE.out).mono ?_
  rintro e w1 ⟨rfl, b1⟩
  have E1 := Lib.hid (HE.out.below b1)
  have B1 := Lib.hid b1
  clear b1
  go_wp2_with fail
  refine (K2.out _ E1.out).mono ?_
  rintro e w2 ⟨rfl, b2⟩
  have E2 := Lib.hid (E1.out.below b2)
  have B2 := Lib.hid (B1.out.trans (b2.mono B1.out.size))
  clear b2 B1 E1
  go_wp2_with fail
  refine (K3.out _ E2.out).mono ?_
  rintro e w3 ⟨rfl, b3⟩
  have E3 := Lib.hid (E2.out.below b3)
  have B3 := Lib.hid (B2.out.trans (b3.mono B2.out.size))
  clear b3 B2 E2
  go_wp2_with fail
  refine (K4.out _ E3.out).mono ?_
  rintro e w4 ⟨rfl, b4⟩
  have E4 := Lib.hid (E3.out.below b4)
  have B4 := Lib.hid (B3.out.trans (b4.mono B3.out.size))
  clear b4 B3 E3
  go_wp2_with fail
  refine (K5.out _ E4.out).mono ?_
  rintro e w5 ⟨rfl, b5⟩
  have E5 := Lib.hid (E4.out.below b5)
  have B5 := Lib.hid (B4.out.trans (b5.mono B4.out.size))
  clear b5 B4 E4
  go_wp2_with fail
  refine (awake_true _ E5.out).mono ?_
  rintro e w6 ⟨rfl, b6⟩
  have B6 := B5.out.trans (b6.mono B5.out.size)
  clear b6 B5 E5
  go_wp2
  go_ret
  exact ⟨rfl, B6⟩
theorem shifts_walk (n b : Int) (wide : Bool) (h : 0 ≤ n) (h' : n ≤ 18446744073709551615) (hb : -9223372036854775808 ≤ b) (hb' : b ≤ 9223372036854775807) (w : World) (hE : Edges w) :
    Calls Tryd.prog 8 #[.int .u64 n, .int .i64 b, .bool wide] w fun e w' => e = .returned (.bool true) ∧ Below w.heap.size w w' := by
  cases wide
  · exact shifts_f n b h h' hb hb' w hE
  · exact shifts_t n b h h' hb hb' w hE
end Go.Proofs.YtaghpmnjencmjaaDoor
