/-
  The document's own Bin for layer 1, walked op by op.
-/
import Derived.Test.YthgfaajclghjhaaRefDiv
namespace Go.Proofs.Ythgfaajclghjhaa
open Go.RowKit (wrap32 wrap64 Below Hid)
set_option linter.unusedVariables false

theorem ret2_u64 {a b c : Int} (h : a = b) : Ending.returned (.tuple #[.int .u64 a, .int .i64 c]) = .returned (.tuple #[.int .u64 b, .int .i64 c]) := by rw [h]
theorem u64w_lo (x : Int) : 0 ≤ IntKind.u64.wrap x := by rw [IntKind.wrap_u64]; omega
theorem u64w_hi (x : Int) : IntKind.u64.wrap x ≤ 18446744073709551615 := by rw [IntKind.wrap_u64]; omega

def divV (rest signed wide : Bool) (a b : Int) : Int :=
  if b = 0 then (if rest then a else 0)
  else if signed then (if rest then (sgn wide a).tmod (sgn wide b) else (sgn wide a).tdiv (sgn wide b)) % 18446744073709551616
  else (if rest then a % b else a / b)
theorem div_any (rest signed wide : Bool) (a b : Int) (ha : 0 ≤ a) (ha' : a ≤ 18446744073709551615) (hb : 0 ≤ b) (hb' : b ≤ mask wide) (w : World) : DivGives rest signed wide a b w (divV rest signed wide a b) := by
  have hm : mask wide ≤ 18446744073709551615 := by cases wide <;> decide
  by_cases hz : b = 0
  · subst hz
    cases rest
    · exact div_z_f signed wide a w
    · exact div_z_t signed wide a w
  · have h0 := sgn_zero wide b hz hb hb'
    cases signed
    · cases rest
      · have h := div_u_f wide a b ha ha' (by omega) (by omega) w
        simpa [divV, hz] using h
      · have h := div_u_t wide a b ha ha' (by omega) (by omega) w
        simpa [divV, hz] using h
    · by_cases hn : sgn wide b = -1
      · have e1 : (sgn wide a).tmod (sgn wide b) = 0 := by rw [hn, Int.tmod_neg, Int.tmod_one]
        have e2 : (sgn wide a).tdiv (sgn wide b) = -sgn wide a := by rw [hn, Int.tdiv_neg, Int.tdiv_one]
        have e3 : divV rest true wide a b = if rest then 0 else (-sgn wide a) % 18446744073709551616 := by
          unfold divV; rw [if_neg hz, e1, e2]; cases rest <;> simp
        rw [e3]
        cases wide
        · have hn' : (wrap64 (wrap32 b) == -1) = true := by rw [wrap32_64]; simpa [sgn] using hn
          cases rest
          · have h := div_m_ff a b ha ha' (by omega) (by omega) hn' w
            rw [wrap32_64] at h; exact h
          · exact div_m_tf a b ha ha' (by omega) (by omega) hn' w
        · have hn' : (wrap64 b == -1) = true := by simpa [sgn] using hn
          cases rest
          · exact div_m_ft a b ha ha' (by omega) (by omega) hn' w
          · exact div_m_tt a b ha ha' (by omega) (by omega) hn' w
      · have e3 : divV rest true wide a b = (if rest then (sgn wide a).tmod (sgn wide b) else (sgn wide a).tdiv (sgn wide b)) % 18446744073709551616 := by
          unfold divV; rw [if_neg hz, if_pos rfl]
        rw [e3]
        cases wide
        · have hn' : (wrap64 (wrap32 b) == -1) = false := by rw [wrap32_64]; simpa [sgn] using hn
          have h0' : wrap64 (wrap32 b) ≠ 0 := by rw [wrap32_64]; simpa [sgn] using h0
          cases rest
          · have h := div_s_ff a b ha ha' (by omega) (by omega) h0' hn' w
            rw [wrap32_64, wrap32_64] at h; exact h
          · have h := div_s_tf a b ha ha' (by omega) (by omega) h0' hn' w
            rw [wrap32_64, wrap32_64] at h; exact h
        · have hn' : (wrap64 b == -1) = false := by simpa [sgn] using hn
          have h0' : wrap64 b ≠ 0 := by simpa [sgn] using h0
          cases rest
          · exact div_s_ft a b ha ha' (by omega) (by omega) h0' hn' w
          · exact div_s_tt a b ha ha' (by omega) (by omega) h0' hn' w

abbrev RefGives (op : Int) (wide signed : Bool) (a b : Int) (w : World) (r err : Int) : Prop :=
  Calls Try.prog 28 #[.int .i64 op, .bool wide, .bool signed, .int .u64 a, .int .u64 b] w fun e w' => e = .returned (.tuple #[.int .u64 r, .int .i64 err]) ∧ w = w'
theorem and63_lo (b : Int) (h : 0 ≤ b) (h' : b ≤ 18446744073709551615) : 0 ≤ bits .and .u64 b 63 ∧ bits .and .u64 b 63 ≤ 63 := by rw [and_63 b h h']; omega
theorem and31_lo (b : Int) (h : 0 ≤ b) (h' : b ≤ 18446744073709551615) : 0 ≤ bits .and .u64 b 31 ∧ bits .and .u64 b 31 ≤ 31 := by rw [and_31 b h h']; omega
theorem rt_0 (a b : Int) (ha : 0 ≤ a) (ha' : a ≤ 18446744073709551615) (hb : 0 ≤ b) (hb' : b ≤ 18446744073709551615) (w : World) : RefGives 0 true false a b w ((a + b) % 18446744073709551616) 0 := by
  obtain ⟨hs0, hs1⟩ := and63_lo b hb hb'
  go_enter Try.func28, Try.ntmps28
  go_wp2
  go_ret2
  exact ⟨ret2_u64 (IntKind.wrap_u64 _), rfl⟩
theorem rt_16 (a b : Int) (ha : 0 ≤ a) (ha' : a ≤ 18446744073709551615) (hb : 0 ≤ b) (hb' : b ≤ 18446744073709551615) (w : World) : RefGives 16 true false a b w ((a - b) % 18446744073709551616) 0 := by
  obtain ⟨hs0, hs1⟩ := and63_lo b hb hb'
  go_enter Try.func28, Try.ntmps28
  go_wp2
  go_ret2
  exact ⟨ret2_u64 (IntKind.wrap_u64 _), rfl⟩
theorem rt_32 (a b : Int) (ha : 0 ≤ a) (ha' : a ≤ 18446744073709551615) (hb : 0 ≤ b) (hb' : b ≤ 18446744073709551615) (w : World) : RefGives 32 true false a b w ((a * b) % 18446744073709551616) 0 := by
  obtain ⟨hs0, hs1⟩ := and63_lo b hb hb'
  go_enter Try.func28, Try.ntmps28
  go_wp2
  go_ret2
  exact ⟨ret2_u64 (IntKind.wrap_u64 _), rfl⟩
theorem rt_64 (a b : Int) (ha : 0 ≤ a) (ha' : a ≤ 18446744073709551615) (hb : 0 ≤ b) (hb' : b ≤ 18446744073709551615) (w : World) : RefGives 64 true false a b w (bits .or .u64 a b) 0 := by
  obtain ⟨hs0, hs1⟩ := and63_lo b hb hb'
  go_enter Try.func28, Try.ntmps28
  go_wp2
  go_ret2
  exact ⟨rfl, rfl⟩
theorem rt_80 (a b : Int) (ha : 0 ≤ a) (ha' : a ≤ 18446744073709551615) (hb : 0 ≤ b) (hb' : b ≤ 18446744073709551615) (w : World) : RefGives 80 true false a b w (bits .and .u64 a b) 0 := by
  obtain ⟨hs0, hs1⟩ := and63_lo b hb hb'
  go_enter Try.func28, Try.ntmps28
  go_wp2
  go_ret2
  exact ⟨rfl, rfl⟩
theorem rt_160 (a b : Int) (ha : 0 ≤ a) (ha' : a ≤ 18446744073709551615) (hb : 0 ≤ b) (hb' : b ≤ 18446744073709551615) (w : World) : RefGives 160 true false a b w (bits .xor .u64 a b) 0 := by
  obtain ⟨hs0, hs1⟩ := and63_lo b hb hb'
  go_enter Try.func28, Try.ntmps28
  go_wp2
  go_ret2
  exact ⟨rfl, rfl⟩
theorem rt_96 (a b : Int) (ha : 0 ≤ a) (ha' : a ≤ 18446744073709551615) (hb : 0 ≤ b) (hb' : b ≤ 18446744073709551615) (w : World) : RefGives 96 true false a b w ((a * 2 ^ (bits .and .u64 b 63).toNat) % 18446744073709551616) 0 := by
  obtain ⟨hs0, hs1⟩ := and63_lo b hb hb'
  go_enter Try.func28, Try.ntmps28
  go_wp2
  go_ret2
  exact ⟨ret2_u64 (IntKind.wrap_u64 _), rfl⟩
theorem rt_112 (a b : Int) (ha : 0 ≤ a) (ha' : a ≤ 18446744073709551615) (hb : 0 ≤ b) (hb' : b ≤ 18446744073709551615) (w : World) : RefGives 112 true false a b w (a / 2 ^ (bits .and .u64 b 63).toNat) 0 := by
  obtain ⟨hs0, hs1⟩ := and63_lo b hb hb'
  go_enter Try.func28, Try.ntmps28
  go_wp2
  go_ret2
  exact ⟨rfl, rfl⟩
theorem rt_128 (a b : Int) (ha : 0 ≤ a) (ha' : a ≤ 18446744073709551615) (hb : 0 ≤ b) (hb' : b ≤ 18446744073709551615) (w : World) : RefGives 128 true false a b w ((-a) % 18446744073709551616) 0 := by
  obtain ⟨hs0, hs1⟩ := and63_lo b hb hb'
  go_enter Try.func28, Try.ntmps28
  go_wp2
  go_ret2
  exact ⟨ret2_u64 (IntKind.wrap_u64 _), rfl⟩
theorem rt_176 (a b : Int) (ha : 0 ≤ a) (ha' : a ≤ 18446744073709551615) (hb : 0 ≤ b) (hb' : b ≤ 18446744073709551615) (w : World) : RefGives 176 true false a b w (b) 0 := by
  obtain ⟨hs0, hs1⟩ := and63_lo b hb hb'
  go_enter Try.func28, Try.ntmps28
  go_wp2
  go_ret2
  exact ⟨rfl, rfl⟩
theorem rt_192 (a b : Int) (ha : 0 ≤ a) (ha' : a ≤ 18446744073709551615) (hb : 0 ≤ b) (hb' : b ≤ 18446744073709551615) (w : World) : RefGives 192 true false a b w ((wrap64 a / 2 ^ (bits .and .u64 b 63).toNat) % 18446744073709551616) 0 := by
  obtain ⟨hs0, hs1⟩ := and63_lo b hb hb'
  go_enter Try.func28, Try.ntmps28
  go_wp2
  go_ret2
  exact ⟨ret2_u64 (IntKind.wrap_u64 _), rfl⟩
theorem rf_0 (a b : Int) (ha : 0 ≤ a) (ha' : a ≤ 18446744073709551615) (hb : 0 ≤ b) (hb' : b ≤ 18446744073709551615) (w : World) : RefGives 0 false false a b w (cut false (cut false a + cut false b)) 0 := by
  have hc : Hid (0 ≤ cut false b ∧ cut false b ≤ 18446744073709551615) := ⟨cut_lo _ _, cut_hi _ _⟩
  have hc' : Hid (0 ≤ cut false a ∧ cut false a ≤ 18446744073709551615) := ⟨cut_lo _ _, cut_hi _ _⟩
  obtain ⟨hs0, hs1⟩ := and31_lo (cut false b) (cut_lo _ _) (cut_hi _ _)
  go_enter Try.func28, Try.ntmps28
  go_wp2_with fail
  refine (low_any _ ha ha' _).mono ?_
  rintro e w' ⟨rfl, rfl⟩
  go_wp2_with fail
  refine (low_any _ hb hb' _).mono ?_
  rintro e w' ⟨rfl, rfl⟩
  go_wp2_with fail
  refine (low_any _ (u64w_lo _) (u64w_hi _) _).mono ?_
  rintro e w' ⟨rfl, rfl⟩
  go_wp2
  go_ret2
  exact ⟨ret2_u64 (by rw [IntKind.wrap_u64, cut_u64]), rfl⟩
theorem rf_16 (a b : Int) (ha : 0 ≤ a) (ha' : a ≤ 18446744073709551615) (hb : 0 ≤ b) (hb' : b ≤ 18446744073709551615) (w : World) : RefGives 16 false false a b w (cut false (cut false a - cut false b)) 0 := by
  have hc : Hid (0 ≤ cut false b ∧ cut false b ≤ 18446744073709551615) := ⟨cut_lo _ _, cut_hi _ _⟩
  have hc' : Hid (0 ≤ cut false a ∧ cut false a ≤ 18446744073709551615) := ⟨cut_lo _ _, cut_hi _ _⟩
  obtain ⟨hs0, hs1⟩ := and31_lo (cut false b) (cut_lo _ _) (cut_hi _ _)
  go_enter Try.func28, Try.ntmps28
  go_wp2_with fail
  refine (low_any _ ha ha' _).mono ?_
  rintro e w' ⟨rfl, rfl⟩
  go_wp2_with fail
  refine (low_any _ hb hb' _).mono ?_
  rintro e w' ⟨rfl, rfl⟩
  go_wp2_with fail
  refine (low_any _ (u64w_lo _) (u64w_hi _) _).mono ?_
  rintro e w' ⟨rfl, rfl⟩
  go_wp2
  go_ret2
  exact ⟨ret2_u64 (by rw [IntKind.wrap_u64, cut_u64]), rfl⟩
theorem rf_32 (a b : Int) (ha : 0 ≤ a) (ha' : a ≤ 18446744073709551615) (hb : 0 ≤ b) (hb' : b ≤ 18446744073709551615) (w : World) : RefGives 32 false false a b w (cut false (cut false a * cut false b)) 0 := by
  have hc : Hid (0 ≤ cut false b ∧ cut false b ≤ 18446744073709551615) := ⟨cut_lo _ _, cut_hi _ _⟩
  have hc' : Hid (0 ≤ cut false a ∧ cut false a ≤ 18446744073709551615) := ⟨cut_lo _ _, cut_hi _ _⟩
  obtain ⟨hs0, hs1⟩ := and31_lo (cut false b) (cut_lo _ _) (cut_hi _ _)
  go_enter Try.func28, Try.ntmps28
  go_wp2_with fail
  refine (low_any _ ha ha' _).mono ?_
  rintro e w' ⟨rfl, rfl⟩
  go_wp2_with fail
  refine (low_any _ hb hb' _).mono ?_
  rintro e w' ⟨rfl, rfl⟩
  go_wp2_with fail
  refine (low_any _ (u64w_lo _) (u64w_hi _) _).mono ?_
  rintro e w' ⟨rfl, rfl⟩
  go_wp2
  go_ret2
  exact ⟨ret2_u64 (by rw [IntKind.wrap_u64, cut_u64]), rfl⟩
theorem rf_64 (a b : Int) (ha : 0 ≤ a) (ha' : a ≤ 18446744073709551615) (hb : 0 ≤ b) (hb' : b ≤ 18446744073709551615) (w : World) : RefGives 64 false false a b w (cut false (bits .or .u64 (cut false a) (cut false b))) 0 := by
  have hc : Hid (0 ≤ cut false b ∧ cut false b ≤ 18446744073709551615) := ⟨cut_lo _ _, cut_hi _ _⟩
  have hc' : Hid (0 ≤ cut false a ∧ cut false a ≤ 18446744073709551615) := ⟨cut_lo _ _, cut_hi _ _⟩
  obtain ⟨hs0, hs1⟩ := and31_lo (cut false b) (cut_lo _ _) (cut_hi _ _)
  go_enter Try.func28, Try.ntmps28
  go_wp2_with fail
  refine (low_any _ ha ha' _).mono ?_
  rintro e w' ⟨rfl, rfl⟩
  go_wp2_with fail
  refine (low_any _ hb hb' _).mono ?_
  rintro e w' ⟨rfl, rfl⟩
  go_wp2_with fail
  refine (low_any _ (bits_lo .or _ _ (by simp) hc'.out.1 hc'.out.2 hc.out.1 hc.out.2) (bits_hi .or _ _ (by simp) hc'.out.1 hc'.out.2 hc.out.1 hc.out.2) _).mono ?_
  rintro e w' ⟨rfl, rfl⟩
  go_wp2
  go_ret2
  exact ⟨rfl, rfl⟩
theorem rf_80 (a b : Int) (ha : 0 ≤ a) (ha' : a ≤ 18446744073709551615) (hb : 0 ≤ b) (hb' : b ≤ 18446744073709551615) (w : World) : RefGives 80 false false a b w (cut false (bits .and .u64 (cut false a) (cut false b))) 0 := by
  have hc : Hid (0 ≤ cut false b ∧ cut false b ≤ 18446744073709551615) := ⟨cut_lo _ _, cut_hi _ _⟩
  have hc' : Hid (0 ≤ cut false a ∧ cut false a ≤ 18446744073709551615) := ⟨cut_lo _ _, cut_hi _ _⟩
  obtain ⟨hs0, hs1⟩ := and31_lo (cut false b) (cut_lo _ _) (cut_hi _ _)
  go_enter Try.func28, Try.ntmps28
  go_wp2_with fail
  refine (low_any _ ha ha' _).mono ?_
  rintro e w' ⟨rfl, rfl⟩
  go_wp2_with fail
  refine (low_any _ hb hb' _).mono ?_
  rintro e w' ⟨rfl, rfl⟩
  go_wp2_with fail
  refine (low_any _ (bits_lo .and _ _ (by simp) hc'.out.1 hc'.out.2 hc.out.1 hc.out.2) (bits_hi .and _ _ (by simp) hc'.out.1 hc'.out.2 hc.out.1 hc.out.2) _).mono ?_
  rintro e w' ⟨rfl, rfl⟩
  go_wp2
  go_ret2
  exact ⟨rfl, rfl⟩
theorem rf_160 (a b : Int) (ha : 0 ≤ a) (ha' : a ≤ 18446744073709551615) (hb : 0 ≤ b) (hb' : b ≤ 18446744073709551615) (w : World) : RefGives 160 false false a b w (cut false (bits .xor .u64 (cut false a) (cut false b))) 0 := by
  have hc : Hid (0 ≤ cut false b ∧ cut false b ≤ 18446744073709551615) := ⟨cut_lo _ _, cut_hi _ _⟩
  have hc' : Hid (0 ≤ cut false a ∧ cut false a ≤ 18446744073709551615) := ⟨cut_lo _ _, cut_hi _ _⟩
  obtain ⟨hs0, hs1⟩ := and31_lo (cut false b) (cut_lo _ _) (cut_hi _ _)
  go_enter Try.func28, Try.ntmps28
  go_wp2_with fail
  refine (low_any _ ha ha' _).mono ?_
  rintro e w' ⟨rfl, rfl⟩
  go_wp2_with fail
  refine (low_any _ hb hb' _).mono ?_
  rintro e w' ⟨rfl, rfl⟩
  go_wp2_with fail
  refine (low_any _ (bits_lo .xor _ _ (by simp) hc'.out.1 hc'.out.2 hc.out.1 hc.out.2) (bits_hi .xor _ _ (by simp) hc'.out.1 hc'.out.2 hc.out.1 hc.out.2) _).mono ?_
  rintro e w' ⟨rfl, rfl⟩
  go_wp2
  go_ret2
  exact ⟨rfl, rfl⟩
theorem rf_96 (a b : Int) (ha : 0 ≤ a) (ha' : a ≤ 18446744073709551615) (hb : 0 ≤ b) (hb' : b ≤ 18446744073709551615) (w : World) : RefGives 96 false false a b w (cut false (cut false a * 2 ^ (bits .and .u64 (cut false b) 31).toNat)) 0 := by
  have hc : Hid (0 ≤ cut false b ∧ cut false b ≤ 18446744073709551615) := ⟨cut_lo _ _, cut_hi _ _⟩
  have hc' : Hid (0 ≤ cut false a ∧ cut false a ≤ 18446744073709551615) := ⟨cut_lo _ _, cut_hi _ _⟩
  obtain ⟨hs0, hs1⟩ := and31_lo (cut false b) (cut_lo _ _) (cut_hi _ _)
  go_enter Try.func28, Try.ntmps28
  go_wp2_with fail
  refine (low_any _ ha ha' _).mono ?_
  rintro e w' ⟨rfl, rfl⟩
  go_wp2_with fail
  refine (low_any _ hb hb' _).mono ?_
  rintro e w' ⟨rfl, rfl⟩
  go_wp2_with fail
  refine (low_any _ (u64w_lo _) (u64w_hi _) _).mono ?_
  rintro e w' ⟨rfl, rfl⟩
  go_wp2
  go_ret2
  exact ⟨ret2_u64 (by rw [IntKind.wrap_u64, cut_u64]), rfl⟩
theorem rf_112 (a b : Int) (ha : 0 ≤ a) (ha' : a ≤ 18446744073709551615) (hb : 0 ≤ b) (hb' : b ≤ 18446744073709551615) (w : World) : RefGives 112 false false a b w (cut false (cut false a / 2 ^ (bits .and .u64 (cut false b) 31).toNat)) 0 := by
  have hc : Hid (0 ≤ cut false b ∧ cut false b ≤ 18446744073709551615) := ⟨cut_lo _ _, cut_hi _ _⟩
  have hc' : Hid (0 ≤ cut false a ∧ cut false a ≤ 18446744073709551615) := ⟨cut_lo _ _, cut_hi _ _⟩
  obtain ⟨hs0, hs1⟩ := and31_lo (cut false b) (cut_lo _ _) (cut_hi _ _)
  go_enter Try.func28, Try.ntmps28
  go_wp2_with fail
  refine (low_any _ ha ha' _).mono ?_
  rintro e w' ⟨rfl, rfl⟩
  go_wp2_with fail
  refine (low_any _ hb hb' _).mono ?_
  rintro e w' ⟨rfl, rfl⟩
  go_wp2_with fail
  refine (low_any _ (shr_lo _ _ hc'.out.1) (shr_hi _ _ hc'.out.1 hc'.out.2) _).mono ?_
  rintro e w' ⟨rfl, rfl⟩
  go_wp2
  go_ret2
  exact ⟨rfl, rfl⟩
theorem rf_128 (a b : Int) (ha : 0 ≤ a) (ha' : a ≤ 18446744073709551615) (hb : 0 ≤ b) (hb' : b ≤ 18446744073709551615) (w : World) : RefGives 128 false false a b w (cut false (-(cut false a))) 0 := by
  have hc : Hid (0 ≤ cut false b ∧ cut false b ≤ 18446744073709551615) := ⟨cut_lo _ _, cut_hi _ _⟩
  have hc' : Hid (0 ≤ cut false a ∧ cut false a ≤ 18446744073709551615) := ⟨cut_lo _ _, cut_hi _ _⟩
  obtain ⟨hs0, hs1⟩ := and31_lo (cut false b) (cut_lo _ _) (cut_hi _ _)
  go_enter Try.func28, Try.ntmps28
  go_wp2_with fail
  refine (low_any _ ha ha' _).mono ?_
  rintro e w' ⟨rfl, rfl⟩
  go_wp2_with fail
  refine (low_any _ hb hb' _).mono ?_
  rintro e w' ⟨rfl, rfl⟩
  go_wp2_with fail
  refine (low_any _ (u64w_lo _) (u64w_hi _) _).mono ?_
  rintro e w' ⟨rfl, rfl⟩
  go_wp2
  go_ret2
  exact ⟨ret2_u64 (by rw [IntKind.wrap_u64, cut_u64]), rfl⟩
theorem rf_176 (a b : Int) (ha : 0 ≤ a) (ha' : a ≤ 18446744073709551615) (hb : 0 ≤ b) (hb' : b ≤ 18446744073709551615) (w : World) : RefGives 176 false false a b w (cut false (cut false b)) 0 := by
  have hc : Hid (0 ≤ cut false b ∧ cut false b ≤ 18446744073709551615) := ⟨cut_lo _ _, cut_hi _ _⟩
  have hc' : Hid (0 ≤ cut false a ∧ cut false a ≤ 18446744073709551615) := ⟨cut_lo _ _, cut_hi _ _⟩
  obtain ⟨hs0, hs1⟩ := and31_lo (cut false b) (cut_lo _ _) (cut_hi _ _)
  go_enter Try.func28, Try.ntmps28
  go_wp2_with fail
  refine (low_any _ ha ha' _).mono ?_
  rintro e w' ⟨rfl, rfl⟩
  go_wp2_with fail
  refine (low_any _ hb hb' _).mono ?_
  rintro e w' ⟨rfl, rfl⟩
  go_wp2_with fail
  refine (low_any _ hc.out.1 hc.out.2 _).mono ?_
  rintro e w' ⟨rfl, rfl⟩
  go_wp2
  go_ret2
  exact ⟨rfl, rfl⟩
theorem rf_192 (a b : Int) (ha : 0 ≤ a) (ha' : a ≤ 18446744073709551615) (hb : 0 ≤ b) (hb' : b ≤ 18446744073709551615) (w : World) : RefGives 192 false false a b w (cut false (wrap32 (cut false a) / 2 ^ (bits .and .u64 (cut false b) 31).toNat)) 0 := by
  have hc : Hid (0 ≤ cut false b ∧ cut false b ≤ 18446744073709551615) := ⟨cut_lo _ _, cut_hi _ _⟩
  have hc' : Hid (0 ≤ cut false a ∧ cut false a ≤ 18446744073709551615) := ⟨cut_lo _ _, cut_hi _ _⟩
  obtain ⟨hs0, hs1⟩ := and31_lo (cut false b) (cut_lo _ _) (cut_hi _ _)
  go_enter Try.func28, Try.ntmps28
  go_wp2_with fail
  refine (low_any _ ha ha' _).mono ?_
  rintro e w' ⟨rfl, rfl⟩
  go_wp2_with fail
  refine (low_any _ hb hb' _).mono ?_
  rintro e w' ⟨rfl, rfl⟩
  go_wp2_with fail
  refine (low_any _ (u64w_lo _) (u64w_hi _) _).mono ?_
  rintro e w' ⟨rfl, rfl⟩
  go_wp2
  go_ret2
  exact ⟨ret2_u64 (by rw [IntKind.wrap_u64, cut_u64, wrap32_64]), rfl⟩
end Go.Proofs.Ythgfaajclghjhaa
