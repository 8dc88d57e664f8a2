/-
  The document's own Bin for layer 1: for every op, of 64 and of 32 bits, signed or not, and any two numbers it returns the answer of the plain definition 'binV', and ErrArg just where 'binOk' says no.
-/
import Derived.Test.YthgfaajclghjhaaRefBin
namespace Go.Proofs.Ythgfaajclghjhaa
open Go.RowKit (wrap32 wrap64 Below Hid)
set_option linter.unusedVariables false

theorem divV_lo (rest signed wide : Bool) (a b : Int) (ha : 0 ≤ a) (hb : 0 ≤ b) : 0 ≤ divV rest signed wide a b := by
  unfold divV
  split
  · split <;> omega
  · rename_i hz
    split
    · omega
    · split
      · exact Int.emod_nonneg _ hz
      · exact Int.ediv_nonneg ha hb
theorem divV_hi (rest signed wide : Bool) (a b : Int) (ha : 0 ≤ a) (ha' : a ≤ 18446744073709551615) (hb : 0 ≤ b) : divV rest signed wide a b ≤ 18446744073709551615 := by
  unfold divV
  split
  · split <;> omega
  · rename_i hz
    split
    · omega
    · split
      · have h1 := Int.mul_ediv_add_emod a b
        have h2 := Int.mul_nonneg hb (Int.ediv_nonneg ha hb)
        omega
      · exact Int.le_trans (Int.ediv_le_self _ ha) ha'
theorem rt_48_t (a b : Int) (ha : 0 ≤ a) (ha' : a ≤ 18446744073709551615) (hb : 0 ≤ b) (hb' : b ≤ 18446744073709551615) (w : World) : RefGives 48 true true a b w (divV false true true a b) 0 := by
  go_enter Try.func28, Try.ntmps28
  go_wp2_with fail
  refine (div_any false true true _ _ ha ha' hb hb' _).mono ?_
  rintro e w' ⟨rfl, rfl⟩
  go_wp2
  go_ret2
  exact ⟨rfl, rfl⟩
theorem rf_48_t (a b : Int) (ha : 0 ≤ a) (ha' : a ≤ 18446744073709551615) (hb : 0 ≤ b) (hb' : b ≤ 18446744073709551615) (w : World) : RefGives 48 false true a b w (cut false (divV false true false (cut false a) (cut false b))) 0 := by
  have hc : Hid (0 ≤ cut false b ∧ cut false b ≤ mask false) := ⟨cut_lo _ _, cut_f_hi _⟩
  have hc' : Hid (0 ≤ cut false a ∧ cut false a ≤ 18446744073709551615) := ⟨cut_lo _ _, cut_hi _ _⟩
  go_enter Try.func28, Try.ntmps28
  go_wp2_with fail
  refine (low_any _ ha ha' _).mono ?_
  rintro e w' ⟨rfl, rfl⟩
  go_wp2_with fail
  refine (low_any _ hb hb' _).mono ?_
  rintro e w' ⟨rfl, rfl⟩
  go_wp2_with fail
  refine (div_any false true false _ _ hc'.out.1 hc'.out.2 hc.out.1 hc.out.2 _).mono ?_
  rintro e w' ⟨rfl, rfl⟩
  go_wp2_with fail
  refine (low_any _ (divV_lo _ _ _ _ _ hc'.out.1 hc.out.1) (divV_hi _ _ _ _ _ hc'.out.1 hc'.out.2 hc.out.1) _).mono ?_
  rintro e w' ⟨rfl, rfl⟩
  go_wp2
  go_ret2
  exact ⟨rfl, rfl⟩
theorem rt_48_f (a b : Int) (ha : 0 ≤ a) (ha' : a ≤ 18446744073709551615) (hb : 0 ≤ b) (hb' : b ≤ 18446744073709551615) (w : World) : RefGives 48 true false a b w (divV false false true a b) 0 := by
  go_enter Try.func28, Try.ntmps28
  go_wp2_with fail
  refine (div_any false false true _ _ ha ha' hb hb' _).mono ?_
  rintro e w' ⟨rfl, rfl⟩
  go_wp2
  go_ret2
  exact ⟨rfl, rfl⟩
theorem rf_48_f (a b : Int) (ha : 0 ≤ a) (ha' : a ≤ 18446744073709551615) (hb : 0 ≤ b) (hb' : b ≤ 18446744073709551615) (w : World) : RefGives 48 false false a b w (cut false (divV false false false (cut false a) (cut false b))) 0 := by
  have hc : Hid (0 ≤ cut false b ∧ cut false b ≤ mask false) := ⟨cut_lo _ _, cut_f_hi _⟩
  have hc' : Hid (0 ≤ cut false a ∧ cut false a ≤ 18446744073709551615) := ⟨cut_lo _ _, cut_hi _ _⟩
  go_enter Try.func28, Try.ntmps28
  go_wp2_with fail
  refine (low_any _ ha ha' _).mono ?_
  rintro e w' ⟨rfl, rfl⟩
  go_wp2_with fail
  refine (low_any _ hb hb' _).mono ?_
  rintro e w' ⟨rfl, rfl⟩
  go_wp2_with fail
  refine (div_any false false false _ _ hc'.out.1 hc'.out.2 hc.out.1 hc.out.2 _).mono ?_
  rintro e w' ⟨rfl, rfl⟩
  go_wp2_with fail
  refine (low_any _ (divV_lo _ _ _ _ _ hc'.out.1 hc.out.1) (divV_hi _ _ _ _ _ hc'.out.1 hc'.out.2 hc.out.1) _).mono ?_
  rintro e w' ⟨rfl, rfl⟩
  go_wp2
  go_ret2
  exact ⟨rfl, rfl⟩
theorem rt_144_t (a b : Int) (ha : 0 ≤ a) (ha' : a ≤ 18446744073709551615) (hb : 0 ≤ b) (hb' : b ≤ 18446744073709551615) (w : World) : RefGives 144 true true a b w (divV true true true a b) 0 := by
  go_enter Try.func28, Try.ntmps28
  go_wp2_with fail
  refine (div_any true true true _ _ ha ha' hb hb' _).mono ?_
  rintro e w' ⟨rfl, rfl⟩
  go_wp2
  go_ret2
  exact ⟨rfl, rfl⟩
theorem rf_144_t (a b : Int) (ha : 0 ≤ a) (ha' : a ≤ 18446744073709551615) (hb : 0 ≤ b) (hb' : b ≤ 18446744073709551615) (w : World) : RefGives 144 false true a b w (cut false (divV true true false (cut false a) (cut false b))) 0 := by
  have hc : Hid (0 ≤ cut false b ∧ cut false b ≤ mask false) := ⟨cut_lo _ _, cut_f_hi _⟩
  have hc' : Hid (0 ≤ cut false a ∧ cut false a ≤ 18446744073709551615) := ⟨cut_lo _ _, cut_hi _ _⟩
  go_enter Try.func28, Try.ntmps28
  go_wp2_with fail
  refine (low_any _ ha ha' _).mono ?_
  rintro e w' ⟨rfl, rfl⟩
  go_wp2_with fail
  refine (low_any _ hb hb' _).mono ?_
  rintro e w' ⟨rfl, rfl⟩
  go_wp2_with fail
  refine (div_any true true false _ _ hc'.out.1 hc'.out.2 hc.out.1 hc.out.2 _).mono ?_
  rintro e w' ⟨rfl, rfl⟩
  go_wp2_with fail
  refine (low_any _ (divV_lo _ _ _ _ _ hc'.out.1 hc.out.1) (divV_hi _ _ _ _ _ hc'.out.1 hc'.out.2 hc.out.1) _).mono ?_
  rintro e w' ⟨rfl, rfl⟩
  go_wp2
  go_ret2
  exact ⟨rfl, rfl⟩
theorem rt_144_f (a b : Int) (ha : 0 ≤ a) (ha' : a ≤ 18446744073709551615) (hb : 0 ≤ b) (hb' : b ≤ 18446744073709551615) (w : World) : RefGives 144 true false a b w (divV true false true a b) 0 := by
  go_enter Try.func28, Try.ntmps28
  go_wp2_with fail
  refine (div_any true false true _ _ ha ha' hb hb' _).mono ?_
  rintro e w' ⟨rfl, rfl⟩
  go_wp2
  go_ret2
  exact ⟨rfl, rfl⟩
theorem rf_144_f (a b : Int) (ha : 0 ≤ a) (ha' : a ≤ 18446744073709551615) (hb : 0 ≤ b) (hb' : b ≤ 18446744073709551615) (w : World) : RefGives 144 false false a b w (cut false (divV true false false (cut false a) (cut false b))) 0 := by
  have hc : Hid (0 ≤ cut false b ∧ cut false b ≤ mask false) := ⟨cut_lo _ _, cut_f_hi _⟩
  have hc' : Hid (0 ≤ cut false a ∧ cut false a ≤ 18446744073709551615) := ⟨cut_lo _ _, cut_hi _ _⟩
  go_enter Try.func28, Try.ntmps28
  go_wp2_with fail
  refine (low_any _ ha ha' _).mono ?_
  rintro e w' ⟨rfl, rfl⟩
  go_wp2_with fail
  refine (low_any _ hb hb' _).mono ?_
  rintro e w' ⟨rfl, rfl⟩
  go_wp2_with fail
  refine (div_any true false false _ _ hc'.out.1 hc'.out.2 hc.out.1 hc.out.2 _).mono ?_
  rintro e w' ⟨rfl, rfl⟩
  go_wp2_with fail
  refine (low_any _ (divV_lo _ _ _ _ _ hc'.out.1 hc.out.1) (divV_hi _ _ _ _ _ hc'.out.1 hc'.out.2 hc.out.1) _).mono ?_
  rintro e w' ⟨rfl, rfl⟩
  go_wp2
  go_ret2
  exact ⟨rfl, rfl⟩
theorem re_sg (op : Int) (wide : Bool) (a b : Int) (w : World) (h1 : (op != 48) = true) (h2 : (op != 144) = true) : RefGives op wide true a b w 0 1 := by
  go_enter Try.func28, Try.ntmps28
  go_wp2
  go_ret2
  exact ⟨rfl, rfl⟩
theorem re_t (op : Int) (h0 : (op == 0) = false) (h16 : (op == 16) = false) (h32 : (op == 32) = false) (h48 : (op == 48) = false) (h64 : (op == 64) = false) (h80 : (op == 80) = false) (h96 : (op == 96) = false) (h112 : (op == 112) = false) (h128 : (op == 128) = false) (h144 : (op == 144) = false) (h160 : (op == 160) = false) (h176 : (op == 176) = false) (h192 : (op == 192) = false) (a b : Int) (ha : 0 ≤ a) (ha' : a ≤ 18446744073709551615) (hb : 0 ≤ b) (hb' : b ≤ 18446744073709551615) (w : World) : RefGives op true false a b w 0 1 := by
  go_enter Try.func28, Try.ntmps28
  go_wp2
  go_ret2
  exact ⟨rfl, rfl⟩
theorem re_f (op : Int) (h0 : (op == 0) = false) (h16 : (op == 16) = false) (h32 : (op == 32) = false) (h48 : (op == 48) = false) (h64 : (op == 64) = false) (h80 : (op == 80) = false) (h96 : (op == 96) = false) (h112 : (op == 112) = false) (h128 : (op == 128) = false) (h144 : (op == 144) = false) (h160 : (op == 160) = false) (h176 : (op == 176) = false) (h192 : (op == 192) = false) (a b : Int) (ha : 0 ≤ a) (ha' : a ≤ 18446744073709551615) (hb : 0 ≤ b) (hb' : b ≤ 18446744073709551615) (w : World) : RefGives op false false a b w 0 1 := by
  go_enter Try.func28, Try.ntmps28
  go_wp2_with fail
  refine (low_any _ ha ha' _).mono ?_
  rintro e w' ⟨rfl, rfl⟩
  go_wp2_with fail
  refine (low_any _ hb hb' _).mono ?_
  rintro e w' ⟨rfl, rfl⟩
  go_wp2
  go_ret2
  exact ⟨rfl, rfl⟩

section
variable (a b : Int) (ha : 0 ≤ a) (ha' : a ≤ 18446744073709551615) (hb : 0 ≤ b) (hb' : b ≤ 18446744073709551615) (w : World)
include ha ha' hb hb'
theorem ref_bad (op : Int) (wide signed : Bool) (h : binOk op signed = false) : RefGives op wide signed a b w 0 1 := by
  cases signed
  · have hop : ¬ (0 ≤ op ∧ op ≤ 192 ∧ op % 16 = 0) := by simpa [binOk] using h
    have h0 : (op == 0) = false := by simp; omega
    have h16 : (op == 16) = false := by simp; omega
    have h32 : (op == 32) = false := by simp; omega
    have h48 : (op == 48) = false := by simp; omega
    have h64 : (op == 64) = false := by simp; omega
    have h80 : (op == 80) = false := by simp; omega
    have h96 : (op == 96) = false := by simp; omega
    have h112 : (op == 112) = false := by simp; omega
    have h128 : (op == 128) = false := by simp; omega
    have h144 : (op == 144) = false := by simp; omega
    have h160 : (op == 160) = false := by simp; omega
    have h176 : (op == 176) = false := by simp; omega
    have h192 : (op == 192) = false := by simp; omega
    cases wide
    · exact re_f op h0 h16 h32 h48 h64 h80 h96 h112 h128 h144 h160 h176 h192 a b ha ha' hb hb' w
    · exact re_t op h0 h16 h32 h48 h64 h80 h96 h112 h128 h144 h160 h176 h192 a b ha ha' hb hb' w
  · have hop : ¬ op = 48 ∧ ¬ op = 144 := by
      constructor <;> (intro e; subst e; simp [binOk] at h)
    exact re_sg op wide a b w (by simpa using hop.1) (by simpa using hop.2)
theorem ref_ok (op : Int) (wide signed : Bool) (hok : binOk op signed = true) : RefGives op wide signed a b w (cut wide (opV op wide signed (cut wide a) (cut wide b))) 0 := by
  have hop : 0 ≤ op ∧ op ≤ 192 ∧ op % 16 = 0 ∧ (signed = false ∨ op = 48 ∨ op = 144) := by
    simp [binOk] at hok
    refine ⟨hok.1.1, hok.1.2.1, hok.1.2.2, ?_⟩
    cases signed <;> simp_all
  obtain ⟨h1, h2, h3, h4⟩ := hop
  have ca := cut_t a ha ha'
  have cb := cut_t b hb hb'
  have h5 : op = 0 ∨ op = 16 ∨ op = 32 ∨ op = 48 ∨ op = 64 ∨ op = 80 ∨ op = 96 ∨ op = 112 ∨ op = 128 ∨ op = 144 ∨ op = 160 ∨ op = 176 ∨ op = 192 := by omega
  rcases h5 with rfl | rfl | rfl | rfl | rfl | rfl | rfl | rfl | rfl | rfl | rfl | rfl | rfl
  · obtain rfl : signed = false := by simpa using h4
    cases wide
    · exact rf_0 a b ha ha' hb hb' w
    · rw [ca, cb]; exact rt_0 a b ha ha' hb hb' w
  · obtain rfl : signed = false := by simpa using h4
    cases wide
    · exact rf_16 a b ha ha' hb hb' w
    · rw [ca, cb]; exact rt_16 a b ha ha' hb hb' w
  · obtain rfl : signed = false := by simpa using h4
    cases wide
    · exact rf_32 a b ha ha' hb hb' w
    · rw [ca, cb]; exact rt_32 a b ha ha' hb hb' w
  · have eV : ∀ (wd : Bool) (x y : Int), cut wd (opV 48 wd signed x y) = cut wd (divV false signed wd x y) := by
      intro wd x y
      by_cases hy : y = 0
      · simp [opV, divV, hy]
      · cases signed
        · simp [opV, divV, hy]
        · simp [opV, divV, hy, cut_u64]
    rw [eV]
    cases wide
    · cases signed
      · exact rf_48_f a b ha ha' hb hb' w
      · exact rf_48_t a b ha ha' hb hb' w
    · rw [ca, cb, cut_t _ (divV_lo _ _ _ _ _ ha hb) (divV_hi _ _ _ _ _ ha ha' hb)]
      cases signed
      · exact rt_48_f a b ha ha' hb hb' w
      · exact rt_48_t a b ha ha' hb hb' w
  · obtain rfl : signed = false := by simpa using h4
    cases wide
    · exact rf_64 a b ha ha' hb hb' w
    · rw [ca, cb, show cut true (opV 64 true false a b) = bits .or .u64 a b from cut_t _ (bits_lo .or _ _ (by simp) ha ha' hb hb') (bits_hi .or _ _ (by simp) ha ha' hb hb')]; exact rt_64 a b ha ha' hb hb' w
  · obtain rfl : signed = false := by simpa using h4
    cases wide
    · exact rf_80 a b ha ha' hb hb' w
    · rw [ca, cb, show cut true (opV 80 true false a b) = bits .and .u64 a b from cut_t _ (bits_lo .and _ _ (by simp) ha ha' hb hb') (bits_hi .and _ _ (by simp) ha ha' hb hb')]; exact rt_80 a b ha ha' hb hb' w
  · obtain rfl : signed = false := by simpa using h4
    cases wide
    · have h := rf_96 a b ha ha' hb hb' w
      rw [and_31 _ (cut_lo _ _) (cut_hi _ _)] at h
      exact h
    · have h := rt_96 a b ha ha' hb hb' w
      rw [and_63 _ hb hb'] at h
      rw [ca, cb]
      exact h
  · obtain rfl : signed = false := by simpa using h4
    cases wide
    · have h := rf_112 a b ha ha' hb hb' w
      rw [and_31 _ (cut_lo _ _) (cut_hi _ _)] at h
      exact h
    · have h := rt_112 a b ha ha' hb hb' w
      rw [and_63 _ hb hb'] at h
      rw [ca, cb]
      rw [show cut true (opV 112 true false a b) = a / 2 ^ (b % 64).toNat from cut_t _ (shr_lo _ _ ha) (shr_hi _ _ ha ha')]
      exact h
  · obtain rfl : signed = false := by simpa using h4
    cases wide
    · exact rf_128 a b ha ha' hb hb' w
    · rw [ca, cb]; exact rt_128 a b ha ha' hb hb' w
  · have eV : ∀ (wd : Bool) (x y : Int), cut wd (opV 144 wd signed x y) = cut wd (divV true signed wd x y) := by
      intro wd x y
      by_cases hy : y = 0
      · simp [opV, divV, hy]
      · cases signed
        · simp [opV, divV, hy]
        · simp [opV, divV, hy, cut_u64]
    rw [eV]
    cases wide
    · cases signed
      · exact rf_144_f a b ha ha' hb hb' w
      · exact rf_144_t a b ha ha' hb hb' w
    · rw [ca, cb, cut_t _ (divV_lo _ _ _ _ _ ha hb) (divV_hi _ _ _ _ _ ha ha' hb)]
      cases signed
      · exact rt_144_f a b ha ha' hb hb' w
      · exact rt_144_t a b ha ha' hb hb' w
  · obtain rfl : signed = false := by simpa using h4
    cases wide
    · exact rf_160 a b ha ha' hb hb' w
    · rw [ca, cb, show cut true (opV 160 true false a b) = bits .xor .u64 a b from cut_t _ (bits_lo .xor _ _ (by simp) ha ha' hb hb') (bits_hi .xor _ _ (by simp) ha ha' hb hb')]; exact rt_160 a b ha ha' hb hb' w
  · obtain rfl : signed = false := by simpa using h4
    cases wide
    · exact rf_176 a b ha ha' hb hb' w
    · rw [ca, cb, show cut true (opV 176 true false a b) = b from cb]; exact rt_176 a b ha ha' hb hb' w
  · obtain rfl : signed = false := by simpa using h4
    cases wide
    · have h := rf_192 a b ha ha' hb hb' w
      rw [and_31 _ (cut_lo _ _) (cut_hi _ _)] at h
      exact h
    · have h := rt_192 a b ha ha' hb hb' w
      rw [and_63 _ hb hb'] at h
      rw [ca, cb]
      exact h
/-- ALL OF the document's Bin. -/
theorem ref_any (op : Int) (wide signed : Bool) : RefGives op wide signed a b w (binV op wide signed a b) (binE op signed) := by
  by_cases hok : binOk op signed = true
  · have e1 : binV op wide signed a b = cut wide (opV op wide signed (cut wide a) (cut wide b)) := by simp [binV, hok]
    have e2 : binE op signed = 0 := by simp [binE, hok]
    rw [e1, e2]
    exact ref_ok a b ha ha' hb hb' w op wide signed hok
  · have hf : binOk op signed = false := by simpa using hok
    have e1 : binV op wide signed a b = 0 := by simp [binV, hf]
    have e2 : binE op signed = 1 := by simp [binE, hf]
    rw [e1, e2]
    exact ref_bad a b ha ha' hb hb' w op wide signed hf
end
end Go.Proofs.Ythgfaajclghjhaa
