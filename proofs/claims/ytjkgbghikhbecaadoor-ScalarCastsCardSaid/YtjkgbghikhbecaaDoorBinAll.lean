/-
  Package alu's Bin: for every op, of 64 and of 32 bits, signed or not, and any two numbers it returns the answer of the plain definition 'binV', and ErrArg just where 'binOk' says no.
-/
import Derived.Test.YtjkgbghikhbecaaDoorBin
namespace Go.Proofs.YtjkgbghikhbecaaDoor
open Go.RowKit (wrap32 wrap64 Below Hid)
set_option linter.unusedVariables false

def eP64 (i : Nat) : Int := if i = 6 ∨ i = 7 ∨ i = 12 then 63 else 18446744073709551615
def eP32 (i : Nat) : Int := if i = 6 ∨ i = 7 ∨ i = 12 then 31 else 4294967295
def eZero (i : Nat) : Int := if i = 3 then 1 else if i = 9 then 2 else 0
def eOver (i : Nat) : Int := if i = 3 then 2 else if i = 9 then 1 else 0
def eSg (i : Nat) : Bool := decide (i = 3) || decide (i = 9)
/-- The package's table reads as its text lays it. -/
def Edges (w : World) : Prop := 0 < w.heap.size ∧ ∀ i : Nat, i ≤ 12 → RowIs w i (16 * i) (eP64 i) (eP32 i) (eZero i) (eOver i) (eSg i)
theorem Edges.below {w w' : World} (h : Edges w) (hb : Below w.heap.size w w') : Edges w' := by
  refine ⟨Nat.lt_of_lt_of_le h.1 hb.size, fun i hi => ?_⟩
  obtain ⟨c0, c1, c2, c3, c4, c5⟩ := h.2 i hi
  exact ⟨by rw [hb.cell (by exact h.1)]; exact c0, by rw [hb.cell (by exact h.1)]; exact c1, by rw [hb.cell (by exact h.1)]; exact c2, by rw [hb.cell (by exact h.1)]; exact c3, by rw [hb.cell (by exact h.1)]; exact c4, by rw [hb.cell (by exact h.1)]; exact c5⟩

abbrev BinGives (op : Int) (wide signed : Bool) (a b : Int) (w : World) (r err : Int) : Prop :=
  Calls Tryd.prog 46 #[.int .i64 op, .bool wide, .bool signed, .int .u64 a, .int .u64 b] w fun e w' => e = .returned (.tuple #[.int .u64 r, .int .i64 err]) ∧ Below w.heap.size w w'
abbrev PlainGives (op : Int) (wide signed : Bool) (a b : Int) (r : Int) : Prop :=
  ∀ W, Calls Tryd.prog 51 #[.int .i64 op, .bool wide, .bool signed, .int .u64 a, .int .u64 b] W fun e w' => e = .returned (.int .u64 r) ∧ W = w'
abbrev MeetGives (op p q z v : Int) (s wide signed : Bool) (a b : Int) (m : Int) : Prop :=
  ∀ W, Calls Tryd.prog 50 #[.agg #[.int .i64 op, .bool s, .int .u64 p, .int .u64 q, .int .i64 z, .int .i64 v], .bool wide, .bool signed, .int .u64 a, .int .u64 b] W fun e w' => e = .returned (.int .i64 m) ∧ Below W.heap.size W w'

theorem pick_mask (wide : Bool) : pick wide 18446744073709551615 4294967295 = mask wide := by cases wide <;> rfl
theorem and_pick (wide : Bool) (b : Int) (hb : 0 ≤ b) (hb' : b ≤ 18446744073709551615) : bits .and .u64 b (pick wide 63 31) = shc wide b := by
  cases wide
  · exact and_31 b hb hb'
  · exact and_63 b hb hb'

/-- An op that has no edge, of unsigned numbers. -/
theorem bin_simple (op : Int) (i : Nat) (hi : i = (op / 16).toNat) (h0 : 0 ≤ op) (h1 : op ≤ 192) (p q : Int) (wide : Bool) (a b B r : Int) (w : World)
    (ha : 0 ≤ a) (ha' : a ≤ 18446744073709551615) (hB : bits .and .u64 b (pick wide p q) = B) (hB0 : 0 ≤ B) (hr : RowIs w i op p q 0 0 false)
    (hP : PlainGives op wide false (cut wide a) B r) (hr0 : 0 ≤ r) (hr1 : r ≤ 18446744073709551615) : BinGives op wide false a b w (cut wide r) 0 := by
  have h := bin_m0 op h0 h1 i hi p q 0 0 false wide false (Or.inl rfl) a b r w hr (by
    rw [and_mask wide a ha ha', hB]
    by_cases hz : B = 0
    · subst hz; exact fun W => meet_zero _ _ _ _ _ _ _ _ _ W
    · exact fun W => meet_u _ _ _ _ _ _ _ _ _ (by omega) W) (by rw [and_mask wide a ha ha', hB]; exact hP)
  rw [and_mask wide r hr0 hr1] at h
  exact h

theorem bin_bad (op : Int) (wide signed : Bool) (a b : Int) (w : World) (hE : Edges w) (h : binOk op signed = false) : BinGives op wide signed a b w 0 1 := by
  by_cases h1 : op < 0 ∨ 192 < op
  · exact bin_out op h1 wide signed a b w
  · have h0 : 0 ≤ op := by omega
    have h192 : op ≤ 192 := by omega
    have hi : (op / 16).toNat ≤ 12 := by omega
    have hrow := hE.2 _ hi
    by_cases h16 : op % 16 = 0
    · have hop : (16 * ((op / 16).toNat : Int)) = op := by omega
      rw [hop] at hrow
      cases signed
      · simp [binOk, h0, h192, h16] at h
      · simp [binOk, h0, h192, h16] at h
        have e : eSg (op / 16).toNat = false := by simp [eSg]; omega
        rw [e] at hrow
        exact bin_sg op h0 h192 _ rfl _ _ _ _ wide a b w hrow
    · have hne : (16 * ((op / 16).toNat : Int)) ≠ op := by omega
      exact bin_ne op h0 h192 _ rfl _ _ _ _ _ _ wide signed a b w hrow (by simpa using hne) (by simpa using hne)

theorem cut_of (wide : Bool) (x y : Int) (h : x % 18446744073709551616 = y % 18446744073709551616) : cut wide x = cut wide y := by
  rw [← cut_u64 wide x, h, cut_u64]

section
variable (wide : Bool) (a b : Int) (w : World) (ha : 0 ≤ a) (ha' : a ≤ 18446744073709551615) (hb : 0 ≤ b) (hb' : b ≤ 18446744073709551615) (hE : Edges w)
include ha ha' hb hb' hE
theorem bin_0 : BinGives 0 wide false a b w (cut wide (cut wide a + cut wide b)) 0 := by
  rw [← cut_u64]
  exact bin_simple 0 0 rfl (by decide) (by decide) _ _ wide a b (cut wide b) _ w ha ha' (by rw [show eP64 0 = 18446744073709551615 from rfl, show eP32 0 = 4294967295 from rfl, pick_mask, and_mask wide b hb hb']) (cut_lo _ _) (hE.2 0 (by decide))
    (plain_add wide false _ _ (cut_lo _ _) (cut_hi _ _) (cut_lo _ _) (cut_hi _ _)) (by omega) (by omega)
theorem bin_16 : BinGives 16 wide false a b w (cut wide (cut wide a - cut wide b)) 0 := by
  rw [← cut_u64]
  exact bin_simple 16 1 rfl (by decide) (by decide) _ _ wide a b (cut wide b) _ w ha ha' (by rw [show eP64 1 = 18446744073709551615 from rfl, show eP32 1 = 4294967295 from rfl, pick_mask, and_mask wide b hb hb']) (cut_lo _ _) (hE.2 1 (by decide))
    (plain_sub wide false _ _ (cut_lo _ _) (cut_hi _ _) (cut_lo _ _) (cut_hi _ _)) (by omega) (by omega)
theorem bin_32 : BinGives 32 wide false a b w (cut wide (cut wide a * cut wide b)) 0 := by
  rw [← cut_u64]
  exact bin_simple 32 2 rfl (by decide) (by decide) _ _ wide a b (cut wide b) _ w ha ha' (by rw [show eP64 2 = 18446744073709551615 from rfl, show eP32 2 = 4294967295 from rfl, pick_mask, and_mask wide b hb hb']) (cut_lo _ _) (hE.2 2 (by decide))
    (plain_mul wide false _ _ (cut_lo _ _) (cut_hi _ _) (cut_lo _ _) (cut_hi _ _)) (Int.emod_nonneg _ (by decide)) (by omega)
theorem bin_64 : BinGives 64 wide false a b w (cut wide (bits .or .u64 (cut wide a) (cut wide b))) 0 := by
  exact bin_simple 64 4 rfl (by decide) (by decide) _ _ wide a b (cut wide b) _ w ha ha' (by rw [show eP64 4 = 18446744073709551615 from rfl, show eP32 4 = 4294967295 from rfl, pick_mask, and_mask wide b hb hb']) (cut_lo _ _) (hE.2 4 (by decide))
    (plain_or wide false _ _ (cut_lo _ _) (cut_hi _ _) (cut_lo _ _) (cut_hi _ _)) (bits_lo .or _ _ (by simp) (cut_lo _ _) (cut_hi _ _) (cut_lo _ _) (cut_hi _ _)) (bits_hi .or _ _ (by simp) (cut_lo _ _) (cut_hi _ _) (cut_lo _ _) (cut_hi _ _))
theorem bin_80 : BinGives 80 wide false a b w (cut wide (bits .and .u64 (cut wide a) (cut wide b))) 0 := by
  exact bin_simple 80 5 rfl (by decide) (by decide) _ _ wide a b (cut wide b) _ w ha ha' (by rw [show eP64 5 = 18446744073709551615 from rfl, show eP32 5 = 4294967295 from rfl, pick_mask, and_mask wide b hb hb']) (cut_lo _ _) (hE.2 5 (by decide))
    (plain_and wide false _ _ (cut_lo _ _) (cut_hi _ _) (cut_lo _ _) (cut_hi _ _)) (bits_lo .and _ _ (by simp) (cut_lo _ _) (cut_hi _ _) (cut_lo _ _) (cut_hi _ _)) (bits_hi .and _ _ (by simp) (cut_lo _ _) (cut_hi _ _) (cut_lo _ _) (cut_hi _ _))
theorem bin_160 : BinGives 160 wide false a b w (cut wide (bits .xor .u64 (cut wide a) (cut wide b))) 0 := by
  exact bin_simple 160 10 rfl (by decide) (by decide) _ _ wide a b (cut wide b) _ w ha ha' (by rw [show eP64 10 = 18446744073709551615 from rfl, show eP32 10 = 4294967295 from rfl, pick_mask, and_mask wide b hb hb']) (cut_lo _ _) (hE.2 10 (by decide))
    (plain_xor wide false _ _ (cut_lo _ _) (cut_hi _ _) (cut_lo _ _) (cut_hi _ _)) (bits_lo .xor _ _ (by simp) (cut_lo _ _) (cut_hi _ _) (cut_lo _ _) (cut_hi _ _)) (bits_hi .xor _ _ (by simp) (cut_lo _ _) (cut_hi _ _) (cut_lo _ _) (cut_hi _ _))
theorem bin_128 : BinGives 128 wide false a b w (cut wide (-cut wide a)) 0 := by
  rw [← cut_u64]
  exact bin_simple 128 8 rfl (by decide) (by decide) _ _ wide a b (cut wide b) _ w ha ha' (by rw [show eP64 8 = 18446744073709551615 from rfl, show eP32 8 = 4294967295 from rfl, pick_mask, and_mask wide b hb hb']) (cut_lo _ _) (hE.2 8 (by decide))
    (plain_neg wide false _ _ (cut_lo _ _) (cut_hi _ _) (cut_lo _ _) (cut_hi _ _)) (by omega) (by omega)
theorem bin_176 : BinGives 176 wide false a b w (cut wide (cut wide b)) 0 := by
  exact bin_simple 176 11 rfl (by decide) (by decide) _ _ wide a b (cut wide b) _ w ha ha' (by rw [show eP64 11 = 18446744073709551615 from rfl, show eP32 11 = 4294967295 from rfl, pick_mask, and_mask wide b hb hb']) (cut_lo _ _) (hE.2 11 (by decide))
    (plain_mov wide false _ _ (cut_lo _ _) (cut_hi _ _) (cut_lo _ _) (cut_hi _ _)) (cut_lo _ _) (cut_hi _ _)
theorem bin_96 : BinGives 96 wide false a b w (cut wide (cut wide a * 2 ^ (shc wide b).toNat)) 0 := by
  rw [← cut_u64]
  exact bin_simple 96 6 rfl (by decide) (by decide) _ _ wide a b (shc wide b) _ w ha ha' (by rw [show eP64 6 = 63 from rfl, show eP32 6 = 31 from rfl, and_pick wide b hb hb']) (shc_lo _ _) (hE.2 6 (by decide))
    (plain_shl wide false _ _ (cut_lo _ _) (cut_hi _ _) (shc_lo _ _) (shc_hi _ _)) (Int.emod_nonneg _ (by decide)) (by omega)
theorem bin_112 : BinGives 112 wide false a b w (cut wide (cut wide a / 2 ^ (shc wide b).toNat)) 0 := by
  exact bin_simple 112 7 rfl (by decide) (by decide) _ _ wide a b (shc wide b) _ w ha ha' (by rw [show eP64 7 = 63 from rfl, show eP32 7 = 31 from rfl, and_pick wide b hb hb']) (shc_lo _ _) (hE.2 7 (by decide))
    (plain_shr wide false _ _ (cut_lo _ _) (cut_hi _ _) (shc_lo _ _) (shc_hi _ _)) (shr_lo _ _ (cut_lo _ _)) (shr_hi _ _ (cut_lo _ _) (cut_hi _ _))
theorem bin_192 : BinGives 192 wide false a b w (cut wide (sgn wide (cut wide a) / 2 ^ (shc wide b).toNat)) 0 := by
  rw [← cut_u64]
  exact bin_simple 192 12 rfl (by decide) (by decide) _ _ wide a b (shc wide b) _ w ha ha' (by rw [show eP64 12 = 63 from rfl, show eP32 12 = 31 from rfl, and_pick wide b hb hb']) (shc_lo _ _) (hE.2 12 (by decide))
    (plain_sar wide false _ _ (cut_lo _ _) (cut_hi _ _) (shc_lo _ _) (shc_hi _ _)) (Int.emod_nonneg _ (by decide)) (by omega)
end

/-- Signed division and rest ask whether the least number meets -1. -/
theorem meet_s (op p q z v : Int) (s wide : Bool) (A B : Int) (hA : 0 ≤ A) (hB : 1 ≤ B) (h : ¬ (A = (mask wide + 1) / 2 ∧ B = mask wide)) : MeetGives op p q z v s wide true A B 0 := by
  intro W
  cases wide
  · by_cases h1 : A = 2147483648
    · subst h1
      have h2 : B ≠ 4294967295 := by intro e; exact h ⟨by decide, e⟩
      exact meet_b_f _ _ _ _ _ _ B hB (by simpa using h2) W
    · exact meet_a_f _ _ _ _ _ _ A B hB (by simpa using h1) W
  · by_cases h1 : A = 9223372036854775808
    · subst h1
      have h2 : B ≠ 18446744073709551615 := by intro e; exact h ⟨by decide, e⟩
      exact meet_b_t _ _ _ _ _ _ B hB (by simpa using h2) W
    · exact meet_a_t _ _ _ _ _ _ A B hB (by simpa using h1) W
theorem meet_o (op p q z v : Int) (s wide : Bool) : MeetGives op p q z v s wide true ((mask wide + 1) / 2) (mask wide) v := by
  intro W
  cases wide
  · exact meet_over_f _ _ _ _ _ _ W
  · exact meet_over_t _ _ _ _ _ _ W
theorem cut_mask (wide : Bool) (n : Int) : cut wide n ≤ mask wide := by cases wide <;> simp [cut, mask] <;> omega
theorem sgn_mask (wide : Bool) : sgn wide (mask wide) = -1 := by cases wide <;> simp [sgn, mask, wrap64, wrap32]
theorem sgn_least (wide : Bool) : cut wide (-(sgn wide ((mask wide + 1) / 2))) = (mask wide + 1) / 2 := by cases wide <;> simp [sgn, mask, wrap64, wrap32, cut]
theorem cut_zero (wide : Bool) : cut wide 0 = 0 := by cases wide <;> rfl

section
variable (wide : Bool) (a b : Int) (w : World) (ha : 0 ≤ a) (ha' : a ≤ 18446744073709551615) (hb : 0 ≤ b) (hb' : b ≤ 18446744073709551615) (hE : Edges w)
include ha ha' hb hb' hE
theorem bin_48 (signed : Bool) : BinGives 48 wide signed a b w (cut wide (if cut wide b = 0 then 0 else if signed then (sgn wide (cut wide a)).tdiv (sgn wide (cut wide b)) else cut wide a / cut wide b)) 0 := by
  have hr : RowIs w 3 48 18446744073709551615 4294967295 1 2 true := hE.2 3 (by decide)
  have hs : signed = false ∨ (signed = true ∧ true = true) := by cases signed <;> simp
  have eB : bits .and .u64 b (pick wide 18446744073709551615 4294967295) = cut wide b := by rw [pick_mask, and_mask wide b hb hb']
  have l1 := cut_lo wide a
  have l2 := cut_hi wide a
  have l3 := cut_lo wide b
  have l4 := cut_hi wide b
  by_cases hz : cut wide b = 0
  · have h := bin_m1 48 (by decide) (by decide) 3 rfl _ _ 1 2 true wide signed hs a b w hr (by rw [eB, hz]; exact fun W => meet_zero _ _ _ _ _ _ _ _ _ W)
    rw [if_pos hz]
    rw [cut_zero]
    exact h
  · rw [if_neg hz]
    cases signed
    · have h := bin_m0 48 (by decide) (by decide) 3 rfl _ _ 1 2 true wide false hs a b (cut wide a / cut wide b) w hr
        (by rw [eB]; exact fun W => meet_u _ _ _ _ _ _ _ _ _ (by omega) W)
        (by rw [eB, and_mask wide a ha ha']; exact plain_div_u wide _ _ l1 l2 (by omega) l4)
      rw [and_mask _ _ (Int.ediv_nonneg l1 l3) (Int.le_trans (Int.ediv_le_self _ l1) l2)] at h
      exact h
    · by_cases ho : cut wide a = (mask wide + 1) / 2 ∧ cut wide b = mask wide
      · have h := bin_m2 48 (by decide) (by decide) 3 rfl _ _ 1 2 true wide true hs a b w hr (by rw [eB, and_mask wide a ha ha', ho.1, ho.2]; exact meet_o _ _ _ _ _ _ _)
        rw [and_mask wide a ha ha', ho.1] at h
        rw [ho.1, ho.2, sgn_mask, if_pos rfl, Int.tdiv_neg, Int.tdiv_one, sgn_least]
        exact h
      · have h := bin_m0 48 (by decide) (by decide) 3 rfl _ _ 1 2 true wide true hs a b ((sgn wide (cut wide a)).tdiv (sgn wide (cut wide b)) % 18446744073709551616) w hr
          (by rw [eB, and_mask wide a ha ha']; exact meet_s _ _ _ _ _ _ _ _ _ l1 (by omega) ho)
          (by rw [eB, and_mask wide a ha ha']; exact plain_div_s wide _ _ l1 l2 l3 l4 (sgn_zero wide _ hz l3 (cut_mask _ _)))
        rw [and_mask _ _ (Int.emod_nonneg _ (by decide)) (by omega), cut_u64] at h
        exact h
theorem bin_144 (signed : Bool) : BinGives 144 wide signed a b w (cut wide (if cut wide b = 0 then cut wide a else if signed then (sgn wide (cut wide a)).tmod (sgn wide (cut wide b)) else cut wide a % cut wide b)) 0 := by
  have hr : RowIs w 9 144 18446744073709551615 4294967295 2 1 true := hE.2 9 (by decide)
  have hs : signed = false ∨ (signed = true ∧ true = true) := by cases signed <;> simp
  have eB : bits .and .u64 b (pick wide 18446744073709551615 4294967295) = cut wide b := by rw [pick_mask, and_mask wide b hb hb']
  have l1 := cut_lo wide a
  have l2 := cut_hi wide a
  have l3 := cut_lo wide b
  have l4 := cut_hi wide b
  by_cases hz : cut wide b = 0
  · have h := bin_m2 144 (by decide) (by decide) 9 rfl _ _ 2 1 true wide signed hs a b w hr (by rw [eB, hz]; exact fun W => meet_zero _ _ _ _ _ _ _ _ _ W)
    rw [and_mask wide a ha ha'] at h
    rw [if_pos hz, cut_cut]
    exact h
  · rw [if_neg hz]
    cases signed
    · have h := bin_m0 144 (by decide) (by decide) 9 rfl _ _ 2 1 true wide false hs a b (cut wide a % cut wide b) w hr
        (by rw [eB]; exact fun W => meet_u _ _ _ _ _ _ _ _ _ (by omega) W)
        (by rw [eB, and_mask wide a ha ha']; exact plain_rest_u wide _ _ l1 l2 (by omega) l4)
      rw [and_mask _ _ (Int.emod_nonneg _ hz) (by have := Int.emod_lt_of_pos (cut wide a) (show 0 < cut wide b by omega); omega)] at h
      exact h
    · by_cases ho : cut wide a = (mask wide + 1) / 2 ∧ cut wide b = mask wide
      · have h := bin_m1 144 (by decide) (by decide) 9 rfl _ _ 2 1 true wide true hs a b w hr (by rw [eB, and_mask wide a ha ha', ho.1, ho.2]; exact meet_o _ _ _ _ _ _ _)
        rw [ho.1, ho.2, sgn_mask, if_pos rfl, Int.tmod_neg, Int.tmod_one]
        rw [cut_zero]
        exact h
      · have h := bin_m0 144 (by decide) (by decide) 9 rfl _ _ 2 1 true wide true hs a b ((sgn wide (cut wide a)).tmod (sgn wide (cut wide b)) % 18446744073709551616) w hr
          (by rw [eB, and_mask wide a ha ha']; exact meet_s _ _ _ _ _ _ _ _ _ l1 (by omega) ho)
          (by rw [eB, and_mask wide a ha ha']; exact plain_rest_s wide _ _ l1 l2 l3 l4 (sgn_zero wide _ hz l3 (cut_mask _ _)))
        rw [and_mask _ _ (Int.emod_nonneg _ (by decide)) (by omega), cut_u64] at h
        exact h

/-- ALL OF Bin. -/
theorem bin_any (op : Int) (signed : Bool) : BinGives op wide signed a b w (binV op wide signed a b) (binE op signed) := by
  by_cases hok : binOk op signed = true
  · have e1 : binV op wide signed a b = cut wide (opV op wide signed (cut wide a) (cut wide b)) := by simp [binV, hok]
    have e2 : binE op signed = 0 := by simp [binE, hok]
    rw [e1, e2]
    have hop : 0 ≤ op ∧ op ≤ 192 ∧ op % 16 = 0 ∧ (signed = false ∨ op = 48 ∨ op = 144) := by
      simp [binOk] at hok
      refine ⟨hok.1.1, hok.1.2.1, hok.1.2.2, ?_⟩
      cases signed <;> simp_all
    obtain ⟨h1, h2, h3, h4⟩ := hop
    have h5 : op = 0 ∨ op = 16 ∨ op = 32 ∨ op = 48 ∨ op = 64 ∨ op = 80 ∨ op = 96 ∨ op = 112 ∨ op = 128 ∨ op = 144 ∨ op = 160 ∨ op = 176 ∨ op = 192 := by omega
    rcases h5 with rfl | rfl | rfl | rfl | rfl | rfl | rfl | rfl | rfl | rfl | rfl | rfl | rfl
    · obtain rfl : signed = false := by simpa using h4
      exact bin_0 wide a b w ha ha' hb hb' hE
    · obtain rfl : signed = false := by simpa using h4
      exact bin_16 wide a b w ha ha' hb hb' hE
    · obtain rfl : signed = false := by simpa using h4
      exact bin_32 wide a b w ha ha' hb hb' hE
    · exact bin_48 wide a b w ha ha' hb hb' hE signed
    · obtain rfl : signed = false := by simpa using h4
      exact bin_64 wide a b w ha ha' hb hb' hE
    · obtain rfl : signed = false := by simpa using h4
      exact bin_80 wide a b w ha ha' hb hb' hE
    · obtain rfl : signed = false := by simpa using h4
      have h := bin_96 wide a b w ha ha' hb hb' hE
      rw [← shc_cut] at h
      exact h
    · obtain rfl : signed = false := by simpa using h4
      have h := bin_112 wide a b w ha ha' hb hb' hE
      rw [← shc_cut] at h
      exact h
    · obtain rfl : signed = false := by simpa using h4
      exact bin_128 wide a b w ha ha' hb hb' hE
    · exact bin_144 wide a b w ha ha' hb hb' hE signed
    · obtain rfl : signed = false := by simpa using h4
      exact bin_160 wide a b w ha ha' hb hb' hE
    · obtain rfl : signed = false := by simpa using h4
      exact bin_176 wide a b w ha ha' hb hb' hE
    · obtain rfl : signed = false := by simpa using h4
      have h := bin_192 wide a b w ha ha' hb hb' hE
      rw [← shc_cut] at h
      exact h
  · have hf : binOk op signed = false := by simpa using hok
    have e1 : binV op wide signed a b = 0 := by simp [binV, hf]
    have e2 : binE op signed = 1 := by simp [binE, hf]
    rw [e1, e2]
    exact bin_bad op wide signed a b w hE hf
end
end Go.Proofs.YtjkgbghikhbecaaDoor
