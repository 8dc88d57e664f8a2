/-
  Package alu's Swap and the document's own: for any number of bits and any number both return the plain definition's answer 'swapV', and ErrArg elsewhere; a swap of 64 bits undoes itself.
-/
import Derived.Test.YtaghpmnjencmjaaDoorExt
namespace Go.Proofs.YtaghpmnjencmjaaDoor
open Go.RowKit (wrap32 wrap64 Below Hid intOf)
set_option linter.unusedVariables false

/-- What is left of n behind k bytes. -/
def lft (n : Int) : Nat → Int
  | 0 => n
  | k + 1 => lft n k / 256
/-- The lowest k bytes of n, the other way round. -/
def rev (n : Int) : Nat → Int
  | 0 => 0
  | k + 1 => rev n k * 256 % 18446744073709551616 + lft n k % 256
theorem lft_bd (n : Int) (h : 0 ≤ n) (h' : n ≤ 18446744073709551615) (k : Nat) : 0 ≤ lft n k ∧ lft n k ≤ 18446744073709551615 := by
  induction k with
  | zero => exact ⟨h, h'⟩
  | succ k ih => simp only [lft]; omega
theorem rev_bd (n : Int) (k : Nat) : 0 ≤ rev n k ∧ rev n k ≤ 18446744073709551615 := by
  cases k with
  | zero => simp [rev]
  | succ k => simp only [rev]; omega
theorem or_join (x y : Int) (hx : 0 ≤ x) (hx' : x ≤ 18446744073709551615) (hm : x % 256 = 0) (hy : 0 ≤ y) (hy' : y ≤ 255) : bits .or .u64 x y = x + y := by
  rw [u64_or x y hx (by omega) hy (by omega), nat_join 8 x.toNat y.toNat (by omega) (by omega)]
  omega
/-- One round, in the walk's own words. -/
theorem rev_step (n : Int) (h : 0 ≤ n) (h' : n ≤ 18446744073709551615) (k : Nat) : bits .or .u64 (IntKind.u64.wrap (rev n k * 256)) (bits .and .u64 (lft n k) 255) = rev n (k + 1) := by
  obtain ⟨h1, h2⟩ := lft_bd n h h' k
  rw [and_255 _ h1 h2, IntKind.wrap_u64, or_join _ _ (by omega) (by omega) (by omega) (by omega) (by omega)]
  rfl
def swapV (bits n : Int) : Int := if bits = 16 then rev n 2 else if bits = 32 then rev n 4 else if bits = 64 then rev n 8 else 0
theorem swapV_bd (bits n : Int) : 0 ≤ swapV bits n ∧ swapV bits n ≤ 18446744073709551615 := by
  unfold swapV
  split
  · exact rev_bd _ _
  · split
    · exact rev_bd _ _
    · split
      · exact rev_bd _ _
      · omega
theorem rev_cut16 (n : Int) : rev (n % 65536) 2 = rev n 2 := by simp only [rev, lft]; omega
theorem rev_cut32 (n : Int) : rev (n % 4294967296) 4 = rev n 4 := by
  simp only [rev, lft]
  have e0 : n % 4294967296 % 256 = n % 256 := by omega
  have e1 : n % 4294967296 / 256 % 256 = n / 256 % 256 := by omega
  have e2 : n % 4294967296 / 256 / 256 % 256 = n / 256 / 256 % 256 := by omega
  have e3 : n % 4294967296 / 256 / 256 / 256 % 256 = n / 256 / 256 / 256 % 256 := by omega
  rw [e0, e1, e2, e3]
theorem st_up (x l M : Int) (h0 : 0 ≤ x) (h1 : x < M) (hM : M ≤ 72057594037927936) : x * 256 % 18446744073709551616 + l % 256 = x * 256 + l % 256 ∧ 0 ≤ x * 256 % 18446744073709551616 + l % 256 ∧ x * 256 % 18446744073709551616 + l % 256 < M * 256 := by omega
theorem st_dg (x y l : Int) (h : y = x * 256 + l % 256) : y / 256 = x ∧ y % 256 = l % 256 := by omega
theorem st_w (X L : Int) (h : 0 ≤ X) (h' : X ≤ 18446744073709551615) (hL : L % 256 = X % 256) : X / 256 * 256 % 18446744073709551616 + L % 256 = X := by omega
theorem rev_up (n : Int) : ∀ k : Nat, k < 8 → (rev n (k + 1) = rev n k * 256 + lft n k % 256 ∧ 0 ≤ rev n k ∧ rev n k < 256 ^ k) := by
  have z : 0 ≤ rev n 0 ∧ rev n 0 < 1 := by simp [rev]
  have u0 := st_up (rev n 0) (lft n 0) 1 z.1 z.2 (by decide)
  have u1 := st_up (rev n 1) (lft n 1) 256 u0.2.1 (by have := u0.2.2; exact this) (by decide)
  have u2 := st_up (rev n 2) (lft n 2) 65536 u1.2.1 (by have := u1.2.2; exact this) (by decide)
  have u3 := st_up (rev n 3) (lft n 3) 16777216 u2.2.1 (by have := u2.2.2; exact this) (by decide)
  have u4 := st_up (rev n 4) (lft n 4) 4294967296 u3.2.1 (by have := u3.2.2; exact this) (by decide)
  have u5 := st_up (rev n 5) (lft n 5) 1099511627776 u4.2.1 (by have := u4.2.2; exact this) (by decide)
  have u6 := st_up (rev n 6) (lft n 6) 281474976710656 u5.2.1 (by have := u5.2.2; exact this) (by decide)
  have u7 := st_up (rev n 7) (lft n 7) 72057594037927936 u6.2.1 (by have := u6.2.2; exact this) (by decide)
  intro k hk
  have hk' : k = 0 ∨ k = 1 ∨ k = 2 ∨ k = 3 ∨ k = 4 ∨ k = 5 ∨ k = 6 ∨ k = 7 := by omega
  rcases hk' with rfl | rfl | rfl | rfl | rfl | rfl | rfl | rfl
  · exact ⟨u0.1, z.1, z.2⟩
  · exact ⟨u1.1, u0.2.1, u0.2.2⟩
  · exact ⟨u2.1, u1.2.1, u1.2.2⟩
  · exact ⟨u3.1, u2.2.1, u2.2.2⟩
  · exact ⟨u4.1, u3.2.1, u3.2.2⟩
  · exact ⟨u5.1, u4.2.1, u4.2.2⟩
  · exact ⟨u6.1, u5.2.1, u5.2.2⟩
  · exact ⟨u7.1, u6.2.1, u6.2.2⟩
theorem rev_dg (n : Int) (k : Nat) (hk : k < 8) : rev n (k + 1) / 256 = rev n k ∧ rev n (k + 1) % 256 = lft n k % 256 := st_dg _ _ _ (rev_up n k hk).1
theorem lft_rev (n : Int) : lft (rev n 8) 1 = rev n 7 ∧ lft (rev n 8) 2 = rev n 6 ∧ lft (rev n 8) 3 = rev n 5 ∧ lft (rev n 8) 4 = rev n 4 ∧ lft (rev n 8) 5 = rev n 3 ∧ lft (rev n 8) 6 = rev n 2 ∧ lft (rev n 8) 7 = rev n 1 := by
  have v1 : lft (rev n 8) 1 = rev n 7 := (rev_dg n 7 (by decide)).1
  have v2 : lft (rev n 8) 2 = rev n 6 := by
    rw [show lft (rev n 8) 2 = lft (rev n 8) 1 / 256 from rfl, v1]
    exact (rev_dg n 6 (by decide)).1
  have v3 : lft (rev n 8) 3 = rev n 5 := by
    rw [show lft (rev n 8) 3 = lft (rev n 8) 2 / 256 from rfl, v2]
    exact (rev_dg n 5 (by decide)).1
  have v4 : lft (rev n 8) 4 = rev n 4 := by
    rw [show lft (rev n 8) 4 = lft (rev n 8) 3 / 256 from rfl, v3]
    exact (rev_dg n 4 (by decide)).1
  have v5 : lft (rev n 8) 5 = rev n 3 := by
    rw [show lft (rev n 8) 5 = lft (rev n 8) 4 / 256 from rfl, v4]
    exact (rev_dg n 3 (by decide)).1
  have v6 : lft (rev n 8) 6 = rev n 2 := by
    rw [show lft (rev n 8) 6 = lft (rev n 8) 5 / 256 from rfl, v5]
    exact (rev_dg n 2 (by decide)).1
  have v7 : lft (rev n 8) 7 = rev n 1 := by
    rw [show lft (rev n 8) 7 = lft (rev n 8) 6 / 256 from rfl, v6]
    exact (rev_dg n 1 (by decide)).1
  exact ⟨v1, v2, v3, v4, v5, v6, v7⟩
theorem rev_rev (n : Int) (h : 0 ≤ n) (h' : n ≤ 18446744073709551615) : rev (rev n 8) 8 = n := by
  obtain ⟨v1, v2, v3, v4, v5, v6, v7⟩ := lft_rev n
  have v0 : lft (rev n 8) 0 = rev n 8 := rfl
  have w0 : rev (rev n 8) 0 = lft n 8 := by
    have z : lft n 8 = 0 := by simp only [lft]; omega
    rw [z]; rfl
  have w1 : rev (rev n 8) 1 = lft n 7 := by
    rw [show rev (rev n 8) 1 = rev (rev n 8) 0 * 256 % 18446744073709551616 + lft (rev n 8) 0 % 256 from rfl, w0, v0, show lft n 8 = lft n 7 / 256 from rfl]
    exact st_w _ _ (lft_bd n h h' 7).1 (lft_bd n h h' 7).2 (rev_dg n 7 (by decide)).2
  have w2 : rev (rev n 8) 2 = lft n 6 := by
    rw [show rev (rev n 8) 2 = rev (rev n 8) 1 * 256 % 18446744073709551616 + lft (rev n 8) 1 % 256 from rfl, w1, v1, show lft n 7 = lft n 6 / 256 from rfl]
    exact st_w _ _ (lft_bd n h h' 6).1 (lft_bd n h h' 6).2 (rev_dg n 6 (by decide)).2
  have w3 : rev (rev n 8) 3 = lft n 5 := by
    rw [show rev (rev n 8) 3 = rev (rev n 8) 2 * 256 % 18446744073709551616 + lft (rev n 8) 2 % 256 from rfl, w2, v2, show lft n 6 = lft n 5 / 256 from rfl]
    exact st_w _ _ (lft_bd n h h' 5).1 (lft_bd n h h' 5).2 (rev_dg n 5 (by decide)).2
  have w4 : rev (rev n 8) 4 = lft n 4 := by
    rw [show rev (rev n 8) 4 = rev (rev n 8) 3 * 256 % 18446744073709551616 + lft (rev n 8) 3 % 256 from rfl, w3, v3, show lft n 5 = lft n 4 / 256 from rfl]
    exact st_w _ _ (lft_bd n h h' 4).1 (lft_bd n h h' 4).2 (rev_dg n 4 (by decide)).2
  have w5 : rev (rev n 8) 5 = lft n 3 := by
    rw [show rev (rev n 8) 5 = rev (rev n 8) 4 * 256 % 18446744073709551616 + lft (rev n 8) 4 % 256 from rfl, w4, v4, show lft n 4 = lft n 3 / 256 from rfl]
    exact st_w _ _ (lft_bd n h h' 3).1 (lft_bd n h h' 3).2 (rev_dg n 3 (by decide)).2
  have w6 : rev (rev n 8) 6 = lft n 2 := by
    rw [show rev (rev n 8) 6 = rev (rev n 8) 5 * 256 % 18446744073709551616 + lft (rev n 8) 5 % 256 from rfl, w5, v5, show lft n 3 = lft n 2 / 256 from rfl]
    exact st_w _ _ (lft_bd n h h' 2).1 (lft_bd n h h' 2).2 (rev_dg n 2 (by decide)).2
  have w7 : rev (rev n 8) 7 = lft n 1 := by
    rw [show rev (rev n 8) 7 = rev (rev n 8) 6 * 256 % 18446744073709551616 + lft (rev n 8) 6 % 256 from rfl, w6, v6, show lft n 2 = lft n 1 / 256 from rfl]
    exact st_w _ _ (lft_bd n h h' 1).1 (lft_bd n h h' 1).2 (rev_dg n 1 (by decide)).2
  have w8 : rev (rev n 8) 8 = lft n 0 := by
    rw [show rev (rev n 8) 8 = rev (rev n 8) 7 * 256 % 18446744073709551616 + lft (rev n 8) 7 % 256 from rfl, w7, v7, show lft n 1 = lft n 0 / 256 from rfl]
    exact st_w _ _ (lft_bd n h h' 0).1 (lft_bd n h h' 0).2 (rev_dg n 0 (by decide)).2
  exact w8
theorem swap_16 (n : Int) (h : 0 ≤ n) (h' : n ≤ 18446744073709551615) (hn : 0 ≤ (n % 65536)) (hn' : (n % 65536) ≤ 18446744073709551615) (w : World) : Gives2 14 #[.int .u64 n, .int .i64 16] w (rev (n % 65536) 2) 0 := by
  go_enter Tryd.func14, Tryd.ntmps14
  go_wp2_with fail
  refine (cut_16 n h h' _).mono ?_
  rintro e w' ⟨rfl, rfl⟩
  go_wp2
  go_loop [8, 6, 20] (fun u v i => ∃ k : Nat, k ≤ 2 ∧ i = .int .i64 k ∧ u = .int .u64 (rev (n % 65536) k) ∧ v = .int .u64 (lft (n % 65536) k)) (fun _ _ i => 2 - (intOf i).toNat)
  case atStart => exact ⟨0, by decide, rfl, rfl, rfl⟩
  case round =>
    obtain ⟨k, hk, rfl, rfl, rfl⟩ := hrel
    obtain ⟨b1, b2⟩ := lft_bd (n % 65536) hn hn' k
    have hs := Lib.hid (rev_step (n % 65536) hn hn' k)
    by_cases hlt : k < 2
    · go_wp2
      go_round
      case rel => exact ⟨k + 1, by omega, by go_num, by rw [← hs.out], rfl⟩
      case measure => simp [intOf]; omega
    · go_wp2
      go_ret2
      have e : k = 2 := by omega
      subst e
      exact ⟨rfl, rfl⟩
theorem rswap_16 (n : Int) (h : 0 ≤ n) (h' : n ≤ 18446744073709551615) (w : World) : Gives2 15 #[.int .u64 n, .int .i64 16] w (rev n 2) 0 := by
  have hn := h
  have hn' := h'
  go_enter Tryd.func15, Tryd.ntmps15
  go_wp2
  go_loop [6, 0, 7] (fun u v i => ∃ k : Nat, k ≤ 2 ∧ i = .int .i64 k ∧ u = .int .u64 (rev n k) ∧ v = .int .u64 (lft n k)) (fun _ _ i => 2 - (intOf i).toNat)
  case atStart => exact ⟨0, by decide, rfl, rfl, rfl⟩
  case round =>
    obtain ⟨k, hk, rfl, rfl, rfl⟩ := hrel
    obtain ⟨b1, b2⟩ := lft_bd n hn hn' k
    have hs := Lib.hid (rev_step n hn hn' k)
    by_cases hlt : k < 2
    · go_wp2
      go_round
      case rel => exact ⟨k + 1, by omega, by go_num, by rw [← hs.out], rfl⟩
      case measure => simp [intOf]; omega
    · go_wp2
      go_ret2
      have e : k = 2 := by omega
      subst e
      exact ⟨rfl, rfl⟩
theorem swap_32 (n : Int) (h : 0 ≤ n) (h' : n ≤ 18446744073709551615) (hn : 0 ≤ (n % 4294967296)) (hn' : (n % 4294967296) ≤ 18446744073709551615) (w : World) : Gives2 14 #[.int .u64 n, .int .i64 32] w (rev (n % 4294967296) 4) 0 := by
  go_enter Tryd.func14, Tryd.ntmps14
  go_wp2_with fail
  refine (cut_32 n h h' _).mono ?_
  rintro e w' ⟨rfl, rfl⟩
  go_wp2
  go_loop [8, 6, 20] (fun u v i => ∃ k : Nat, k ≤ 4 ∧ i = .int .i64 k ∧ u = .int .u64 (rev (n % 4294967296) k) ∧ v = .int .u64 (lft (n % 4294967296) k)) (fun _ _ i => 4 - (intOf i).toNat)
  case atStart => exact ⟨0, by decide, rfl, rfl, rfl⟩
  case round =>
    obtain ⟨k, hk, rfl, rfl, rfl⟩ := hrel
    obtain ⟨b1, b2⟩ := lft_bd (n % 4294967296) hn hn' k
    have hs := Lib.hid (rev_step (n % 4294967296) hn hn' k)
    by_cases hlt : k < 4
    · go_wp2
      go_round
      case rel => exact ⟨k + 1, by omega, by go_num, by rw [← hs.out], rfl⟩
      case measure => simp [intOf]; omega
    · go_wp2
      go_ret2
      have e : k = 4 := by omega
      subst e
      exact ⟨rfl, rfl⟩
theorem rswap_32 (n : Int) (h : 0 ≤ n) (h' : n ≤ 18446744073709551615) (w : World) : Gives2 15 #[.int .u64 n, .int .i64 32] w (rev n 4) 0 := by
  have hn := h
  have hn' := h'
  go_enter Tryd.func15, Tryd.ntmps15
  go_wp2
  go_loop [6, 0, 7] (fun u v i => ∃ k : Nat, k ≤ 4 ∧ i = .int .i64 k ∧ u = .int .u64 (rev n k) ∧ v = .int .u64 (lft n k)) (fun _ _ i => 4 - (intOf i).toNat)
  case atStart => exact ⟨0, by decide, rfl, rfl, rfl⟩
  case round =>
    obtain ⟨k, hk, rfl, rfl, rfl⟩ := hrel
    obtain ⟨b1, b2⟩ := lft_bd n hn hn' k
    have hs := Lib.hid (rev_step n hn hn' k)
    by_cases hlt : k < 4
    · go_wp2
      go_round
      case rel => exact ⟨k + 1, by omega, by go_num, by rw [← hs.out], rfl⟩
      case measure => simp [intOf]; omega
    · go_wp2
      go_ret2
      have e : k = 4 := by omega
      subst e
      exact ⟨rfl, rfl⟩
theorem swap_64 (n : Int) (h : 0 ≤ n) (h' : n ≤ 18446744073709551615) (hn : 0 ≤ n) (hn' : n ≤ 18446744073709551615) (w : World) : Gives2 14 #[.int .u64 n, .int .i64 64] w (rev n 8) 0 := by
  go_enter Tryd.func14, Tryd.ntmps14
  go_wp2_with fail
  refine (cut_64 n h h' _).mono ?_
  rintro e w' ⟨rfl, rfl⟩
  go_wp2
  go_loop [8, 6, 20] (fun u v i => ∃ k : Nat, k ≤ 8 ∧ i = .int .i64 k ∧ u = .int .u64 (rev n k) ∧ v = .int .u64 (lft n k)) (fun _ _ i => 8 - (intOf i).toNat)
  case atStart => exact ⟨0, by decide, rfl, rfl, rfl⟩
  case round =>
    obtain ⟨k, hk, rfl, rfl, rfl⟩ := hrel
    obtain ⟨b1, b2⟩ := lft_bd n hn hn' k
    have hs := Lib.hid (rev_step n hn hn' k)
    by_cases hlt : k < 8
    · go_wp2
      go_round
      case rel => exact ⟨k + 1, by omega, by go_num, by rw [← hs.out], rfl⟩
      case measure => simp [intOf]; omega
    · go_wp2
      go_ret2
      have e : k = 8 := by omega
      subst e
      exact ⟨rfl, rfl⟩
theorem rswap_64 (n : Int) (h : 0 ≤ n) (h' : n ≤ 18446744073709551615) (w : World) : Gives2 15 #[.int .u64 n, .int .i64 64] w (rev n 8) 0 := by
  have hn := h
  have hn' := h'
  go_enter Tryd.func15, Tryd.ntmps15
  go_wp2
  go_loop [6, 0, 7] (fun u v i => ∃ k : Nat, k ≤ 8 ∧ i = .int .i64 k ∧ u = .int .u64 (rev n k) ∧ v = .int .u64 (lft n k)) (fun _ _ i => 8 - (intOf i).toNat)
  case atStart => exact ⟨0, by decide, rfl, rfl, rfl⟩
  case round =>
    obtain ⟨k, hk, rfl, rfl, rfl⟩ := hrel
    obtain ⟨b1, b2⟩ := lft_bd n hn hn' k
    have hs := Lib.hid (rev_step n hn hn' k)
    by_cases hlt : k < 8
    · go_wp2
      go_round
      case rel => exact ⟨k + 1, by omega, by go_num, by rw [← hs.out], rfl⟩
      case measure => simp [intOf]; omega
    · go_wp2
      go_ret2
      have e : k = 8 := by omega
      subst e
      exact ⟨rfl, rfl⟩
theorem swap_no (bits : Int) (h16 : (bits == 16) = false) (h32 : (bits == 32) = false) (h64 : (bits == 64) = false) (n : Int) (h : 0 ≤ n) (h' : n ≤ 18446744073709551615) (w : World) : Gives2 14 #[.int .u64 n, .int .i64 bits] w 0 1 := by
  go_enter Tryd.func14, Tryd.ntmps14
  go_wp2_with fail
  refine (cut_no bits h16 h32 h64 n h h' _).mono ?_
  rintro e w' ⟨rfl, rfl⟩
  go_wp2
  go_ret2
  exact ⟨rfl, rfl⟩
theorem rswap_no (bits : Int) (h16 : (bits != 16) = true) (h32 : (bits != 32) = true) (h64 : (bits != 64) = true) (n : Int) (h : 0 ≤ n) (h' : n ≤ 18446744073709551615) (w : World) : Gives2 15 #[.int .u64 n, .int .i64 bits] w 0 1 := by
  go_enter Tryd.func15, Tryd.ntmps15
  go_wp2
  go_ret2
  exact ⟨rfl, rfl⟩
theorem swap_any (bits : Int) (n : Int) (h : 0 ≤ n) (h' : n ≤ 18446744073709551615) (w : World) : Gives2 14 #[.int .u64 n, .int .i64 bits] w (swapV bits n) (cutE bits) := by
  by_cases h1 : bits = 16
  · subst h1
    rw [show swapV 16 n = rev (n % 65536) 2 from (rev_cut16 n).symm]
    exact swap_16 n h h' (by omega) (by omega) w
  · by_cases h2 : bits = 32
    · subst h2
      rw [show swapV 32 n = rev (n % 4294967296) 4 from (rev_cut32 n).symm]
      exact swap_32 n h h' (by omega) (by omega) w
    · by_cases h3 : bits = 64
      · subst h3; exact swap_64 n h h' h h' w
      · rw [show swapV bits n = 0 by simp [swapV, h1, h2, h3], show cutE bits = 1 by simp [cutE, h1, h2, h3]]
        exact swap_no bits (by simpa using h1) (by simpa using h2) (by simpa using h3) n h h' w
theorem rswap_any (bits : Int) (n : Int) (h : 0 ≤ n) (h' : n ≤ 18446744073709551615) (w : World) : Gives2 15 #[.int .u64 n, .int .i64 bits] w (swapV bits n) (cutE bits) := by
  by_cases h1 : bits = 16
  · subst h1; exact rswap_16 n h h' w
  · by_cases h2 : bits = 32
    · subst h2; exact rswap_32 n h h' w
    · by_cases h3 : bits = 64
      · subst h3; exact rswap_64 n h h' w
      · rw [show swapV bits n = 0 by simp [swapV, h1, h2, h3], show cutE bits = 1 by simp [cutE, h1, h2, h3]]
        exact rswap_no bits (by simpa using h1) (by simpa using h2) (by simpa using h3) n h h' w
end Go.Proofs.YtaghpmnjencmjaaDoor
