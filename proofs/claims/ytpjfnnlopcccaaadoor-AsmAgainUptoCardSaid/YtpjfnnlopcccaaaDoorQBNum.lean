/-
  Numbers and words, there and back: what is written as a number is read as it was; words with a blank between each two are read as they were.
-/
import Derived.Test.YtpjfnnlopcccaaaDoorQVRead
namespace Go.Proofs.YtpjfnnlopcccaaaDoor
open Go Go.RowKit Go.Maps
set_option linter.unusedVariables false
set_option linter.unusedSimpArgs false
theorem app_list (a b : ByteArray) : (a ++ b).data.toList = a.data.toList ++ b.data.toList := by rw [ByteArray.data_append, Array.toList_append]
theorem bstr_list (l : List UInt8) : (bstr l).data.toList = l := rfl
theorem bstr_app2 (a b : List UInt8) : bstr (a ++ b) = bstr a ++ bstr b := by
  apply ByteArray.ext
  simp [bstr, ByteArray.data_append]
theorem ba_ext {a b : ByteArray} (h : a.data.toList = b.data.toList) : a = b := by
  obtain ⟨a⟩ := a
  obtain ⟨b⟩ := b
  exact congrArg ByteArray.mk (Array.toList_inj.1 h)
theorem begins_app (p s : ByteArray) : begins (p ++ s) p = true := by
  unfold begins beginsB
  rw [app_list]
  simp
theorem behind_app (p s : ByteArray) : behind (p ++ s) p = s := by
  unfold behind
  rw [if_pos (begins_app p s), extract_bstr]
  apply ba_ext
  rw [bstr_list, app_list, List.take_of_length_le (by rw [← app_list, ← Lib.size_eq]; exact Nat.le_refl _)]
  have : p.size = p.data.toList.length := Lib.size_eq p
  rw [this, List.drop_left]
theorem begins_one (s : ByteArray) (c : UInt8) : begins s ⟨#[c]⟩ = decide (s.data.toList.head? = some c) := by
  unfold begins beginsB
  rcases h : s.data.toList with _ | ⟨x, r⟩
  · simp
  · simp
theorem begins_head {s : ByteArray} {c x : UInt8} {r : List UInt8} (h : s.data.toList = x :: r) : begins s ⟨#[c]⟩ = decide (x = c) := by
  rw [begins_one, h]
  simp
theorem behind_no {s p : ByteArray} (h : begins s p = false) : behind s p = s := by
  unfold behind
  rw [if_neg (by rw [h]; decide)]
/-! ### Digits -/
theorem digL_snoc (most : Nat) (b : UInt8) : ∀ (l : List UInt8) (n : Nat) (first : Bool), l ≠ [] → digL most n first (l ++ [b]) = (digL most n first l).bind fun m => digL most m false [b]
  | [], n, first, h => absurd rfl h
  | [c], n, first, _ => by
    show digL most n first (c :: [b]) = _
    by_cases h : c.toNat < 48 ∨ 57 < c.toNat ∨ (first = false ∧ n = 0) ∨ (most - (c.toNat - 48)) / 10 < n
    · rw [digL_no h, digL_no h]
      rfl
    · rw [digL_yes h, digL_yes h]
      rfl
  | c :: d :: l, n, first, _ => by
    rw [List.cons_append]
    by_cases h : c.toNat < 48 ∨ 57 < c.toNat ∨ (first = false ∧ n = 0) ∨ (most - (c.toNat - 48)) / 10 < n
    · rw [digL_no h, digL_no h]
      rfl
    · rw [digL_yes h, digL_yes h]
      exact digL_snoc most b (d :: l) _ false (by simp)
theorem decDigits_ne (k : Nat) : Lib.decDigits k ≠ [] := by
  rw [Lib.decDigits]
  split <;> simp
theorem digit_nat {k : Nat} (h : k < 10) : (UInt8.ofNat (48 + k)).toNat = 48 + k := by
  rw [UInt8.toNat_ofNat']
  omega
theorem dig_dec (most : Nat) : ∀ k : Nat, k ≤ most → digL most 0 true (Lib.decDigits k) = some k := by
  intro k
  induction k using Nat.strongRecOn with
  | _ k ih =>
    intro hk
    rw [Lib.decDigits]
    by_cases h : k < 10
    · rw [dif_pos h]
      have e := digit_nat h
      rw [digL_yes (by rw [e]; simp; omega)]
      rw [e, digL]
      simp
    · rw [dif_neg h, digL_snoc most _ _ 0 true (decDigits_ne _), ih (k / 10) (by omega) (by omega), Option.bind_some]
      have e := digit_nat (k := k % 10) (by omega)
      rw [digL_yes (by rw [e]; simp; omega), e, digL]
      congr 1
      omega
theorem decDigits_digit : ∀ k : Nat, ∀ b ∈ Lib.decDigits k, 48 ≤ b.toNat ∧ b.toNat ≤ 57 := by
  intro k
  induction k using Nat.strongRecOn with
  | _ k ih =>
    intro b hb
    rw [Lib.decDigits] at hb
    by_cases h : k < 10
    · rw [dif_pos h] at hb
      rw [List.mem_singleton] at hb
      subst hb
      rw [digit_nat h]
      omega
    · rw [dif_neg h] at hb
      rcases List.mem_append.1 hb with hb | hb
      · exact ih _ (by omega) b hb
      · rw [List.mem_singleton] at hb
        subst hb
        rw [digit_nat (by omega)]
        omega
theorem dec_nat (k : Nat) : dec (k : Int) = bstr (Lib.decDigits k) := by
  unfold dec Lib.itoa
  rw [if_neg (by omega)]
  rfl
theorem dec_neg (k : Nat) (h : 0 < k) : dec (-(k : Int)) = ⟨#[45]⟩ ++ bstr (Lib.decDigits k) := by
  unfold dec Lib.itoa
  rw [if_pos (by omega)]
  have e : (-(k : Int)).natAbs = k := by omega
  rw [e]
  apply ba_ext
  rw [app_list]
  rfl
theorem digN_dec (most k : Nat) (h : k ≤ most) : digN most (bstr (Lib.decDigits k)) = some k := by
  unfold digN
  rw [if_neg]
  · unfold digS
    rw [bstr_list]
    exact dig_dec most k h
  · rw [bstr_size]
    intro e
    exact decDigits_ne k (List.length_eq_zero_iff.1 e)
theorem head_dec (k : Nat) : ∃ (c : UInt8) (r : List UInt8), Lib.decDigits k = c :: r ∧ 48 ≤ c.toNat ∧ c.toNat ≤ 57 := by
  rcases h : Lib.decDigits k with _ | ⟨c, r⟩
  · exact absurd h (decDigits_ne k)
  · exact ⟨c, r, rfl, decDigits_digit k c (by rw [h]; simp)⟩
theorem regS_regT (p : ByteArray) (d : Int) (h0 : 0 ≤ d) (h1 : d ≤ 10) : regS (regT p d) p = some d.toNat := by
  obtain ⟨k, rfl⟩ := Int.eq_ofNat_of_zero_le h0
  unfold regS regT
  rw [dec_nat, if_pos (begins_app _ _), behind_app, digN_dec 10 k (by omega)]
  rfl
theorem signS_pos (k bits : Nat) (h : k ≤ 2 ^ (bits - 1) - 1) : signS false (bstr (Lib.decDigits k)) bits = some (k : Int) := by
  unfold signS mostOf
  simp only [Bool.false_eq_true, if_false, false_and]
  rw [digN_dec _ k h]
  rfl
theorem signS_neg (k bits : Nat) (h0 : 0 < k) (h : k ≤ 2 ^ (bits - 1)) : signS true (bstr (Lib.decDigits k)) bits = some (-(k : Int)) := by
  unfold signS mostOf
  simp only [if_true, true_and]
  rw [digN_dec _ k h, Option.bind_some, if_neg (by omega)]
theorem dec_begins (k : Nat) (c : UInt8) (hc : ¬ (48 ≤ c.toNat ∧ c.toNat ≤ 57)) : begins (bstr (Lib.decDigits k)) ⟨#[c]⟩ = false := by
  obtain ⟨x, r, h, h1, h2⟩ := head_dec k
  rw [begins_head (x := x) (r := r) (by rw [bstr_list]; exact h)]
  exact decide_eq_false (fun e => hc (e ▸ ⟨h1, h2⟩))
theorem immS_dec (m : Int) (h0 : -2147483648 ≤ m) (h1 : m ≤ 2147483647) : immS (dec m) = some m := by
  unfold immS
  rcases Int.lt_or_le m 0 with h | h
  · obtain ⟨k, hk, hk0⟩ : ∃ k : Nat, m = -(k : Int) ∧ 0 < k := ⟨m.natAbs, by omega, by omega⟩
    subst hk
    rw [dec_neg k hk0, begins_app, behind_app]
    exact signS_neg k 32 hk0 (by omega)
  · obtain ⟨k, rfl⟩ := Int.eq_ofNat_of_zero_le h
    rw [dec_nat, dec_begins k 45 (by decide), behind_no (dec_begins k 45 (by decide))]
    exact signS_pos k 32 (by omega)
theorem partsT_neg (k : Nat) (h : 0 < k) : partsT (-(k : Int)) = (⟨#[45]⟩, bstr (Lib.decDigits k)) := by
  unfold partsT
  rw [if_pos (by omega), show -(-(k : Int)) = (k : Int) by omega, dec_nat]
theorem partsT_pos (k : Nat) : partsT (k : Int) = (⟨#[43]⟩, bstr (Lib.decDigits k)) := by
  unfold partsT
  rw [if_neg (by omega), dec_nat]
theorem int_ways (f : Int) : (∃ k : Nat, f = -(k : Int) ∧ 0 < k) ∨ ∃ k : Nat, f = (k : Int) := by
  rcases Int.lt_or_le f 0 with h | h
  · exact .inl ⟨f.natAbs, by omega, by omega⟩
  · exact .inr ⟨f.toNat, by omega⟩
theorem furtherS_far (f : Int) (h0 : -32768 ≤ f) (h1 : f ≤ 32767) : furtherS (farT f) = some f := by
  unfold furtherS farT
  rcases int_ways f with ⟨k, rfl, hk0⟩ | ⟨k, rfl⟩
  · rw [partsT_neg k hk0]
    simp only
    rw [if_pos (begins_app _ _), behind_app]
    exact signS_neg k 16 hk0 (by omega)
  · rw [partsT_pos]
    simp only
    have hb : begins ((⟨#[43]⟩ : ByteArray) ++ bstr (Lib.decDigits k)) minusT = false := by
      rw [begins_head (x := 43) (r := Lib.decDigits k) (by rw [app_list]; rfl)]
      decide
    rw [hb, if_neg (by decide), if_pos (begins_app _ _), behind_app]
    exact signS_pos k 16 (by omega)
theorem same43 : sameT ⟨#[43]⟩ minusW = false ∧ sameT ⟨#[43]⟩ plusW = true ∧ sameT ⟨#[45]⟩ minusW = true ∧ sameT ⟨#[45]⟩ plusW = false := by decide
theorem parts_back (f : Int) (h0 : -32768 ≤ f) (h1 : f ≤ 32767) : signS (sameT (partsT f).1 minusW) (partsT f).2 16 = some f ∧ (sameT (partsT f).1 plusW || sameT (partsT f).1 minusW) = true := by
  rcases int_ways f with ⟨k, rfl, hk0⟩ | ⟨k, rfl⟩
  · rw [partsT_neg k hk0]
    simp only [same43, Bool.or_true, and_true]
    exact signS_neg k 16 hk0 (by omega)
  · rw [partsT_pos]
    simp only [same43, Bool.true_or, and_true]
    exact signS_pos k 16 (by omega)
/-! ### Words -/
/-- A word: not empty, without a blank and without a line's end. -/
def isW (w : ByteArray) : Prop := w.size ≠ 0 ∧ ∀ b ∈ w.data.toList, b.toNat ≠ 32 ∧ b.toNat ≠ 10
instance (w : ByteArray) : Decidable (isW w) := by unfold isW; infer_instance
theorem isW_app {a b : ByteArray} (ha : isW a) (hb : ∀ x ∈ b.data.toList, x.toNat ≠ 32 ∧ x.toNat ≠ 10) : isW (a ++ b) :=
  ⟨by rw [ByteArray.size_append]; have := ha.1; omega, fun x hx => by
    rw [app_list] at hx
    exact (List.mem_append.1 hx).elim (ha.2 x) (hb x)⟩
theorem isW_digits (k : Nat) : isW (bstr (Lib.decDigits k)) :=
  ⟨by rw [bstr_size]; exact fun e => decDigits_ne k (List.length_eq_zero_iff.1 e), fun b hb => by have := decDigits_digit k b hb; omega⟩
theorem isW_dec (m : Int) : isW (dec m) := by
  rcases Int.lt_or_le m 0 with h | h
  · obtain ⟨k, hk, hk0⟩ : ∃ k : Nat, m = -(k : Int) ∧ 0 < k := ⟨m.natAbs, by omega, by omega⟩
    subst hk
    rw [dec_neg k hk0]
    exact isW_app (by decide) (isW_digits k).2
  · obtain ⟨k, rfl⟩ := Int.eq_ofNat_of_zero_le h
    rw [dec_nat]
    exact isW_digits k
theorem isW_reg {p : ByteArray} (hp : isW p) (d : Int) : isW (regT p d) := isW_app hp (isW_dec d).2
theorem isW_letter (q : Int) : isW (letterS q) := by
  unfold letterS
  split <;> decide
theorem isW_parts (f : Int) : isW (partsT f).1 ∧ isW (partsT f).2 := by
  unfold partsT
  split
  · exact ⟨(by decide : isW ⟨#[45]⟩), isW_dec _⟩
  · exact ⟨(by decide : isW ⟨#[43]⟩), isW_dec _⟩
theorem isW_far (f : Int) : isW (farT f) := isW_app (isW_parts f).1 (isW_parts f).2.2
def joinT (ws : List ByteArray) : ByteArray := bstr (Lib.join (ws.map (·.data.toList)) [32])
theorem join_two (a : List UInt8) (b : List UInt8) (r : List (List UInt8)) : Lib.join (a :: b :: r) [32] = a ++ 32 :: Lib.join (b :: r) [32] := by
  rw [Lib.join_cons, Lib.join_cons, Lib.joinTail, Lib.joinTail]
  simp
theorem wordsL_in (s : ByteArray) (A : List ByteArray) (f gap : Nat) (r : List UInt8) : ∀ (u : List UInt8) (at' : Nat), (∀ b ∈ u, b.toNat ≠ 32) → wordsL s (u ++ r) at' A (some f) gap = wordsL s r (at' + u.length) A (some f) gap
  | [], at', _ => rfl
  | b :: u, at', h => by
    rw [List.cons_append, wordsL, if_neg (h b (by simp)), wordsL_in s A f gap r u (at' + 1) (fun c hc => h c (by simp [hc])), List.length_cons]
    congr 1
    omega
theorem wordsL_join (s : ByteArray) : ∀ (ws : List ByteArray) (at' : Nat) (A : List ByteArray) (gap : Nat), ws ≠ [] → (∀ w ∈ ws, isW w) → A.length + ws.length ≤ 8 → gap ≤ 1 →
    s.data.toList.drop at' = Lib.join (ws.map (·.data.toList)) [32] → wordsL s (Lib.join (ws.map (·.data.toList)) [32]) at' A none gap = some (A ++ ws)
  | [], at', A, gap, h, _, _, _, _ => absurd rfl h
  | [w], at', A, gap, _, hw, hl, hg, hd => by
    have hW := hw w (by simp)
    rw [List.map_cons, List.map_nil, Lib.join_one] at hd ⊢
    rcases hu : w.data.toList with _ | ⟨c, u⟩
    · exact absurd (by rw [Lib.size_eq, hu]; rfl) hW.1
    · have hc : ∀ b ∈ c :: u, b.toNat ≠ 32 := fun b hb => (hW.2 b (by rw [hu]; exact hb)).1
      rw [wordsL, if_neg (hc c (by simp)), if_neg (by simp at hl; omega)]
      have h1 := wordsL_in s A at' gap [] u (at' + 1) (fun b hb => hc b (by simp [hb]))
      rw [List.append_nil] at h1
      rw [h1, wordsL, extract_bstr, List.take_of_length_le (by rw [← Lib.size_eq]; exact Nat.le_refl _), hd, bstr_data]
  | w :: w2 :: ws, at', A, gap, _, hw, hl, hg, hd => by
    have hW := hw w (by simp)
    rw [List.map_cons, List.map_cons, join_two] at hd ⊢
    rcases hu : w.data.toList with _ | ⟨c, u⟩
    · exact absurd (by rw [Lib.size_eq, hu]; rfl) hW.1
    · have hc : ∀ b ∈ c :: u, b.toNat ≠ 32 := fun b hb => (hW.2 b (by rw [hu]; exact hb)).1
      rw [hu] at hd
      rw [List.cons_append, wordsL, if_neg (hc c (by simp)), if_neg (by simp at hl; omega), wordsL_in s A at' gap _ u (at' + 1) (fun b hb => hc b (by simp [hb])), wordsL, if_pos (by decide)]
      have hx : s.extract at' (at' + 1 + u.length) = w := by
        rw [extract_bstr, List.drop_take, hd]
        apply ba_ext
        rw [bstr_list, hu, show at' + 1 + u.length - at' = (c :: u).length by simp; omega, List.take_left]
      rw [hx, ← List.map_cons (f := fun x : ByteArray => x.data.toList)]
      have h2 := wordsL_join s (w2 :: ws) (at' + 1 + u.length + 1) (A ++ [w]) 1 (by simp) (fun x hx => hw x (List.mem_cons_of_mem _ hx)) (by simp at hl ⊢; omega) (Nat.le_refl _) (by
        rw [show at' + 1 + u.length + 1 = at' + ((c :: u).length + 1) by simp; omega, ← List.drop_drop, hd, List.map_cons]
        simp)
      rw [h2]
      simp
theorem words_back (ws : List ByteArray) (h : ws ≠ []) (hw : ∀ w ∈ ws, isW w) (hl : ws.length ≤ 8) : wordsS (joinT ws) = some ws := by
  unfold wordsS wordsAt
  rw [List.drop_zero]
  exact wordsL_join (joinT ws) ws 0 [] 0 h hw (by simpa using hl) (by decide) (by rw [List.drop_zero]; rfl)
theorem join_ten : ∀ (ws : List ByteArray), (∀ w ∈ ws, isW w) → ∀ b ∈ Lib.join (ws.map (·.data.toList)) [32], b ≠ 10
  | [], _, b, hb => by simp [Lib.join_nil] at hb
  | [w], hw, b, hb => by
    rw [List.map_cons, List.map_nil, Lib.join_one] at hb
    intro e
    exact ((hw w (by simp)).2 b hb).2 (by rw [e]; rfl)
  | w :: w2 :: ws, hw, b, hb => by
    rw [List.map_cons, List.map_cons, join_two] at hb
    intro e
    rcases List.mem_append.1 hb with hb | hb
    · exact ((hw w (by simp)).2 b hb).2 (by rw [e]; rfl)
    · rcases List.mem_cons.1 hb with hb | hb
      · rw [hb] at e; cases e
      · exact join_ten (w2 :: ws) (fun x hx => hw x (List.mem_cons_of_mem _ hx)) b (by rw [List.map_cons]; exact hb) e
theorem saidT_join {ws : List ByteArray} (h : ∀ w ∈ ws, isW w) : saidT ws = joinT ws := by
  unfold saidT
  rw [if_neg]
  · rfl
  · unfold lacks
    intro e
    obtain ⟨x, hx, he⟩ := List.any_eq_true.1 e
    exact (h x hx).1 (of_decide_eq_true he)
end Go.Proofs.YtpjfnnlopcccaaaDoor
