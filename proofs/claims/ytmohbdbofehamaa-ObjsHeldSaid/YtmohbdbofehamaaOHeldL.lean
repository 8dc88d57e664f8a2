/-
  The law ObjsHeld: the table beside the row of what is left.
-/
import Derived.Test.YtmohbdbofehamaaOHeldP
import Derived.Lib.SlBytesRow
namespace Go.Proofs.Ytmohbdbofehamaa
open Go Go.RowKit Go.Maps OSt
set_option linter.unusedVariables false
set_option linter.unusedSimpArgs false
set_option maxRecDepth 100000
def cA (a b c : Nat) : Array Value := #[.int .i64 (a : Int), .int .i64 (b : Int), .int .i64 (c : Int)]
/-- The table, and the row g of what is left. -/
def TL (B : Nat) (w0 : World) (x g a b c : Nat) (s : OSt) (w : World) : Prop := TO B w0 x s w ∧ Blk w g intT (cA a b c) ∧ B ≤ g
section
variable {B x g a b c q : Nat} {w0 w w' : World} {s s' : OSt} {f : FuncId} {args : Array Value} {Φ : Ending → World → Prop}
theorem TO.setRow {cs : Array Value} (h : TO B w0 x s w) (hg : Blk w g intT cs) (hB : B ≤ g) (i : Nat) (v : Value) : TO B w0 x s (w.setCell ⟨g, i, none⟩ v) := by
  obtain ⟨P, h1, h2, h3, h4⟩ := h
  have k : Keeps (fun b => b = g) w (w.setCell ⟨g, i, none⟩ v) := (Keeps.refl (fun b => b = g) w).setCell (p := ⟨g, i, none⟩) (.inl rfl) _
  exact ⟨_, (h1.less hg).keeps k (fun b hb e => hb.2 e), fun b hb => h2 b hb.1, h3.trans (k.below (fun b e => e ▸ hB) h4), Nat.le_trans h4 k.size⟩
theorem TL.facts (h : TL B w0 x g a b c s w) : w.cell? ⟨g, 0, none⟩ = some (.int .i64 (a : Int)) ∧ w.cell? ⟨g, 1, none⟩ = some (.int .i64 (b : Int)) ∧ w.cell? ⟨g, 2, none⟩ = some (.int .i64 (c : Int)) ∧ (w.frozen? ⟨g, 0, none⟩ = false ∧ w.frozen? ⟨g, 1, none⟩ = false ∧ w.frozen? ⟨g, 2, none⟩ = false) :=
  ⟨h.2.1.cell 0, h.2.1.cell 1, h.2.1.cell 2, h.2.1.frozen 0, h.2.1.frozen 1, h.2.1.frozen 2⟩
theorem TL.quiet (h : TL B w0 x g a b c s w) (k : Keeps (fun _ => False) w w') : TL B w0 x g a b c s w' := ⟨h.1.quiet k, h.2.1.keeps k (fun h => h), h.2.2⟩
theorem TL.drew (h : TL B w0 x g a b c s w) : TL B w0 x g a b c s w.drew := h.quiet (keeps_drew w)
theorem TL.alloc (h : TL B w0 x g a b c s w) (o : Obj) : TL B w0 x g a b c s (w.alloc o) := h.quiet ((Keeps.refl _ w).alloc o)
theorem TL.set0 (h : TL B w0 x g a b c s w) (v : Nat) : TL B w0 x g v b c s (w.setCell ⟨g, 0, none⟩ (.int .i64 (v : Int))) := ⟨h.1.setRow h.2.1 h.2.2 0 _, h.2.1.set_ 0 _, h.2.2⟩
theorem TL.set1 (h : TL B w0 x g a b c s w) (v : Nat) : TL B w0 x g a v c s (w.setCell ⟨g, 1, none⟩ (.int .i64 (v : Int))) := ⟨h.1.setRow h.2.1 h.2.2 1 _, h.2.1.set_ 1 _, h.2.2⟩
theorem TL.set2 (h : TL B w0 x g a b c s w) (v : Nat) : TL B w0 x g a b v s (w.setCell ⟨g, 2, none⟩ (.int .i64 (v : Int))) := ⟨h.1.setRow h.2.1 h.2.2 2 _, h.2.1.set_ 2 _, h.2.2⟩
theorem TL.call (h : TL B w0 x g a b c s w) (k : ∀ P, TG x w P s w → Calls Try.prog f args w fun e w' => Φ e w' ∧ TG x w P s' w') : Calls Try.prog f args w fun e w' => Φ e w' ∧ TL B w0 x g a b c s' w' :=
  (h.1.callK h.2.1 k).mono fun e w' ⟨h1, h2, h3⟩ => ⟨h1, h2, h3, h.2.2⟩
theorem h_add (h : TO B w0 x newO w) : Calls Try.prog 13 #[tp x, .int .i64 1] w fun e w' => e = .returned (.tuple #[.int .i64 0, .int .i64 1, .int .i64 0]) ∧ TO B w0 x (HS 0 1 0 0) w' :=
  h.call fun P hg => add_any hg (newO_ok 0) (by decide) 1
theorem l_dup {j : Nat} (h : TL B w0 x g a b c (HS 0 (1 + j) 0 0) w) (hj : j < 9) : Calls Try.prog 14 #[tp x, .int .i64 0] w fun e w' => (∃ p, e = .returned (.tuple #[.int .i64 p, .int .i64 0])) ∧ TL B w0 x g a b c (HS 0 (1 + (j + 1)) 0 0) w' :=
  h.call fun P hg => by
    have := dup_any hg (h_ok (q := 0) (a := 1 + j) (b := 0) (c := 0) (by omega) (by omega) (by omega) (by omega)) (by decide) 0
    obtain ⟨h1, h2⟩ := h_dup (q := 0) (a := 1 + j) (by omega) (by omega)
    rw [h1, h2] at this
    exact this.mono fun e w' ⟨he, hg'⟩ => ⟨⟨_, he⟩, hg'⟩
theorem l_pin {j n : Nat} (h : TL B w0 x g a b c (HS j (1 + n) j 0) w) (hn : n ≤ 9) (hj : j < 9) : Calls Try.prog 15 #[tp x, .string (pth j), .int .i64 0] w fun e w' => e = .returned (.int .i64 0) ∧ TL B w0 x g a b c (HS (j + 1) (1 + n) (j + 1) 0) w' :=
  h.call fun P hg => by
    have := pin_any hg (h_ok (q := j) (a := 1 + n) (b := j) (c := 0) (by omega) (by omega) (by omega) (by omega)) (by decide) (pth j) (by rw [pth_size]; decide) 0
    obtain ⟨h1, h2⟩ := h_pin (q := j) (a := 1 + n) (b := j) (by omega) (by omega) (by omega)
    rw [h1, h2] at this
    exact this
theorem l_hold {j n m : Nat} (h : TL B w0 x g a b c (HS m (1 + n) m j) w) (hn : n ≤ 9) (hm : m ≤ 9) (hj : j < 9) : Calls Try.prog 16 #[tp x, .int .i64 1] w fun e w' => e = .returned (.int .i64 0) ∧ TL B w0 x g a b c (HS m (1 + n) m (j + 1)) w' :=
  h.call fun P hg => by
    have := hold_any hg (h_ok (q := m) (a := 1 + n) (b := m) (c := j) (by omega) (by omega) (by omega) (by omega)) (by decide) 1 (by decide)
    obtain ⟨h1, h2⟩ := h_hold (q := m) (a := 1 + n) (b := m) (c := j)
    rw [h1, h2] at this
    exact this
theorem he_len {n : Nat} : ((if n = 0 then [1] else [] : List Nat)).length = if n = 0 then 1 else 0 := by split <;> rfl
theorem l_close {n1 n2 n3 : Nat} (h : TL B w0 x g a b c (HS q (n1 + 1) n2 n3) w) (h1 : n1 < 10) (h2 : n2 ≤ 9) (h3 : n3 ≤ 9) (hq : q ≤ 9) : Calls Try.prog 17 #[tp x, .int .i64 (n1 : Int)] w fun e w' => (∃ A c, e = .returned (.tuple #[.slice A (if n1 + n2 + n3 = 0 then 1 else 0) c, .int .i64 0])) ∧ TL B w0 x g a b c (HE q n1 n2 n3) w' :=
  h.call fun P hg => (close_any hg (h_ok (q := q) (a := n1 + 1) (b := n2) (c := n3) (by omega) h2 h3 hq) (by decide) (n1 : Int)).mono fun e w' ⟨A, c, he, _, hg'⟩ => by
    obtain ⟨e1, e2, e3⟩ := h_close (q := q) (a := n1) (b := n2) (c := n3) (by omega)
    rw [e2, e3, he_len] at he
    rw [e1] at hg'
    exact ⟨⟨A, c, he⟩, hg'⟩
theorem l_unpin {n1 n2 n3 : Nat} (h : TL B w0 x g a b c (HS q n1 (n2 + 1) n3) w) (h1 : n1 ≤ 10) (h2 : n2 < 9) (h3 : n3 ≤ 9) (hq : q ≤ 9) : Calls Try.prog 18 #[tp x, .string (pth n2)] w fun e w' => (∃ A c, e = .returned (.tuple #[.slice A (if n1 + n2 + n3 = 0 then 1 else 0) c, .int .i64 0])) ∧ TL B w0 x g a b c (HE q n1 n2 n3) w' :=
  h.call fun P hg => (unpin_any hg (h_ok (q := q) (a := n1) (b := n2 + 1) (c := n3) (by omega) (by omega) h3 hq) (by decide) (pth n2) (by rw [pth_size]; decide)).mono fun e w' ⟨A, c, he, _, hg'⟩ => by
    obtain ⟨e1, e2, e3⟩ := h_unpin (q := q) (a := n1) (b := n2) (c := n3) (by omega) h2
    rw [e2, e3, he_len] at he
    rw [e1] at hg'
    exact ⟨⟨A, c, he⟩, hg'⟩
theorem l_drop {n1 n2 n3 : Nat} (h : TL B w0 x g a b c (HS q n1 n2 (n3 + 1)) w) (h1 : n1 ≤ 10) (h2 : n2 ≤ 9) (h3 : n3 < 9) (hq : q ≤ 9) : Calls Try.prog 19 #[tp x, .int .i64 1] w fun e w' => (∃ A c, e = .returned (.tuple #[.slice A (if n1 + n2 + n3 = 0 then 1 else 0) c, .int .i64 0])) ∧ TL B w0 x g a b c (HE q n1 n2 n3) w' :=
  h.call fun P hg => (drop_any hg (h_ok (q := q) (a := n1) (b := n2) (c := n3 + 1) (by omega) h2 (by omega) hq) (by decide) 1 (by decide)).mono fun e w' ⟨A, c, he, _, hg'⟩ => by
    obtain ⟨e1, e2, e3⟩ := h_drop (q := q) (a := n1) (b := n2) (c := n3) (by omega)
    rw [e2, e3, he_len] at he
    rw [e1] at hg'
    exact ⟨⟨A, c, he⟩, hg'⟩
theorem l_live {n1 n2 n3 : Nat} (h : TL B w0 x g a b c (HE q n1 n2 n3) w) (h1 : n1 ≤ 10) (h2 : n2 ≤ 9) (h3 : n3 ≤ 9) (hq : q ≤ 9) : Calls Try.prog 10 #[tp x] w fun e w' => (∃ A c, e = .returned (.slice A (if n1 + n2 + n3 = 0 then 0 else 1) c)) ∧ TL B w0 x g a b c (HE q n1 n2 n3) w' := by
  obtain ⟨⟨P, p1, p2, p3, p4⟩, hb⟩ := h
  refine (live_any p1 (he_ok (q := q) (a := n1) (b := n2) (c := n3) (by omega) h2 h3 hq) (by decide)).mono ?_
  rintro e w' ⟨A, cc, rfl, _, hbel⟩
  refine ⟨⟨A, cc, ?_⟩, TL.quiet ⟨⟨P, p1, p2, p3, p4⟩, hb⟩ (keeps_below hbel)⟩
  rw [live_HE]
  split <;> rfl
end
theorem rem3 (z : Int) : (wrap64 (z.tmod 3 + 3)).tmod 3 = 0 ∨ (wrap64 (z.tmod 3 + 3)).tmod 3 = 1 ∨ (wrap64 (z.tmod 3 + 3)).tmod 3 = 2 := by
  have h1 : z.tmod 3 < 3 := Int.tmod_lt_of_pos z (by decide)
  have h2 : -3 < z.tmod 3 := Int.lt_tmod_of_pos z (by decide)
  generalize z.tmod 3 = t at *
  have e : wrap64 (t + 3) = t + 3 := by unfold wrap64; omega
  rw [e, Int.tmod_eq_emod_of_nonneg (by omega)]
  omega
theorem rem3n (n : Nat) : (wrap64 (((n : Int)).tmod 3 + 3)).tmod 3 = ((n % 3 : Nat) : Int) := by
  rw [Int.tmod_eq_emod_of_nonneg (show (0 : Int) ≤ (n : Int) by omega)]
  have e : wrap64 ((n : Int) % 3 + 3) = (n : Int) % 3 + 3 := by unfold wrap64; omega
  rw [e, Int.tmod_eq_emod_of_nonneg (by omega)]
  omega
/-- How many rounds from i on until one of what is left is taken. -/
def gap (i a b c : Nat) : Nat := if (if i % 3 = 0 then a else if i % 3 = 1 then b else c) ≠ 0 then 0 else if (if i % 3 = 0 then b else if i % 3 = 1 then c else a) ≠ 0 then 1 else 2
def mu (L i a b c : Nat) : Nat := 3 * (L - i) + 3 * (a + b + c) + if i < L then 0 else gap i a b c
theorem two_le (p r : Prop) [Decidable p] [Decidable r] : (if p then 0 else if r then 1 else 2) ≤ 2 := by
  by_cases hp : p
  · rw [if_pos hp]; omega
  · rw [if_neg hp]
    by_cases hr : r
    · rw [if_pos hr]; omega
    · rw [if_neg hr]; omega
theorem gap_le (i a b c : Nat) : gap i a b c ≤ 2 := two_le _ _
theorem gap_skip {i a b c : Nat} (h0 : (if i % 3 = 0 then a else if i % 3 = 1 then b else c) = 0) (hp : 0 < a + b + c) : gap (i + 1) a b c + 1 = gap i a b c := by
  unfold gap
  rcases (by omega : i % 3 = 0 ∨ i % 3 = 1 ∨ i % 3 = 2) with e | e | e
  · have e1 : (i + 1) % 3 = 1 := by omega
    simp [e, e1] at h0 ⊢
    subst h0
    by_cases hb : b = 0
    · have hc : c ≠ 0 := by omega
      simp [hb, hc]
    · simp [hb]
  · have e1 : (i + 1) % 3 = 2 := by omega
    simp [e, e1] at h0 ⊢
    subst h0
    by_cases hb : c = 0
    · have hc : a ≠ 0 := by omega
      simp [hb, hc]
    · simp [hb]
  · have e1 : (i + 1) % 3 = 0 := by omega
    simp [e, e1] at h0 ⊢
    subst h0
    by_cases hb : a = 0
    · have hc : b ≠ 0 := by omega
      simp [hb, hc]
    · simp [hb]
theorem mu_skip {L i a b c k : Nat} (hik : L ≤ i → k = i % 3) (h0 : (if k = 0 then a else if k = 1 then b else c) = 0) (hp : 0 < a + b + c) : i + 1 + mu L (i + 1) a b c ≤ i + mu L i a b c := by
  unfold mu
  rcases Nat.lt_or_ge i L with h | h
  · have := gap_le (i + 1) a b c
    rw [if_pos h]
    split <;> omega
  · obtain rfl := hik h
    have := gap_skip h0 hp
    rw [if_neg (by omega), if_neg (by omega)]
    omega
theorem mu_take {L i a b c a' b' c' : Nat} (h : a' + b' + c' + 1 = a + b + c) : i + 1 + mu L (i + 1) a' b' c' ≤ i + mu L i a b c := by
  have h1 := gap_le (i + 1) a' b' c'
  have h2 := gap_le i a b c
  unfold mu
  split <;> split <;> omega
theorem mu_pos {L i a b c : Nat} (h : 0 < a + b + c) : 0 < mu L i a b c := by unfold mu; omega
theorem mu_le {L a b c : Nat} (ha : a ≤ 10) (hb : b ≤ 9) (hc : c ≤ 9) : mu L 0 a b c ≤ 3 * L + 92 := by
  have := gap_le 0 a b c
  unfold mu
  split <;> omega
def letter (j : Nat) : ByteArray := ⟨#[UInt8.ofNat (97 + j)]⟩
theorem slash_letter (j : Nat) : ({ data := #[47] } : ByteArray) ++ letter j = pth j := by
  apply ByteArray.ext
  simp [letter, pth]
theorem slash_run (j : Nat) (W : World) : (Op.stringOp .add { data := #[47] } (letter j)).run Try.prog W = .ok (.string (pth j)) W := by
  have e1 : ({ data := #[47] } : ByteArray).size = 1 := rfl
  have e2 : (letter j).size = 1 := rfl
  rw [run_string_add_if, if_neg (by rw [e1, e2]; decide), slash_letter]
theorem one_conv (j : Nat) (hj : j < 10) (W : World) : (convert 46 9 (.slice (some ⟨W.heap.size, 0, none⟩) 1 1)).run Try.prog (W.alloc (.cells #[.int .u8 ((97 + (j : Int)) % 256)] 5)) = .ok (.string (letter j)) (W.alloc (.cells #[.int .u8 ((97 + (j : Int)) % 256)] 5)) := by
  have hb := Blk.new W 5 #[.int .u8 ((97 + (j : Int)) % 256)]
  exact Lib.run_convert_whole (P := Try.prog) (W.alloc (.cells #[.int .u8 ((97 + (j : Int)) % 256)] 5)) 46 5 9 Try.underlying46 Try.underlying5 Try.underlying9 W.heap.size 0 ⟨#[UInt8.ofNat (97 + j)]⟩ (fun i hi => by
    have hi' : i < 1 := hi
    obtain rfl : i = 0 := by omega
    rw [Nat.zero_add, hb.cell 0]
    have e : (⟨#[UInt8.ofNat (97 + j)]⟩ : ByteArray)[0]'hi = UInt8.ofNat (97 + j) := rfl
    rw [e, UInt8.toNat_ofNat', Nat.mod_eq_of_lt (by omega), show (97 + (j : Int)) % 256 = ((97 + j : Nat) : Int) by omega]
    rfl) 1
end Go.Proofs.Ytmohbdbofehamaa
