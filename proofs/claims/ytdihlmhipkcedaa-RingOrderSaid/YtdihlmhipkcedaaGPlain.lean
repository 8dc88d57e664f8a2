/-
  A ring's bytes, plainly: what lies behind the last one is the first one; records one behind the other; what a write leaves.
-/
import Derived.Test.YtdihlmhipkcedaaGMem
namespace Go.Proofs.Ytdihlmhipkcedaa
open Go Go.RowKit Go.Maps
set_option linter.unusedVariables false
set_option linter.unusedSimpArgs false
def at_ (bs : List UInt8) (k : Nat) : UInt8 := bs.getD (k % bs.length) 0
theorem mod_two {a i m : Nat} (hi : i < m) : (a + i) % m = if a % m + i < m then a % m + i else a % m + i - m := by
  have hm : a % m < m := Nat.mod_lt _ (by omega)
  rw [Nat.add_mod, Nat.mod_eq_of_lt hi]
  split
  · rename_i h; exact Nat.mod_eq_of_lt h
  · rename_i h
    rw [Nat.mod_eq_sub_mod (by omega), Nat.mod_eq_of_lt (by omega)]
theorem at_mod (bs : List UInt8) (k : Nat) : at_ bs (k % bs.length) = at_ bs k := by unfold at_; rw [Nat.mod_mod]
theorem at_turn (bs : List UInt8) (k : Nat) : at_ bs (k + bs.length) = at_ bs k := by unfold at_; rw [Nat.add_mod_right]
theorem at_modadd (bs : List UInt8) (k i : Nat) : at_ bs (k % bs.length + i) = at_ bs (k + i) := by unfold at_; rw [Nat.mod_add_mod]
/-- l was written from a on, and nothing else. -/
structure Wrote (bs bs' : List UInt8) (a : Nat) (l : List UInt8) : Prop where
  len : bs'.length = bs.length
  new : ∀ i, i < l.length → at_ bs' (a + i) = l.getD i 0
  old : ∀ i, l.length ≤ i → i < bs.length → at_ bs' (a + i) = at_ bs (a + i)
theorem wrote_set {bs l : List UInt8} {a : Nat} (h0 : 0 < bs.length) (h : a % bs.length + l.length ≤ bs.length) : Wrote bs (setAt bs (a % bs.length) l) a l := by
  have hl : (setAt bs (a % bs.length) l).length = bs.length := setAt_length _ _ _ h
  refine ⟨hl, fun i hi => ?_, fun i h1 h2 => ?_⟩
  · unfold at_
    rw [hl, mod_two (by omega), if_pos (by omega), List.getD_eq_getElem?_getD, setAt_get _ _ _ h, if_pos ⟨by omega, by omega⟩, List.getD_eq_getElem?_getD, Nat.add_sub_cancel_left]
  · unfold at_
    rw [hl, mod_two h2, List.getD_eq_getElem?_getD, setAt_get _ _ _ h, List.getD_eq_getElem?_getD]
    have hm : a % bs.length < bs.length := Nat.mod_lt _ h0
    by_cases hc : a % bs.length + i < bs.length
    · rw [if_pos hc, if_neg (by omega)]
    · rw [if_neg hc, if_neg (by omega)]
/-- What is put in two pieces where it lies over the end. -/
def put2 (bs : List UInt8) (p : Nat) (l : List UInt8) : List UInt8 := setAt (setAt bs p (l.take (bs.length - p))) 0 (l.drop (bs.length - p))
theorem wrote_put2 {bs l : List UInt8} {a : Nat} (h0 : 0 < bs.length) (h : l.length ≤ bs.length) : Wrote bs (put2 bs (a % bs.length) l) a l := by
  have hp : a % bs.length < bs.length := Nat.mod_lt _ h0
  have f1 : a % bs.length + (l.take (bs.length - a % bs.length)).length ≤ bs.length := by rw [List.length_take]; omega
  have h1 : (setAt bs (a % bs.length) (l.take (bs.length - a % bs.length))).length = bs.length := setAt_length _ _ _ f1
  have f2 : 0 + (l.drop (bs.length - a % bs.length)).length ≤ (setAt bs (a % bs.length) (l.take (bs.length - a % bs.length))).length := by rw [h1, List.length_drop]; omega
  have h2 : (put2 bs (a % bs.length) l).length = bs.length := (setAt_length _ _ _ f2).trans h1
  refine ⟨h2, fun i hi => ?_, fun i h3 h4 => ?_⟩
  · unfold at_
    rw [h2, mod_two (by omega)]
    unfold put2
    rw [List.getD_eq_getElem?_getD, setAt_get _ _ _ f2, setAt_get _ _ _ f1, List.getD_eq_getElem?_getD, List.length_drop, List.length_take]
    by_cases hc : a % bs.length + i < bs.length
    · rw [if_pos hc, if_neg (by omega), if_pos ⟨by omega, by omega⟩, Nat.add_sub_cancel_left, List.getElem?_take, if_pos (by omega)]
    · rw [if_neg hc, if_pos ⟨by omega, by omega⟩, List.getElem?_drop]
      congr 2; omega
  · unfold at_
    rw [h2, mod_two h4]
    unfold put2
    rw [List.getD_eq_getElem?_getD, setAt_get _ _ _ f2, setAt_get _ _ _ f1, List.getD_eq_getElem?_getD, List.length_drop, List.length_take]
    by_cases hc : a % bs.length + i < bs.length
    · rw [if_pos hc, if_neg (by omega), if_neg (by omega)]
    · rw [if_neg hc, if_neg (by omega), if_neg (by omega)]
/-- So many bytes from a on. -/
def cyc (bs : List UInt8) (a n : Nat) : List UInt8 := (List.range n).map fun i => at_ bs (a + i)
theorem cyc_pieces {bs : List UInt8} {a n : Nat} (h0 : 0 < bs.length) (h : n ≤ bs.length) : (bs.drop (a % bs.length)).take (min (a % bs.length + n) bs.length - a % bs.length) ++ bs.take (a % bs.length + n - min (a % bs.length + n) bs.length) = cyc bs a n := by
  have hp : a % bs.length < bs.length := Nat.mod_lt _ h0
  generalize hq : a % bs.length = p at *
  apply List.ext_getElem?
  intro i
  unfold cyc at_
  rw [List.getElem?_append, List.length_take, List.length_drop, List.getElem?_map]
  by_cases hi : i < n
  · have hmt := mod_two (a := a) (i := i) (m := bs.length) (by omega)
    rw [hq] at hmt
    rw [List.getElem?_range hi, Option.map_some, hmt, List.getD_eq_getElem?_getD]
    by_cases hc : p + i < bs.length
    · rw [if_pos (by omega), if_pos hc, List.getElem?_take, if_pos (by omega), List.getElem?_drop, List.getElem?_eq_getElem hc]; rfl
    · rw [if_neg (by omega), if_neg hc, List.getElem?_take, if_pos (by omega), show i - min (min (p + n) bs.length - p) (bs.length - p) = p + i - bs.length by omega, List.getElem?_eq_getElem (by omega)]; rfl
  · rw [List.getElem?_eq_none (l := List.range n) (by simp; omega), Option.map_none]
    rw [if_neg (by omega), List.getElem?_take, if_neg (by omega)]
theorem cyc_length (bs : List UInt8) (a n : Nat) : (cyc bs a n).length = n := by simp [cyc]
/-- Where nothing lies over the end. -/
theorem cyc_drop {bs : List UInt8} {a n : Nat} (h0 : 0 < bs.length) (h : a % bs.length + n ≤ bs.length) : (bs.drop (a % bs.length)).take n = cyc bs a n := by
  rw [← cyc_pieces h0 (by omega), Nat.min_eq_left h, Nat.add_sub_cancel_left, Nat.sub_self, List.take_zero, List.append_nil]
/-! ### records -/
structure Rec where
  n : Nat
  size : Nat
  state : Nat
  text : List UInt8
def uses (n : Nat) : Nat := 8 + (n + 7) / 8 * 8
theorem uses_ge (n : Nat) : 8 + n ≤ uses n := by unfold uses; omega
theorem uses_dvd (n : Nat) : uses n % 8 = 0 := by unfold uses; omega
def hb (size state : Nat) : List UInt8 := wb size 7 ++ [UInt8.ofNat state]
theorem hb_length (size state : Nat) : (hb size state).length = 8 := by simp [hb, wb_length]
structure RecAt (bs : List UInt8) (a : Nat) (r : Rec) : Prop where
  head : cyc bs a 8 = hb r.size r.state
  text : r.state = 1 → cyc bs (a + 8) r.size = r.text
def sumU : List Rec → Nat
  | [] => 0
  | r :: rs => uses r.size + sumU rs
theorem sumU_append : ∀ (a b : List Rec), sumU (a ++ b) = sumU a + sumU b
  | [], b => by simp [sumU]
  | r :: a, b => by simp only [List.cons_append, sumU, sumU_append a b]; omega
theorem sumU_dvd : ∀ l : List Rec, sumU l % 8 = 0
  | [] => rfl
  | r :: l => by have := sumU_dvd l; have := uses_dvd r.size; simp only [sumU]; omega
def Lies (bs : List UInt8) : Nat → List Rec → Prop
  | _, [] => True
  | a, r :: rs => RecAt bs a r ∧ Lies bs (a + uses r.size) rs
theorem lies_append {bs : List UInt8} : ∀ (l q : List Rec) (a : Nat), Lies bs a (l ++ q) ↔ Lies bs a l ∧ Lies bs (a + sumU l) q
  | [], q, a => by simp [Lies, sumU]
  | r :: l, q, a => by
    simp only [List.cons_append, Lies, sumU, lies_append l q (a + uses r.size), and_assoc]
    rw [show a + uses r.size + sumU l = a + (uses r.size + sumU l) by omega]
theorem cyc_mod (bs : List UInt8) (a n : Nat) : cyc bs (a % bs.length) n = cyc bs a n := by
  unfold cyc
  exact List.map_congr_left fun i _ => at_modadd bs a i
theorem cyc_modadd (bs : List UInt8) (a k n : Nat) : cyc bs (a % bs.length + k) n = cyc bs (a + k) n := by
  rw [← cyc_mod bs (a % bs.length + k), Nat.mod_add_mod, cyc_mod]
theorem recAt_mod {bs : List UInt8} {a : Nat} {r : Rec} : RecAt bs (a % bs.length) r ↔ RecAt bs a r := by
  constructor <;> rintro ⟨h1, h2⟩
  · exact ⟨by rw [← cyc_mod]; exact h1, fun h => by rw [← cyc_modadd]; exact h2 h⟩
  · exact ⟨by rw [cyc_mod]; exact h1, fun h => by rw [cyc_modadd]; exact h2 h⟩
theorem lies_same {bs : List UInt8} : ∀ (l : List Rec) (a b : Nat), a % bs.length = b % bs.length → Lies bs a l → Lies bs b l
  | [], _, _, _, _ => trivial
  | r :: l, a, b, e, h => by
    refine ⟨recAt_mod.1 (e ▸ recAt_mod.2 h.1), lies_same l _ _ ?_ h.2⟩
    rw [← Nat.mod_add_mod, e, Nat.mod_add_mod]
theorem lies_mod {bs : List UInt8} {l : List Rec} {a : Nat} (h : Lies bs a l) : Lies bs (a % bs.length) l := lies_same l a _ (Nat.mod_mod _ _).symm h
/-- A write leaves what lies ahead of it and behind it. -/
theorem cyc_frame {bs bs' l : List UInt8} {a b n : Nat} (h : Wrote bs bs' a l) (hd : (a + l.length ≤ b ∧ b + n ≤ a + bs.length) ∨ (b + n ≤ a ∧ a + l.length ≤ b + bs.length)) : cyc bs' b n = cyc bs b n := by
  unfold cyc
  refine List.map_congr_left fun i hi => ?_
  have hi' : i < n := by simpa using hi
  rcases hd with ⟨h1, h2⟩ | ⟨h1, h2⟩
  · have := h.old (b - a + i) (by omega) (by omega)
    rw [show a + (b - a + i) = b + i by omega] at this
    exact this
  · have := h.old (b + bs.length - a + i) (by omega) (by omega)
    rw [show a + (b + bs.length - a + i) = b + i + bs.length by omega, at_turn] at this
    rw [← h.len, at_turn] at this
    exact this
theorem recAt_frame {bs bs' l : List UInt8} {a b : Nat} {r : Rec} (h : Wrote bs bs' a l) (hr : RecAt bs b r) (hd : (a + l.length ≤ b ∧ b + uses r.size ≤ a + bs.length) ∨ (b + uses r.size ≤ a ∧ a + l.length ≤ b + bs.length)) : RecAt bs' b r := by
  have hu := uses_ge r.size
  refine ⟨by rw [cyc_frame h (by omega)]; exact hr.head, fun hs => by rw [cyc_frame h (by omega)]; exact hr.text hs⟩
theorem lies_frame {bs bs' l : List UInt8} {a : Nat} (h : Wrote bs bs' a l) : ∀ (rs : List Rec) (b : Nat), Lies bs b rs → (a + l.length ≤ b ∧ b + sumU rs ≤ a + bs.length) ∨ (b + sumU rs ≤ a ∧ a + l.length ≤ b + bs.length) → Lies bs' b rs
  | [], _, _, _ => trivial
  | r :: rs, b, hr, hd => by
    simp only [sumU] at hd
    exact ⟨recAt_frame h hr.1 (by omega), lies_frame h rs _ hr.2 (by omega)⟩
theorem cyc_wrote {bs bs' l : List UInt8} {a : Nat} (h : Wrote bs bs' a l) : cyc bs' a l.length = l := by
  apply List.ext_getElem?
  intro i
  unfold cyc
  rw [List.getElem?_map]
  by_cases hi : i < l.length
  · rw [List.getElem?_range hi, Option.map_some, h.new i hi, List.getD_eq_getElem?_getD, List.getElem?_eq_getElem hi]; rfl
  · rw [List.getElem?_eq_none (l := List.range l.length) (by simp; omega), List.getElem?_eq_none (by omega)]; rfl
/-! ### numbers -/
theorem le_wb (n : Nat) : ∀ k, le (wb n k) = n % 256 ^ k
  | 0 => by simp [wb, le, Nat.mod_one]
  | k + 1 => by
    rw [wb_succ, le_snoc, le_wb n k, wb_length, UInt8.toNat_ofNat', show (2 : Nat) ^ 8 = 256 from rfl, show (256 : Nat) ^ (k + 1) = 256 ^ k * 256 from Nat.pow_succ .., Nat.mod_mul (x := n) (a := 256 ^ k) (b := 256), Nat.mul_comm (256 ^ k)]
theorem hb_size (size state : Nat) (h : size < 256 ^ 7) : le ((hb size state).take 7) = size := by
  have e : (hb size state).take 7 = wb size 7 := by unfold hb; rw [List.take_append_of_le_length (by rw [wb_length]; exact Nat.le_refl _), List.take_of_length_le (by rw [wb_length]; exact Nat.le_refl _)]
  rw [e, le_wb, Nat.mod_eq_of_lt h]
theorem hb_state (size state : Nat) (h : state < 256) : (hb size state)[7]? = some (UInt8.ofNat state) := by
  unfold hb
  rw [List.getElem?_append_right (by rw [wb_length]; exact Nat.le_refl _), wb_length]
  rfl
end Go.Proofs.Ytdihlmhipkcedaa
