/-
  Package asm: Read, exact. Numbers and words, there and back: what is written as a number is read as it was; words with a blank between each two are read as they were. A line that was written is read as the slot of which it was written: registers, places, seconds; loads and stores.
-/
import Derived.Test.YtemiklbkfogjeaaGreatDoorQ19
namespace Go.Proofs.YtemiklbkfogjeaaGreatDoor
open Go Go.RowKit Go.Maps Go.Shelf
set_option linter.unusedVariables false
set_option linter.unusedSimpArgs false
attribute [local go_sem] Oper.semAt_some
/-- The slots of all lines; none: there is a line that is none of the table. -/
def readAll : List ByteArray → Option (List Slot)
 | [] => some []
 | x :: l => match lineR x with
  | none => none
  | some a => (readAll l).map (a ++ ·)
/-- The number of the first line that is none. -/
def badAt : List ByteArray → Nat
 | [] => 0
 | x :: l => if (lineR x).isSome = true then badAt l + 1 else 1
theorem readAll_snoc : ∀ {pre : List ByteArray} {x : ByteArray} {X a : List Slot}, readAll pre = some X → lineR x = some a → readAll (pre ++ [x]) = some (X ++ a)
 | [], x, X, a, h, hx => by
  cases h
  simp [readAll, hx]
 | y :: pre, x, X, a, h, hx => by
  rw [List.cons_append, readAll]
  rw [readAll] at h
  rcases hy : lineR y with _ | b
  ·rw [hy] at h; cases h
  ·rw [hy] at h
   obtain ⟨Z, hZ, rfl⟩ := Option.map_eq_some_iff.1 h
   simp only [readAll_snoc hZ hx, Option.map_some, List.append_assoc]
theorem readAll_stop : ∀ {pre : List ByteArray} {x : ByteArray} {r : List ByteArray} {X : List Slot}, readAll pre = some X → lineR x = none → readAll (pre ++ x :: r) = none ∧ badAt (pre ++ x :: r) = pre.length + 1
 | [], x, r, X, h, hx => by
  simp [readAll, badAt, hx]
 | y :: pre, x, r, X, h, hx => by
  rw [readAll] at h
  rcases hy : lineR y with _ | b
  ·rw [hy] at h; cases h
  ·rw [hy] at h
   obtain ⟨Z, hZ, rfl⟩ := Option.map_eq_some_iff.1 h
   obtain ⟨h1, h2⟩ := readAll_stop (r := r) hZ hx
   rw [List.cons_append, readAll, badAt, hy, h1, h2]
   simp
theorem slotsR_len {L : List ByteArray} {X : List Slot} (h : slotsR L = some X) : X.length ≤ 2 := by
 unfold slotsR at h
 split at h
 ·obtain ⟨p, _, rfl⟩ := Option.map_eq_some_iff.1 h; simp
 ·obtain ⟨p, _, rfl⟩ := Option.map_eq_some_iff.1 h; simp
theorem lineR_len {s : ByteArray} {X : List Slot} (h : lineR s = some X) : X.length ≤ 2 := by
 unfold lineR at h
 split at h
 ·cases h
 ·cases h; simp
 ·exact slotsR_len h
theorem readAll_len : ∀ {pre : List ByteArray} {X : List Slot}, readAll pre = some X → X.length ≤ 2 * pre.length
 | [], X, h => by cases h; simp
 | y :: pre, X, h => by
  rw [readAll] at h
  rcases hy : lineR y with _ | b
  ·rw [hy] at h; cases h
  ·rw [hy] at h
   obtain ⟨Z, hZ, rfl⟩ := Option.map_eq_some_iff.1 h
   have h1 := readAll_len hZ
   have h2 := lineR_len hy
   simp only [List.length_append, List.length_cons]
   omega
/-- A list of slots, cell by cell. -/
def rowC (X : List Slot) : List Value := cellsAll (nthS X) X.length
theorem rowC_eq (X : List Slot) : rowC X = X.flatMap Slot.cells := by
 unfold rowC cellsAll
 have e : (List.range X.length).map (nthS X) = X := by
  apply List.ext_getElem
  ·simp
  ·intro i h1 h2
   simp [nthS, List.getElem?_eq_getElem h2, List.getD]
 conv => rhs; rw [← e]
 rw [List.flatMap_map]
theorem rowC_app (X Y : List Slot) : rowC (X ++ Y) = rowC X ++ rowC Y := by rw [rowC_eq, rowC_eq, rowC_eq, List.flatMap_append]
abbrev slT : TypeId := 22
abbrev intT : TypeId := 3
abbrev errT : TypeId := 23
abbrev rowAt (W : World) (base : Nat) (v : Value) (X : List Slot) : Prop := W.ownsRow base inT 5 v X.length (rowC X)
/-- What lies in the ten blocks that Read makes for itself. -/
def RC (a0 a1 a2 v k : Value) (r : ByteArray) (L : Loop) : Nat → Obj
 | 0 => .cells #[a0] slT
 | 1 => .cells #[a1] intT
 | 2 => .cells #[a2] errT
 | 3 => .cells #[v] slT
 | 4 => .cells #[k] intT
 | 5 => .cells #[.string r] strT
 | 6 => .cells #[.string ⟨#[10]⟩] strT
 | 7 => .cells #[.int .i64 0] intT
 | 8 => .deferred (some [])
 | 9 => .loop L
 | _ => .deferred none
structure RJ (w : World) (C : Nat → Obj) (W : World) : Prop where
 below : Below w.heap.size w W
 at_ : ∀ i, i < 10 → W.heap[w.heap.size + i]? = some (C i)
def upd (C : Nat → Obj) (i : Nat) (o : Obj) : Nat → Obj := fun j => if j = i then o else C j
section
variable {w W W' : World} {C : Nat → Obj}
theorem RJ.lt (h : RJ w C W) (i : Nat) (hi : i < 10) : w.heap.size + i < W.heap.size := (Array.getElem?_eq_some_iff.1 (h.at_ i hi)).1
theorem RJ.on (h : RJ w C W) (hb : Below W.heap.size W W') : RJ w C W' :=
 ⟨h.below.on hb, fun i hi => (hb.block _ (h.lt i hi)).trans (h.at_ i hi)⟩
theorem RJ.grown (h : RJ w C W) {row : Option Nat} (hg : W.grownBy W' row) (hr : ∀ k, row = some k → w.heap.size + 10 ≤ k) : RJ w C W' :=
 ⟨h.below.grown hg h.below.size (fun k e => by have := hr k e; omega), fun i hi => (hg.block _ (h.lt i hi) (fun e => by have := hr _ e.symm; omega)).trans (h.at_ i hi)⟩
theorem RJ.puto (h : RJ w C W) (i : Nat) (hi : i < 10) (o : Obj) : RJ w (upd C i o) (W.putObj (w.heap.size + i) o) := by
 refine ⟨h.below.grown (grownBy_putObj' W (w.heap.size + i) o) h.below.size (fun k e => by cases e; omega), fun j hj => ?_⟩
 unfold upd
 by_cases e : j = i
 ·subst e
  rw [if_pos rfl]
  exact World.putObj_heap_same (h.lt j hj)
 ·rw [if_neg e]
  exact (World.putObj_heap_other (by omega)).trans (h.at_ j hj)
theorem RJ.setc (h : RJ w C W) (i : Nat) (hi : i < 10) {u : Value} {t : TypeId} (hc : C i = .cells #[u] t) (v : Value) : RJ w (upd C i (.cells #[v] t)) (W.setCell ⟨w.heap.size + i, 0, none⟩ v) := by
 refine ⟨h.below.setCell (p := ⟨w.heap.size + i, 0, none⟩) (Nat.le_add_right _ _) v, fun j hj => ?_⟩
 unfold upd
 by_cases e : j = i
 ·subst e
  rw [if_pos rfl]
  have hb : Blk W (w.heap.size + j) t #[u] := (h.at_ j hj).trans (congrArg some hc)
  have h1 := hb.set_ 0 v
  have hs : (#[u] : Array Value).setIfInBounds 0 v = #[v] := rfl
  rw [hs] at h1
  exact h1
 ·rw [if_neg e]
  exact (Below.heap_setCell W _ v _ (by show w.heap.size + j ≠ w.heap.size + i; omega)).trans (h.at_ j hj)
theorem RJ.blk (h : RJ w C W) (i : Nat) (hi : i < 10) {cs : Array Value} {t : TypeId} (hc : C i = .cells cs t) : Blk W (w.heap.size + i) t cs := (h.at_ i hi).trans (congrArg some hc)
theorem rowAt.set {base : Nat} {v u : Value} {X : List Slot} {a : Addr} (h : rowAt W base v X) (ha : a.block < base) : rowAt (W.setCell a u) base v X :=
 ownsRow_keeps h ((Keeps.refl (fun k => k = a.block) W).setCell (p := a) (.inl rfl) u) (fun b e => by subst e; exact ha)
theorem rowAt.puto {base : Nat} {v : Value} {X : List Slot} {l : Nat} {o : Obj} (h : rowAt W base v X) (hl : l < base) : rowAt (W.putObj l o) base v X := by
 refine ⟨h.1, h.2.imp id ?_⟩
 rintro ⟨g, cap, cur, rfl, h1, h2, rest⟩
 exact ⟨g, cap, cur, rfl, h1, (World.putObj_heap_other (by omega)).trans h2, rest⟩
end
section
variable (a0 a1 a2 v k : Value) (r : ByteArray) (L : Loop)
theorem upd0 (x : Value) : upd (RC a0 a1 a2 v k r L) 0 (.cells #[x] slT) = RC x a1 a2 v k r L := by
 funext j; rcases j with _ | _ | _ | _ | _ | _ | _ | _ | _ | _ | j <;> simp [upd, RC]
theorem upd1 (x : Value) : upd (RC a0 a1 a2 v k r L) 1 (.cells #[x] intT) = RC a0 x a2 v k r L := by
 funext j; rcases j with _ | _ | _ | _ | _ | _ | _ | _ | _ | _ | j <;> simp [upd, RC]
theorem upd2 (x : Value) : upd (RC a0 a1 a2 v k r L) 2 (.cells #[x] errT) = RC a0 a1 x v k r L := by
 funext j; rcases j with _ | _ | _ | _ | _ | _ | _ | _ | _ | _ | j <;> simp [upd, RC]
theorem upd3 (x : Value) : upd (RC a0 a1 a2 v k r L) 3 (.cells #[x] slT) = RC a0 a1 a2 x k r L := by
 funext j; rcases j with _ | _ | _ | _ | _ | _ | _ | _ | _ | _ | j <;> simp [upd, RC]
theorem upd4 (x : Value) : upd (RC a0 a1 a2 v k r L) 4 (.cells #[x] intT) = RC a0 a1 a2 v x r L := by
 funext j; rcases j with _ | _ | _ | _ | _ | _ | _ | _ | _ | _ | j <;> simp [upd, RC]
theorem upd5 (x : ByteArray) : upd (RC a0 a1 a2 v k r L) 5 (.cells #[.string x] strT) = RC a0 a1 a2 v k x L := by
 funext j; rcases j with _ | _ | _ | _ | _ | _ | _ | _ | _ | _ | j <;> simp [upd, RC]
theorem upd9 (x : Loop) : upd (RC a0 a1 a2 v k r L) 9 (.loop x) = RC a0 a1 a2 v k r x := by
 funext j; rcases j with _ | _ | _ | _ | _ | _ | _ | _ | _ | _ | j <;> simp [upd, RC]
end
end Go.Proofs.YtemiklbkfogjeaaGreatDoor
namespace Go.Proofs.YtemiklbkfogjeaaGreatDoor
open Go Go.RowKit Go.Maps
set_option linter.unusedVariables false
set_option linter.unusedSimpArgs false
theorem app_list (a b : ByteArray) : (a ++ b).data.toList = a.data.toList ++ b.data.toList := by rw [ByteArray.data_append, Array.toList_append]
theorem bstr_list (l : List UInt8) : (bstr l).data.toList = l := rfl
theorem ba_ext {a b : ByteArray} (h : a.data.toList = b.data.toList) : a = b := by
 obtain ⟨a⟩ := a
 obtain ⟨b⟩ := b
 exact congrArg ByteArray.mk (Array.toList_inj.1 h)
theorem begins_app (p s : ByteArray) : begins (p ++ s) p = true := by
 unfold begins beginsB
 rw [app_list]
 simp
theorem behind_app (p s : ByteArray) : behind (p ++ s) p = s := by
 unfold behind
 rw [if_pos (begins_app p s), extract_bstr]
 apply ba_ext
 rw [bstr_list, app_list, List.take_of_length_le (by rw [← app_list, ← Lib.size_eq]; exact Nat.le_refl _)]
 have : p.size = p.data.toList.length := Lib.size_eq p
 rw [this, List.drop_left]
theorem begins_one (s : ByteArray) (c : UInt8) : begins s ⟨#[c]⟩ = decide (s.data.toList.head? = some c) := by
 unfold begins beginsB
 rcases h : s.data.toList with _ | ⟨x, r⟩
 ·simp
 ·simp
theorem begins_head {s : ByteArray} {c x : UInt8} {r : List UInt8} (h : s.data.toList = x :: r) : begins s ⟨#[c]⟩ = decide (x = c) := by
 rw [begins_one, h]
 simp
theorem behind_no {s p : ByteArray} (h : begins s p = false) : behind s p = s := by
 unfold behind
 rw [if_neg (by rw [h]; decide)]
/-! ### Digits -/
theorem digL_snoc (most : Nat) (b : UInt8) : ∀ (l : List UInt8) (n : Nat) (first : Bool), l ≠ [] → digL most n first (l ++ [b]) = (digL most n first l).bind fun m => digL most m false [b]
 | [], n, first, h => absurd rfl h
 | [c], n, first, _ => by
  show digL most n first (c :: [b]) = _
  by_cases h : c.toNat < 48 ∨ 57 < c.toNat ∨ (first = false ∧ n = 0) ∨ (most - (c.toNat - 48)) / 10 < n
  ·rw [digL_no h, digL_no h]
   rfl
  ·rw [digL_yes h, digL_yes h]
   rfl
 | c :: d :: l, n, first, _ => by
  rw [List.cons_append]
  by_cases h : c.toNat < 48 ∨ 57 < c.toNat ∨ (first = false ∧ n = 0) ∨ (most - (c.toNat - 48)) / 10 < n
  ·rw [digL_no h, digL_no h]
   rfl
  ·rw [digL_yes h, digL_yes h]
   exact digL_snoc most b (d :: l) _ false (by simp)
theorem decDigits_ne (k : Nat) : Lib.decDigits k ≠ [] := by
 rw [Lib.decDigits]
 split <;> simp
theorem digit_nat {k : Nat} (h : k < 10) : (UInt8.ofNat (48 + k)).toNat = 48 + k := by
 rw [UInt8.toNat_ofNat']
 omega
theorem dig_dec (most : Nat) : ∀ k : Nat, k ≤ most → digL most 0 true (Lib.decDigits k) = some k := by
 intro k
 induction k using Nat.strongRecOn with
 | _ k ih =>
  intro hk
  rw [Lib.decDigits]
  by_cases h : k < 10
  ·rw [dif_pos h]
   have e := digit_nat h
   rw [digL_yes (by rw [e]; simp; omega)]
   rw [e, digL]
   simp
  ·rw [dif_neg h, digL_snoc most _ _ 0 true (decDigits_ne _), ih (k / 10) (by omega) (by omega), Option.bind_some]
   have e := digit_nat (k := k % 10) (by omega)
   rw [digL_yes (by rw [e]; simp; omega), e, digL]
   congr 1
   omega
theorem decDigits_digit : ∀ k : Nat, ∀ b ∈ Lib.decDigits k, 48 ≤ b.toNat ∧ b.toNat ≤ 57 := by
 intro k
 induction k using Nat.strongRecOn with
 | _ k ih =>
  intro b hb
  rw [Lib.decDigits] at hb
  by_cases h : k < 10
  ·rw [dif_pos h] at hb
   rw [List.mem_singleton] at hb
   subst hb
   rw [digit_nat h]
   omega
  ·rw [dif_neg h] at hb
   rcases List.mem_append.1 hb with hb | hb
   ·exact ih _ (by omega) b hb
   ·rw [List.mem_singleton] at hb
    subst hb
    rw [digit_nat (by omega)]
    omega
theorem dec_nat (k : Nat) : dec (k : Int) = bstr (Lib.decDigits k) := by
 unfold dec Lib.itoa
 rw [if_neg (by omega)]
 rfl
theorem dec_neg (k : Nat) (h : 0 < k) : dec (-(k : Int)) = ⟨#[45]⟩ ++ bstr (Lib.decDigits k) := by
 unfold dec Lib.itoa
 rw [if_pos (by omega)]
 have e : (-(k : Int)).natAbs = k := by omega
 rw [e]
 apply ba_ext
 rw [app_list]
 rfl
theorem digN_dec (most k : Nat) (h : k ≤ most) : digN most (bstr (Lib.decDigits k)) = some k := by
 unfold digN
 rw [if_neg]
 ·unfold digS
  rw [bstr_list]
  exact dig_dec most k h
 ·rw [bstr_size]
  intro e
  exact decDigits_ne k (List.length_eq_zero_iff.1 e)
theorem head_dec (k : Nat) : ∃ (c : UInt8) (r : List UInt8), Lib.decDigits k = c :: r ∧ 48 ≤ c.toNat ∧ c.toNat ≤ 57 := by
 rcases h : Lib.decDigits k with _ | ⟨c, r⟩
 ·exact absurd h (decDigits_ne k)
 ·exact ⟨c, r, rfl, decDigits_digit k c (by rw [h]; simp)⟩
theorem regS_regT (p : ByteArray) (d : Int) (h0 : 0 ≤ d) (h1 : d ≤ 10) : regS (regT p d) p = some d.toNat := by
 obtain ⟨k, rfl⟩ := Int.eq_ofNat_of_zero_le h0
 unfold regS regT
 rw [dec_nat, if_pos (begins_app _ _), behind_app, digN_dec 10 k (by omega)]
 rfl
theorem signS_pos (k bits : Nat) (h : k ≤ 2 ^ (bits - 1) - 1) : signS false (bstr (Lib.decDigits k)) bits = some (k : Int) := by
 unfold signS mostOf
 simp only [Bool.false_eq_true, if_false, false_and]
 rw [digN_dec _ k h]
 rfl
theorem signS_neg (k bits : Nat) (h0 : 0 < k) (h : k ≤ 2 ^ (bits - 1)) : signS true (bstr (Lib.decDigits k)) bits = some (-(k : Int)) := by
 unfold signS mostOf
 simp only [if_true, true_and]
 rw [digN_dec _ k h, Option.bind_some, if_neg (by omega)]
theorem dec_begins (k : Nat) (c : UInt8) (hc : ¬ (48 ≤ c.toNat ∧ c.toNat ≤ 57)) : begins (bstr (Lib.decDigits k)) ⟨#[c]⟩ = false := by
 obtain ⟨x, r, h, h1, h2⟩ := head_dec k
 rw [begins_head (x := x) (r := r) (by rw [bstr_list]; exact h)]
 exact decide_eq_false (fun e => hc (e ▸ ⟨h1, h2⟩))
theorem immS_dec (m : Int) (h0 : -2147483648 ≤ m) (h1 : m ≤ 2147483647) : immS (dec m) = some m := by
 unfold immS
 rcases Int.lt_or_le m 0 with h | h
 ·obtain ⟨k, hk, hk0⟩ : ∃ k : Nat, m = -(k : Int) ∧ 0 < k := ⟨m.natAbs, by omega, by omega⟩
  subst hk
  rw [dec_neg k hk0, begins_app, behind_app]
  exact signS_neg k 32 hk0 (by omega)
 ·obtain ⟨k, rfl⟩ := Int.eq_ofNat_of_zero_le h
  rw [dec_nat, dec_begins k 45 (by decide), behind_no (dec_begins k 45 (by decide))]
  exact signS_pos k 32 (by omega)
theorem partsT_neg (k : Nat) (h : 0 < k) : partsT (-(k : Int)) = (⟨#[45]⟩, bstr (Lib.decDigits k)) := by
 unfold partsT
 rw [if_pos (by omega), show -(-(k : Int)) = (k : Int) by omega, dec_nat]
theorem partsT_pos (k : Nat) : partsT (k : Int) = (⟨#[43]⟩, bstr (Lib.decDigits k)) := by
 unfold partsT
 rw [if_neg (by omega), dec_nat]
theorem int_ways (f : Int) : (∃ k : Nat, f = -(k : Int) ∧ 0 < k) ∨ ∃ k : Nat, f = (k : Int) := by
 rcases Int.lt_or_le f 0 with h | h
 ·exact .inl ⟨f.natAbs, by omega, by omega⟩
 ·exact .inr ⟨f.toNat, by omega⟩
theorem furtherS_far (f : Int) (h0 : -32768 ≤ f) (h1 : f ≤ 32767) : furtherS (farT f) = some f := by
 unfold furtherS farT
 rcases int_ways f with ⟨k, rfl, hk0⟩ | ⟨k, rfl⟩
 ·rw [partsT_neg k hk0]
  simp only
  rw [if_pos (begins_app _ _), behind_app]
  exact signS_neg k 16 hk0 (by omega)
 ·rw [partsT_pos]
  simp only
  have hb : begins ((⟨#[43]⟩ : ByteArray) ++ bstr (Lib.decDigits k)) minusT = false := by
   rw [begins_head (x := 43) (r := Lib.decDigits k) (by rw [app_list]; rfl)]
   decide
  rw [hb, if_neg (by decide), if_pos (begins_app _ _), behind_app]
  exact signS_pos k 16 (by omega)
theorem same43 : sameT ⟨#[43]⟩ minusW = false ∧ sameT ⟨#[43]⟩ plusW = true ∧ sameT ⟨#[45]⟩ minusW = true ∧ sameT ⟨#[45]⟩ plusW = false := by decide
theorem parts_back (f : Int) (h0 : -32768 ≤ f) (h1 : f ≤ 32767) : signS (sameT (partsT f).1 minusW) (partsT f).2 16 = some f ∧ (sameT (partsT f).1 plusW || sameT (partsT f).1 minusW) = true := by
 rcases int_ways f with ⟨k, rfl, hk0⟩ | ⟨k, rfl⟩
 ·rw [partsT_neg k hk0]
  simp only [same43, Bool.or_true, and_true]
  exact signS_neg k 16 hk0 (by omega)
 ·rw [partsT_pos]
  simp only [same43, Bool.true_or, and_true]
  exact signS_pos k 16 (by omega)
/-! ### Words -/
/-- A word: not empty, without a blank and without a line's end. -/
def isW (w : ByteArray) : Prop := w.size ≠ 0 ∧ ∀ b ∈ w.data.toList, b.toNat ≠ 32 ∧ b.toNat ≠ 10
instance (w : ByteArray) : Decidable (isW w) := by unfold isW; infer_instance
theorem isW_app {a b : ByteArray} (ha : isW a) (hb : ∀ x ∈ b.data.toList, x.toNat ≠ 32 ∧ x.toNat ≠ 10) : isW (a ++ b) :=
 ⟨by rw [ByteArray.size_append]; have := ha.1; omega, fun x hx => by
  rw [app_list] at hx
  exact (List.mem_append.1 hx).elim (ha.2 x) (hb x)⟩
theorem isW_digits (k : Nat) : isW (bstr (Lib.decDigits k)) :=
 ⟨by rw [bstr_size]; exact fun e => decDigits_ne k (List.length_eq_zero_iff.1 e), fun b hb => by have := decDigits_digit k b hb; omega⟩
theorem isW_dec (m : Int) : isW (dec m) := by
 rcases Int.lt_or_le m 0 with h | h
 ·obtain ⟨k, hk, hk0⟩ : ∃ k : Nat, m = -(k : Int) ∧ 0 < k := ⟨m.natAbs, by omega, by omega⟩
  subst hk
  rw [dec_neg k hk0]
  exact isW_app (by decide) (isW_digits k).2
 ·obtain ⟨k, rfl⟩ := Int.eq_ofNat_of_zero_le h
  rw [dec_nat]
  exact isW_digits k
theorem isW_reg {p : ByteArray} (hp : isW p) (d : Int) : isW (regT p d) := isW_app hp (isW_dec d).2
theorem isW_letter (q : Int) : isW (letterS q) := by
 unfold letterS
 split <;> decide
theorem isW_parts (f : Int) : isW (partsT f).1 ∧ isW (partsT f).2 := by
 unfold partsT
 split
 ·exact ⟨(by decide : isW ⟨#[45]⟩), isW_dec _⟩
 ·exact ⟨(by decide : isW ⟨#[43]⟩), isW_dec _⟩
theorem isW_far (f : Int) : isW (farT f) := isW_app (isW_parts f).1 (isW_parts f).2.2
def joinT (ws : List ByteArray) : ByteArray := bstr (Lib.join (ws.map (·.data.toList)) [32])
theorem join_two (a : List UInt8) (b : List UInt8) (r : List (List UInt8)) : Lib.join (a :: b :: r) [32] = a ++ 32 :: Lib.join (b :: r) [32] := by
 rw [Lib.join_cons, Lib.join_cons, Lib.joinTail, Lib.joinTail]
 simp
theorem wordsL_in (s : ByteArray) (A : List ByteArray) (f gap : Nat) (r : List UInt8) : ∀ (u : List UInt8) (at' : Nat), (∀ b ∈ u, b.toNat ≠ 32) → wordsL s (u ++ r) at' A (some f) gap = wordsL s r (at' + u.length) A (some f) gap
 | [], at', _ => rfl
 | b :: u, at', h => by
  rw [List.cons_append, wordsL, if_neg (h b (by simp)), wordsL_in s A f gap r u (at' + 1) (fun c hc => h c (by simp [hc])), List.length_cons]
  congr 1
  omega
theorem wordsL_join (s : ByteArray) : ∀ (ws : List ByteArray) (at' : Nat) (A : List ByteArray) (gap : Nat), ws ≠ [] → (∀ w ∈ ws, isW w) → A.length + ws.length ≤ 8 → gap ≤ 1 →
  s.data.toList.drop at' = Lib.join (ws.map (·.data.toList)) [32] → wordsL s (Lib.join (ws.map (·.data.toList)) [32]) at' A none gap = some (A ++ ws)
 | [], at', A, gap, h, _, _, _, _ => absurd rfl h
 | [w], at', A, gap, _, hw, hl, hg, hd => by
  have hW := hw w (by simp)
  rw [List.map_cons, List.map_nil, Lib.join_one] at hd ⊢
  rcases hu : w.data.toList with _ | ⟨c, u⟩
  ·exact absurd (by rw [Lib.size_eq, hu]; rfl) hW.1
  ·have hc : ∀ b ∈ c :: u, b.toNat ≠ 32 := fun b hb => (hW.2 b (by rw [hu]; exact hb)).1
   rw [wordsL, if_neg (hc c (by simp)), if_neg (by simp at hl; omega)]
   have h1 := wordsL_in s A at' gap [] u (at' + 1) (fun b hb => hc b (by simp [hb]))
   rw [List.append_nil] at h1
   rw [h1, wordsL, extract_bstr, List.take_of_length_le (by rw [← Lib.size_eq]; exact Nat.le_refl _), hd, bstr_data]
 | w :: w2 :: ws, at', A, gap, _, hw, hl, hg, hd => by
  have hW := hw w (by simp)
  rw [List.map_cons, List.map_cons, join_two] at hd ⊢
  rcases hu : w.data.toList with _ | ⟨c, u⟩
  ·exact absurd (by rw [Lib.size_eq, hu]; rfl) hW.1
  ·have hc : ∀ b ∈ c :: u, b.toNat ≠ 32 := fun b hb => (hW.2 b (by rw [hu]; exact hb)).1
   rw [hu] at hd
   rw [List.cons_append, wordsL, if_neg (hc c (by simp)), if_neg (by simp at hl; omega), wordsL_in s A at' gap _ u (at' + 1) (fun b hb => hc b (by simp [hb])), wordsL, if_pos (by decide)]
   have hx : s.extract at' (at' + 1 + u.length) = w := by
    rw [extract_bstr, List.drop_take, hd]
    apply ba_ext
    rw [bstr_list, hu, show at' + 1 + u.length - at' = (c :: u).length by simp; omega, List.take_left]
   rw [hx, ← List.map_cons (f := fun x : ByteArray => x.data.toList)]
   have h2 := wordsL_join s (w2 :: ws) (at' + 1 + u.length + 1) (A ++ [w]) 1 (by simp) (fun x hx => hw x (List.mem_cons_of_mem _ hx)) (by simp at hl ⊢; omega) (Nat.le_refl _) (by
    rw [show at' + 1 + u.length + 1 = at' + ((c :: u).length + 1) by simp; omega, ← List.drop_drop, hd, List.map_cons]
    simp)
   rw [h2]
   simp
theorem words_back (ws : List ByteArray) (h : ws ≠ []) (hw : ∀ w ∈ ws, isW w) (hl : ws.length ≤ 8) : wordsS (joinT ws) = some ws := by
 unfold wordsS wordsAt
 rw [List.drop_zero]
 exact wordsL_join (joinT ws) ws 0 [] 0 h hw (by simpa using hl) (by decide) (by rw [List.drop_zero]; rfl)
theorem join_ten : ∀ (ws : List ByteArray), (∀ w ∈ ws, isW w) → ∀ b ∈ Lib.join (ws.map (·.data.toList)) [32], b ≠ 10
 | [], _, b, hb => by simp [Lib.join_nil] at hb
 | [w], hw, b, hb => by
  rw [List.map_cons, List.map_nil, Lib.join_one] at hb
  intro e
  exact ((hw w (by simp)).2 b hb).2 (by rw [e]; rfl)
 | w :: w2 :: ws, hw, b, hb => by
  rw [List.map_cons, List.map_cons, join_two] at hb
  intro e
  rcases List.mem_append.1 hb with hb | hb
  ·exact ((hw w (by simp)).2 b hb).2 (by rw [e]; rfl)
  ·rcases List.mem_cons.1 hb with hb | hb
   ·rw [hb] at e; cases e
   ·exact join_ten (w2 :: ws) (fun x hx => hw x (List.mem_cons_of_mem _ hx)) b (by rw [List.map_cons]; exact hb) e
theorem saidT_join {ws : List ByteArray} (h : ∀ w ∈ ws, isW w) : saidT ws = joinT ws := by
 unfold saidT
 rw [if_neg]
 ·rfl
 ·unfold lacks
  intro e
  obtain ⟨x, hx, he⟩ := List.any_eq_true.1 e
  exact (h x hx).1 (of_decide_eq_true he)
end Go.Proofs.YtemiklbkfogjeaaGreatDoor
namespace Go.Proofs.YtemiklbkfogjeaaGreatDoor
open Go Go.RowKit Go.Maps
set_option linter.unusedVariables false
set_option linter.unusedSimpArgs false
set_option maxRecDepth 100000
def hdW (w : ByteArray) : Option UInt8 := w.data.toList.head?
theorem same_hd {w t : ByteArray} (h : hdW w ≠ hdW t) : sameT w t = false := by
 unfold sameT
 exact decide_eq_false (fun e => h (by unfold hdW; rw [e]))
theorem sameT_refl (w : ByteArray) : sameT w w = true := decide_eq_true rfl
theorem hd_app {a b : ByteArray} {c : UInt8} (h : hdW a = some c) : hdW (a ++ b) = some c := by
 unfold hdW at *
 rw [app_list]
 rcases ha : a.data.toList with _ | ⟨x, r⟩
 ·rw [ha] at h; cases h
 ·rw [ha] at h; exact h
theorem hd_reg (c : UInt8) (d : Int) : hdW (regT ⟨#[c]⟩ d) = some c := hd_app rfl
theorem hd_dig (k : Nat) : ∃ c : UInt8, hdW (bstr (Lib.decDigits k)) = some c ∧ 48 ≤ c.toNat ∧ c.toNat ≤ 57 := by
 obtain ⟨c, r, h, h1⟩ := head_dec k
 exact ⟨c, by unfold hdW; rw [bstr_list, h]; rfl, h1⟩
theorem hd_dec (m : Int) : ∃ c : UInt8, hdW (dec m) = some c ∧ (c = 45 ∨ (48 ≤ c.toNat ∧ c.toNat ≤ 57)) := by
 rcases int_ways m with ⟨k, rfl, hk⟩ | ⟨k, rfl⟩
 ·exact ⟨45, by rw [dec_neg k hk]; exact hd_app rfl, .inl rfl⟩
 ·obtain ⟨c, h, h1⟩ := hd_dig k
  exact ⟨c, by rw [dec_nat]; exact h, .inr h1⟩
theorem hd_far (f : Int) : hdW (farT f) = some 45 ∨ hdW (farT f) = some 43 := by
 unfold farT
 rcases int_ways f with ⟨k, rfl, hk⟩ | ⟨k, rfl⟩
 ·rw [partsT_neg k hk]; exact .inl (hd_app rfl)
 ·rw [partsT_pos]; exact .inr (hd_app rfl)
theorem letter_ways (q : Int) : (letterS q = ⟨#[119]⟩ ∧ (q = 4 ∨ q = 6)) ∨ (letterS q = ⟨#[114]⟩ ∧ ¬ (q = 4 ∨ q = 6)) := by
 unfold letterS
 by_cases h : q = 4 ∨ q = 6
 ·exact .inl ⟨if_pos h, h⟩
 ·exact .inr ⟨if_neg h, h⟩
theorem hd_letter (q d : Int) : hdW (regT (letterS q) d) = some 119 ∨ hdW (regT (letterS q) d) = some 114 := by
 rcases letter_ways q with ⟨h, _⟩ | ⟨h, _⟩
 ·rw [h]; exact .inl (hd_reg _ _)
 ·rw [h]; exact .inr (hd_reg _ _)
/-- The second of the two has a head that no other word there has. -/
theorem hd_sec (s m : Int) (src : Bool) (q : Int) (hne : (secT s m src (letterS q)).size ≠ 0) : ∃ c : UInt8, hdW (secT s m src (letterS q)) = some c ∧ c ≠ 40 ∧ c ≠ 108 ∧ (src = false → m ≤ 2147483647 → True) := by
 unfold secT at *
 cases src
 ·by_cases h : s = 0
  ·rw [if_neg (by decide), if_pos h] at *
   obtain ⟨c, h1, h2⟩ := hd_dec m
   refine ⟨c, h1, ?_, ?_, fun _ _ => trivial⟩ <;> (rintro rfl; revert h2; decide)
  ·rw [if_neg (by decide), if_neg h] at hne
   exact absurd rfl hne
 ·by_cases h : m = 0
  ·rw [if_pos rfl, if_pos h] at *
   rcases hd_letter q s with h1 | h1
   ·exact ⟨119, h1, by decide, by decide, fun _ _ => trivial⟩
   ·exact ⟨114, h1, by decide, by decide, fun _ _ => trivial⟩
  ·rw [if_pos rfl, if_neg h] at hne
   exact absurd rfl hne
theorem isW_sec {s m : Int} {src : Bool} {q : Int} (hne : (secT s m src (letterS q)).size ≠ 0) : isW (secT s m src (letterS q)) := by
 unfold secT at *
 cases src
 ·by_cases h : s = 0
  ·rw [if_neg (by decide), if_pos h]; exact isW_dec m
  ·rw [if_neg (by decide), if_neg h] at hne; exact absurd rfl hne
 ·by_cases h : m = 0
  ·rw [if_pos rfl, if_pos h]; exact isW_reg (isW_letter q) s
  ·rw [if_pos rfl, if_neg h] at hne; exact absurd rfl hne
/-- What was written of the second is read so. -/
theorem sec_back {s m : Int} {src : Bool} {q : Int} (hs : 0 ≤ s ∧ s ≤ 10) (hm : -2147483648 ≤ m ∧ m ≤ 2147483647) (hne : (secT s m src (letterS q)).size ≠ 0) :
  secS (secT s m src (letterS q)) (letterS q) 0 0 = ⟨src, s, m, true⟩ := by
 unfold secT at *
 cases src
 ·by_cases h : s = 0
  ·rw [if_neg (by decide), if_pos h]
   have hb : begins (dec m) (letterS q) = false := by
    obtain ⟨c, h1, h2⟩ := hd_dec m
    unfold hdW at h1
    rcases letter_ways q with ⟨e, _⟩ | ⟨e, _⟩
    ·rw [e, begins_one, h1]
     refine decide_eq_false (fun e => ?_)
     cases e
     revert h2; decide
    ·rw [e, begins_one, h1]
     refine decide_eq_false (fun e => ?_)
     cases e
     revert h2; decide
   unfold secS
   rw [if_neg (by rw [hb]; decide), immS_dec m hm.1 hm.2, h]
   rfl
  ·rw [if_neg (by decide), if_neg h] at hne; exact absurd rfl hne
 ·by_cases h : m = 0
  ·rw [if_pos rfl, if_pos h]
   have hb : begins (regT (letterS q) s) (letterS q) = true := begins_app _ _
   have hr := regS_regT (letterS q) s hs.1 hs.2
   unfold secS
   rw [if_pos hb, hr, regS_val hr, h]
   simp only [Option.isSome_some, Sec.mk.injEq, true_and, and_true]
   omega
  ·rw [if_pos rfl, if_neg h] at hne; exact absurd rfl hne
/-! ### Places -/
theorem ends_app (a p : ByteArray) : ends (a ++ p) p = true := by
 unfold ends
 have hz : (a ++ p).size = a.size + p.size := ByteArray.size_append
 have e : (a ++ p).extract ((a ++ p).size - p.size) (a ++ p).size = p := by
  rw [extract_bstr, List.take_of_length_le (by rw [← Lib.size_eq]; exact Nat.le_refl _), hz, Nat.add_sub_cancel]
  apply ba_ext
  rw [bstr_list, app_list, show a.size = a.data.toList.length from Lib.size_eq a, List.drop_left]
 rw [e, sameT_refl, hz, decide_eq_true (by omega)]
 rfl
theorem ahead_app (a p : ByteArray) : ahead (a ++ p) p = a := by
 unfold ahead
 have hz : (a ++ p).size = a.size + p.size := ByteArray.size_append
 rw [if_pos (ends_app a p), extract_bstr, hz, Nat.add_sub_cancel, List.drop_zero]
 apply ba_ext
 rw [bstr_list, app_list, show a.size = a.data.toList.length from Lib.size_eq a, List.take_left]
def plcW (nm : ByteArray) (f b : Int) : List ByteArray := [⟨#[42, 40]⟩ ++ nm, ⟨#[42, 41, 40]⟩ ++ regT ⟨#[114]⟩ b, (partsT f).1, (partsT f).2 ++ ⟨#[41]⟩]
theorem move_ok : ∀ x ∈ moveL, isW x.1 ∧ moveR (starT ++ x.1) moveL = some (x.2.1, x.2.2) := by
 intro x hx
 simp only [moveL, List.mem_cons, List.not_mem_nil, or_false] at hx
 rcases hx with rfl | rfl | rfl | rfl | rfl | rfl | rfl <;> exact ⟨by decide, by kernel_rfl⟩
theorem moveOf_mem {md sz : Int} {nm : ByteArray} (h : moveOf moveL md sz = some nm) : (nm, md, sz) ∈ moveL := by
 unfold moveOf at h
 obtain ⟨x, hx, rfl⟩ := Option.map_eq_some_iff.1 h
 have h1 := List.mem_of_find?_eq_some hx
 have h2 : x.2.1 = md ∧ x.2.2 = sz := by simpa using List.find?_some hx
 obtain ⟨a, b, c⟩ := x
 obtain ⟨rfl, rfl⟩ := h2
 exact h1
theorem plcW_words {nm : ByteArray} {md sz : Int} (h : (nm, md, sz) ∈ moveL) (f b : Int) : ∀ w ∈ plcW nm f b, isW w := by
 intro w hw
 simp only [plcW, List.mem_cons, List.not_mem_nil, or_false] at hw
 rcases hw with rfl | rfl | rfl | rfl
 ·exact isW_app (by decide) (move_ok _ h).1.2
 ·exact isW_app (by decide) (isW_reg (by decide) b).2
 ·exact (isW_parts f).1
 ·exact isW_app (isW_parts f).2 (by decide)
theorem place_back {nm : ByteArray} {md sz : Int} (h : (nm, md, sz) ∈ moveL) (f b : Int) (hb : 0 ≤ b ∧ b ≤ 10) (hf : -32768 ≤ f ∧ f ≤ 32767) :
  placeR (⟨#[42, 40]⟩ ++ nm) (⟨#[42, 41, 40]⟩ ++ regT ⟨#[114]⟩ b) (partsT f).1 ((partsT f).2 ++ ⟨#[41]⟩) = some ⟨md, sz, b, f⟩ := by
 obtain ⟨h1, h2⟩ := parts_back f hf.1 hf.2
 have hm : moveR (⟨#[42, 40]⟩ ++ nm) moveL = some (md, sz) := (move_ok _ h).2
 have ho : okR (⟨#[42, 41, 40]⟩ ++ regT ⟨#[114]⟩ b) (partsT f).1 ((partsT f).2 ++ ⟨#[41]⟩) = true := by
  unfold okR
  have e1 : begins (⟨#[42, 41, 40]⟩ ++ regT ⟨#[114]⟩ b) openT = true := begins_app _ _
  have e2 : ends ((partsT f).2 ++ ⟨#[41]⟩) closeT = true := ends_app _ _
  rw [e1, e2, h2]
  rfl
 have e3 : behind (⟨#[42, 41, 40]⟩ ++ regT ⟨#[114]⟩ b) openT = regT ⟨#[114]⟩ b := behind_app _ _
 have e4 : ahead ((partsT f).2 ++ ⟨#[41]⟩) closeT = (partsT f).2 := ahead_app _ _
 have e5 : regS (regT ⟨#[114]⟩ b) wholeT = some b.toNat := regS_regT ⟨#[114]⟩ b hb.1 hb.2
 unfold placeR
 rw [if_pos ho, e3, e4, e5, h1, hm]
 show some _ = some _
 congr 1
 simp only [Plc.mk.injEq, true_and, and_true]
 omega
/-! ### Words, one behind the other -/
theorem join_both : ∀ (a b : List (List UInt8)), a ≠ [] → b ≠ [] → Lib.join (a ++ b) [32] = Lib.join a [32] ++ 32 :: Lib.join b [32]
 | [], b, h, _ => absurd rfl h
 | [x], [], _, h => absurd rfl h
 | [x], y :: b, _, _ => by rw [List.singleton_append, join_two, Lib.join_one]
 | x :: y :: a, b, _, hb => by
  rw [List.cons_append, List.cons_append, join_two, join_two, ← List.cons_append, join_both (y :: a) b (by simp) hb, List.append_assoc, List.cons_append]
theorem joinT_list (ws : List ByteArray) : (joinT ws).data.toList = Lib.join (ws.map (·.data.toList)) [32] := rfl
theorem joinT_app (a b : List ByteArray) (ha : a ≠ []) (hb : b ≠ []) : joinT (a ++ [joinT b]) = joinT (a ++ b) := by
 apply ba_ext
 rw [joinT_list, joinT_list, List.map_append, List.map_append, join_both _ _ (by simpa using ha) (by simp), join_both _ _ (by simpa using ha) (by simpa using hb), List.map_cons, List.map_nil, Lib.join_one, joinT_list]
theorem joinT_mid (x : ByteArray) (a b : List ByteArray) (ha : a ≠ []) (hb : b ≠ []) : joinT [x, joinT a, joinT b] = joinT (x :: a ++ b) := by
 apply ba_ext
 rw [joinT_list, joinT_list]
 simp only [List.map_cons, List.map_nil, List.map_append, List.cons_append]
 rw [join_two, join_two, Lib.join_one, joinT_list, joinT_list]
 have h1 := join_both (x.data.toList :: a.map (·.data.toList)) (b.map (·.data.toList)) (by simp) (by simpa using hb)
 rw [List.cons_append] at h1
 rw [h1]
 rcases a with _ | ⟨y, a⟩
 ·exact absurd rfl ha
 ·rw [List.map_cons, join_two, List.append_assoc, List.cons_append]
theorem joinT_two (a : List ByteArray) (x y : ByteArray) (ha : a ≠ []) : joinT [joinT a, x, y] = joinT (a ++ [x, y]) := by
 apply ba_ext
 rw [joinT_list, joinT_list]
 simp only [List.map_cons, List.map_nil, List.map_append]
 rw [join_two, join_both (a.map (·.data.toList)) [x.data.toList, y.data.toList] (by simpa using ha) (by simp), joinT_list]
theorem joinT_size {ws : List ByteArray} (h : ws ≠ []) (hw : ∀ w ∈ ws, isW w) : (joinT ws).size ≠ 0 := by
 rcases ws with _ | ⟨w, ws⟩
 ·exact absurd rfl h
 ·rw [Lib.size_eq, joinT_list]
  have hW := (hw w (by simp)).1
  rw [Lib.size_eq] at hW
  rcases ws with _ | ⟨w2, ws⟩
  ·rw [List.map_cons, List.map_nil, Lib.join_one]; exact hW
  ·rw [List.map_cons, List.map_cons, join_two, List.length_append]; omega
theorem saidT_sizes {ws : List ByteArray} (h : (saidT ws).size ≠ 0) : (∀ w ∈ ws, w.size ≠ 0) ∧ saidT ws = joinT ws := by
 unfold saidT at *
 by_cases hl : lacks ws = true
 ·rw [if_pos hl] at h
  exact absurd rfl h
 ·refine ⟨fun w hw e => hl ?_, if_neg hl⟩
  exact List.any_eq_true.2 ⟨w, hw, decide_eq_true e⟩
/-- What a line that was written says: its words, and the slots of which it was written. -/
def Says (t : ByteArray) (X : List Slot) : Prop := ∃ ws, t = joinT ws ∧ ws ≠ [] ∧ ws.length ≤ 8 ∧ (∀ w ∈ ws, isW w) ∧ slotsR ws = some X
theorem Says.line {t : ByteArray} {X : List Slot} (h : Says t X) : lineR t = some X ∧ ∀ b ∈ t.data.toList, b ≠ 10 := by
 obtain ⟨ws, rfl, h1, h2, h3, h4⟩ := h
 refine ⟨?_, fun b hb => join_ten ws h3 b hb⟩
 unfold lineR
 rw [words_back ws h1 h3 h2]
 rcases ws with _ | ⟨w, ws⟩
 ·exact absurd rfl h1
 ·exact h4
theorem slots_one {ws : List ByteArray} {x : Slot} {w : ByteArray} (hl : ws.getLast? = some w) (hw : hdW w ≠ some 108) (h : oneR ws = some x) : slotsR ws = some [x] := by
 unfold slotsR lastLl
 rw [hl]
 simp only
 rw [if_neg (by rw [same_hd (by intro e; exact hw e)]; decide), h]
 rfl
theorem op_load : ∀ o : Nat, o < 256 → o % 8 = 1 → bits .or .i64 (bits .or .i64 (bits .and .i64 (o : Int) 224) (bits .and .i64 (o : Int) 24)) 1 = (o : Int) := by decide +kernel
theorem placeT_cases {mode o f b : Int} (h : (placeT mode o f b).size ≠ 0) : ∃ nm, (nm, mode, bits .and .i64 o 24) ∈ moveL ∧ placeT mode o f b = joinT (plcW nm f b) := by
 unfold placeT at *
 rcases hm : moveOf moveL mode (bits .and .i64 o 24) with _ | nm
 ·rw [hm] at h; exact absurd rfl h
 ·have h1 := moveOf_mem hm
  refine ⟨nm, h1, ?_⟩
  show saidT (plcW nm f b) = _
  exact saidT_join (plcW_words h1 f b)
theorem hd_close (f : Int) : hdW ((partsT f).2 ++ ⟨#[41]⟩) ≠ some 108 := by
 have h : ∃ c : UInt8, hdW (partsT f).2 = some c ∧ 48 ≤ c.toNat ∧ c.toNat ≤ 57 := by
  rcases int_ways f with ⟨k, rfl, hk⟩ | ⟨k, rfl⟩
  ·rw [partsT_neg k hk]; exact hd_dig k
  ·rw [partsT_pos]; exact hd_dig k
 obtain ⟨c, h1, h2, h3⟩ := h
 rw [hd_app h1]
 intro e
 cases e
 revert h3; decide
theorem load_back {o d s f m : Int} (h : Fits o d s f m) (hd : d ≤ 10) (hs : s ≤ 10) (hq : o % 8 = 1) (hne : (loadT o d s f m).size ≠ 0) : Says (loadT o d s f m) [⟨o, d, s, f, m⟩] := by
 obtain ⟨ho, hd0, hs0, hf, hm⟩ := h
 unfold loadT at *
 by_cases hm0 : m = 0
 ·rw [if_pos hm0] at *
  obtain ⟨h1, h2⟩ := saidT_sizes hne
  obtain ⟨nm, hnm, hp⟩ := placeT_cases (h1 (placeT (bits .and .i64 o 224) o f s) (by simp))
  rw [h2, hp]
  have hw := plcW_words hnm f s
  refine ⟨[regT ⟨#[114]⟩ d, ⟨#[61]⟩] ++ plcW nm f s, joinT_app [regT ⟨#[114]⟩ d, ⟨#[61]⟩] (plcW nm f s) (by simp) (by simp [plcW]), by simp, by simp [plcW], fun w hw' => ?_, ?_⟩
  ·rcases List.mem_append.1 hw' with hw' | hw'
   ·simp only [List.mem_cons, List.not_mem_nil, or_false] at hw'
    rcases hw' with rfl | rfl
    ·exact isW_reg (by decide) d
    ·decide
   ·exact hw w hw'
  ·refine slots_one (w := (partsT f).2 ++ ⟨#[41]⟩) rfl (hd_close f) ?_
   show oneR [regT ⟨#[114]⟩ d, ⟨#[61]⟩, _, _, _, _] = _
   rw [oneR, if_neg (by rw [same_hd (by rw [hd_reg]; decide)]; decide), if_pos (by decide)]
   unfold loadR
   rw [place_back hnm f s ⟨hs0.1, hs⟩ hf, Option.bind_some, regS_regT ⟨#[114]⟩ d hd0.1 hd]
   obtain ⟨k, rfl⟩ := Int.eq_ofNat_of_zero_le ho.1
   show some _ = some _
   rw [op_load k (by omega) (by omega)]
   congr 1
   simp only [Slot.mk.injEq, true_and]
   omega
 ·rw [if_neg hm0] at hne
  exact absurd rfl hne
end Go.Proofs.YtemiklbkfogjeaaGreatDoor
