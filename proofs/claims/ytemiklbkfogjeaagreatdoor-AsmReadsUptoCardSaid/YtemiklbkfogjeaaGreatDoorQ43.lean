/-
  What the reference prints of a slot, package asm prints: plainly. What the reference prints of a store, package asm prints: plainly. What the reference prints of a jump, package asm prints: plainly.
-/
import Derived.Test.YtemiklbkfogjeaaGreatDoorQ08
import Derived.Test.YtemiklbkfogjeaaGreatDoorQ41
namespace Go.Proofs.YtemiklbkfogjeaaGreatDoor
open Go Go.RowKit Go.Maps
set_option linter.unusedVariables false
set_option linter.unusedSimpArgs false
set_option maxRecDepth 100000
abbrev BL (x : ByteArray) : List UInt8 := x.data.toList
theorem bl_app (a b : ByteArray) : BL (a ++ b) = BL a ++ BL b := by
 unfold BL
 rw [ByteArray.data_append, Array.toList_append]
theorem bl_size (a : ByteArray) : a.size = (BL a).length := by
 unfold BL
 rw [Array.length_toList]; rfl
theorem decL_dec : ∀ n : Nat, decL n = Lib.decDigits n := by
 intro n
 induction n using Nat.strongRecOn with
 | ind n ih =>
  rw [Lib.decDigits]
  by_cases h : n < 10
  ·rw [decL_lt h, dif_pos h]; rfl
  ·rw [decL_ge h, dif_neg h, ih (n / 10) (by omega)]; rfl
theorem bl_dec (n : Int) : BL (dec n) = Ln.digL n := by
 show Lib.itoa n = Ln.digL n
 unfold Lib.itoa Ln.digL
 rw [← decL_dec, ← decL_dec]
 by_cases h : n < 0
 ·rw [if_pos h, if_pos h, show n.natAbs = (-n).toNat by omega]; rfl
 ·rw [if_neg h, if_neg h]
theorem bl_reg (p : ByteArray) {n : Int} (h : 0 ≤ n ∧ n ≤ 10) : BL (regT p n) = Ln.regL (BL p) n := by
 unfold regT Ln.regL Ln.regIn
 rw [bl_app, bl_dec, decide_eq_true h.1, decide_eq_true h.2]
 rfl
theorem regIn_of {n : Int} (h : 0 ≤ n ∧ n ≤ 10) : Ln.regIn n = true := by
 unfold Ln.regIn
 rw [decide_eq_true h.1, decide_eq_true h.2]; rfl
theorem immIn_of {n : Int} (h : -2147483648 ≤ n ∧ n ≤ 2147483647) : Ln.immIn n = true := by
 unfold Ln.immIn
 rw [decide_eq_true h.1, decide_eq_true h.2]; rfl
theorem offIn_of {n : Int} (h : -32768 ≤ n ∧ n ≤ 32767) : Ln.offIn n = true := by
 unfold Ln.offIn
 rw [decide_eq_true h.1, decide_eq_true h.2]; rfl
theorem ne_dec (n : Int) : (dec n).size ≠ 0 := by
 rw [bl_size, bl_dec]
 have := Ln.digL_pos n
 omega
theorem ne_app {a b : ByteArray} (h : a.size ≠ 0) : (a ++ b).size ≠ 0 := by rw [ByteArray.size_append]; omega
theorem ne_app2 {a b : ByteArray} (h : b.size ≠ 0) : (a ++ b).size ≠ 0 := by rw [ByteArray.size_append]; omega
theorem ne_reg {p : ByteArray} (n : Int) : (regT p n).size ≠ 0 := ne_app2 (ne_dec n)
theorem ne_parts (f : Int) : (partsT f).1.size ≠ 0 ∧ (partsT f).2.size ≠ 0 := by
 unfold partsT
 split
 ·exact ⟨by show (⟨#[45]⟩ : ByteArray).size ≠ 0; decide, ne_dec _⟩
 ·exact ⟨by show (⟨#[43]⟩ : ByteArray).size ≠ 0; decide, ne_dec _⟩
theorem bl_far (f : Int) : BL (farT f) = Ln.signedL f := by
 unfold farT partsT Ln.signedL
 rw [bl_app]
 split
 ·rename_i h
  rw [bl_dec]
  unfold Ln.digL
  rw [if_neg (by omega), if_pos h]
 ·rw [bl_dec]
/-- Words with a blank between each two. -/
theorem bl_said : ∀ (ws : List ByteArray), (∀ w ∈ ws, w.size ≠ 0) → BL (saidT ws) = Lib.join (ws.map BL) [32] := by
 intro ws h
 have hl : lacks ws = false := by
  unfold lacks
  rw [List.any_eq_false]
  intro x hx
  simpa using h x hx
 unfold saidT
 rw [hl, if_neg (by decide)]
 show (bstr _).data.toList = _
 simp [bstr, BL]
theorem bl_none (ws : List ByteArray) (h : ∃ w ∈ ws, w.size = 0) : saidT ws = emptyT := by
 have hl : lacks ws = true := by
  unfold lacks
  rw [List.any_eq_true]
  obtain ⟨w, h1, h2⟩ := h
  exact ⟨w, h1, decide_eq_true h2⟩
 unfold saidT
 rw [hl, if_pos rfl]
theorem ne_said {ws : List ByteArray} (h : ∀ w ∈ ws, w.size ≠ 0) (hne : ws ≠ []) : (saidT ws).size ≠ 0 := by
 rw [bl_size, bl_said ws h]
 cases ws with
 | nil => exact absurd rfl hne
 | cons a r =>
  have h1 := h a (by simp)
  rw [bl_size] at h1
  cases r with
  | nil => simpa [Lib.join, List.intercalate] using h1
  | cons b t => 
   simp only [List.map_cons, Lib.join, List.intercalate, List.intersperse, List.flatten_cons, List.length_append]
   omega
/-- What the bits of an operation's number are. -/
theorem bits_tab : ∀ n : Nat, n < 256 → bits .and .i64 (n : Int) 224 = ((n / 32 * 32 : Nat) : Int) ∧ bits .and .i64 (n : Int) 24 = ((n / 8 % 4 * 8 : Nat) : Int) ∧ bits .and .i64 (n : Int) 240 = ((n / 16 * 16 : Nat) : Int) ∧ bits .and .i64 (n : Int) 8 = ((n / 8 % 2 * 8 : Nat) : Int) := by decide +kernel
/-- A place's text. -/
theorem bl_place (nm : ByteArray) {b f : Int} (hb : 0 ≤ b ∧ b ≤ 10) : BL (placeOf nm f b) = [42, 40] ++ BL nm ++ [32, 42, 41] ++ Ln.placeL b f ∧ (placeOf nm f b).size ≠ 0 := by
 have hw : ∀ w ∈ [(⟨#[42, 40]⟩ : ByteArray) ++ nm, ⟨#[42, 41, 40]⟩ ++ regT ⟨#[114]⟩ b, (partsT f).1, (partsT f).2 ++ ⟨#[41]⟩], w.size ≠ 0 := by
  intro w hw
  simp only [List.mem_cons, List.not_mem_nil, or_false] at hw
  rcases hw with rfl | rfl | rfl | rfl
  ·exact ne_app (by decide)
  ·exact ne_app (by decide)
  ·exact (ne_parts f).1
  ·exact ne_app2 (by decide)
 refine ⟨?_, ne_said hw (by simp)⟩
 unfold placeOf
 rw [bl_said _ hw]
 simp only [List.map_cons, List.map_nil, Lib.join, List.intercalate, List.intersperse, List.flatten_cons, List.flatten_nil, bl_app, bl_reg _ hb]
 unfold partsT Ln.placeL
 rw [regIn_of hb]
 split
 ·rename_i h
  rw [if_pos rfl]
  simp only [bl_dec]
  unfold Ln.digL
  rw [if_neg (by omega)]
  simp [BL]
 ·rename_i h
  rw [if_pos rfl]
  simp [BL, bl_dec]
theorem digL8 : Ln.digL 8 = [56] := by unfold Ln.digL; rw [if_neg (by decide), decL_lt (by decide)]; rfl
theorem digL16 : Ln.digL 16 = [49, 54] := by unfold Ln.digL; rw [if_neg (by decide), decL_ge (by decide), decL_lt (by decide)]; rfl
theorem digL32 : Ln.digL 32 = [51, 50] := by unfold Ln.digL; rw [if_neg (by decide), decL_ge (by decide), decL_lt (by decide)]; rfl
theorem digL64 : Ln.digL 64 = [54, 52] := by unfold Ln.digL; rw [if_neg (by decide), decL_ge (by decide), decL_lt (by decide)]; rfl
/-- How many bits are moved. -/
def bitW : Nat → List UInt8
 | 0 => [51, 50]
 | 1 => [49, 54]
 | 2 => [56]
 | _ => [54, 52]
theorem size_tab : ∀ n : Nat, n < 256 → (n % 8 = 1 ∨ n % 8 = 2 ∨ n % 8 = 3) → 8 * sizeV (n : Int) = (if n / 8 % 4 = 0 then 32 else if n / 8 % 4 = 1 then 16 else if n / 8 % 4 = 2 then 8 else 64) := by decide +kernel
theorem bitsL_of (n : Nat) (hn : n < 256) (hq : n % 8 = 1 ∨ n % 8 = 2 ∨ n % 8 = 3) : Ln.bitsL (n : Int) = bitW (n / 8 % 4) := by
 unfold Ln.bitsL
 rw [size_tab n hn hq]
 have hb' : n / 8 % 4 = 0 ∨ n / 8 % 4 = 1 ∨ n / 8 % 4 = 2 ∨ n / 8 % 4 = 3 := by omega
 rcases hb' with h | h | h | h <;> rw [h]
 ·exact digL32
 ·exact digL16
 ·exact digL8
 ·exact digL64
/-! ### loads -/
theorem eq_load (a b : Nat) (ha : a < 8) (hb : b < 4) {o d s f m : Int} (ho : o = ((32 * a + 8 * b + 1 : Nat) : Int)) (hd : 0 ≤ d ∧ d ≤ 10) (hs : 0 ≤ s ∧ s ≤ 10) (hf : -32768 ≤ f ∧ f ≤ 32767) (hm : -2147483648 ≤ m ∧ m ≤ 2147483647) : BL (loadT o d s f m) = Ln.movesL o d s f m := by
 have t := bits_tab (32 * a + 8 * b + 1) (by omega)
 rw [← ho] at t
 obtain ⟨t1, t2, _, _⟩ := t
 have hok : Ln.moveOk d s f m = true := by
  unfold Ln.moveOk
  rw [regIn_of hd, regIn_of hs, offIn_of hf, immIn_of hm]; rfl
 unfold loadT Ln.movesL
 have q1 : (o % 8 == 1) = true := by simp; omega
 simp only [hok, Bool.not_true, Bool.false_eq_true, if_false, q1, if_true, t1]
 by_cases h0 : m = 0
 ·have hp : ∀ nm, moveOf moveL ((((32 * a + 8 * b + 1) / 32 * 32 : Nat) : Int)) (bits .and .i64 o 24) = some nm → BL (saidT [regT ⟨#[114]⟩ d, ⟨#[61]⟩, placeT ((((32 * a + 8 * b + 1) / 32 * 32 : Nat) : Int)) o f s]) = Ln.regL [114] d ++ [32, 61, 32, 42, 40] ++ BL nm ++ [32, 42, 41] ++ Ln.placeL s f := by
   intro nm hnm
   unfold placeT
   rw [hnm]
   obtain ⟨p1, p2⟩ := bl_place nm (f := f) hs
   show BL (saidT [regT ⟨#[114]⟩ d, ⟨#[61]⟩, placeOf nm f s]) = _
   rw [bl_said _ (by
    intro w hw
    simp only [List.mem_cons, List.not_mem_nil, or_false] at hw
    rcases hw with rfl | rfl | rfl
    ·exact ne_reg d
    ·decide
    ·exact p2)]
   simp only [List.map_cons, List.map_nil, Lib.join, List.intercalate, List.intersperse, List.flatten_cons, List.flatten_nil, bl_reg _ hd, p1]
   simp [BL]
  have hn : moveOf moveL ((((32 * a + 8 * b + 1) / 32 * 32 : Nat) : Int)) (bits .and .i64 o 24) = none → BL (saidT [regT ⟨#[114]⟩ d, ⟨#[61]⟩, placeT ((((32 * a + 8 * b + 1) / 32 * 32 : Nat) : Int)) o f s]) = [] := by
   intro hnm
   rw [bl_none _ ⟨placeT ((((32 * a + 8 * b + 1) / 32 * 32 : Nat) : Int)) o f s, by simp, by unfold placeT; rw [hnm]; rfl⟩]
   rfl
  subst h0
  rw [if_pos rfl]
  rw [t2] at hp hn
  have hbl := bitsL_of (32 * a + 8 * b + 1) (by omega) (by omega)
  rw [← ho] at hbl
  rw [hbl]
  have ha' : a = 0 ∨ a = 1 ∨ a = 2 ∨ a = 3 ∨ a = 4 ∨ a = 5 ∨ a = 6 ∨ a = 7 := by omega
  have hb' : b = 0 ∨ b = 1 ∨ b = 2 ∨ b = 3 := by omega
  clear t1 t2 q1 hok hbl
  rcases ha' with rfl | rfl | rfl | rfl | rfl | rfl | rfl | rfl <;> rcases hb' with rfl | rfl | rfl | rfl <;> subst ho <;> first
   | (rw [hn (by decide)]; rfl)
   | (rw [hp _ rfl]; simp [BL, bitW])
 ·rw [if_neg h0]
  have e0 : (m == 0) = false := beq_false_of_ne h0
  rw [e0]
  simp [emptyT, BL]
theorem said2 {a b : ByteArray} (ha : a.size ≠ 0) (hb : b.size ≠ 0) : BL (saidT [a, b]) = BL a ++ [32] ++ BL b ∧ (saidT [a, b]).size ≠ 0 := by
 have hw : ∀ w ∈ [a, b], w.size ≠ 0 := by
  intro w hw
  simp only [List.mem_cons, List.not_mem_nil, or_false] at hw
  rcases hw with rfl | rfl
  ·exact ha
  ·exact hb
 refine ⟨?_, ne_said hw (by simp)⟩
 rw [bl_said _ hw]
 simp [Lib.join, List.intercalate, List.intersperse]
theorem said3 {a b c : ByteArray} (ha : a.size ≠ 0) (hb : b.size ≠ 0) (hc : c.size ≠ 0) : BL (saidT [a, b, c]) = BL a ++ [32] ++ BL b ++ [32] ++ BL c ∧ (saidT [a, b, c]).size ≠ 0 := by
 have hw : ∀ w ∈ [a, b, c], w.size ≠ 0 := by
  intro w hw
  simp only [List.mem_cons, List.not_mem_nil, or_false] at hw
  rcases hw with rfl | rfl | rfl
  ·exact ha
  ·exact hb
  ·exact hc
 refine ⟨?_, ne_said hw (by simp)⟩
 rw [bl_said _ hw]
 simp [Lib.join, List.intercalate, List.intersperse]
theorem said4 {a b c d : ByteArray} (ha : a.size ≠ 0) (hb : b.size ≠ 0) (hc : c.size ≠ 0) (hd : d.size ≠ 0) : BL (saidT [a, b, c, d]) = BL a ++ [32] ++ BL b ++ [32] ++ BL c ++ [32] ++ BL d ∧ (saidT [a, b, c, d]).size ≠ 0 := by
 have hw : ∀ w ∈ [a, b, c, d], w.size ≠ 0 := by
  intro w hw
  simp only [List.mem_cons, List.not_mem_nil, or_false] at hw
  rcases hw with rfl | rfl | rfl | rfl
  ·exact ha
  ·exact hb
  ·exact hc
  ·exact hd
 refine ⟨?_, ne_said hw (by simp)⟩
 rw [bl_said _ hw]
 simp [Lib.join, List.intercalate, List.intersperse]
theorem said6 {a b c d e f : ByteArray} (ha : a.size ≠ 0) (hb : b.size ≠ 0) (hc : c.size ≠ 0) (hd : d.size ≠ 0) (he : e.size ≠ 0) (hf : f.size ≠ 0) : BL (saidT [a, b, c, d, e, f]) = BL a ++ [32] ++ BL b ++ [32] ++ BL c ++ [32] ++ BL d ++ [32] ++ BL e ++ [32] ++ BL f ∧ (saidT [a, b, c, d, e, f]).size ≠ 0 := by
 have hw : ∀ w ∈ [a, b, c, d, e, f], w.size ≠ 0 := by
  intro w hw
  simp only [List.mem_cons, List.not_mem_nil, or_false] at hw
  rcases hw with rfl | rfl | rfl | rfl | rfl | rfl
  ·exact ha
  ·exact hb
  ·exact hc
  ·exact hd
  ·exact he
  ·exact hf
 refine ⟨?_, ne_said hw (by simp)⟩
 rw [bl_said _ hw]
 simp [Lib.join, List.intercalate, List.intersperse]

theorem said_no {ws : List ByteArray} (h : ∃ w ∈ ws, w.size = 0) : BL (saidT ws) = [] := by rw [bl_none _ h]; rfl
theorem lit_bl (l : List UInt8) : BL ⟨l.toArray⟩ = l := by simp [BL]
/-- What stands behind a lock's place. -/
theorem eq_lock {s : Int} (hs : 0 ≤ s ∧ s ≤ 10) (m : Int) : BL (lockT s m) = Ln.lockW s m ∧ ((lockT s m).size = 0 ↔ Ln.lockW s m = []) := by
 have hr : (regT ⟨#[114]⟩ s).size ≠ 0 := ne_reg s
 have hb : BL (regT ⟨#[114]⟩ s) = Ln.regL [114] s := bl_reg _ hs
 have key : BL (lockT s m) = Ln.lockW s m := by
  unfold lockT
  generalize regT ⟨#[114]⟩ s = r at hr hb ⊢
  have two : ∀ nm : ByteArray, nm.size ≠ 0 → BL (saidT [nm, r]) = BL nm ++ [32] ++ Ln.regL [114] s := fun nm h => by rw [(said2 h hr).1, hb]
  have three : ∀ nm : ByteArray, nm.size ≠ 0 → BL (saidT [nm, r, fetchT]) = BL nm ++ [32] ++ Ln.regL [114] s ++ [32] ++ BL fetchT := fun nm h => by rw [(said3 h hr (by decide)).1, hb]
  by_cases h0 : m = 0
  ·subst h0
   rw [show lockG r 0 lockL = saidT [⟨#[43, 61]⟩, r] from rfl, two _ (by decide)]; simp [Ln.lockW, BL]
  by_cases h1 : m = 1
  ·subst h1
   rw [show lockG r 1 lockL = saidT [⟨#[43, 61]⟩, r, fetchT] from rfl, three _ (by decide)]; simp [Ln.lockW, BL]
  by_cases h2 : m = 64
  ·subst h2
   rw [show lockG r 64 lockL = saidT [⟨#[124, 61]⟩, r] from rfl, two _ (by decide)]; simp [Ln.lockW, BL]
  by_cases h3 : m = 65
  ·subst h3
   rw [show lockG r 65 lockL = saidT [⟨#[124, 61]⟩, r, fetchT] from rfl, three _ (by decide)]; simp [Ln.lockW, BL]
  by_cases h4 : m = 80
  ·subst h4
   rw [show lockG r 80 lockL = saidT [⟨#[38, 61]⟩, r] from rfl, two _ (by decide)]; simp [Ln.lockW, BL]
  by_cases h5 : m = 81
  ·subst h5
   rw [show lockG r 81 lockL = saidT [⟨#[38, 61]⟩, r, fetchT] from rfl, three _ (by decide)]; simp [Ln.lockW, BL]
  by_cases h6 : m = 160
  ·subst h6
   rw [show lockG r 160 lockL = saidT [⟨#[94, 61]⟩, r] from rfl, two _ (by decide)]; simp [Ln.lockW, BL]
  by_cases h7 : m = 161
  ·subst h7
   rw [show lockG r 161 lockL = saidT [⟨#[94, 61]⟩, r, fetchT] from rfl, three _ (by decide)]; simp [Ln.lockW, BL]
  by_cases h8 : m = 225
  ·subst h8
   rw [show lockG r 225 lockL = saidT [⟨#[120, 99, 104, 103]⟩, r] from rfl, two _ (by decide)]; simp [Ln.lockW, BL]
  by_cases h9 : m = 241
  ·subst h9
   rw [show lockG r 241 lockL = saidT [⟨#[99, 109, 112, 120, 99, 104, 103]⟩, r] from rfl, two _ (by decide)]; simp [Ln.lockW, BL]
  have e : lockG r m lockL = emptyT := by
   unfold lockL
   simp only [lockG]
   rw [if_neg h0, if_neg (by omega), if_neg h2, if_neg (by omega), if_neg h4, if_neg (by omega), if_neg h6, if_neg (by omega), if_neg h8, if_neg (by simp), if_neg h9, if_neg (by simp)]
  rw [e]
  simp [Ln.lockW, h0, h1, h2, h3, h4, h5, h6, h7, h8, h9, emptyT, BL]
 refine ⟨key, ?_⟩
 rw [bl_size, key, List.length_eq_zero_iff]
theorem moveOf_u (b : Nat) (hb : b < 4) : moveOf moveL 96 ((b * 8 : Nat) : Int) = some ⟨(117 :: bitW b).toArray⟩ := by
 have hb' : b = 0 ∨ b = 1 ∨ b = 2 ∨ b = 3 := by omega
 rcases hb' with rfl | rfl | rfl | rfl <;> rfl
theorem eq_store (a b q : Nat) (ha : a < 8) (hb : b < 4) (hq : q = 2 ∨ q = 3) {o d s f m : Int} (ho : o = ((32 * a + 8 * b + q : Nat) : Int)) (hd : 0 ≤ d ∧ d ≤ 10) (hs : 0 ≤ s ∧ s ≤ 10) (hf : -32768 ≤ f ∧ f ≤ 32767) (hm : -2147483648 ≤ m ∧ m ≤ 2147483647) : BL (storeT o d s f m) = Ln.movesL o d s f m := by
 have t := bits_tab (32 * a + 8 * b + q) (by omega)
 rw [← ho] at t
 obtain ⟨t1, t2, _, _⟩ := t
 have hok : Ln.moveOk d s f m = true := by
  unfold Ln.moveOk
  rw [regIn_of hd, regIn_of hs, offIn_of hf, immIn_of hm]; rfl
 have hbl := bitsL_of (32 * a + 8 * b + q) (by omega) (by omega)
 rw [← ho] at hbl
 have e8 : (32 * a + 8 * b + q) / 8 % 4 = b := by omega
 rw [e8] at t2 hbl
 have e32 : (32 * a + 8 * b + q) / 32 = a := by omega
 rw [e32] at t1
 obtain ⟨p1, p2⟩ := bl_place ⟨(117 :: bitW b).toArray⟩ (f := f) hd
 have hpl : placeT 96 o f d = placeOf ⟨(117 :: bitW b).toArray⟩ f d := by
  unfold placeT
  rw [t2, moveOf_u b hb]; rfl
 have p1 : BL (placeOf ⟨(117 :: bitW b).toArray⟩ f d) = [42, 40] ++ (117 :: bitW b) ++ [32, 42, 41] ++ Ln.placeL d f := by rw [p1]
 have d32 : o / 32 = (a : Int) := by omega
 unfold storeT Ln.movesL
 rw [t1, t2, hpl, hbl]
 simp only [hok, Bool.not_true, Bool.false_eq_true, if_false, d32]
 rcases hq with rfl | rfl
 ·have q1 : (o % 8 == 1) = false := by simp; omega
  have q2 : (o % 8 == 2) = true := by simp; omega
  have q3 : (o % 8 == 3) = false := by simp; omega
  have q3' : ¬ o % 8 = 3 := by omega
  simp only [q1, q2, q3, q3', Bool.false_eq_true, if_false, if_true, false_and, and_false]
  unfold secT
  simp only [Bool.false_eq_true, if_false]
  by_cases h3 : a = 3
  ·subst h3
   rw [if_pos (by decide)]
   have h3' : (((3 : Nat) : Int) == 3) = true := by decide
   by_cases h0 : s = 0
   ·subst h0
    rw [if_pos rfl, (said3 p2 (by decide) (ne_dec m)).1, p1, bl_dec]
    simp [BL]
   ·rw [if_neg h0, said_no ⟨emptyT, by simp, rfl⟩]
    simp [h0]
  ·have h3' : ¬ (((a * 32 : Nat) : Int) = 96) := by omega
   have h3'' : ((a : Int) == 3) = false := by simp; omega
   rw [if_neg h3']
   simp [h3'', emptyT, BL]
 ·have q1 : (o % 8 == 1) = false := by simp; omega
  have q2 : (o % 8 == 2) = false := by simp; omega
  have q3 : (o % 8 == 3) = true := by simp; omega
  have q3' : o % 8 = 3 := by omega
  simp only [q3', show ((3 : Int) == 1) = false from rfl, show ((3 : Int) == 2) = false from rfl, show ((3 : Int) == 3) = true from rfl, Bool.false_eq_true, if_false, if_true, true_and]
  obtain ⟨k1, k2⟩ := eq_lock hs m
  unfold secT
  have tt : ∀ X Y : ByteArray, (if true = true then X else Y) = X := fun _ _ => if_pos rfl
  rw [tt]
  by_cases h3 : a = 3
  ·subst h3
   rw [if_neg (by rintro ⟨h, _⟩; revert h; decide), if_pos (by decide)]
   have o1 : (o == 195) = false := by simp; omega
   have o2 : (o == 219) = false := by simp; omega
   by_cases h0 : m = 0
   ·subst h0
    rw [show (if (0 : Int) = 0 then regT wholeT s else emptyT) = regT wholeT s from if_pos rfl, (said3 p2 (by decide) (ne_reg s)).1, p1, bl_reg _ hs]
    simp [BL]
   ·rw [if_neg h0, said_no ⟨emptyT, by simp, rfl⟩]
    simp [h0, o1, o2]
  ·have h3'' : ((a : Int) == 3) = false := by simp; omega
   have h3' : ¬ (((a * 32 : Nat) : Int) = 96) := by omega
   by_cases h6 : a = 6 ∧ (b = 0 ∨ b = 3)
   ·have hc : ((a * 32 : Nat) : Int) = 192 ∧ lockedS ((b * 8 : Nat) : Int) = true := by
     obtain ⟨rfl, rfl | rfl⟩ := h6 <;> exact ⟨by decide, by decide⟩
    rw [if_pos hc]
    have o1 : (o == 195 || o == 219) = true := by
     obtain ⟨rfl, rfl | rfl⟩ := h6 <;> simp <;> omega
    simp only [h3'', Bool.false_and, Bool.false_eq_true, if_false, o1, if_true]
    by_cases hl : Ln.lockW s m = []
    ·rw [if_pos hl, said_no ⟨lockT s m, by simp, k2.2 hl⟩]
    ·rw [if_neg hl, (said3 (by decide) p2 (fun h => hl (k2.1 h))).1, p1, k1]
     simp [BL]
   ·have hc : ¬ (((a * 32 : Nat) : Int) = 192 ∧ lockedS ((b * 8 : Nat) : Int) = true) := by
     rintro ⟨c1, c2⟩
     unfold lockedS at c2
     have c2 := of_decide_eq_true c2
     exact h6 ⟨by omega, by omega⟩
    rw [if_neg hc, if_neg h3']
    have o1 : (o == 195 || o == 219) = false := by
     simp
     omega
    simp only [h3'', Bool.false_and, Bool.false_eq_true, if_false, o1]
    rfl
/-- The second side's text. -/
theorem bl_sec {s m : Int} (src : Bool) (q : Int) (hs : 0 ≤ s ∧ s ≤ 10) :
  (src = true → m = 0 → BL (secT s m src (letterS q)) = Ln.regL (BL (letterS q)) s ∧ (secT s m src (letterS q)).size ≠ 0) ∧
  (src = false → s = 0 → BL (secT s m src (letterS q)) = Ln.digL m ∧ (secT s m src (letterS q)).size ≠ 0) ∧
  ((src = true ∧ m ≠ 0) ∨ (src = false ∧ s ≠ 0) → (secT s m src (letterS q)).size = 0) := by
 unfold secT
 refine ⟨?_, ?_, ?_⟩
 ·rintro rfl rfl
  rw [if_pos rfl, if_pos rfl]
  exact ⟨bl_reg _ hs, ne_reg s⟩
 ·rintro rfl rfl
  rw [if_neg (by decide), if_pos rfl]
  exact ⟨bl_dec m, ne_dec m⟩
 ·rintro (⟨rfl, h⟩ | ⟨rfl, h⟩)
  ·rw [if_pos rfl, if_neg h]; rfl
  ·rw [if_neg (by decide), if_neg h]; rfl
theorem eq_jump (a q : Nat) (ha : a < 16) (x : Nat) (hx : x < 2) (hq : q = 5 ∨ q = 6) {o d s f m : Int} (ho : o = ((16 * a + 8 * x + q : Nat) : Int)) (hd : 0 ≤ d ∧ d ≤ 10) (hs : 0 ≤ s ∧ s ≤ 10) (hf : -32768 ≤ f ∧ f ≤ 32767) (hm : -2147483648 ≤ m ∧ m ≤ 2147483647) : BL (jumpT o d s f m) = Ln.jumpsL o d s f m := by
 have t := bits_tab (16 * a + 8 * x + q) (by omega)
 rw [← ho] at t
 obtain ⟨_, _, t3, t4⟩ := t
 have e16 : (16 * a + 8 * x + q) / 16 = a := by omega
 rw [e16] at t3
 have e8 : (16 * a + 8 * x + q) / 8 % 2 = x := by omega
 rw [e8] at t4
 have ef : (farT f).size ≠ 0 := ne_app (ne_parts f).1
 have hT : testG (bits .and .i64 o 240) (testLine o d s f m) testL = if (Ln.nameJ a).isEmpty = true then emptyT else testLine o d s f m ⟨(Ln.nameJ a).toArray⟩ := by
  rw [t3]
  have ha' : a = 0 ∨ a = 1 ∨ a = 2 ∨ a = 3 ∨ a = 4 ∨ a = 5 ∨ a = 6 ∨ a = 7 ∨ a = 8 ∨ a = 9 ∨ a = 10 ∨ a = 11 ∨ a = 12 ∨ a = 13 ∨ a = 14 ∨ a = 15 := by omega
  clear t3 e16 ho ha
  rcases ha' with rfl | rfl | rfl | rfl | rfl | rfl | rfl | rfl | rfl | rfl | rfl | rfl | rfl | rfl | rfl | rfl <;> rfl
 have d16 : (o / 16).toNat = a := by omega
 have hne : (Ln.nameJ a).isEmpty = false → (⟨(Ln.nameJ a).toArray⟩ : ByteArray).size ≠ 0 := by
  intro h
  rw [bl_size, lit_bl]
  intro h0
  rw [List.length_eq_zero_iff] at h0
  rw [h0] at h; cases h
 unfold jumpT Ln.jumpsL same5
 rw [hT, d16]
 generalize hN : Ln.nameJ a = nm at *
 simp only [offIn_of hf, immIn_of hm, Bool.and_self, Bool.not_true, Bool.false_eq_true, if_false, regIn_of hd, regIn_of hs]
 by_cases h5 : o = 5
 ·have e0 : nm = [] := by
   have : a = 0 := by omega
   subst this; rw [← hN]; rfl
  subst e0
  subst h5
  by_cases hz : d = 0 ∧ s = 0 ∧ m = 0
  ·obtain ⟨rfl, rfl, rfl⟩ := hz
   rw [if_pos (by decide), (said2 (by decide) ef).1, bl_far]
   simp [BL]
  ·have hz' : ((d == 0) && ((s == 0) && (m == 0))) = false := by
    simp
    intro h1 h2 h3
    exact hz ⟨h1, h2, h3⟩
   rw [if_neg (by simp only [decide_eq_true_eq]; rintro ⟨_, h1, h2, _, h3⟩; exact hz ⟨h1, h2, h3⟩)]
   simp [hz', emptyT, BL]
 by_cases h133 : o = 133
 ·have e0 : nm = [] := by
   have : a = 8 := by omega
   subst this; rw [← hN]; rfl
  subst e0
  subst h133
  rw [if_neg (by simp)]
  by_cases hz : d = 0 ∧ s = 0 ∧ f = 0
  ·obtain ⟨rfl, rfl, rfl⟩ := hz
   rw [if_pos (by simp), (said2 (by decide) (ne_dec m)).1, bl_dec]
   simp [BL]
  ·have hz' : ((d == 0) && ((s == 0) && (f == 0))) = false := by
    simp
    intro h1 h2 h3
    exact hz ⟨h1, h2, h3⟩
   rw [if_neg (by simp only [decide_eq_true_eq]; rintro ⟨_, h1, h2, h3, _⟩; exact hz ⟨h1, h2, h3⟩)]
   simp [hz', emptyT, BL]
 by_cases h149 : o = 149
 ·have e0 : nm = [] := by
   have : a = 9 := by omega
   subst this; rw [← hN]; rfl
  subst e0
  subst h149
  rw [if_neg (by simp), if_neg (by simp)]
  by_cases hz : d = 0 ∧ s = 0 ∧ f = 0 ∧ m = 0
  ·obtain ⟨rfl, rfl, rfl, rfl⟩ := hz
   rw [if_pos (by decide)]
   simp [BL]
  ·have hz' : ((d == 0) && ((s == 0) && ((f == 0) && (m == 0)))) = false := by
    simp
    intro h1 h2 h3 h4
    exact hz ⟨h1, h2, h3, h4⟩
   rw [if_neg (by simp only [decide_eq_true_eq]; rintro ⟨_, h⟩; exact hz h)]
   simp [hz', emptyT, BL]
 have b5 : (o == 5) = false := beq_false_of_ne h5
 have b133 : (o == 133) = false := beq_false_of_ne h133
 have b149 : (o == 149) = false := beq_false_of_ne h149
 rw [if_neg (by simp [h5]), if_neg (by simp [h133]), if_neg (by simp [h149])]
 simp only [b5, b133, b149, Bool.false_eq_true, if_false]
 by_cases he : nm.isEmpty = true
 ·rw [if_pos he, if_pos he]; rfl
 ·have he' := Bool.eq_false_iff.2 he
  rw [if_neg he, if_neg he, t4]
  have hle : BL (letterS (o % 8)) = Ln.leadL o := by
   unfold letterS Ln.leadL
   rcases hq with rfl | rfl
   ·have : o % 8 = 5 := by omega
    rw [this]; rfl
   ·have : o % 8 = 6 := by omega
    rw [this]; rfl
  have hrg : BL (regT (letterS (o % 8)) d) = Ln.regL (Ln.leadL o) d := by rw [bl_reg _ hd, hle]
  obtain ⟨k1, k2, k3⟩ := bl_sec (s := s) (m := m) (bits .and .i64 o 8 != 0) (o % 8) hs
  rw [hle] at k1
  unfold testLine
  rw [t4] at k1 k2 k3 ⊢
  have hx' : x = 0 ∨ x = 1 := by omega
  rcases hx' with rfl | rfl
  ·have x0 : (((0 * 8 : Nat) : Int) != 0) = false := by decide
   have x1 : (((0 * 8 : Nat) : Int) == 0) = true := by decide
   rw [x0] at k1 k2 k3 ⊢
   rw [x1, if_pos rfl]
   by_cases h0 : s = 0
   ·obtain ⟨k4, k5⟩ := k2 rfl h0
    rw [(said6 (by decide) (ne_reg d) (hne he') k5 (by decide) ef).1, hrg, k4, bl_far, h0]
    simp [BL]
   ·rw [said_no ⟨_, by simp, k3 (.inr ⟨rfl, h0⟩)⟩]
    simp [h0]
  ·have x0 : (((1 * 8 : Nat) : Int) != 0) = true := by decide
   have x1 : (((1 * 8 : Nat) : Int) == 0) = false := by decide
   rw [x0] at k1 k2 k3 ⊢
   rw [x1, if_neg (by decide)]
   by_cases h0 : m = 0
   ·obtain ⟨k4, k5⟩ := k1 rfl h0
    rw [(said6 (by decide) (ne_reg d) (hne he') k5 (by decide) ef).1, hrg, k4, bl_far, h0]
    simp [BL]
   ·rw [said_no ⟨_, by simp, k3 (.inl ⟨rfl, h0⟩)⟩]
    simp [h0]
end Go.Proofs.YtemiklbkfogjeaaGreatDoor
