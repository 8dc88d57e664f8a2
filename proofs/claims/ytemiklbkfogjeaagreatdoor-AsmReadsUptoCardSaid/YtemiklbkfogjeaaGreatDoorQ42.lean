/-
  The reference's line of a wide instruction: whether there is one. The reference's line: what it answers of any text.
-/
import Derived.Test.YtemiklbkfogjeaaGreatDoorQ41
import Derived.Test.YtemiklbkfogjeaaGreatDoorQ01
import Derived.Test.YtemiklbkfogjeaaGreatDoorQ33
namespace Go.Proofs.YtemiklbkfogjeaaGreatDoor.Ln
open Go Go.RowKit
set_option linter.unusedVariables false
set_option linter.unusedSimpArgs false
set_option maxRecDepth 100000
/-- A wide instruction's number. -/
def wideN (m m' : Int) : Int := m % 4294967296 + m' % 4294967296 * 4294967296
theorem ret_u64 {a b : Int} (h : a = b) : Ending.returned (.int .u64 a) = .returned (.int .u64 b) := by rw [h]
theorem rimm_any (o d s f m o' d' s' f' m' : Int) (w : World) :
  Calls Tryz.prog 43 #[insV o d s f m, insV o' d' s' f' m'] w fun e w' => e = .returned (.int .u64 (wideN m m')) ∧ Below w.heap.size w w' := by
 have em : IntKind.u64.wrap (bits .and .u64 (IntKind.u64.wrap m) 4294967295 + IntKind.u64.wrap (IntKind.u64.wrap m' * 4294967296)) = wideN m m' := by
  unfold wideN
  simp only [IntKind.wrap_u64]
  rw [and_u64_low _ (by omega) (by omega)]
  omega
 have HEM := Lib.hid em
 clear em
 unfold insV
 go_enter Tryz.func43, Tryz.ntmps43
 go_wp2_with fail
 go_ret
 exact ⟨ret_u64 HEM.out, ((Below.refl _ w).alloc (Nat.le_refl _) _).alloc (by simp) _⟩
/-- The second slot of a wide instruction, as the reference has it. -/
def tailR (x y : Slot) : Bool := ((y.o == 0) && ((y.d == 0) && ((y.s == 0) && ((y.f == 0) && immIn y.m)))) && ((x.s == 0) || ((x.s == 1) && (y.m == 0)))
def Two (b b' : Nat) (x y : Slot) (W : World) : Prop := CB b x.o x.d x.s x.f x.m W ∧ CB b' y.o y.d y.s y.f y.m W
theorem Two.below {W W' : World} {b b' : Nat} {x y : Slot} (h : Two b b' x y W) (hb : Below W.heap.size W W') : Two b b' x y W' := ⟨h.1.below2 hb, h.2.below2 hb⟩
theorem two_new (w1 : World) (b : Nat) (x y : Slot) (h : CB b x.o x.d x.s x.f x.m w1) : Two b w1.heap.size x y (w1.alloc (.cells #[.int .i64 y.o, .int .i64 y.d, .int .i64 y.s, .int .i64 y.f, .int .i64 y.m] 38)) :=
 ⟨h.below2 ((Below.refl _ w1).alloc (Nat.le_refl _) _), Cells5.new w1 y _⟩
theorem flat {W : World} {b b' : Nat} {x y : Slot} (h : Two b b' x y W) : W.cell? ⟨b, 0, none⟩ = some (.int .i64 x.o) ∧ W.cell? ⟨b, 1, none⟩ = some (.int .i64 x.d) ∧ W.cell? ⟨b, 2, none⟩ = some (.int .i64 x.s) ∧ W.cell? ⟨b, 3, none⟩ = some (.int .i64 x.f) ∧ W.cell? ⟨b, 4, none⟩ = some (.int .i64 x.m) ∧ W.cell? ⟨b', 0, none⟩ = some (.int .i64 y.o) ∧ W.cell? ⟨b', 1, none⟩ = some (.int .i64 y.d) ∧ W.cell? ⟨b', 2, none⟩ = some (.int .i64 y.s) ∧ W.cell? ⟨b', 3, none⟩ = some (.int .i64 y.f) ∧ W.cell? ⟨b', 4, none⟩ = some (.int .i64 y.m) := ⟨h.1.1, h.1.2.1, h.1.2.2.1, h.1.2.2.2.1, h.1.2.2.2.2, h.2⟩
/-- What Line is asked of a wide instruction that may begin here. -/
structure WideA (x : Slot) : Prop where
 o : (x.o == 24) = true
 d : regIn x.d = true
 f : (x.f == 0) = true
 m : immIn x.m = true
theorem udig_sz (n : Nat) (h : n < 18446744073709551616) : (tx (decL n)).size ≤ 20 := by
 rw [tx_size]
 exact decL_len 19 n (by show n < 100000000000000000000; omega)
theorem wideN_nat (m m' : Int) : ∃ n : Nat, wideN m m' = (n : Int) ∧ n < 18446744073709551616 := by
 unfold wideN
 exact ⟨(m % 4294967296 + m' % 4294967296 * 4294967296).toNat, by omega, by omega⟩
set_option maxHeartbeats 4000000 in
theorem line_last' (A : Option Addr) (n c i : Nat) (X : Nat → Slot) (hn : n ≤ 4096) (hi : i < n) (w : World) (h : Slots w A n X) (ha : ((X i).o == 24) = true) (h3 : i + 1 = n) :
  Calls Tryz.prog 17 #[.slice A n c, .int .i64 i] w fun e w' => (∃ t k, e = .returned (.tuple #[.string t, .int .i64 k, .int .i64 31])) ∧ Below w.heap.size w w' := by
 obtain ⟨b, off, rfl, hlt, hc⟩ := h i hi
 have HC := Lib.hid hc
 obtain ⟨c0, c1, c2, c3, c4⟩ := hc
 have HLT := Lib.hid hlt
 have g24 := ha
 have g24n : ((X i).o != 24) = false := by simp only [bne, g24]; rfl
 have i0 : decide ((i : Int) < 0) = false := by simp
 have i1 : (0 : Int) ≤ (i : Int) := by omega
 have i2 : (i : Int) < (n : Int) := by omega
 have i3 : decide (n ≤ i) = false := by simp; omega
 have CR := Lib.hid (fun k w' => reg_any [114] (by simp) k w')
 have CI := Lib.hid (fun k w' => imm04_any k w')
 have e3 : (((i : Int) + 1) == (n : Int)) = true := by rw [beq_iff_eq]; omega
 clear hlt ha h3
 generalize X i = x at *
 go_enter Tryz.func17, Tryz.ntmps17
 go_wp2_with fail
 go_ret3
 exact ⟨⟨_, _, rfl⟩, (Below.refl _ w).alloc (Nat.le_refl _) _⟩
set_option maxHeartbeats 4000000 in
theorem line_out (A : Option Addr) (n c i : Nat) (X : Nat → Slot) (hn : n ≤ 4096) (hi : i < n) (w : World) (h : Slots w A n X) (ho : ((X i).o == 24) = true) (hf : ((X i).f == 0) = true) (hbad : regIn (X i).d = false ∨ (regIn (X i).d = true ∧ immIn (X i).m = false)) (h3 : i + 1 < n) :
  Calls Tryz.prog 17 #[.slice A n c, .int .i64 i] w fun e w' => (∃ t k, e = .returned (.tuple #[.string t, .int .i64 k, .int .i64 31])) ∧ Below w.heap.size w w' := by
 obtain ⟨b, off, rfl, hlt, hc⟩ := h i hi
 have HC := Lib.hid hc
 obtain ⟨c0, c1, c2, c3, c4⟩ := hc
 have HLT := Lib.hid hlt
 have g24 := ho
 have g24n : ((X i).o != 24) = false := by simp only [bne, g24]; rfl
 have i0 : decide ((i : Int) < 0) = false := by simp
 have i1 : (0 : Int) ≤ (i : Int) := by omega
 have i2 : (i : Int) < (n : Int) := by omega
 have i3 : decide (n ≤ i) = false := by simp; omega
 have CR := Lib.hid (fun k w' => reg_any [114] (by simp) k w')
 have CI := Lib.hid (fun k w' => imm04_any k w')
 have e3 : (((i : Int) + 1) == (n : Int)) = false := by simp only [beq_eq_false_iff_ne, ne_eq]; omega
 have q := reg_none [114] (X i).d
 have hfn : ((X i).f != 0) = false := by simp only [bne, hf]; rfl
 have B0 : Hid (Below w.heap.size w (w.alloc (.cells #[.int .i64 (X i).o, .int .i64 (X i).d, .int .i64 (X i).s, .int .i64 (X i).f, .int .i64 (X i).m] 38))) := (Below.refl _ w).alloc (Nat.le_refl _) _
 have S0 : Hid (CB w.heap.size (X i).o (X i).d (X i).s (X i).f (X i).m (w.alloc (.cells #[.int .i64 (X i).o, .int .i64 (X i).d, .int .i64 (X i).s, .int .i64 (X i).f, .int .i64 (X i).m] 38))) := Cells5.new w (X i) _
 clear hlt h3 ho
 generalize X i = x at *
 rcases hbad with hreg | ⟨hreg, hm⟩
 all_goals
  rw [hreg] at q
  first | rw [Bool.not_false] at q | rw [Bool.not_true] at q
  clear hreg
  go_enter Tryz.func17, Tryz.ntmps17
  go_wp2_with (first | (go_at_call 40; refine (CR.out _ _).mono ?_; rintro e w1 ⟨rfl, hb⟩; have HB1 : Hid (Below w.heap.size w w1) := B0.out.trans (hb.mono B0.out.size); have S1 := Lib.hid (S0.out.below2 hb); obtain ⟨d0, d1, d2, d3, d4⟩ := S1.out; clear hb) | (go_at_call 41; refine (CI.out _ _).mono ?_; rintro e w9 ⟨rfl, rfl⟩))
  go_ret3
  exact ⟨⟨_, _, rfl⟩, HB1.out⟩
set_option maxHeartbeats 4000000 in
/-- A line of one slot. -/
theorem line_one (A : Option Addr) (n c i : Nat) (X : Nat → Slot) (hn : n ≤ 4096) (hi : i < n) (w : World) (h : Slots w A n X) (ho : ((X i).o == 24) = false) :
  Calls Tryz.prog 17 #[.slice A n c, .int .i64 i] w fun e w' => e = (if lineL (X i).o (X i).d (X i).s (X i).f (X i).m = [] then .returned (.tuple #[.string ⟨#[]⟩, .int .i64 0, .int .i64 31]) else .returned (.tuple #[.string (tx (lineL (X i).o (X i).d (X i).s (X i).f (X i).m)), .int .i64 1, .int .i64 0])) ∧ Below w.heap.size w w' := by
 obtain ⟨b, off, rfl, hlt, hc⟩ := h i hi
 obtain ⟨c0, c1, c2, c3, c4⟩ := hc
 have g24 := ho
 have g24n : ((X i).o != 24) = true := by simp only [bne, g24]; rfl
 have i0 : decide ((i : Int) < 0) = false := by simp
 have i1 : (0 : Int) ≤ (i : Int) := by omega
 have i2 : (i : Int) < (n : Int) := by omega
 have i3 : decide (n ≤ i) = false := by simp; omega
 have B0 : Hid (Below w.heap.size w (w.alloc (.cells #[.int .i64 (X i).o, .int .i64 (X i).d, .int .i64 (X i).s, .int .i64 (X i).f, .int .i64 (X i).m] 38))) := (Below.refl _ w).alloc (Nat.le_refl _) _
 have CO := Lib.hid (fun w' => line_any (X i).o (X i).d (X i).s (X i).f (X i).m w')
 clear hlt ho
 generalize X i = x at *
 unfold insV at CO
 have ne := tx_none (lineL x.o x.d x.s x.f x.m)
 by_cases hl : lineL x.o x.d x.s x.f x.m = []
 ·rw [if_pos hl]
  rw [hl] at ne CO
  have ne : (tx []).toList.isEmpty = true := ne
  have ne2 : ((tx []).toList == []) = true := by kernel_rfl
  generalize tx [] = te at *
  go_enter Tryz.func17, Tryz.ntmps17
  go_wp2_with (go_at_call 39; refine (CO.out _).mono ?_; rintro e w1 ⟨rfl, hb⟩; have HB1 : Hid (Below w.heap.size w w1) := B0.out.trans (hb.mono B0.out.size); clear hb)
  go_ret3
  exact ⟨rfl, HB1.out⟩
 ·rw [if_neg hl]
  have hl2 : (lineL x.o x.d x.s x.f x.m).isEmpty = false := by
   cases h9 : lineL x.o x.d x.s x.f x.m with
   | nil => exact absurd h9 hl
   | cons a l => rfl
  rw [hl2] at ne
  have ne2 : ((tx (lineL x.o x.d x.s x.f x.m)).toList == []) = false := by
   cases h9 : (tx (lineL x.o x.d x.s x.f x.m)).toList with
   | nil => rw [h9] at ne; cases ne
   | cons a l => rfl
  generalize tx (lineL x.o x.d x.s x.f x.m) = te at *
  go_enter Tryz.func17, Tryz.ntmps17
  go_wp2_with (go_at_call 39; refine (CO.out _).mono ?_; rintro e w1 ⟨rfl, hb⟩; have HB1 : Hid (Below w.heap.size w w1) := B0.out.trans (hb.mono B0.out.size); clear hb)
  go_ret3
  exact ⟨rfl, HB1.out⟩
set_option maxHeartbeats 4000000 in
theorem line_num (A : Option Addr) (n c i : Nat) (X : Nat → Slot) (hn : n ≤ 4096) (hi : i < n) (w : World) (h : Slots w A n X) (ha : WideA (X i)) (h3 : i + 1 < n) (h4 : tailR (X i) (X (i + 1)) = true) (h5 : ((X i).s == 0) = true) :
  Calls Tryz.prog 17 #[.slice A n c, .int .i64 i] w fun e w' => (e = .returned (.tuple #[.string (tx (regL [114] (X i).d) ++ ⟨#[32, 61, 32]⟩ ++ tx (decL (wideN (X i).m (X (i + 1)).m).toNat) ++ ⟨#[32, 108, 108]⟩), .int .i64 2, .int .i64 0])) ∧ Below w.heap.size w w' := by
 obtain ⟨b, off, rfl, hlt, hc⟩ := h i hi
 have HC := Lib.hid hc
 obtain ⟨c0, c1, c2, c3, c4⟩ := hc
 have HLT := Lib.hid hlt
 have g24 := ha.o
 have g24n : ((X i).o != 24) = false := by simp only [bne, g24]; rfl
 have i0 : decide ((i : Int) < 0) = false := by simp
 have i1 : (0 : Int) ≤ (i : Int) := by omega
 have i2 : (i : Int) < (n : Int) := by omega
 have i3 : decide (n ≤ i) = false := by simp; omega
 have CR := Lib.hid (fun k w' => reg_any [114] (by simp) k w')
 have CI := Lib.hid (fun k w' => imm04_any k w')
 obtain ⟨b', off', e', hlt', hc'⟩ := h (i + 1) h3
 injection e' with e'
 injection e' with e1' e2' _
 subst e1' e2'
 have HC2 := Lib.hid hc'
 have e3 : (((i : Int) + 1) == (n : Int)) = false := by simp only [beq_eq_false_iff_ne, ne_eq]; omega
 have e4 : IntKind.i64.wrap ((i : Int) + 1) = (i : Int) + 1 := by rw [IntKind.wrap_i64]; omega
 have j1 : (0 : Int) ≤ (i : Int) + 1 := by omega
 have j2 : (i : Int) + 1 < (n : Int) := by omega
 have hreg : regIn (X i).d = true := ha.d
 have q := reg_none [114] (X i).d
 rw [hreg, Bool.not_true] at q
 have hf := ha.f
 have hfn : ((X i).f != 0) = false := by simp only [bne, hf]; rfl
 have hm := ha.m
 have hrs := reg_sz (X i).d
 have B0 : Hid (Below w.heap.size w (w.alloc (.cells #[.int .i64 (X i).o, .int .i64 (X i).d, .int .i64 (X i).s, .int .i64 (X i).f, .int .i64 (X i).m] 38))) := (Below.refl _ w).alloc (Nat.le_refl _) _
 have S0 : Hid (CB w.heap.size (X i).o (X i).d (X i).s (X i).f (X i).m (w.alloc (.cells #[.int .i64 (X i).o, .int .i64 (X i).d, .int .i64 (X i).s, .int .i64 (X i).f, .int .i64 (X i).m] 38))) := Cells5.new w (X i) _
 unfold tailR at h4
 simp only [Bool.and_eq_true] at h4
 obtain ⟨⟨t0, t1, t2, t3, t4⟩, _⟩ := h4
 clear hlt hlt' hc' ha h3 hreg
 generalize X i = x at *
 generalize X (i + 1) = y at *
 have n0 : (y.o != 0) = false := by simp only [bne, t0]; rfl
 have n1 : (y.d != 0) = false := by simp only [bne, t1]; rfl
 have n2 : (y.s != 0) = false := by simp only [bne, t2]; rfl
 have n3 : (y.f != 0) = false := by simp only [bne, t3]; rfl
 obtain ⟨v, hv, hv64⟩ := wideN_nat x.m y.m
 have CW := Lib.hid (rimm_any x.o x.d x.s x.f x.m y.o y.d y.s y.f y.m)
 rw [hv] at CW
 rw [show (wideN x.m y.m).toNat = v by rw [hv]; rfl]
 unfold insV at CW
 have CU := Lib.hid (udigits_any v hv64)
 obtain ⟨k1, z1⟩ := cat_ok (P := Tryz.prog) hrs (show ({ data := #[32, 61, 32] } : ByteArray).size ≤ 3 by decide) (by decide)
 obtain ⟨k2, z2⟩ := cat_ok (P := Tryz.prog) z1 (udig_sz v hv64) (by decide)
 obtain ⟨k3, z3⟩ := cat_ok (P := Tryz.prog) z2 (show ({ data := #[32, 108, 108] } : ByteArray).size ≤ 3 by decide) (by decide)
 clear z1 z2 z3 hv hv64
 go_enter Tryz.func17, Tryz.ntmps17
 go_wp2_with (first | (go_at_call 40; refine (CR.out _ _).mono ?_; rintro e w1 ⟨rfl, hb⟩; have HB1 : Hid (Below w.heap.size w w1) := B0.out.trans (hb.mono B0.out.size); have S1 := Lib.hid (S0.out.below2 hb); obtain ⟨d0, d1, d2, d3, d4⟩ := S1.out; obtain ⟨y0, y1, y2, y3, y4⟩ := HC2.out.below HB1.out HLT.out; have T2 := Lib.hid (two_new w1 w.heap.size x y S1.out); have HB2 : Hid (Below w.heap.size w (w1.alloc (.cells #[.int .i64 y.o, .int .i64 y.d, .int .i64 y.s, .int .i64 y.f, .int .i64 y.m] 38))) := HB1.out.alloc HB1.out.size _; obtain ⟨⟨p0, p1, p2, p3, p4⟩, r0, r1, r2, r3, r4⟩ := T2.out; clear hb) | (go_at_call 41; refine (CI.out _ _).mono ?_; rintro e w9 ⟨rfl, rfl⟩))
 go_region_held3 (fun W => W.cell? ⟨w.heap.size, 0, none⟩ = some (.int .i64 x.o) ∧ W.cell? ⟨w.heap.size, 1, none⟩ = some (.int .i64 x.d) ∧ W.cell? ⟨w.heap.size, 2, none⟩ = some (.int .i64 x.s) ∧ W.cell? ⟨w.heap.size, 3, none⟩ = some (.int .i64 x.f) ∧ W.cell? ⟨w.heap.size, 4, none⟩ = some (.int .i64 x.m) ∧ W.cell? ⟨w1.heap.size, 0, none⟩ = some (.int .i64 y.o) ∧ W.cell? ⟨w1.heap.size, 1, none⟩ = some (.int .i64 y.d) ∧ W.cell? ⟨w1.heap.size, 2, none⟩ = some (.int .i64 y.s) ∧ W.cell? ⟨w1.heap.size, 3, none⟩ = some (.int .i64 y.f) ∧ W.cell? ⟨w1.heap.size, 4, none⟩ = some (.int .i64 y.m)) (first | exact flat T5.out | exact flat T4.out | exact flat T3.out | exact flat T2.out) ((first | (go_at_call 40; refine (CR.out _ _).mono ?_; rintro e w3 ⟨rfl, hb⟩; (try have hb := Below.undrew hb); have HB3 : Hid (Below w.heap.size w w3) := HB2.out.trans (hb.mono HB2.out.size); have T3 := Lib.hid (T2.out.below hb); clear hb) | (go_at_call 43; refine (CW.out _).mono ?_; rintro e w4 ⟨rfl, hb⟩; (try have hb := Below.undrew hb); have HB4 : Hid (Below w.heap.size w w4) := HB3.out.trans (hb.mono HB3.out.size); have T4 := Lib.hid (T3.out.below hb); clear hb) | (go_at_call 42; refine (CU.out _).mono ?_; rintro e w5 ⟨rfl, hb⟩; (try have hb := Below.undrew hb); have HB5 : Hid (Below w.heap.size w w5) := HB4.out.trans (hb.mono HB4.out.size); have T5 := Lib.hid (T4.out.below hb); clear hb)))
 all_goals go_wp2_with fail
 all_goals go_ret3
 all_goals exact ⟨rfl, HB5.out⟩
set_option maxHeartbeats 4000000 in
theorem line_map (A : Option Addr) (n c i : Nat) (X : Nat → Slot) (hn : n ≤ 4096) (hi : i < n) (w : World) (h : Slots w A n X) (ha : WideA (X i)) (h3 : i + 1 < n) (h4 : tailR (X i) (X (i + 1)) = true) (h5 : ((X i).s == 0) = false) (h6 : ((X i).s == 1) = true) :
  Calls Tryz.prog 17 #[.slice A n c, .int .i64 i] w fun e w' => (e = .returned (.tuple #[.string (tx (regL [114] (X i).d) ++ ⟨#[32, 61, 32, 109, 97, 112, 32]⟩ ++ tx (digL (X i).m) ++ ⟨#[32, 108, 108]⟩), .int .i64 2, .int .i64 0])) ∧ Below w.heap.size w w' := by
 obtain ⟨b, off, rfl, hlt, hc⟩ := h i hi
 have HC := Lib.hid hc
 obtain ⟨c0, c1, c2, c3, c4⟩ := hc
 have HLT := Lib.hid hlt
 have g24 := ha.o
 have g24n : ((X i).o != 24) = false := by simp only [bne, g24]; rfl
 have i0 : decide ((i : Int) < 0) = false := by simp
 have i1 : (0 : Int) ≤ (i : Int) := by omega
 have i2 : (i : Int) < (n : Int) := by omega
 have i3 : decide (n ≤ i) = false := by simp; omega
 have CR := Lib.hid (fun k w' => reg_any [114] (by simp) k w')
 have CI := Lib.hid (fun k w' => imm04_any k w')
 obtain ⟨b', off', e', hlt', hc'⟩ := h (i + 1) h3
 injection e' with e'
 injection e' with e1' e2' _
 subst e1' e2'
 have HC2 := Lib.hid hc'
 have e3 : (((i : Int) + 1) == (n : Int)) = false := by simp only [beq_eq_false_iff_ne, ne_eq]; omega
 have e4 : IntKind.i64.wrap ((i : Int) + 1) = (i : Int) + 1 := by rw [IntKind.wrap_i64]; omega
 have j1 : (0 : Int) ≤ (i : Int) + 1 := by omega
 have j2 : (i : Int) + 1 < (n : Int) := by omega
 have hreg : regIn (X i).d = true := ha.d
 have q := reg_none [114] (X i).d
 rw [hreg, Bool.not_true] at q
 have hf := ha.f
 have hfn : ((X i).f != 0) = false := by simp only [bne, hf]; rfl
 have hm := ha.m
 have hrs := reg_sz (X i).d
 have B0 : Hid (Below w.heap.size w (w.alloc (.cells #[.int .i64 (X i).o, .int .i64 (X i).d, .int .i64 (X i).s, .int .i64 (X i).f, .int .i64 (X i).m] 38))) := (Below.refl _ w).alloc (Nat.le_refl _) _
 have S0 : Hid (CB w.heap.size (X i).o (X i).d (X i).s (X i).f (X i).m (w.alloc (.cells #[.int .i64 (X i).o, .int .i64 (X i).d, .int .i64 (X i).s, .int .i64 (X i).f, .int .i64 (X i).m] 38))) := Cells5.new w (X i) _
 unfold tailR at h4
 rw [h5, h6] at h4
 simp only [Bool.and_eq_true, Bool.false_or, Bool.true_and] at h4
 obtain ⟨⟨t0, t1, t2, t3, t4⟩, t5⟩ := h4
 clear hlt hlt' hc' ha h3 hreg
 generalize X i = x at *
 generalize X (i + 1) = y at *
 have n0 : (y.o != 0) = false := by simp only [bne, t0]; rfl
 have n1 : (y.d != 0) = false := by simp only [bne, t1]; rfl
 have n2 : (y.s != 0) = false := by simp only [bne, t2]; rfl
 have n3 : (y.f != 0) = false := by simp only [bne, t3]; rfl
 have CD := Lib.hid (digits_any x.m (imm_b hm))
 obtain ⟨k1, z1⟩ := cat_ok (P := Tryz.prog) hrs (show ({ data := #[32, 61, 32, 109, 97, 112, 32] } : ByteArray).size ≤ 7 by decide) (by decide)
 obtain ⟨k2, z2⟩ := cat_ok (P := Tryz.prog) z1 (imm_sz x.m hm) (by decide)
 obtain ⟨k3, z3⟩ := cat_ok (P := Tryz.prog) z2 (show ({ data := #[32, 108, 108] } : ByteArray).size ≤ 3 by decide) (by decide)
 clear z1 z2 z3
 go_enter Tryz.func17, Tryz.ntmps17
 go_wp2_with (first | (go_at_call 40; refine (CR.out _ _).mono ?_; rintro e w1 ⟨rfl, hb⟩; have HB1 : Hid (Below w.heap.size w w1) := B0.out.trans (hb.mono B0.out.size); have S1 := Lib.hid (S0.out.below2 hb); obtain ⟨d0, d1, d2, d3, d4⟩ := S1.out; obtain ⟨y0, y1, y2, y3, y4⟩ := HC2.out.below HB1.out HLT.out; have T2 := Lib.hid (two_new w1 w.heap.size x y S1.out); have HB2 : Hid (Below w.heap.size w (w1.alloc (.cells #[.int .i64 y.o, .int .i64 y.d, .int .i64 y.s, .int .i64 y.f, .int .i64 y.m] 38))) := HB1.out.alloc HB1.out.size _; obtain ⟨⟨p0, p1, p2, p3, p4⟩, r0, r1, r2, r3, r4⟩ := T2.out; clear hb) | (go_at_call 41; refine (CI.out _ _).mono ?_; rintro e w9 ⟨rfl, rfl⟩))
 go_region_held3 (fun W => W.cell? ⟨w.heap.size, 0, none⟩ = some (.int .i64 x.o) ∧ W.cell? ⟨w.heap.size, 1, none⟩ = some (.int .i64 x.d) ∧ W.cell? ⟨w.heap.size, 2, none⟩ = some (.int .i64 x.s) ∧ W.cell? ⟨w.heap.size, 3, none⟩ = some (.int .i64 x.f) ∧ W.cell? ⟨w.heap.size, 4, none⟩ = some (.int .i64 x.m) ∧ W.cell? ⟨w1.heap.size, 0, none⟩ = some (.int .i64 y.o) ∧ W.cell? ⟨w1.heap.size, 1, none⟩ = some (.int .i64 y.d) ∧ W.cell? ⟨w1.heap.size, 2, none⟩ = some (.int .i64 y.s) ∧ W.cell? ⟨w1.heap.size, 3, none⟩ = some (.int .i64 y.f) ∧ W.cell? ⟨w1.heap.size, 4, none⟩ = some (.int .i64 y.m)) (first | exact flat T5.out | exact flat T4.out | exact flat T3.out | exact flat T2.out) ((first | (go_at_call 40; refine (CR.out _ _).mono ?_; rintro e w3 ⟨rfl, hb⟩; (try have hb := Below.undrew hb); have HB3 : Hid (Below w.heap.size w w3) := HB2.out.trans (hb.mono HB2.out.size); have T3 := Lib.hid (T2.out.below hb); clear hb) | (go_at_call 44; refine (CD.out _).mono ?_; rintro e w4 ⟨rfl, hb⟩; (try have hb := Below.undrew hb); have HB4 : Hid (Below w.heap.size w w4) := HB3.out.trans (hb.mono HB3.out.size); have T4 := Lib.hid (T3.out.below hb); clear hb)))
 all_goals go_wp2_with fail
 all_goals go_ret3
 all_goals exact ⟨rfl, HB4.out⟩
end Go.Proofs.YtemiklbkfogjeaaGreatDoor.Ln
namespace Go.Proofs.YtemiklbkfogjeaaGreatDoor
open Go Go.RowKit Go.Maps
set_option linter.unusedVariables false
set_option linter.unusedSimpArgs false
set_option maxRecDepth 100000
/-- The text that the reference has of slots that it guessed. -/
def refT : List Slot → Option ByteArray
 | [x] => if x.o = 24 then none else if Ln.lineL x.o x.d x.s x.f x.m = [] then none else some (tx (Ln.lineL x.o x.d x.s x.f x.m))
 | [x, y] => if Ln.regIn x.d = true ∧ Ln.immIn x.m = true then some (if x.s = 0 then tx (Ln.regL [114] x.d) ++ ⟨#[32, 61, 32]⟩ ++ tx (decL (Ln.wideN x.m y.m).toNat) ++ ⟨#[32, 108, 108]⟩ else tx (Ln.regL [114] x.d) ++ ⟨#[32, 61, 32, 109, 97, 112, 32]⟩ ++ tx (Ln.digL x.m) ++ ⟨#[32, 108, 108]⟩) else none
 | _ => none
/-- What two slots that are guessed are. -/
structure TwoG (x y : Slot) : Prop where
 o : x.o = 24
 f : x.f = 0
 yo : y.o = 0
 yd : y.d = 0
 ys : y.s = 0
 yf : y.f = 0
 ym : Ln.immIn y.m = true
 s : x.s = 0 ∨ (x.s = 1 ∧ y.m = 0)
theorem hi_in (u : Nat) : Ln.immIn (hi32 u) = true := by
 unfold Ln.immIn hi32
 simp only [Bool.and_eq_true, decide_eq_true_eq]
 omega
theorem other_one (L : List ByteArray) : ∃ x, otherG L = [x] := by
 unfold otherG
 split
 ·split
  ·exact ⟨_, rfl⟩
  ·split
   ·exact ⟨_, rfl⟩
   ·split <;> exact ⟨_, rfl⟩
 ·exact ⟨_, rfl⟩
theorem guess_shape (s : ByteArray) (L : List ByteArray) : (∃ x, guessG s L = [x]) ∨ ∃ x y, guessG s L = [x, y] ∧ TwoG x y := by
 unfold guessG
 split
 ·exact .inl ⟨_, rfl⟩
 split
 ·exact .inl ⟨_, rfl⟩
 split
 ·exact .inl ⟨_, rfl⟩
 split
 ·exact .inl ⟨_, rfl⟩
 split
 ·exact .inl ⟨_, rfl⟩
 split
 ·exact .inl ⟨_, rfl⟩
 split
 ·exact .inr ⟨_, _, rfl, rfl, rfl, rfl, rfl, rfl, rfl, hi_in _, .inl rfl⟩
 split
 ·exact .inr ⟨_, _, rfl, rfl, rfl, rfl, rfl, rfl, rfl, rfl, .inr ⟨rfl, rfl⟩⟩
 split
 ·exact .inl ⟨_, rfl⟩
 ·exact .inl (other_one L)
def nthZ (X : List Slot) (i : Nat) : Slot := X.getD i zeroS
theorem slots1_04 {W : World} {g : Nat} {x : Slot} (h : Blk W g isT' ([x].flatMap Slot.cells).toArray) : Slots W (some ⟨g, 0, none⟩) 1 (nthZ [x]) := by
 intro i hi
 obtain rfl : i = 0 := by omega
 exact ⟨g, 0, rfl, h.lt, h.cell 0, h.cell 1, h.cell 2, h.cell 3, h.cell 4⟩
theorem slots2_04 {W : World} {g : Nat} {x y : Slot} (h : Blk W g isT' ([x, y].flatMap Slot.cells).toArray) : Slots W (some ⟨g, 0, none⟩) 2 (nthZ [x, y]) := by
 intro i hi
 have : i = 0 ∨ i = 1 := by omega
 rcases this with rfl | rfl
 ·exact ⟨g, 0, rfl, h.lt, h.cell 0, h.cell 1, h.cell 2, h.cell 3, h.cell 4⟩
 ·exact ⟨g, 0, rfl, h.lt, h.cell 5, h.cell 6, h.cell 7, h.cell 8, h.cell 9⟩
/-- What Line answers of slots that were guessed. -/
def LineP (X : List Slot) (e : Ending) : Prop := match refT X with
 | some u => e = .returned (.tuple #[.string u, .int .i64 (X.length : Int), .int .i64 0])
 | none => ∃ t k, e = .returned (.tuple #[.string t, .int .i64 k, .int .i64 31])
theorem lineP_none {X : List Slot} {e : Ending} (h : refT X = none) (he : ∃ t k, e = .returned (.tuple #[.string t, .int .i64 k, .int .i64 31])) : LineP X e := by
 unfold LineP
 rw [h]; exact he
theorem lineP_some {X : List Slot} {e : Ending} {u : ByteArray} (h : refT X = some u) (he : e = .returned (.tuple #[.string u, .int .i64 (X.length : Int), .int .i64 0])) : LineP X e := by
 unfold LineP
 rw [h]; exact he
theorem line_of (X : List Slot) (h : (∃ x, X = [x]) ∨ ∃ x y, X = [x, y] ∧ TwoG x y) (g : Nat) (W : World) (hk : Blk W g isT' (X.flatMap Slot.cells).toArray) :
  Calls Tryz.prog 17 #[.slice (some ⟨g, 0, none⟩) X.length X.length, .int .i64 0] W fun e w' => LineP X e ∧ Below W.heap.size W w' := by
 rcases h with ⟨x, rfl⟩ | ⟨x, y, rfl, ht⟩
 ·have hs := slots1_04 hk
  by_cases ho : x.o = 24
  ·have hr : refT [x] = none := if_pos ho
   by_cases hh : True
   ·have c := Ln.line_last' (some ⟨g, 0, none⟩) 1 1 0 (nthZ [x]) (by decide) (by decide) W hs (by show (x.o == 24) = true; simp [ho]) rfl
    exact c.mono fun e w' q => ⟨lineP_none hr q.1, q.2⟩
   ·exact absurd trivial hh
  ·have c := Ln.line_one (some ⟨g, 0, none⟩) 1 1 0 (nthZ [x]) (by decide) (by decide) W hs (by show (x.o == 24) = false; simp [ho])
   refine c.mono fun e w' q => ⟨?_, q.2⟩
   have q1 : e = (if Ln.lineL x.o x.d x.s x.f x.m = [] then .returned (.tuple #[.string ⟨#[]⟩, .int .i64 0, .int .i64 31]) else .returned (.tuple #[.string (tx (Ln.lineL x.o x.d x.s x.f x.m)), .int .i64 1, .int .i64 0])) := q.1
   by_cases hl : Ln.lineL x.o x.d x.s x.f x.m = []
   ·rw [if_pos hl] at q1
    exact lineP_none (show refT [x] = none by show (if _ then _ else _) = _; rw [if_neg ho, if_pos hl]) ⟨_, _, q1⟩
   ·rw [if_neg hl] at q1
    exact lineP_some (show refT [x] = some _ by show (if _ then _ else _) = _; rw [if_neg ho, if_neg hl]) q1
 ·have hs := slots2_04 hk
  have ho : ((nthZ [x, y] 0).o == 24) = true := by show (x.o == 24) = true; simp [ht.o]
  have hf : ((nthZ [x, y] 0).f == 0) = true := by show (x.f == 0) = true; simp [ht.f]
  by_cases hc : Ln.regIn x.d = true ∧ Ln.immIn x.m = true
  ·have hw : Ln.WideA (nthZ [x, y] 0) := ⟨ho, hc.1, hf, hc.2⟩
   have htl : Ln.tailR (nthZ [x, y] 0) (nthZ [x, y] (0 + 1)) = true := by
    show Ln.tailR x y = true
    unfold Ln.tailR
    rw [ht.ym]
    rcases ht.s with h1 | ⟨h1, h2⟩
    ·simp [ht.yo, ht.yd, ht.ys, ht.yf, h1]
    ·simp [ht.yo, ht.yd, ht.ys, ht.yf, h1, h2]
   rcases ht.s with h1 | ⟨h1, h2⟩
   ·have c := Ln.line_num (some ⟨g, 0, none⟩) 2 2 0 (nthZ [x, y]) (by decide) (by decide) W hs hw (by decide) htl (by show (x.s == 0) = true; simp [h1])
    exact c.mono fun e w' q => ⟨lineP_some (show refT [x, y] = some _ by show (if _ then _ else _) = _; rw [if_pos hc, if_pos h1]; rfl) q.1, q.2⟩
   ·have c := Ln.line_map (some ⟨g, 0, none⟩) 2 2 0 (nthZ [x, y]) (by decide) (by decide) W hs hw (by decide) htl (by show (x.s == 0) = false; simp [h1]) (by show (x.s == 1) = true; simp [h1])
    exact c.mono fun e w' q => ⟨lineP_some (show refT [x, y] = some _ by show (if _ then _ else _) = _; rw [if_pos hc, if_neg (by omega)]; rfl) q.1, q.2⟩
  ·have hbad : Ln.regIn (nthZ [x, y] 0).d = false ∨ (Ln.regIn (nthZ [x, y] 0).d = true ∧ Ln.immIn (nthZ [x, y] 0).m = false) := by
    show Ln.regIn x.d = false ∨ (Ln.regIn x.d = true ∧ Ln.immIn x.m = false)
    by_cases h1 : Ln.regIn x.d = true
    ·exact .inr ⟨h1, Bool.eq_false_iff.2 fun h2 => hc ⟨h1, h2⟩⟩
    ·exact .inl (Bool.eq_false_iff.2 h1)
   have c := Ln.line_out (some ⟨g, 0, none⟩) 2 2 0 (nthZ [x, y]) (by decide) (by decide) W hs ho hf hbad (by decide)
   exact c.mono fun e w' q => ⟨lineP_none (show refT [x, y] = none from if_neg hc) q.1, q.2⟩
/-- A line's slots, and whether it is one. -/
def refLine (t : ByteArray) : Bool := decide (refT (guessG t (wordsR t)) = some t)
set_option maxHeartbeats 2000000 in
theorem line04_any (t : ByteArray) (hz : t.size ≤ 1048576) (w : World) :
  Calls Tryz.prog 11 #[.string t] w fun e w' => ∃ g, e = .returned (.tuple #[.slice (some ⟨g, 0, none⟩) (guessG t (wordsR t)).length (guessG t (wordsR t)).length, .bool (refLine t)]) ∧ Below w.heap.size w w' ∧ Blk w' g isT' ((guessG t (wordsR t)).flatMap Slot.cells).toArray := by
 have CG := guess04_any t hz w
 have hsh := guess_shape t (wordsR t)
 unfold GIs at CG
 unfold refLine
 generalize guessG t (wordsR t) = X at *
 have CL := Lib.hid (line_of X hsh)
 have CG := Lib.hid CG
 clear hsh
 cases hr : refT X with
 | none =>
  have HL : Hid (∀ e, LineP X e → ∃ t k, e = .returned (.tuple #[.string t, .int .i64 k, .int .i64 31])) := fun e h => by
   unfold LineP at h
   rw [hr] at h; exact h
  have HF : Hid (decide ((none : Option ByteArray) = some t) = false) := decide_eq_false (by simp)
  rw [HF.out]
  generalize (X.flatMap Slot.cells).toArray = cs at *
  generalize X.length = n at *
  clear hr
  go_enter Tryz.func11, Tryz.ntmps11
  go_wp2_with (first
   | (go_at_call 16; refine CG.out.mono ?_; rintro e w1 ⟨g, rfl, hb, hk⟩; have B1 := Lib.hid hb; have K1 := Lib.hid hk; clear hb hk)
   | (go_at_call 17; refine (CL.out _ _ K1.out).mono ?_; rintro e w2 ⟨hp, hb⟩; obtain ⟨u, k, rfl⟩ := HL.out _ hp; have B2 := Lib.hid (below_on' B1.out hb); have K2 := Lib.hid (blk_on' K1.out hb); clear hb hp))
  go_ret2
  exact ⟨g, rfl, B2.out, K2.out⟩
 | some u =>
  have HL : Hid (∀ e, LineP X e → e = .returned (.tuple #[.string u, .int .i64 (X.length : Int), .int .i64 0])) := fun e h => by
   unfold LineP at h
   rw [hr] at h; exact h
  have HF : Hid (decide (some u = some t) = (u.toList == t.toList)) := by
   unfold Hid
   rw [tx_beq]
   simp
  rw [HF.out]
  generalize (X.flatMap Slot.cells).toArray = cs at *
  generalize X.length = n at *
  clear hr
  go_enter Tryz.func11, Tryz.ntmps11
  go_wp2_with (first
   | (go_at_call 16; refine CG.out.mono ?_; rintro e w1 ⟨g, rfl, hb, hk⟩; have B1 := Lib.hid hb; have K1 := Lib.hid hk; clear hb hk)
   | (go_at_call 17; refine (CL.out _ _ K1.out).mono ?_; rintro e w2 ⟨hp, hb⟩; obtain rfl := HL.out _ hp; have B2 := Lib.hid (below_on' B1.out hb); have K2 := Lib.hid (blk_on' K1.out hb); clear hb hp))
  go_ret2
  exact ⟨g, rfl, B2.out, K2.out⟩
end Go.Proofs.YtemiklbkfogjeaaGreatDoor
