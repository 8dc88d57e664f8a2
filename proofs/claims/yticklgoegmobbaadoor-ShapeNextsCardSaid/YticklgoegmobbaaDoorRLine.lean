/-
  The reference's line of a wide instruction: whether there is one.
-/
import Derived.Test.YticklgoegmobbaaDoorRMoves
import Derived.Test.YticklgoegmobbaaDoorSFirsts2
namespace Go.Proofs.YticklgoegmobbaaDoor
open Go Go.RowKit
set_option linter.unusedVariables false
set_option maxRecDepth 100000
/-- A wide instruction's number. -/
def wideN (m m' : Int) : Int := m % 4294967296 + m' % 4294967296 * 4294967296
theorem ret_u64 {a b : Int} (h : a = b) : Ending.returned (.int .u64 a) = .returned (.int .u64 b) := by rw [h]
theorem rimm_any (o d s f m o' d' s' f' m' : Int) (w : World) :
    Calls Tryd.prog 51 #[insV o d s f m, insV o' d' s' f' m'] w fun e w' => e = .returned (.int .u64 (wideN m m')) ∧ Below w.heap.size w w' := by
  have em : IntKind.u64.wrap (bits .and .u64 (IntKind.u64.wrap m) 4294967295 + IntKind.u64.wrap (IntKind.u64.wrap m' * 4294967296)) = wideN m m' := by
    unfold wideN
    simp only [IntKind.wrap_u64]
    rw [and_u64_low _ (by omega) (by omega)]
    omega
  have HEM := Lib.hid em
  clear em
  unfold insV
  go_enter Tryd.func51, Tryd.ntmps51
  go_wp2_with fail
  go_ret
  exact ⟨ret_u64 HEM.out, ((Below.refl _ w).alloc (Nat.le_refl _) _).alloc (by simp) _⟩
/-- The second slot of a wide instruction, as the reference has it. -/
def tailR (x y : Slot) : Bool := ((y.o == 0) && ((y.d == 0) && ((y.s == 0) && ((y.f == 0) && immIn y.m)))) && ((x.s == 0) || ((x.s == 1) && (y.m == 0)))
def Two (b b' : Nat) (x y : Slot) (W : World) : Prop := CB b x.o x.d x.s x.f x.m W ∧ CB b' y.o y.d y.s y.f y.m W
theorem Two.below {W W' : World} {b b' : Nat} {x y : Slot} (h : Two b b' x y W) (hb : Below W.heap.size W W') : Two b b' x y W' := ⟨h.1.below2 hb, h.2.below2 hb⟩
theorem two_new (w1 : World) (b : Nat) (x y : Slot) (h : CB b x.o x.d x.s x.f x.m w1) : Two b w1.heap.size x y (w1.alloc (.cells #[.int .i64 y.o, .int .i64 y.d, .int .i64 y.s, .int .i64 y.f, .int .i64 y.m] 39)) :=
  ⟨h.below2 ((Below.refl _ w1).alloc (Nat.le_refl _) _), Cells5.new w1 y _⟩
theorem flat {W : World} {b b' : Nat} {x y : Slot} (h : Two b b' x y W) : W.cell? ⟨b, 0, none⟩ = some (.int .i64 x.o) ∧ W.cell? ⟨b, 1, none⟩ = some (.int .i64 x.d) ∧ W.cell? ⟨b, 2, none⟩ = some (.int .i64 x.s) ∧ W.cell? ⟨b, 3, none⟩ = some (.int .i64 x.f) ∧ W.cell? ⟨b, 4, none⟩ = some (.int .i64 x.m) ∧ W.cell? ⟨b', 0, none⟩ = some (.int .i64 y.o) ∧ W.cell? ⟨b', 1, none⟩ = some (.int .i64 y.d) ∧ W.cell? ⟨b', 2, none⟩ = some (.int .i64 y.s) ∧ W.cell? ⟨b', 3, none⟩ = some (.int .i64 y.f) ∧ W.cell? ⟨b', 4, none⟩ = some (.int .i64 y.m) := ⟨h.1.1, h.1.2.1, h.1.2.2.1, h.1.2.2.2.1, h.1.2.2.2.2, h.2⟩
/-- What Line is asked of a wide instruction that may begin here. -/
structure WideA (x : Slot) : Prop where
  o : (x.o == 24) = true
  d : 0 ≤ x.d ∧ x.d ≤ 9
  f : (x.f == 0) = true
  s : (x.s == 0) = true ∨ ((x.s == 0) = false ∧ (x.s == 1) = true)
  m : immIn x.m = true
theorem udig_sz (n : Nat) (h : n < 18446744073709551616) : (tx (decL n)).size ≤ 20 := by
  rw [tx_size]
  exact decL_len 19 n (by show n < 100000000000000000000; omega)
theorem wideN_nat (m m' : Int) : ∃ n : Nat, wideN m m' = (n : Int) ∧ n < 18446744073709551616 := by
  unfold wideN
  exact ⟨(m % 4294967296 + m' % 4294967296 * 4294967296).toNat, by omega, by omega⟩
set_option maxHeartbeats 4000000 in
theorem line_last (A : Option Addr) (n c i : Nat) (X : Nat → Slot) (hn : n ≤ 4096) (hi : i < n) (w : World) (h : Slots w A n X) (ha : WideA (X i)) (h3 : i + 1 = n) :
    Calls Tryd.prog 38 #[.slice A n c, .int .i64 i] w fun e w' => (∃ t k, e = .returned (.tuple #[.string t, .int .i64 k, .int .i64 31])) ∧ Below w.heap.size w w' := by
  obtain ⟨b, off, rfl, hlt, hc⟩ := h i hi
  have HC := Lib.hid hc
  obtain ⟨c0, c1, c2, c3, c4⟩ := hc
  have HLT := Lib.hid hlt
  have g24 := ha.o
  have g24n : ((X i).o != 24) = false := by simp only [bne, g24]; rfl
  have i0 : decide ((i : Int) < 0) = false := by simp
  have i1 : (0 : Int) ≤ (i : Int) := by omega
  have i2 : (i : Int) < (n : Int) := by omega
  have i3 : decide (n ≤ i) = false := by simp; omega
  have CR := Lib.hid (fun k w' => reg_any [114] (by simp) k w')
  have CI := Lib.hid (fun k w' => imm04_any k w')
  have e3 : (((i : Int) + 1) == (n : Int)) = true := by rw [beq_iff_eq]; omega
  clear hlt ha h3
  generalize X i = x at *
  go_enter Tryd.func38, Tryd.ntmps38
  go_wp2_with fail
  go_ret3
  exact ⟨⟨_, _, rfl⟩, (Below.refl _ w).alloc (Nat.le_refl _) _⟩
set_option maxHeartbeats 4000000 in
theorem line_bad (A : Option Addr) (n c i : Nat) (X : Nat → Slot) (hn : n ≤ 4096) (hi : i < n) (w : World) (h : Slots w A n X) (ha : WideA (X i)) (h3 : i + 1 < n) (h4 : tailR (X i) (X (i + 1)) = false) :
    Calls Tryd.prog 38 #[.slice A n c, .int .i64 i] w fun e w' => (∃ t k, e = .returned (.tuple #[.string t, .int .i64 k, .int .i64 31])) ∧ Below w.heap.size w w' := by
  obtain ⟨b, off, rfl, hlt, hc⟩ := h i hi
  have HC := Lib.hid hc
  obtain ⟨c0, c1, c2, c3, c4⟩ := hc
  have HLT := Lib.hid hlt
  have g24 := ha.o
  have g24n : ((X i).o != 24) = false := by simp only [bne, g24]; rfl
  have i0 : decide ((i : Int) < 0) = false := by simp
  have i1 : (0 : Int) ≤ (i : Int) := by omega
  have i2 : (i : Int) < (n : Int) := by omega
  have i3 : decide (n ≤ i) = false := by simp; omega
  have CR := Lib.hid (fun k w' => reg_any [114] (by simp) k w')
  have CI := Lib.hid (fun k w' => imm04_any k w')
  obtain ⟨b', off', e', hlt', hc'⟩ := h (i + 1) h3
  injection e' with e'
  injection e' with e1' e2' _
  subst e1' e2'
  have HC2 := Lib.hid hc'
  have e3 : (((i : Int) + 1) == (n : Int)) = false := by simp only [beq_eq_false_iff_ne, ne_eq]; omega
  have e4 : IntKind.i64.wrap ((i : Int) + 1) = (i : Int) + 1 := by rw [IntKind.wrap_i64]; omega
  have j1 : (0 : Int) ≤ (i : Int) + 1 := by omega
  have j2 : (i : Int) + 1 < (n : Int) := by omega
  have hreg : regIn (X i).d = true := by unfold regIn; have := ha.d; simp; omega
  have q := reg_none [114] (X i).d
  rw [hreg, Bool.not_true] at q
  have hf := ha.f
  have hfn : ((X i).f != 0) = false := by simp only [bne, hf]; rfl
  have hm := ha.m
  have hrs := reg_sz (X i).d
  have B0 : Hid (Below w.heap.size w (w.alloc (.cells #[.int .i64 (X i).o, .int .i64 (X i).d, .int .i64 (X i).s, .int .i64 (X i).f, .int .i64 (X i).m] 39))) := (Below.refl _ w).alloc (Nat.le_refl _) _
  have S0 : Hid (CB w.heap.size (X i).o (X i).d (X i).s (X i).f (X i).m (w.alloc (.cells #[.int .i64 (X i).o, .int .i64 (X i).d, .int .i64 (X i).s, .int .i64 (X i).f, .int .i64 (X i).m] 39))) := Cells5.new w (X i) _
  unfold tailR at h4
  have hs := ha.s
  clear hlt hlt' hc' ha h3 hreg
  generalize X i = x at *
  generalize X (i + 1) = y at *
  cases t0 : (y.o == 0)
  · have n0 : (y.o != 0) = true := by simp only [bne, t0]; rfl
    go_enter Tryd.func38, Tryd.ntmps38
    go_wp2_with (first | (go_at_call 48; refine (CR.out _ _).mono ?_; rintro e w1 ⟨rfl, hb⟩; have HB1 : Hid (Below w.heap.size w w1) := B0.out.trans (hb.mono B0.out.size); have S1 := Lib.hid (S0.out.below2 hb); obtain ⟨d0, d1, d2, d3, d4⟩ := S1.out; obtain ⟨y0, y1, y2, y3, y4⟩ := HC2.out.below HB1.out HLT.out; have T2 := Lib.hid (two_new w1 w.heap.size x y S1.out); have HB2 : Hid (Below w.heap.size w (w1.alloc (.cells #[.int .i64 y.o, .int .i64 y.d, .int .i64 y.s, .int .i64 y.f, .int .i64 y.m] 39))) := HB1.out.alloc HB1.out.size _; obtain ⟨⟨p0, p1, p2, p3, p4⟩, r0, r1, r2, r3, r4⟩ := T2.out; clear hb) | (go_at_call 49; refine (CI.out _ _).mono ?_; rintro e w9 ⟨rfl, rfl⟩))
    go_ret3
    exact ⟨⟨_, _, rfl⟩, HB2.out⟩
  · have n0 : (y.o != 0) = false := by simp only [bne, t0]; rfl
    cases t1 : (y.d == 0)
    · have n1 : (y.d != 0) = true := by simp only [bne, t1]; rfl
      go_enter Tryd.func38, Tryd.ntmps38
      go_wp2_with (first | (go_at_call 48; refine (CR.out _ _).mono ?_; rintro e w1 ⟨rfl, hb⟩; have HB1 : Hid (Below w.heap.size w w1) := B0.out.trans (hb.mono B0.out.size); have S1 := Lib.hid (S0.out.below2 hb); obtain ⟨d0, d1, d2, d3, d4⟩ := S1.out; obtain ⟨y0, y1, y2, y3, y4⟩ := HC2.out.below HB1.out HLT.out; have T2 := Lib.hid (two_new w1 w.heap.size x y S1.out); have HB2 : Hid (Below w.heap.size w (w1.alloc (.cells #[.int .i64 y.o, .int .i64 y.d, .int .i64 y.s, .int .i64 y.f, .int .i64 y.m] 39))) := HB1.out.alloc HB1.out.size _; obtain ⟨⟨p0, p1, p2, p3, p4⟩, r0, r1, r2, r3, r4⟩ := T2.out; clear hb) | (go_at_call 49; refine (CI.out _ _).mono ?_; rintro e w9 ⟨rfl, rfl⟩))
      go_ret3
      exact ⟨⟨_, _, rfl⟩, HB2.out⟩
    · have n1 : (y.d != 0) = false := by simp only [bne, t1]; rfl
      cases t2 : (y.s == 0)
      · have n2 : (y.s != 0) = true := by simp only [bne, t2]; rfl
        go_enter Tryd.func38, Tryd.ntmps38
        go_wp2_with (first | (go_at_call 48; refine (CR.out _ _).mono ?_; rintro e w1 ⟨rfl, hb⟩; have HB1 : Hid (Below w.heap.size w w1) := B0.out.trans (hb.mono B0.out.size); have S1 := Lib.hid (S0.out.below2 hb); obtain ⟨d0, d1, d2, d3, d4⟩ := S1.out; obtain ⟨y0, y1, y2, y3, y4⟩ := HC2.out.below HB1.out HLT.out; have T2 := Lib.hid (two_new w1 w.heap.size x y S1.out); have HB2 : Hid (Below w.heap.size w (w1.alloc (.cells #[.int .i64 y.o, .int .i64 y.d, .int .i64 y.s, .int .i64 y.f, .int .i64 y.m] 39))) := HB1.out.alloc HB1.out.size _; obtain ⟨⟨p0, p1, p2, p3, p4⟩, r0, r1, r2, r3, r4⟩ := T2.out; clear hb) | (go_at_call 49; refine (CI.out _ _).mono ?_; rintro e w9 ⟨rfl, rfl⟩))
        go_ret3
        exact ⟨⟨_, _, rfl⟩, HB2.out⟩
      · have n2 : (y.s != 0) = false := by simp only [bne, t2]; rfl
        cases t3 : (y.f == 0)
        · have n3 : (y.f != 0) = true := by simp only [bne, t3]; rfl
          go_enter Tryd.func38, Tryd.ntmps38
          go_wp2_with (first | (go_at_call 48; refine (CR.out _ _).mono ?_; rintro e w1 ⟨rfl, hb⟩; have HB1 : Hid (Below w.heap.size w w1) := B0.out.trans (hb.mono B0.out.size); have S1 := Lib.hid (S0.out.below2 hb); obtain ⟨d0, d1, d2, d3, d4⟩ := S1.out; obtain ⟨y0, y1, y2, y3, y4⟩ := HC2.out.below HB1.out HLT.out; have T2 := Lib.hid (two_new w1 w.heap.size x y S1.out); have HB2 : Hid (Below w.heap.size w (w1.alloc (.cells #[.int .i64 y.o, .int .i64 y.d, .int .i64 y.s, .int .i64 y.f, .int .i64 y.m] 39))) := HB1.out.alloc HB1.out.size _; obtain ⟨⟨p0, p1, p2, p3, p4⟩, r0, r1, r2, r3, r4⟩ := T2.out; clear hb) | (go_at_call 49; refine (CI.out _ _).mono ?_; rintro e w9 ⟨rfl, rfl⟩))
          go_ret3
          exact ⟨⟨_, _, rfl⟩, HB2.out⟩
        · have n3 : (y.f != 0) = false := by simp only [bne, t3]; rfl
          cases t4 : (immIn y.m)
          · go_enter Tryd.func38, Tryd.ntmps38
            go_wp2_with (first | (go_at_call 48; refine (CR.out _ _).mono ?_; rintro e w1 ⟨rfl, hb⟩; have HB1 : Hid (Below w.heap.size w w1) := B0.out.trans (hb.mono B0.out.size); have S1 := Lib.hid (S0.out.below2 hb); obtain ⟨d0, d1, d2, d3, d4⟩ := S1.out; obtain ⟨y0, y1, y2, y3, y4⟩ := HC2.out.below HB1.out HLT.out; have T2 := Lib.hid (two_new w1 w.heap.size x y S1.out); have HB2 : Hid (Below w.heap.size w (w1.alloc (.cells #[.int .i64 y.o, .int .i64 y.d, .int .i64 y.s, .int .i64 y.f, .int .i64 y.m] 39))) := HB1.out.alloc HB1.out.size _; obtain ⟨⟨p0, p1, p2, p3, p4⟩, r0, r1, r2, r3, r4⟩ := T2.out; clear hb) | (go_at_call 49; refine (CI.out _ _).mono ?_; rintro e w9 ⟨rfl, rfl⟩))
            go_ret3
            exact ⟨⟨_, _, rfl⟩, HB2.out⟩
          · simp only [t0, t1, t2, t3, t4, Bool.true_and] at h4
            rcases hs with hs | ⟨hs, hs1⟩
            · simp [hs] at h4
            · simp only [hs, hs1, Bool.false_or, Bool.true_and] at h4
              go_enter Tryd.func38, Tryd.ntmps38
              go_wp2_with (first | (go_at_call 48; refine (CR.out _ _).mono ?_; rintro e w1 ⟨rfl, hb⟩; have HB1 : Hid (Below w.heap.size w w1) := B0.out.trans (hb.mono B0.out.size); have S1 := Lib.hid (S0.out.below2 hb); obtain ⟨d0, d1, d2, d3, d4⟩ := S1.out; obtain ⟨y0, y1, y2, y3, y4⟩ := HC2.out.below HB1.out HLT.out; have T2 := Lib.hid (two_new w1 w.heap.size x y S1.out); have HB2 : Hid (Below w.heap.size w (w1.alloc (.cells #[.int .i64 y.o, .int .i64 y.d, .int .i64 y.s, .int .i64 y.f, .int .i64 y.m] 39))) := HB1.out.alloc HB1.out.size _; obtain ⟨⟨p0, p1, p2, p3, p4⟩, r0, r1, r2, r3, r4⟩ := T2.out; clear hb) | (go_at_call 49; refine (CI.out _ _).mono ?_; rintro e w9 ⟨rfl, rfl⟩))
              go_ret3
              exact ⟨⟨_, _, rfl⟩, HB2.out⟩
set_option maxHeartbeats 4000000 in
theorem line_num (A : Option Addr) (n c i : Nat) (X : Nat → Slot) (hn : n ≤ 4096) (hi : i < n) (w : World) (h : Slots w A n X) (ha : WideA (X i)) (h3 : i + 1 < n) (h4 : tailR (X i) (X (i + 1)) = true) (h5 : ((X i).s == 0) = true) :
    Calls Tryd.prog 38 #[.slice A n c, .int .i64 i] w fun e w' => (∃ t k, e = .returned (.tuple #[.string t, .int .i64 k, .int .i64 0])) ∧ Below w.heap.size w w' := by
  obtain ⟨b, off, rfl, hlt, hc⟩ := h i hi
  have HC := Lib.hid hc
  obtain ⟨c0, c1, c2, c3, c4⟩ := hc
  have HLT := Lib.hid hlt
  have g24 := ha.o
  have g24n : ((X i).o != 24) = false := by simp only [bne, g24]; rfl
  have i0 : decide ((i : Int) < 0) = false := by simp
  have i1 : (0 : Int) ≤ (i : Int) := by omega
  have i2 : (i : Int) < (n : Int) := by omega
  have i3 : decide (n ≤ i) = false := by simp; omega
  have CR := Lib.hid (fun k w' => reg_any [114] (by simp) k w')
  have CI := Lib.hid (fun k w' => imm04_any k w')
  obtain ⟨b', off', e', hlt', hc'⟩ := h (i + 1) h3
  injection e' with e'
  injection e' with e1' e2' _
  subst e1' e2'
  have HC2 := Lib.hid hc'
  have e3 : (((i : Int) + 1) == (n : Int)) = false := by simp only [beq_eq_false_iff_ne, ne_eq]; omega
  have e4 : IntKind.i64.wrap ((i : Int) + 1) = (i : Int) + 1 := by rw [IntKind.wrap_i64]; omega
  have j1 : (0 : Int) ≤ (i : Int) + 1 := by omega
  have j2 : (i : Int) + 1 < (n : Int) := by omega
  have hreg : regIn (X i).d = true := by unfold regIn; have := ha.d; simp; omega
  have q := reg_none [114] (X i).d
  rw [hreg, Bool.not_true] at q
  have hf := ha.f
  have hfn : ((X i).f != 0) = false := by simp only [bne, hf]; rfl
  have hm := ha.m
  have hrs := reg_sz (X i).d
  have B0 : Hid (Below w.heap.size w (w.alloc (.cells #[.int .i64 (X i).o, .int .i64 (X i).d, .int .i64 (X i).s, .int .i64 (X i).f, .int .i64 (X i).m] 39))) := (Below.refl _ w).alloc (Nat.le_refl _) _
  have S0 : Hid (CB w.heap.size (X i).o (X i).d (X i).s (X i).f (X i).m (w.alloc (.cells #[.int .i64 (X i).o, .int .i64 (X i).d, .int .i64 (X i).s, .int .i64 (X i).f, .int .i64 (X i).m] 39))) := Cells5.new w (X i) _
  unfold tailR at h4
  simp only [Bool.and_eq_true] at h4
  obtain ⟨⟨t0, t1, t2, t3, t4⟩, _⟩ := h4
  clear hlt hlt' hc' ha h3 hreg
  generalize X i = x at *
  generalize X (i + 1) = y at *
  have n0 : (y.o != 0) = false := by simp only [bne, t0]; rfl
  have n1 : (y.d != 0) = false := by simp only [bne, t1]; rfl
  have n2 : (y.s != 0) = false := by simp only [bne, t2]; rfl
  have n3 : (y.f != 0) = false := by simp only [bne, t3]; rfl
  obtain ⟨v, hv, hv64⟩ := wideN_nat x.m y.m
  have CW := Lib.hid (rimm_any x.o x.d x.s x.f x.m y.o y.d y.s y.f y.m)
  rw [hv] at CW
  unfold insV at CW
  have CU := Lib.hid (udigits_any v hv64)
  obtain ⟨k1, z1⟩ := cat_ok (P := Tryd.prog) hrs (show ({ data := #[32, 61, 32] } : ByteArray).size ≤ 3 by decide) (by decide)
  obtain ⟨k2, z2⟩ := cat_ok (P := Tryd.prog) z1 (udig_sz v hv64) (by decide)
  obtain ⟨k3, z3⟩ := cat_ok (P := Tryd.prog) z2 (show ({ data := #[32, 108, 108] } : ByteArray).size ≤ 3 by decide) (by decide)
  clear z1 z2 z3 hv hv64
  go_enter Tryd.func38, Tryd.ntmps38
  go_wp2_with (first | (go_at_call 48; refine (CR.out _ _).mono ?_; rintro e w1 ⟨rfl, hb⟩; have HB1 : Hid (Below w.heap.size w w1) := B0.out.trans (hb.mono B0.out.size); have S1 := Lib.hid (S0.out.below2 hb); obtain ⟨d0, d1, d2, d3, d4⟩ := S1.out; obtain ⟨y0, y1, y2, y3, y4⟩ := HC2.out.below HB1.out HLT.out; have T2 := Lib.hid (two_new w1 w.heap.size x y S1.out); have HB2 : Hid (Below w.heap.size w (w1.alloc (.cells #[.int .i64 y.o, .int .i64 y.d, .int .i64 y.s, .int .i64 y.f, .int .i64 y.m] 39))) := HB1.out.alloc HB1.out.size _; obtain ⟨⟨p0, p1, p2, p3, p4⟩, r0, r1, r2, r3, r4⟩ := T2.out; clear hb) | (go_at_call 49; refine (CI.out _ _).mono ?_; rintro e w9 ⟨rfl, rfl⟩))
  go_region_held3 (fun W => W.cell? ⟨w.heap.size, 0, none⟩ = some (.int .i64 x.o) ∧ W.cell? ⟨w.heap.size, 1, none⟩ = some (.int .i64 x.d) ∧ W.cell? ⟨w.heap.size, 2, none⟩ = some (.int .i64 x.s) ∧ W.cell? ⟨w.heap.size, 3, none⟩ = some (.int .i64 x.f) ∧ W.cell? ⟨w.heap.size, 4, none⟩ = some (.int .i64 x.m) ∧ W.cell? ⟨w1.heap.size, 0, none⟩ = some (.int .i64 y.o) ∧ W.cell? ⟨w1.heap.size, 1, none⟩ = some (.int .i64 y.d) ∧ W.cell? ⟨w1.heap.size, 2, none⟩ = some (.int .i64 y.s) ∧ W.cell? ⟨w1.heap.size, 3, none⟩ = some (.int .i64 y.f) ∧ W.cell? ⟨w1.heap.size, 4, none⟩ = some (.int .i64 y.m)) (first | exact flat T5.out | exact flat T4.out | exact flat T3.out | exact flat T2.out) ((first | (go_at_call 48; refine (CR.out _ _).mono ?_; rintro e w3 ⟨rfl, hb⟩; (try have hb := Below.undrew hb); have HB3 : Hid (Below w.heap.size w w3) := HB2.out.trans (hb.mono HB2.out.size); have T3 := Lib.hid (T2.out.below hb); clear hb) | (go_at_call 51; refine (CW.out _).mono ?_; rintro e w4 ⟨rfl, hb⟩; (try have hb := Below.undrew hb); have HB4 : Hid (Below w.heap.size w w4) := HB3.out.trans (hb.mono HB3.out.size); have T4 := Lib.hid (T3.out.below hb); clear hb) | (go_at_call 50; refine (CU.out _).mono ?_; rintro e w5 ⟨rfl, hb⟩; (try have hb := Below.undrew hb); have HB5 : Hid (Below w.heap.size w w5) := HB4.out.trans (hb.mono HB4.out.size); have T5 := Lib.hid (T4.out.below hb); clear hb)))
  all_goals go_wp2_with fail
  all_goals go_ret3
  all_goals exact ⟨⟨_, _, rfl⟩, HB5.out⟩
set_option maxHeartbeats 4000000 in
theorem line_map (A : Option Addr) (n c i : Nat) (X : Nat → Slot) (hn : n ≤ 4096) (hi : i < n) (w : World) (h : Slots w A n X) (ha : WideA (X i)) (h3 : i + 1 < n) (h4 : tailR (X i) (X (i + 1)) = true) (h5 : ((X i).s == 0) = false) (h6 : ((X i).s == 1) = true) :
    Calls Tryd.prog 38 #[.slice A n c, .int .i64 i] w fun e w' => (∃ t k, e = .returned (.tuple #[.string t, .int .i64 k, .int .i64 0])) ∧ Below w.heap.size w w' := by
  obtain ⟨b, off, rfl, hlt, hc⟩ := h i hi
  have HC := Lib.hid hc
  obtain ⟨c0, c1, c2, c3, c4⟩ := hc
  have HLT := Lib.hid hlt
  have g24 := ha.o
  have g24n : ((X i).o != 24) = false := by simp only [bne, g24]; rfl
  have i0 : decide ((i : Int) < 0) = false := by simp
  have i1 : (0 : Int) ≤ (i : Int) := by omega
  have i2 : (i : Int) < (n : Int) := by omega
  have i3 : decide (n ≤ i) = false := by simp; omega
  have CR := Lib.hid (fun k w' => reg_any [114] (by simp) k w')
  have CI := Lib.hid (fun k w' => imm04_any k w')
  obtain ⟨b', off', e', hlt', hc'⟩ := h (i + 1) h3
  injection e' with e'
  injection e' with e1' e2' _
  subst e1' e2'
  have HC2 := Lib.hid hc'
  have e3 : (((i : Int) + 1) == (n : Int)) = false := by simp only [beq_eq_false_iff_ne, ne_eq]; omega
  have e4 : IntKind.i64.wrap ((i : Int) + 1) = (i : Int) + 1 := by rw [IntKind.wrap_i64]; omega
  have j1 : (0 : Int) ≤ (i : Int) + 1 := by omega
  have j2 : (i : Int) + 1 < (n : Int) := by omega
  have hreg : regIn (X i).d = true := by unfold regIn; have := ha.d; simp; omega
  have q := reg_none [114] (X i).d
  rw [hreg, Bool.not_true] at q
  have hf := ha.f
  have hfn : ((X i).f != 0) = false := by simp only [bne, hf]; rfl
  have hm := ha.m
  have hrs := reg_sz (X i).d
  have B0 : Hid (Below w.heap.size w (w.alloc (.cells #[.int .i64 (X i).o, .int .i64 (X i).d, .int .i64 (X i).s, .int .i64 (X i).f, .int .i64 (X i).m] 39))) := (Below.refl _ w).alloc (Nat.le_refl _) _
  have S0 : Hid (CB w.heap.size (X i).o (X i).d (X i).s (X i).f (X i).m (w.alloc (.cells #[.int .i64 (X i).o, .int .i64 (X i).d, .int .i64 (X i).s, .int .i64 (X i).f, .int .i64 (X i).m] 39))) := Cells5.new w (X i) _
  unfold tailR at h4
  rw [h5, h6] at h4
  simp only [Bool.and_eq_true, Bool.false_or, Bool.true_and] at h4
  obtain ⟨⟨t0, t1, t2, t3, t4⟩, t5⟩ := h4
  clear hlt hlt' hc' ha h3 hreg
  generalize X i = x at *
  generalize X (i + 1) = y at *
  have n0 : (y.o != 0) = false := by simp only [bne, t0]; rfl
  have n1 : (y.d != 0) = false := by simp only [bne, t1]; rfl
  have n2 : (y.s != 0) = false := by simp only [bne, t2]; rfl
  have n3 : (y.f != 0) = false := by simp only [bne, t3]; rfl
  have CD := Lib.hid (digits_any x.m (imm_b hm))
  obtain ⟨k1, z1⟩ := cat_ok (P := Tryd.prog) hrs (show ({ data := #[32, 61, 32, 109, 97, 112, 32] } : ByteArray).size ≤ 7 by decide) (by decide)
  obtain ⟨k2, z2⟩ := cat_ok (P := Tryd.prog) z1 (imm_sz x.m hm) (by decide)
  obtain ⟨k3, z3⟩ := cat_ok (P := Tryd.prog) z2 (show ({ data := #[32, 108, 108] } : ByteArray).size ≤ 3 by decide) (by decide)
  clear z1 z2 z3
  go_enter Tryd.func38, Tryd.ntmps38
  go_wp2_with (first | (go_at_call 48; refine (CR.out _ _).mono ?_; rintro e w1 ⟨rfl, hb⟩; have HB1 : Hid (Below w.heap.size w w1) := B0.out.trans (hb.mono B0.out.size); have S1 := Lib.hid (S0.out.below2 hb); obtain ⟨d0, d1, d2, d3, d4⟩ := S1.out; obtain ⟨y0, y1, y2, y3, y4⟩ := HC2.out.below HB1.out HLT.out; have T2 := Lib.hid (two_new w1 w.heap.size x y S1.out); have HB2 : Hid (Below w.heap.size w (w1.alloc (.cells #[.int .i64 y.o, .int .i64 y.d, .int .i64 y.s, .int .i64 y.f, .int .i64 y.m] 39))) := HB1.out.alloc HB1.out.size _; obtain ⟨⟨p0, p1, p2, p3, p4⟩, r0, r1, r2, r3, r4⟩ := T2.out; clear hb) | (go_at_call 49; refine (CI.out _ _).mono ?_; rintro e w9 ⟨rfl, rfl⟩))
  go_region_held3 (fun W => W.cell? ⟨w.heap.size, 0, none⟩ = some (.int .i64 x.o) ∧ W.cell? ⟨w.heap.size, 1, none⟩ = some (.int .i64 x.d) ∧ W.cell? ⟨w.heap.size, 2, none⟩ = some (.int .i64 x.s) ∧ W.cell? ⟨w.heap.size, 3, none⟩ = some (.int .i64 x.f) ∧ W.cell? ⟨w.heap.size, 4, none⟩ = some (.int .i64 x.m) ∧ W.cell? ⟨w1.heap.size, 0, none⟩ = some (.int .i64 y.o) ∧ W.cell? ⟨w1.heap.size, 1, none⟩ = some (.int .i64 y.d) ∧ W.cell? ⟨w1.heap.size, 2, none⟩ = some (.int .i64 y.s) ∧ W.cell? ⟨w1.heap.size, 3, none⟩ = some (.int .i64 y.f) ∧ W.cell? ⟨w1.heap.size, 4, none⟩ = some (.int .i64 y.m)) (first | exact flat T5.out | exact flat T4.out | exact flat T3.out | exact flat T2.out) ((first | (go_at_call 48; refine (CR.out _ _).mono ?_; rintro e w3 ⟨rfl, hb⟩; (try have hb := Below.undrew hb); have HB3 : Hid (Below w.heap.size w w3) := HB2.out.trans (hb.mono HB2.out.size); have T3 := Lib.hid (T2.out.below hb); clear hb) | (go_at_call 52; refine (CD.out _).mono ?_; rintro e w4 ⟨rfl, hb⟩; (try have hb := Below.undrew hb); have HB4 : Hid (Below w.heap.size w w4) := HB3.out.trans (hb.mono HB3.out.size); have T4 := Lib.hid (T3.out.below hb); clear hb)))
  all_goals go_wp2_with fail
  all_goals go_ret3
  all_goals exact ⟨⟨_, _, rfl⟩, HB4.out⟩
end Go.Proofs.YticklgoegmobbaaDoor
