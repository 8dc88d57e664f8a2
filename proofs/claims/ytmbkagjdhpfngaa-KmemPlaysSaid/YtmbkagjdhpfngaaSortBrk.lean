/-
  The library's sort: (*xorshift).Next, nextPowerOfTwo, breakPatternsOrdered (some permutation of its part, whichever).
-/
import Derived.Test.YtmbkagjdhpfngaaSortPis
import Derived.Test.YtmbkagjdhpfngaaSortHeap2
import Derived.Sort.Lot0
import Derived.Laws.Bits64
import Derived.Laws.Bits64b
namespace Go.Proofs.Ytmbkagjdhpfngaa
open Go Go.RowKit Go.Maps
set_option linter.unusedVariables false

theorem setCell_twice (w : World) (s : Nat) (v v' : Value) : (w.setCell ⟨s, 0, none⟩ v).setCell ⟨s, 0, none⟩ v' = w.setCell ⟨s, 0, none⟩ v' := by
  simp only [World.setCell]
  congr 1
  apply Array.ext_getElem?
  intro i
  simp only [Array.getElem?_modify]
  by_cases h : s = i
  · subst h
    simp only [if_true]
    rcases w.heap[s]? with _ | o
    · rfl
    · cases o <;> simp
  · simp [h]
def NextPost (w : World) (s : Nat) (e : Ending) (w' : World) : Prop :=
  ∃ C : Nat, C < 18446744073709551616 ∧ e = .returned (.int .u64 (C : Int)) ∧ Keeps (fun b => b = s) w w' ∧ Blk w' s 110 #[.int .u64 (C : Int)]
set_option maxRecDepth 100000 in
set_option maxHeartbeats 2000000 in
theorem next_any (s X : Nat) (hX : X < 18446744073709551616) (w : World) (hb : Blk w s 110 #[.int .u64 (X : Int)]) :
    Calls Try.prog 65 #[.pointer (some ⟨s, 0, none⟩)] w (NextPost w s) := by
  obtain ⟨A, hA⟩ : ∃ A : Nat, A = X ^^^ (X * 8192 % 18446744073709551616) := ⟨_, rfl⟩
  obtain ⟨B, hB⟩ : ∃ B : Nat, B = A ^^^ (A / 128) := ⟨_, rfl⟩
  obtain ⟨C, hC⟩ : ∃ C : Nat, C = B ^^^ (B * 131072 % 18446744073709551616) := ⟨_, rfl⟩
  have lA : A < 18446744073709551616 := by rw [hA]; exact Nat.xor_lt_two_pow (n := 64) (by omega) (by omega)
  have lB : B < 18446744073709551616 := by rw [hB]; exact Nat.xor_lt_two_pow (n := 64) (by omega) (by omega)
  have lC : C < 18446744073709551616 := by rw [hC]; exact Nat.xor_lt_two_pow (n := 64) (by omega) (by omega)
  have e1 : bits .xor .u64 (X : Int) (IntKind.u64.wrap ((X : Int) * 8192)) = (A : Int) := by
    rw [IntKind.wrap_u64, show ((X : Int) * 8192 % 18446744073709551616) = ((X * 8192 % 18446744073709551616 : Nat) : Int) by omega, bits_xor_u64_nat _ _ hX (by omega), hA]
  have e2 : bits .xor .u64 (A : Int) ((A : Int) / 128) = (B : Int) := by
    rw [show ((A : Int) / 128) = ((A / 128 : Nat) : Int) by omega, bits_xor_u64_nat _ _ lA (by omega), hB]
  have e3 : bits .xor .u64 (B : Int) (IntKind.u64.wrap ((B : Int) * 131072)) = (C : Int) := by
    rw [IntKind.wrap_u64, show ((B : Int) * 131072 % 18446744073709551616) = ((B * 131072 % 18446744073709551616 : Nat) : Int) by omega, bits_xor_u64_nat _ _ lB (by omega), hC]
  have END := Lib.hid (show NextPost w s (.returned (.int .u64 (C : Int))) ((w.setCell ⟨s, 0, none⟩ (.int .u64 (C : Int))).drewN 3) from
    ⟨C, lC, rfl, Keeps.drewN (Keeps.setCell (S := fun b => b = s) (p := ⟨s, 0, none⟩) (Keeps.refl _ w) (.inl rfl) _) 3, show Blk (w.setCell ⟨s, 0, none⟩ (.int .u64 (C : Int))) s _ _ by have := hb.set_ 0 (.int .u64 (C : Int)); simpa using this⟩)
  have c0 : w.cell? ⟨s, 0, none⟩ = some (.int .u64 (X : Int)) := hb.cell 0
  have f0 : w.frozen? ⟨s, 0, none⟩ = false := hb.frozen 0
  clear hA hB hC hb
  have hss : ∀ v v', (w.setCell ⟨s, 0, none⟩ v).setCell ⟨s, 0, none⟩ v' = w.setCell ⟨s, 0, none⟩ v' := setCell_twice w s
  generalize NextPost w s = post at END ⊢
  go_enter Try.func65, Try.ntmps65
  go_wp2
  go_region
  all_goals go_wp2
  all_goals go_region
  all_goals go_wp2
  all_goals go_region
  all_goals go_wp2
  exact END.out
theorem pow_bitLen : ∀ (t n : Nat), n ≤ t → 0 < n → n < 18446744073709551616 → 2 ^ Lib.bitLen n ≤ 2 * n
  | 0, n, h, h0, _ => by omega
  | t + 1, n, h, h0, h1 => by
    rw [Lib.bitLen_half n (by omega) (by omega), Nat.pow_add]
    by_cases h2 : n < 2
    · have : n = 1 := by omega
      subst this
      decide
    · have := pow_bitLen t (n / 2) (by omega) (by omega) (by omega)
      omega
theorem nextPow_any (n : Nat) (h0 : 0 < n) (hn : n ≤ 1048576) (w : World) :
    Calls Try.prog 64 #[.int .i64 (n : Int)] w fun e w' => ∃ M : Nat, (1 ≤ M ∧ M ≤ 2 * n) ∧ e = .returned (.int .u64 (M : Int)) ∧ w = w' := by
  have hb := pow_bitLen n n (Nat.le_refl _) h0 (by omega)
  have h1 : 1 ≤ 2 ^ Lib.bitLen n := Nat.one_le_two_pow
  have hk : Lib.bitLen n ≤ 22 := by
    rcases Nat.lt_or_ge 22 (Lib.bitLen n) with h | h
    · have : (2 : Nat) ^ 23 ≤ 2 ^ Lib.bitLen n := Nat.pow_le_pow_right (by decide) h
      have e : (2 : Nat) ^ 23 = 8388608 := by decide
      omega
    · exact h
  have hp : IntKind.u64.wrap ((2 : Int) ^ Lib.bitLen n) = ((2 ^ Lib.bitLen n : Nat) : Int) := by
    rw [IntKind.wrap_u64, show ((2 : Int) ^ Lib.bitLen n) = ((2 ^ Lib.bitLen n : Nat) : Int) by push_cast; rfl]
    generalize (2 : Nat) ^ Lib.bitLen n = p at hb
    omega
  have END := Lib.hid (show ∃ M : Nat, (1 ≤ M ∧ M ≤ 2 * n) ∧ Ending.returned (.int .u64 ((2 ^ Lib.bitLen n : Nat) : Int)) = .returned (.int .u64 (M : Int)) ∧ w = w from ⟨_, ⟨h1, hb⟩, rfl, rfl⟩)
  have CL := Lib.hid (fun w => len_any n (by omega) w)
  generalize Lib.bitLen n = k at *
  clear hb h1
  generalize hM : ((2 ^ k : Nat) : Int) = M at hp END
  clear hM
  go_enter Try.func64, Try.ntmps64
  go_wp2_with (first | (go_at_call 50; refine (CL.out _).mono ?_; rintro e w' ⟨rfl, rfl⟩))
  go_ret
  obtain ⟨M', h1, h2, _⟩ := END.out
  exact ⟨M', h1, h2, rfl⟩
/-- The row holds d, and the generator, in a block of its own that w0 has not, some number. -/
structure RB (w0 w : World) (g : Nat) (sp : List Value) (d : Array Nat) (s : Nat) : Prop where
  row : SRow w0 w g sp d
  gen : ∃ X : Nat, X < 18446744073709551616 ∧ Blk w s 110 #[.int .u64 (X : Int)]
  new : w0.heap.size ≤ s
theorem RB.ne {w0 w : World} {g : Nat} {sp : List Value} {d : Array Nat} {s : Nat} (h : RB w0 w g sp d s) : g ≠ s := by
  obtain ⟨X, _, hb⟩ := h.gen
  exact Blk.ne_ h.row.row hb (by decide)
theorem RB.next {w0 w w' : World} {g : Nat} {sp : List Value} {d : Array Nat} {s C : Nat} (h : RB w0 w g sp d s) (k : Keeps (fun b => b = s) w w') (hC : C < 18446744073709551616) (hb : Blk w' s 110 #[.int .u64 (C : Int)]) : RB w0 w' g sp d s := by
  obtain ⟨X, _, hx⟩ := h.gen
  exact ⟨⟨h.row.keep.trans (k.mono (fun b e => .inr (by subst e; exact ⟨h.new, hx.lt⟩))), h.row.row.keeps k h.ne⟩, ⟨C, hC, hb⟩, h.new⟩
theorem RB.swp {w0 w : World} {g : Nat} {sp : List Value} {d : Array Nat} {s i j : Nat} (h : RB w0 w g sp d s) (hi : i < d.size) (hj : j < d.size) :
    RB w0 ((w.setCell ⟨g, i, none⟩ (.int .u32 (d[j]! : Int))).setCell ⟨g, j, none⟩ (.int .u32 (d[i]! : Int))).drew g sp (Sort.swp d i j) s := by
  obtain ⟨X, hX, hx⟩ := h.gen
  exact ⟨(h.row.swp hi hj).drew, ⟨X, hX, (hx.far (p := ⟨g, i, none⟩) (Ne.symm h.ne) _).far (p := ⟨g, j, none⟩) (Ne.symm h.ne) _⟩, h.new⟩
def BrkPost (w0 : World) (g : Nat) (sp : List Value) (d : Array Nat) (a b : Nat) (e : Ending) (w' : World) : Prop :=
  e = .returned (.tuple #[]) ∧ ∃ d', Sort.PermIn a b d d' ∧ SRow w0 w' g sp d'
set_option maxRecDepth 100000 in
set_option maxHeartbeats 4000000 in
theorem brk_any (w0 w : World) (g : Nat) (sp : List Value) (d : Array Nat) (cap a b : Nat) (hab : a + 8 ≤ b) (hb : b ≤ d.size) (hs : d.size ≤ cap) (hc : d.size ≤ 1048576) (h : SRow w0 w g sp d) :
    Calls Try.prog 54 #[.slice (some ⟨g, 0, none⟩) d.size cap, .int .i64 (a : Int), .int .i64 (b : Int)] w (BrkPost w0 g sp d a b) := by
  obtain ⟨n, hn⟩ : ∃ n, n = d.size := ⟨_, rfl⟩
  rw [← hn] at hb hs hc ⊢
  obtain ⟨l, hl⟩ : ∃ l : Nat, (b : Int) - (a : Int) = (l : Int) ∧ 8 ≤ l ∧ a + l = b := ⟨b - a, by omega, by omega, by omega⟩
  obtain ⟨hl, hl8, hal⟩ := hl
  obtain ⟨c, hc0⟩ : ∃ c : Nat, (a : Int) + (l : Int) / 4 * 2 - 1 = (c : Int) ∧ (a : Int) + (l : Int) / 4 * 2 + 1 = (c : Int) + 2 ∧ a ≤ c ∧ c + 2 < b := ⟨a + l / 4 * 2 - 1, by omega, by omega, by omega, by omega⟩
  obtain ⟨hc1, hc2, hc3, hc4⟩ := hc0
  have HL := Lib.hid hl
  have HC1 := Lib.hid hc1
  have HC2 := Lib.hid hc2
  have g0 : decide ((8 : Int) ≤ (b : Int) - (a : Int)) = true := by simp; omega
  have CN := Lib.hid (fun w => nextPow_any l (by omega) (by omega) w)
  have HST := Lib.hid (show RB w0 (w.alloc (.cells #[.int .u64 (l : Int)] 110)) g sp d w.heap.size from
    ⟨h.alloc _, ⟨l, by omega, Blk.new w _ _⟩, h.keep.size⟩)
  have HD := Lib.hid hn.symm
  clear hn h hl hc1 hc2
  go_enter Try.func54, Try.ntmps54
  go_wp2_with fail
  rw [HL.out]
  clear g0
  refine (CN.out _).mono ?_
  rintro e w' ⟨M, hM, rfl, rfl⟩
  obtain ⟨hM1, hM2⟩ := hM
  go_wp2_with fail
  rw [HC1.out]
  generalize hw1 : w.alloc (.cells #[.int .u64 (l : Int)] 110) = w1 at HST ⊢
  generalize hs1 : w.heap.size = s at HST ⊢
  clear hw1
  go_loopw [9] (fun i wr => ∃ (k : Nat) (d' : Array Nat), c ≤ k ∧ k ≤ c + 3 ∧ i = .int .i64 k ∧ RB w0 wr g sp d' s ∧ d'.size = n ∧ Sort.PermIn a b d d') (fun i _ => c + 3 - (intOf i).toNat)
  case atStart => exact ⟨c, d, by omega, by omega, rfl, HST.out, HD.out, Sort.permIn_refl _ _ _⟩
  case round =>
    clear HST
    obtain ⟨k, d', hk1, hk2, rfl, hr, hdn, hper⟩ := hrel
    have HR := Lib.hid hr; clear hr
    have HDn := Lib.hid hdn; clear hdn
    have HPE := Lib.hid hper; clear hper
    have hc2 := HC2.out
    by_cases hkc : k ≤ c + 2
    · have g1 : decide ((k : Int) ≤ (c : Int) + 2) = true := by simp; omega
      obtain ⟨X, hX, hx⟩ := HR.out.gen
      have CX := Lib.hid (next_any s X hX wr hx)
      clear hx
      go_wp2_with fail
      refine CX.out.mono ?_
      rintro e w2 ⟨C, hC, rfl, kk, hbk⟩
      have HR2 := Lib.hid (HR.out.next kk hC hbk)
      clear kk hbk CX HR
      obtain ⟨o, ho1, ho2⟩ : ∃ o : Nat, bits .and .u64 (C : Int) ((M : Int) - 1) = (o : Int) ∧ o < 2 * l := by
        have hle := Nat.and_le_right (n := C) (m := M - 1)
        refine ⟨C &&& (M - 1), ?_, by omega⟩
        rw [show ((M : Int) - 1) = ((M - 1 : Nat) : Int) by omega, bits_and_u64_nat _ _ hC (by omega)]
      clear hC
      by_cases hol : l ≤ o
      · have g2 : decide ((l : Int) ≤ (o : Int)) = true := by simp; omega
        obtain ⟨o2, ho3, ho4⟩ : ∃ o2 : Nat, (o : Int) - (l : Int) = (o2 : Int) ∧ o2 < l := ⟨o - l, by omega, by omega⟩
        have hkd : k < d'.size := by rw [HDn.out]; omega
        have hjd : a + o2 < d'.size := by rw [HDn.out]; omega
        have ca := HR2.out.row.cell hkd
        have ck := HR2.out.row.cell hjd
        have fa := HR2.out.row.frozen k
        have fk := HR2.out.row.frozen (a + o2)
        have hSW := HR2.out.swp hkd hjd
        obtain ⟨x, hx⟩ : ∃ x, d'[k]! = x := ⟨_, rfl⟩
        obtain ⟨y, hy⟩ : ∃ y, d'[a + o2]! = y := ⟨_, rfl⟩
        rw [hx] at ca
        rw [hy] at ck
        rw [hx, hy] at hSW
        have HSW := Lib.hid hSW
        have HP2 := Lib.hid (Sort.permIn_trans _ _ _ _ _ HPE.out (Sort.swp_permIn d' a b k (a + o2) (by omega) (by omega) (by omega) (by omega) (by rw [HDn.out]; omega)))
        clear hSW hx hy hkd hjd HR2
        have p2 : (0 : Int) ≤ (k : Int) := by omega
        have p3 : (k : Int) < (n : Int) := by omega
        obtain ⟨q1, q2, q3, q4⟩ := Idx.mk' (z := (a : Int) + (o2 : Int)) (k := a + o2) (n := n) (by omega) (by omega) (by omega)
        clear q1 q4
        obtain ⟨v', hv'⟩ := cell?_setCell_some (w := w2) (p := ⟨g, k, none⟩) (x := .int .u32 (y : Int)) (q := ⟨g, a + o2, none⟩) (v := .int .u32 (y : Int)) ck
        go_wp2_with fail
        go_region
        clear hv'
        go_wp2_with fail
        go_roundw
        case rel => exact ⟨k + 1, _, by omega, by omega, by go_num, HSW.out, by rw [size_swp]; exact HDn.out, HP2.out⟩
        case measure => simp [intOf]; omega
      · have g2 : decide ((l : Int) ≤ (o : Int)) = false := by simp; omega
        have hkd : k < d'.size := by rw [HDn.out]; omega
        have hjd : a + o < d'.size := by rw [HDn.out]; omega
        have ca := HR2.out.row.cell hkd
        have ck := HR2.out.row.cell hjd
        have fa := HR2.out.row.frozen k
        have fk := HR2.out.row.frozen (a + o)
        have hSW := HR2.out.swp hkd hjd
        obtain ⟨x, hx⟩ : ∃ x, d'[k]! = x := ⟨_, rfl⟩
        obtain ⟨y, hy⟩ : ∃ y, d'[a + o]! = y := ⟨_, rfl⟩
        rw [hx] at ca
        rw [hy] at ck
        rw [hx, hy] at hSW
        have HSW := Lib.hid hSW
        have HP2 := Lib.hid (Sort.permIn_trans _ _ _ _ _ HPE.out (Sort.swp_permIn d' a b k (a + o) (by omega) (by omega) (by omega) (by omega) (by rw [HDn.out]; omega)))
        clear hSW hx hy hkd hjd HR2
        have p2 : (0 : Int) ≤ (k : Int) := by omega
        have p3 : (k : Int) < (n : Int) := by omega
        obtain ⟨q1, q2, q3, q4⟩ := Idx.mk' (z := (a : Int) + (o : Int)) (k := a + o) (n := n) (by omega) (by omega) (by omega)
        clear q1 q4
        obtain ⟨v', hv'⟩ := cell?_setCell_some (w := w2) (p := ⟨g, k, none⟩) (x := .int .u32 (y : Int)) (q := ⟨g, a + o, none⟩) (v := .int .u32 (y : Int)) ck
        go_wp2_with fail
        go_region
        clear hv'
        go_wp2_with fail
        go_roundw
        case rel => exact ⟨k + 1, _, by omega, by omega, by go_num, HSW.out, by rw [size_swp]; exact HDn.out, HP2.out⟩
        case measure => simp [intOf]; omega
    · have g1 : decide ((k : Int) ≤ (c : Int) + 2) = false := by simp; omega
      go_wp2_with fail
      go_end0
      exact ⟨rfl, d', HPE.out, HR.out.row⟩
end Go.Proofs.Ytmbkagjdhpfngaa
