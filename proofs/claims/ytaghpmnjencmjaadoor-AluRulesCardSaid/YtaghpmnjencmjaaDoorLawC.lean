/-
  The law AluRules, walked.
-/
import Derived.Test.YtaghpmnjencmjaaDoorLawA
import Derived.Test.YtaghpmnjencmjaaDoorLawB
import Derived.WalkSmall
import Derived.Deep.QuietTactic
import Derived.BigQuiet
namespace Go.Proofs.YtaghpmnjencmjaaDoor
open Go.RowKit (wrap32 wrap64 Below Hid intOf)
set_option linter.unusedVariables false

theorem add_sub (wide : Bool) (a b : Int) : cut wide (cut wide (cut wide (cut wide a + cut wide b)) - cut wide b) = cut wide a := by
  cases wide <;> simp only [cut] <;> simp <;> omega
theorem quo_rem (wide : Bool) (a b : Int) :
    cut wide (cut wide (cut wide (cut wide (cut wide (if cut wide b = 0 then 0 else cut wide a / cut wide b)) * cut wide b)) + cut wide (cut wide (if cut wide b = 0 then cut wide a else cut wide a % cut wide b))) = cut wide a := by
  have a0 := cut_lo wide a
  have a1 := cut_mask wide a
  have b0 := cut_lo wide b
  by_cases hz : cut wide b = 0
  · rw [if_pos hz, if_pos hz, hz, Int.mul_zero, cut_zero, cut_zero, Int.zero_add, cut_cut, cut_cut, cut_cut]
  · rw [if_neg hz, if_neg hz]
    have q0 := Int.ediv_nonneg a0 b0
    have q1 := Int.ediv_le_self (cut wide b) a0
    have r0 := Int.emod_nonneg (cut wide a) hz
    have e := Int.mul_ediv_add_emod (cut wide a) (cut wide b)
    have m0 := Int.mul_nonneg b0 q0
    rw [cut_small wide (cut wide a / cut wide b) q0 (by omega), cut_small wide (cut wide a / cut wide b) q0 (by omega), Int.mul_comm (cut wide a / cut wide b), cut_small wide (cut wide b * (cut wide a / cut wide b)) m0 (by omega), cut_small wide (cut wide b * (cut wide a / cut wide b)) m0 (by omega),
      cut_small wide (cut wide a % cut wide b) r0 (by omega), cut_small wide (cut wide a % cut wide b) r0 (by omega), e, cut_cut]

def opA (k : Nat) : Int := if k = 0 then 16 else if k = 1 then 32 else if k = 2 then 48 else if k = 3 then 96 else 112
def opB (k : Nat) : Int := if k = 0 then 80 else if k = 1 then 176 else if k = 2 then 160 else if k = 3 then 208 else 192
theorem opp (k : Nat) (hk : k < 5) (wide : Bool) (a b : Int) : testE (opA k) = 0 ∧ testE (opB k) = 0 ∧ testV (opB k) wide a b = !testV (opA k) wide a b := by
  have hk' : k = 0 ∨ k = 1 ∨ k = 2 ∨ k = 3 ∨ k = 4 := by omega
  rcases hk' with rfl | rfl | rfl | rfl | rfl
  · refine ⟨rfl, rfl, ?_⟩
    show (cut wide a != cut wide b) = !(cut wide a == cut wide b)
    rfl
  · refine ⟨rfl, rfl, ?_⟩
    show decide (cut wide a ≤ cut wide b) = !decide (cut wide b < cut wide a)
    rw [← decide_not]; congr 1; simp
  · refine ⟨rfl, rfl, ?_⟩
    show decide (cut wide a < cut wide b) = !decide (cut wide b ≤ cut wide a)
    rw [← decide_not]; congr 1; simp
  · refine ⟨rfl, rfl, ?_⟩
    show decide (sgn wide (cut wide a) ≤ sgn wide (cut wide b)) = !decide (sgn wide (cut wide b) < sgn wide (cut wide a))
    rw [← decide_not]; congr 1; simp
  · refine ⟨rfl, rfl, ?_⟩
    show decide (sgn wide (cut wide a) < sgn wide (cut wide b)) = !decide (sgn wide (cut wide b) ≤ sgn wide (cut wide a))
    rw [← decide_not]; congr 1; simp

/-- What stays as it is through the rounds: the two lists, the box, the table, all old memory. -/
structure RulesInv (w0 : World) (bx ba bb : Nat) (n0 n1 : Int) (wr : World) : Prop where
  a : ∀ k : Nat, k < 5 → wr.cell? ⟨ba, k, none⟩ = some (.int .i64 (opA k))
  b : ∀ k : Nat, k < 5 → wr.cell? ⟨bb, k, none⟩ = some (.int .i64 (opB k))
  c0 : wr.cell? ⟨bx, 0, none⟩ = some (.int .u64 n0)
  c1 : wr.cell? ⟨bx, 1, none⟩ = some (.int .u64 n1)
  e : Edges wr
  bl : Below w0.heap.size w0 wr
theorem RulesInv.drewN {w0 : World} {bx ba bb : Nat} {n0 n1 : Int} {wr : World} (h : RulesInv w0 bx ba bb n0 n1 wr) (n : Nat) : RulesInv w0 bx ba bb n0 n1 (wr.drewN n) :=
  ⟨h.a, h.b, h.c0, h.c1, h.e.below (below_drewN (Below.refl _ _) n), below_drewN h.bl n⟩
theorem quiet_add_left {P : Program} {f : FuncId} {args : Array Value} {w : World} {a n : Nat} {v : Value}
    (h : Calls P f args (w.drewN (a + n)) fun e w' => e = .returned v ∧ w.drewN (a + n) = w') :
    Calls P f args (w.drewN (a + n)) fun e w'' => e = .returned v ∧ ∃ m, w'' = w.drewN (a + m) :=
  h.mono fun _ _ ⟨he, hm⟩ => ⟨he, n, hm.symm⟩
theorem quiet_left {P : Program} {f : FuncId} {args : Array Value} {w : World} {n : Nat} {v : Value}
    (h : Calls P f args (w.drewN n) fun e w' => e = .returned v ∧ w.drewN n = w') : Calls P f args (w.drewN n) fun e w'' => e = .returned v ∧ ∃ m, w'' = w.drewN m :=
  h.mono fun _ _ ⟨he, hm⟩ => ⟨he, n, hm.symm⟩

set_option maxRecDepth 100000 in
theorem rules_t (n0 n1 : Int) (h0 : 0 ≤ n0) (h0' : n0 ≤ 18446744073709551615) (h1 : 0 ≤ n1) (h1' : n1 ≤ 18446744073709551615) (w : World) (hE : Edges w) :
    Calls Tryd.prog 7 #[.agg #[.int .u64 n0, .int .u64 n1], .bool true] w fun e w' => e = .returned (.bool true) ∧ Below w.heap.size w w' := by
  have K : ∃ x Z q r p s : Int, Z = cut true n0 ∧ (∀ W, Edges W → BinGives 0 true false n0 n1 W x 0) ∧ (∀ W, Edges W → BinGives 16 true false x n1 W Z 0) ∧ (∀ W, Edges W → BinGives 48 true false n0 n1 W q 0) ∧ (∀ W, Edges W → BinGives 144 true false n0 n1 W r 0) ∧
      (∀ W, Edges W → BinGives 32 true false q n1 W p 0) ∧ (∀ W, Edges W → BinGives 0 true false p r W Z 0) ∧ (∀ W, Gives2 14 #[.int .u64 n0, .int .i64 64] W s 0) ∧ (∀ W, Gives2 14 #[.int .u64 s, .int .i64 64] W n0 0) := by
    refine ⟨binV 0 true false n0 n1, cut true n0, binV 48 true false n0 n1, binV 144 true false n0 n1, binV 32 true false (binV 48 true false n0 n1) n1, rev n0 8, rfl, fun W hW => bin_any _ _ _ W h0 h0' h1 h1' hW 0 false, fun W hW => ?_, fun W hW => bin_any _ _ _ W h0 h0' h1 h1' hW 48 false, fun W hW => bin_any _ _ _ W h0 h0' h1 h1' hW 144 false,
      fun W hW => bin_any _ _ _ W (binV_lo _ _ _ _ _) (binV_hi _ _ _ _ _) h1 h1' hW 32 false, fun W hW => ?_, fun W => swap_any 64 n0 h0 h0' W, fun W => ?_⟩
    · have h := bin_any true (binV 0 true false n0 n1) n1 W (binV_lo _ _ _ _ _) (binV_hi _ _ _ _ _) h1 h1' hW 16 false
      rw [show binV 16 true false (binV 0 true false n0 n1) n1 = cut true n0 from add_sub true n0 n1] at h
      exact h
    · have h := bin_any true (binV 32 true false (binV 48 true false n0 n1) n1) (binV 144 true false n0 n1) W (binV_lo _ _ _ _ _) (binV_hi _ _ _ _ _) (binV_lo _ _ _ _ _) (binV_hi _ _ _ _ _) hW 0 false
      rw [show binV 0 true false (binV 32 true false (binV 48 true false n0 n1) n1) (binV 144 true false n0 n1) = cut true n0 from quo_rem true n0 n1] at h
      exact h
    · have h := swap_any 64 (rev n0 8) (rev_bd _ _).1 (rev_bd _ _).2 W
      rw [show swapV 64 (rev n0 8) = n0 from rev_rev n0 h0 h0'] at h
      exact h
  obtain ⟨x, Z, q, r, p, s, eZ, k1, k2, k4, k5, k6, k7, k8, k9⟩ := K
  have T : ∀ k : Nat, k < 5 → ∃ t : Bool, (∀ W, TestGives (opA k) true n0 n1 W t 0) ∧ (∀ W, TestGives (opB k) true n0 n1 W (!t) 0) := fun k hk => by
    obtain ⟨o1, o2, o3⟩ := opp k hk true n0 n1
    refine ⟨testV (opA k) true n0 n1, fun W => ?_, fun W => ?_⟩
    · have h := test_any n0 n1 h0 h0' h1 h1' W (opA k) true
      rw [o1] at h; exact h
    · have h := test_any n0 n1 h0 h0' h1 h1' W (opB k) true
      rw [o2, o3] at h; exact h
  have TT := Lib.hid T
  rw [cut_t n0 h0 h0'] at eZ
  subst eZ
  have k3 : ∀ W, Gives2 16 #[.int .u64 Z, .int .i64 64] W Z 0 := fun W => cut_any 64 Z h0 h0' W
  have K3 := Lib.hid k3
  have K1 := Lib.hid k1
  have K2 := Lib.hid k2
  have K4 := Lib.hid k4
  have K5 := Lib.hid k5
  have K6 := Lib.hid k6
  have K7 := Lib.hid k7
  have K8 := Lib.hid k8
  have K9 := Lib.hid k9
  have HE := Lib.hid hE
  clear k1 k2 k3 k4 k5 k6 k7 k8 k9 hE T
  go_enter Tryd.func7, Tryd.ntmps7
  go_wp2_with fail
  refine (K1.out _ (by exact HE.out.below (one_box _ _))).mono ?_
  rintro e w1 ⟨rfl, b1⟩
  have hc1 := cells_of b1
  have E1 := Lib.hid (HE.out.below ((one_box _ _).trans (b1.mono (by simp))))
  have B1 := Lib.hid ((one_box _ _).trans (b1.mono (B' := w.heap.size) (by simp)))
  have z1 : w.heap.size < w1.heap.size := by have := b1.size; simp at this; omega
  clear b1
  go_wp2_with fail
  refine (K2.out _ E1.out).mono ?_
  rintro e w2 ⟨rfl, b2⟩
  have hc2 : ∀ o, w2.cell? ⟨w.heap.size, o, none⟩ = w1.cell? ⟨w.heap.size, o, none⟩ := fun o => b2.cell (p := ⟨_, o, none⟩) z1
  have E2 := Lib.hid (E1.out.below b2)
  have B2 := Lib.hid (B1.out.trans (b2.mono B1.out.size))
  have z2 := Nat.lt_of_lt_of_le z1 b2.size
  clear b2 B1 E1
  go_wp2_with fail
  refine (K3.out _).mono ?_
  rintro e w' ⟨rfl, rfl⟩
  go_wp2_with fail
  refine (K4.out _ E2.out).mono ?_
  rintro e w3 ⟨rfl, b3⟩
  have hc3 : ∀ o, w3.cell? ⟨w.heap.size, o, none⟩ = w2.cell? ⟨w.heap.size, o, none⟩ := fun o => b3.cell (p := ⟨_, o, none⟩) z2
  have E3 := Lib.hid (E2.out.below b3)
  have B3 := Lib.hid (B2.out.trans (b3.mono B2.out.size))
  have z3 := Nat.lt_of_lt_of_le z2 b3.size
  clear b3 B2 E2
  go_wp2_with fail
  refine (K5.out _ E3.out).mono ?_
  rintro e w4 ⟨rfl, b4⟩
  have hc4 : ∀ o, w4.cell? ⟨w.heap.size, o, none⟩ = w3.cell? ⟨w.heap.size, o, none⟩ := fun o => b4.cell (p := ⟨_, o, none⟩) z3
  have E4 := Lib.hid (E3.out.below b4)
  have B4 := Lib.hid (B3.out.trans (b4.mono B3.out.size))
  have z4 := Nat.lt_of_lt_of_le z3 b4.size
  clear b4 B3 E3
  go_wp2_with fail
  refine (K6.out _ E4.out).mono ?_
  rintro e w5 ⟨rfl, b5⟩
  have hc5 : ∀ o, w5.cell? ⟨w.heap.size, o, none⟩ = w4.cell? ⟨w.heap.size, o, none⟩ := fun o => b5.cell (p := ⟨_, o, none⟩) z4
  have E5 := Lib.hid (E4.out.below b5)
  have B5 := Lib.hid (B4.out.trans (b5.mono B4.out.size))
  have z5 := Nat.lt_of_lt_of_le z4 b5.size
  clear b5 B4 E4
  go_wp2_with fail
  refine (K7.out _ E5.out).mono ?_
  rintro e w6 ⟨rfl, b6⟩
  have hc6 : ∀ o, w6.cell? ⟨w.heap.size, o, none⟩ = w5.cell? ⟨w.heap.size, o, none⟩ := fun o => b6.cell (p := ⟨_, o, none⟩) z5
  have E6 := Lib.hid (E5.out.below b6)
  have B6 := Lib.hid (B5.out.trans (b6.mono B5.out.size))
  have z6 := Nat.lt_of_lt_of_le z5 b6.size
  clear b6 B5 E5
  go_wp2_with fail
  refine (K8.out _).mono ?_
  rintro e w' ⟨rfl, rfl⟩
  go_wp2_with fail
  refine (K9.out _).mono ?_
  rintro e w' ⟨rfl, rfl⟩
  have c0 : w6.cell? ⟨w.heap.size, 0, none⟩ = some (.int .u64 Z) := by rw [hc6, hc5, hc4, hc3, hc2, hc1 _ _ (by simp)]; simp
  have c1 : w6.cell? ⟨w.heap.size, 1, none⟩ = some (.int .u64 n1) := by rw [hc6, hc5, hc4, hc3, hc2, hc1 _ _ (by simp)]; simp
  clear hc1 hc2 hc3 hc4 hc5 hc6 K1 K2 K3 K4 K5 K6 K7 K8 K9 z1 z2 z3 z4 z5
  go_wp2_with fail
  have ca : ∀ k : Nat, k < 5 → ((w6.alloc (Obj.cells #[Value.int IntKind.i64 16, Value.int IntKind.i64 32, Value.int IntKind.i64 48, Value.int IntKind.i64 96, Value.int IntKind.i64 112] 3)).alloc (Obj.cells #[Value.int IntKind.i64 80, Value.int IntKind.i64 176, Value.int IntKind.i64 160, Value.int IntKind.i64 208, Value.int IntKind.i64 192] 3)).cell? ⟨w6.heap.size, k, none⟩ = some (.int .i64 (opA k)) := fun k hk => by
    have hk' : k = 0 ∨ k = 1 ∨ k = 2 ∨ k = 3 ∨ k = 4 := by omega
    rcases hk' with rfl | rfl | rfl | rfl | rfl <;> simp [opA]
  have cb : ∀ k : Nat, k < 5 → ((w6.alloc (Obj.cells #[Value.int IntKind.i64 16, Value.int IntKind.i64 32, Value.int IntKind.i64 48, Value.int IntKind.i64 96, Value.int IntKind.i64 112] 3)).alloc (Obj.cells #[Value.int IntKind.i64 80, Value.int IntKind.i64 176, Value.int IntKind.i64 160, Value.int IntKind.i64 208, Value.int IntKind.i64 192] 3)).cell? ⟨w6.heap.size + 1, k, none⟩ = some (.int .i64 (opB k)) := fun k hk => by
    have hk' : k = 0 ∨ k = 1 ∨ k = 2 ∨ k = 3 ∨ k = 4 := by omega
    rcases hk' with rfl | rfl | rfl | rfl | rfl <;> simp [opB]
  have BB := two_boxes w6 (Obj.cells #[Value.int IntKind.i64 16, Value.int IntKind.i64 32, Value.int IntKind.i64 48, Value.int IntKind.i64 96, Value.int IntKind.i64 112] 3) (Obj.cells #[Value.int IntKind.i64 80, Value.int IntKind.i64 176, Value.int IntKind.i64 160, Value.int IntKind.i64 208, Value.int IntKind.i64 192] 3)
  have d0 := (BB.cell (p := ⟨w.heap.size, 0, none⟩) z6).trans c0
  have d1 := (BB.cell (p := ⟨w.heap.size, 1, none⟩) z6).trans c1
  have E7 := E6.out.below BB
  have B7 := B6.out.trans (BB.mono B6.out.size)
  have CA := Lib.hid ca
  have CB := Lib.hid cb
  clear ca cb c0 c1 BB E6 B6
  generalize ((w6.alloc (Obj.cells #[Value.int IntKind.i64 16, Value.int IntKind.i64 32, Value.int IntKind.i64 48, Value.int IntKind.i64 96, Value.int IntKind.i64 112] 3)).alloc (Obj.cells #[Value.int IntKind.i64 80, Value.int IntKind.i64 176, Value.int IntKind.i64 160, Value.int IntKind.i64 208, Value.int IntKind.i64 192] 3)) = W at *
  have INV : RulesInv w w.heap.size w6.heap.size (w6.heap.size + 1) Z n1 W := ⟨CA.out, CB.out, d0, d1, E7, B7⟩
  clear E7 B7 z6 CA CB d0 d1
  go_loopw [21] (fun i wr => ∃ k : Nat, k ≤ 5 ∧ i = .int .i64 k ∧ RulesInv w w.heap.size w6.heap.size (w6.heap.size + 1) Z n1 wr) (fun i _ => 5 - (intOf i).toNat)
  case atStart => exact ⟨0, by decide, rfl, INV⟩
  case round =>
    obtain ⟨k, hk, rfl, hinv⟩ := hrel
    by_cases hlt : k < 5
    · obtain ⟨tb, ta1, ta2⟩ := TT.out k hlt
      have fa := hinv.a k hlt
      have fb := hinv.b k hlt
      have f0 := hinv.c0
      have f1 := hinv.c1
      have T1 := Lib.hid ta1
      have T2 := Lib.hid ta2
      clear ta1 ta2
      have hk1 : (0 : Int) ≤ (k : Int) := by omega
      have hk2 : (k : Int) < 5 := by omega
      go_wp2_with fail
      go_quiet ((go_at_call 18; exact quiet_left (T1.out _)))
      go_wp2_with fail
      go_quiet ((go_at_call 18; exact quiet_add_left (T2.out _)))
      cases tb
      all_goals
        go_wp2
        go_roundw
        case rel => exact ⟨k + 1, by omega, by go_num, hinv.drewN _⟩
        case measure => simp [intOf]; omega
    · have f0 := hinv.c0
      have HINV := Lib.hid hinv
      clear hinv
      go_wp2_with fail
      refine (awake_true _ HINV.out.e).mono ?_
      rintro e w8 ⟨rfl, b8⟩
      have B8 := HINV.out.bl.trans (b8.mono HINV.out.bl.size)
      clear b8
      go_wp2
      go_ret
      exact ⟨rfl, B8⟩

set_option maxRecDepth 100000 in
theorem rules_f (n0 n1 : Int) (h0 : 0 ≤ n0) (h0' : n0 ≤ 18446744073709551615) (h1 : 0 ≤ n1) (h1' : n1 ≤ 18446744073709551615) (w : World) (hE : Edges w) :
    Calls Tryd.prog 7 #[.agg #[.int .u64 n0, .int .u64 n1], .bool false] w fun e w' => e = .returned (.bool true) ∧ Below w.heap.size w w' := by
  have K : ∃ x Z q r p s : Int, Z = cut false n0 ∧ (∀ W, Edges W → BinGives 0 false false n0 n1 W x 0) ∧ (∀ W, Edges W → BinGives 16 false false x n1 W Z 0) ∧ (∀ W, Edges W → BinGives 48 false false n0 n1 W q 0) ∧ (∀ W, Edges W → BinGives 144 false false n0 n1 W r 0) ∧
      (∀ W, Edges W → BinGives 32 false false q n1 W p 0) ∧ (∀ W, Edges W → BinGives 0 false false p r W Z 0) ∧ (∀ W, Gives2 14 #[.int .u64 n0, .int .i64 64] W s 0) ∧ (∀ W, Gives2 14 #[.int .u64 s, .int .i64 64] W n0 0) := by
    refine ⟨binV 0 false false n0 n1, cut false n0, binV 48 false false n0 n1, binV 144 false false n0 n1, binV 32 false false (binV 48 false false n0 n1) n1, rev n0 8, rfl, fun W hW => bin_any _ _ _ W h0 h0' h1 h1' hW 0 false, fun W hW => ?_, fun W hW => bin_any _ _ _ W h0 h0' h1 h1' hW 48 false, fun W hW => bin_any _ _ _ W h0 h0' h1 h1' hW 144 false,
      fun W hW => bin_any _ _ _ W (binV_lo _ _ _ _ _) (binV_hi _ _ _ _ _) h1 h1' hW 32 false, fun W hW => ?_, fun W => swap_any 64 n0 h0 h0' W, fun W => ?_⟩
    · have h := bin_any false (binV 0 false false n0 n1) n1 W (binV_lo _ _ _ _ _) (binV_hi _ _ _ _ _) h1 h1' hW 16 false
      rw [show binV 16 false false (binV 0 false false n0 n1) n1 = cut false n0 from add_sub false n0 n1] at h
      exact h
    · have h := bin_any false (binV 32 false false (binV 48 false false n0 n1) n1) (binV 144 false false n0 n1) W (binV_lo _ _ _ _ _) (binV_hi _ _ _ _ _) (binV_lo _ _ _ _ _) (binV_hi _ _ _ _ _) hW 0 false
      rw [show binV 0 false false (binV 32 false false (binV 48 false false n0 n1) n1) (binV 144 false false n0 n1) = cut false n0 from quo_rem false n0 n1] at h
      exact h
    · have h := swap_any 64 (rev n0 8) (rev_bd _ _).1 (rev_bd _ _).2 W
      rw [show swapV 64 (rev n0 8) = n0 from rev_rev n0 h0 h0'] at h
      exact h
  obtain ⟨x, Z, q, r, p, s, eZ, k1, k2, k4, k5, k6, k7, k8, k9⟩ := K
  have T : ∀ k : Nat, k < 5 → ∃ t : Bool, (∀ W, TestGives (opA k) false n0 n1 W t 0) ∧ (∀ W, TestGives (opB k) false n0 n1 W (!t) 0) := fun k hk => by
    obtain ⟨o1, o2, o3⟩ := opp k hk false n0 n1
    refine ⟨testV (opA k) false n0 n1, fun W => ?_, fun W => ?_⟩
    · have h := test_any n0 n1 h0 h0' h1 h1' W (opA k) false
      rw [o1] at h; exact h
    · have h := test_any n0 n1 h0 h0' h1 h1' W (opB k) false
      rw [o2, o3] at h; exact h
  have TT := Lib.hid T
  have k3 : ∀ W, Gives2 16 #[.int .u64 n0, .int .i64 64] W n0 0 := fun W => cut_any 64 n0 h0 h0' W
  have K3 := Lib.hid k3
  have k3' : ∀ W, Gives2 16 #[.int .u64 n0, .int .i64 32] W Z 0 := fun W => by rw [eZ]; exact cut_any 32 n0 h0 h0' W
  have K3' := Lib.hid k3'
  clear k3'
  have K1 := Lib.hid k1
  have K2 := Lib.hid k2
  have K4 := Lib.hid k4
  have K5 := Lib.hid k5
  have K6 := Lib.hid k6
  have K7 := Lib.hid k7
  have K8 := Lib.hid k8
  have K9 := Lib.hid k9
  have HE := Lib.hid hE
  clear k1 k2 k3 k4 k5 k6 k7 k8 k9 hE T
  clear eZ
  go_enter Tryd.func7, Tryd.ntmps7
  go_wp2_with fail
  refine (K1.out _ (by exact HE.out.below (one_box _ _))).mono ?_
  rintro e w1 ⟨rfl, b1⟩
  have hc1 := cells_of b1
  have E1 := Lib.hid (HE.out.below ((one_box _ _).trans (b1.mono (by simp))))
  have B1 := Lib.hid ((one_box _ _).trans (b1.mono (B' := w.heap.size) (by simp)))
  have z1 : w.heap.size < w1.heap.size := by have := b1.size; simp at this; omega
  clear b1
  go_wp2_with fail
  refine (K2.out _ E1.out).mono ?_
  rintro e w2 ⟨rfl, b2⟩
  have hc2 : ∀ o, w2.cell? ⟨w.heap.size, o, none⟩ = w1.cell? ⟨w.heap.size, o, none⟩ := fun o => b2.cell (p := ⟨_, o, none⟩) z1
  have E2 := Lib.hid (E1.out.below b2)
  have B2 := Lib.hid (B1.out.trans (b2.mono B1.out.size))
  have z2 := Nat.lt_of_lt_of_le z1 b2.size
  clear b2 B1 E1
  go_wp2_with fail
  refine (K3.out _).mono ?_
  rintro e w' ⟨rfl, rfl⟩
  go_wp2_with fail
  refine (K3'.out _).mono ?_
  rintro e w' ⟨rfl, rfl⟩
  go_wp2_with fail
  refine (K4.out _ E2.out).mono ?_
  rintro e w3 ⟨rfl, b3⟩
  have hc3 : ∀ o, w3.cell? ⟨w.heap.size, o, none⟩ = w2.cell? ⟨w.heap.size, o, none⟩ := fun o => b3.cell (p := ⟨_, o, none⟩) z2
  have E3 := Lib.hid (E2.out.below b3)
  have B3 := Lib.hid (B2.out.trans (b3.mono B2.out.size))
  have z3 := Nat.lt_of_lt_of_le z2 b3.size
  clear b3 B2 E2
  go_wp2_with fail
  refine (K5.out _ E3.out).mono ?_
  rintro e w4 ⟨rfl, b4⟩
  have hc4 : ∀ o, w4.cell? ⟨w.heap.size, o, none⟩ = w3.cell? ⟨w.heap.size, o, none⟩ := fun o => b4.cell (p := ⟨_, o, none⟩) z3
  have E4 := Lib.hid (E3.out.below b4)
  have B4 := Lib.hid (B3.out.trans (b4.mono B3.out.size))
  have z4 := Nat.lt_of_lt_of_le z3 b4.size
  clear b4 B3 E3
  go_wp2_with fail
  refine (K6.out _ E4.out).mono ?_
  rintro e w5 ⟨rfl, b5⟩
  have hc5 : ∀ o, w5.cell? ⟨w.heap.size, o, none⟩ = w4.cell? ⟨w.heap.size, o, none⟩ := fun o => b5.cell (p := ⟨_, o, none⟩) z4
  have E5 := Lib.hid (E4.out.below b5)
  have B5 := Lib.hid (B4.out.trans (b5.mono B4.out.size))
  have z5 := Nat.lt_of_lt_of_le z4 b5.size
  clear b5 B4 E4
  go_wp2_with fail
  refine (K7.out _ E5.out).mono ?_
  rintro e w6 ⟨rfl, b6⟩
  have hc6 : ∀ o, w6.cell? ⟨w.heap.size, o, none⟩ = w5.cell? ⟨w.heap.size, o, none⟩ := fun o => b6.cell (p := ⟨_, o, none⟩) z5
  have E6 := Lib.hid (E5.out.below b6)
  have B6 := Lib.hid (B5.out.trans (b6.mono B5.out.size))
  have z6 := Nat.lt_of_lt_of_le z5 b6.size
  clear b6 B5 E5
  go_wp2_with fail
  refine (K8.out _).mono ?_
  rintro e w' ⟨rfl, rfl⟩
  go_wp2_with fail
  refine (K9.out _).mono ?_
  rintro e w' ⟨rfl, rfl⟩
  have c0 : w6.cell? ⟨w.heap.size, 0, none⟩ = some (.int .u64 n0) := by rw [hc6, hc5, hc4, hc3, hc2, hc1 _ _ (by simp)]; simp
  have c1 : w6.cell? ⟨w.heap.size, 1, none⟩ = some (.int .u64 n1) := by rw [hc6, hc5, hc4, hc3, hc2, hc1 _ _ (by simp)]; simp
  clear hc1 hc2 hc3 hc4 hc5 hc6 K1 K2 K3 K4 K5 K6 K7 K8 K9 z1 z2 z3 z4 z5
  clear K3'
  go_wp2_with fail
  have ca : ∀ k : Nat, k < 5 → ((w6.alloc (Obj.cells #[Value.int IntKind.i64 16, Value.int IntKind.i64 32, Value.int IntKind.i64 48, Value.int IntKind.i64 96, Value.int IntKind.i64 112] 3)).alloc (Obj.cells #[Value.int IntKind.i64 80, Value.int IntKind.i64 176, Value.int IntKind.i64 160, Value.int IntKind.i64 208, Value.int IntKind.i64 192] 3)).cell? ⟨w6.heap.size, k, none⟩ = some (.int .i64 (opA k)) := fun k hk => by
    have hk' : k = 0 ∨ k = 1 ∨ k = 2 ∨ k = 3 ∨ k = 4 := by omega
    rcases hk' with rfl | rfl | rfl | rfl | rfl <;> simp [opA]
  have cb : ∀ k : Nat, k < 5 → ((w6.alloc (Obj.cells #[Value.int IntKind.i64 16, Value.int IntKind.i64 32, Value.int IntKind.i64 48, Value.int IntKind.i64 96, Value.int IntKind.i64 112] 3)).alloc (Obj.cells #[Value.int IntKind.i64 80, Value.int IntKind.i64 176, Value.int IntKind.i64 160, Value.int IntKind.i64 208, Value.int IntKind.i64 192] 3)).cell? ⟨w6.heap.size + 1, k, none⟩ = some (.int .i64 (opB k)) := fun k hk => by
    have hk' : k = 0 ∨ k = 1 ∨ k = 2 ∨ k = 3 ∨ k = 4 := by omega
    rcases hk' with rfl | rfl | rfl | rfl | rfl <;> simp [opB]
  have BB := two_boxes w6 (Obj.cells #[Value.int IntKind.i64 16, Value.int IntKind.i64 32, Value.int IntKind.i64 48, Value.int IntKind.i64 96, Value.int IntKind.i64 112] 3) (Obj.cells #[Value.int IntKind.i64 80, Value.int IntKind.i64 176, Value.int IntKind.i64 160, Value.int IntKind.i64 208, Value.int IntKind.i64 192] 3)
  have d0 := (BB.cell (p := ⟨w.heap.size, 0, none⟩) z6).trans c0
  have d1 := (BB.cell (p := ⟨w.heap.size, 1, none⟩) z6).trans c1
  have E7 := E6.out.below BB
  have B7 := B6.out.trans (BB.mono B6.out.size)
  have CA := Lib.hid ca
  have CB := Lib.hid cb
  clear ca cb c0 c1 BB E6 B6
  generalize ((w6.alloc (Obj.cells #[Value.int IntKind.i64 16, Value.int IntKind.i64 32, Value.int IntKind.i64 48, Value.int IntKind.i64 96, Value.int IntKind.i64 112] 3)).alloc (Obj.cells #[Value.int IntKind.i64 80, Value.int IntKind.i64 176, Value.int IntKind.i64 160, Value.int IntKind.i64 208, Value.int IntKind.i64 192] 3)) = W at *
  have INV : RulesInv w w.heap.size w6.heap.size (w6.heap.size + 1) n0 n1 W := ⟨CA.out, CB.out, d0, d1, E7, B7⟩
  clear E7 B7 z6 CA CB d0 d1
  go_loopw [21] (fun i wr => ∃ k : Nat, k ≤ 5 ∧ i = .int .i64 k ∧ RulesInv w w.heap.size w6.heap.size (w6.heap.size + 1) n0 n1 wr) (fun i _ => 5 - (intOf i).toNat)
  case atStart => exact ⟨0, by decide, rfl, INV⟩
  case round =>
    obtain ⟨k, hk, rfl, hinv⟩ := hrel
    by_cases hlt : k < 5
    · obtain ⟨tb, ta1, ta2⟩ := TT.out k hlt
      have fa := hinv.a k hlt
      have fb := hinv.b k hlt
      have f0 := hinv.c0
      have f1 := hinv.c1
      have T1 := Lib.hid ta1
      have T2 := Lib.hid ta2
      clear ta1 ta2
      have hk1 : (0 : Int) ≤ (k : Int) := by omega
      have hk2 : (k : Int) < 5 := by omega
      go_wp2_with fail
      go_quiet ((go_at_call 18; exact quiet_left (T1.out _)))
      go_wp2_with fail
      go_quiet ((go_at_call 18; exact quiet_add_left (T2.out _)))
      cases tb
      all_goals
        go_wp2
        go_roundw
        case rel => exact ⟨k + 1, by omega, by go_num, hinv.drewN _⟩
        case measure => simp [intOf]; omega
    · have f0 := hinv.c0
      have HINV := Lib.hid hinv
      clear hinv
      go_wp2_with fail
      refine (awake_true _ HINV.out.e).mono ?_
      rintro e w8 ⟨rfl, b8⟩
      have B8 := HINV.out.bl.trans (b8.mono HINV.out.bl.size)
      clear b8
      go_wp2
      go_ret
      exact ⟨rfl, B8⟩
theorem rules_walk (n0 n1 : Int) (wide : Bool) (h0 : 0 ≤ n0) (h0' : n0 ≤ 18446744073709551615) (h1 : 0 ≤ n1) (h1' : n1 ≤ 18446744073709551615) (w : World) (hE : Edges w) :
    Calls Tryd.prog 7 #[.agg #[.int .u64 n0, .int .u64 n1], .bool wide] w fun e w' => e = .returned (.bool true) ∧ Below w.heap.size w w' := by
  cases wide
  · exact rules_f n0 n1 h0 h0' h1 h1' w hE
  · exact rules_t n0 n1 h0 h0' h1 h1' w hE
end Go.Proofs.YtaghpmnjencmjaaDoor
