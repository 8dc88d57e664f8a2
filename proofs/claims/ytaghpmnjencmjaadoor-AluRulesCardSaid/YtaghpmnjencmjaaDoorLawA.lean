/-
  The laws' shared part awake is true wherever the package's table reads as its text lays it; the laws AluBins, AluBits and AluTests, walked.
-/
import Derived.Test.YtaghpmnjencmjaaDoorBinAll
import Derived.Test.YtaghpmnjencmjaaDoorRefAll
import Derived.Test.YtaghpmnjencmjaaDoorTest
import Derived.Test.YtaghpmnjencmjaaDoorSwap
namespace Go.Proofs.YtaghpmnjencmjaaDoor
open Go.RowKit (wrap32 wrap64 Below Hid)
set_option linter.unusedVariables false

theorem awake_true (w : World) (hE : Edges w) : Calls Tryd.prog 11 #[] w fun e w' => e = .returned (.bool true) ∧ Below w.heap.size w w' := by
  have k1 : ∀ W, Edges W → BinGives 48 true false 7 0 W 0 0 := fun W h => bin_any true 7 0 W (by decide) (by decide) (by decide) (by decide) h 48 false
  have k2 : ∀ W, Edges W → BinGives 144 true false 7 0 W 7 0 := fun W h => bin_any true 7 0 W (by decide) (by decide) (by decide) (by decide) h 144 false
  have k3 : ∀ W, Edges W → BinGives 96 false false 1 33 W 2 0 := fun W h => bin_any false 1 33 W (by decide) (by decide) (by decide) (by decide) h 96 false
  have k4 : ∀ W, Gives2 14 #[.int .u64 258, .int .i64 16] W 513 0 := fun W => swap_any 16 258 (by decide) (by decide) W
  have k5 : ∀ W, Gives2 12 #[.int .u64 128, .int .i64 8, .bool true] W 18446744073709551488 0 := fun W => ext_any 8 true 128 (by decide) (by decide) W
  have k6 : ∀ W, TestGives 16 false 4294967297 1 W true 0 := fun W => test_any 4294967297 1 (by decide) (by decide) (by decide) (by decide) W 16 false
  have K1 := Lib.hid k1
  have K2 := Lib.hid k2
  have K3 := Lib.hid k3
  have K4 := Lib.hid k4
  have K5 := Lib.hid k5
  have K6 := Lib.hid k6
  have HE := Lib.hid hE
  clear k1 k2 k3 k4 k5 k6 hE
  go_enter Tryd.func11, Tryd.ntmps11
  go_wp2_with fail
  refine (K1.out _ HE.out).mono ?_
  rintro e w1 ⟨rfl, b1⟩
  have E1 := Lib.hid (HE.out.below b1)
  go_wp2_with fail
  refine (K2.out _ E1.out).mono ?_
  rintro e w2 ⟨rfl, b2⟩
  have E2 := Lib.hid (E1.out.below b2)
  go_wp2_with fail
  refine (K3.out _ E2.out).mono ?_
  rintro e w3 ⟨rfl, b3⟩
  have B : Below w.heap.size w w3 := (b1.trans (b2.mono b1.size)).trans (b3.mono (Nat.le_trans b1.size b2.size))
  clear b1 b2 b3
  go_wp2_with fail
  refine (K4.out _).mono ?_
  rintro e w' ⟨rfl, rfl⟩
  go_wp2_with fail
  refine (K5.out _).mono ?_
  rintro e w' ⟨rfl, rfl⟩
  go_wp2_with fail
  refine (K6.out _).mono ?_
  rintro e w' ⟨rfl, rfl⟩
  go_wp2
  go_ret
  exact ⟨rfl, B⟩

theorem cells_of {W w1 : World} (hb : Below W.heap.size W w1) : ∀ b o, b < W.heap.size → w1.cell? ⟨b, o, none⟩ = W.cell? ⟨b, o, none⟩ := fun b o h => hb.cell (p := ⟨b, o, none⟩) h
theorem two_boxes (w : World) (o1 o2 : Obj) : Below w.heap.size w ((w.alloc o1).alloc o2) := ((Below.refl _ _).alloc (Nat.le_refl _) _).alloc (by simp) _
theorem one_box (w : World) (o1 : Obj) : Below w.heap.size w (w.alloc o1) := (Below.refl _ _).alloc (Nat.le_refl _) _

theorem bins_walk (op : Int) (wide signed : Bool) (a b : Int) (ha : 0 ≤ a) (ha' : a ≤ 18446744073709551615) (hb : 0 ≤ b) (hb' : b ≤ 18446744073709551615) (w : World) (hE : Edges w) :
    Calls Tryd.prog 3 #[.int .i64 op, .agg #[.bool wide, .bool signed], .agg #[.int .u64 a, .int .u64 b]] w fun e w' => e = .returned (.bool true) ∧ Below w.heap.size w w' := by
  have HE := Lib.hid hE
  clear hE
  go_enter Tryd.func3, Tryd.ntmps3
  go_wp2_with fail
  refine (bin_any wide a b _ ha ha' hb hb' (by exact HE.out.below (two_boxes _ _ _)) op signed).mono ?_
  rintro e w1 ⟨rfl, b1⟩
  have hc := cells_of b1
  have E1 := Lib.hid (HE.out.below ((two_boxes _ _ _).trans (b1.mono (by simp; omega))))
  have B1 := Lib.hid ((two_boxes _ _ _).trans (b1.mono (B' := w.heap.size) (by simp; omega)))
  clear b1
  go_wp2_with fail
  refine (ref_any a b ha ha' hb hb' _ op wide signed).mono ?_
  rintro e w' ⟨rfl, rfl⟩
  go_wp2_with fail
  refine (awake_true _ E1.out).mono ?_
  rintro e w2 ⟨rfl, b2⟩
  have B2 := B1.out.trans (b2.mono B1.out.size)
  clear b2 B1 E1 hc
  go_wp2
  go_ret
  exact ⟨rfl, B2⟩
theorem tests_walk (op : Int) (wide : Bool) (a b : Int) (ha : 0 ≤ a) (ha' : a ≤ 18446744073709551615) (hb : 0 ≤ b) (hb' : b ≤ 18446744073709551615) (w : World) (hE : Edges w) :
    Calls Tryd.prog 5 #[.int .i64 op, .bool wide, .agg #[.int .u64 a, .int .u64 b]] w fun e w' => e = .returned (.bool true) ∧ Below w.heap.size w w' := by
  have HE := Lib.hid hE
  clear hE
  go_enter Tryd.func5, Tryd.ntmps5
  go_wp2_with fail
  refine (test_any a b ha ha' hb hb' _ op wide).mono ?_
  rintro e w' ⟨rfl, rfl⟩
  go_wp2_with fail
  refine (reftest_any a b ha ha' hb hb' _ op wide).mono ?_
  rintro e w' ⟨rfl, rfl⟩
  go_wp2_with fail
  refine (awake_true _ (by exact HE.out.below (one_box _ _))).mono ?_
  rintro e w2 ⟨rfl, b2⟩
  have B2 := (one_box _ _).trans (b2.mono (B' := w.heap.size) (by simp))
  clear b2
  go_wp2
  go_ret
  exact ⟨rfl, B2⟩
theorem bits_walk (n bits : Int) (wide : Bool) (h : 0 ≤ n) (h' : n ≤ 18446744073709551615) (w : World) (hE : Edges w) :
    Calls Tryd.prog 4 #[.int .u64 n, .int .i64 bits, .bool wide] w fun e w' => e = .returned (.bool true) ∧ Below w.heap.size w w' := by
  have HE := Lib.hid hE
  clear hE
  go_enter Tryd.func4, Tryd.ntmps4
  go_wp2_with fail
  refine (ext_any bits wide n h h' _).mono ?_
  rintro e w' ⟨rfl, rfl⟩
  go_wp2_with fail
  refine (rext_any bits wide n h h' _).mono ?_
  rintro e w' ⟨rfl, rfl⟩
  go_wp2_with fail
  refine (swap_any bits n h h' _).mono ?_
  rintro e w' ⟨rfl, rfl⟩
  go_wp2_with fail
  refine (rswap_any bits n h h' _).mono ?_
  rintro e w' ⟨rfl, rfl⟩
  go_wp2_with fail
  refine (cut_any bits n h h' _).mono ?_
  rintro e w' ⟨rfl, rfl⟩
  go_wp2_with fail
  refine (rcut_any bits n h h' _).mono ?_
  rintro e w' ⟨rfl, rfl⟩
  go_wp2_with fail
  refine (awake_true _ HE.out).mono ?_
  rintro e w2 ⟨rfl, b2⟩
  go_wp2
  go_ret
  exact ⟨rfl, b2⟩
end Go.Proofs.YtaghpmnjencmjaaDoor
