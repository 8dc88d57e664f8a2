/-
  Layer 15's example.
-/
import Derived.Test.YthgfaajclghjhaaPShift2
import Derived.Test.YthgfaajclghjhaaPOf
import Derived.Deep.RegionHeld3
namespace Go.Proofs.Ythgfaajclghjhaa
open Go Go.RowKit Go.Maps Tn
set_option linter.unusedVariables false
set_option linter.unusedSimpArgs false
set_option maxRecDepth 100000
/-- A tnum of two numerals. -/
abbrev lv (a b : Int) : Value := .agg #[.int .u64 a, .int .u64 b]
structure AW (w : World) (g1 g3 : Nat) (W : World) : Prop where
  a : Blk W g1 tnT #[.int .u64 4, .int .u64 1]
  b : Blk W g3 tnT #[.int .u64 2, .int .u64 0]
  below : Below w.heap.size w W
theorem AW.keeps {w W W' : World} {g1 g3 : Nat} (h : AW w g1 g3 W) (k : Keeps (fun _ => False) W W') : AW w g1 g3 W' := ⟨h.a.keeps k (fun h => h), h.b.keeps k (fun h => h), h.below.trans (k.below (fun _ h => h.elim) h.below.size)⟩
theorem AW.call {w W W' : World} {g1 g3 : Nat} (h : AW w g1 g3 W) (k : Below W.heap.size W W') : AW w g1 g3 W' := h.keeps (keeps_below k)
theorem AW.cells {w W : World} {g1 g3 : Nat} (h : AW w g1 g3 W) : W.cell? ⟨g1, 0, none⟩ = some (.int .u64 4) ∧ W.cell? ⟨g1, 1, none⟩ = some (.int .u64 1) ∧ W.cell? ⟨g3, 0, none⟩ = some (.int .u64 2) ∧ W.cell? ⟨g3, 1, none⟩ = some (.int .u64 0) := ⟨h.a.cell 0, h.a.cell 1, h.b.cell 0, h.b.cell 1⟩
theorem aw_c1 (W : World) : Calls Try.prog 33 #[.int .u64 1] W fun e w' => e = .returned (lv 1 0) ∧ Below W.heap.size W w' := pconst_any 1 W
theorem aw_c2 (W : World) : Calls Try.prog 33 #[.int .u64 2] W fun e w' => e = .returned (lv 2 0) ∧ Below W.heap.size W w' := pconst_any 2 W
theorem aw_c3 (W : World) : Calls Try.prog 33 #[.int .u64 3] W fun e w' => e = .returned (lv 3 0) ∧ Below W.heap.size W w' := pconst_any 3 W
theorem aw_c4 (W : World) : Calls Try.prog 33 #[.int .u64 4] W fun e w' => e = .returned (lv 4 0) ∧ Below W.heap.size W w' := pconst_any 4 W
theorem aw_bin (W : World) : Calls Try.prog 10 #[.int .i64 0, lv 0 1, lv 4 0] W fun e w' => e = .returned (.tuple #[lv 4 1, .int .i64 0]) ∧ Below W.heap.size W w' := by
  have := pbin_any 0 (0, 1) (4, 0) W
  rw [show binT 0 (0, 1) (4, 0) = (4, 1) by decide +kernel] at this
  exact this
theorem aw_bin48 (W : World) : Calls Try.prog 10 #[.int .i64 48, lv 4 1, lv 2 0] W fun e w' => e = .returned (.tuple #[lv 0 0, .int .i64 1]) ∧ Below W.heap.size W w' := by
  have := pbin_any 48 (4, 1) (2, 0) W
  rw [show binT 48 (4, 1) (2, 0) = (0, 0) by decide +kernel] at this
  exact this
theorem aw_meet (W : World) : Calls Try.prog 19 #[lv 0 3, lv 2 0] W fun e w' => e = .returned (.tuple #[lv 2 0, .bool true]) ∧ Below W.heap.size W w' := by
  have := pmeet_any (0, 3) (2, 0) W
  rw [show meetV (0, 3) (2, 0) = (2, 0) by decide +kernel, show decide (agree (0, 3) (2, 0)) = true by decide +kernel] at this
  exact this
theorem aw_of (W : World) : Calls Try.prog 25 #[.int .u64 4, .int .u64 6] W fun e w' => e = .returned (lv 4 3) ∧ Below W.heap.size W w' := by
  have := pof_any 4 6 W
  have e : tRange 4 6 = (4, 3) := by
    unfold tRange
    have h1 : blen ((4 : B64) ^^^ 6) = 2 := by
      unfold blen
      rw [show ((4 : B64) ^^^ 6).toNat = 2 by decide +kernel, lenN_pos (by decide), lenN_pos (by decide), show 2 / 2 / 2 = 0 by decide, lenN_zero]
    rw [h1]
    decide +kernel
  rw [e] at this
  exact this
theorem aw_join (W : World) : Calls Try.prog 23 #[lv 1 0, lv 3 0] W fun e w' => e = .returned (lv 1 2) ∧ Below W.heap.size W w' := by
  have := pjoin_any (1, 0) (3, 0) W
  rw [show tJoin (1, 0) (3, 0) = (1, 2) by decide +kernel] at this
  exact this
theorem aw_unknown (W : World) : Calls Try.prog 29 #[] W fun e w' => e = .returned (lv 0 18446744073709551615) ∧ Below W.heap.size W w' := punknown_any W
theorem aw_has (W : World) : Calls Try.prog 17 #[lv 0 18446744073709551615, .int .u64 7] W fun e w' => e = .returned (.bool true) ∧ Below W.heap.size W w' := by
  have := phas_any (0, ~~~0) 7 W
  rw [show decide (has (0, ~~~0) 7) = true by decide +kernel] at this
  exact this
set_option maxHeartbeats 1000000 in
theorem awake_any (w : World) : Calls Try.prog 12 #[] w fun e w' => e = .returned (.bool true) ∧ Below w.heap.size w w' := by
  have C4 := Lib.hid aw_c4
  have C2 := Lib.hid aw_c2
  have C1 := Lib.hid aw_c1
  have C3 := Lib.hid aw_c3
  have CB := Lib.hid aw_bin
  have CB2 := Lib.hid aw_bin48
  have CM := Lib.hid aw_meet
  have CO := Lib.hid aw_of
  have CJ := Lib.hid aw_join
  have CU := Lib.hid aw_unknown
  have CH := Lib.hid aw_has
  go_enter Try.func12, Try.ntmps12
  go_upto_region 3 with (first
    | (go_at_call 33; first | (refine (C4.out _).mono ?_; rintro e w1 ⟨rfl, hb1⟩; have HB1 := Lib.hid hb1; clear hb1) | (refine (C2.out _).mono ?_; rintro e w3 ⟨rfl, hb3⟩; have HB3 := Lib.hid hb3; clear hb3))
    | (go_at_call 10; refine (CB.out _).mono ?_; rintro e w2 ⟨rfl, hb2⟩; have HB2 := Lib.hid hb2; clear hb2)
    | (go_at_call 19; refine (CM.out _).mono ?_; rintro e w4 ⟨rfl, hb4⟩; have HB4 := Lib.hid hb4; clear hb4))
  have hA : AW w w2.heap.size w4.heap.size (w4.alloc (.cells #[.int .u64 2, .int .u64 0] tnT)) := by
    have b1 := HB1.out
    have b2 := HB2.out
    have b3 := HB3.out
    have b4 := HB4.out
    have s1 := b1.size
    have s2 := b2.size
    have s3 := b3.size
    have s4 := b4.size
    have e : (w2.alloc (.cells #[.int .u64 4, .int .u64 1] tnT)).heap.size = w2.heap.size + 1 := by simp
    rw [e] at s3
    exact ⟨(((Blk.new w2 tnT _).keeps (keeps_below b3) (fun h => h)).keeps (keeps_below b4) (fun h => h)).alloc _, Blk.new w4 tnT _, ((((b1.trans (b2.mono s1)).alloc (Nat.le_trans s1 s2) _).trans (b3.mono (by rw [e]; omega))).trans (b4.mono (by omega))).alloc (by omega) _⟩
  generalize w2.heap.size = g1 at *
  generalize hg3 : w4.heap.size = g3 at *
  generalize w4.alloc (.cells #[.int .u64 2, .int .u64 0] tnT) = wa at *
  clear HB1 HB2 HB3 HB4 hg3
  obtain ⟨c0, c1, c2, c3⟩ := hA.cells
  have HA := Lib.hid hA
  clear hA
  go_upto_region 4 with (go_at_call 10; refine (CB2.out _).mono ?_; rintro e w5 ⟨rfl, hb5⟩; have HA5 := Lib.hid (HA.out.call hb5); clear hb5)
  have hA6 := HA5.out.keeps ((Keeps.refl (fun _ => False) w5).alloc (.cells #[.int .u64 0, .int .u64 0] tnT))
  generalize w5.alloc (.cells #[.int .u64 0, .int .u64 0] tnT) = wb at *
  clear c0 c1 c2 c3 HA HA5
  obtain ⟨c0, c1, c2, c3⟩ := hA6.cells
  have HA6 := Lib.hid hA6
  have S0 : Hid (wb.cell? ⟨g1, 0, none⟩ = some (.int .u64 4) ∧ wb.cell? ⟨g1, 1, none⟩ = some (.int .u64 1) ∧ wb.cell? ⟨g3, 0, none⟩ = some (.int .u64 2) ∧ wb.cell? ⟨g3, 1, none⟩ = some (.int .u64 0)) := hA6.cells
  clear hA6
  go_region_held3 (fun W => W.cell? ⟨g1, 0, none⟩ = some (.int .u64 4) ∧ W.cell? ⟨g1, 1, none⟩ = some (.int .u64 1) ∧ W.cell? ⟨g3, 0, none⟩ = some (.int .u64 2) ∧ W.cell? ⟨g3, 1, none⟩ = some (.int .u64 0))
    (first | exact S0.out)
    (first
      | (go_at_call 25; refine (CO.out _).mono ?_; rintro e w7 ⟨rfl, hb⟩; have ha : AW w g1 g3 w7 := (by first | exact HA6.out.call hb | exact (HA6.out.keeps (keeps_drewN _ _)).call hb | exact (HA6.out.keeps (keeps_drew _)).call hb); have HA6 := Lib.hid ha; have S0 := Lib.hid ha.cells; clear ha hb)
      | (go_at_call 33; refine (C1.out _).mono ?_; rintro e w7 ⟨rfl, hb⟩; have ha : AW w g1 g3 w7 := (by first | exact HA6.out.call hb | exact (HA6.out.keeps (keeps_drewN _ _)).call hb | exact (HA6.out.keeps (keeps_drew _)).call hb); have HA6 := Lib.hid ha; have S0 := Lib.hid ha.cells; clear ha hb)
      | (go_at_call 33; refine (C3.out _).mono ?_; rintro e w7 ⟨rfl, hb⟩; have ha : AW w g1 g3 w7 := (by first | exact HA6.out.call hb | exact (HA6.out.keeps (keeps_drewN _ _)).call hb | exact (HA6.out.keeps (keeps_drew _)).call hb); have HA6 := Lib.hid ha; have S0 := Lib.hid ha.cells; clear ha hb)
      | (go_at_call 33; refine (C2.out _).mono ?_; rintro e w7 ⟨rfl, hb⟩; have ha : AW w g1 g3 w7 := (by first | exact HA6.out.call hb | exact (HA6.out.keeps (keeps_drewN _ _)).call hb | exact (HA6.out.keeps (keeps_drew _)).call hb); have HA6 := Lib.hid ha; have S0 := Lib.hid ha.cells; clear ha hb)
      | (go_at_call 23; refine (CJ.out _).mono ?_; rintro e w7 ⟨rfl, hb⟩; have ha : AW w g1 g3 w7 := (by first | exact HA6.out.call hb | exact (HA6.out.keeps (keeps_drewN _ _)).call hb | exact (HA6.out.keeps (keeps_drew _)).call hb); have HA6 := Lib.hid ha; have S0 := Lib.hid ha.cells; clear ha hb)
      | (go_at_call 29; refine (CU.out _).mono ?_; rintro e w7 ⟨rfl, hb⟩; have ha : AW w g1 g3 w7 := (by first | exact HA6.out.call hb | exact (HA6.out.keeps (keeps_drewN _ _)).call hb | exact (HA6.out.keeps (keeps_drew _)).call hb); have HA6 := Lib.hid ha; have S0 := Lib.hid ha.cells; clear ha hb)
      | (go_at_call 17; refine (CH.out _).mono ?_; rintro e w7 ⟨rfl, hb⟩; have ha : AW w g1 g3 w7 := (by first | exact HA6.out.call hb | exact (HA6.out.keeps (keeps_drewN _ _)).call hb | exact (HA6.out.keeps (keeps_drew _)).call hb); have HA6 := Lib.hid ha; have S0 := Lib.hid ha.cells; clear ha hb))
  go_wp2_with fail
  go_ret
  exact ⟨rfl, HA6.out.below⟩
end Go.Proofs.Ythgfaajclghjhaa
