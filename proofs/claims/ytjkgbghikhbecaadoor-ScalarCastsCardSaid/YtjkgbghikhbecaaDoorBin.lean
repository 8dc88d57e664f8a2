/-
  Package alu's Bin, walked: what it returns in each of its ways, for any row of its table and any numbers.
-/
import Derived.Test.YtjkgbghikhbecaaDoorMeet
import Derived.Deep.RegionHeld3
namespace Go.Proofs.YtjkgbghikhbecaaDoor
open Go.RowKit (wrap32 wrap64 Below Hid)
set_option linter.unusedVariables false
/-- Row i of the table reads so. -/
structure RowIs (w : World) (i : Nat) (o p q z v : Int) (s : Bool) : Prop where
  c0 : w.cell? ⟨0, i * 6, none⟩ = some (.int .i64 o)
  c1 : w.cell? ⟨0, i * 6 + 1, none⟩ = some (.bool s)
  c2 : w.cell? ⟨0, i * 6 + 2, none⟩ = some (.int .u64 p)
  c3 : w.cell? ⟨0, i * 6 + 3, none⟩ = some (.int .u64 q)
  c4 : w.cell? ⟨0, i * 6 + 4, none⟩ = some (.int .i64 z)
  c5 : w.cell? ⟨0, i * 6 + 5, none⟩ = some (.int .i64 v)

theorem bin_out (op : Int) (h : op < 0 ∨ 192 < op) (wide signed : Bool) (a b : Int) (w : World) :
    Calls Tryd.prog 46 #[.int .i64 op, .bool wide, .bool signed, .int .u64 a, .int .u64 b] w fun e w' => e = .returned (.tuple #[.int .u64 0, .int .i64 1]) ∧ Below w.heap.size w w' := by
  rcases h with h | h
  · go_enter Tryd.func46, Tryd.ntmps46
    go_wp2
    go_ret2
    exact ⟨rfl, (Below.refl _ _)⟩
  · have h0 : 0 ≤ op := by omega
    go_enter Tryd.func46, Tryd.ntmps46
    go_wp2
    go_ret2
    exact ⟨rfl, (Below.refl _ _)⟩
theorem bin_ne (op : Int) (h0 : 0 ≤ op) (h1 : op ≤ 192) (i : Nat) (hi : i = (op / 16).toNat) (o p q z v : Int) (s : Bool) (wide signed : Bool) (a b : Int) (w : World) (hr : RowIs w i o p q z v s) (hne : (o == op) = false) (hne' : (o != op) = true) :
    Calls Tryd.prog 46 #[.int .i64 op, .bool wide, .bool signed, .int .u64 a, .int .u64 b] w fun e w' => e = .returned (.tuple #[.int .u64 0, .int .i64 1]) ∧ Below w.heap.size w w' := by
  obtain ⟨c0, c1, c2, c3, c4, c5⟩ := hr
  subst hi
  have hidx : (op / 16).toNat ≤ 12 := by omega
  go_enter Tryd.func46, Tryd.ntmps46
  go_wp2
  go_ret2
  exact ⟨rfl, (Below.refl _ _).alloc (Nat.le_refl _) _⟩
theorem bin_sg (op : Int) (h0 : 0 ≤ op) (h1 : op ≤ 192) (i : Nat) (hi : i = (op / 16).toNat) (p q z v : Int) (wide : Bool) (a b : Int) (w : World) (hr : RowIs w i op p q z v false) :
    Calls Tryd.prog 46 #[.int .i64 op, .bool wide, .bool true, .int .u64 a, .int .u64 b] w fun e w' => e = .returned (.tuple #[.int .u64 0, .int .i64 1]) ∧ Below w.heap.size w w' := by
  obtain ⟨c0, c1, c2, c3, c4, c5⟩ := hr
  subst hi
  have hidx : (op / 16).toNat ≤ 12 := by omega
  go_enter Tryd.func46, Tryd.ntmps46
  go_wp2
  go_ret2
  exact ⟨rfl, (Below.refl _ _).alloc (Nat.le_refl _) _⟩
def pick (wide : Bool) (p q : Int) : Int := if wide then p else q
theorem part_any (o p q z v : Int) (s wide : Bool) (w : World) :
    Calls Tryd.prog 49 #[.agg #[.int .i64 o, .bool s, .int .u64 p, .int .u64 q, .int .i64 z, .int .i64 v], .bool wide] w
      fun e w' => e = .returned (.int .u64 (pick wide p q)) ∧ Below w.heap.size w w' := by
  cases wide
  · exact part_f o p q z v s w
  · exact part_t o p q z v s w
theorem bin_m1 (op : Int) (h0 : 0 ≤ op) (h1 : op ≤ 192) (i : Nat) (hi : i = (op / 16).toNat) (p q z v : Int) (s wide signed : Bool) (hs : signed = false ∨ (signed = true ∧ s = true)) (a b : Int) (w : World) (hr : RowIs w i op p q z v s)
    (hM : Hid (∀ W, Calls Tryd.prog 50 #[.agg #[.int .i64 op, .bool s, .int .u64 p, .int .u64 q, .int .i64 z, .int .i64 v], .bool wide, .bool signed, .int .u64 (bits .and .u64 a (mask wide)), .int .u64 (bits .and .u64 b (pick wide p q))] W fun e w' => e = .returned (.int .i64 1) ∧ Below W.heap.size W w')) :
    Calls Tryd.prog 46 #[.int .i64 op, .bool wide, .bool signed, .int .u64 a, .int .u64 b] w fun e w' => e = .returned (.tuple #[.int .u64 0, .int .i64 0]) ∧ Below w.heap.size w w' := by
  obtain ⟨c0, c1, c2, c3, c4, c5⟩ := hr
  subst hi
  have hidx : (op / 16).toNat ≤ 12 := by omega
  rcases hs with rfl | ⟨rfl, rfl⟩
  · go_enter Tryd.func46, Tryd.ntmps46
    go_wp2
    have hB0 : Below w.heap.size w (w.alloc (Obj.cells #[Value.int IntKind.i64 op, Value.bool s, Value.int IntKind.u64 p, Value.int IntKind.u64 q, Value.int IntKind.i64 z, Value.int IntKind.i64 v] 75)).drew := ((Below.refl _ _).alloc (Nat.le_refl _) _).drew
    go_region_held3 (fun w' => w'.cell? ⟨w.heap.size, 0, none⟩ = some (.int .i64 op) ∧ w'.cell? ⟨w.heap.size, 1, none⟩ = some (.bool s) ∧ w'.cell? ⟨w.heap.size, 2, none⟩ = some (.int .u64 p) ∧ w'.cell? ⟨w.heap.size, 3, none⟩ = some (.int .u64 q) ∧ w'.cell? ⟨w.heap.size, 4, none⟩ = some (.int .i64 z) ∧ w'.cell? ⟨w.heap.size, 5, none⟩ = some (.int .i64 v) ∧ Below w.heap.size w w' ∧ w.heap.size < w'.heap.size)
      (first
        | go_keep
        | (obtain ⟨k0, k1, k2, k3, k4, k5, k6, k7⟩ := ‹_ ∧ _›
           refine ⟨?_, ?_, ?_, ?_, ?_, ?_, ?_, ?_⟩
           all_goals first
             | (rw [hb.cell (by assumption)]; assumption)
             | exact k6.trans (hb.mono (by omega))
             | (have := hb.size; omega)))
      (first
        | (go_at_call 48; refine (mask_any _ _).mono ?_; rintro e w' ⟨rfl, rfl⟩)
        | (go_at_call 49; refine (part_any _ _ _ _ _ _ _ _).mono ?_; rintro e w1 ⟨rfl, hb⟩))
    go_wp2_with fail
    obtain ⟨_, _, _, _, _, _, k6, k7⟩ := ‹_ ∧ _›
    clear hb hB0
    refine (hM.out _).mono ?_
    rintro e w2 ⟨rfl, hb2⟩
    have hW : Below w.heap.size w w2 := k6.trans (hb2.mono (by omega))
    clear k6 k7 hb2
    go_wp2
    go_ret2
    exact ⟨rfl, hW⟩
  · go_enter Tryd.func46, Tryd.ntmps46
    go_wp2
    have hB0 : Below w.heap.size w (w.alloc (Obj.cells #[Value.int IntKind.i64 op, Value.bool true, Value.int IntKind.u64 p, Value.int IntKind.u64 q, Value.int IntKind.i64 z, Value.int IntKind.i64 v] 75)).drew := ((Below.refl _ _).alloc (Nat.le_refl _) _).drew
    go_region_held3 (fun w' => w'.cell? ⟨w.heap.size, 0, none⟩ = some (.int .i64 op) ∧ w'.cell? ⟨w.heap.size, 1, none⟩ = some (.bool true) ∧ w'.cell? ⟨w.heap.size, 2, none⟩ = some (.int .u64 p) ∧ w'.cell? ⟨w.heap.size, 3, none⟩ = some (.int .u64 q) ∧ w'.cell? ⟨w.heap.size, 4, none⟩ = some (.int .i64 z) ∧ w'.cell? ⟨w.heap.size, 5, none⟩ = some (.int .i64 v) ∧ Below w.heap.size w w' ∧ w.heap.size < w'.heap.size)
      (first
        | go_keep
        | (obtain ⟨k0, k1, k2, k3, k4, k5, k6, k7⟩ := ‹_ ∧ _›
           refine ⟨?_, ?_, ?_, ?_, ?_, ?_, ?_, ?_⟩
           all_goals first
             | (rw [hb.cell (by assumption)]; assumption)
             | exact k6.trans (hb.mono (by omega))
             | (have := hb.size; omega)))
      (first
        | (go_at_call 48; refine (mask_any _ _).mono ?_; rintro e w' ⟨rfl, rfl⟩)
        | (go_at_call 49; refine (part_any _ _ _ _ _ _ _ _).mono ?_; rintro e w1 ⟨rfl, hb⟩))
    go_wp2_with fail
    obtain ⟨_, _, _, _, _, _, k6, k7⟩ := ‹_ ∧ _›
    clear hb hB0
    refine (hM.out _).mono ?_
    rintro e w2 ⟨rfl, hb2⟩
    have hW : Below w.heap.size w w2 := k6.trans (hb2.mono (by omega))
    clear k6 k7 hb2
    go_wp2
    go_ret2
    exact ⟨rfl, hW⟩
theorem bin_m2 (op : Int) (h0 : 0 ≤ op) (h1 : op ≤ 192) (i : Nat) (hi : i = (op / 16).toNat) (p q z v : Int) (s wide signed : Bool) (hs : signed = false ∨ (signed = true ∧ s = true)) (a b : Int) (w : World) (hr : RowIs w i op p q z v s)
    (hM : Hid (∀ W, Calls Tryd.prog 50 #[.agg #[.int .i64 op, .bool s, .int .u64 p, .int .u64 q, .int .i64 z, .int .i64 v], .bool wide, .bool signed, .int .u64 (bits .and .u64 a (mask wide)), .int .u64 (bits .and .u64 b (pick wide p q))] W fun e w' => e = .returned (.int .i64 2) ∧ Below W.heap.size W w')) :
    Calls Tryd.prog 46 #[.int .i64 op, .bool wide, .bool signed, .int .u64 a, .int .u64 b] w fun e w' => e = .returned (.tuple #[.int .u64 (bits .and .u64 a (mask wide)), .int .i64 0]) ∧ Below w.heap.size w w' := by
  obtain ⟨c0, c1, c2, c3, c4, c5⟩ := hr
  subst hi
  have hidx : (op / 16).toNat ≤ 12 := by omega
  rcases hs with rfl | ⟨rfl, rfl⟩
  · go_enter Tryd.func46, Tryd.ntmps46
    go_wp2
    have hB0 : Below w.heap.size w (w.alloc (Obj.cells #[Value.int IntKind.i64 op, Value.bool s, Value.int IntKind.u64 p, Value.int IntKind.u64 q, Value.int IntKind.i64 z, Value.int IntKind.i64 v] 75)).drew := ((Below.refl _ _).alloc (Nat.le_refl _) _).drew
    go_region_held3 (fun w' => w'.cell? ⟨w.heap.size, 0, none⟩ = some (.int .i64 op) ∧ w'.cell? ⟨w.heap.size, 1, none⟩ = some (.bool s) ∧ w'.cell? ⟨w.heap.size, 2, none⟩ = some (.int .u64 p) ∧ w'.cell? ⟨w.heap.size, 3, none⟩ = some (.int .u64 q) ∧ w'.cell? ⟨w.heap.size, 4, none⟩ = some (.int .i64 z) ∧ w'.cell? ⟨w.heap.size, 5, none⟩ = some (.int .i64 v) ∧ Below w.heap.size w w' ∧ w.heap.size < w'.heap.size)
      (first
        | go_keep
        | (obtain ⟨k0, k1, k2, k3, k4, k5, k6, k7⟩ := ‹_ ∧ _›
           refine ⟨?_, ?_, ?_, ?_, ?_, ?_, ?_, ?_⟩
           all_goals first
             | (rw [hb.cell (by assumption)]; assumption)
             | exact k6.trans (hb.mono (by omega))
             | (have := hb.size; omega)))
      (first
        | (go_at_call 48; refine (mask_any _ _).mono ?_; rintro e w' ⟨rfl, rfl⟩)
        | (go_at_call 49; refine (part_any _ _ _ _ _ _ _ _).mono ?_; rintro e w1 ⟨rfl, hb⟩))
    go_wp2_with fail
    obtain ⟨_, _, _, _, _, _, k6, k7⟩ := ‹_ ∧ _›
    clear hb hB0
    refine (hM.out _).mono ?_
    rintro e w2 ⟨rfl, hb2⟩
    have hW : Below w.heap.size w w2 := k6.trans (hb2.mono (by omega))
    clear k6 k7 hb2
    go_wp2
    go_ret2
    exact ⟨rfl, hW⟩
  · go_enter Tryd.func46, Tryd.ntmps46
    go_wp2
    have hB0 : Below w.heap.size w (w.alloc (Obj.cells #[Value.int IntKind.i64 op, Value.bool true, Value.int IntKind.u64 p, Value.int IntKind.u64 q, Value.int IntKind.i64 z, Value.int IntKind.i64 v] 75)).drew := ((Below.refl _ _).alloc (Nat.le_refl _) _).drew
    go_region_held3 (fun w' => w'.cell? ⟨w.heap.size, 0, none⟩ = some (.int .i64 op) ∧ w'.cell? ⟨w.heap.size, 1, none⟩ = some (.bool true) ∧ w'.cell? ⟨w.heap.size, 2, none⟩ = some (.int .u64 p) ∧ w'.cell? ⟨w.heap.size, 3, none⟩ = some (.int .u64 q) ∧ w'.cell? ⟨w.heap.size, 4, none⟩ = some (.int .i64 z) ∧ w'.cell? ⟨w.heap.size, 5, none⟩ = some (.int .i64 v) ∧ Below w.heap.size w w' ∧ w.heap.size < w'.heap.size)
      (first
        | go_keep
        | (obtain ⟨k0, k1, k2, k3, k4, k5, k6, k7⟩ := ‹_ ∧ _›
           refine ⟨?_, ?_, ?_, ?_, ?_, ?_, ?_, ?_⟩
           all_goals first
             | (rw [hb.cell (by assumption)]; assumption)
             | exact k6.trans (hb.mono (by omega))
             | (have := hb.size; omega)))
      (first
        | (go_at_call 48; refine (mask_any _ _).mono ?_; rintro e w' ⟨rfl, rfl⟩)
        | (go_at_call 49; refine (part_any _ _ _ _ _ _ _ _).mono ?_; rintro e w1 ⟨rfl, hb⟩))
    go_wp2_with fail
    obtain ⟨_, _, _, _, _, _, k6, k7⟩ := ‹_ ∧ _›
    clear hb hB0
    refine (hM.out _).mono ?_
    rintro e w2 ⟨rfl, hb2⟩
    have hW : Below w.heap.size w w2 := k6.trans (hb2.mono (by omega))
    clear k6 k7 hb2
    go_wp2
    go_ret2
    exact ⟨rfl, hW⟩
theorem bin_m0 (op : Int) (h0 : 0 ≤ op) (h1 : op ≤ 192) (i : Nat) (hi : i = (op / 16).toNat) (p q z v : Int) (s wide signed : Bool) (hs : signed = false ∨ (signed = true ∧ s = true)) (a b r : Int) (w : World) (hr : RowIs w i op p q z v s)
    (hM : Hid (∀ W, Calls Tryd.prog 50 #[.agg #[.int .i64 op, .bool s, .int .u64 p, .int .u64 q, .int .i64 z, .int .i64 v], .bool wide, .bool signed, .int .u64 (bits .and .u64 a (mask wide)), .int .u64 (bits .and .u64 b (pick wide p q))] W fun e w' => e = .returned (.int .i64 0) ∧ Below W.heap.size W w'))
    (hP : Hid (∀ W, Calls Tryd.prog 51 #[.int .i64 op, .bool wide, .bool signed, .int .u64 (bits .and .u64 a (mask wide)), .int .u64 (bits .and .u64 b (pick wide p q))] W fun e w' => e = .returned (.int .u64 r) ∧ W = w')) :
    Calls Tryd.prog 46 #[.int .i64 op, .bool wide, .bool signed, .int .u64 a, .int .u64 b] w fun e w' => e = .returned (.tuple #[.int .u64 (bits .and .u64 r (mask wide)), .int .i64 0]) ∧ Below w.heap.size w w' := by
  obtain ⟨c0, c1, c2, c3, c4, c5⟩ := hr
  subst hi
  have hidx : (op / 16).toNat ≤ 12 := by omega
  rcases hs with rfl | ⟨rfl, rfl⟩
  · go_enter Tryd.func46, Tryd.ntmps46
    go_wp2
    have hB0 : Below w.heap.size w (w.alloc (Obj.cells #[Value.int IntKind.i64 op, Value.bool s, Value.int IntKind.u64 p, Value.int IntKind.u64 q, Value.int IntKind.i64 z, Value.int IntKind.i64 v] 75)).drew := ((Below.refl _ _).alloc (Nat.le_refl _) _).drew
    go_region_held3 (fun w' => w'.cell? ⟨w.heap.size, 0, none⟩ = some (.int .i64 op) ∧ w'.cell? ⟨w.heap.size, 1, none⟩ = some (.bool s) ∧ w'.cell? ⟨w.heap.size, 2, none⟩ = some (.int .u64 p) ∧ w'.cell? ⟨w.heap.size, 3, none⟩ = some (.int .u64 q) ∧ w'.cell? ⟨w.heap.size, 4, none⟩ = some (.int .i64 z) ∧ w'.cell? ⟨w.heap.size, 5, none⟩ = some (.int .i64 v) ∧ Below w.heap.size w w' ∧ w.heap.size < w'.heap.size)
      (first
        | go_keep
        | (obtain ⟨k0, k1, k2, k3, k4, k5, k6, k7⟩ := ‹_ ∧ _›
           refine ⟨?_, ?_, ?_, ?_, ?_, ?_, ?_, ?_⟩
           all_goals first
             | (rw [hb.cell (by assumption)]; assumption)
             | exact k6.trans (hb.mono (by omega))
             | (have := hb.size; omega)))
      (first
        | (go_at_call 48; refine (mask_any _ _).mono ?_; rintro e w' ⟨rfl, rfl⟩)
        | (go_at_call 49; refine (part_any _ _ _ _ _ _ _ _).mono ?_; rintro e w1 ⟨rfl, hb⟩))
    go_wp2_with fail
    obtain ⟨_, _, _, _, _, _, k6, k7⟩ := ‹_ ∧ _›
    clear hb hB0
    refine (hM.out _).mono ?_
    rintro e w2 ⟨rfl, hb2⟩
    have hW : Below w.heap.size w w2 := k6.trans (hb2.mono (by omega))
    clear k6 k7 hb2
    go_wp2_with fail
    refine (hP.out _).mono ?_
    rintro e w' ⟨rfl, rfl⟩
    go_wp2_with fail
    refine (mask_any _ _).mono ?_
    rintro e w' ⟨rfl, rfl⟩
    go_wp2
    go_ret2
    exact ⟨rfl, hW⟩
  · go_enter Tryd.func46, Tryd.ntmps46
    go_wp2
    have hB0 : Below w.heap.size w (w.alloc (Obj.cells #[Value.int IntKind.i64 op, Value.bool true, Value.int IntKind.u64 p, Value.int IntKind.u64 q, Value.int IntKind.i64 z, Value.int IntKind.i64 v] 75)).drew := ((Below.refl _ _).alloc (Nat.le_refl _) _).drew
    go_region_held3 (fun w' => w'.cell? ⟨w.heap.size, 0, none⟩ = some (.int .i64 op) ∧ w'.cell? ⟨w.heap.size, 1, none⟩ = some (.bool true) ∧ w'.cell? ⟨w.heap.size, 2, none⟩ = some (.int .u64 p) ∧ w'.cell? ⟨w.heap.size, 3, none⟩ = some (.int .u64 q) ∧ w'.cell? ⟨w.heap.size, 4, none⟩ = some (.int .i64 z) ∧ w'.cell? ⟨w.heap.size, 5, none⟩ = some (.int .i64 v) ∧ Below w.heap.size w w' ∧ w.heap.size < w'.heap.size)
      (first
        | go_keep
        | (obtain ⟨k0, k1, k2, k3, k4, k5, k6, k7⟩ := ‹_ ∧ _›
           refine ⟨?_, ?_, ?_, ?_, ?_, ?_, ?_, ?_⟩
           all_goals first
             | (rw [hb.cell (by assumption)]; assumption)
             | exact k6.trans (hb.mono (by omega))
             | (have := hb.size; omega)))
      (first
        | (go_at_call 48; refine (mask_any _ _).mono ?_; rintro e w' ⟨rfl, rfl⟩)
        | (go_at_call 49; refine (part_any _ _ _ _ _ _ _ _).mono ?_; rintro e w1 ⟨rfl, hb⟩))
    go_wp2_with fail
    obtain ⟨_, _, _, _, _, _, k6, k7⟩ := ‹_ ∧ _›
    clear hb hB0
    refine (hM.out _).mono ?_
    rintro e w2 ⟨rfl, hb2⟩
    have hW : Below w.heap.size w w2 := k6.trans (hb2.mono (by omega))
    clear k6 k7 hb2
    go_wp2_with fail
    refine (hP.out _).mono ?_
    rintro e w' ⟨rfl, rfl⟩
    go_wp2_with fail
    refine (mask_any _ _).mono ?_
    rintro e w' ⟨rfl, rfl⟩
    go_wp2
    go_ret2
    exact ⟨rfl, hW⟩
end Go.Proofs.YtjkgbghikhbecaaDoor
