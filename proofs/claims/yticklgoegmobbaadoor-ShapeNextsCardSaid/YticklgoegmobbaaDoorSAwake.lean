/-
  awake of the laws of shape: the chapter's examples.
-/
import Derived.Test.YticklgoegmobbaaDoorSCheck
namespace Go.Proofs.YticklgoegmobbaaDoor
open Go Go.RowKit
set_option linter.unusedVariables false
set_option linter.unusedSimpArgs false
set_option maxRecDepth 100000
theorem slots_new1 (w : World) (x : Slot) (t : TypeId) : Slots (w.alloc (.cells #[.int .i64 x.o, .int .i64 x.d, .int .i64 x.s, .int .i64 x.f, .int .i64 x.m] t)) (some ⟨w.heap.size, 0, none⟩) 1 (fun _ => x) := by
  intro i hi
  have : i = 0 := by omega
  subst this
  exact ⟨_, _, rfl, by simp, Cells5.new w x t⟩
theorem slots_new1' (w : World) (o : Obj) (x : Slot) (t : TypeId) : Slots ((w.alloc o).alloc (.cells #[.int .i64 x.o, .int .i64 x.d, .int .i64 x.s, .int .i64 x.f, .int .i64 x.m] t)) (some ⟨w.heap.size + 1, 0, none⟩) 1 (fun _ => x) := by
  have h := slots_new1 (w.alloc o) x t
  have e : (w.alloc o).heap.size = w.heap.size + 1 := by simp
  rw [e] at h
  exact h
def two (x y : Slot) : Nat → Slot := fun i => if i = 0 then x else y
theorem slots_new2 (w : World) (x y : Slot) (t : TypeId) : Slots (w.alloc (.cells #[.int .i64 x.o, .int .i64 x.d, .int .i64 x.s, .int .i64 x.f, .int .i64 x.m, .int .i64 y.o, .int .i64 y.d, .int .i64 y.s, .int .i64 y.f, .int .i64 y.m] t)) (some ⟨w.heap.size, 0, none⟩) 2 (two x y) := by
  intro i hi
  have hb := Blk.new w t #[.int .i64 x.o, .int .i64 x.d, .int .i64 x.s, .int .i64 x.f, .int .i64 x.m, .int .i64 y.o, .int .i64 y.d, .int .i64 y.s, .int .i64 y.f, .int .i64 y.m]
  have : i = 0 ∨ i = 1 := by omega
  rcases this with rfl | rfl
  · exact ⟨_, _, rfl, by simp, hb.cell 0, hb.cell 1, hb.cell 2, hb.cell 3, hb.cell 4⟩
  · exact ⟨_, _, rfl, by simp, hb.cell 5, hb.cell 6, hb.cell 7, hb.cell 8, hb.cell 9⟩
theorem check_at (A : Option Addr) (n c : Nat) (X : Nat → Slot) (a b : Int) (ha : (chkAt X n : Int) = a) (he : chkE X n = b) (w : World) (h : Slots w A n X) (hS : Sizes w) :
    Calls Tryd.prog 7 #[.slice A n c] w fun e w' => e = .returned (.tuple #[.int .i64 a, .int .i64 b]) ∧ Below w.heap.size w w' := by
  have := check_any A n c X w h hS
  rw [ha, he] at this
  exact this
def exitS : Slot := ⟨149, 0, 0, 0, 0⟩
/-- The world of awake behind a call. -/
def Aw (w W : World) : Prop := Below w.heap.size w W ∧ Cells5 W w.heap.size 0 exitS ∧ w.heap.size < W.heap.size
theorem Aw.alloc {w W : World} (h : Aw w W) (o : Obj) : Aw w (W.alloc o) :=
  ⟨h.1.alloc h.1.size o, h.2.1.below ((Below.refl _ W).alloc (Nat.le_refl _) o) h.2.2, by have := h.2.2; simp; omega⟩
theorem Aw.below {w W W' : World} (h : Aw w W) (hb : Below W.heap.size W W') : Aw w W' :=
  ⟨h.1.trans (hb.mono h.1.size), h.2.1.below hb h.2.2, Nat.lt_of_lt_of_le h.2.2 hb.size⟩
theorem aw_new (w : World) : Aw w (w.alloc (.cells #[.int .i64 149, .int .i64 0, .int .i64 0, .int .i64 0, .int .i64 0] 39)) :=
  ⟨(Below.refl _ w).alloc (Nat.le_refl _) _, Cells5.new w exitS _, by simp⟩
set_option maxHeartbeats 400000 in
theorem awake_any (w : World) (hS : Sizes w) :
    Calls Tryd.prog 12 #[] w fun e w' => e = .returned (.bool true) ∧ Below w.heap.size w w' := by
  have HS := Lib.hid hS
  have A0 := Lib.hid (aw_new w)
  have a1 : (chkAt (fun _ => exitS) 1 : Int) = 0 := by kernel_rfl
  have b1 : chkE (fun _ => exitS) 1 = 0 := by kernel_rfl
  have a2 : (chkAt (two ⟨183, 0, 0, 0, 2⟩ ⟨183, 0, 0, 0, 0⟩) 2 : Int) = 1 := by kernel_rfl
  have b2 : chkE (two ⟨183, 0, 0, 0, 2⟩ ⟨183, 0, 0, 0, 0⟩) 2 = 32 := by kernel_rfl
  have c3 : nextAns (two ⟨5, 0, 0, 0, 0⟩ exitS) 2 0 = [1] := by
    unfold nextAns
    rw [if_pos ⟨by kernel_rfl, by kernel_rfl⟩]
    kernel_rfl
  have a4 : (chkAt (two ⟨183, 10, 0, 0, 0⟩ exitS) 2 : Int) = 0 := by kernel_rfl
  have b4 : chkE (two ⟨183, 10, 0, 0, 0⟩ exitS) 2 = 32 := by kernel_rfl
  have o5 : oneB 149 0 0 0 0 = true := by kernel_rfl
  have o6 : oneB 103 1 0 0 64 = false := by kernel_rfl
  have C1 := Lib.hid (fun W A h s => check_at A 1 1 (fun _ => exitS) 0 0 a1 b1 W h s)
  have C2 := Lib.hid (fun W A h s => check_at A 2 2 (two ⟨183, 0, 0, 0, 2⟩ ⟨183, 0, 0, 0, 0⟩) 1 32 a2 b2 W h s)
  have C3 := Lib.hid (fun W A h s => Next_any A 2 2 (two ⟨5, 0, 0, 0, 0⟩ exitS) 0 W h s)
  rw [c3] at C3
  have C4 := Lib.hid (fun W A h s => check_at A 2 2 (two ⟨183, 10, 0, 0, 0⟩ exitS) 0 32 a4 b4 W h s)
  have C5 := Lib.hid (fun W s => one_any 149 0 0 0 0 W s)
  have C6 := Lib.hid (fun W s => one_any 103 1 0 0 64 W s)
  rw [o5] at C5
  rw [o6] at C6
  unfold insV at C5 C6
  clear a1 b1 a2 b2 c3 a4 b4 o5 o6 hS
  go_enter Tryd.func12, Tryd.ntmps12
  go_wp2_with (first
    | (go_at_call 7; first
        | (have h := A3.out; refine (C4.out _ _ (slots_new2 w3 ⟨183, 10, 0, 0, 0⟩ exitS _) (HS.out.below (h.alloc _).1)).mono ?_; rintro e w4 ⟨rfl, hb⟩; have A4 := Lib.hid ((h.alloc _).below hb); have v0 : w4.cell? ⟨g, 0, none⟩ = some (.int .i64 1) := ((HK.out.alloc _).below hb).cell 0; obtain ⟨d0, d1, d2, d3, d4⟩ := A4.out.2.1; clear hb h)
        | (have h := A1.out; refine (C2.out _ _ (slots_new2 w1 ⟨183, 0, 0, 0, 2⟩ ⟨183, 0, 0, 0, 0⟩ _) (HS.out.below (h.alloc _).1)).mono ?_; rintro e w2 ⟨rfl, hb⟩; have A2 := Lib.hid ((h.alloc _).below hb); obtain ⟨d0, d1, d2, d3, d4⟩ := A2.out.2.1; clear hb h)
        | (have h := A0.out; refine (C1.out _ (some ⟨w.heap.size + 1, 0, none⟩) (slots_new1' w _ exitS _) (HS.out.below (h.alloc _).1)).mono ?_; rintro e w1 ⟨rfl, hb⟩; have A1 := Lib.hid ((h.alloc _).below hb); clear hb h))
    | (go_at_call 15; have h := A2.out; refine (C3.out _ _ (slots_new2 w2 ⟨5, 0, 0, 0, 0⟩ exitS _) (HS.out.below (h.alloc _).1)).mono ?_; rintro e w3 ⟨⟨v, rfl, hf⟩, hb⟩; have A3 := Lib.hid ((h.alloc _).below hb); obtain ⟨d0, d1, d2, d3, d4⟩ := A3.out.2.1; rcases hf with ⟨hf, _⟩ | ⟨g, hg, rfl, hk⟩; (cases hf); have HK := Lib.hid hk; clear hb h hk)
    | (go_at_call 17; first
        | (refine (C6.out _ (HS.out.below A5.out.1)).mono ?_; rintro e w6 ⟨rfl, hb⟩; have A6 := Lib.hid (A5.out.below hb); clear hb)
        | (refine (C5.out _ (HS.out.below A4.out.1)).mono ?_; rintro e w5 ⟨rfl, hb⟩; have A5 := Lib.hid (A4.out.below hb); clear hb)))
  go_ret
  exact ⟨rfl, A6.out.1⟩
end Go.Proofs.YticklgoegmobbaaDoor
