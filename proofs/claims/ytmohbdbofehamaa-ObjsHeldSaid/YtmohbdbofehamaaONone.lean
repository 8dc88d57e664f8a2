/-
  The law ObjsNone, walked.
-/
import Derived.Test.YtmohbdbofehamaaOAwake
namespace Go.Proofs.Ytmohbdbofehamaa
open Go Go.RowKit Go.Maps OSt
set_option linter.unusedVariables false
set_option linter.unusedSimpArgs false
set_option maxRecDepth 100000
theorem below_alloc (w : World) (o : Obj) : Below w.heap.size w (w.alloc o) := (Below.refl _ w).alloc (Nat.le_refl _) _
abbrev deedT : TypeId := 33
abbrev deedC (kd n m : Int) (p : ByteArray) : Array Value := #[.int .i64 kd, .int .i64 n, .int .i64 m, .string p]
set_option maxHeartbeats 1000000 in
theorem none_walk (kd n m : Int) (p : ByteArray) (hp : p.size ≤ maxLen) (w : World) :
    Calls Try.prog 6 #[.agg (deedC kd n m p)] w fun e w' => e = .returned (.bool true) ∧ Below w.heap.size w w' := by
  have B0 := Lib.hid (below_alloc w (.cells (deedC kd n m p) deedT))
  have HB := Blk.new w deedT (deedC kd n m p)
  have d1 : (w.alloc (.cells (deedC kd n m p) deedT)).cell? ⟨w.heap.size, 1, none⟩ = some (.int .i64 n) := HB.cell 1
  have d3 : (w.alloc (.cells (deedC kd n m p) deedT)).cell? ⟨w.heap.size, 3, none⟩ = some (.string p) := HB.cell 3
  have CP := Lib.hid (pin_nil p hp)
  clear HB hp
  go_enter Try.func6, Try.ntmps6
  go_wp2_with (first
    | (go_at_call 13; refine (add_nil _ _).mono ?_; rintro e w1 ⟨rfl, rfl⟩)
    | (go_at_call 20; refine (get_nil _ _).mono ?_; rintro e w1 ⟨rfl, rfl⟩)
    | (go_at_call 14; refine (dup_nil _ _).mono ?_; rintro e w1 ⟨rfl, rfl⟩)
    | (go_at_call 17; refine (close_nil _ _).mono ?_; rintro e w1 ⟨rfl, rfl⟩)
    | (go_at_call 19; refine (drop_nil _ _).mono ?_; rintro e w1 ⟨rfl, rfl⟩)
    | (go_at_call 18; refine (unpin_nil _ _).mono ?_; rintro e w1 ⟨rfl, rfl⟩)
    | (go_at_call 21; refine (open_nil _ _).mono ?_; rintro e w1 ⟨rfl, rfl⟩)
    | (go_at_call 16; refine (hold_nil _ _).mono ?_; rintro e w1 ⟨rfl, rfl⟩)
    | (go_at_call 15; refine (CP.out _ _).mono ?_; rintro e w1 ⟨rfl, rfl⟩)
    | (go_at_call 10; refine (live_nil _).mono ?_; rintro e w1 ⟨rfl, rfl⟩)
    | (go_at_call 12; refine (awake_later B0.out B0.out.size).mono ?_; rintro e w7 ⟨rfl, hb⟩; have B7 := Lib.hid hb; clear hb))
  go_ret
  exact ⟨rfl, B7.out⟩
end Go.Proofs.Ytmohbdbofehamaa
