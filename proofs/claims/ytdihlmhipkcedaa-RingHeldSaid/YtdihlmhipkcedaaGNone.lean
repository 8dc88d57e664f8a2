/-
  Layer 12: the law RingNone, walked.
-/
import Derived.Test.YtdihlmhipkcedaaGAwake
namespace Go.Proofs.Ytdihlmhipkcedaa
open Go Go.RowKit Go.Maps
set_option linter.unusedVariables false
set_option linter.unusedSimpArgs false
set_option maxRecDepth 100000
abbrev dT : TypeId := 44
theorem awake_later {B : Nat} {w w' : World} (hb : Below B w w') (hB : B ≤ w'.heap.size) : Calls Try.prog 12 #[] w' fun e w'' => e = .returned (.bool true) ∧ Below B w w'' :=
  (awake_any w').mono fun e w'' h => ⟨h.1, hb.trans (h.2.mono hB)⟩
theorem free_nil (w : World) : Calls Try.prog 17 #[.pointer none] w fun e w' => e = .returned (.int .i64 1) ∧ w = w' := by
  have CG := Lib.hid gone_nil
  go_enter Try.func17, Try.ntmps17
  go_wp2_with (go_at_call 19; refine (CG.out _).mono ?_; rintro e w1 ⟨rfl, rfl⟩)
  go_ret
  exact ⟨rfl, rfl⟩
set_option maxHeartbeats 1000000 in
theorem none_walk (kd n at_ : Int) (sv : ByteArray) (w : World) :
    Calls Try.prog 5 #[.agg #[.int .i64 kd, .int .i64 n, .int .i64 at_, .string sv]] w fun e w' => e = .returned (.bool true) ∧ Below w.heap.size w w' := by
  have B0 := Lib.hid (below_alloc w (.cells #[.int .i64 kd, .int .i64 n, .int .i64 at_, .string sv] dT))
  have HB := Lib.hid (Blk.new w dT #[.int .i64 kd, .int .i64 n, .int .i64 at_, .string sv])
  have CN := Lib.hid (new_nil 64)
  go_enter Try.func5, Try.ntmps5
  go_upto_region 3 with (go_at_call 13; refine (reserve_nil _ _).mono ?_; rintro e w1 ⟨rfl, rfl⟩)
  go_upto_region 4 with (go_at_call 7; refine (CN.out _).mono ?_; rintro e w2 ⟨rfl, hb⟩; have B2 := Lib.hid (below_then B0.out hb); have HB2 := Lib.hid (blk_below HB.out hb); clear hb)
  have d3 : w2.cell? ⟨w.heap.size, 3, none⟩ = some (.string sv) := HB2.out.cell 3
  go_wp2_with (first
    | (go_at_call 15; refine (submit_nil _ _).mono ?_; rintro e w3 ⟨rfl, rfl⟩)
    | (go_at_call 16; refine (discard_nil _ _).mono ?_; rintro e w4 ⟨rfl, rfl⟩)
    | (go_at_call 8; refine (output_nil _ _).mono ?_; rintro e w5 ⟨rfl, rfl⟩)
    | (go_at_call 11; refine (drain_nil _).mono ?_; rintro e w5 ⟨rfl, rfl⟩)
    | (go_at_call 9; refine (used_nil _).mono ?_; rintro e w5 ⟨rfl, rfl⟩)
    | (go_at_call 17; refine (free_nil _).mono ?_; rintro e w6 ⟨rfl, rfl⟩)
    | (go_at_call 12; refine (awake_later B2.out B2.out.size).mono ?_; rintro e w7 ⟨rfl, hb⟩; have B7 := Lib.hid hb; clear hb))
  go_ret
  exact ⟨rfl, B7.out⟩
end Go.Proofs.Ytdihlmhipkcedaa
