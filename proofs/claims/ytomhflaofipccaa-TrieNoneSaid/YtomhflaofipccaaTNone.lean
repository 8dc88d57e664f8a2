/-
  The law TrieNone, walked.
-/
import Derived.Test.YtomhflaofipccaaP29
import Derived.Test.YtomhflaofipccaaP17
namespace Go.Proofs.Ytomhflaofipccaa
open Go Go.RowKit Go.Maps
set_option linter.unusedVariables false
set_option linter.unusedSimpArgs false
set_option maxRecDepth 100000
theorem none_walk (kd fl : Int) (ky vl : ByteArray) (w : World) :
    Calls Try.prog 5 #[.agg (deedC kd ky vl fl)] w fun e w' => e = .returned (.bool true) ∧ Below w.heap.size w w' := by
  have B0 : Hid (Qt w (w.alloc (.cells (deedC kd ky vl fl) 47))) := Lib.hid ((Keeps.refl _ w).alloc _)
  have HB := Lib.hid (Blk.new w 47 (deedC kd ky vl fl))
  have CN := Lib.hid (new_nil 11 8 4 2)
  go_enter Try.func5, Try.ntmps5
  go_upto_region 3 with (go_at_call 16; refine (next_nil _ _).mono ?_; rintro e w1 ⟨rfl, rfl⟩)
  go_upto_region 4 with (go_at_call 8; refine (CN.out _).mono ?_; rintro e w2 ⟨rfl, hb⟩; have B2 := Lib.hid (B0.out.then_ hb); have HB2 := Lib.hid (HB.out.quiet hb); clear hb)
  have d1 : w2.cell? ⟨w.heap.size, 1, none⟩ = some (.string ky) := HB2.out.cell 1
  go_wp2_with (first
    | (go_at_call 12; refine (look_nil _ _).mono ?_; rintro e w3 ⟨rfl, hb⟩; have B3 := Lib.hid (B2.out.then_ hb); have HB3 := Lib.hid (HB2.out.quiet hb); clear hb; have e1 : w3.cell? ⟨w.heap.size, 1, none⟩ = some (.string ky) := HB3.out.cell 1; have e2 : w3.cell? ⟨w.heap.size, 2, none⟩ = some (.string vl) := HB3.out.cell 2; have e3 : w3.cell? ⟨w.heap.size, 3, none⟩ = some (.int .i64 fl) := HB3.out.cell 3)
    | (go_at_call 9; refine (upd_nil _ _ _ _).mono ?_; rintro e w4 ⟨rfl, hb⟩; have B4 := Lib.hid (B3.out.then_ hb); have HB4 := Lib.hid (HB3.out.quiet hb); clear hb; have f1 : w4.cell? ⟨w.heap.size, 1, none⟩ = some (.string ky) := HB4.out.cell 1)
    | (go_at_call 15; refine (del_nil _ _).mono ?_; rintro e w5 ⟨rfl, hb⟩; have B5 := Lib.hid (B4.out.then_ hb); clear hb)
    | (go_at_call 14; refine (mlen_nil _).mono ?_; rintro e w6 ⟨rfl, rfl⟩)
    | (go_at_call 17; refine (free_nil _).mono ?_; rintro e w6 ⟨rfl, hb⟩; have B6 := Lib.hid (B5.out.then_ hb); clear hb)
    | (go_at_call 6; refine (awake_later (B6.out.below (fun _ h => h.elim) (Nat.le_refl _)) B6.out.size).mono ?_; rintro e w7 ⟨rfl, hb⟩; have B7 := Lib.hid hb; clear hb))
  go_ret
  exact ⟨rfl, B7.out⟩
end Go.Proofs.Ytomhflaofipccaa
