/-
  The law KmemNone, walked.
-/
import Derived.Test.YtkegmgpepciadaaAwake
namespace Go.Proofs.Ytkegmgpepciadaa
open Go Go.RowKit Go.Maps
set_option linter.unusedVariables false
set_option maxRecDepth 100000 in
set_option maxHeartbeats 2000000 in
theorem none_walk (kd nn mm aa uu : Int) (ss : ByteArray) (h0 : 0 ≤ aa) (h1 : aa ≤ 18446744073709551615) (w : World) :
    Calls Try.prog 7 #[.agg #[.int .i64 kd, .int .i64 nn, .int .i64 mm, .int .u64 aa, .int .u64 uu, .string ss]] w fun e w' => e = .returned (.bool true) ∧ Below w.heap.size w w' := by
  obtain ⟨n, o, hn, ho, rfl⟩ := addr_of aa h0 h1
  have cg := grace_nil
  have ca := fun w => alloc_arg none nn mm (.inl rfl) w
  have cr := fun w => read_nil (addr n o) nn w
  have cb := fun w => bytes_nil (addr n o) nn w
  have cs := fun w => size_nil (addr n o) w
  have cf := fun w => fail_nil nn w
  have ce := fun w => free_arg none (addr n o) w (beginsAt_nil n o hn ho w)
  have ct := fun w => retire_arg none (addr n o) w (beginsAt_nil n o hn ho w)
  have cw := fun w => write_nil (addr n o) nn uu w
  have cp := fun w => put_nil (addr n o) ss w
  have cq := regions_nil
  have cz := awake_any
  generalize addr n o = a at *
  have Hg := Lib.hid cg; have Ha := Lib.hid ca; have Hr := Lib.hid cr; have Hb := Lib.hid cb; have Hs := Lib.hid cs; have Hf := Lib.hid cf; have He := Lib.hid ce; have Ht := Lib.hid ct; have Hw := Lib.hid cw; have Hp := Lib.hid cp; have Hq := Lib.hid cq; have Hz := Lib.hid cz
  clear cg ca cr cb cs cf ce ct cw cp cq cz
  go_enter Try.func7, Try.ntmps7
  go_wp2_with (first
    | (go_at_call 20; refine (Hg.out _).mono ?_; rintro e w' ⟨rfl, rfl⟩)
    | (go_at_call 14; refine (Ha.out _).mono ?_; rintro e w' ⟨rfl, rfl⟩)
    | (go_at_call 17; refine (Hr.out _).mono ?_; rintro e w' ⟨rfl, rfl⟩)
    | (go_at_call 16; refine (Hb.out _).mono ?_; rintro e w' ⟨rfl, rfl⟩)
    | (go_at_call 21; refine (Hs.out _).mono ?_; rintro e w' ⟨rfl, rfl⟩)
    | (go_at_call 22; refine (Hf.out _).mono ?_; rintro e w' ⟨rfl, rfl⟩)
    | (go_at_call 18; refine (He.out _).mono ?_; rintro e w' ⟨rfl, rfl⟩)
    | (go_at_call 19; refine (Ht.out _).mono ?_; rintro e w' ⟨rfl, rfl⟩)
    | (go_at_call 15; refine (Hw.out _).mono ?_; rintro e w' ⟨rfl, rfl⟩)
    | (go_at_call 23; refine (Hp.out _).mono ?_; rintro e w' ⟨rfl, rfl⟩)
    | (go_at_call 11; refine (Hq.out _).mono ?_; rintro e w' ⟨rfl, rfl⟩)
    | (go_at_call 13; refine (Hz.out _).mono ?_; rintro e w' ⟨rfl, hb⟩; have HB := Lib.hid hb; clear hb))
  go_ret
  exact ⟨rfl, ((Below.refl _ w).alloc (Nat.le_refl _) _).trans (HB.out.mono (by simp))⟩
end Go.Proofs.Ytkegmgpepciadaa
