/-
  Layer 8: awake; the law FlatNone, walked.
-/
import Derived.Test.YthilkgfbaddjpaaFAsk
namespace Go.Proofs.Ythilkgfbaddjpaa
open Go Go.RowKit
set_option linter.unusedVariables false
set_option linter.unusedSimpArgs false
set_option maxRecDepth 100000
/-- A fresh memory and an array in it. -/
theorem start_arr (w : World) (v mx : Nat) (h1 : 1 ≤ v) (h2 : v ≤ 4096) (h3 : 1 ≤ mx) (h4 : mx ≤ 4096) (h7 : mx * wide v ≤ 1048576) :
    Calls Try.prog 12 #[.pointer (some ⟨w.heap.size, 0, none⟩), specV 2 4 v mx, .int .i64 1] (w.alloc (.cells #[.map none, .int .u32 0, .slice none 0 0, .int .i64 0] 66)) fun e w' => ∃ x S st mv rv, e = .returned (.tuple #[.pointer (some ⟨x, 0, none⟩), .int .i64 0]) ∧
      FS w.heap.size w w' S w.heap.size 1 0 st [] mv rv x (mapC w.heap.size 2 v mx (sharedV (addr 1 0))) ∧ (∃ r, st 1 = some r ∧ r.perm = 3 ∧ r.bytes = List.replicate (mx * wide v) 0 ∧ r.ret = false) := by
  obtain ⟨hb, hB, S, mv, rv, hk, hS⟩ := KF.start w
  refine (New_arr hk (.inl rfl) (by decide) v mx 1 h1 h2 h3 h4 (by decide) (by decide) h7).mono ?_
  rintro e w' ⟨x, S', st', mv', rfl, hp⟩
  obtain ⟨r, q1, q2, q3, q4, _⟩ := hp.new 0 (by decide)
  exact ⟨x, S', st', mv', rv, rfl, FS.made_ hb hS hB hp, r, q1, q2, q3, q4⟩
section
variable {w w0 : World} {B : Nat} {S : Nat → Prop} {made fail : Nat} {st : Nat → Option RG} {mv rv : Value} {x bm : Nat}
theorem aw_full (h : Blk w x 77 (mapC bm 2 (4 : Nat) (2 : Nat) (sharedV (addr 1 0)))) : Calls Try.prog 19 #[.pointer (some ⟨x, 0, none⟩), .string ⟨#[2, 0, 0, 0]⟩, .string ⟨#[97, 98, 99, 100]⟩, .int .i64 0, .int .i64 0] w fun e w' => e = .returned (.int .i64 3) ∧ Below w.heap.size w w' :=
  Update_full 4 2 1 0 0 (by decide) (by decide) (by decide) h [2, 0, 0, 0] rfl (by decide) ⟨#[97, 98, 99, 100]⟩ rfl
theorem aw_next (h : Blk w x 77 (mapC bm 2 (4 : Nat) (2 : Nat) (sharedV (addr 1 0)))) : Calls Try.prog 22 #[.pointer (some ⟨x, 0, none⟩), .string ⟨#[]⟩] w fun e w' => e = .returned (.tuple #[.string ⟨#[0, 0, 0, 0]⟩, .int .i64 0]) ∧ Below w.heap.size w w' :=
  Next_start 4 2 _ _ 2 h ⟨#[]⟩ (by decide)
theorem aw_look1 (h : Blk w x 77 (mapC bm 2 (4 : Nat) (2 : Nat) (sharedV (addr 1 0)))) : Calls Try.prog 21 #[.pointer (some ⟨x, 0, none⟩), .string ⟨#[1, 0, 0, 0]⟩, .int .i64 0] w fun e w' => e = .returned (.int .u64 4294967304) ∧ Below w.heap.size w w' :=
  Lookup_arr 4 2 1 0 (by decide) (by decide) (by decide) h [1, 0, 0, 0] rfl (by decide)
theorem aw_look2 (h : Blk w x 77 (mapC bm 2 (4 : Nat) (2 : Nat) (sharedV (addr 1 0)))) : Calls Try.prog 21 #[.pointer (some ⟨x, 0, none⟩), .string ⟨#[2, 0, 0, 0]⟩, .int .i64 0] w fun e w' => e = .returned (.int .u64 0) ∧ w = w' :=
  Lookup_arr_no 4 2 _ _ 2 0 (by decide) h [2, 0, 0, 0] rfl (by decide)
end
theorem aw_new (w : World) : Calls Try.prog 12 #[.pointer (some ⟨w.heap.size, 0, none⟩), .agg #[.int .i64 2, .int .i64 4, .int .i64 4, .int .i64 2], .int .i64 1] (w.alloc (.cells #[.map none, .int .u32 0, .slice none 0 0, .int .i64 0] 66)) fun e w' => ∃ x S st mv rv, e = .returned (.tuple #[.pointer (some ⟨x, 0, none⟩), .int .i64 0]) ∧
      FS w.heap.size w w' S w.heap.size 1 0 st [] mv rv x (mapC w.heap.size 2 (4 : Nat) (2 : Nat) (sharedV (addr 1 0))) :=
  (start_arr w 4 2 (by decide) (by decide) (by decide) (by decide) (by decide)).mono fun e w' h => by
    obtain ⟨x, S, st, mv, rv, h1, h2, _⟩ := h
    exact ⟨x, S, st, mv, rv, h1, h2⟩
set_option maxHeartbeats 400000 in
theorem awake_any (w : World) :
    Calls Try.prog 8 #[] w fun e w' => e = .returned (.bool true) ∧ Below w.heap.size w w' := by
  have C0 := Lib.hid (new_any w)
  have CN := Lib.hid (aw_new w)
  go_enter Try.func8, Try.ntmps8
  go_upto_region 3 with (first
    | (go_at_call 9; refine C0.out.mono ?_; rintro e w1 ⟨rfl, rfl⟩)
    | (go_at_call 12; refine CN.out.mono ?_; rintro e w2 ⟨x, S, st, mv, rv, rfl, hf⟩; have F := Lib.hid hf; clear hf))
  clear C0 CN
  go_upto_region 6 with (go_at_call 19; refine (aw_full F.out.map).mono ?_; rintro e w3 ⟨rfl, hb⟩; have F3 := Lib.hid (F.out.grow hb); clear hb)
  go_upto_region 7 with (go_at_call 22; refine (aw_next F3.out.map).mono ?_; rintro e w4 ⟨rfl, hb⟩; have F4 := Lib.hid (F3.out.grow hb); clear hb)
  clear F F3
  go_wp2_with (first
    | (go_at_call 21; refine (aw_look2 F5.out.map).mono ?_; rintro e w6 ⟨rfl, rfl⟩)
    | (go_at_call 21; refine (aw_look1 F4.out.map).mono ?_; rintro e w5 ⟨rfl, hb⟩; have F5 := Lib.hid (F4.out.grow hb); clear hb)
    | (go_at_call 23; refine (delete_any _ _ _).mono ?_; rintro e w7 ⟨rfl, rfl⟩))
  go_ret
  exact ⟨rfl, F5.out.below⟩
theorem awake_later {B : Nat} {w w' : World} (hb : Below B w w') (hB : B ≤ w'.heap.size) : Calls Try.prog 8 #[] w' fun e w'' => e = .returned (.bool true) ∧ Below B w w'' :=
  (awake_any w').mono fun e w'' h => ⟨h.1, hb.trans (h.2.mono hB)⟩
set_option maxHeartbeats 1000000 in
theorem none_walk (kd fl cp : Int) (u : Int) (ky vl : ByteArray) (w : World) :
    Calls Try.prog 7 #[.agg #[.int .i64 kd, .string ky, .string vl, .int .i64 fl, .int .i64 cp, .int .u64 u]] w fun e w' => e = .returned (.bool true) ∧ Below w.heap.size w w' := by
  have B0 := Lib.hid (below_alloc w (.cells #[.int .i64 kd, .string ky, .string vl, .int .i64 fl, .int .i64 cp, .int .u64 u] 45))
  have HB := Lib.hid (Blk.new w 45 #[.int .i64 kd, .string ky, .string vl, .int .i64 fl, .int .i64 cp, .int .u64 u])
  have CN := Lib.hid (New_nil .nilIface 1 2 4 4 2)
  go_enter Try.func7, Try.ntmps7
  go_upto_region 3 with (go_at_call 22; refine (Next_nil _ _).mono ?_; rintro e w1 ⟨rfl, rfl⟩)
  go_upto_region 4 with (go_at_call 12; refine (CN.out _).mono ?_; rintro e w2 ⟨rfl, hb⟩; have B2 := Lib.hid (below_then B0.out hb); have HB2 := Lib.hid (blk_below HB.out hb); clear hb)
  have d1 : w2.cell? ⟨w.heap.size, 1, none⟩ = some (.string ky) := HB2.out.cell 1
  have d2 : w2.cell? ⟨w.heap.size, 2, none⟩ = some (.string vl) := HB2.out.cell 2
  have d3 : w2.cell? ⟨w.heap.size, 3, none⟩ = some (.int .i64 fl) := HB2.out.cell 3
  have d4 : w2.cell? ⟨w.heap.size, 4, none⟩ = some (.int .i64 cp) := HB2.out.cell 4
  go_wp2_with (first
    | (go_at_call 21; refine (Lookup_nil _ _ _).mono ?_; rintro e w3 ⟨rfl, rfl⟩)
    | (go_at_call 19; refine (Update_nil _ _ _ _ _).mono ?_; rintro e w4 ⟨rfl, rfl⟩)
    | (go_at_call 23; refine (delete_any _ _ _).mono ?_; rintro e w5 ⟨rfl, rfl⟩)
    | (go_at_call 24; refine (Free_nil _).mono ?_; rintro e w6 ⟨rfl, rfl⟩)
    | (go_at_call 8; refine (awake_later B2.out B2.out.size).mono ?_; rintro e w7 ⟨rfl, hb⟩; have B7 := Lib.hid hb; clear hb))
  go_ret
  exact ⟨rfl, B7.out⟩
end Go.Proofs.Ythilkgfbaddjpaa
