/-
  Layer 8: awake; the law FlatNone, walked. Layer 8: the reference's four bytes of a number; the law FlatKeys, walked.
-/
import Derived.Test.YthilkgfbaddjpaaP10
namespace Go.Proofs.Ythilkgfbaddjpaa
open Go Go.RowKit
set_option linter.unusedVariables false
set_option linter.unusedSimpArgs false
set_option maxRecDepth 100000
/-- A fresh memory and an array in it. -/
theorem start_arr (w : World) (v mx : Nat) (h1 : 1 ≤ v) (h2 : v ≤ 4096) (h3 : 1 ≤ mx) (h4 : mx ≤ 4096) (h7 : mx * wide v ≤ 1048576) :
    Calls Try.prog 12 #[.pointer (some ⟨w.heap.size, 0, none⟩), specV 2 4 v mx, .int .i64 1] (w.alloc (.cells #[.map none, .int .u32 0, .slice none 0 0, .int .i64 0] 66)) fun e w' => ∃ x S st mv rv, e = .returned (.tuple #[.pointer (some ⟨x, 0, none⟩), .int .i64 0]) ∧
      FS w.heap.size w w' S w.heap.size 1 0 st [] mv rv x (mapC w.heap.size 2 v mx (sharedV (addr 1 0))) ∧ (∃ r, st 1 = some r ∧ r.perm = 3 ∧ r.bytes = List.replicate (mx * wide v) 0 ∧ r.ret = false) := by
  obtain ⟨hb, hB, S, mv, rv, hk, hS⟩ := KF.start w
  refine (New_arr hk (.inl rfl) (by decide) v mx 1 h1 h2 h3 h4 (by decide) (by decide) h7).mono ?_
  rintro e w' ⟨x, S', st', mv', rfl, hp⟩
  obtain ⟨r, q1, q2, q3, q4, _⟩ := hp.new 0 (by decide)
  exact ⟨x, S', st', mv', rv, rfl, FS.made_ hb hS hB hp, r, q1, q2, q3, q4⟩
section
variable {w w0 : World} {B : Nat} {S : Nat → Prop} {made fail : Nat} {st : Nat → Option RG} {mv rv : Value} {x bm : Nat}
theorem aw_full (h : Blk w x 77 (mapC bm 2 (4 : Nat) (2 : Nat) (sharedV (addr 1 0)))) : Calls Try.prog 19 #[.pointer (some ⟨x, 0, none⟩), .string ⟨#[2, 0, 0, 0]⟩, .string ⟨#[97, 98, 99, 100]⟩, .int .i64 0, .int .i64 0] w fun e w' => e = .returned (.int .i64 3) ∧ Below w.heap.size w w' :=
  Update_full 4 2 1 0 0 (by decide) (by decide) (by decide) h [2, 0, 0, 0] rfl (by decide) ⟨#[97, 98, 99, 100]⟩ rfl
theorem aw_next (h : Blk w x 77 (mapC bm 2 (4 : Nat) (2 : Nat) (sharedV (addr 1 0)))) : Calls Try.prog 22 #[.pointer (some ⟨x, 0, none⟩), .string ⟨#[]⟩] w fun e w' => e = .returned (.tuple #[.string ⟨#[0, 0, 0, 0]⟩, .int .i64 0]) ∧ Below w.heap.size w w' :=
  Next_start 4 2 _ _ 2 h ⟨#[]⟩ (by decide)
theorem aw_look1 (h : Blk w x 77 (mapC bm 2 (4 : Nat) (2 : Nat) (sharedV (addr 1 0)))) : Calls Try.prog 21 #[.pointer (some ⟨x, 0, none⟩), .string ⟨#[1, 0, 0, 0]⟩, .int .i64 0] w fun e w' => e = .returned (.int .u64 4294967304) ∧ Below w.heap.size w w' :=
  Lookup_arr 4 2 1 0 (by decide) (by decide) (by decide) h [1, 0, 0, 0] rfl (by decide)
theorem aw_look2 (h : Blk w x 77 (mapC bm 2 (4 : Nat) (2 : Nat) (sharedV (addr 1 0)))) : Calls Try.prog 21 #[.pointer (some ⟨x, 0, none⟩), .string ⟨#[2, 0, 0, 0]⟩, .int .i64 0] w fun e w' => e = .returned (.int .u64 0) ∧ w = w' :=
  Lookup_arr_no 4 2 _ _ 2 0 (by decide) h [2, 0, 0, 0] rfl (by decide)
end
theorem aw_new (w : World) : Calls Try.prog 12 #[.pointer (some ⟨w.heap.size, 0, none⟩), .agg #[.int .i64 2, .int .i64 4, .int .i64 4, .int .i64 2], .int .i64 1] (w.alloc (.cells #[.map none, .int .u32 0, .slice none 0 0, .int .i64 0] 66)) fun e w' => ∃ x S st mv rv, e = .returned (.tuple #[.pointer (some ⟨x, 0, none⟩), .int .i64 0]) ∧
      FS w.heap.size w w' S w.heap.size 1 0 st [] mv rv x (mapC w.heap.size 2 (4 : Nat) (2 : Nat) (sharedV (addr 1 0))) :=
  (start_arr w 4 2 (by decide) (by decide) (by decide) (by decide) (by decide)).mono fun e w' h => by
    obtain ⟨x, S, st, mv, rv, h1, h2, _⟩ := h
    exact ⟨x, S, st, mv, rv, h1, h2⟩
set_option maxHeartbeats 400000 in
theorem awake_any (w : World) :
    Calls Try.prog 8 #[] w fun e w' => e = .returned (.bool true) ∧ Below w.heap.size w w' := by
  have C0 := Lib.hid (new_any w)
  have CN := Lib.hid (aw_new w)
  go_enter Try.func8, Try.ntmps8
  go_upto_region 3 with (first
    | (go_at_call 9; refine C0.out.mono ?_; rintro e w1 ⟨rfl, rfl⟩)
    | (go_at_call 12; refine CN.out.mono ?_; rintro e w2 ⟨x, S, st, mv, rv, rfl, hf⟩; have F := Lib.hid hf; clear hf))
  clear C0 CN
  go_upto_region 6 with (go_at_call 19; refine (aw_full F.out.map).mono ?_; rintro e w3 ⟨rfl, hb⟩; have F3 := Lib.hid (F.out.grow hb); clear hb)
  go_upto_region 7 with (go_at_call 22; refine (aw_next F3.out.map).mono ?_; rintro e w4 ⟨rfl, hb⟩; have F4 := Lib.hid (F3.out.grow hb); clear hb)
  clear F F3
  go_wp2_with (first
    | (go_at_call 21; refine (aw_look2 F5.out.map).mono ?_; rintro e w6 ⟨rfl, rfl⟩)
    | (go_at_call 21; refine (aw_look1 F4.out.map).mono ?_; rintro e w5 ⟨rfl, hb⟩; have F5 := Lib.hid (F4.out.grow hb); clear hb)
    | (go_at_call 23; refine (delete_any _ _ _).mono ?_; rintro e w7 ⟨rfl, rfl⟩))
  go_ret
  exact ⟨rfl, F5.out.below⟩
theorem awake_later {B : Nat} {w w' : World} (hb : Below B w w') (hB : B ≤ w'.heap.size) : Calls Try.prog 8 #[] w' fun e w'' => e = .returned (.bool true) ∧ Below B w w'' :=
  (awake_any w').mono fun e w'' h => ⟨h.1, hb.trans (h.2.mono hB)⟩
set_option maxHeartbeats 1000000 in
theorem none_walk (kd fl cp : Int) (u : Int) (ky vl : ByteArray) (w : World) :
    Calls Try.prog 7 #[.agg #[.int .i64 kd, .string ky, .string vl, .int .i64 fl, .int .i64 cp, .int .u64 u]] w fun e w' => e = .returned (.bool true) ∧ Below w.heap.size w w' := by
  have B0 := Lib.hid (below_alloc w (.cells #[.int .i64 kd, .string ky, .string vl, .int .i64 fl, .int .i64 cp, .int .u64 u] 45))
  have HB := Lib.hid (Blk.new w 45 #[.int .i64 kd, .string ky, .string vl, .int .i64 fl, .int .i64 cp, .int .u64 u])
  have CN := Lib.hid (New_nil .nilIface 1 2 4 4 2)
  go_enter Try.func7, Try.ntmps7
  go_upto_region 3 with (go_at_call 22; refine (Next_nil _ _).mono ?_; rintro e w1 ⟨rfl, rfl⟩)
  go_upto_region 4 with (go_at_call 12; refine (CN.out _).mono ?_; rintro e w2 ⟨rfl, hb⟩; have B2 := Lib.hid (below_then B0.out hb); have HB2 := Lib.hid (blk_below HB.out hb); clear hb)
  have d1 : w2.cell? ⟨w.heap.size, 1, none⟩ = some (.string ky) := HB2.out.cell 1
  have d2 : w2.cell? ⟨w.heap.size, 2, none⟩ = some (.string vl) := HB2.out.cell 2
  have d3 : w2.cell? ⟨w.heap.size, 3, none⟩ = some (.int .i64 fl) := HB2.out.cell 3
  have d4 : w2.cell? ⟨w.heap.size, 4, none⟩ = some (.int .i64 cp) := HB2.out.cell 4
  go_wp2_with (first
    | (go_at_call 21; refine (Lookup_nil _ _ _).mono ?_; rintro e w3 ⟨rfl, rfl⟩)
    | (go_at_call 19; refine (Update_nil _ _ _ _ _).mono ?_; rintro e w4 ⟨rfl, rfl⟩)
    | (go_at_call 23; refine (delete_any _ _ _).mono ?_; rintro e w5 ⟨rfl, rfl⟩)
    | (go_at_call 24; refine (Free_nil _).mono ?_; rintro e w6 ⟨rfl, rfl⟩)
    | (go_at_call 8; refine (awake_later B2.out B2.out.size).mono ?_; rintro e w7 ⟨rfl, hb⟩; have B7 := Lib.hid hb; clear hb))
  go_ret
  exact ⟨rfl, B7.out⟩
end Go.Proofs.Ythilkgfbaddjpaa
namespace Go.Proofs.Ythilkgfbaddjpaa
open Go Go.RowKit
set_option linter.unusedVariables false
set_option linter.unusedSimpArgs false
set_option maxRecDepth 100000
set_option maxHeartbeats 1000000 in
theorem le_4 (m : Nat) (hm : m ≤ 4294967295) (w : World) :
    Calls Try.prog 18 #[.int .u64 (m : Int), .int .i64 4] w fun e w' => e = .returned (.string (bstr (wb m 4))) ∧ Below w.heap.size w w' := by
  obtain ⟨n, hn⟩ : ∃ n : Int, (m : Int) = n := ⟨_, rfl⟩
  rw [hn]
  have HM := Lib.hid hm
  have HN := Lib.hid hn
  clear hm hn
  have hmk : (Instr.makeSlice 55 (.int .i64 4) (.int .i64 4)).run Try.prog w = .ok (.slice (some ⟨w.heap.size, 0, none⟩) 4 4) (w.alloc (.cells #[.int .u8 0, .int .u8 0, .int .u8 0, .int .u8 0] 5)) := by kernel_rfl
  have hst : Blk (w.alloc (.cells #[.int .u8 0, .int .u8 0, .int .u8 0, .int .u8 0] 5)) w.heap.size 5 #[.int .u8 0, .int .u8 0, .int .u8 0, .int .u8 0] := Blk.new w _ _
  have hb0 : Below w.heap.size w (w.alloc (.cells #[.int .u8 0, .int .u8 0, .int .u8 0, .int .u8 0] 5)) := (Below.refl _ w).alloc (Nat.le_refl _) _
  have HST := Lib.hid hst
  have HB0 := Lib.hid hb0
  clear hst hb0
  go_enter Try.func18, Try.ntmps18
  go_wp2_with fail
  go_loopw [6] (fun i wr => Below w.heap.size w wr ∧ ((i = .int .i64 0 ∧ Blk wr w.heap.size 5 #[.int .u8 0, .int .u8 0, .int .u8 0, .int .u8 0]) ∨ (i = .int .i64 1 ∧ Blk wr w.heap.size 5 #[.int .u8 (n % 256), .int .u8 0, .int .u8 0, .int .u8 0]) ∨ (i = .int .i64 2 ∧ Blk wr w.heap.size 5 #[.int .u8 (n % 256), .int .u8 (n / 256 % 256), .int .u8 0, .int .u8 0]) ∨ (i = .int .i64 3 ∧ Blk wr w.heap.size 5 #[.int .u8 (n % 256), .int .u8 (n / 256 % 256), .int .u8 (n / 65536 % 256), .int .u8 0]) ∨ (i = .int .i64 4 ∧ Blk wr w.heap.size 5 #[.int .u8 (n % 256), .int .u8 (n / 256 % 256), .int .u8 (n / 65536 % 256), .int .u8 (n / 16777216 % 256)]))) (fun i _ => 4 - (intOf i).toNat)
  case atStart => exact ⟨HB0.out, .inl ⟨rfl, HST.out⟩⟩
  case round =>
    clear HST HB0 hmk
    obtain ⟨hb, hr⟩ := hrel
    have HB := Lib.hid hb
    clear hb
    rcases hr with ⟨rfl, h⟩ | ⟨rfl, h⟩ | ⟨rfl, h⟩ | ⟨rfl, h⟩ | ⟨rfl, h⟩
    · have c0 : wr.cell? ⟨w.heap.size, 0, none⟩ = some (.int .u8 0) := h.cell 0
      have f0 : wr.frozen? ⟨w.heap.size, 0, none⟩ = false := h.frozen 0
      have H := Lib.hid h
      clear h
      go_wp2_with fail
      go_roundw
      case rel => exact ⟨HB.out.setCell (Nat.le_refl _) _, .inr (.inl ⟨rfl, by simpa using H.out.set_ 0 (.int .u8 (n % 256))⟩)⟩
      case measure => simp [intOf]
    · have c0 : wr.cell? ⟨w.heap.size, 1, none⟩ = some (.int .u8 0) := h.cell 1
      have f0 : wr.frozen? ⟨w.heap.size, 1, none⟩ = false := h.frozen 1
      have H := Lib.hid h
      clear h
      go_wp2_with fail
      go_roundw
      case rel => exact ⟨HB.out.setCell (Nat.le_refl _) _, .inr (.inr (.inl ⟨rfl, by simpa using H.out.set_ 1 (.int .u8 (n / 256 % 256))⟩))⟩
      case measure => simp [intOf]
    · have c0 : wr.cell? ⟨w.heap.size, 2, none⟩ = some (.int .u8 0) := h.cell 2
      have f0 : wr.frozen? ⟨w.heap.size, 2, none⟩ = false := h.frozen 2
      have H := Lib.hid h
      clear h
      go_wp2_with fail
      go_roundw
      case rel => exact ⟨HB.out.setCell (Nat.le_refl _) _, .inr (.inr (.inr (.inl ⟨rfl, by simpa using H.out.set_ 2 (.int .u8 (n / 65536 % 256))⟩)))⟩
      case measure => simp [intOf]
    · have c0 : wr.cell? ⟨w.heap.size, 3, none⟩ = some (.int .u8 0) := h.cell 3
      have f0 : wr.frozen? ⟨w.heap.size, 3, none⟩ = false := h.frozen 3
      have H := Lib.hid h
      clear h
      go_wp2_with fail
      go_roundw
      case rel => exact ⟨HB.out.setCell (Nat.le_refl _) _, .inr (.inr (.inr (.inr (⟨rfl, by simpa using H.out.set_ 3 (.int .u8 (n / 16777216 % 256))⟩))))⟩
      case measure => simp [intOf]
    · have hc := Lib.run_convert_whole (P := Try.prog) wr 55 5 9 Try.underlying55 Try.underlying5 Try.underlying9 w.heap.size 0 (bstr (wb m 4)) (fun i hi => by
        have hi' : i < (wb m 4).length := by rw [← bstr_size]; exact hi
        have h1 := h.cell i
        have h2 := congrArg (fun l => l[i]?) (wb4 m HM.out)
        simp only [List.getElem?_map, List.getElem?_eq_getElem hi'] at h2
        have e : n / 16777216 % 256 = n / 16777216 := by have := HN.out; have := HM.out; omega
        rw [Nat.zero_add, h1, List.getElem?_toArray, e]
        rw [HN.out] at h2
        exact h2.symm) 4
      rw [bstr_size, wb_length] at hc
      have HC := Lib.hid hc
      clear hc h
      go_wp2_with fail
      rw [HC.out]
      go_wp2_with fail
      go_ret
      exact ⟨rfl, HB.out⟩
theorem le_wb (n : Nat) (hn : n ≤ 4294967295) : le (wb n 4) = n := by
  have e : wb n 4 = [UInt8.ofNat (n / 1), UInt8.ofNat (n / 256), UInt8.ofNat (n / 65536), UInt8.ofNat (n / 16777216)] := rfl
  rw [e]
  simp only [le, UInt8.toNat_ofNat']
  omega
theorem new_arr (w : World) (v mx : Nat) (h1 : 1 ≤ v) (h2 : v ≤ 4096) (h3 : 1 ≤ mx) (h4 : mx ≤ 4096) (h7 : mx * wide v ≤ 1048576) (vi mi : Int) (hv : (v : Int) = vi) (hm : (mx : Int) = mi) : Calls Try.prog 12 #[.pointer (some ⟨w.heap.size, 0, none⟩), .agg #[.int .i64 2, .int .i64 4, .int .i64 vi, .int .i64 mi], .int .i64 1] (w.alloc (.cells #[.map none, .int .u32 0, .slice none 0 0, .int .i64 0] 66)) fun e w' => ∃ x S st mv rv, e = .returned (.tuple #[.pointer (some ⟨x, 0, none⟩), .int .i64 0]) ∧
      FS w.heap.size w w' S w.heap.size 1 0 st [] mv rv x (mapC w.heap.size 2 v mx (sharedV (addr 1 0))) ∧ (∃ r, st 1 = some r ∧ r.perm = 3 ∧ r.bytes = List.replicate (mx * wide v) 0 ∧ r.ret = false) := by
  subst hv; subst hm
  exact start_arr w v mx h1 h2 h3 h4 h7
theorem clamp_keys (n : Int) : ∃ k : Nat, 1 ≤ k ∧ k ≤ 40 ∧ max 1 (min n 40) = (k : Int) := ⟨(max 1 (min n 40)).toNat, by omega, by omega, by omega⟩
/-- The key ahead of number i. -/
def keyAt (i : Nat) : ByteArray := if i = 0 then ⟨#[]⟩ else bstr (wb (i - 1) 4)
theorem next_at {w : World} {x bm : Nat} (k i : Nat) (hk : k ≤ 40) (hi : i < k) (t : TypeId) (u : Value) (h : Blk w x 77 (mapC bm 2 (1 : Nat) k (.iface t u))) :
    Calls Try.prog 22 #[.pointer (some ⟨x, 0, none⟩), .string (keyAt i)] w fun e w' => e = .returned (.tuple #[.string (bstr (wb i 4)), .int .i64 0]) ∧ Below w.heap.size w w' := by
  by_cases h0 : i = 0
  · subst h0
    exact Next_start 1 k t u 2 h ⟨#[]⟩ (by decide)
  · have hl := le_wb (i - 1) (by omega)
    have := Next_on 1 k (by omega) t u 2 h (wb (i - 1) 4) (wb_length _ _) (by omega)
    rw [hl, show i - 1 + 1 = i by omega] at this
    unfold keyAt
    rw [if_neg h0]
    exact this
theorem next_end {w : World} {x bm : Nat} (k : Nat) (hk : k ≤ 40) (h1 : 1 ≤ k) (t : TypeId) (u : Value) (h : Blk w x 77 (mapC bm 2 (1 : Nat) k (.iface t u))) :
    Calls Try.prog 22 #[.pointer (some ⟨x, 0, none⟩), .string (keyAt k)] w fun e w' => e = .returned (.tuple #[.string ⟨#[]⟩, .int .i64 4]) ∧ w = w' := by
  have hl := le_wb (k - 1) (by omega)
  unfold keyAt
  rw [if_neg (by omega)]
  exact Next_last 1 k (by omega) t u 2 h (wb (k - 1) 4) (wb_length _ _) (by omega)
set_option maxHeartbeats 1000000 in
theorem keys_walk (n : Int) (w : World) :
    Calls Try.prog 6 #[.int .i64 n] w fun e w' => e = .returned (.bool true) ∧ Below w.heap.size w w' := by
  obtain ⟨k, k1, k2, hk⟩ := clamp_keys n
  have C0 := Lib.hid (new_any w)
  have CN := Lib.hid (new_arr w 1 k (by decide) (by decide) k1 (by omega) (by unfold wide; omega) 1 k rfl rfl)
  have K2 := Lib.hid k2
  have K1 := Lib.hid k1
  clear k1 k2
  go_enter Try.func6, Try.ntmps6
  go_upto_region 2 with fail
  generalize min n 40 = q at *
  clear hk
  go_wp2_with (first
    | (go_at_call 9; refine C0.out.mono ?_; rintro e w1 ⟨rfl, rfl⟩)
    | (go_at_call 12; refine CN.out.mono ?_; rintro e w2 ⟨x, S, st, mv, rv, rfl, hf, _⟩; have F := Lib.hid hf; clear hf))
  go_loopw [6, 7] (fun y i wr => ∃ j : Nat, j ≤ k ∧ i = .int .i64 j ∧ y = .string (keyAt j) ∧ FS w.heap.size w wr S w.heap.size 1 0 st [] mv rv x (mapC w.heap.size 2 (1 : Nat) k (sharedV (addr 1 0)))) (fun _ i _ => k - (intOf i).toNat)
  case atStart => exact ⟨0, by omega, rfl, rfl, F.out⟩
  case round =>
    obtain ⟨j, hj, rfl, rfl, hr⟩ := hrel
    have F1 := Lib.hid hr
    clear hr F C0 CN
    by_cases hlt : j < k
    · have HJ := Lib.hid hlt
      have g1 : IntKind.u64.wrap (j : Int) = (j : Int) := wraps_u64 _ (by omega) (by have := K2.out; omega)
      have HW : Hid (wrap64 ((j : Int) + 1) = (j : Int) + 1) := by unfold Hid wrap64; have := K2.out; omega
      go_wp2_with (first
        | (go_at_call 22; refine (next_at k j K2.out HJ.out _ _ F1.out.map).mono ?_; rintro e w3 ⟨rfl, hb⟩; have F3 := Lib.hid (F1.out.grow hb); clear hb)
        | (go_at_call 18; refine (le_4 j (by have := HJ.out; have := K2.out; omega) _).mono ?_; rintro e w4 ⟨rfl, hb⟩; have F4 := Lib.hid (F3.out.grow hb); clear hb))
      exact ⟨⟨j + 1, by omega, by rw [HW.out]; go_num, congrArg Value.string (by unfold keyAt; rw [if_neg (by omega)]; rfl), F4.out⟩, by rw [HW.out]; simp [intOf]; omega⟩
    · have : j = k := by omega
      subst this
      go_wp2_with (first
        | (go_at_call 22; refine (next_end j K2.out K1.out _ _ F1.out.map).mono ?_; rintro e w3 ⟨rfl, rfl⟩)
        | (go_at_call 8; refine (awake_later F1.out.below F1.out.sz).mono ?_; rintro e w7 ⟨rfl, hb⟩; have B7 := Lib.hid hb; clear hb))
      go_ret
      exact ⟨rfl, B7.out⟩
end Go.Proofs.Ythilkgfbaddjpaa
