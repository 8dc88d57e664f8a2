/-
  Layer 11: the reference's bytes of a number, keys; awake; calls on nil. Layer 11: awake, whole; calls on nil.
-/
import Derived.Test.YtomhflaofipccaaP28
namespace Go.Proofs.Ytomhflaofipccaa
open Go Go.RowKit Go.Maps
set_option linter.unusedVariables false
set_option linter.unusedSimpArgs false
set_option maxRecDepth 100000
theorem lenL_wb (n k : Nat) : lenL k n k = wb n k := by
  unfold lenL wb
  refine List.map_congr_left fun i hi => ?_
  rw [List.mem_range] at hi
  rw [if_pos hi]
  apply UInt8.toNat.inj
  simp
set_option maxHeartbeats 1000000 in
theorem le_any (m k : Nat) (hm : m ≤ 18446744073709551615) (hk : k ≤ 8) (w : World) :
    Calls Try.prog 11 #[.int .u64 (m : Int), .int .i64 k] w fun e w' => e = .returned (.string (bstr (wb m k))) ∧ Qt w w' := by
  obtain ⟨i0, hi, hz0, hz1, hz2⟩ := info_parts info8
  obtain ⟨M, hM⟩ : ∃ M, M = madeCells (Value.int .u8 0).cells ((k : Int).toNat * i0.size) := ⟨_, rfl⟩
  have hmk : ∀ W : World, (Instr.makeSlice 42 (.int .i64 (k : Int)) (.int .i64 (k : Int))).run Try.prog W = .ok (.slice (some ⟨W.heap.size, 0, none⟩) k k) (W.alloc (.cells M 5)) := fun W => by
    have h := run_make (P := Try.prog) W 42 5 i0 (.int .u8 0) Try.underlying42 hi hz0 .i64 .i64 (k : Int) (k : Int) (by omega) (by omega) (by rw [hz2]; omega) (by omega)
    rw [← hM] at h
    simpa using h
  have hML : Hid (M = ((lenL k m 0).map byteV).toArray) := by
    refine Array.ext (by rw [hM, size_madeCells, hz1]; simp [Value.cells, lenL_length]) fun i h1 h2 => ?_
    simp [hM, madeCells, Nat.mod_one, lenL, byteV, Value.cells]
  clear hM hi hz0 hz1 hz2
  go_enter Try.func11, Try.ntmps11
  go_wp2_with fail
  go_loopw [6] (fun i wr => ∃ j : Nat, i = .int .i64 j ∧ j ≤ k ∧ Qt w wr ∧ Blk wr w.heap.size 5 ((lenL k m j).map byteV).toArray) (fun i _ => k - (intOf i).toNat)
  case atStart =>
    refine ⟨0, rfl, by omega, (Keeps.refl _ w).alloc _, ?_⟩
    rw [hML.out]
    exact Blk.new w 5 ((lenL k m 0).map byteV).toArray
  case round =>
    obtain ⟨j, rfl, hj, hw, h1⟩ := hrel
    have HW := Lib.hid hw; have H1 := Lib.hid h1
    by_cases hlt : j < k
    · have g1 : decide (j < k) = true := by simpa using hlt
      have g1' : (j : Int) < (k : Int) := by omega
      have cf : wr.frozen? ⟨w.heap.size, j, none⟩ = false := h1.frozen j
      have hjl : j < (lenL k m j).length := by rw [lenL_length]; omega
      have cc : wr.cell? ⟨w.heap.size, j, none⟩ = some (byteV (lenL k m j)[j]) := by rw [h1.cell j]; simp [hjl]
      have hv : Value.int .u8 ((m : Int) / 2 ^ (8 * j) % 256) = byteV (UInt8.ofNat (m / 256 ^ j % 256)) := by
        rw [← byteV_nat _ (Nat.mod_lt _ (by decide)), show (256 : Nat) = 2 ^ 8 from rfl, ← Nat.pow_mul]
        simp
      have HV := Lib.hid hv; clear hv
      have hj8 : (8 : Int) * j ≤ 63 := by omega
      clear hw h1
      go_wp2_with fail
      go_roundw
      case rel =>
        rw [HV.out]
        refine ⟨j + 1, by go_num, by omega, HW.out.setCell (p := ⟨w.heap.size, j, none⟩) (.inr (Nat.le_refl _)) _, ?_⟩
        have := H1.out.set_ j (byteV (UInt8.ofNat (m / 256 ^ j % 256)))
        rwa [byteV_set, lenL_set _ _ _ hlt] at this
      case measure => simp [intOf]; omega
    · obtain rfl : j = k := by omega
      have g1 : decide (j < j) = false := by simp
      have hcv := conv_blk (cap := j) H1.out
      rw [lenL_length] at hcv
      clear hw h1
      go_wp2_with fail
      go_ret
      exact ⟨by rw [lenL_wb]; rfl, HW.out⟩
/-- A key: a length, and bytes. -/
def keyV (n : Nat) (s : ByteArray) : ByteArray := bstr (wb n 4) ++ s
theorem keyV_size (n : Nat) (s : ByteArray) : (keyV n s).size = 4 + s.size := by
  unfold keyV
  rw [ByteArray.size_append, bstr_size, wb_length]
theorem keyV_byt (n : Nat) (s : ByteArray) (i : Nat) : byt (keyV n s) i = if i < 4 then n / 256 ^ i % 256 else byt s (i - 4) := by
  have e : keyV n s = bstr (wb n 4 ++ s.data.toList) := by
    unfold keyV bstr
    apply ByteArray.ext
    simp
  rw [e, byt_bstr, List.getD_eq_getElem?_getD]
  by_cases h : i < 4
  · rw [if_pos h, List.getElem?_append_left (by rw [wb_length]; exact h)]
    simp [wb, h]
  · rw [if_neg h, List.getElem?_append_right (by rw [wb_length]; omega), wb_length]
    unfold byt
    rw [List.getD_eq_getElem?_getD]
theorem keyV_len (n : Nat) (s : ByteArray) (h : n < 4294967296) : lenB (keyV n s) = n := by
  unfold lenB
  rw [keyV_byt, keyV_byt, keyV_byt, keyV_byt, if_pos (by decide), if_pos (by decide), if_pos (by decide), if_pos (by decide)]
  simp only [Nat.pow_zero, Nat.div_one, Nat.reducePow]
  omega
theorem key_any (n : Nat) (s : ByteArray) (hn : n ≤ 4294967295) (hs : s.size ≤ 140737488355328) (w : World) :
    Calls Try.prog 10 #[.int .i64 n, .string s] w fun e w' => e = .returned (.string (keyV n s)) ∧ Qt w w' := by
  have CL := Lib.hid (le_any n 4 (by omega) (by decide))
  have hz : (bstr (wb n 4)).size = 4 := by rw [bstr_size, wb_length]
  have HE : Hid (keyV n s = bstr (wb n 4) ++ s) := rfl
  have ew : IntKind.u64.wrap (n : Int) = (n : Int) := IntWalk.u64_in _ (by omega)
  generalize bstr (wb n 4) = b at *
  go_enter Try.func10, Try.ntmps10
  go_wp2_with (go_at_call 11; refine (CL.out _).mono ?_; rintro e w1 ⟨rfl, hq⟩; have HQ := Lib.hid hq; clear hq)
  go_ret
  exact ⟨by rw [HE.out]; rfl, HQ.out⟩
end Go.Proofs.Ytomhflaofipccaa
namespace Go.Proofs.Ytomhflaofipccaa
open Go Go.RowKit Go.Maps
set_option linter.unusedVariables false
set_option linter.unusedSimpArgs false
set_option maxRecDepth 100000
abbrev k8 : ByteArray := ⟨#[8, 0, 0, 0, 10, 0, 0, 0]⟩
abbrev k16 : ByteArray := ⟨#[16, 0, 0, 0, 10, 1, 0, 0]⟩
abbrev ka : ByteArray := ⟨#[32, 0, 0, 0, 10, 1, 2, 3]⟩
abbrev kb : ByteArray := ⟨#[32, 0, 0, 0, 10, 2, 2, 3]⟩
abbrev kc : ByteArray := ⟨#[32, 0, 0, 0, 11, 0, 0, 1]⟩
abbrev k12 : ByteArray := ⟨#[12, 0, 0, 0, 10, 1, 0, 0]⟩
structure AwakeP (p : HPar) (s0 s1 s2 : HSt) : Prop where
  o0 : HOk p s0 ∧ s0.m.made < 4095
  o1 : HOk p s1 ∧ s1.m.made < 4095
  o2 : HOk p s2 ∧ s2.m.made < 4095
  u1 : updS p s0 k8 ⟨#[97]⟩ 0 = s1 ∧ updA p s0 k8 ⟨#[97]⟩ 0 = 0
  u2 : updS p s1 k16 ⟨#[98]⟩ 0 = s2 ∧ updA p s1 k16 ⟨#[98]⟩ 0 = 0
  l1 : lookA p s2 ka = 8589934592
  l2 : lookA p s2 kb = 4294967296
  l3 : lookA p s2 kc = 0
  l4 : lookA p s2 k12 = 4294967296
  len : s2.es.length = 2
  u3 : updS p s2 ⟨#[97, 98, 99]⟩ ⟨#[97]⟩ 0 = s2 ∧ updA p s2 ⟨#[97, 98, 99]⟩ ⟨#[97]⟩ 0 = 1
theorem awake_plan (bm x : Nat) : ∃ s1 s2, AwakeP ⟨bm, 0, x, 0, 11, 8, 1, 4⟩ ⟨⟨0, 0, fun _ => none⟩, [], false⟩ s1 s2 := by
  have o0 : HOk ⟨bm, 0, x, 0, 11, 8, 1, 4⟩ ⟨⟨0, 0, fun _ => none⟩, [], false⟩ := hok_new (key := 8) (v := 1) (mx := 4) (by decide)
  generalize hp : (⟨bm, 0, x, 0, 11, 8, 1, 4⟩ : HPar) = p at *
  have pk : p.key = 8 := by rw [← hp]
  have pv : p.v = 1 := by rw [← hp]
  have pm : p.mx = 4 := by rw [← hp]
  generalize hs0 : (⟨⟨0, 0, fun _ => none⟩, [], false⟩ : HSt) = s0 at *
  have e0 : s0.es = [] := by rw [← hs0]
  have m0 : s0.m.made = 0 := by rw [← hs0]
  have f0 : s0.m.fail = 0 := by rw [← hs0]
  have g0 : s0.gone = false := by rw [← hs0]
  clear hp hs0
  have K : ∀ k : ByteArray, IsKey 8 k → IsKey p.key k := fun k h => pk ▸ h
  have g1 := upd_goes o0 k8 ⟨#[97]⟩ 0
  have hM1 : May p s0 k8 ⟨#[97]⟩ 0 := ⟨K _ (by decide), by rw [pv]; rfl, by decide, g0⟩
  obtain ⟨a1, u1⟩ := upd_new hM1 (by rw [e0]; rfl) (by rw [e0, pm]; decide) (by rw [f0]; decide)
  have F8 : formB k8 = k8 := by decide +kernel
  have F16 : formB k16 = k16 := by decide +kernel
  have e1 : (updS p s0 k8 ⟨#[97]⟩ 0).es = [⟨k8, 1⟩] := by rw [u1, F8]; show s0.es ++ [⟨k8, s0.m.made + 1⟩] = _; rw [e0, m0]; rfl
  have m1 : (updS p s0 k8 ⟨#[97]⟩ 0).m.made = 1 := by rw [u1]; show s0.m.made + 1 = 1; rw [m0]
  have f1 : (updS p s0 k8 ⟨#[97]⟩ 0).m.fail = 0 := by rw [u1]; show s0.m.fail - 1 = 0; rw [f0]
  have n1 : (updS p s0 k8 ⟨#[97]⟩ 0).gone = false := by rw [u1]; exact g0
  generalize h1 : updS p s0 k8 ⟨#[97]⟩ 0 = s1 at *
  have g2 := upd_goes g1.ok k16 ⟨#[98]⟩ 0
  have hM2 : May p s1 k16 ⟨#[98]⟩ 0 := ⟨K _ (by decide), by rw [pv]; rfl, by decide, n1⟩
  obtain ⟨a2, u2⟩ := upd_new hM2 (by rw [e1, F16, findE, if_neg (by rw [keyB_no.2 (by decide)]; decide)]; rfl) (by rw [e1, pm]; decide) (by rw [f1]; decide)
  have e2 : (updS p s1 k16 ⟨#[98]⟩ 0).es = [⟨k8, 1⟩, ⟨k16, 2⟩] := by rw [u2, F16]; show s1.es ++ [⟨k16, s1.m.made + 1⟩] = _; rw [e1, m1]; rfl
  have m2 : (updS p s1 k16 ⟨#[98]⟩ 0).m.made = 2 := by rw [u2]; show s1.m.made + 1 = 2; rw [m1]
  generalize h2 : updS p s1 k16 ⟨#[98]⟩ 0 = s2 at *
  have lk : ∀ k : ByteArray, IsKey 8 k → lookA p s2 k = (longTo [⟨k8, 1⟩, ⟨k16, 2⟩] k 2).elim 0 fun e => addr e.n 0 := fun k hk => by
    unfold lookA; rw [if_pos (K k hk), e2]; rfl
  have hb : updBad p s2 ⟨#[97, 98, 99]⟩ ⟨#[97]⟩ 0 := .inr (.inl (by unfold IsKey; rw [pk]; rintro ⟨h, _⟩; exact absurd h (by decide)))
  refine ⟨s1, s2, ⟨o0, by omega⟩, ⟨g1.ok, by omega⟩, ⟨g2.ok, by omega⟩, ⟨h1, a1⟩, ⟨h2, a2⟩, ?_, ?_, ?_, ?_, by rw [e2]; rfl, by unfold updS; rw [if_pos hb], by unfold updA; rw [if_pos hb]⟩
  · rw [lk _ (by decide)]; decide +kernel
  · rw [lk _ (by decide)]; decide +kernel
  · rw [lk _ (by decide)]; decide +kernel
  · rw [lk _ (by decide)]; decide +kernel
theorem look_nil (key : ByteArray) (w : World) : Calls Try.prog 12 #[.pointer none, .string key] w fun e w' => e = .returned (.int .u64 0) ∧ Qt w w' := look_bad (prefix_no _ _ _ gone_nil)
theorem upd_nil (key value : ByteArray) (fl : Int) (w : World) : Calls Try.prog 9 #[.pointer none, .string key, .string value, .int .i64 fl] w fun e w' => e = .returned (.int .i64 1) ∧ Qt w w' := upd_bad (prefix_no _ _ _ gone_nil)
theorem del_nil (key : ByteArray) (w : World) : Calls Try.prog 15 #[.pointer none, .string key] w fun e w' => e = .returned (.int .i64 1) ∧ Qt w w' := del_bad (prefix_no _ _ _ gone_nil)
theorem next_nil (key : ByteArray) (w : World) : Calls Try.prog 16 #[.pointer none, .string key] w fun e w' => e = .returned (.tuple #[.string ⟨#[]⟩, .int .i64 1]) ∧ w = w' := by
  go_enter Try.func16, Try.ntmps16
  go_wp2_with fail
  go_ret2
  exact ⟨rfl, rfl⟩
theorem mlen_nil (w : World) : Calls Try.prog 14 #[.pointer none] w fun e w' => e = .returned (.int .i64 0) ∧ w = w' := by
  go_enter Try.func14, Try.ntmps14
  go_wp2_with fail
  go_ret
  exact ⟨rfl, rfl⟩
theorem key_lit (n : Nat) (s k : ByteArray) (hn : n ≤ 255) (hs : s.size ≤ 4) (hk : keyV n s = k) (w : World) :
    Calls Try.prog 10 #[.int .i64 n, .string s] w fun e w' => e = .returned (.string k) ∧ Qt w w' := hk ▸ key_any n s (by omega) (by omega) w
theorem kk8 (w : World) : Calls Try.prog 10 #[.int .i64 8, .string ⟨#[10, 0, 0, 0]⟩] w fun e w' => e = .returned (.string k8) ∧ Qt w w' := key_lit 8 _ _ (by decide) (by decide) (by decide +kernel) w
theorem kk16 (w : World) : Calls Try.prog 10 #[.int .i64 16, .string ⟨#[10, 1, 0, 0]⟩] w fun e w' => e = .returned (.string k16) ∧ Qt w w' := key_lit 16 _ _ (by decide) (by decide) (by decide +kernel) w
theorem kka (w : World) : Calls Try.prog 10 #[.int .i64 32, .string ⟨#[10, 1, 2, 3]⟩] w fun e w' => e = .returned (.string ka) ∧ Qt w w' := key_lit 32 _ _ (by decide) (by decide) (by decide +kernel) w
theorem kkb (w : World) : Calls Try.prog 10 #[.int .i64 32, .string ⟨#[10, 2, 2, 3]⟩] w fun e w' => e = .returned (.string kb) ∧ Qt w w' := key_lit 32 _ _ (by decide) (by decide) (by decide +kernel) w
theorem kkc (w : World) : Calls Try.prog 10 #[.int .i64 32, .string ⟨#[11, 0, 0, 1]⟩] w fun e w' => e = .returned (.string kc) ∧ Qt w w' := key_lit 32 _ _ (by decide) (by decide) (by decide +kernel) w
theorem kk12 (w : World) : Calls Try.prog 10 #[.int .i64 12, .string ⟨#[10, 1, 0, 0]⟩] w fun e w' => e = .returned (.string k12) ∧ Qt w w' := key_lit 12 _ _ (by decide) (by decide) (by decide +kernel) w
set_option maxHeartbeats 2000000 in
theorem awake_any (w : World) :
    Calls Try.prog 6 #[] w fun e w' => e = .returned (.bool true) ∧ Below w.heap.size w w' := by
  have C0 := Lib.hid (new_any w)
  have CN := Lib.hid (tb_new w 11 8 1 4 (by decide))
  have AP := Lib.hid (fun x => awake_plan w.heap.size x)
  go_enter Try.func6, Try.ntmps6
  go_upto_region 3 with (first
    | (go_at_call 7; refine C0.out.mono ?_; rintro e w1 ⟨rfl, rfl⟩)
    | (go_at_call 8; refine CN.out.mono ?_; rintro e w2 ⟨x, rfl, hf⟩; have F := Lib.hid hf; clear hf))
  obtain ⟨s1, s2, ap⟩ := AP.out x
  have A := Lib.hid ap
  clear C0 CN ap AP
  go_upto_region 6 with (first
    | (have _p := G3.out; go_at_call 9; refine (G3.out.upd A.out.o1.1 A.out.o1.2 k16 ⟨#[98]⟩ 0).mono ?_; rintro e w6 ⟨rfl, h⟩; rw [A.out.u2.1] at h; rw [A.out.u2.2]; have G4 := Lib.hid h; clear h)
    | (have _p := G2.out; go_at_call 10; refine (kk16 _).mono ?_; rintro e w5 ⟨rfl, hq⟩; have G3 := Lib.hid (G2.out.quiet hq); clear hq)
    | (have _p := G1.out; go_at_call 9; refine (G1.out.upd A.out.o0.1 A.out.o0.2 k8 ⟨#[97]⟩ 0).mono ?_; rintro e w4 ⟨rfl, h⟩; rw [A.out.u1.1] at h; rw [A.out.u1.2]; have G2 := Lib.hid h; clear h)
    | (go_at_call 10; refine (kk8 _).mono ?_; rintro e w3 ⟨rfl, hq⟩; have G1 := Lib.hid (F.out.quiet hq); clear hq))
  clear G1 G2 G3 F
  go_upto_region 7 with (first
    | (have _p := G9.out; go_at_call 12; refine (G9.out.look A.out.o2.1 kc).mono ?_; rintro e w12 ⟨rfl, h⟩; rw [A.out.l3]; have G10 := Lib.hid h; clear h)
    | (have _p := G8.out; go_at_call 10; refine (kkc _).mono ?_; rintro e w11 ⟨rfl, hq⟩; have G9 := Lib.hid (G8.out.quiet hq); clear hq)
    | (have _p := G7.out; go_at_call 12; refine (G7.out.look A.out.o2.1 kb).mono ?_; rintro e w10 ⟨rfl, h⟩; rw [A.out.l2]; have G8 := Lib.hid h; clear h)
    | (have _p := G6.out; go_at_call 10; refine (kkb _).mono ?_; rintro e w9 ⟨rfl, hq⟩; have G7 := Lib.hid (G6.out.quiet hq); clear hq)
    | (have _p := G5.out; go_at_call 12; refine (G5.out.look A.out.o2.1 ka).mono ?_; rintro e w8 ⟨rfl, h⟩; rw [A.out.l1]; have G6 := Lib.hid h; clear h)
    | (go_at_call 10; refine (kka _).mono ?_; rintro e w7 ⟨rfl, hq⟩; have G5 := Lib.hid (G4.out.quiet hq); clear hq))
  clear G4 G5 G6 G7 G8 G9
  go_wp2_with (first
    | (go_at_call 10; refine (kk12 _).mono ?_; rintro e w13 ⟨rfl, hq⟩; have G11 := Lib.hid (G10.out.quiet hq); clear hq)
    | (go_at_call 12; refine (G11.out.look A.out.o2.1 k12).mono ?_; rintro e w14 ⟨rfl, h⟩; rw [A.out.l4]; have G12 := Lib.hid h; clear h)
    | (go_at_call 14; refine (G12.out.len A.out.o2.1).mono ?_; rintro e w15 ⟨rfl, rfl⟩; rw [A.out.len])
    | (go_at_call 9; refine (G12.out.upd A.out.o2.1 A.out.o2.2 ⟨#[97, 98, 99]⟩ ⟨#[97]⟩ 0).mono ?_; rintro e w16 ⟨rfl, h⟩; rw [A.out.u3.1] at h; rw [A.out.u3.2]; have G13 := Lib.hid h; clear h))
  go_ret
  exact ⟨rfl, G13.out.below⟩
theorem awake_later {B : Nat} {w w' : World} (hb : Below B w w') (hB : B ≤ w'.heap.size) : Calls Try.prog 6 #[] w' fun e w'' => e = .returned (.bool true) ∧ Below B w w'' :=
  (awake_any w').mono fun e w'' h => ⟨h.1, hb.trans (h.2.mono hB)⟩
end Go.Proofs.Ytomhflaofipccaa
