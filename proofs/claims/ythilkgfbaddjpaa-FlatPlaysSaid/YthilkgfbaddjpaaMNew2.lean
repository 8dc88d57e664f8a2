/-
  The reference of layer 8: New.
-/
import Derived.Test.YthilkgfbaddjpaaP11
namespace Go.Proofs.Ythilkgfbaddjpaa
open Go Go.RowKit Go.Maps
set_option linter.unusedVariables false
set_option linter.unusedSimpArgs false
set_option maxRecDepth 100000
section
variable {w : World} {T : Nat → Prop} {bx f size s y : Nat} {k v mx c : Int}
theorem XN.drew {j : Nat} {wr : World} {vv : Value} {T' : Nat → Prop} (h : XN w T bx f size s y k v mx c j wr vv T') : XN w T bx f size s y k v mx c j wr.drew vv T' :=
  { h with xs := h.xs.grow ((Keeps.refl _ wr).drew), row := ownsRow_block h.row fun _ _ => rfl }
theorem ynew_bad (k key v mx c : Int) (w : World) (hF : ∀ W : World, Calls Try.prog 30 #[specV k key v mx, .int .i64 c] W fun e w' => e = .returned (.bool false) ∧ Below W.heap.size W w') :
    Calls Try.prog 13 #[.pointer (some ⟨bx, 0, none⟩), specV k key v mx, .int .i64 c] w fun e w' => e = .returned (.tuple #[.pointer none, .int .i64 1]) ∧ Below w.heap.size w w' := by
  have CF := Lib.hid hF
  have B0 := Lib.hid (below_alloc w (.cells #[.int .i64 k, .int .i64 key, .int .i64 v, .int .i64 mx] 23))
  clear hF
  go_enter Try.func13, Try.ntmps13
  go_wp2_with (go_at_call 30; refine (CF.out _).mono ?_; rintro e w1 ⟨rfl, hb⟩; have B1 := Lib.hid (below_then B0.out hb); clear hb)
  go_ret2
  exact ⟨rfl, B1.out⟩
theorem XN.start {w1 : World} (h : XSide w T bx ⟨0, f, fun _ => none⟩) (size : Nat) (hb : Below w.heap.size w w1) (sp : Blk w1 w.heap.size 23 #[.int .i64 k, .int .i64 4, .int .i64 v, .int .i64 mx]) :
    XN w T bx f size w.heap.size w1.heap.size k v mx c 0 (w1.alloc (.cells (refC bx k v mx c (.slice none 0 0) false) 79)) (.slice none 0 0) T := by
  have h2 : XSide w T bx ⟨0, f - 0, rng 0 0 (zeros size)⟩ := by rw [rng_nil]; exact h
  have hl := sp.lt
  refine ⟨(XS.start h2).grow ((keeps_grow hb).trans (Keeps.mono ((Keeps.refl _ _).alloc _) fun b hf => .inl hf)), sp.alloc _, Blk.new w1 _ _, World.ownsRow_nil _ _ _ _, (fun g hg => by cases hg), fun hs => Nat.lt_irrefl _ (h.lt' _ hs), fun hs => ?_, by omega, Nat.le_refl _, hb.size⟩
  have := h.lt' _ hs
  have := hb.size
  omega
set_option maxHeartbeats 2000000 in
theorem ynew_ok_arr (c : Int) (f v mx : Nat) (h : XSide w T bx ⟨0, f, fun _ => none⟩) (hf : f = 0 ∨ 1 < f)  (h1 : 1 ≤ v) (h2 : v ≤ 4096) (h3 : 1 ≤ mx) (h4 : mx ≤ 4096) (h7 : mx * wide v ≤ 1048576)
    (hF : ∀ W : World, Calls Try.prog 30 #[specV 2 4 v mx, .int .i64 c] W fun e w' => e = .returned (.bool true) ∧ Below W.heap.size W w') :
    Calls Try.prog 13 #[.pointer (some ⟨bx, 0, none⟩), specV 2 4 v mx, .int .i64 c] w fun e w' => ∃ y vv T', e = .returned (.tuple #[.pointer (some ⟨y, 0, none⟩), .int .i64 0]) ∧ XN w T bx f (mx * wide v) w.heap.size y 2 v mx c 1 w' vv T' := by
  obtain ⟨q, hq⟩ : ∃ q, mx * wide v = q := ⟨_, rfl⟩
  have hw1 : 1 ≤ wide v := by unfold wide; omega
  have hq1 : 1 ≤ q := by rw [← hq]; exact Nat.mul_pos (by omega) (by omega)
  have e0 : (mx : Int) * (wide v : Int) = (q : Int) := by rw [← hq]; simp
  have e3 : IntKind.i64.wrap ((mx : Int) * (wide v : Int)) = (q : Int) := by rw [e0]; exact IntWalk.i64_in _ (by rw [hq] at h7; omega)
  rw [hq] at h7 ⊢
  have CF := Lib.hid hF
  have CW := Lib.hid (Wide_any v h2)
  have HS := Lib.hid (fun (w1 : World) (hb : Below w.heap.size w w1) (sp : Blk w1 w.heap.size 23 #[.int .i64 2, .int .i64 4, .int .i64 v, .int .i64 mx]) => XN.start (c := c) h q hb sp)
  have HB := Lib.hid (Blk.new w 23 #[.int .i64 2, .int .i64 4, .int .i64 v, .int .i64 mx])
  have B0 := Lib.hid (below_alloc w (.cells #[.int .i64 2, .int .i64 4, .int .i64 v, .int .i64 mx] 23))
  have HF := Lib.hid (hf)
  have HQ := Lib.hid (And.intro hq1 h7)
  clear h hf h1 h2 h3 h4 h7 hq hw1 hq1 e0 hF
  generalize wide v = d at *
  go_enter Try.func13, Try.ntmps13
  go_wp2_with (go_at_call 30; refine (CF.out _).mono ?_; rintro e w1 ⟨rfl, hb⟩; have B1 := Lib.hid (below_then B0.out hb); have HB1 := Lib.hid (blk_below HB.out hb); have s0 := HB1.out.cell 0; have s1 := HB1.out.cell 1; have s2 := HB1.out.cell 2; have s3 := HB1.out.cell 3; have s4 : (w1.alloc (.cells #[.pointer (some ⟨bx, 0, none⟩), .int .i64 2, .int .i64 4, .int .i64 v, .int .i64 mx, .int .i64 c, .slice none 0 0, .bool false] 79)).cell? ⟨w.heap.size, 0, none⟩ = some (.int .i64 2) := (HB1.out.alloc _).cell 0; clear hb)
  have X0 := Lib.hid (HS.out w1 B1.out HB1.out)
  generalize hw2 : w1.alloc (.cells (refC bx 2 v mx c (.slice none 0 0) false) 79) = w2 at X0
  clear s0 s1 s2 s3 s4 HS CF
  go_loopw [10] (fun i wr => ∃ (j : Nat) (vv : Value) (T' : Nat → Prop), j ≤ 1 ∧ i = .int .i64 j ∧ XN w T bx f q w.heap.size w1.heap.size 2 v mx c j wr vv T') (fun i _ => 1 - (intOf i).toNat)
  case atStart => exact ⟨0, _, T, by have := HF.out; omega, rfl, by first | exact X0.out | (rw [hw2]; exact X0.out) | (rw [← hw2] at X0; exact X0.out)⟩
  case round =>
    clear hw2
    clear X0
    obtain ⟨j, vv, T', hj, rfl, hN⟩ := hrel
    have HN := Lib.hid hN
    have HJ := Lib.hid hj
    clear hN
    by_cases hlt0 : j < 1
    · have hlt := hlt0
      clear hlt0
      have HLT := Lib.hid hlt
      have HW : Hid (wrap64 ((j : Int) + 1) = (j : Int) + 1) := by unfold Hid wrap64; have := HF.out; omega
      have hc := HN.out.drew.xs.call (xalloc_yes bx j (f - j) (zeros q) (by have := HF.out; have := HJ.out; omega) (by have := HF.out; omega) q HQ.out.1 HQ.out.2 rfl)
      rw [Nat.sub_sub] at hc
      have CA := Lib.hid hc
      have S1 : Hid (wr.cell? ⟨w.heap.size, 2, none⟩ = some (.int .i64 v) ∧ wr.cell? ⟨w.heap.size, 3, none⟩ = some (.int .i64 mx)) := ⟨HN.out.sp.cell 2, HN.out.sp.cell 3⟩
      clear hc hj
      go_wp2_with fail
      go_region_held3 (fun W => W.cell? ⟨w.heap.size, 2, none⟩ = some (.int .i64 v) ∧ W.cell? ⟨w.heap.size, 3, none⟩ = some (.int .i64 mx))
        (first | exact S1.out | exact S2.out)
        (first | (go_at_call 32; refine (CW.out _).mono ?_; rintro e wq ⟨rfl, rfl⟩) | (go_at_call 31; refine CA.out.mono ?_; rintro e w3 ⟨rfl, hx, kk⟩; have HX := Lib.hid hx; have KK := Lib.hid kk; have HB3 := Lib.hid (HN.out.drew.sp.keeps kk HN.out.ns); have S2 : Hid (w3.cell? ⟨w.heap.size, 2, none⟩ = some (.int .i64 v) ∧ w3.cell? ⟨w.heap.size, 3, none⟩ = some (.int .i64 mx)) := ⟨HB3.out.cell 2, HB3.out.cell 3⟩; clear hx kk))
      obtain ⟨d6, g2, c2, w4, hr, e6, f6, T2, hN2⟩ := HN.out.drew.step (by have := HF.out; have := HLT.out; omega) HX.out KK.out
      have HR := Lib.hid hr
      have HN2 := Lib.hid hN2
      clear hr hN2 S1 S2
      go_wp2_with (at_builtin; refine wpList_append_runA rfl (.tmp 55) (.tmp 57) 68 rfl _ (.slice (some ⟨w3.heap.size, 0, none⟩) 1 1) (.slice (some ⟨g2, 0, none⟩) (j + 1) c2) w4 rfl rfl 68 rfl HR.out ?_)
      go_roundw
      case rel => exact ⟨j + 1, _, T2, by have := HLT.out; have := HF.out; have := HJ.out; omega, by first | (rw [HW.out]; go_num) | go_num, HN2.out⟩
      case measure => (first | (rw [HW.out]; simp [intOf]; have := HLT.out; omega) | (simp [intOf]; have := HLT.out; omega))
    · obtain rfl : 1 = j := by omega
      clear hj hlt0
      go_wp2_with fail
      go_ret2
      exact ⟨_, vv, T', rfl, HN.out⟩
set_option maxHeartbeats 2000000 in
theorem ynew_ok_cpu (f n v mx : Nat) (h : XSide w T bx ⟨0, f, fun _ => none⟩) (hf : f = 0 ∨ n < f) (hn : n ≤ 8) (h1 : 1 ≤ v) (h2 : v ≤ 4096) (h3 : 1 ≤ mx) (h4 : mx ≤ 4096) (h7 : mx * wide v ≤ 1048576)
    (hF : ∀ W : World, Calls Try.prog 30 #[specV 6 4 v mx, .int .i64 n] W fun e w' => e = .returned (.bool true) ∧ Below W.heap.size W w') :
    Calls Try.prog 13 #[.pointer (some ⟨bx, 0, none⟩), specV 6 4 v mx, .int .i64 n] w fun e w' => ∃ y vv T', e = .returned (.tuple #[.pointer (some ⟨y, 0, none⟩), .int .i64 0]) ∧ XN w T bx f (mx * wide v) w.heap.size y 6 v mx n n w' vv T' := by
  obtain ⟨q, hq⟩ : ∃ q, mx * wide v = q := ⟨_, rfl⟩
  have hw1 : 1 ≤ wide v := by unfold wide; omega
  have hq1 : 1 ≤ q := by rw [← hq]; exact Nat.mul_pos (by omega) (by omega)
  have e0 : (mx : Int) * (wide v : Int) = (q : Int) := by rw [← hq]; simp
  have e3 : IntKind.i64.wrap ((mx : Int) * (wide v : Int)) = (q : Int) := by rw [e0]; exact IntWalk.i64_in _ (by rw [hq] at h7; omega)
  rw [hq] at h7 ⊢
  have CF := Lib.hid hF
  have CW := Lib.hid (Wide_any v h2)
  have HS := Lib.hid (fun (w1 : World) (hb : Below w.heap.size w w1) (sp : Blk w1 w.heap.size 23 #[.int .i64 6, .int .i64 4, .int .i64 v, .int .i64 mx]) => XN.start (c := n) h q hb sp)
  have HB := Lib.hid (Blk.new w 23 #[.int .i64 6, .int .i64 4, .int .i64 v, .int .i64 mx])
  have B0 := Lib.hid (below_alloc w (.cells #[.int .i64 6, .int .i64 4, .int .i64 v, .int .i64 mx] 23))
  have HF := Lib.hid (And.intro hf hn)
  have HQ := Lib.hid (And.intro hq1 h7)
  clear h hf hn h1 h2 h3 h4 h7 hq hw1 hq1 e0 hF
  generalize wide v = d at *
  go_enter Try.func13, Try.ntmps13
  go_wp2_with (go_at_call 30; refine (CF.out _).mono ?_; rintro e w1 ⟨rfl, hb⟩; have B1 := Lib.hid (below_then B0.out hb); have HB1 := Lib.hid (blk_below HB.out hb); have s0 := HB1.out.cell 0; have s1 := HB1.out.cell 1; have s2 := HB1.out.cell 2; have s3 := HB1.out.cell 3; have s4 : (w1.alloc (.cells #[.pointer (some ⟨bx, 0, none⟩), .int .i64 6, .int .i64 4, .int .i64 v, .int .i64 mx, .int .i64 n, .slice none 0 0, .bool false] 79)).cell? ⟨w.heap.size, 0, none⟩ = some (.int .i64 6) := (HB1.out.alloc _).cell 0; clear hb)
  have X0 := Lib.hid (HS.out w1 B1.out HB1.out)
  generalize hw2 : w1.alloc (.cells (refC bx 6 v mx n (.slice none 0 0) false) 79) = w2 at X0
  clear s0 s1 s2 s3 s4 HS CF
  go_loopw [10] (fun i wr => ∃ (j : Nat) (vv : Value) (T' : Nat → Prop), j ≤ n ∧ i = .int .i64 j ∧ XN w T bx f q w.heap.size w1.heap.size 6 v mx n j wr vv T') (fun i _ => n - (intOf i).toNat)
  case atStart => exact ⟨0, _, T, by have := HF.out; omega, rfl, by first | exact X0.out | (rw [hw2]; exact X0.out) | (rw [← hw2] at X0; exact X0.out)⟩
  case round =>
    clear hw2
    clear X0
    obtain ⟨j, vv, T', hj, rfl, hN⟩ := hrel
    have HN := Lib.hid hN
    have HJ := Lib.hid hj
    clear hN
    by_cases hlt0 : j < n
    · have hlt := hlt0
      clear hlt0
      have HLT := Lib.hid hlt
      have HW : Hid (wrap64 ((j : Int) + 1) = (j : Int) + 1) := by unfold Hid wrap64; have := HF.out; omega
      have hc := HN.out.drew.xs.call (xalloc_yes bx j (f - j) (zeros q) (by have := HF.out; have := HJ.out; omega) (by have := HF.out; omega) q HQ.out.1 HQ.out.2 rfl)
      rw [Nat.sub_sub] at hc
      have CA := Lib.hid hc
      have S1 : Hid (wr.cell? ⟨w.heap.size, 2, none⟩ = some (.int .i64 v) ∧ wr.cell? ⟨w.heap.size, 3, none⟩ = some (.int .i64 mx)) := ⟨HN.out.sp.cell 2, HN.out.sp.cell 3⟩
      clear hc hj
      go_wp2_with fail
      go_region_held3 (fun W => W.cell? ⟨w.heap.size, 2, none⟩ = some (.int .i64 v) ∧ W.cell? ⟨w.heap.size, 3, none⟩ = some (.int .i64 mx))
        (first | exact S1.out | exact S2.out)
        (first | (go_at_call 32; refine (CW.out _).mono ?_; rintro e wq ⟨rfl, rfl⟩) | (go_at_call 31; refine CA.out.mono ?_; rintro e w3 ⟨rfl, hx, kk⟩; have HX := Lib.hid hx; have KK := Lib.hid kk; have HB3 := Lib.hid (HN.out.drew.sp.keeps kk HN.out.ns); have S2 : Hid (w3.cell? ⟨w.heap.size, 2, none⟩ = some (.int .i64 v) ∧ w3.cell? ⟨w.heap.size, 3, none⟩ = some (.int .i64 mx)) := ⟨HB3.out.cell 2, HB3.out.cell 3⟩; clear hx kk))
      obtain ⟨d6, g2, c2, w4, hr, e6, f6, T2, hN2⟩ := HN.out.drew.step (by have := HF.out; have := HLT.out; omega) HX.out KK.out
      have HR := Lib.hid hr
      have HN2 := Lib.hid hN2
      clear hr hN2 S1 S2
      go_wp2_with (at_builtin; refine wpList_append_runA rfl (.tmp 55) (.tmp 57) 68 rfl _ (.slice (some ⟨w3.heap.size, 0, none⟩) 1 1) (.slice (some ⟨g2, 0, none⟩) (j + 1) c2) w4 rfl rfl 68 rfl HR.out ?_)
      go_roundw
      case rel => exact ⟨j + 1, _, T2, by have := HLT.out; have := HF.out; have := HJ.out; omega, by first | (rw [HW.out]; go_num) | go_num, HN2.out⟩
      case measure => (first | (rw [HW.out]; simp [intOf]; have := HLT.out; omega) | (simp [intOf]; have := HLT.out; omega))
    · obtain rfl : n = j := by omega
      clear hj hlt0
      go_wp2_with fail
      go_ret2
      exact ⟨_, vv, T', rfl, HN.out⟩
set_option maxHeartbeats 2000000 in
theorem ynew_fail_arr (c : Int) (f v mx : Nat) (h : XSide w T bx ⟨0, f, fun _ => none⟩) (hf : 1 ≤ f) (hfn : f ≤ 1)  (h1 : 1 ≤ v) (h2 : v ≤ 4096) (h3 : 1 ≤ mx) (h4 : mx ≤ 4096) (h7 : mx * wide v ≤ 1048576)
    (hF : ∀ W : World, Calls Try.prog 30 #[specV 2 4 v mx, .int .i64 c] W fun e w' => e = .returned (.bool true) ∧ Below W.heap.size W w') :
    Calls Try.prog 13 #[.pointer (some ⟨bx, 0, none⟩), specV 2 4 v mx, .int .i64 c] w fun e w' => e = .returned (.tuple #[.pointer none, .int .i64 2]) ∧ ∃ T', XS w T bx ⟨f - 1, 0, fun _ => none⟩ T' w' := by
  obtain ⟨q, hq⟩ : ∃ q, mx * wide v = q := ⟨_, rfl⟩
  have hw1 : 1 ≤ wide v := by unfold wide; omega
  have hq1 : 1 ≤ q := by rw [← hq]; exact Nat.mul_pos (by omega) (by omega)
  have e0 : (mx : Int) * (wide v : Int) = (q : Int) := by rw [← hq]; simp
  have e3 : IntKind.i64.wrap ((mx : Int) * (wide v : Int)) = (q : Int) := by rw [e0]; exact IntWalk.i64_in _ (by rw [hq] at h7; omega)
  rw [hq] at h7
  have CF := Lib.hid hF
  have CW := Lib.hid (Wide_any v h2)
  have HS := Lib.hid (fun (w1 : World) (hb : Below w.heap.size w w1) (sp : Blk w1 w.heap.size 23 #[.int .i64 2, .int .i64 4, .int .i64 v, .int .i64 mx]) => XN.start (c := c) h q hb sp)
  have HB := Lib.hid (Blk.new w 23 #[.int .i64 2, .int .i64 4, .int .i64 v, .int .i64 mx])
  have B0 := Lib.hid (below_alloc w (.cells #[.int .i64 2, .int .i64 4, .int .i64 v, .int .i64 mx] 23))
  have HF := Lib.hid (And.intro hf hfn)
  have HQ := Lib.hid (And.intro hq1 h7)
  clear h hf hfn h1 h2 h3 h4 h7 hq hw1 hq1 e0 hF
  generalize wide v = d at *
  go_enter Try.func13, Try.ntmps13
  go_wp2_with (go_at_call 30; refine (CF.out _).mono ?_; rintro e w1 ⟨rfl, hb⟩; have B1 := Lib.hid (below_then B0.out hb); have HB1 := Lib.hid (blk_below HB.out hb); have s0 := HB1.out.cell 0; have s1 := HB1.out.cell 1; have s2 := HB1.out.cell 2; have s3 := HB1.out.cell 3; have s4 : (w1.alloc (.cells #[.pointer (some ⟨bx, 0, none⟩), .int .i64 2, .int .i64 4, .int .i64 v, .int .i64 mx, .int .i64 c, .slice none 0 0, .bool false] 79)).cell? ⟨w.heap.size, 0, none⟩ = some (.int .i64 2) := (HB1.out.alloc _).cell 0; clear hb)
  have X0 := Lib.hid (HS.out w1 B1.out HB1.out)
  generalize hw2 : w1.alloc (.cells (refC bx 2 v mx c (.slice none 0 0) false) 79) = w2 at X0
  clear s0 s1 s2 s3 s4 HS CF
  go_loopw [10] (fun i wr => ∃ (j : Nat) (vv : Value) (T' : Nat → Prop), j < f ∧ i = .int .i64 j ∧ XN w T bx f q w.heap.size w1.heap.size 2 v mx c j wr vv T') (fun i _ => 1 - (intOf i).toNat)
  case atStart => exact ⟨0, _, T, by have := HF.out; omega, rfl, by first | exact X0.out | (rw [hw2]; exact X0.out) | (rw [← hw2] at X0; exact X0.out)⟩
  case round =>
    clear hw2
    clear X0
    obtain ⟨j, vv, T', hj, rfl, hN⟩ := hrel
    have HN := Lib.hid hN
    have HJ := Lib.hid hj
    clear hN
    by_cases hl : j + 1 = f
    · have hlt : j < 1 := by have := HF.out; have := HJ.out; omega
      have HLT := Lib.hid hlt
      have hx0 := HN.out.drew.xs
      rw [show f - j = 1 by omega] at hx0
      have CA := Lib.hid (hx0.call (xalloc_no bx j (rng 0 j (zeros q)) q HQ.out.1 HQ.out.2))
      have HL := Lib.hid hl
      have S1 : Hid (wr.cell? ⟨w.heap.size, 2, none⟩ = some (.int .i64 v) ∧ wr.cell? ⟨w.heap.size, 3, none⟩ = some (.int .i64 mx)) := ⟨HN.out.sp.cell 2, HN.out.sp.cell 3⟩
      clear hl hx0 hj
      go_wp2_with fail
      go_region_held3 (fun W => W.cell? ⟨w.heap.size, 2, none⟩ = some (.int .i64 v) ∧ W.cell? ⟨w.heap.size, 3, none⟩ = some (.int .i64 mx))
        (first | exact S1.out | exact S2.out)
        (first | (go_at_call 32; refine (CW.out _).mono ?_; rintro e wq ⟨rfl, rfl⟩) | (go_at_call 31; refine CA.out.mono ?_; rintro e w3 ⟨rfl, hx, kk⟩; have HX := Lib.hid hx; have KK := Lib.hid kk; have HB3 := Lib.hid (HN.out.drew.sp.keeps kk HN.out.ns); have S2 : Hid (w3.cell? ⟨w.heap.size, 2, none⟩ = some (.int .i64 v) ∧ w3.cell? ⟨w.heap.size, 3, none⟩ = some (.int .i64 mx)) := ⟨HB3.out.cell 2, HB3.out.cell 3⟩; clear hx kk))
      obtain ⟨A, cc, rfl, hcells⟩ := HN.out.drew.cellsA
      have HC := Lib.hid hcells
      have HY3 := Lib.hid (HN.out.drew.yb.keeps KK.out HN.out.ny)
      have NY : Hid (¬ more T' wr.drew w3 w1.heap.size) := fun hs => by
        rcases hs with hs | ⟨hs, _⟩
        · exact HN.out.ny hs
        · have := HN.out.drew.yb.lt; omega
      have YF := Lib.hid (yfree 2 v mx c j 0 j cc (zeros q) (by have := HF.out; have := HLT.out; omega) A HX.out.1 HY3.out NY.out (fun i hi => by
        obtain ⟨g, e1, e2, e3, e4, e5⟩ := HC.out i hi
        refine ⟨g, e1, Nat.lt_of_lt_of_le e2 KK.out.size, fun hs => ?_, e4, (World.cell?_of_block (KK.out.block g e2 e3)).trans e5⟩
        rcases hs with hs | ⟨hs, _⟩
        · exact e3 hs
        · omega))
      clear hcells S1 S2
      go_wp2_with (go_at_call 33; refine YF.out.mono ?_; rintro e w5 ⟨rfl, T5, hyf⟩; have HYF := Lib.hid hyf; clear hyf)
      go_ret2
      have hs := HYF.out.side
      rw [rng_nil] at hs
      have hl := HL.out
      refine ⟨rfl, T5, by rw [show f - 1 = j by omega]; exact hs, ?_, fun b hb => ?_⟩
      · refine HX.out.2.1.trans (HYF.out.keeps.mono fun b hb => ?_)
        rcases hb with hb | rfl
        · exact (HX.out.2.2 b hb).imp id fun hz => ⟨hz, HX.out.1.lt' b hb⟩
        · exact .inr ⟨HN.out.y0, HY3.out.lt⟩
      · rcases HYF.out.sub b hb with hb | hb
        · exact HX.out.2.2 b hb
        · exact .inr (Nat.le_trans HX.out.2.1.size hb)
    · have HL := Lib.hid hl
      clear hl
      have hlt : j < 1 := by have := HF.out; have := HJ.out; omega
      have HLT := Lib.hid hlt
      have HW : Hid (wrap64 ((j : Int) + 1) = (j : Int) + 1) := by unfold Hid wrap64; have := HF.out; omega
      have hc := HN.out.drew.xs.call (xalloc_yes bx j (f - j) (zeros q) (by have := HF.out; have := HJ.out; have := HL.out; omega) (by have := HF.out; have := HJ.out; omega) q HQ.out.1 HQ.out.2 rfl)
      rw [Nat.sub_sub] at hc
      have CA := Lib.hid hc
      have S1 : Hid (wr.cell? ⟨w.heap.size, 2, none⟩ = some (.int .i64 v) ∧ wr.cell? ⟨w.heap.size, 3, none⟩ = some (.int .i64 mx)) := ⟨HN.out.sp.cell 2, HN.out.sp.cell 3⟩
      clear hc hj
      go_wp2_with fail
      go_region_held3 (fun W => W.cell? ⟨w.heap.size, 2, none⟩ = some (.int .i64 v) ∧ W.cell? ⟨w.heap.size, 3, none⟩ = some (.int .i64 mx))
        (first | exact S1.out | exact S2.out)
        (first | (go_at_call 32; refine (CW.out _).mono ?_; rintro e wq ⟨rfl, rfl⟩) | (go_at_call 31; refine CA.out.mono ?_; rintro e w3 ⟨rfl, hx, kk⟩; have HX := Lib.hid hx; have KK := Lib.hid kk; have HB3 := Lib.hid (HN.out.drew.sp.keeps kk HN.out.ns); have S2 : Hid (w3.cell? ⟨w.heap.size, 2, none⟩ = some (.int .i64 v) ∧ w3.cell? ⟨w.heap.size, 3, none⟩ = some (.int .i64 mx)) := ⟨HB3.out.cell 2, HB3.out.cell 3⟩; clear hx kk))
      obtain ⟨d6, g2, c2, w4, hr, e6, f6, T2, hN2⟩ := HN.out.drew.step (by have := HF.out; have := HLT.out; omega) HX.out KK.out
      have HR := Lib.hid hr
      have HN2 := Lib.hid hN2
      clear hr hN2 S1 S2
      go_wp2_with (at_builtin; refine wpList_append_runA rfl (.tmp 55) (.tmp 57) 68 rfl _ (.slice (some ⟨w3.heap.size, 0, none⟩) 1 1) (.slice (some ⟨g2, 0, none⟩) (j + 1) c2) w4 rfl rfl 68 rfl HR.out ?_)
      go_roundw
      case rel => exact ⟨j + 1, _, T2, by have := HL.out; have := HF.out; have := HJ.out; omega, by first | (rw [HW.out]; go_num) | go_num, HN2.out⟩
      case measure => (first | (rw [HW.out]; simp [intOf]; have := HLT.out; omega) | (simp [intOf]; have := HLT.out; omega))
set_option maxHeartbeats 2000000 in
theorem ynew_fail_cpu (f n v mx : Nat) (h : XSide w T bx ⟨0, f, fun _ => none⟩) (hf : 1 ≤ f) (hfn : f ≤ n) (hn : n ≤ 8) (h1 : 1 ≤ v) (h2 : v ≤ 4096) (h3 : 1 ≤ mx) (h4 : mx ≤ 4096) (h7 : mx * wide v ≤ 1048576)
    (hF : ∀ W : World, Calls Try.prog 30 #[specV 6 4 v mx, .int .i64 n] W fun e w' => e = .returned (.bool true) ∧ Below W.heap.size W w') :
    Calls Try.prog 13 #[.pointer (some ⟨bx, 0, none⟩), specV 6 4 v mx, .int .i64 n] w fun e w' => e = .returned (.tuple #[.pointer none, .int .i64 2]) ∧ ∃ T', XS w T bx ⟨f - 1, 0, fun _ => none⟩ T' w' := by
  obtain ⟨q, hq⟩ : ∃ q, mx * wide v = q := ⟨_, rfl⟩
  have hw1 : 1 ≤ wide v := by unfold wide; omega
  have hq1 : 1 ≤ q := by rw [← hq]; exact Nat.mul_pos (by omega) (by omega)
  have e0 : (mx : Int) * (wide v : Int) = (q : Int) := by rw [← hq]; simp
  have e3 : IntKind.i64.wrap ((mx : Int) * (wide v : Int)) = (q : Int) := by rw [e0]; exact IntWalk.i64_in _ (by rw [hq] at h7; omega)
  rw [hq] at h7
  have CF := Lib.hid hF
  have CW := Lib.hid (Wide_any v h2)
  have HS := Lib.hid (fun (w1 : World) (hb : Below w.heap.size w w1) (sp : Blk w1 w.heap.size 23 #[.int .i64 6, .int .i64 4, .int .i64 v, .int .i64 mx]) => XN.start (c := n) h q hb sp)
  have HB := Lib.hid (Blk.new w 23 #[.int .i64 6, .int .i64 4, .int .i64 v, .int .i64 mx])
  have B0 := Lib.hid (below_alloc w (.cells #[.int .i64 6, .int .i64 4, .int .i64 v, .int .i64 mx] 23))
  have HF := Lib.hid (And.intro hf (And.intro hfn hn))
  have HQ := Lib.hid (And.intro hq1 h7)
  clear h hf hfn hn h1 h2 h3 h4 h7 hq hw1 hq1 e0 hF
  generalize wide v = d at *
  go_enter Try.func13, Try.ntmps13
  go_wp2_with (go_at_call 30; refine (CF.out _).mono ?_; rintro e w1 ⟨rfl, hb⟩; have B1 := Lib.hid (below_then B0.out hb); have HB1 := Lib.hid (blk_below HB.out hb); have s0 := HB1.out.cell 0; have s1 := HB1.out.cell 1; have s2 := HB1.out.cell 2; have s3 := HB1.out.cell 3; have s4 : (w1.alloc (.cells #[.pointer (some ⟨bx, 0, none⟩), .int .i64 6, .int .i64 4, .int .i64 v, .int .i64 mx, .int .i64 n, .slice none 0 0, .bool false] 79)).cell? ⟨w.heap.size, 0, none⟩ = some (.int .i64 6) := (HB1.out.alloc _).cell 0; clear hb)
  have X0 := Lib.hid (HS.out w1 B1.out HB1.out)
  generalize hw2 : w1.alloc (.cells (refC bx 6 v mx n (.slice none 0 0) false) 79) = w2 at X0
  clear s0 s1 s2 s3 s4 HS CF
  go_loopw [10] (fun i wr => ∃ (j : Nat) (vv : Value) (T' : Nat → Prop), j < f ∧ i = .int .i64 j ∧ XN w T bx f q w.heap.size w1.heap.size 6 v mx n j wr vv T') (fun i _ => n - (intOf i).toNat)
  case atStart => exact ⟨0, _, T, by have := HF.out; omega, rfl, by first | exact X0.out | (rw [hw2]; exact X0.out) | (rw [← hw2] at X0; exact X0.out)⟩
  case round =>
    clear hw2
    clear X0
    obtain ⟨j, vv, T', hj, rfl, hN⟩ := hrel
    have HN := Lib.hid hN
    have HJ := Lib.hid hj
    clear hN
    by_cases hl : j + 1 = f
    · have hlt : j < n := by have := HF.out; have := HJ.out; omega
      have HLT := Lib.hid hlt
      have hx0 := HN.out.drew.xs
      rw [show f - j = 1 by omega] at hx0
      have CA := Lib.hid (hx0.call (xalloc_no bx j (rng 0 j (zeros q)) q HQ.out.1 HQ.out.2))
      have HL := Lib.hid hl
      have S1 : Hid (wr.cell? ⟨w.heap.size, 2, none⟩ = some (.int .i64 v) ∧ wr.cell? ⟨w.heap.size, 3, none⟩ = some (.int .i64 mx)) := ⟨HN.out.sp.cell 2, HN.out.sp.cell 3⟩
      clear hl hx0 hj
      go_wp2_with fail
      go_region_held3 (fun W => W.cell? ⟨w.heap.size, 2, none⟩ = some (.int .i64 v) ∧ W.cell? ⟨w.heap.size, 3, none⟩ = some (.int .i64 mx))
        (first | exact S1.out | exact S2.out)
        (first | (go_at_call 32; refine (CW.out _).mono ?_; rintro e wq ⟨rfl, rfl⟩) | (go_at_call 31; refine CA.out.mono ?_; rintro e w3 ⟨rfl, hx, kk⟩; have HX := Lib.hid hx; have KK := Lib.hid kk; have HB3 := Lib.hid (HN.out.drew.sp.keeps kk HN.out.ns); have S2 : Hid (w3.cell? ⟨w.heap.size, 2, none⟩ = some (.int .i64 v) ∧ w3.cell? ⟨w.heap.size, 3, none⟩ = some (.int .i64 mx)) := ⟨HB3.out.cell 2, HB3.out.cell 3⟩; clear hx kk))
      obtain ⟨A, cc, rfl, hcells⟩ := HN.out.drew.cellsA
      have HC := Lib.hid hcells
      have HY3 := Lib.hid (HN.out.drew.yb.keeps KK.out HN.out.ny)
      have NY : Hid (¬ more T' wr.drew w3 w1.heap.size) := fun hs => by
        rcases hs with hs | ⟨hs, _⟩
        · exact HN.out.ny hs
        · have := HN.out.drew.yb.lt; omega
      have YF := Lib.hid (yfree 6 v mx n j 0 j cc (zeros q) (by have := HF.out; have := HLT.out; omega) A HX.out.1 HY3.out NY.out (fun i hi => by
        obtain ⟨g, e1, e2, e3, e4, e5⟩ := HC.out i hi
        refine ⟨g, e1, Nat.lt_of_lt_of_le e2 KK.out.size, fun hs => ?_, e4, (World.cell?_of_block (KK.out.block g e2 e3)).trans e5⟩
        rcases hs with hs | ⟨hs, _⟩
        · exact e3 hs
        · omega))
      clear hcells S1 S2
      go_wp2_with (go_at_call 33; refine YF.out.mono ?_; rintro e w5 ⟨rfl, T5, hyf⟩; have HYF := Lib.hid hyf; clear hyf)
      go_ret2
      have hs := HYF.out.side
      rw [rng_nil] at hs
      have hl := HL.out
      refine ⟨rfl, T5, by rw [show f - 1 = j by omega]; exact hs, ?_, fun b hb => ?_⟩
      · refine HX.out.2.1.trans (HYF.out.keeps.mono fun b hb => ?_)
        rcases hb with hb | rfl
        · exact (HX.out.2.2 b hb).imp id fun hz => ⟨hz, HX.out.1.lt' b hb⟩
        · exact .inr ⟨HN.out.y0, HY3.out.lt⟩
      · rcases HYF.out.sub b hb with hb | hb
        · exact HX.out.2.2 b hb
        · exact .inr (Nat.le_trans HX.out.2.1.size hb)
    · have HL := Lib.hid hl
      clear hl
      have hlt : j < n := by have := HF.out; have := HJ.out; omega
      have HLT := Lib.hid hlt
      have HW : Hid (wrap64 ((j : Int) + 1) = (j : Int) + 1) := by unfold Hid wrap64; have := HF.out; omega
      have hc := HN.out.drew.xs.call (xalloc_yes bx j (f - j) (zeros q) (by have := HF.out; have := HJ.out; have := HL.out; omega) (by have := HF.out; have := HJ.out; omega) q HQ.out.1 HQ.out.2 rfl)
      rw [Nat.sub_sub] at hc
      have CA := Lib.hid hc
      have S1 : Hid (wr.cell? ⟨w.heap.size, 2, none⟩ = some (.int .i64 v) ∧ wr.cell? ⟨w.heap.size, 3, none⟩ = some (.int .i64 mx)) := ⟨HN.out.sp.cell 2, HN.out.sp.cell 3⟩
      clear hc hj
      go_wp2_with fail
      go_region_held3 (fun W => W.cell? ⟨w.heap.size, 2, none⟩ = some (.int .i64 v) ∧ W.cell? ⟨w.heap.size, 3, none⟩ = some (.int .i64 mx))
        (first | exact S1.out | exact S2.out)
        (first | (go_at_call 32; refine (CW.out _).mono ?_; rintro e wq ⟨rfl, rfl⟩) | (go_at_call 31; refine CA.out.mono ?_; rintro e w3 ⟨rfl, hx, kk⟩; have HX := Lib.hid hx; have KK := Lib.hid kk; have HB3 := Lib.hid (HN.out.drew.sp.keeps kk HN.out.ns); have S2 : Hid (w3.cell? ⟨w.heap.size, 2, none⟩ = some (.int .i64 v) ∧ w3.cell? ⟨w.heap.size, 3, none⟩ = some (.int .i64 mx)) := ⟨HB3.out.cell 2, HB3.out.cell 3⟩; clear hx kk))
      obtain ⟨d6, g2, c2, w4, hr, e6, f6, T2, hN2⟩ := HN.out.drew.step (by have := HF.out; have := HLT.out; omega) HX.out KK.out
      have HR := Lib.hid hr
      have HN2 := Lib.hid hN2
      clear hr hN2 S1 S2
      go_wp2_with (at_builtin; refine wpList_append_runA rfl (.tmp 55) (.tmp 57) 68 rfl _ (.slice (some ⟨w3.heap.size, 0, none⟩) 1 1) (.slice (some ⟨g2, 0, none⟩) (j + 1) c2) w4 rfl rfl 68 rfl HR.out ?_)
      go_roundw
      case rel => exact ⟨j + 1, _, T2, by have := HL.out; have := HF.out; have := HJ.out; omega, by first | (rw [HW.out]; go_num) | go_num, HN2.out⟩
      case measure => (first | (rw [HW.out]; simp [intOf]; have := HLT.out; omega) | (simp [intOf]; have := HLT.out; omega))
end
end Go.Proofs.Ythilkgfbaddjpaa
