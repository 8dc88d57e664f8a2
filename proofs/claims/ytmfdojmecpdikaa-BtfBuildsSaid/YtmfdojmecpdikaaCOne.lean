/-
  Layer 6, the reference: a type, read.
-/
import Derived.Test.YtmfdojmecpdikaaCYard
import Derived.RegionTactic
import Derived.Deep.RegionLaw
import Derived.Outline
import Derived.Deep.Cut
namespace Go.Proofs.Ytmfdojmecpdikaa
open Go Go.RowKit
set_option linter.unusedVariables false
set_option linter.unusedSimpArgs false
set_option maxRecDepth 100000
set_option maxHeartbeats 1000000 in
theorem one_stop1 {w : World} {g : Nat} {r : RS} (h : PM w g r) (v K n : Int) (hv : numV (qnameR r) = v) (hA : bits .and .i64 v 65535 = n) (hS : v / 16777216 = K) (h0 : 0 ≤ v) (h1 : v < 4294967296) (M : Int) (hM : bits .and .i64 v 16711680 = M) (hM0 : (M == 0) = false) (hM1 : ¬ M = 0)
    (hq : qone r = (⟨K, qnameV r, 0, 0, 0, []⟩, ⟨(numR (qnameR r)).ts, (numR (qnameR r)).ns, true⟩)) :
    Calls Try.prog 31 #[.pointer (some ⟨g, 0, none⟩)] w (PostY w g r) := by
  have HV := Lib.hid hv
  have HQ := Lib.hid hq
  clear hv hq
  have Y0 := Lib.hid (QY.start h)
  have hgl := h.blk.lt
  have HG : Hid (g < w.heap.size) := hgl
  clear h hgl
  go_enter Try.func31, Try.ntmps31
  go_wp2_with fail
  go_at_call 39
  refine (pname_any Y0.out.rm).mono ?_
  rintro e w1 ⟨rfl, hm, hk⟩
  have Y1 := Lib.hid (Y0.out.call hm hk)
  clear hm hk Y0
  have c1 : w1.cell? ⟨w.heap.size + 1, 1, none⟩ = some (.string ⟨#[]⟩) := Y1.out.tb.cell 1
  have f1 : w1.frozen? ⟨w.heap.size + 1, 1, none⟩ = false := Y1.out.tb.frozen 1
  go_wp2_with fail
  go_at_call 40
  refine (pnum_any (Y1.out.name_ (qnameV r)).rm).mono ?_
  rw [HV.out]
  rintro e w2 ⟨rfl, hm, hk⟩
  have Y2 := Lib.hid ((Y1.out.name_ (qnameV r)).call hm hk)
  clear hm hk c1 f1
  have c0 : w2.cell? ⟨w.heap.size + 1, 0, none⟩ = some (.int .i64 0) := Y2.out.tb.cell 0
  have f0 : w2.frozen? ⟨w.heap.size + 1, 0, none⟩ = false := Y2.out.tb.frozen 0
  go_upto_region 6 with fail
  have Y3 := Lib.hid (Y2.out.kind_ K)
  clear Y1 Y2 c0 f0
  generalize World.setCell _ _ _ = w3 at Y3 ⊢
  have kt0 : w3.cell? ⟨w.heap.size + 1, 0, none⟩ = some (.int .i64 (K)) := Y3.out.tb.cell 0
  have gc2 : w3.cell? ⟨g, 2, none⟩ = some (.bool (numR (qnameR r)).bad) := Y3.out.rm.blk.cell 2
  have gf2 : w3.frozen? ⟨g, 2, none⟩ = false := Y3.out.rm.blk.frozen 2
  go_upto_region 8 with fail
  have Y4 := Lib.hid (Y3.out.bad_ true)
  clear Y3 gc2 gf2
  generalize World.setCell _ _ _ = w4 at Y4 ⊢
  have et0 : w4.cell? ⟨w.heap.size + 1, 0, none⟩ = some (.int .i64 K) := Y4.out.tb.cell 0
  have et1 : w4.cell? ⟨w.heap.size + 1, 1, none⟩ = some (.string (qnameV r)) := Y4.out.tb.cell 1
  have et2 : w4.cell? ⟨w.heap.size + 1, 2, none⟩ = some (.int .i64 0) := Y4.out.tb.cell 2
  have et3 : w4.cell? ⟨w.heap.size + 1, 3, none⟩ = some (.int .i64 0) := Y4.out.tb.cell 3
  have et4 : w4.cell? ⟨w.heap.size + 1, 4, none⟩ = some (.int .i64 0) := Y4.out.tb.cell 4
  have et5 : w4.cell? ⟨w.heap.size + 1, 5, none⟩ = some (.slice none 0 0) := Y4.out.tb.cell 5
  have eb0 : w4.cell? ⟨w.heap.size, 0, none⟩ = some (.int .i64 0) := Y4.out.res.cell 0
  have ef0 : w4.frozen? ⟨w.heap.size, 0, none⟩ = false := Y4.out.res.frozen 0
  have eb1 : w4.cell? ⟨w.heap.size, 1, none⟩ = some (.string ⟨#[]⟩) := Y4.out.res.cell 1
  have ef1 : w4.frozen? ⟨w.heap.size, 1, none⟩ = false := Y4.out.res.frozen 1
  have eb2 : w4.cell? ⟨w.heap.size, 2, none⟩ = some (.int .i64 0) := Y4.out.res.cell 2
  have ef2 : w4.frozen? ⟨w.heap.size, 2, none⟩ = false := Y4.out.res.frozen 2
  have eb3 : w4.cell? ⟨w.heap.size, 3, none⟩ = some (.int .i64 0) := Y4.out.res.cell 3
  have ef3 : w4.frozen? ⟨w.heap.size, 3, none⟩ = false := Y4.out.res.frozen 3
  have eb4 : w4.cell? ⟨w.heap.size, 4, none⟩ = some (.int .i64 0) := Y4.out.res.cell 4
  have ef4 : w4.frozen? ⟨w.heap.size, 4, none⟩ = false := Y4.out.res.frozen 4
  have eb5 : w4.cell? ⟨w.heap.size, 5, none⟩ = some (.slice none 0 0) := Y4.out.res.cell 5
  have ef5 : w4.frozen? ⟨w.heap.size, 5, none⟩ = false := Y4.out.res.frozen 5
  go_wp2_with fail
  obtain ⟨s1, s2, s3, s4⟩ := Y4.out.six_ (.int .i64 K) (.string (qnameV r)) (.int .i64 0) (.int .i64 0) (.int .i64 0) (.slice none 0 0)
  unfold six at s1 s2 s3 s4
  refine bodyPost_ret (results_cell_row rfl _ _ w.heap.size 36 _ (0, 0) _ rfl s1 Try.underlying36 rfl (by kernel_rfl)) rfl ?_
  unfold PostY
  rw [HQ.out]
  exact ⟨.slice none 0 0, rfl, s2, s3, s4 _ _ _ (show w4.ownsRow w.heap.size 53 3 (.slice none 0 0) 0 (memC []) from World.ownsRow_nil _ _ _ _)⟩
set_option maxHeartbeats 1000000 in
theorem one_stop2 {w : World} {g : Nat} {r : RS} (h : PM w g r) (v K n : Int) (hv : numV (qnameR r) = v) (hA : bits .and .i64 v 65535 = n) (hS : v / 16777216 = K) (h0 : 0 ≤ v) (h1 : v < 4294967296) (hM : bits .and .i64 v 16711680 = 0) (hn : (n != 0) = true) (hk : (K != 4) = true)
    (hq : qone r = (⟨K, qnameV r, 0, 0, 0, []⟩, ⟨(numR (qnameR r)).ts, (numR (qnameR r)).ns, true⟩)) :
    Calls Try.prog 31 #[.pointer (some ⟨g, 0, none⟩)] w (PostY w g r) := by
  have HV := Lib.hid hv
  have HQ := Lib.hid hq
  clear hv hq
  have Y0 := Lib.hid (QY.start h)
  have hgl := h.blk.lt
  have HG : Hid (g < w.heap.size) := hgl
  clear h hgl
  go_enter Try.func31, Try.ntmps31
  go_wp2_with fail
  go_at_call 39
  refine (pname_any Y0.out.rm).mono ?_
  rintro e w1 ⟨rfl, hm, hk⟩
  have Y1 := Lib.hid (Y0.out.call hm hk)
  clear hm hk Y0
  have c1 : w1.cell? ⟨w.heap.size + 1, 1, none⟩ = some (.string ⟨#[]⟩) := Y1.out.tb.cell 1
  have f1 : w1.frozen? ⟨w.heap.size + 1, 1, none⟩ = false := Y1.out.tb.frozen 1
  go_wp2_with fail
  go_at_call 40
  refine (pnum_any (Y1.out.name_ (qnameV r)).rm).mono ?_
  rw [HV.out]
  rintro e w2 ⟨rfl, hm, hk⟩
  have Y2 := Lib.hid ((Y1.out.name_ (qnameV r)).call hm hk)
  clear hm hk c1 f1
  have c0 : w2.cell? ⟨w.heap.size + 1, 0, none⟩ = some (.int .i64 0) := Y2.out.tb.cell 0
  have f0 : w2.frozen? ⟨w.heap.size + 1, 0, none⟩ = false := Y2.out.tb.frozen 0
  go_upto_region 6 with fail
  have Y3 := Lib.hid (Y2.out.kind_ K)
  clear Y1 Y2 c0 f0
  generalize World.setCell _ _ _ = w3 at Y3 ⊢
  have kt0 : w3.cell? ⟨w.heap.size + 1, 0, none⟩ = some (.int .i64 (K)) := Y3.out.tb.cell 0
  have gc2 : w3.cell? ⟨g, 2, none⟩ = some (.bool (numR (qnameR r)).bad) := Y3.out.rm.blk.cell 2
  have gf2 : w3.frozen? ⟨g, 2, none⟩ = false := Y3.out.rm.blk.frozen 2
  go_upto_region 8 with fail
  have Y4 := Lib.hid (Y3.out.bad_ true)
  clear Y3 gc2 gf2
  generalize World.setCell _ _ _ = w4 at Y4 ⊢
  have et0 : w4.cell? ⟨w.heap.size + 1, 0, none⟩ = some (.int .i64 K) := Y4.out.tb.cell 0
  have et1 : w4.cell? ⟨w.heap.size + 1, 1, none⟩ = some (.string (qnameV r)) := Y4.out.tb.cell 1
  have et2 : w4.cell? ⟨w.heap.size + 1, 2, none⟩ = some (.int .i64 0) := Y4.out.tb.cell 2
  have et3 : w4.cell? ⟨w.heap.size + 1, 3, none⟩ = some (.int .i64 0) := Y4.out.tb.cell 3
  have et4 : w4.cell? ⟨w.heap.size + 1, 4, none⟩ = some (.int .i64 0) := Y4.out.tb.cell 4
  have et5 : w4.cell? ⟨w.heap.size + 1, 5, none⟩ = some (.slice none 0 0) := Y4.out.tb.cell 5
  have eb0 : w4.cell? ⟨w.heap.size, 0, none⟩ = some (.int .i64 0) := Y4.out.res.cell 0
  have ef0 : w4.frozen? ⟨w.heap.size, 0, none⟩ = false := Y4.out.res.frozen 0
  have eb1 : w4.cell? ⟨w.heap.size, 1, none⟩ = some (.string ⟨#[]⟩) := Y4.out.res.cell 1
  have ef1 : w4.frozen? ⟨w.heap.size, 1, none⟩ = false := Y4.out.res.frozen 1
  have eb2 : w4.cell? ⟨w.heap.size, 2, none⟩ = some (.int .i64 0) := Y4.out.res.cell 2
  have ef2 : w4.frozen? ⟨w.heap.size, 2, none⟩ = false := Y4.out.res.frozen 2
  have eb3 : w4.cell? ⟨w.heap.size, 3, none⟩ = some (.int .i64 0) := Y4.out.res.cell 3
  have ef3 : w4.frozen? ⟨w.heap.size, 3, none⟩ = false := Y4.out.res.frozen 3
  have eb4 : w4.cell? ⟨w.heap.size, 4, none⟩ = some (.int .i64 0) := Y4.out.res.cell 4
  have ef4 : w4.frozen? ⟨w.heap.size, 4, none⟩ = false := Y4.out.res.frozen 4
  have eb5 : w4.cell? ⟨w.heap.size, 5, none⟩ = some (.slice none 0 0) := Y4.out.res.cell 5
  have ef5 : w4.frozen? ⟨w.heap.size, 5, none⟩ = false := Y4.out.res.frozen 5
  go_wp2_with fail
  obtain ⟨s1, s2, s3, s4⟩ := Y4.out.six_ (.int .i64 K) (.string (qnameV r)) (.int .i64 0) (.int .i64 0) (.int .i64 0) (.slice none 0 0)
  unfold six at s1 s2 s3 s4
  refine bodyPost_ret (results_cell_row rfl _ _ w.heap.size 36 _ (0, 0) _ rfl s1 Try.underlying36 rfl (by kernel_rfl)) rfl ?_
  unfold PostY
  rw [HQ.out]
  exact ⟨.slice none 0 0, rfl, s2, s3, s4 _ _ _ (show w4.ownsRow w.heap.size 53 3 (.slice none 0 0) 0 (memC []) from World.ownsRow_nil _ _ _ _)⟩
set_option maxHeartbeats 2000000 in
theorem one_int {w : World} {g : Nat} {r : RS} (h : PM w g r) (v : Int) (hv : numV (qnameR r) = v) (hA : bits .and .i64 v 65535 = 0) (hS : v / 16777216 = 1) (h0 : 0 ≤ v) (h1 : v < 4294967296) (hM : bits .and .i64 v 16711680 = 0) (s b : Int) (hs : numV (numR (qnameR r)) = s) (hb : numV (numR (numR (qnameR r))) = b) (s0 : 0 ≤ s ∧ s < 4294967296) (b0 : 0 ≤ b ∧ b < 4294967296)
    (E : Bool) (hE : (qnameV r).toList.isEmpty = E) (B : Bool) (hB : ((numR (numR (numR (qnameR r)))).bad || (E || (!sizedB s || !decide (b = 8 * s)))) = B)
    (hq : qone r = (⟨1, qnameV r, s, 0, 0, []⟩, ⟨(numR (numR (numR (qnameR r)))).ts, (numR (numR (numR (qnameR r)))).ns, B⟩)) :
    Calls Try.prog 31 #[.pointer (some ⟨g, 0, none⟩)] w (PostY w g r) := by
  have HV := Lib.hid hv
  have HQ := Lib.hid hq
  clear hv hq
  have HS := Lib.hid hs
  have HB := Lib.hid hb
  have HBB := Lib.hid hB
  clear hs hb hB
  have Y0 := Lib.hid (QY.start h)
  have hgl := h.blk.lt
  have HG : Hid (g < w.heap.size) := hgl
  clear h hgl
  go_enter Try.func31, Try.ntmps31
  go_wp2_with fail
  go_at_call 39
  refine (pname_any Y0.out.rm).mono ?_
  rintro e w1 ⟨rfl, hm, hk⟩
  have Y1 := Lib.hid (Y0.out.call hm hk)
  clear hm hk Y0
  have c1 : w1.cell? ⟨w.heap.size + 1, 1, none⟩ = some (.string ⟨#[]⟩) := Y1.out.tb.cell 1
  have f1 : w1.frozen? ⟨w.heap.size + 1, 1, none⟩ = false := Y1.out.tb.frozen 1
  go_wp2_with fail
  go_at_call 40
  refine (pnum_any (Y1.out.name_ (qnameV r)).rm).mono ?_
  rw [HV.out]
  rintro e w2 ⟨rfl, hm, hk⟩
  have Y2 := Lib.hid ((Y1.out.name_ (qnameV r)).call hm hk)
  clear hm hk c1 f1
  have c0 : w2.cell? ⟨w.heap.size + 1, 0, none⟩ = some (.int .i64 0) := Y2.out.tb.cell 0
  have f0 : w2.frozen? ⟨w.heap.size + 1, 0, none⟩ = false := Y2.out.tb.frozen 0
  go_upto_region 6 with fail
  have Y3 := Lib.hid (Y2.out.kind_ 1)
  clear Y1 Y2 c0 f0
  generalize World.setCell _ _ _ = w3 at Y3 ⊢
  have kt0 : w3.cell? ⟨w.heap.size + 1, 0, none⟩ = some (.int .i64 (1)) := Y3.out.tb.cell 0
  go_wp2_with fail
  go_at_call 40
  refine (pnum_any (Y3.out).rm).mono ?_
  rw [HS.out]
  rintro e w4 ⟨rfl, hm, hk⟩
  have Y4 := Lib.hid ((Y3.out).call hm hk)
  clear hm hk
  have cc2 : w4.cell? ⟨w.heap.size + 1, 2, none⟩ = some (.int .i64 0) := Y4.out.tb.cell 2
  have cf2 : w4.frozen? ⟨w.heap.size + 1, 2, none⟩ = false := Y4.out.tb.frozen 2
  go_wp2_with fail
  go_at_call 40
  refine (pnum_any (Y4.out.size_ s).rm).mono ?_
  rw [HB.out]
  rintro e w5 ⟨rfl, hm, hk⟩
  have Y5 := Lib.hid ((Y4.out.size_ s).call hm hk)
  clear hm hk
  clear cc2 cf2
  have hB := HBB.out
  clear HBB
  obtain ⟨bad, hbad⟩ : ∃ bad, (numR (numR (numR (qnameR r)))).bad = bad := ⟨_, rfl⟩
  rw [hbad] at hB
  have ct1 : w5.cell? ⟨w.heap.size + 1, 1, none⟩ = some (.string (qnameV r)) := Y5.out.tb.cell 1
  have ct2 : w5.cell? ⟨w.heap.size + 1, 2, none⟩ = some (.int .i64 s) := Y5.out.tb.cell 2
  have gc2 : w5.cell? ⟨g, 2, none⟩ = some (.bool bad) := by rw [← hbad]; exact Y5.out.rm.blk.cell 2
  have gf2 : w5.frozen? ⟨g, 2, none⟩ = false := Y5.out.rm.blk.frozen 2
  clear hbad
  go_upto_region 14 with fail
  have Y6 := Lib.hid (Y5.out.bad_ B)
  clear Y3 Y4 Y5
  have hw8 : IntKind.i64.wrap (8 * s) = 8 * s := IntWalk.i64_in _ (by omega)
  have key : (bad = true ∧ B = true) ∨ (bad = false ∧ E = true ∧ B = true) ∨ (bad = false ∧ E = false ∧ ((s != 1) = true ∧ (s != 2) = true ∧ (s != 4) = true ∧ (s != 8) = true) ∧ B = true) ∨ (bad = false ∧ E = false ∧ ((s = 1 ∧ B = (b != 8)) ∨ (s = 2 ∧ B = (b != 16)) ∨ (s = 4 ∧ B = (b != 32)) ∨ (s = 8 ∧ B = (b != 64)))) := by
    cases bad
    · cases E
      · by_cases h : s = 1 ∨ s = 2 ∨ s = 4 ∨ s = 8
        · right; right; right
          have e : sizedB s = true := by simp [sizedB]; omega
          rw [e] at hB
          refine ⟨rfl, rfl, ?_⟩
          rcases h with rfl | rfl | rfl | rfl <;> (first | (simp [← hB]; done) | (simp [← hB]; rw [Bool.eq_iff_iff]; simp))
        · right; right; left
          have e : sizedB s = false := by simp [sizedB]; omega
          rw [e] at hB
          refine ⟨rfl, rfl, by simp; omega, ?_⟩
          rw [← hB]; rfl
      · right; left; exact ⟨rfl, rfl, by rw [← hB]; rfl⟩
    · left; exact ⟨rfl, by rw [← hB]; rfl⟩
  clear hB
  rcases key with ⟨rfl, rfl⟩ | ⟨rfl, rfl, rfl⟩ | ⟨rfl, rfl, ⟨z1, z2, z4, z8⟩, rfl⟩ | ⟨rfl, rfl, hs4⟩
  · go_upto_region 36 with fail
    generalize World.setCell _ _ _ = w6 at Y6 ⊢
    clear ct1 ct2 gc2 gf2
    have et0 : w6.cell? ⟨w.heap.size + 1, 0, none⟩ = some (.int .i64 1) := Y6.out.tb.cell 0
    have et1 : w6.cell? ⟨w.heap.size + 1, 1, none⟩ = some (.string (qnameV r)) := Y6.out.tb.cell 1
    have et2 : w6.cell? ⟨w.heap.size + 1, 2, none⟩ = some (.int .i64 s) := Y6.out.tb.cell 2
    have et3 : w6.cell? ⟨w.heap.size + 1, 3, none⟩ = some (.int .i64 0) := Y6.out.tb.cell 3
    have et4 : w6.cell? ⟨w.heap.size + 1, 4, none⟩ = some (.int .i64 0) := Y6.out.tb.cell 4
    have et5 : w6.cell? ⟨w.heap.size + 1, 5, none⟩ = some (.slice none 0 0) := Y6.out.tb.cell 5
    have eb0 : w6.cell? ⟨w.heap.size, 0, none⟩ = some (.int .i64 0) := Y6.out.res.cell 0
    have ef0 : w6.frozen? ⟨w.heap.size, 0, none⟩ = false := Y6.out.res.frozen 0
    have eb1 : w6.cell? ⟨w.heap.size, 1, none⟩ = some (.string ⟨#[]⟩) := Y6.out.res.cell 1
    have ef1 : w6.frozen? ⟨w.heap.size, 1, none⟩ = false := Y6.out.res.frozen 1
    have eb2 : w6.cell? ⟨w.heap.size, 2, none⟩ = some (.int .i64 0) := Y6.out.res.cell 2
    have ef2 : w6.frozen? ⟨w.heap.size, 2, none⟩ = false := Y6.out.res.frozen 2
    have eb3 : w6.cell? ⟨w.heap.size, 3, none⟩ = some (.int .i64 0) := Y6.out.res.cell 3
    have ef3 : w6.frozen? ⟨w.heap.size, 3, none⟩ = false := Y6.out.res.frozen 3
    have eb4 : w6.cell? ⟨w.heap.size, 4, none⟩ = some (.int .i64 0) := Y6.out.res.cell 4
    have ef4 : w6.frozen? ⟨w.heap.size, 4, none⟩ = false := Y6.out.res.frozen 4
    have eb5 : w6.cell? ⟨w.heap.size, 5, none⟩ = some (.slice none 0 0) := Y6.out.res.cell 5
    have ef5 : w6.frozen? ⟨w.heap.size, 5, none⟩ = false := Y6.out.res.frozen 5
    go_wp2_with fail
    obtain ⟨s1, s2, s3, s4⟩ := Y6.out.six_ (.int .i64 1) (.string (qnameV r)) (.int .i64 s) (.int .i64 0) (.int .i64 0) (.slice none 0 0)
    unfold six at s1 s2 s3 s4
    refine bodyPost_ret (results_cell_row rfl _ _ w.heap.size 36 _ (0, 0) _ rfl s1 Try.underlying36 rfl (by kernel_rfl)) rfl ?_
    unfold PostY
    rw [HQ.out]
    exact ⟨.slice none 0 0, rfl, s2, s3, s4 _ _ _ (show w6.ownsRow w.heap.size 53 3 (.slice none 0 0) 0 (memC []) from World.ownsRow_nil _ _ _ _)⟩
  · go_upto_region 36 with fail
    generalize World.setCell _ _ _ = w6 at Y6 ⊢
    clear ct1 ct2 gc2 gf2
    have et0 : w6.cell? ⟨w.heap.size + 1, 0, none⟩ = some (.int .i64 1) := Y6.out.tb.cell 0
    have et1 : w6.cell? ⟨w.heap.size + 1, 1, none⟩ = some (.string (qnameV r)) := Y6.out.tb.cell 1
    have et2 : w6.cell? ⟨w.heap.size + 1, 2, none⟩ = some (.int .i64 s) := Y6.out.tb.cell 2
    have et3 : w6.cell? ⟨w.heap.size + 1, 3, none⟩ = some (.int .i64 0) := Y6.out.tb.cell 3
    have et4 : w6.cell? ⟨w.heap.size + 1, 4, none⟩ = some (.int .i64 0) := Y6.out.tb.cell 4
    have et5 : w6.cell? ⟨w.heap.size + 1, 5, none⟩ = some (.slice none 0 0) := Y6.out.tb.cell 5
    have eb0 : w6.cell? ⟨w.heap.size, 0, none⟩ = some (.int .i64 0) := Y6.out.res.cell 0
    have ef0 : w6.frozen? ⟨w.heap.size, 0, none⟩ = false := Y6.out.res.frozen 0
    have eb1 : w6.cell? ⟨w.heap.size, 1, none⟩ = some (.string ⟨#[]⟩) := Y6.out.res.cell 1
    have ef1 : w6.frozen? ⟨w.heap.size, 1, none⟩ = false := Y6.out.res.frozen 1
    have eb2 : w6.cell? ⟨w.heap.size, 2, none⟩ = some (.int .i64 0) := Y6.out.res.cell 2
    have ef2 : w6.frozen? ⟨w.heap.size, 2, none⟩ = false := Y6.out.res.frozen 2
    have eb3 : w6.cell? ⟨w.heap.size, 3, none⟩ = some (.int .i64 0) := Y6.out.res.cell 3
    have ef3 : w6.frozen? ⟨w.heap.size, 3, none⟩ = false := Y6.out.res.frozen 3
    have eb4 : w6.cell? ⟨w.heap.size, 4, none⟩ = some (.int .i64 0) := Y6.out.res.cell 4
    have ef4 : w6.frozen? ⟨w.heap.size, 4, none⟩ = false := Y6.out.res.frozen 4
    have eb5 : w6.cell? ⟨w.heap.size, 5, none⟩ = some (.slice none 0 0) := Y6.out.res.cell 5
    have ef5 : w6.frozen? ⟨w.heap.size, 5, none⟩ = false := Y6.out.res.frozen 5
    go_wp2_with fail
    obtain ⟨s1, s2, s3, s4⟩ := Y6.out.six_ (.int .i64 1) (.string (qnameV r)) (.int .i64 s) (.int .i64 0) (.int .i64 0) (.slice none 0 0)
    unfold six at s1 s2 s3 s4
    refine bodyPost_ret (results_cell_row rfl _ _ w.heap.size 36 _ (0, 0) _ rfl s1 Try.underlying36 rfl (by kernel_rfl)) rfl ?_
    unfold PostY
    rw [HQ.out]
    exact ⟨.slice none 0 0, rfl, s2, s3, s4 _ _ _ (show w6.ownsRow w.heap.size 53 3 (.slice none 0 0) 0 (memC []) from World.ownsRow_nil _ _ _ _)⟩
  · go_upto_region 36 with fail
    generalize World.setCell _ _ _ = w6 at Y6 ⊢
    clear ct1 ct2 gc2 gf2
    have et0 : w6.cell? ⟨w.heap.size + 1, 0, none⟩ = some (.int .i64 1) := Y6.out.tb.cell 0
    have et1 : w6.cell? ⟨w.heap.size + 1, 1, none⟩ = some (.string (qnameV r)) := Y6.out.tb.cell 1
    have et2 : w6.cell? ⟨w.heap.size + 1, 2, none⟩ = some (.int .i64 s) := Y6.out.tb.cell 2
    have et3 : w6.cell? ⟨w.heap.size + 1, 3, none⟩ = some (.int .i64 0) := Y6.out.tb.cell 3
    have et4 : w6.cell? ⟨w.heap.size + 1, 4, none⟩ = some (.int .i64 0) := Y6.out.tb.cell 4
    have et5 : w6.cell? ⟨w.heap.size + 1, 5, none⟩ = some (.slice none 0 0) := Y6.out.tb.cell 5
    have eb0 : w6.cell? ⟨w.heap.size, 0, none⟩ = some (.int .i64 0) := Y6.out.res.cell 0
    have ef0 : w6.frozen? ⟨w.heap.size, 0, none⟩ = false := Y6.out.res.frozen 0
    have eb1 : w6.cell? ⟨w.heap.size, 1, none⟩ = some (.string ⟨#[]⟩) := Y6.out.res.cell 1
    have ef1 : w6.frozen? ⟨w.heap.size, 1, none⟩ = false := Y6.out.res.frozen 1
    have eb2 : w6.cell? ⟨w.heap.size, 2, none⟩ = some (.int .i64 0) := Y6.out.res.cell 2
    have ef2 : w6.frozen? ⟨w.heap.size, 2, none⟩ = false := Y6.out.res.frozen 2
    have eb3 : w6.cell? ⟨w.heap.size, 3, none⟩ = some (.int .i64 0) := Y6.out.res.cell 3
    have ef3 : w6.frozen? ⟨w.heap.size, 3, none⟩ = false := Y6.out.res.frozen 3
    have eb4 : w6.cell? ⟨w.heap.size, 4, none⟩ = some (.int .i64 0) := Y6.out.res.cell 4
    have ef4 : w6.frozen? ⟨w.heap.size, 4, none⟩ = false := Y6.out.res.frozen 4
    have eb5 : w6.cell? ⟨w.heap.size, 5, none⟩ = some (.slice none 0 0) := Y6.out.res.cell 5
    have ef5 : w6.frozen? ⟨w.heap.size, 5, none⟩ = false := Y6.out.res.frozen 5
    go_wp2_with fail
    obtain ⟨s1, s2, s3, s4⟩ := Y6.out.six_ (.int .i64 1) (.string (qnameV r)) (.int .i64 s) (.int .i64 0) (.int .i64 0) (.slice none 0 0)
    unfold six at s1 s2 s3 s4
    refine bodyPost_ret (results_cell_row rfl _ _ w.heap.size 36 _ (0, 0) _ rfl s1 Try.underlying36 rfl (by kernel_rfl)) rfl ?_
    unfold PostY
    rw [HQ.out]
    exact ⟨.slice none 0 0, rfl, s2, s3, s4 _ _ _ (show w6.ownsRow w.heap.size 53 3 (.slice none 0 0) 0 (memC []) from World.ownsRow_nil _ _ _ _)⟩
  · rcases hs4 with ⟨rfl, rfl⟩ | ⟨rfl, rfl⟩ | ⟨rfl, rfl⟩ | ⟨rfl, rfl⟩
    all_goals
      go_upto_region 36 with fail
      generalize World.setCell _ _ _ = w6 at Y6 ⊢
      clear ct1 ct2 gc2 gf2
      have et0 : w6.cell? ⟨w.heap.size + 1, 0, none⟩ = some (.int .i64 1) := Y6.out.tb.cell 0
      have et1 : w6.cell? ⟨w.heap.size + 1, 1, none⟩ = some (.string (qnameV r)) := Y6.out.tb.cell 1
      have et2 : w6.cell? ⟨w.heap.size + 1, 2, none⟩ = some (.int .i64 _) := Y6.out.tb.cell 2
      have et3 : w6.cell? ⟨w.heap.size + 1, 3, none⟩ = some (.int .i64 0) := Y6.out.tb.cell 3
      have et4 : w6.cell? ⟨w.heap.size + 1, 4, none⟩ = some (.int .i64 0) := Y6.out.tb.cell 4
      have et5 : w6.cell? ⟨w.heap.size + 1, 5, none⟩ = some (.slice none 0 0) := Y6.out.tb.cell 5
      have eb0 : w6.cell? ⟨w.heap.size, 0, none⟩ = some (.int .i64 0) := Y6.out.res.cell 0
      have ef0 : w6.frozen? ⟨w.heap.size, 0, none⟩ = false := Y6.out.res.frozen 0
      have eb1 : w6.cell? ⟨w.heap.size, 1, none⟩ = some (.string ⟨#[]⟩) := Y6.out.res.cell 1
      have ef1 : w6.frozen? ⟨w.heap.size, 1, none⟩ = false := Y6.out.res.frozen 1
      have eb2 : w6.cell? ⟨w.heap.size, 2, none⟩ = some (.int .i64 0) := Y6.out.res.cell 2
      have ef2 : w6.frozen? ⟨w.heap.size, 2, none⟩ = false := Y6.out.res.frozen 2
      have eb3 : w6.cell? ⟨w.heap.size, 3, none⟩ = some (.int .i64 0) := Y6.out.res.cell 3
      have ef3 : w6.frozen? ⟨w.heap.size, 3, none⟩ = false := Y6.out.res.frozen 3
      have eb4 : w6.cell? ⟨w.heap.size, 4, none⟩ = some (.int .i64 0) := Y6.out.res.cell 4
      have ef4 : w6.frozen? ⟨w.heap.size, 4, none⟩ = false := Y6.out.res.frozen 4
      have eb5 : w6.cell? ⟨w.heap.size, 5, none⟩ = some (.slice none 0 0) := Y6.out.res.cell 5
      have ef5 : w6.frozen? ⟨w.heap.size, 5, none⟩ = false := Y6.out.res.frozen 5
      go_wp2_with fail
      obtain ⟨s1, s2, s3, s4⟩ := Y6.out.six_ (.int .i64 1) (.string (qnameV r)) (.int .i64 _) (.int .i64 0) (.int .i64 0) (.slice none 0 0)
      unfold six at s1 s2 s3 s4
      refine bodyPost_ret (results_cell_row rfl _ _ w.heap.size 36 _ (0, 0) _ rfl s1 Try.underlying36 rfl (by kernel_rfl)) rfl ?_
      unfold PostY
      rw [HQ.out]
      exact ⟨.slice none 0 0, rfl, s2, s3, s4 _ _ _ (show w6.ownsRow w.heap.size 53 3 (.slice none 0 0) 0 (memC []) from World.ownsRow_nil _ _ _ _)⟩
set_option maxHeartbeats 2000000 in
theorem one_to2 {w : World} {g : Nat} {r : RS} (h : PM w g r) (v : Int) (hv : numV (qnameR r) = v) (hA : bits .and .i64 v 65535 = 0) (hS : v / 16777216 = 2) (h0 : 0 ≤ v) (h1 : v < 4294967296) (hM : bits .and .i64 v 16711680 = 0) (s : Int) (hs : numV (numR (qnameR r)) = s)
    (E : Bool) (hE : (qnameV r).toList.isEmpty = E) (B : Bool) (hB : ((qsmallR (numR (qnameR r))).bad || !E) = B)
    (hq : qone r = (⟨2, qnameV r, 0, s, 0, []⟩, ⟨(qsmallR (numR (qnameR r))).ts, (qsmallR (numR (qnameR r))).ns, B⟩)) :
    Calls Try.prog 31 #[.pointer (some ⟨g, 0, none⟩)] w (PostY w g r) := by
  have HV := Lib.hid hv
  have HQ := Lib.hid hq
  clear hv hq
  have HS := Lib.hid hs
  have HBB := Lib.hid hB
  clear hs hB
  have Y0 := Lib.hid (QY.start h)
  have hgl := h.blk.lt
  have HG : Hid (g < w.heap.size) := hgl
  clear h hgl
  go_enter Try.func31, Try.ntmps31
  go_wp2_with fail
  go_at_call 39
  refine (pname_any Y0.out.rm).mono ?_
  rintro e w1 ⟨rfl, hm, hk⟩
  have Y1 := Lib.hid (Y0.out.call hm hk)
  clear hm hk Y0
  have c1 : w1.cell? ⟨w.heap.size + 1, 1, none⟩ = some (.string ⟨#[]⟩) := Y1.out.tb.cell 1
  have f1 : w1.frozen? ⟨w.heap.size + 1, 1, none⟩ = false := Y1.out.tb.frozen 1
  go_wp2_with fail
  go_at_call 40
  refine (pnum_any (Y1.out.name_ (qnameV r)).rm).mono ?_
  rw [HV.out]
  rintro e w2 ⟨rfl, hm, hk⟩
  have Y2 := Lib.hid ((Y1.out.name_ (qnameV r)).call hm hk)
  clear hm hk c1 f1
  have c0 : w2.cell? ⟨w.heap.size + 1, 0, none⟩ = some (.int .i64 0) := Y2.out.tb.cell 0
  have f0 : w2.frozen? ⟨w.heap.size + 1, 0, none⟩ = false := Y2.out.tb.frozen 0
  go_upto_region 6 with fail
  have Y3 := Lib.hid (Y2.out.kind_ 2)
  clear Y1 Y2 c0 f0
  generalize World.setCell _ _ _ = w3 at Y3 ⊢
  have kt0 : w3.cell? ⟨w.heap.size + 1, 0, none⟩ = some (.int .i64 (2)) := Y3.out.tb.cell 0
  go_wp2_with fail
  go_at_call 41
  refine (psmall_q (Y3.out).rm).mono ?_
  rw [HS.out]
  rintro e w4 ⟨rfl, hm, hk⟩
  have Y4 := Lib.hid ((Y3.out).call hm hk)
  clear hm hk
  have cc3 : w4.cell? ⟨w.heap.size + 1, 3, none⟩ = some (.int .i64 0) := Y4.out.tb.cell 3
  have cf3 : w4.frozen? ⟨w.heap.size + 1, 3, none⟩ = false := Y4.out.tb.frozen 3
  have hB := HBB.out
  clear HBB
  obtain ⟨bad, hbad⟩ : ∃ bad, (qsmallR (numR (qnameR r))).bad = bad := ⟨_, rfl⟩
  rw [hbad] at hB
  have HBAD := Lib.hid hbad
  clear hbad
  go_upto_region 18 with fail
  have Y5 := Lib.hid (Y4.out.ty_ s)
  clear Y4 Y3 cc3 cf3
  generalize World.setCell _ _ _ = w5 at Y5 ⊢
  have ct0 : w5.cell? ⟨w.heap.size + 1, 0, none⟩ = some (.int .i64 2) := Y5.out.tb.cell 0
  have ct1 : w5.cell? ⟨w.heap.size + 1, 1, none⟩ = some (.string (qnameV r)) := Y5.out.tb.cell 1
  have gc2 : w5.cell? ⟨g, 2, none⟩ = some (.bool bad) := by rw [← HBAD.out]; exact Y5.out.rm.blk.cell 2
  have gf2 : w5.frozen? ⟨g, 2, none⟩ = false := Y5.out.rm.blk.frozen 2
  have Y6 := Lib.hid (Y5.out.bad_ B)
  clear Y5 HBAD
  cases bad <;> cases E <;> (simp only [Bool.true_or, Bool.false_or, Bool.not_true, Bool.not_false] at hB) <;> subst hB
  all_goals
    go_upto_region 36 with fail
    generalize World.setCell _ _ _ = w6 at Y6 ⊢
    clear ct0 ct1 gc2 gf2
    have et0 : w6.cell? ⟨w.heap.size + 1, 0, none⟩ = some (.int .i64 2) := Y6.out.tb.cell 0
    have et1 : w6.cell? ⟨w.heap.size + 1, 1, none⟩ = some (.string (qnameV r)) := Y6.out.tb.cell 1
    have et2 : w6.cell? ⟨w.heap.size + 1, 2, none⟩ = some (.int .i64 0) := Y6.out.tb.cell 2
    have et3 : w6.cell? ⟨w.heap.size + 1, 3, none⟩ = some (.int .i64 s) := Y6.out.tb.cell 3
    have et4 : w6.cell? ⟨w.heap.size + 1, 4, none⟩ = some (.int .i64 0) := Y6.out.tb.cell 4
    have et5 : w6.cell? ⟨w.heap.size + 1, 5, none⟩ = some (.slice none 0 0) := Y6.out.tb.cell 5
    have eb0 : w6.cell? ⟨w.heap.size, 0, none⟩ = some (.int .i64 0) := Y6.out.res.cell 0
    have ef0 : w6.frozen? ⟨w.heap.size, 0, none⟩ = false := Y6.out.res.frozen 0
    have eb1 : w6.cell? ⟨w.heap.size, 1, none⟩ = some (.string ⟨#[]⟩) := Y6.out.res.cell 1
    have ef1 : w6.frozen? ⟨w.heap.size, 1, none⟩ = false := Y6.out.res.frozen 1
    have eb2 : w6.cell? ⟨w.heap.size, 2, none⟩ = some (.int .i64 0) := Y6.out.res.cell 2
    have ef2 : w6.frozen? ⟨w.heap.size, 2, none⟩ = false := Y6.out.res.frozen 2
    have eb3 : w6.cell? ⟨w.heap.size, 3, none⟩ = some (.int .i64 0) := Y6.out.res.cell 3
    have ef3 : w6.frozen? ⟨w.heap.size, 3, none⟩ = false := Y6.out.res.frozen 3
    have eb4 : w6.cell? ⟨w.heap.size, 4, none⟩ = some (.int .i64 0) := Y6.out.res.cell 4
    have ef4 : w6.frozen? ⟨w.heap.size, 4, none⟩ = false := Y6.out.res.frozen 4
    have eb5 : w6.cell? ⟨w.heap.size, 5, none⟩ = some (.slice none 0 0) := Y6.out.res.cell 5
    have ef5 : w6.frozen? ⟨w.heap.size, 5, none⟩ = false := Y6.out.res.frozen 5
    go_wp2_with fail
    obtain ⟨s1, s2, s3, s4⟩ := Y6.out.six_ (.int .i64 2) (.string (qnameV r)) (.int .i64 0) (.int .i64 s) (.int .i64 0) (.slice none 0 0)
    unfold six at s1 s2 s3 s4
    refine bodyPost_ret (results_cell_row rfl _ _ w.heap.size 36 _ (0, 0) _ rfl s1 Try.underlying36 rfl (by kernel_rfl)) rfl ?_
    unfold PostY
    rw [HQ.out]
    exact ⟨.slice none 0 0, rfl, s2, s3, s4 _ _ _ (show w6.ownsRow w.heap.size 53 3 (.slice none 0 0) 0 (memC []) from World.ownsRow_nil _ _ _ _)⟩
set_option maxHeartbeats 2000000 in
theorem one_to8 {w : World} {g : Nat} {r : RS} (h : PM w g r) (v : Int) (hv : numV (qnameR r) = v) (hA : bits .and .i64 v 65535 = 0) (hS : v / 16777216 = 8) (h0 : 0 ≤ v) (h1 : v < 4294967296) (hM : bits .and .i64 v 16711680 = 0) (s : Int) (hs : numV (numR (qnameR r)) = s)
    (E : Bool) (hE : (qnameV r).toList.isEmpty = E) (B : Bool) (hB : ((qsmallR (numR (qnameR r))).bad || E) = B)
    (hq : qone r = (⟨8, qnameV r, 0, s, 0, []⟩, ⟨(qsmallR (numR (qnameR r))).ts, (qsmallR (numR (qnameR r))).ns, B⟩)) :
    Calls Try.prog 31 #[.pointer (some ⟨g, 0, none⟩)] w (PostY w g r) := by
  have HV := Lib.hid hv
  have HQ := Lib.hid hq
  clear hv hq
  have HS := Lib.hid hs
  have HBB := Lib.hid hB
  clear hs hB
  have Y0 := Lib.hid (QY.start h)
  have hgl := h.blk.lt
  have HG : Hid (g < w.heap.size) := hgl
  clear h hgl
  go_enter Try.func31, Try.ntmps31
  go_wp2_with fail
  go_at_call 39
  refine (pname_any Y0.out.rm).mono ?_
  rintro e w1 ⟨rfl, hm, hk⟩
  have Y1 := Lib.hid (Y0.out.call hm hk)
  clear hm hk Y0
  have c1 : w1.cell? ⟨w.heap.size + 1, 1, none⟩ = some (.string ⟨#[]⟩) := Y1.out.tb.cell 1
  have f1 : w1.frozen? ⟨w.heap.size + 1, 1, none⟩ = false := Y1.out.tb.frozen 1
  go_wp2_with fail
  go_at_call 40
  refine (pnum_any (Y1.out.name_ (qnameV r)).rm).mono ?_
  rw [HV.out]
  rintro e w2 ⟨rfl, hm, hk⟩
  have Y2 := Lib.hid ((Y1.out.name_ (qnameV r)).call hm hk)
  clear hm hk c1 f1
  have c0 : w2.cell? ⟨w.heap.size + 1, 0, none⟩ = some (.int .i64 0) := Y2.out.tb.cell 0
  have f0 : w2.frozen? ⟨w.heap.size + 1, 0, none⟩ = false := Y2.out.tb.frozen 0
  go_upto_region 6 with fail
  have Y3 := Lib.hid (Y2.out.kind_ 8)
  clear Y1 Y2 c0 f0
  generalize World.setCell _ _ _ = w3 at Y3 ⊢
  have kt0 : w3.cell? ⟨w.heap.size + 1, 0, none⟩ = some (.int .i64 (8)) := Y3.out.tb.cell 0
  go_wp2_with fail
  go_at_call 41
  refine (psmall_q (Y3.out).rm).mono ?_
  rw [HS.out]
  rintro e w4 ⟨rfl, hm, hk⟩
  have Y4 := Lib.hid ((Y3.out).call hm hk)
  clear hm hk
  have cc3 : w4.cell? ⟨w.heap.size + 1, 3, none⟩ = some (.int .i64 0) := Y4.out.tb.cell 3
  have cf3 : w4.frozen? ⟨w.heap.size + 1, 3, none⟩ = false := Y4.out.tb.frozen 3
  have hB := HBB.out
  clear HBB
  obtain ⟨bad, hbad⟩ : ∃ bad, (qsmallR (numR (qnameR r))).bad = bad := ⟨_, rfl⟩
  rw [hbad] at hB
  have HBAD := Lib.hid hbad
  clear hbad
  go_upto_region 18 with fail
  have Y5 := Lib.hid (Y4.out.ty_ s)
  clear Y4 Y3 cc3 cf3
  generalize World.setCell _ _ _ = w5 at Y5 ⊢
  have ct0 : w5.cell? ⟨w.heap.size + 1, 0, none⟩ = some (.int .i64 8) := Y5.out.tb.cell 0
  have ct1 : w5.cell? ⟨w.heap.size + 1, 1, none⟩ = some (.string (qnameV r)) := Y5.out.tb.cell 1
  have gc2 : w5.cell? ⟨g, 2, none⟩ = some (.bool bad) := by rw [← HBAD.out]; exact Y5.out.rm.blk.cell 2
  have gf2 : w5.frozen? ⟨g, 2, none⟩ = false := Y5.out.rm.blk.frozen 2
  have Y6 := Lib.hid (Y5.out.bad_ B)
  clear Y5 HBAD
  cases bad <;> cases E <;> (simp only [Bool.true_or, Bool.false_or, Bool.not_true, Bool.not_false] at hB) <;> subst hB
  all_goals
    go_upto_region 36 with fail
    generalize World.setCell _ _ _ = w6 at Y6 ⊢
    clear ct0 ct1 gc2 gf2
    have et0 : w6.cell? ⟨w.heap.size + 1, 0, none⟩ = some (.int .i64 8) := Y6.out.tb.cell 0
    have et1 : w6.cell? ⟨w.heap.size + 1, 1, none⟩ = some (.string (qnameV r)) := Y6.out.tb.cell 1
    have et2 : w6.cell? ⟨w.heap.size + 1, 2, none⟩ = some (.int .i64 0) := Y6.out.tb.cell 2
    have et3 : w6.cell? ⟨w.heap.size + 1, 3, none⟩ = some (.int .i64 s) := Y6.out.tb.cell 3
    have et4 : w6.cell? ⟨w.heap.size + 1, 4, none⟩ = some (.int .i64 0) := Y6.out.tb.cell 4
    have et5 : w6.cell? ⟨w.heap.size + 1, 5, none⟩ = some (.slice none 0 0) := Y6.out.tb.cell 5
    have eb0 : w6.cell? ⟨w.heap.size, 0, none⟩ = some (.int .i64 0) := Y6.out.res.cell 0
    have ef0 : w6.frozen? ⟨w.heap.size, 0, none⟩ = false := Y6.out.res.frozen 0
    have eb1 : w6.cell? ⟨w.heap.size, 1, none⟩ = some (.string ⟨#[]⟩) := Y6.out.res.cell 1
    have ef1 : w6.frozen? ⟨w.heap.size, 1, none⟩ = false := Y6.out.res.frozen 1
    have eb2 : w6.cell? ⟨w.heap.size, 2, none⟩ = some (.int .i64 0) := Y6.out.res.cell 2
    have ef2 : w6.frozen? ⟨w.heap.size, 2, none⟩ = false := Y6.out.res.frozen 2
    have eb3 : w6.cell? ⟨w.heap.size, 3, none⟩ = some (.int .i64 0) := Y6.out.res.cell 3
    have ef3 : w6.frozen? ⟨w.heap.size, 3, none⟩ = false := Y6.out.res.frozen 3
    have eb4 : w6.cell? ⟨w.heap.size, 4, none⟩ = some (.int .i64 0) := Y6.out.res.cell 4
    have ef4 : w6.frozen? ⟨w.heap.size, 4, none⟩ = false := Y6.out.res.frozen 4
    have eb5 : w6.cell? ⟨w.heap.size, 5, none⟩ = some (.slice none 0 0) := Y6.out.res.cell 5
    have ef5 : w6.frozen? ⟨w.heap.size, 5, none⟩ = false := Y6.out.res.frozen 5
    go_wp2_with fail
    obtain ⟨s1, s2, s3, s4⟩ := Y6.out.six_ (.int .i64 8) (.string (qnameV r)) (.int .i64 0) (.int .i64 s) (.int .i64 0) (.slice none 0 0)
    unfold six at s1 s2 s3 s4
    refine bodyPost_ret (results_cell_row rfl _ _ w.heap.size 36 _ (0, 0) _ rfl s1 Try.underlying36 rfl (by kernel_rfl)) rfl ?_
    unfold PostY
    rw [HQ.out]
    exact ⟨.slice none 0 0, rfl, s2, s3, s4 _ _ _ (show w6.ownsRow w.heap.size 53 3 (.slice none 0 0) 0 (memC []) from World.ownsRow_nil _ _ _ _)⟩
set_option maxHeartbeats 2000000 in
theorem one_array {w : World} {g : Nat} {r : RS} (h : PM w g r) (v : Int) (hv : numV (qnameR r) = v) (hA : bits .and .i64 v 65535 = 0) (hS : v / 16777216 = 3) (h0 : 0 ≤ v) (h1 : v < 4294967296) (hM : bits .and .i64 v 16711680 = 0) (z s b c : Int) (hz : numV (numR (qnameR r)) = z) (hs : numV (numR (numR (qnameR r))) = s) (hb : numV (qsmallR (numR (numR (qnameR r)))) = b) (hc : numV (numR (qsmallR (numR (numR (qnameR r))))) = c)
    (E : Bool) (hE : (qnameV r).toList.isEmpty = E) (B : Bool) (hB : ((qsmallR (numR (qsmallR (numR (numR (qnameR r)))))).bad || ((z != 0) || ((b != 0) || !E))) = B)
    (hq : qone r = (⟨3, qnameV r, 0, s, c, []⟩, ⟨(qsmallR (numR (qsmallR (numR (numR (qnameR r)))))).ts, (qsmallR (numR (qsmallR (numR (numR (qnameR r)))))).ns, B⟩)) :
    Calls Try.prog 31 #[.pointer (some ⟨g, 0, none⟩)] w (PostY w g r) := by
  have HV := Lib.hid hv
  have HQ := Lib.hid hq
  clear hv hq
  have HZ := Lib.hid hz
  have HS := Lib.hid hs
  have HB := Lib.hid hb
  have HC := Lib.hid hc
  have HBB := Lib.hid hB
  clear hz hs hb hc hB
  have Y0 := Lib.hid (QY.start h)
  have hgl := h.blk.lt
  have HG : Hid (g < w.heap.size) := hgl
  clear h hgl
  go_enter Try.func31, Try.ntmps31
  go_wp2_with fail
  go_at_call 39
  refine (pname_any Y0.out.rm).mono ?_
  rintro e w1 ⟨rfl, hm, hk⟩
  have Y1 := Lib.hid (Y0.out.call hm hk)
  clear hm hk Y0
  have c1 : w1.cell? ⟨w.heap.size + 1, 1, none⟩ = some (.string ⟨#[]⟩) := Y1.out.tb.cell 1
  have f1 : w1.frozen? ⟨w.heap.size + 1, 1, none⟩ = false := Y1.out.tb.frozen 1
  go_wp2_with fail
  go_at_call 40
  refine (pnum_any (Y1.out.name_ (qnameV r)).rm).mono ?_
  rw [HV.out]
  rintro e w2 ⟨rfl, hm, hk⟩
  have Y2 := Lib.hid ((Y1.out.name_ (qnameV r)).call hm hk)
  clear hm hk c1 f1
  have c0 : w2.cell? ⟨w.heap.size + 1, 0, none⟩ = some (.int .i64 0) := Y2.out.tb.cell 0
  have f0 : w2.frozen? ⟨w.heap.size + 1, 0, none⟩ = false := Y2.out.tb.frozen 0
  go_upto_region 6 with fail
  have Y3 := Lib.hid (Y2.out.kind_ 3)
  clear Y1 Y2 c0 f0
  generalize World.setCell _ _ _ = w3 at Y3 ⊢
  have kt0 : w3.cell? ⟨w.heap.size + 1, 0, none⟩ = some (.int .i64 (3)) := Y3.out.tb.cell 0
  go_wp2_with fail
  go_at_call 40
  refine (pnum_any (Y3.out).rm).mono ?_
  rw [HZ.out]
  rintro e w4 ⟨rfl, hm, hk⟩
  have Y4 := Lib.hid ((Y3.out).call hm hk)
  clear hm hk
  go_wp2_with fail
  go_at_call 41
  refine (psmall_q (Y4.out).rm).mono ?_
  rw [HS.out]
  rintro e w5 ⟨rfl, hm, hk⟩
  have Y5 := Lib.hid ((Y4.out).call hm hk)
  clear hm hk
  have cc3 : w5.cell? ⟨w.heap.size + 1, 3, none⟩ = some (.int .i64 0) := Y5.out.tb.cell 3
  have cf3 : w5.frozen? ⟨w.heap.size + 1, 3, none⟩ = false := Y5.out.tb.frozen 3
  go_wp2_with fail
  go_at_call 40
  refine (pnum_any (Y5.out.ty_ s).rm).mono ?_
  rw [HB.out]
  rintro e w6 ⟨rfl, hm, hk⟩
  have Y6 := Lib.hid ((Y5.out.ty_ s).call hm hk)
  clear hm hk
  go_wp2_with fail
  go_at_call 41
  refine (psmall_q (Y6.out).rm).mono ?_
  rw [HC.out]
  rintro e w7 ⟨rfl, hm, hk⟩
  have Y7 := Lib.hid ((Y6.out).call hm hk)
  clear hm hk
  have dc4 : w7.cell? ⟨w.heap.size + 1, 4, none⟩ = some (.int .i64 0) := Y7.out.tb.cell 4
  have df4 : w7.frozen? ⟨w.heap.size + 1, 4, none⟩ = false := Y7.out.tb.frozen 4
  have hB := HBB.out
  clear HBB
  obtain ⟨bad, hbad⟩ : ∃ bad, (qsmallR (numR (qsmallR (numR (numR (qnameR r)))))).bad = bad := ⟨_, rfl⟩
  rw [hbad] at hB
  have HBAD := Lib.hid hbad
  clear hbad cc3 cf3
  go_upto_region 24 with fail
  have Y8 := Lib.hid (Y7.out.count_ c)
  clear Y4 Y3 Y5 Y6 Y7 dc4 df4
  generalize World.setCell _ _ _ = w8 at Y8 ⊢
  have ct1 : w8.cell? ⟨w.heap.size + 1, 1, none⟩ = some (.string (qnameV r)) := Y8.out.tb.cell 1
  have gc2 : w8.cell? ⟨g, 2, none⟩ = some (.bool bad) := by rw [← HBAD.out]; exact Y8.out.rm.blk.cell 2
  have gf2 : w8.frozen? ⟨g, 2, none⟩ = false := Y8.out.rm.blk.frozen 2
  have Y9 := Lib.hid (Y8.out.bad_ B)
  clear Y8 HBAD
  cases q1 : (z != 0) <;> cases q2 : (b != 0) <;> rw [q1, q2] at hB <;> cases bad <;> cases E <;> (simp only [Bool.true_or, Bool.false_or, Bool.not_true, Bool.not_false] at hB) <;> subst hB
  all_goals
    go_upto_region 36 with fail
    generalize World.setCell _ _ _ = w9 at Y9 ⊢
    clear ct1 gc2 gf2
    have et0 : w9.cell? ⟨w.heap.size + 1, 0, none⟩ = some (.int .i64 3) := Y9.out.tb.cell 0
    have et1 : w9.cell? ⟨w.heap.size + 1, 1, none⟩ = some (.string (qnameV r)) := Y9.out.tb.cell 1
    have et2 : w9.cell? ⟨w.heap.size + 1, 2, none⟩ = some (.int .i64 0) := Y9.out.tb.cell 2
    have et3 : w9.cell? ⟨w.heap.size + 1, 3, none⟩ = some (.int .i64 s) := Y9.out.tb.cell 3
    have et4 : w9.cell? ⟨w.heap.size + 1, 4, none⟩ = some (.int .i64 c) := Y9.out.tb.cell 4
    have et5 : w9.cell? ⟨w.heap.size + 1, 5, none⟩ = some (.slice none 0 0) := Y9.out.tb.cell 5
    have eb0 : w9.cell? ⟨w.heap.size, 0, none⟩ = some (.int .i64 0) := Y9.out.res.cell 0
    have ef0 : w9.frozen? ⟨w.heap.size, 0, none⟩ = false := Y9.out.res.frozen 0
    have eb1 : w9.cell? ⟨w.heap.size, 1, none⟩ = some (.string ⟨#[]⟩) := Y9.out.res.cell 1
    have ef1 : w9.frozen? ⟨w.heap.size, 1, none⟩ = false := Y9.out.res.frozen 1
    have eb2 : w9.cell? ⟨w.heap.size, 2, none⟩ = some (.int .i64 0) := Y9.out.res.cell 2
    have ef2 : w9.frozen? ⟨w.heap.size, 2, none⟩ = false := Y9.out.res.frozen 2
    have eb3 : w9.cell? ⟨w.heap.size, 3, none⟩ = some (.int .i64 0) := Y9.out.res.cell 3
    have ef3 : w9.frozen? ⟨w.heap.size, 3, none⟩ = false := Y9.out.res.frozen 3
    have eb4 : w9.cell? ⟨w.heap.size, 4, none⟩ = some (.int .i64 0) := Y9.out.res.cell 4
    have ef4 : w9.frozen? ⟨w.heap.size, 4, none⟩ = false := Y9.out.res.frozen 4
    have eb5 : w9.cell? ⟨w.heap.size, 5, none⟩ = some (.slice none 0 0) := Y9.out.res.cell 5
    have ef5 : w9.frozen? ⟨w.heap.size, 5, none⟩ = false := Y9.out.res.frozen 5
    go_wp2_with fail
    obtain ⟨s1, s2, s3, s4⟩ := Y9.out.six_ (.int .i64 3) (.string (qnameV r)) (.int .i64 0) (.int .i64 s) (.int .i64 c) (.slice none 0 0)
    unfold six at s1 s2 s3 s4
    refine bodyPost_ret (results_cell_row rfl _ _ w.heap.size 36 _ (0, 0) _ rfl s1 Try.underlying36 rfl (by kernel_rfl)) rfl ?_
    unfold PostY
    rw [HQ.out]
    exact ⟨.slice none 0 0, rfl, s2, s3, s4 _ _ _ (show w9.ownsRow w.heap.size 53 3 (.slice none 0 0) 0 (memC []) from World.ownsRow_nil _ _ _ _)⟩
set_option maxHeartbeats 2000000 in
theorem one_other {w : World} {g : Nat} {r : RS} (h : PM w g r) (v k : Int) (hv : numV (qnameR r) = v) (hA : bits .and .i64 v 65535 = 0) (hS : v / 16777216 = k) (h0 : 0 ≤ v) (h1 : v < 4294967296) (hM : bits .and .i64 v 16711680 = 0) (k1 : (k == 1) = false) (k2 : (k == 2) = false) (k8 : (k == 8) = false) (k3 : (k == 3) = false) (k4 : (k == 4) = false)
    (E : Bool) (hE : (qnameV r).toList.isEmpty = E)
    (hq : qone r = (⟨k, qnameV r, 0, 0, 0, []⟩, ⟨(numR (qnameR r)).ts, (numR (qnameR r)).ns, true⟩)) :
    Calls Try.prog 31 #[.pointer (some ⟨g, 0, none⟩)] w (PostY w g r) := by
  have HV := Lib.hid hv
  have HQ := Lib.hid hq
  clear hv hq
  have Y0 := Lib.hid (QY.start h)
  have hgl := h.blk.lt
  have HG : Hid (g < w.heap.size) := hgl
  clear h hgl
  go_enter Try.func31, Try.ntmps31
  go_wp2_with fail
  go_at_call 39
  refine (pname_any Y0.out.rm).mono ?_
  rintro e w1 ⟨rfl, hm, hk⟩
  have Y1 := Lib.hid (Y0.out.call hm hk)
  clear hm hk Y0
  have c1 : w1.cell? ⟨w.heap.size + 1, 1, none⟩ = some (.string ⟨#[]⟩) := Y1.out.tb.cell 1
  have f1 : w1.frozen? ⟨w.heap.size + 1, 1, none⟩ = false := Y1.out.tb.frozen 1
  go_wp2_with fail
  go_at_call 40
  refine (pnum_any (Y1.out.name_ (qnameV r)).rm).mono ?_
  rw [HV.out]
  rintro e w2 ⟨rfl, hm, hk⟩
  have Y2 := Lib.hid ((Y1.out.name_ (qnameV r)).call hm hk)
  clear hm hk c1 f1
  have c0 : w2.cell? ⟨w.heap.size + 1, 0, none⟩ = some (.int .i64 0) := Y2.out.tb.cell 0
  have f0 : w2.frozen? ⟨w.heap.size + 1, 0, none⟩ = false := Y2.out.tb.frozen 0
  go_upto_region 6 with fail
  have Y3 := Lib.hid (Y2.out.kind_ k)
  clear Y1 Y2 c0 f0
  generalize World.setCell _ _ _ = w3 at Y3 ⊢
  have kt0 : w3.cell? ⟨w.heap.size + 1, 0, none⟩ = some (.int .i64 (k)) := Y3.out.tb.cell 0
  have gc2 : w3.cell? ⟨g, 2, none⟩ = some (.bool (numR (qnameR r)).bad) := Y3.out.rm.blk.cell 2
  have gf2 : w3.frozen? ⟨g, 2, none⟩ = false := Y3.out.rm.blk.frozen 2
  go_upto_region 36 with fail
  have Y4 := Lib.hid (Y3.out.bad_ true)
  clear Y3 gc2 gf2
  generalize World.setCell _ _ _ = w4 at Y4 ⊢
  have et0 : w4.cell? ⟨w.heap.size + 1, 0, none⟩ = some (.int .i64 k) := Y4.out.tb.cell 0
  have et1 : w4.cell? ⟨w.heap.size + 1, 1, none⟩ = some (.string (qnameV r)) := Y4.out.tb.cell 1
  have et2 : w4.cell? ⟨w.heap.size + 1, 2, none⟩ = some (.int .i64 0) := Y4.out.tb.cell 2
  have et3 : w4.cell? ⟨w.heap.size + 1, 3, none⟩ = some (.int .i64 0) := Y4.out.tb.cell 3
  have et4 : w4.cell? ⟨w.heap.size + 1, 4, none⟩ = some (.int .i64 0) := Y4.out.tb.cell 4
  have et5 : w4.cell? ⟨w.heap.size + 1, 5, none⟩ = some (.slice none 0 0) := Y4.out.tb.cell 5
  have eb0 : w4.cell? ⟨w.heap.size, 0, none⟩ = some (.int .i64 0) := Y4.out.res.cell 0
  have ef0 : w4.frozen? ⟨w.heap.size, 0, none⟩ = false := Y4.out.res.frozen 0
  have eb1 : w4.cell? ⟨w.heap.size, 1, none⟩ = some (.string ⟨#[]⟩) := Y4.out.res.cell 1
  have ef1 : w4.frozen? ⟨w.heap.size, 1, none⟩ = false := Y4.out.res.frozen 1
  have eb2 : w4.cell? ⟨w.heap.size, 2, none⟩ = some (.int .i64 0) := Y4.out.res.cell 2
  have ef2 : w4.frozen? ⟨w.heap.size, 2, none⟩ = false := Y4.out.res.frozen 2
  have eb3 : w4.cell? ⟨w.heap.size, 3, none⟩ = some (.int .i64 0) := Y4.out.res.cell 3
  have ef3 : w4.frozen? ⟨w.heap.size, 3, none⟩ = false := Y4.out.res.frozen 3
  have eb4 : w4.cell? ⟨w.heap.size, 4, none⟩ = some (.int .i64 0) := Y4.out.res.cell 4
  have ef4 : w4.frozen? ⟨w.heap.size, 4, none⟩ = false := Y4.out.res.frozen 4
  have eb5 : w4.cell? ⟨w.heap.size, 5, none⟩ = some (.slice none 0 0) := Y4.out.res.cell 5
  have ef5 : w4.frozen? ⟨w.heap.size, 5, none⟩ = false := Y4.out.res.frozen 5
  go_wp2_with fail
  obtain ⟨s1, s2, s3, s4⟩ := Y4.out.six_ (.int .i64 k) (.string (qnameV r)) (.int .i64 0) (.int .i64 0) (.int .i64 0) (.slice none 0 0)
  unfold six at s1 s2 s3 s4
  refine bodyPost_ret (results_cell_row rfl _ _ w.heap.size 36 _ (0, 0) _ rfl s1 Try.underlying36 rfl (by kernel_rfl)) rfl ?_
  unfold PostY
  rw [HQ.out]
  exact ⟨.slice none 0 0, rfl, s2, s3, s4 _ _ _ (show w4.ownsRow w.heap.size 53 3 (.slice none 0 0) 0 (memC []) from World.ownsRow_nil _ _ _ _)⟩
end Go.Proofs.Ytmfdojmecpdikaa
