/-
  Layer 6, the reference: a struct, read.
-/
import Derived.Test.YtmfdojmecpdikaaCYard
import Derived.RegionTactic
import Derived.Deep.AppendLies
import Derived.Outline
import Derived.Deep.Cut
namespace Go.Proofs.Ytmfdojmecpdikaa
open Go Go.RowKit
set_option linter.unusedVariables false
set_option linter.unusedSimpArgs false
set_option maxRecDepth 100000
set_option maxHeartbeats 2000000 in
theorem one_struct {w : World} {g : Nat} {r : RS} (h : PM w g r) (v : Int) (hv : numV (qnameR r) = v) (n : Nat) (hA : bits .and .i64 v 65535 = (n : Int)) (hS : v / 16777216 = 4) (h0 : 0 ≤ v) (h1 : v < 4294967296) (hM : bits .and .i64 v 16711680 = 0) (hn : n ≤ 65535) (q : Bool) (hq0 : ((n : Int) != 0) = q) (s : Int) (hs : numV (numR (qnameR r)) = s)
    (E : Bool) (hE : (qnameV r).toList.isEmpty = E)
    (hq : qone r = (⟨4, qnameV r, s, 0, 0, qmemsV n (wantR (qsmallR (numR (qnameR r))) (decide ((n : Int) ≤ 1024)))⟩, qmemsR n (wantR (qsmallR (numR (qnameR r))) (decide ((n : Int) ≤ 1024))))) :
    Calls Try.prog 31 #[.pointer (some ⟨g, 0, none⟩)] w (PostY w g r) := by
  have HV := Lib.hid hv
  have HQ := Lib.hid hq
  clear hv hq
  have HS := Lib.hid hs
  clear hs
  have hn1 : (n : Int) ≤ 65535 := by omega
  obtain ⟨i0, hi, hz0, hz1, hz2⟩ := info_parts infoM
  have HI := Lib.hid (And.intro hi (And.intro hz0 (And.intro hz1 hz2)))
  clear hi hz0 hz1 hz2
  cases q
  all_goals
    have Y0 := Lib.hid (QY.start h)
    have hgl := h.blk.lt
    have HG : Hid (g < w.heap.size) := hgl
    clear h hgl
    go_enter Try.func31, Try.ntmps31
    go_wp2_with fail
    go_at_call 39
    refine (pname_any Y0.out.rm).mono ?_
    rintro e w1 ⟨rfl, hm, hk⟩
    have Y1 := Lib.hid (Y0.out.call hm hk)
    clear hm hk Y0
    have c1 : w1.cell? ⟨w.heap.size + 1, 1, none⟩ = some (.string ⟨#[]⟩) := Y1.out.tb.cell 1
    have f1 : w1.frozen? ⟨w.heap.size + 1, 1, none⟩ = false := Y1.out.tb.frozen 1
    go_wp2_with fail
    go_at_call 40
    refine (pnum_any (Y1.out.name_ (qnameV r)).rm).mono ?_
    rw [HV.out]
    rintro e w2 ⟨rfl, hm, hk⟩
    have Y2 := Lib.hid ((Y1.out.name_ (qnameV r)).call hm hk)
    clear hm hk c1 f1
    have c0 : w2.cell? ⟨w.heap.size + 1, 0, none⟩ = some (.int .i64 0) := Y2.out.tb.cell 0
    have f0 : w2.frozen? ⟨w.heap.size + 1, 0, none⟩ = false := Y2.out.tb.frozen 0
    go_upto_region 6 with fail
    have Y3 := Lib.hid (Y2.out.kind_ 4)
    clear Y1 Y2 c0 f0
    generalize World.setCell _ _ _ = w3 at Y3 ⊢
    have kt0 : w3.cell? ⟨w.heap.size + 1, 0, none⟩ = some (.int .i64 (4)) := Y3.out.tb.cell 0
    go_wp2_with fail
    go_at_call 41
    refine (psmall_q (Y3.out).rm).mono ?_
    rw [HS.out]
    rintro e w4 ⟨rfl, hm, hk⟩
    have Y4 := Lib.hid ((Y3.out).call hm hk)
    clear hm hk
    have cc2 : w4.cell? ⟨w.heap.size + 1, 2, none⟩ = some (.int .i64 0) := Y4.out.tb.cell 2
    have cf2 : w4.frozen? ⟨w.heap.size + 1, 2, none⟩ = false := Y4.out.tb.frozen 2
    obtain ⟨bad, hbad⟩ : ∃ bad, (qsmallR (numR (qnameR r))).bad = bad := ⟨_, rfl⟩
    obtain ⟨B, hB⟩ : ∃ B, (bad || decide ((1024 : Int) < n)) = B := ⟨_, rfl⟩
    have HBAD := Lib.hid hbad
    clear hbad
    go_upto_region 27 with fail
    have Y5 := Lib.hid (Y4.out.size_ s)
    clear Y4 Y3 cc2 cf2
    generalize World.setCell _ _ _ = w5 at Y5 ⊢
    have gc2 : w5.cell? ⟨g, 2, none⟩ = some (.bool bad) := by rw [← HBAD.out]; exact Y5.out.rm.blk.cell 2
    have gf2 : w5.frozen? ⟨g, 2, none⟩ = false := Y5.out.rm.blk.frozen 2
    have e1 : ⟨(qsmallR (numR (qnameR r))).ts, (qsmallR (numR (qnameR r))).ns, B⟩ = (wantR (qsmallR (numR (qnameR r))) (decide ((n : Int) ≤ 1024))) := by
      unfold wantR
      rw [HBAD.out, ← hB]
      have : (decide ((1024 : Int) < n)) = !decide ((n : Int) ≤ 1024) := by rw [Bool.eq_iff_iff]; simp
      rw [this]
    have Y6 := Lib.hid (Y5.out.bad_ B)
    rw [e1] at Y6
    obtain ⟨R1, hR1⟩ : ∃ R1, (wantR (qsmallR (numR (qnameR r))) (decide ((n : Int) ≤ 1024))) = R1 := ⟨_, rfl⟩
    rw [hR1] at Y6 HQ
    clear Y5 HBAD e1 hR1
    cases bad <;> cases q1 : decide ((1024 : Int) < n) <;> rw [q1] at hB <;> (simp only [Bool.true_or, Bool.false_or, Bool.not_true, Bool.not_false] at hB) <;> subst hB
    all_goals
      go_upto_region 29 with fail
      generalize World.setCell _ _ _ = w6 at Y6 ⊢
      have HL0 : Hid (LoopQ w w6 g w.heap.size (w.heap.size + 1) R1 n 4 (qnameV r) ⟨s, 0, 0⟩ 0 R1 [] (.slice none 0 0)) := ⟨Y6.out, World.ownsRow_nil _ _ _ _, rfl, rfl, rfl⟩
      clear Y6 gc2 gf2
      go_loopw [9] (fun i wr => ∃ (j : Nat) (rk : RS) (ms : List Mem) (mv : Value), j ≤ n ∧ i = .int .i64 j ∧ LoopQ w wr g w.heap.size (w.heap.size + 1) R1 n 4 (qnameV r) ⟨s, 0, 0⟩ j rk ms mv) (fun i _ => n - (intOf i).toNat)
      case atStart => exact ⟨0, _, [], _, by omega, rfl, HL0.out⟩
      case round =>
        clear HL0
        obtain ⟨j, rk, ms, mv, hj, rfl, hL⟩ := hrel
        have HL := Lib.hid hL
        clear hL
        obtain ⟨A, c, hmv, _⟩ := own_form_any HL.out.2.1
        subst hmv
        obtain ⟨b, hb⟩ : ∃ b, rk.bad = b := ⟨_, rfl⟩
        have g2 : wr.cell? ⟨g, 2, none⟩ = some (.bool b) := by rw [← hb]; exact HL.out.1.rm.blk.cell 2
        have HBD := Lib.hid hb
        clear hb
        by_cases hjn : j < n
        · have g1 : decide (j < n) = true := by simpa using hjn
          cases b
          · go_wp2_with fail
            go_at_call 39
            have M0 := Lib.hid (MQ.start HL.out.1 HL.out.2.1)
            refine (pname_any M0.out.qy.rm).mono ?_
            rintro e w7 ⟨rfl, hm, hk⟩
            have M1 := Lib.hid (M0.out.call hm hk)
            have u0 : w7.cell? ⟨wr.heap.size, 0, none⟩ = some (.string ⟨#[]⟩) := M1.out.mb.cell 0
            have u1 : w7.frozen? ⟨wr.heap.size, 0, none⟩ = false := M1.out.mb.frozen 0
            clear hm hk M0
            go_wp2_with fail
            go_at_call 41
            refine (psmall_q (M1.out.name_ (qnameV rk)).qy.rm).mono ?_
            rintro e w8 ⟨rfl, hm, hk⟩
            have M2 := Lib.hid ((M1.out.name_ (qnameV rk)).call hm hk)
            clear hm hk u0 u1
            have u0 : w8.cell? ⟨wr.heap.size, 1, none⟩ = some (.int .i64 0) := M2.out.mb.cell 1
            have u1 : w8.frozen? ⟨wr.heap.size, 1, none⟩ = false := M2.out.mb.frozen 1
            go_wp2_with fail
            go_at_call 41
            refine (psmall_q (M2.out.ty_ (numV (qnameR rk))).qy.rm).mono ?_
            rintro e w9 ⟨rfl, hm, hk⟩
            have M3 := Lib.hid ((M2.out.ty_ (numV (qnameR rk))).call hm hk)
            clear hm hk u0 u1
            have u0 : w9.cell? ⟨wr.heap.size, 2, none⟩ = some (.int .i64 0) := M3.out.mb.cell 2
            have u1 : w9.frozen? ⟨wr.heap.size, 2, none⟩ = false := M3.out.mb.frozen 2
            go_upto_region 35 with fail
            have M4 := Lib.hid (M3.out.off_ (numV (qsmallR (qnameR rk))))
            clear M1 M2 M3 u0 u1
            generalize World.setCell _ _ _ = w10 at M4 ⊢
            have u0 : w10.cell? ⟨wr.heap.size, 0, none⟩ = some (.string (qnameV rk)) := M4.out.mb.cell 0
            have u1 : w10.cell? ⟨wr.heap.size, 1, none⟩ = some (.int .i64 (numV (qnameR rk))) := M4.out.mb.cell 1
            have u2 : w10.cell? ⟨wr.heap.size, 2, none⟩ = some (.int .i64 (numV (qsmallR (qnameR rk)))) := M4.out.mb.cell 2
            have u3 : w10.cell? ⟨w.heap.size + 1, 5, none⟩ = some (.slice A j c) := M4.out.qy.tb.cell 5
            have M5 := Lib.hid (M4.out.qy.alloc (.cells #[.string (qnameV rk), .int .i64 (numV (qnameR rk)), .int .i64 (numV (qsmallR (qnameR rk)))] 53))
            go_wp2_with (at_builtin; refine wpList_append_own_at _ rfl (.tmp 180) (.tmp 182) 34 rfl w.heap.size 53 i0 _ 3 32 Try.underlying34 HI.out.1 HI.out.2.1 HI.out.2.2.1 HI.out.2.2.2 rfl (by decide) (.slice A j c) j (memC ms) rfl (M4.out.own.alloc _) ⟨w10.heap.size, 0, none⟩ 1 1 (memCells (qmemV rk)) rfl rfl (new_cells w10 #[.string (qnameV rk), .int .i64 (numV (qnameR rk)), .int .i64 (numV (qsmallR (qnameR rk)))] 53) (memCells_one _) (by unfold maxLen; omega) (by omega) (by have := M5.out.keeps.size; simp at this ⊢; omega) ?_; intro v' w11 hown5 hgrow5 _ hat5; have M6 := Lib.hid (M5.out.grown hgrow5 (row_tag (M4.out.own.alloc _))); have O6 := Lib.hid hown5; have d5 : w11.cell? ⟨w.heap.size + 1, 5, none⟩ = some (.slice A j c) := M6.out.tb.cell 5; have f5 : w11.frozen? ⟨w.heap.size + 1, 5, none⟩ = false := M6.out.tb.frozen 5; obtain ⟨A', c', hv5, _⟩ := own_form_any hown5; subst hv5; clear hown5 hgrow5 hat5)
            go_roundw
            case rel => exact ⟨j + 1, _, ms ++ [qmemV rk], _, by omega, by go_num, qloop_step HL.out hjn HBD.out (M6.out.mems_ _) (own_mems O6.out M6.out.ht M6.out.tb 5 _)⟩
            case measure => simp [intOf]; omega
          · have HX := Lib.hid (qloop_exit HL.out (.inr HBD.out))
            have Y9 := Lib.hid HL.out.1
            have O9 := Lib.hid HL.out.2.1
            clear hjn
            go_upto_region 36 with fail
            clear g2
            have et0 : wr.cell? ⟨w.heap.size + 1, 0, none⟩ = some (.int .i64 4) := Y9.out.tb.cell 0
            have et1 : wr.cell? ⟨w.heap.size + 1, 1, none⟩ = some (.string (qnameV r)) := Y9.out.tb.cell 1
            have et2 : wr.cell? ⟨w.heap.size + 1, 2, none⟩ = some (.int .i64 s) := Y9.out.tb.cell 2
            have et3 : wr.cell? ⟨w.heap.size + 1, 3, none⟩ = some (.int .i64 0) := Y9.out.tb.cell 3
            have et4 : wr.cell? ⟨w.heap.size + 1, 4, none⟩ = some (.int .i64 0) := Y9.out.tb.cell 4
            have et5 : wr.cell? ⟨w.heap.size + 1, 5, none⟩ = some (.slice A j c) := Y9.out.tb.cell 5
            have eb0 : wr.cell? ⟨w.heap.size, 0, none⟩ = some (.int .i64 0) := Y9.out.res.cell 0
            have ef0 : wr.frozen? ⟨w.heap.size, 0, none⟩ = false := Y9.out.res.frozen 0
            have eb1 : wr.cell? ⟨w.heap.size, 1, none⟩ = some (.string ⟨#[]⟩) := Y9.out.res.cell 1
            have ef1 : wr.frozen? ⟨w.heap.size, 1, none⟩ = false := Y9.out.res.frozen 1
            have eb2 : wr.cell? ⟨w.heap.size, 2, none⟩ = some (.int .i64 0) := Y9.out.res.cell 2
            have ef2 : wr.frozen? ⟨w.heap.size, 2, none⟩ = false := Y9.out.res.frozen 2
            have eb3 : wr.cell? ⟨w.heap.size, 3, none⟩ = some (.int .i64 0) := Y9.out.res.cell 3
            have ef3 : wr.frozen? ⟨w.heap.size, 3, none⟩ = false := Y9.out.res.frozen 3
            have eb4 : wr.cell? ⟨w.heap.size, 4, none⟩ = some (.int .i64 0) := Y9.out.res.cell 4
            have ef4 : wr.frozen? ⟨w.heap.size, 4, none⟩ = false := Y9.out.res.frozen 4
            have eb5 : wr.cell? ⟨w.heap.size, 5, none⟩ = some (.slice none 0 0) := Y9.out.res.cell 5
            have ef5 : wr.frozen? ⟨w.heap.size, 5, none⟩ = false := Y9.out.res.frozen 5
            go_wp2_with fail
            obtain ⟨s1, s2, s3, s4⟩ := Y9.out.six_ (.int .i64 4) (.string (qnameV r)) (.int .i64 s) (.int .i64 0) (.int .i64 0) (.slice A j c)
            unfold six at s1 s2 s3 s4
            refine bodyPost_ret (results_cell_row rfl _ _ w.heap.size 36 _ (0, 0) _ rfl s1 Try.underlying36 rfl (by kernel_rfl)) rfl ?_
            unfold PostY
            rw [HQ.out, HX.out.1, HX.out.2]
            exact ⟨.slice A j c, rfl, s2, s3, s4 _ _ _ (by simp only [HL.out.2.2.1]; exact O9.out)⟩
        · have : j = n := by omega
          subst this
          have HX := Lib.hid (qloop_exit HL.out (.inl rfl))
          have Y9 := Lib.hid HL.out.1
          have O9 := Lib.hid HL.out.2.1
          have g1 : decide (j < j) = false := by simp
          clear g2 hjn
          go_upto_region 36 with fail
          have et0 : wr.cell? ⟨w.heap.size + 1, 0, none⟩ = some (.int .i64 4) := Y9.out.tb.cell 0
          have et1 : wr.cell? ⟨w.heap.size + 1, 1, none⟩ = some (.string (qnameV r)) := Y9.out.tb.cell 1
          have et2 : wr.cell? ⟨w.heap.size + 1, 2, none⟩ = some (.int .i64 s) := Y9.out.tb.cell 2
          have et3 : wr.cell? ⟨w.heap.size + 1, 3, none⟩ = some (.int .i64 0) := Y9.out.tb.cell 3
          have et4 : wr.cell? ⟨w.heap.size + 1, 4, none⟩ = some (.int .i64 0) := Y9.out.tb.cell 4
          have et5 : wr.cell? ⟨w.heap.size + 1, 5, none⟩ = some (.slice A j c) := Y9.out.tb.cell 5
          have eb0 : wr.cell? ⟨w.heap.size, 0, none⟩ = some (.int .i64 0) := Y9.out.res.cell 0
          have ef0 : wr.frozen? ⟨w.heap.size, 0, none⟩ = false := Y9.out.res.frozen 0
          have eb1 : wr.cell? ⟨w.heap.size, 1, none⟩ = some (.string ⟨#[]⟩) := Y9.out.res.cell 1
          have ef1 : wr.frozen? ⟨w.heap.size, 1, none⟩ = false := Y9.out.res.frozen 1
          have eb2 : wr.cell? ⟨w.heap.size, 2, none⟩ = some (.int .i64 0) := Y9.out.res.cell 2
          have ef2 : wr.frozen? ⟨w.heap.size, 2, none⟩ = false := Y9.out.res.frozen 2
          have eb3 : wr.cell? ⟨w.heap.size, 3, none⟩ = some (.int .i64 0) := Y9.out.res.cell 3
          have ef3 : wr.frozen? ⟨w.heap.size, 3, none⟩ = false := Y9.out.res.frozen 3
          have eb4 : wr.cell? ⟨w.heap.size, 4, none⟩ = some (.int .i64 0) := Y9.out.res.cell 4
          have ef4 : wr.frozen? ⟨w.heap.size, 4, none⟩ = false := Y9.out.res.frozen 4
          have eb5 : wr.cell? ⟨w.heap.size, 5, none⟩ = some (.slice none 0 0) := Y9.out.res.cell 5
          have ef5 : wr.frozen? ⟨w.heap.size, 5, none⟩ = false := Y9.out.res.frozen 5
          go_wp2_with fail
          obtain ⟨s1, s2, s3, s4⟩ := Y9.out.six_ (.int .i64 4) (.string (qnameV r)) (.int .i64 s) (.int .i64 0) (.int .i64 0) (.slice A j c)
          unfold six at s1 s2 s3 s4
          refine bodyPost_ret (results_cell_row rfl _ _ w.heap.size 36 _ (0, 0) _ rfl s1 Try.underlying36 rfl (by kernel_rfl)) rfl ?_
          unfold PostY
          rw [HQ.out, HX.out.1, HX.out.2]
          exact ⟨.slice A j c, rfl, s2, s3, s4 _ _ _ (by simp only [HL.out.2.2.1]; exact O9.out)⟩
end Go.Proofs.Ytmfdojmecpdikaa
