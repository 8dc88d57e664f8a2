/-
  Layer 6: a type, read.
-/
import Derived.Test.YtmfdojmecpdikaaBNext0
import Derived.RegionTactic
import Derived.Deep.RegionLaw
import Derived.Outline
import Derived.Deep.Cut
namespace Go.Proofs.Ytmfdojmecpdikaa
open Go Go.RowKit
set_option linter.unusedVariables false
set_option linter.unusedSimpArgs false
set_option maxRecDepth 100000
set_option maxHeartbeats 1000000 in
theorem next_any {w : World} {g : Nat} {r : RS} (h : RM w g r) :
    Calls Try.prog 23 #[.pointer (some ⟨g, 0, none⟩)] w (PostX w g r) := by
  have hgl := h.blk.lt
  have hm0 : RM (w.alloc (.cells #[.int .i64 0, .string ⟨#[]⟩, .int .i64 0, .int .i64 0, .int .i64 0, .slice none 0 0] 36)) g r := ⟨h.blk.alloc _, h.ts, h.ns⟩
  have CN := Lib.hid (rname_any hm0)
  have K0 : Hid (Keeps (· = g) w (w.alloc (.cells #[.int .i64 0, .string ⟨#[]⟩, .int .i64 0, .int .i64 0, .int .i64 0, .slice none 0 0] 36))) := (Keeps.refl _ w).alloc _
  have R0 : Hid (Blk (w.alloc (.cells #[.int .i64 0, .string ⟨#[]⟩, .int .i64 0, .int .i64 0, .int .i64 0, .slice none 0 0] 36)) w.heap.size 36 #[.int .i64 0, .string ⟨#[]⟩, .int .i64 0, .int .i64 0, .int .i64 0, .slice none 0 0]) := Blk.new _ _ _
  have hnv := numV_lo (nameR r)
  have hand := and_i64 (numV (nameR r)) 24 (by decide)
  rw [show ((2 : Int) ^ 24 - 1) = 16777215 from rfl, show ((2 : Int) ^ 24) = 16777216 from rfl] at hand
  obtain ⟨v, hv⟩ : ∃ v, numV (nameR r) = v := ⟨_, rfl⟩
  rw [hv] at hnv hand
  have HV := Lib.hid hv
  have HG : Hid (g < w.heap.size) := hgl
  have hv' := hv
  clear hm0 h hv
  by_cases hbig : 1024 < v % 16777216
  · have hpv : partsV r = v % 16777216 := by unfold partsV wordV; rw [hv']
    have hkv : kindV r = v / 16777216 := by unfold kindV wordV; rw [hv']
    have e1 : nextV r = ⟨v / 16777216, nameV r, 0, 0, 0, []⟩ := by unfold nextV; rw [hpv, if_pos hbig, hkv]
    have e2 : nextR r = ⟨(body0 r).ts, (body0 r).ns, true⟩ := by unfold nextR; rw [hpv, if_pos hbig]
    unfold PostX
    rw [e1, e2]
    clear hpv hkv e1 e2 hv'
    go_enter Try.func23, Try.ntmps23
    go_upto_region 4 with (first
      | (go_at_call 36; refine CN.out.mono ?_; rintro e w1 ⟨rfl, hm, hk⟩; have HM := Lib.hid hm; have HK := Lib.hid (K0.out.then_ hk); have HR := Lib.hid (R0.out.keeps hk (fun e => by have := HG.out; omega)); have hlt : w.heap.size < w1.heap.size := HR.out.lt; clear hm hk)
      | (go_at_call 37; refine (number_any (g := g) (r := nameR r) ⟨HM.out.blk.alloc _, HM.out.ts, HM.out.ns⟩).mono ?_; rw [HV.out]; rintro e w2 ⟨rfl, hm, hk⟩; have HY : Hid (NY w w2 g w.heap.size w1.heap.size (body0 r) 0 (nameV r) ⟨0, 0, 0⟩ (.slice none 0 0)) := ⟨hm, TB.keepsR (g := g) (Blk.new _ _ _) hk (by have := HG.out; omega), (HR.out.alloc _).keeps hk (fun e => by have := HG.out; omega), (HK.out.alloc _).then_ hk, Nat.le_refl _, by omega, by omega, HG.out⟩; have c0 : w2.cell? ⟨w1.heap.size, 0, none⟩ = some (.int .i64 0) := HY.out.tb.cell 0; have f0 : w2.frozen? ⟨w1.heap.size, 0, none⟩ = false := HY.out.tb.frozen 0; clear hm hk))
    have HY3 := Lib.hid (HY.out.kind_ (v / 16777216))
    clear HY HM HK HR CN K0 R0 c0 f0
    generalize World.setCell _ _ _ = w3 at HY3 ⊢
    generalize w1.heap.size = T at *
    generalize hBe : w.heap.size = B at HY3 ⊢
    have HBe := Lib.hid hBe
    clear hBe hlt hgl
    have cg2 : w3.cell? ⟨g, 2, none⟩ = some (.bool (body0 r).bad) := HY3.out.rm.blk.cell 2
    have fg2 : w3.frozen? ⟨g, 2, none⟩ = false := HY3.out.rm.blk.frozen 2
    go_upto_region 7 with fail
    have HY4 : Hid (NY w (w3.setCell ⟨g, 2, none⟩ (.bool true)) g B T ⟨(body0 r).ts, (body0 r).ns, true⟩ (v / 16777216) (nameV r) ⟨0, 0, 0⟩ (.slice none 0 0)) := HY3.out.call ⟨by simpa using HY3.out.rm.blk.set_ 2 (.bool true), HY3.out.rm.ts, HY3.out.rm.ns⟩ (keeps_set w3 g 2 _)
    clear cg2 fg2
    generalize World.setCell _ _ _ = w4 at HY4 ⊢
    have ct0 : w4.cell? ⟨T, 0, none⟩ = some (.int .i64 (v / 16777216)) := HY4.out.tb.cell 0
    have ct1 : w4.cell? ⟨T, 1, none⟩ = some (.string (nameV r)) := HY4.out.tb.cell 1
    have ct2 : w4.cell? ⟨T, 2, none⟩ = some (.int .i64 0) := HY4.out.tb.cell 2
    have ct3 : w4.cell? ⟨T, 3, none⟩ = some (.int .i64 0) := HY4.out.tb.cell 3
    have ct4 : w4.cell? ⟨T, 4, none⟩ = some (.int .i64 0) := HY4.out.tb.cell 4
    have ct5 : w4.cell? ⟨T, 5, none⟩ = some (.slice none 0 0) := HY4.out.tb.cell 5
    have cb0 : w4.cell? ⟨B, 0, none⟩ = some (.int .i64 0) := HY4.out.res.cell 0
    have fb0 : w4.frozen? ⟨B, 0, none⟩ = false := HY4.out.res.frozen 0
    have cb1 : w4.cell? ⟨B, 1, none⟩ = some (.string ⟨#[]⟩) := HY4.out.res.cell 1
    have fb1 : w4.frozen? ⟨B, 1, none⟩ = false := HY4.out.res.frozen 1
    have cb2 : w4.cell? ⟨B, 2, none⟩ = some (.int .i64 0) := HY4.out.res.cell 2
    have fb2 : w4.frozen? ⟨B, 2, none⟩ = false := HY4.out.res.frozen 2
    have cb3 : w4.cell? ⟨B, 3, none⟩ = some (.int .i64 0) := HY4.out.res.cell 3
    have fb3 : w4.frozen? ⟨B, 3, none⟩ = false := HY4.out.res.frozen 3
    have cb4 : w4.cell? ⟨B, 4, none⟩ = some (.int .i64 0) := HY4.out.res.cell 4
    have fb4 : w4.frozen? ⟨B, 4, none⟩ = false := HY4.out.res.frozen 4
    have cb5 : w4.cell? ⟨B, 5, none⟩ = some (.slice none 0 0) := HY4.out.res.cell 5
    have fb5 : w4.frozen? ⟨B, 5, none⟩ = false := HY4.out.res.frozen 5
    go_wp2_with fail
    obtain ⟨s1, s2, s3, s4⟩ := HY4.out.six_ (.int .i64 (v / 16777216)) (.string (nameV r)) (.int .i64 0) (.int .i64 0) (.int .i64 0) (.slice none 0 0)
    unfold six at s1 s2 s3 s4
    refine bodyPost_ret (results_cell_row rfl _ _ B 36 _ (0, 0) _ rfl s1 Try.underlying36 rfl (by kernel_rfl)) rfl ?_
    have own0 : w4.ownsRow w.heap.size 53 3 (.slice none 0 0) 0 (memC []) := World.ownsRow_nil _ _ _ _
    exact ⟨.slice none 0 0, rfl, s2, s3, s4 _ _ _ own0⟩
  · obtain ⟨n, hn⟩ : ∃ n : Nat, v % 16777216 = (n : Int) := ⟨(v % 16777216).toNat, by omega⟩
    have hn4 : n ≤ 1024 := by omega
    have hpv : partsV r = (n : Int) := by unfold partsV wordV; rw [hv', hn]
    have hkv : kindV r = v / 16777216 := by unfold kindV wordV; rw [hv']
    obtain ⟨bd, hbd⟩ : ∃ bd, bodyV (v / 16777216) (body0 r) = bd := ⟨_, rfl⟩
    have e1 : nextV r = ⟨v / 16777216, nameV r, bd.size, bd.ty, bd.count, memsV n (bodyR (v / 16777216) (body0 r))⟩ := by unfold nextV; rw [hpv, if_neg (by omega), hkv, Int.toNat_natCast, hbd]
    have e2 : nextR r = memsR n (bodyR (v / 16777216) (body0 r)) := by unfold nextR; rw [hpv, if_neg (by omega), hkv, Int.toNat_natCast]
    unfold PostX
    rw [e1, e2]
    have HBD := Lib.hid hbd
    rw [hn] at hand
    clear hpv hkv e1 e2 hv' hbd hn hbig
    obtain ⟨i0, hi, hz0, hz1, hz2⟩ := info_parts infoM
    have HI := Lib.hid (And.intro hi (And.intro hz0 (And.intro hz1 hz2))); clear hi hz0 hz1 hz2
    go_enter Try.func23, Try.ntmps23
    go_upto_region 8 with (first
      | (go_at_call 36; refine CN.out.mono ?_; rintro e w1 ⟨rfl, hm, hk⟩; have HM := Lib.hid hm; have HK := Lib.hid (K0.out.then_ hk); have HR := Lib.hid (R0.out.keeps hk (fun e => by have := HG.out; omega)); have hlt : w.heap.size < w1.heap.size := HR.out.lt; clear hm hk)
      | (go_at_call 37; refine (number_any (g := g) (r := nameR r) ⟨HM.out.blk.alloc _, HM.out.ts, HM.out.ns⟩).mono ?_; rw [HV.out]; rintro e w2 ⟨rfl, hm, hk⟩; have HY : Hid (NY w w2 g w.heap.size w1.heap.size (body0 r) 0 (nameV r) ⟨0, 0, 0⟩ (.slice none 0 0)) := ⟨hm, TB.keepsR (g := g) (Blk.new _ _ _) hk (by have := HG.out; omega), (HR.out.alloc _).keeps hk (fun e => by have := HG.out; omega), (HK.out.alloc _).then_ hk, Nat.le_refl _, by omega, by omega, HG.out⟩; have c0 : w2.cell? ⟨w1.heap.size, 0, none⟩ = some (.int .i64 0) := HY.out.tb.cell 0; have f0 : w2.frozen? ⟨w1.heap.size, 0, none⟩ = false := HY.out.tb.frozen 0; clear hm hk))
    have HY3 := Lib.hid (HY.out.kind_ (v / 16777216))
    clear HY HM HK HR CN K0 R0 c0 f0
    generalize World.setCell _ _ _ = w3 at HY3 ⊢
    generalize w1.heap.size = T at *
    generalize hBe : w.heap.size = B at HY3 ⊢
    have HBe := Lib.hid hBe
    clear hBe hlt hgl
    clear hand hnv
    go_wp2_with (go_at_call 38; refine (body_any HY3.out.rm (by have := HY3.out.ht; have := HY3.out.hg; omega) _ _ _ HY3.out.tb).mono ?_; rintro e w4 ⟨rfl, hm, ht, hk⟩; rw [HBD.out] at ht; have HY4 := Lib.hid (HY3.out.body hm ht hk); clear hm ht hk)
    have HL4 : Hid (LoopX w w4 g B T (bodyR (v / 16777216) (body0 r)) n (v / 16777216) (nameV r) bd 0 (bodyR (v / 16777216) (body0 r)) [] (.slice none 0 0)) := ⟨HY4.out, World.ownsRow_nil _ _ _ _, rfl, rfl, rfl⟩
    go_loopw [25] (fun i wr => ∃ (j : Nat) (rk : RS) (ms : List Mem) (mv : Value), j ≤ n ∧ i = .int .i64 j ∧ LoopX w wr g B T (bodyR (v / 16777216) (body0 r)) n (v / 16777216) (nameV r) bd j rk ms mv) (fun i _ => n - (intOf i).toNat)
    case atStart => exact ⟨0, _, [], _, by omega, rfl, HL4.out⟩
    case round =>
      clear HL4 HY4 HY3
      obtain ⟨j, rk, ms, mv, hj, rfl, hL⟩ := hrel
      have HL := Lib.hid hL
      clear hL
      have ct5 : wr.cell? ⟨T, 5, none⟩ = some mv := HL.out.1.tb.cell 5
      by_cases hjn : j < n
      · have g1 : decide (j < n) = true := by simpa using hjn
        have HN := Lib.hid (rname_any (HL.out.1.drew).rm)
        have H0 := Lib.hid HL.out.1.drew
        have O0 := Lib.hid (show wr.drew.ownsRow w.heap.size 53 3 mv j (memC ms) from HL.out.2.1)
        have hbm : ∀ b, (fun x => x = g) b → b < w.heap.size := fun b hb => by have := HG.out; simp only at hb; omega
        have HBM := Lib.hid hbm
        clear hbm
        go_wp2_with fail
        go_region_law (first
          | (go_simp; go_at_call 36; refine HN.out.mono ?_; rintro e w1 ⟨rfl, hm, hk⟩; have H1 := Lib.hid (H0.out.call hm hk); have O1 := Lib.hid (ownsRow_keeps O0.out hk HBM.out); have d1 : w1.cell? ⟨T, 5, none⟩ = some mv := H1.out.tb.cell 5; clear hm hk)
          | (go_simp; go_at_call 37; first
            | (have tk := tok2; refine (number_any H2.out.rm).mono ?_; rintro e w3 ⟨rfl, hm, hk⟩; have H3 := Lib.hid (H2.out.call hm hk); have O3 := Lib.hid (ownsRow_keeps O2.out hk HBM.out); have d3 : w3.cell? ⟨T, 5, none⟩ = some mv := H3.out.tb.cell 5; have d4 : (w3.alloc (.cells #[.string (nameV rk), .int .i64 (numV (nameR rk)), .int .i64 (numV (numR (nameR rk)))] 53)).cell? ⟨T, 5, none⟩ = some mv := (H3.out.alloc _).tb.cell 5; clear hm hk)
            | (refine (number_any H1.out.rm).mono ?_; rintro e w2 ⟨rfl, hm, hk⟩; have H2 := Lib.hid (H1.out.call hm hk); have O2 := Lib.hid (ownsRow_keeps O1.out hk HBM.out); have d2 : w2.cell? ⟨T, 5, none⟩ = some mv := H2.out.tb.cell 5; have tok2 := True.intro; clear hm hk))
          | (refine step_append_lies _ (by rfl) (.tmp 28) (.tmp 36) 34 (by rfl) w.heap.size 53 i0 _ 3 32 Try.underlying34 HI.out.1 HI.out.2.1 HI.out.2.2.1 HI.out.2.2.2 rfl (by decide) mv j (memC ms) (by rfl) (O3.out.alloc _) ⟨w3.heap.size, 0, none⟩ 1 1 (memCells (memV rk)) (by rfl) rfl (new_cells w3 #[.string (nameV rk), .int .i64 (numV (nameR rk)), .int .i64 (numV (numR (nameR rk)))] 53) (memCells_one _) (by omega) (by unfold maxLen; omega) (by omega) (by have := H3.out.keeps.size; simp; omega) _ rfl ?_; intro gx cap w5 hown5 hgrow5 hat5 hlt5; have H5 := Lib.hid ((H3.out.alloc (.cells #[.string (nameV rk), .int .i64 (numV (nameR rk)), .int .i64 (numV (numR (nameR rk)))] 53)).grown hgrow5 (row_tag (O3.out.alloc _))); have O5 := Lib.hid hown5; have d5 : w5.cell? ⟨T, 5, none⟩ = some mv := H5.out.tb.cell 5; have f5 : w5.frozen? ⟨T, 5, none⟩ = false := H5.out.tb.frozen 5; clear hown5 hgrow5 hat5 hlt5))
        all_goals go_wp2_with fail
        all_goals go_roundw
        all_goals first
          | (simp [intOf]; omega)
          | exact ⟨j + 1, _, ms ++ [memV rk], _, by omega, by go_num, loop_step HL.out hjn (H5.out.mems_ _) (own_mems O5.out H5.out.ht H5.out.tb 5 _)⟩
      · have : j = n := by omega
        subst this
        obtain ⟨A, c, hmv, _⟩ := own_form_any HL.out.2.1
        subst hmv
        have g1 : decide (j < j) = false := by simp
        have ct0 : wr.cell? ⟨T, 0, none⟩ = some (.int .i64 (v / 16777216)) := HL.out.1.tb.cell 0
        have ct1 : wr.cell? ⟨T, 1, none⟩ = some (.string (nameV r)) := HL.out.1.tb.cell 1
        have ct2 : wr.cell? ⟨T, 2, none⟩ = some (.int .i64 bd.size) := HL.out.1.tb.cell 2
        have ct3 : wr.cell? ⟨T, 3, none⟩ = some (.int .i64 bd.ty) := HL.out.1.tb.cell 3
        have ct4 : wr.cell? ⟨T, 4, none⟩ = some (.int .i64 bd.count) := HL.out.1.tb.cell 4
        have ct5 : wr.cell? ⟨T, 5, none⟩ = some (.slice A j c) := HL.out.1.tb.cell 5
        have cb0 : wr.cell? ⟨B, 0, none⟩ = some (.int .i64 0) := HL.out.1.res.cell 0
        have fb0 : wr.frozen? ⟨B, 0, none⟩ = false := HL.out.1.res.frozen 0
        have cb1 : wr.cell? ⟨B, 1, none⟩ = some (.string ⟨#[]⟩) := HL.out.1.res.cell 1
        have fb1 : wr.frozen? ⟨B, 1, none⟩ = false := HL.out.1.res.frozen 1
        have cb2 : wr.cell? ⟨B, 2, none⟩ = some (.int .i64 0) := HL.out.1.res.cell 2
        have fb2 : wr.frozen? ⟨B, 2, none⟩ = false := HL.out.1.res.frozen 2
        have cb3 : wr.cell? ⟨B, 3, none⟩ = some (.int .i64 0) := HL.out.1.res.cell 3
        have fb3 : wr.frozen? ⟨B, 3, none⟩ = false := HL.out.1.res.frozen 3
        have cb4 : wr.cell? ⟨B, 4, none⟩ = some (.int .i64 0) := HL.out.1.res.cell 4
        have fb4 : wr.frozen? ⟨B, 4, none⟩ = false := HL.out.1.res.frozen 4
        have cb5 : wr.cell? ⟨B, 5, none⟩ = some (.slice none 0 0) := HL.out.1.res.cell 5
        have fb5 : wr.frozen? ⟨B, 5, none⟩ = false := HL.out.1.res.frozen 5
        go_wp2_with fail
        obtain ⟨s1, s2, s3, s4⟩ := HL.out.1.six_ (.int .i64 (v / 16777216)) (.string (nameV r)) (.int .i64 bd.size) (.int .i64 bd.ty) (.int .i64 bd.count) (.slice A j c)
        unfold six at s1 s2 s3 s4
        have own0 := s4 _ _ _ HL.out.2.1
        have e1 : memsV j (bodyR (v / 16777216) (body0 r)) = ms := by have := HL.out.2.2.2.1; rw [Nat.sub_self] at this; simpa [memsV] using this
        have e2 : memsR j (bodyR (v / 16777216) (body0 r)) = rk := by have := HL.out.2.2.2.2; rw [Nat.sub_self] at this; simpa [memsR] using this
        refine bodyPost_ret (results_cell_row rfl _ _ B 36 _ (0, 0) _ rfl s1 Try.underlying36 rfl (by kernel_rfl)) rfl ?_
        exact ⟨.slice A j c, rfl, by rw [e2]; exact s2, s3, by simp only [e1, HL.out.2.2.1]; exact own0⟩
end Go.Proofs.Ytmfdojmecpdikaa
