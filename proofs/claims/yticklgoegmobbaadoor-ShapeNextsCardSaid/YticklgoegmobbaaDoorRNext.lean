/-
  The reference's Next. The reference's Next, whole. The reference's Reaches.
-/
import Derived.Test.YticklgoegmobbaaDoorRCheck
import Derived.Test.YticklgoegmobbaaDoorSReaches2
namespace Go.Proofs.YticklgoegmobbaaDoor
open Go Go.RowKit
set_option linter.unusedVariables false
set_option linter.unusedSimpArgs false
set_option maxRecDepth 100000
set_option maxHeartbeats 2000000 in
theorem next05_any (A : Option Addr) (n c i : Nat) (X : Nat → Slot) (hn : n ≤ 4096) (hi : i < n) (hf : -32768 ≤ (X i).f ∧ (X i).f ≤ 32767) (w : World) (h : Slots w A n X) :
    Calls Tryd.prog 24 #[.slice A n c, .int .i64 i] w fun e w' => (∃ v, e = .returned v ∧ Fresh w.heap.size w' v (nxt (X i) i)) ∧ Below w.heap.size w w' := by
  obtain ⟨b, off, rfl, hlt, hc⟩ := h i hi
  obtain ⟨c0, c1, c2, c3, c4⟩ := hc
  have i1 : (0 : Int) ≤ (i : Int) := by omega
  have i2 : (i : Int) < (n : Int) := by omega
  have e1 : IntKind.i64.wrap ((i : Int) + 1) = (i : Int) + 1 := by rw [IntKind.wrap_i64]; omega
  have e2 : IntKind.i64.wrap ((i : Int) + 2) = (i : Int) + 2 := by rw [IntKind.wrap_i64]; omega
  have e3 : IntKind.i64.wrap ((i : Int) + 1 + (X i).f) = (i : Int) + 1 + (X i).f := by rw [IntKind.wrap_i64]; omega
  have CJ : Hid (∀ w', Calls Tryd.prog 20 #[.agg #[.int .i64 (X i).o, .int .i64 (X i).d, .int .i64 (X i).s, .int .i64 (X i).f, .int .i64 (X i).m]] w' fun e w'' => e = .returned (.bool (aimS (X i))) ∧ Below w'.heap.size w' w'') := fun w' => jump05_any _ _ _ _ _ w'
  clear hlt h hi hf
  generalize X i = x at *
  have n5 := Cells5.new w x 39
  have N5 := Lib.hid n5
  clear n5
  have LT := Lib.hid (lt_box w (.cells #[.int .i64 x.o, .int .i64 x.d, .int .i64 x.s, .int .i64 x.f, .int .i64 x.m] 39))
  have B0 : Hid (Below w.heap.size w (w.alloc (.cells #[.int .i64 x.o, .int .i64 x.d, .int .i64 x.s, .int .i64 x.f, .int .i64 x.m] 39))) := (Below.refl _ w).alloc (Nat.le_refl _) _
  cases h1 : (x.o == 149)
  · cases h2 : (x.o == 5)
    · cases h3 : aimS x
      · cases h4 : (x.o == 24)
        · have hL : Hid (nxt x i = [(i : Int) + 1]) := by unfold nxt slN wideS; simp [h1, h2, h3, h4, Hid]
          rw [h3] at CJ
          go_enter Tryd.func24, Tryd.ntmps24
          go_wp2_with (go_at_call 20; refine (CJ.out _).mono ?_; rintro e w1 ⟨rfl, hb⟩; obtain ⟨d0, d1, d2, d3, d4⟩ := N5.out.below hb LT.out; have E2 : Hid (Below w.heap.size w w1) := B0.out.trans (hb.mono B0.out.size); clear hb)
          go_ret
          rw [hL.out]
          exact ⟨⟨_, rfl, .inr ⟨w1.heap.size, E2.out.size, rfl, Blk.new w1 _ _⟩⟩, E2.out.alloc E2.out.size _⟩
        · have hL : Hid (nxt x i = [(i : Int) + 2]) := by unfold nxt slN wideS; simp [h1, h2, h3, h4, Hid]
          rw [h3] at CJ
          go_enter Tryd.func24, Tryd.ntmps24
          go_wp2_with (go_at_call 20; refine (CJ.out _).mono ?_; rintro e w1 ⟨rfl, hb⟩; obtain ⟨d0, d1, d2, d3, d4⟩ := N5.out.below hb LT.out; have E2 : Hid (Below w.heap.size w w1) := B0.out.trans (hb.mono B0.out.size); clear hb)
          go_ret
          rw [hL.out]
          exact ⟨⟨_, rfl, .inr ⟨w1.heap.size, E2.out.size, rfl, Blk.new w1 _ _⟩⟩, E2.out.alloc E2.out.size _⟩
      · have hL : Hid (nxt x i = [(i : Int) + 1, (i : Int) + 1 + x.f]) := by unfold nxt; simp [h1, h2, h3, Hid, tgt]
        rw [h3] at CJ
        go_enter Tryd.func24, Tryd.ntmps24
        go_wp2_with (go_at_call 20; refine (CJ.out _).mono ?_; rintro e w1 ⟨rfl, hb⟩; obtain ⟨d0, d1, d2, d3, d4⟩ := N5.out.below hb LT.out; have E2 : Hid (Below w.heap.size w w1) := B0.out.trans (hb.mono B0.out.size); clear hb)
        go_ret
        rw [hL.out]
        exact ⟨⟨_, rfl, .inr ⟨w1.heap.size, E2.out.size, rfl, Blk.new w1 _ _⟩⟩, E2.out.alloc E2.out.size _⟩
    · have hL : Hid (nxt x i = [(i : Int) + 1 + x.f]) := by unfold nxt; simp [h1, h2, Hid, tgt]
      go_enter Tryd.func24, Tryd.ntmps24
      go_wp2_with fail
      go_ret
      rw [hL.out]
      exact ⟨⟨_, rfl, .inr ⟨w.heap.size + 1, by omega, rfl, (by have := Blk.new (w.alloc (.cells #[.int .i64 x.o, .int .i64 x.d, .int .i64 x.s, .int .i64 x.f, .int .i64 x.m] 39)) 3 (intsA [(i : Int) + 1 + x.f]); rwa [show (w.alloc (.cells #[.int .i64 x.o, .int .i64 x.d, .int .i64 x.s, .int .i64 x.f, .int .i64 x.m] 39)).heap.size = w.heap.size + 1 by simp] at this)⟩⟩, B0.out.alloc B0.out.size _⟩
  · have hL : Hid (nxt x i = []) := by unfold nxt; simp [h1, Hid]
    go_enter Tryd.func24, Tryd.ntmps24
    go_wp2_with fail
    go_ret
    rw [hL.out]
    exact ⟨⟨_, rfl, .inl ⟨rfl, rfl⟩⟩, B0.out⟩
end Go.Proofs.YticklgoegmobbaaDoor
namespace Go.Proofs.YticklgoegmobbaaDoor
open Go Go.RowKit
set_option linter.unusedVariables false
set_option linter.unusedSimpArgs false
set_option maxRecDepth 100000
theorem Fresh.up {B B' : Nat} {w : World} {v : Value} {L : List Int} (h : Fresh B w v L) (hb : B' ≤ B) : Fresh B' w v L := by
  rcases h with h1 | ⟨g, h1, h2⟩
  · exact .inl h1
  · exact .inr ⟨g, Nat.le_trans hb h1, h2⟩
set_option maxHeartbeats 2000000 in
theorem Next05_any (A : Option Addr) (n c : Nat) (X : Nat → Slot) (t : Int) (w : World) (h : Slots w A n X) :
    Calls Tryd.prog 16 #[.slice A n c, .int .i64 t] w fun e w' => (∃ v, e = .returned v ∧ Fresh w.heap.size w' v (nextAns X n t)) ∧ Below w.heap.size w w' := by
  cases hk : chk X n with
  | some k =>
    have CC := Lib.hid (check05_any A n c X w h)
    rw [chk_bad hk] at CC
    have hN : Hid (nextAns X n t = []) := by unfold nextAns; rw [if_neg (by rintro ⟨h1, _⟩; rw [hk] at h1; cases h1)]; exact rfl
    clear h hk
    go_enter Tryd.func16, Tryd.ntmps16
    go_wp2_with (go_at_call 8; refine CC.out.mono ?_; rintro e w1 ⟨rfl, hb⟩; have HB := Lib.hid hb; clear hb)
    go_ret
    rw [hN.out]
    exact ⟨⟨_, rfl, .inl ⟨rfl, rfl⟩⟩, HB.out⟩
  | none =>
    have CC := Lib.hid (check05_any A n c X w h)
    rw [chk_good hk] at CC
    have hg := chk_none.1 hk
    have hle := hg.le
    have hsn : scanBad X n = none := find_range_none fun j hj => by
      cases hf : fst X j
      · rfl
      · simp [hg.whole j hj hf]
    have CF := Lib.hid (fun w' h => starts_good A n c X hle w' h hsn)
    have H := Lib.hid h
    by_cases h1 : t < 0
    · have d1 : decide (t < 0) = true := by simpa using h1
      have hN : Hid (nextAns X n t = []) := by unfold nextAns; rw [if_neg (by rintro ⟨_, h2⟩; have := (holds_iff.1 h2).1; omega)]; exact rfl
      clear h hk hg hle hsn h1
      go_enter Tryd.func16, Tryd.ntmps16
      go_wp2_with (go_at_call 8; refine CC.out.mono ?_; rintro e w1 ⟨rfl, hb⟩; have HB := Lib.hid hb; clear hb)
      go_ret
      rw [hN.out]
      exact ⟨⟨_, rfl, .inl ⟨rfl, rfl⟩⟩, HB.out⟩
    · have d1 : decide (t < 0) = false := by simpa using h1
      obtain ⟨k, rfl⟩ := Int.eq_ofNat_of_zero_le (show 0 ≤ t by omega)
      by_cases h2 : n ≤ k
      · have d2 : decide (n ≤ k) = true := by simpa using h2
        have d3 : decide ((n : Int) ≤ (k : Int)) = true := by simpa using h2
        have hN : Hid (nextAns X n (k : Int) = []) := by unfold nextAns; rw [if_neg (by rintro ⟨_, h3⟩; have := (holds_iff.1 h3).2.1; omega)]; exact rfl
        clear h hk hg hle hsn h1 h2
        go_enter Tryd.func16, Tryd.ntmps16
        go_wp2_with (go_at_call 8; refine CC.out.mono ?_; rintro e w1 ⟨rfl, hb⟩; have HB := Lib.hid hb; clear hb)
        go_ret
        rw [hN.out]
        exact ⟨⟨_, rfl, .inl ⟨rfl, rfl⟩⟩, HB.out⟩
      · have d2 : decide (n ≤ k) = false := by simpa using h2
        have d3 : decide ((n : Int) ≤ (k : Int)) = false := by simpa using h2
        have hkn : k < n := by omega
        have i1 : (0 : Int) ≤ (k : Int) := by omega
        have i2 : (k : Int) < (n : Int) := by omega
        cases hf : fst X k
        · have hN : Hid (nextAns X n (k : Int) = []) := by unfold nextAns; rw [if_neg (by rintro ⟨_, h3⟩; have h4 := (holds_iff.1 h3).2.2; rw [show ((k : Int)).toNat = k from rfl, hf] at h4; cases h4)]; exact rfl
          clear h hk hg hsn h1 h2
          go_enter Tryd.func16, Tryd.ntmps16
          go_wp2_with (first
            | (go_at_call 8; refine CC.out.mono ?_; rintro e w1 ⟨rfl, hb⟩; have HB := Lib.hid hb; clear hb)
            | (go_at_call 19; refine (CF.out w1 (H.out.below HB.out)).mono ?_; rintro e w2 ⟨⟨g, _, rfl, hr⟩, hb⟩; have HB2 : Hid (Below w.heap.size w w2) := HB.out.trans (hb.mono HB.out.size); have cr : w2.cell? ⟨g, k, none⟩ = some (.bool false) := by { rw [hr.cell k, rowB_get n _ k hkn, hf] }; clear hb hr))
          go_ret
          rw [hN.out]
          exact ⟨⟨_, rfl, .inl ⟨rfl, rfl⟩⟩, HB2.out⟩
        · have hN : Hid (nextAns X n (k : Int) = nxt (X k) k) := by unfold nextAns; rw [if_pos ⟨hk, holds_iff.2 ⟨by omega, by omega, hf⟩⟩]; exact rfl
          have CN := Lib.hid (fun w' h => next05_any A n c k X hle hkn (whole_f (hg.whole k hkn hf)) w' h)
          clear h hk hg hsn h1 h2
          go_enter Tryd.func16, Tryd.ntmps16
          go_wp2_with (first
            | (go_at_call 8; refine CC.out.mono ?_; rintro e w1 ⟨rfl, hb⟩; have HB := Lib.hid hb; clear hb)
            | (go_at_call 19; refine (CF.out w1 (H.out.below HB.out)).mono ?_; rintro e w2 ⟨⟨g, _, rfl, hr⟩, hb⟩; have HB2 : Hid (Below w.heap.size w w2) := HB.out.trans (hb.mono HB.out.size); have cr : w2.cell? ⟨g, k, none⟩ = some (.bool true) := by { rw [hr.cell k, rowB_get n _ k hkn, hf] }; clear hb hr)
            | (go_at_call 24; refine (CN.out w2 (H.out.below HB2.out)).mono ?_; rintro e w3 ⟨⟨v, rfl, hv⟩, hb⟩; have HV := Lib.hid hv; have HB3 : Hid (Below w.heap.size w w3) := HB2.out.trans (hb.mono HB2.out.size); clear hb hv))
          go_ret
          rw [hN.out]
          exact ⟨⟨_, rfl, HV.out.up HB2.out.size⟩, HB3.out⟩
end Go.Proofs.YticklgoegmobbaaDoor
namespace Go.Proofs.YticklgoegmobbaaDoor
open Go Go.RowKit
set_option linter.unusedVariables false
set_option linter.unusedSimpArgs false
set_option maxRecDepth 100000
theorem mark_one {X : Nat → Slot} {R : Nat → Bool} {a : Nat} (h : wideS (X a) = false) : (fun j => if j = a then true else R j) = mark X R a := by
  funext i
  unfold mark
  by_cases e : i = a
  · subst e; simp
  · simp [e, h]
theorem mark_two {X : Nat → Slot} {R : Nat → Bool} {a : Nat} (h : wideS (X a) = true) : (fun j => if j = a + 1 then true else if j = a then true else R j) = mark X R a := by
  funext i
  unfold mark
  by_cases e : i = a
  · subst e; simp
  · by_cases e1 : i = a + 1
    · subst e1; simp [h]
    · simp [e, e1]
set_option maxHeartbeats 1000000 in
theorem reaches05_bad (A : Option Addr) (n c k : Nat) (X : Nat → Slot) (hn : n ≤ 140737488355328) (w : World) (h : Slots w A n X) (hk : chk X n = some k) :
    Calls Tryd.prog 14 #[.slice A n c] w fun e w' => ReachAns w.heap.size X n e w' ∧ Below w.heap.size w w' := by
  have hmk := make_bools n hn w
  have hb0 : Below w.heap.size w (w.alloc (.cells (rowB n fun _ => false) 4)) := (Below.refl _ w).alloc (Nat.le_refl _) _
  have CF := Lib.hid (check05_any A n c X _ (h.below hb0))
  rw [chk_bad hk] at CF
  have B0 := Lib.hid hb0
  have HK := Lib.hid hk
  have R0 := Lib.hid (Blk.new w 4 (rowB n fun _ => false))
  clear hb0 h hk
  go_enter Tryd.func14, Tryd.ntmps14
  go_wp2_with (go_at_call 8; refine CF.out.mono ?_; rintro e w1 ⟨rfl, hb⟩; have HB := Lib.hid hb; clear hb)
  go_ret
  exact ⟨⟨w.heap.size, fun _ => false, Nat.le_refl _, rfl, R0.out.below HB.out, fun h => absurd (HK.out.symm.trans h) (by simp), fun _ _ _ => rfl⟩, B0.out.trans (HB.out.mono B0.out.size)⟩
set_option maxHeartbeats 2000000 in
theorem reaches05_good (A : Option Addr) (n c : Nat) (X : Nat → Slot) (w : World) (h : Slots w A n X) (hg : Good X n) :
    Calls Tryd.prog 14 #[.slice A n c] w fun e w' => ReachAns w.heap.size X n e w' ∧ Below w.heap.size w w' := by
  have h4 := hg.le
  have hk := chk_none.2 hg
  have hmk := make_bools n (by omega) w
  have hb0 : Below w.heap.size w (w.alloc (.cells (rowB n fun _ => false) 4)) := (Below.refl _ w).alloc (Nat.le_refl _) _
  have CF := Lib.hid (check05_any A n c X _ (h.below hb0))
  rw [chk_good hk] at CF
  have B0 := Lib.hid hb0
  have H := Lib.hid h
  have HG := Lib.hid hg
  have R0 := Lib.hid (Blk.new w 4 (rowB n fun _ => false))
  clear hb0 h hk hg
  go_enter Tryd.func14, Tryd.ntmps14
  go_wp2_with (go_at_call 8; refine CF.out.mono ?_; rintro e w1 ⟨rfl, hb⟩; have HB1 : Hid (Below w.heap.size w w1) := B0.out.trans (hb.mono B0.out.size); have R1 : Hid (Blk w1 w.heap.size 4 (rowB n fun _ => false)) := R0.out.below hb; clear hb)
  clear hmk
  go_loopw [6] (fun v wr => ∃ R T, Srch X n R T ∧ T.length + 2 * left R n ≤ 2 * n + 1 ∧ Below w.heap.size w wr ∧ Blk wr w.heap.size 4 (rowB n R) ∧ wr.ownsRow (w.heap.size + 1) 3 1 v T.length (natsV T)) (fun v wr => 2 * left (markW wr w.heap.size) n + lenV v)
  case atStart =>
    refine ⟨fun _ => false, [0], Srch.init X n, ?_, HB1.out.alloc HB1.out.size _, R1.out.alloc _, by simp [natsV], .inr ⟨w1.heap.size, 1, _, rfl, ?_, heap_alloc_new _ _, by simp, by unfold maxLen; omega, by simp, by simp [natsV]⟩⟩
    · have : left (fun _ => false) n = n := by unfold left; simp
      rw [this]; simp; omega
    · have := R1.out.lt
      omega
  case round =>
    clear HB1 R1
    obtain ⟨R, T, hs, hm, hb, hr, ho⟩ := hrel
    have HS := Lib.hid hs
    have HM := Lib.hid hm
    have HB := Lib.hid hb
    have HR := Lib.hid hr
    clear hs hm hb hr
    rcases List.eq_nil_or_concat T with rfl | ⟨T', a, rfl⟩
    · rcases ho.2 with ⟨rfl, _⟩ | ⟨g2, cap, cur, rfl, _⟩
      all_goals
        clear ho
        go_wp2_with fail
        go_ret
        exact ⟨⟨w.heap.size, R, Nat.le_refl _, rfl, HR.out, fun _ i _ => HS.out.done HG.out i, fun h => absurd (chk_none.2 HG.out) h⟩, HB.out⟩
    · have hlen : (T' ++ [a]).length = T'.length + 1 := by simp
      rw [show T'.concat a = T' ++ [a] by simp] at HS HM ho
      rw [hlen] at HM ho
      rw [show natsV (T' ++ [a]) = natsV T' ++ [Value.int .i64 (a : Int)] by simp [natsV]] at ho
      obtain ⟨g2, cap, rfl, hg2, hcap, hcell, hpop⟩ := own_cut ho (by simp [natsV])
      obtain ⟨hlt, hfa⟩ := HG.out.reach (HS.out.wait a (by simp))
      have HP := Lib.hid hpop
      have HG2 := Lib.hid hg2
      obtain ⟨q, hq⟩ : ∃ q, T'.length = q := ⟨_, rfl⟩
      rw [hq] at HM HP hcap hcell ⊢
      have HQ := Lib.hid hq
      have hqle : q ≤ 8193 := by have := HM.out; omega
      clear hpop ho hg2 hlen hq
      have cr : wr.cell? ⟨w.heap.size, a, none⟩ = some (.bool (R a)) := by rw [HR.out.cell a]; exact rowB_get n R a hlt
      have i1 : (0 : Int) ≤ (a : Int) := by omega
      have i2 : (a : Int) < (n : Int) := by omega
      have i3 : (q : Int) + 1 ≤ (cap : Int) := by omega
      have i4 : (q : Int) ≤ (cap : Int) := by omega
      have HML : Hid (left (markW wr w.heap.size) n = left R n) := left_congr fun i hi => markW_row HR.out hi
      cases hRa : R a
      · rw [hRa] at cr
        have HRA := Lib.hid hRa
        clear hRa
        have hwh := HG.out.whole a hlt hfa
        have hff := whole_f hwh
        obtain ⟨b, off, hA, hblt, hc⟩ := (H.out.below HB.out) a hlt
        subst hA
        have HC := Lib.hid hc
        have CN := Lib.hid (fun w' h => next05_any (some ⟨b, off, none⟩) n c a X h4 hlt hff w' h)
        have HFA := Lib.hid hfa
        have fr : wr.frozen? ⟨w.heap.size, a, none⟩ = false := HR.out.frozen _
        have HB2 : Hid (Below w.heap.size w (wr.setCell ⟨w.heap.size, a, none⟩ (.bool true))) := HB.out.setCell (Nat.le_refl _) _
        have HR2 : Hid (Blk (wr.setCell ⟨w.heap.size, a, none⟩ (.bool true)) w.heap.size 4 (rowB n (fun j => if j = a then true else R j))) := by have := HR.out.set_ a (.bool true); rw [rowB_set] at this; exact this
        have HP2 : Hid ((wr.setCell ⟨w.heap.size, a, none⟩ (.bool true)).ownsRow (w.heap.size + 1) 3 1 (.slice (some ⟨g2, 0, none⟩) q cap) q (natsV T')) := ownsRow_blocks HP.out (fun k hk _ => Below.heap_setCell _ _ _ k (by simp; omega))
        obtain ⟨c0, c1, c2, c3, c4⟩ := ((H.out.below HB2.out).at_ hlt).2
        clear hc hblt hff
        cases hw : wideS (X a)
        · have h24 : ((X a).o == 24) = false := hw
          have hr3 := HR2.out
          rw [mark_one hw] at hr3
          have HR3 := Lib.hid hr3
          clear hr3 hw hwh hfa
          go_wp2_with (first
            | (go_at_call 24; refine (CN.out _ (H.out.below HB2.out)).mono ?_; rintro e w4 ⟨⟨v4, rfl, hf⟩, hb⟩; have HF := Lib.hid hf; have HB4 : Hid (Below w.heap.size w w4) := HB2.out.trans (hb.mono HB2.out.size); have HR4 := Lib.hid (HR3.out.below hb); have HP4 : Hid (w4.ownsRow (w.heap.size + 1) 3 1 (.slice (some ⟨g2, 0, none⟩) q cap) q (natsV T')) := ownsRow_blocks HP2.out (fun k _ hk => hb.block k hk); clear hb hf)
            | (at_builtin; obtain ⟨v5, w5, hr5, ho5, hg5⟩ := append_ints HP4.out HF.out (by have := nxt_length (X a) a; omega) (by have := HR4.out.lt; omega); refine wpList_append_run rfl _ _ 29 rfl (.slice (some ⟨g2, 0, none⟩) q cap) v4 v5 w5 rfl rfl 29 rfl hr5 ?_; have HO5 := Lib.hid ho5; have HG5 := Lib.hid hg5; clear hr5 ho5 hg5))
          have hml := mark_left (X := X) HRA.out hlt
          have hnl := nxt_length (X a) a
          have HR5 : Hid (Blk w5 w.heap.size 4 (rowB n (mark X R a))) := (HG5.out.block _ HR4.out.lt (fun e => by have := HG2.out; simp [Value.ownBlock] at e; omega)).trans HR4.out
          have hpos : ∀ t, t ∈ nxt (X a) a → 0 ≤ t := fun t ht => (holds_iff.1 (HG.out.next hlt HFA.out ht)).1
          have HO6 : Hid (w5.ownsRow (w.heap.size + 1) 3 1 v5 (T' ++ (nxt (X a) a).map Int.toNat).length (natsV (T' ++ (nxt (X a) a).map Int.toNat))) := by
            have h := HO5.out
            rw [nats_ints hpos] at h
            have e1 : (T' ++ (nxt (X a) a).map Int.toNat).length = q + (nxt (X a) a).length := by simp [HQ.out]
            have e2 : natsV (T' ++ (nxt (X a) a).map Int.toNat) = natsV T' ++ natsV ((nxt (X a) a).map Int.toNat) := by simp [natsV]
            rw [e1, e2]
            exact h
          have hlv := lenV_own HO5.out
          have hmw : left (markW w5 w.heap.size) n = left (mark X R a) n := left_congr fun i hi => markW_row HR5.out hi
          go_roundw
          case rel =>
            refine ⟨mark X R a, T' ++ (nxt (X a) a).map Int.toNat, HS.out.take HG.out HRA.out, ?_, ?_, HR5.out, HO6.out⟩
            · have := HM.out
              have := HQ.out
              simp only [List.length_append, List.length_map]
              omega
            · exact HB4.out.grown HG5.out HB4.out.size (fun k e => by have := HG2.out; simp [Value.ownBlock] at e; omega)
          case measure =>
            have h1 := HML.out
            simp only [lenV] at hlv ⊢
            omega
        · have h24 : ((X a).o == 24) = true := hw
          have hwd := HG.out.wide hlt hfa hw
          have e1 : IntKind.i64.wrap ((a : Int) + 1) = (a : Int) + 1 := by rw [IntKind.wrap_i64]; omega
          have j1 : (0 : Int) ≤ (a : Int) + 1 := by omega
          have j2 : (a : Int) + 1 < (n : Int) := by omega
          have cr2 : (wr.setCell ⟨w.heap.size, a, none⟩ (.bool true)).cell? ⟨w.heap.size, a + 1, none⟩ = some (.bool (if a + 1 = a then true else R (a + 1))) := by rw [HR2.out.cell (a + 1)]; exact rowB_get _ _ _ hwd
          have fr2 : (wr.setCell ⟨w.heap.size, a, none⟩ (.bool true)).frozen? ⟨w.heap.size, a + 1, none⟩ = false := HR2.out.frozen _
          have HB3 : Hid (Below w.heap.size w ((wr.setCell ⟨w.heap.size, a, none⟩ (.bool true)).setCell ⟨w.heap.size, a + 1, none⟩ (.bool true))) := HB2.out.setCell (Nat.le_refl _) _
          have hr3 : Blk ((wr.setCell ⟨w.heap.size, a, none⟩ (.bool true)).setCell ⟨w.heap.size, a + 1, none⟩ (.bool true)) w.heap.size 4 (rowB n (fun j => if j = a + 1 then true else if j = a then true else R j)) := by have := HR2.out.set_ (a + 1) (.bool true); rw [rowB_set] at this; exact this
          rw [mark_two hw] at hr3
          have HR3 := Lib.hid hr3
          have HP3 : Hid (((wr.setCell ⟨w.heap.size, a, none⟩ (.bool true)).setCell ⟨w.heap.size, a + 1, none⟩ (.bool true)).ownsRow (w.heap.size + 1) 3 1 (.slice (some ⟨g2, 0, none⟩) q cap) q (natsV T')) := ownsRow_blocks HP2.out (fun k hk _ => Below.heap_setCell _ _ _ k (by simp; omega))
          clear hr3 hw hwh hfa hwd
          go_wp2_with (first
            | (go_at_call 24; refine (CN.out _ (H.out.below HB3.out)).mono ?_; rintro e w4 ⟨⟨v4, rfl, hf⟩, hb⟩; have HF := Lib.hid hf; have HB4 : Hid (Below w.heap.size w w4) := HB3.out.trans (hb.mono HB3.out.size); have HR4 := Lib.hid (HR3.out.below hb); have HP4 : Hid (w4.ownsRow (w.heap.size + 1) 3 1 (.slice (some ⟨g2, 0, none⟩) q cap) q (natsV T')) := ownsRow_blocks HP3.out (fun k _ hk => hb.block k hk); clear hb hf)
            | (at_builtin; obtain ⟨v5, w5, hr5, ho5, hg5⟩ := append_ints HP4.out HF.out (by have := nxt_length (X a) a; omega) (by have := HR4.out.lt; omega); refine wpList_append_run rfl _ _ 29 rfl (.slice (some ⟨g2, 0, none⟩) q cap) v4 v5 w5 rfl rfl 29 rfl hr5 ?_; have HO5 := Lib.hid ho5; have HG5 := Lib.hid hg5; clear hr5 ho5 hg5))
          have hml := mark_left (X := X) HRA.out hlt
          have hnl := nxt_length (X a) a
          have HR5 : Hid (Blk w5 w.heap.size 4 (rowB n (mark X R a))) := (HG5.out.block _ HR4.out.lt (fun e => by have := HG2.out; simp [Value.ownBlock] at e; omega)).trans HR4.out
          have hpos : ∀ t, t ∈ nxt (X a) a → 0 ≤ t := fun t ht => (holds_iff.1 (HG.out.next hlt HFA.out ht)).1
          have HO6 : Hid (w5.ownsRow (w.heap.size + 1) 3 1 v5 (T' ++ (nxt (X a) a).map Int.toNat).length (natsV (T' ++ (nxt (X a) a).map Int.toNat))) := by
            have h := HO5.out
            rw [nats_ints hpos] at h
            have e1 : (T' ++ (nxt (X a) a).map Int.toNat).length = q + (nxt (X a) a).length := by simp [HQ.out]
            have e2 : natsV (T' ++ (nxt (X a) a).map Int.toNat) = natsV T' ++ natsV ((nxt (X a) a).map Int.toNat) := by simp [natsV]
            rw [e1, e2]
            exact h
          have hlv := lenV_own HO5.out
          have hmw : left (markW w5 w.heap.size) n = left (mark X R a) n := left_congr fun i hi => markW_row HR5.out hi
          go_roundw
          case rel =>
            refine ⟨mark X R a, T' ++ (nxt (X a) a).map Int.toNat, HS.out.take HG.out HRA.out, ?_, ?_, HR5.out, HO6.out⟩
            · have := HM.out
              have := HQ.out
              simp only [List.length_append, List.length_map]
              omega
            · exact HB4.out.grown HG5.out HB4.out.size (fun k e => by have := HG2.out; simp [Value.ownBlock] at e; omega)
          case measure =>
            have h1 := HML.out
            simp only [lenV] at hlv ⊢
            omega
      · rw [hRa] at cr
        have HRA := Lib.hid hRa
        clear hRa
        go_wp2_with fail
        go_roundw
        case rel =>
          refine ⟨R, T', HS.out.skip HRA.out, by have := HM.out; have := HQ.out; omega, HB.out, HR.out, ?_⟩
          rw [HQ.out]
          exact HP.out
        case measure => simp [lenV]
theorem reaches05_any (A : Option Addr) (n c : Nat) (X : Nat → Slot) (hn : n ≤ 140737488355328) (w : World) (h : Slots w A n X) :
    Calls Tryd.prog 14 #[.slice A n c] w fun e w' => ReachAns w.heap.size X n e w' ∧ Below w.heap.size w w' := by
  cases hk : chk X n with
  | some k => exact reaches05_bad A n c k X hn w h hk
  | none => exact reaches05_good A n c X w h (chk_none.1 hk)
end Go.Proofs.YticklgoegmobbaaDoor
