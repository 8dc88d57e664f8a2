/-
  Reaches of a program.
-/
import Derived.Test.YticklgoegmobbaaDoorSReaches
namespace Go.Proofs.YticklgoegmobbaaDoor
open Go Go.RowKit
set_option linter.unusedVariables false
set_option linter.unusedSimpArgs false
set_option maxRecDepth 100000
theorem Slots.at_ {w : World} {n b off : Nat} {X : Nat → Slot} (h : Slots w (some ⟨b, off, none⟩) n X) {i : Nat} (hi : i < n) : b < w.heap.size ∧ Cells5 w b (off + i * 5) (X i) := by
  obtain ⟨b', off', e, hlt, hc⟩ := h i hi
  injection e with e
  injection e with e1 e2 _
  subst e1 e2
  exact ⟨hlt, hc⟩
set_option maxHeartbeats 2000000 in
theorem reaches_good (A : Option Addr) (n c : Nat) (X : Nat → Slot) (w : World) (h : Slots w A n X) (hS : Sizes w) (hg : Good X n) :
    Calls Tryd.prog 13 #[.slice A n c] w fun e w' => ReachAns w.heap.size X n e w' ∧ Below w.heap.size w w' := by
  have h4 := hg.le
  have hk := chk_none.2 hg
  have hmk := make_bools n (by omega) w
  have hb0 : Below w.heap.size w (w.alloc (.cells (rowB n fun _ => false) 4)) := (Below.refl _ w).alloc (Nat.le_refl _) _
  have CF := Lib.hid (firsts_good A n c X _ (h.below hb0) (hS.below hb0) hk)
  have B0 := Lib.hid hb0
  have H := Lib.hid h
  have HG := Lib.hid hg
  have R0 := Lib.hid (Blk.new w 4 (rowB n fun _ => false))
  clear hb0 h hS hk hg
  go_enter Tryd.func13, Tryd.ntmps13
  go_wp2_with (go_at_call 18; refine CF.out.mono ?_; rintro e w1 ⟨⟨g, _, rfl, _⟩, hb⟩; have HB1 : Hid (Below w.heap.size w w1) := B0.out.trans (hb.mono B0.out.size); have R1 : Hid (Blk w1 w.heap.size 4 (rowB n fun _ => false)) := R0.out.below hb; clear hb)
  clear hmk
  go_loopw [7] (fun v wr => ∃ R T, Srch X n R T ∧ T.length + 2 * left R n ≤ 2 * n + 1 ∧ Below w.heap.size w wr ∧ Blk wr w.heap.size 4 (rowB n R) ∧ wr.ownsRow (w.heap.size + 1) 3 1 v T.length (natsV T)) (fun v wr => 2 * left (markW wr w.heap.size) n + lenV v)
  case atStart =>
    refine ⟨fun _ => false, [0], Srch.init X n, ?_, HB1.out.alloc HB1.out.size _, R1.out.alloc _, by simp [natsV], .inr ⟨w1.heap.size, 1, _, rfl, ?_, heap_alloc_new _ _, by simp, by unfold maxLen; omega, by simp, by simp [natsV]⟩⟩
    · have : left (fun _ => false) n = n := by unfold left; simp
      rw [this]; simp; omega
    · have := R1.out.lt
      omega
  case round =>
    clear HB1 R1
    obtain ⟨R, T, hs, hm, hb, hr, ho⟩ := hrel
    have HS := Lib.hid hs
    have HM := Lib.hid hm
    have HB := Lib.hid hb
    have HR := Lib.hid hr
    clear hs hm hb hr
    rcases List.eq_nil_or_concat T with rfl | ⟨T', a, rfl⟩
    · rcases ho.2 with ⟨rfl, _⟩ | ⟨g2, cap, cur, rfl, _⟩
      all_goals
        clear ho
        go_wp2_with fail
        go_ret
        exact ⟨⟨w.heap.size, R, Nat.le_refl _, rfl, HR.out, fun _ i _ => HS.out.done HG.out i, fun h => absurd (chk_none.2 HG.out) h⟩, HB.out⟩
    · have hlen : (T' ++ [a]).length = T'.length + 1 := by simp
      rw [show T'.concat a = T' ++ [a] by simp] at HS HM ho
      rw [hlen] at HM ho
      rw [show natsV (T' ++ [a]) = natsV T' ++ [Value.int .i64 (a : Int)] by simp [natsV]] at ho
      obtain ⟨g2, cap, rfl, hg2, hcap, hcell, hpop⟩ := own_cut ho (by simp [natsV])
      obtain ⟨hlt, hfa⟩ := HG.out.reach (HS.out.wait a (by simp))
      have HP := Lib.hid hpop
      have HG2 := Lib.hid hg2
      obtain ⟨q, hq⟩ : ∃ q, T'.length = q := ⟨_, rfl⟩
      rw [hq] at HM HP hcap hcell ⊢
      have HQ := Lib.hid hq
      have hqle : q ≤ 8193 := by have := HM.out; omega
      clear hpop ho hg2 hlen hq
      have cr : wr.cell? ⟨w.heap.size, a, none⟩ = some (.bool (R a)) := by rw [HR.out.cell a]; exact rowB_get n R a hlt
      have i1 : (0 : Int) ≤ (a : Int) := by omega
      have i2 : (a : Int) < (n : Int) := by omega
      have i3 : (q : Int) + 1 ≤ (cap : Int) := by omega
      have i4 : (q : Int) ≤ (cap : Int) := by omega
      have HML : Hid (left (markW wr w.heap.size) n = left R n) := left_congr fun i hi => markW_row HR.out hi
      cases hRa : R a
      · rw [hRa] at cr
        have HRA := Lib.hid hRa
        clear hRa
        have hwh := HG.out.whole a hlt hfa
        have hff := whole_f hwh
        have hroom := whole_room hwh hlt
        have hsl := slN_pos (X a)
        have CS : Hid (∀ w', Calls Tryd.prog 21 #[.agg #[.int .i64 (X a).o, .int .i64 (X a).d, .int .i64 (X a).s, .int .i64 (X a).f, .int .i64 (X a).m]] w' fun e w'' => e = .returned (.int .i64 (slN (X a) : Nat)) ∧ Below w'.heap.size w' w'') := fun w' => slots_any _ _ _ _ _ w'
        have CN : Hid (∀ w', Calls Tryd.prog 23 #[.agg #[.int .i64 (X a).o, .int .i64 (X a).d, .int .i64 (X a).s, .int .i64 (X a).f, .int .i64 (X a).m], .int .i64 (a : Int)] w' fun e w'' => (∃ v, e = .returned v ∧ Fresh w'.heap.size w'' v (nxt (X a) a)) ∧ Below w'.heap.size w' w'') := fun w' => next_any _ _ _ _ _ a (by omega) hff w'
        obtain ⟨s, hs⟩ : ∃ s, slN (X a) = s := ⟨_, rfl⟩
        have HSL := Lib.hid hs
        rw [hs] at CS hroom hsl
        have HFA := Lib.hid hfa
        obtain ⟨b, off, hA, hblt, hc⟩ := (H.out.below HB.out) a hlt
        subst hA
        have HC := Lib.hid hc
        have HBLT := Lib.hid hblt
        obtain ⟨c0, c1, c2, c3, c4⟩ := hc
        clear hwh hff hs hfa hblt
        go_wp2_with (go_at_call 21; refine (CS.out _).mono ?_; rintro e w2 ⟨rfl, hb⟩; have HB2 : Hid (Below w.heap.size w w2) := HB.out.trans (hb.mono HB.out.size); have HR2 := Lib.hid (HR.out.below hb); have HP2 : Hid (w2.ownsRow (w.heap.size + 1) 3 1 (.slice (some ⟨g2, 0, none⟩) q cap) q (natsV T')) := ownsRow_blocks HP.out (fun k _ hk => hb.block k hk); have HC2 := Lib.hid (HC.out.below hb HBLT.out); clear hb)
        clear cr c0 c1 c2 c3 c4
        go_loopw [46] (fun i ws => ∃ j : Nat, j ≤ s ∧ i = .int .i64 j ∧ Below w.heap.size w ws ∧ Blk ws w.heap.size 4 (rowB n (fun i => R i || (decide (a ≤ i) && decide (i < a + j)))) ∧ ws.ownsRow (w.heap.size + 1) 3 1 (.slice (some ⟨g2, 0, none⟩) q cap) q (natsV T')) (fun i _ => s - (intOf i).toNat)
        case atStart => exact ⟨0, by omega, rfl, HB2.out, by rw [← row_zero]; exact HR2.out, HP2.out⟩
        case round =>
          clear HB2 HR2 HP2
          obtain ⟨j, hj, rfl, hb, hr, ho⟩ := hrel
          have HB2 := Lib.hid hb
          have HR2 := Lib.hid hr
          have HP2 := Lib.hid ho
          clear hb hr ho
          by_cases hjs : j < s
          · have g1 : decide (j < s) = true := by simpa using hjs
            have cr : wr.cell? ⟨w.heap.size, a + j, none⟩ = some (.bool (R (a + j) || (decide (a ≤ a + j) && decide (a + j < a + j)))) := by rw [HR2.out.cell (a + j)]; exact rowB_get _ _ _ (by omega)
            have fr : wr.frozen? ⟨w.heap.size, a + j, none⟩ = false := HR2.out.frozen _
            have k1 : (0 : Int) ≤ (a : Int) + (j : Int) := by omega
            have k2 : (a : Int) + (j : Int) < (n : Int) := by omega
            go_wp2_with fail
            go_roundw
            case rel =>
              refine ⟨j + 1, by omega, by go_num, HB2.out.setCell (Nat.le_refl _) _, ?_, ?_⟩
              · have := HR2.out.set_ (a + j) (.bool true)
                rw [row_put] at this
                exact this
              · exact ownsRow_blocks HP2.out (fun k hk _ => Below.heap_setCell _ _ _ k (by simp; omega))
            case measure => simp [intOf]; omega
          · have hjs' : j = s := by omega
            have g1 : decide (j < s) = false := by simpa using hjs
            have hr := HR2.out
            rw [hjs', ← HSL.out, mark_row] at hr
            have HR3 := Lib.hid hr
            have hcc := ((H.out.below HB2.out).at_ hlt).2
            obtain ⟨c0, c1, c2, c3, c4⟩ := hcc
            clear HR2 hr hjs hjs'
            go_wp2_with (first
              | (go_at_call 23; refine (CN.out _).mono ?_; rintro e w4 ⟨⟨v4, rfl, hf⟩, hb⟩; have HF := Lib.hid hf; have HB4 : Hid (Below w.heap.size w w4) := HB2.out.trans (hb.mono HB2.out.size); have HR4 := Lib.hid (HR3.out.below hb); have HP4 : Hid (w4.ownsRow (w.heap.size + 1) 3 1 (.slice (some ⟨g2, 0, none⟩) q cap) q (natsV T')) := ownsRow_blocks HP2.out (fun k _ hk => hb.block k hk); clear hb hf)
              | (at_builtin; obtain ⟨v5, w5, hr5, ho5, hg5⟩ := append_ints HP4.out HF.out (by have := nxt_length (X a) a; omega) (by have := HR4.out.lt; omega); refine wpList_append_run rfl _ _ 29 rfl (.slice (some ⟨g2, 0, none⟩) q cap) v4 v5 w5 rfl rfl 29 rfl hr5 ?_; have HO5 := Lib.hid ho5; have HG5 := Lib.hid hg5; clear hr5 ho5 hg5))
            have hml := mark_left (X := X) HRA.out hlt
            have hnl := nxt_length (X a) a
            have HR5 : Hid (Blk w5 w.heap.size 4 (rowB n (mark X R a))) := (HG5.out.block _ HR4.out.lt (fun e => by have := HG2.out; simp [Value.ownBlock] at e; omega)).trans HR4.out
            have hpos : ∀ t, t ∈ nxt (X a) a → 0 ≤ t := fun t ht => (holds_iff.1 (HG.out.next hlt HFA.out ht)).1
            have HO6 : Hid (w5.ownsRow (w.heap.size + 1) 3 1 v5 (T' ++ (nxt (X a) a).map Int.toNat).length (natsV (T' ++ (nxt (X a) a).map Int.toNat))) := by
              have h := HO5.out
              rw [nats_ints hpos] at h
              have e1 : (T' ++ (nxt (X a) a).map Int.toNat).length = q + (nxt (X a) a).length := by simp [HQ.out]
              have e2 : natsV (T' ++ (nxt (X a) a).map Int.toNat) = natsV T' ++ natsV ((nxt (X a) a).map Int.toNat) := by simp [natsV]
              rw [e1, e2]
              exact h
            have hlv := lenV_own HO5.out
            have hmw : left (markW w5 w.heap.size) n = left (mark X R a) n := left_congr fun i hi => markW_row HR5.out hi
            go_roundw
            case rel =>
              refine ⟨mark X R a, T' ++ (nxt (X a) a).map Int.toNat, HS.out.take HG.out HRA.out, ?_, ?_, HR5.out, HO6.out⟩
              · have := HM.out
                have := HQ.out
                simp only [List.length_append, List.length_map]
                omega
              · exact HB4.out.grown HG5.out HB4.out.size (fun k e => by have := HG2.out; simp [Value.ownBlock] at e; omega)
            case measure =>
              have h1 := HML.out
              simp only [lenV] at hlv ⊢
              omega
      · rw [hRa] at cr
        have HRA := Lib.hid hRa
        clear hRa
        go_wp2_with fail
        go_roundw
        case rel =>
          refine ⟨R, T', HS.out.skip HRA.out, by have := HM.out; have := HQ.out; omega, HB.out, HR.out, ?_⟩
          rw [HQ.out]
          exact HP.out
        case measure => simp [lenV]
theorem reaches_any (A : Option Addr) (n c : Nat) (X : Nat → Slot) (hn : n ≤ 140737488355328) (w : World) (h : Slots w A n X) (hS : Sizes w) :
    Calls Tryd.prog 13 #[.slice A n c] w fun e w' => ReachAns w.heap.size X n e w' ∧ Below w.heap.size w w' := by
  cases hk : chk X n with
  | some k => exact reaches_bad A n c k X hn w h hS hk
  | none => exact reaches_good A n c X w h hS (chk_none.1 hk)
end Go.Proofs.YticklgoegmobbaaDoor
