/-
  The reference's Regions.
-/
import Derived.Test.YtmbkagjdhpfngaaRmAlloc
import Derived.Deep.RegionHeld3
namespace Go.Proofs.Ytmbkagjdhpfngaa
open Go Go.RowKit Go.Maps
set_option linter.unusedVariables false
/-- The live ones up to number k, rising. -/
def lives (vs : Nat → Option RV) (k : Nat) : List Nat := ((List.range k).map (· + 1)).filter fun n => (vs n).isSome
theorem lives_yes {vs : Nat → Option RV} {k : Nat} (h : (vs (k + 1)).isSome = true) : lives vs (k + 1) = lives vs k ++ [k + 1] := by
  unfold lives; rw [List.range_succ, List.map_append, List.filter_append]; simp [h]
theorem lives_no {vs : Nat → Option RV} {k : Nat} (h : (vs (k + 1)).isSome = false) : lives vs (k + 1) = lives vs k := by
  unfold lives; rw [List.range_succ, List.map_append, List.filter_append]; simp [h]
theorem cellsR_app (vs : Nat → Option RV) (ss : List Nat) (n : Nat) : cellsR vs (ss ++ [n]) = cellsR vs ss ++ regC n ((vs n).getD (0, [], false)) := by simp [cellsR]
theorem lives_len (vs : Nat → Option RV) (k : Nat) : (lives vs k).length ≤ k := Nat.le_trans (List.length_filter_le _ _) (by simp)
theorem Below.kept {w w' : World} (h : Below w.heap.size w w') : Keeps (fun _ => False) w w' := ⟨h.os, h.tape, h.output, h.size, fun k hk _ => h.block k hk⟩
section
variable {w w1 w2 : World} {T : Nat → Prop} {bx made fail : Nat} {vs : Nat → Option RV} {rb gb : Nat → Nat} {lv : Value}
def XRgPost (w : World) (vs : Nat → Option RV) (made : Nat) (e : Ending) (w' : World) : Prop :=
  ∃ l, e = .returned l ∧ Below w.heap.size w w' ∧ w'.ownsRow w.heap.size 67 3 l (lives vs made).length (cellsR vs (lives vs made))
set_option maxRecDepth 100000 in
set_option maxHeartbeats 4000000 in
theorem xregions_any (h : RM w T bx made fail vs rb gb lv) :
    Calls Try.prog 8 #[.pointer (some ⟨bx, 0, none⟩)] w (XRgPost w vs made) := by
  obtain ⟨A, cv, hlv, _⟩ := h.row_form
  subst hlv
  have hmd := h.made_le
  have H := Lib.hid h
  clear h
  go_enter Try.func8, Try.ntmps8
  go_wp2_with fail
  go_loopw [3, 4] (fun l i wr => ∃ k : Nat, k ≤ made ∧ i = .int .i64 k ∧ Below w.heap.size w wr ∧ wr.ownsRow w.heap.size 67 3 l (lives vs k).length (cellsR vs (lives vs k))) (fun _ i _ => made - (intOf i).toNat)
  case atStart => exact ⟨0, by omega, rfl, Below.refl _ _, World.ownsRow_nil _ _ _ _⟩
  case round =>
    obtain ⟨k, hk, rfl, hb, ho⟩ := hrel
    have hr : RM wr T bx made fail vs rb gb (.slice A made cv) := H.out.keeps (Below.kept hb) (fun _ _ h => h)
    have c0 : wr.cell? ⟨bx, 0, none⟩ = some (.slice A made cv) := hr.head.cell 0
    have HB := Lib.hid hb
    have HO := Lib.hid ho
    clear hb ho
    by_cases hkm : k < made
    · obtain ⟨A', cv', e, hc⟩ := hr.row_form
      cases e
      obtain ⟨g, rfl, cn⟩ := hc (k + 1) (by omega) (by omega)
      rw [Nat.add_sub_cancel] at cn
      clear hc
      have g1 : decide (k < made) = true := by simpa using hkm
      have i2 : (k : Int) < (made : Int) := by omega
      rcases hs : vs (k + 1) with _ | q
      · obtain ⟨p, ret, hd⟩ := hr.dead (k + 1) (by omega) (by omega) hs
        have d0 : wr.cell? ⟨rb (k + 1), 0, none⟩ = some (.slice none 0 0) := hd.cell 0
        have HL := Lib.hid (lives_no (vs := vs) (k := k) (by rw [hs]; rfl))
        clear hd hr hs
        generalize rb (k + 1) = r at cn d0
        have hq1 := fun (w : World) => Go.run_neq_slice_nil (P := Try.prog) w 73 5 none 0 0 Try.underlying73
        simp only [Option.isNone_none, Bool.not_true] at hq1
        go_wp2_with fail
        go_roundw
        case rel => exact ⟨k + 1, by omega, by go_num, HB.out, by rw [HL.out]; exact HO.out⟩
        case measure => simp [intOf]; omega
      · have hR := hr.live (k + 1) q hs
        have d0 : wr.cell? ⟨rb (k + 1), 0, none⟩ = some (.slice (some ⟨gb (k + 1), 0, none⟩) q.2.1.length q.2.1.length) := hR.cell 0
        have d1 : wr.cell? ⟨rb (k + 1), 1, none⟩ = some (.int .i64 q.1) := hR.cell 1
        have HL := Lib.hid (lives_yes (vs := vs) (k := k) (by rw [hs]; rfl))
        have hcv := conv_blk (w := wr.drew) (cap := q.2.1.length) (hr.bytes (k + 1) q hs)
        obtain ⟨i0, hi0, hz0, hz1, hz2⟩ := info_parts infoR
        have hlen := lives_len vs k
        have hsz := HB.out.size
        obtain ⟨l', w4, hrun, a2, a3, _, _⟩ := run_append_own_at (P := Try.prog) (wr.drew.alloc (.cells #[.int .i64 ((k : Int) + 1), .int .i64 q.1, .string (bstr q.2.1)] 67)) w.heap.size 34 0 67 i0 _ 3 32 Try.underlying34 hi0 hz0 hz1 hz2 rfl (by decide) u3 _ _ ((ownsRow_drew HO.out).alloc _) ⟨wr.heap.size, 0, none⟩ 1 1
          (regC (k + 1) q) rfl (fun j u hj => by
            have hbk := (Blk.new wr.drew 67 #[.int .i64 ((k : Int) + 1), .int .i64 q.1, .string (bstr q.2.1)]).cell j
            have e : wr.drew.heap.size = wr.heap.size := rfl
            rw [e] at hbk
            rw [show (⟨wr.heap.size, 0, none⟩ : Addr).add j = ⟨wr.heap.size, j, none⟩ by unfold Addr.add; split <;> simp_all]
            rw [hbk]
            simpa [regC] using hj) (by intro u hu; simp [regC] at hu; rcases hu with rfl | rfl | rfl <;> rfl) (by unfold maxLen; omega) (by omega) (by have e : wr.drew.heap.size = wr.heap.size := rfl; simp; omega)
        have hb4 : Below w.heap.size w w4 := ((HB.out.drew).alloc hsz _).grown a3 (by have e : wr.drew.heap.size = wr.heap.size := rfl; simp; omega) (fun k e => (HO.out.lt k e).1)
        have HR4 := Lib.hid (show Below w.heap.size w w4 ∧ w4.ownsRow w.heap.size 67 3 l' (lives vs (k + 1)).length (cellsR vs (lives vs (k + 1))) from ⟨hb4, by
          rw [HL.out, cellsR_app, hs, List.length_append]; exact a2⟩)
        have hrun' : ∀ ty, (Builtin.append_ #[34, 34] ty #[u3, .slice (some ⟨wr.heap.size, 0, none⟩) 1 1]).run Try.prog (wr.alloc (.cells #[.int .i64 ((k : Int) + 1), .int .i64 q.1, .string (bstr q.2.1)] 67)).drew = .ok l' w4 := fun ty => hrun
        have HRUN := Lib.hid hrun'
        have hcv' : (convert 73 9 (.slice (some ⟨gb (k + 1), 0, none⟩) q.2.1.length q.2.1.length)).run Try.prog wr.drew = .ok (.string (bstr q.2.1)) wr.drew := hcv
        have hS : ∀ W : World, Below w.heap.size w W → (W.cell? ⟨bx, 0, none⟩ = some (.slice (some ⟨g, 0, none⟩) made cv) ∧ W.cell? ⟨g, k, none⟩ = some (.pointer (some ⟨rb (k + 1), 0, none⟩)) ∧ W.cell? ⟨rb (k + 1), 0, none⟩ = some (.slice (some ⟨gb (k + 1), 0, none⟩) q.2.1.length q.2.1.length) ∧ W.cell? ⟨rb (k + 1), 1, none⟩ = some (.int .i64 q.1) ∧
            (convert 73 9 (.slice (some ⟨gb (k + 1), 0, none⟩) q.2.1.length q.2.1.length)).run Try.prog W = .ok (.string (bstr q.2.1)) W) := by
          intro W hW
          have hr' := H.out.keeps (Below.kept hW) (fun _ _ h => h)
          obtain ⟨A', cv', e, hc'⟩ := hr'.row_form
          cases e
          obtain ⟨g', e', cn'⟩ := hc' (k + 1) (by omega) (by omega)
          cases e'
          rw [Nat.add_sub_cancel] at cn'
          have hR' := hr'.live (k + 1) q hs
          exact ⟨hr'.head.cell 0, cn', hR'.cell 0, hR'.cell 1, conv_blk (hr'.bytes (k + 1) q hs)⟩
        have S1 := Lib.hid (hS _ HB.out.drew)
        have S2 := Lib.hid (hS _ ((HB.out.alloc hsz (.cells #[.int .i64 ((k : Int) + 1), .int .i64 q.1, .string (bstr q.2.1)] 67)).drew))
        have S3 := Lib.hid (hS _ hb4)
        clear hS
        clear hR hr hs a2 a3 hb4 hrun hrun' hcv HL hi0 hz0 hz1 hz2
        have hq0 := fun (w : World) => Go.run_neq_slice_nil (P := Try.prog) w 73 5 (some ⟨gb (k + 1), 0, none⟩) q.2.1.length q.2.1.length Try.underlying73
        simp only [Option.isNone_some, Bool.not_false] at hq0
        have ew : IntKind.i64.wrap ((k : Int) + 1) = (k : Int) + 1 := IntWalk.i64_in _ (by omega)
        obtain ⟨qp, qb, qr⟩ := q
        simp only at *
        generalize rb (k + 1) = r at *
        generalize gb (k + 1) = gg at *
        generalize bstr qb = sq at *
        generalize qb.length = ln at *
        go_wp2_with fail
        go_region_held3 (fun W => W.cell? ⟨bx, 0, none⟩ = some (.slice (some ⟨g, 0, none⟩) made cv) ∧ W.cell? ⟨g, k, none⟩ = some (.pointer (some ⟨r, 0, none⟩)) ∧ W.cell? ⟨r, 0, none⟩ = some (.slice (some ⟨gg, 0, none⟩) ln ln) ∧ W.cell? ⟨r, 1, none⟩ = some (.int .i64 qp) ∧ (convert 73 9 (.slice (some ⟨gg, 0, none⟩) ln ln)).run Try.prog W = .ok (.string sq) W)
          (first | exact S1.out | exact S2.out | exact S3.out)
          (first | (refine step_append_run rfl (.tmp 25) (.tmp 50) 34 rfl _ _ l' w4 rfl rfl HRUN.out ?_) | fail)
        all_goals go_wp2_with fail
        all_goals go_roundw
        all_goals first
          | (simp [intOf]; omega)
          | exact ⟨k + 1, by omega, by go_num, HR4.out.1, HR4.out.2⟩
    · have : k = made := by omega
      subst this
      clear hr
      have g1 : decide (k < k) = false := by simp
      go_wp2_with fail
      go_ret
      exact ⟨_, rfl, HB.out, HO.out⟩
end
end Go.Proofs.Ytmbkagjdhpfngaa
