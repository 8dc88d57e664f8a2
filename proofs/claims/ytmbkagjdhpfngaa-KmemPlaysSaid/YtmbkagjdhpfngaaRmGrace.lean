/-
  The reference's Grace.
-/
import Derived.Test.YtmbkagjdhpfngaaRmFree
import Derived.Lib.LazyBuf
namespace Go.Proofs.Ytmbkagjdhpfngaa
open Go Go.RowKit Go.Maps
set_option linter.unusedVariables false
/-- What Grace leaves of a region. -/
def keepv : Option RV → Option RV
  | some q => if q.2.2 then none else some q
  | none => none
def gracev (vs : Nat → Option RV) (i : Nat) : Nat → Option RV := fun n => if n ≤ i then keepv (vs n) else vs n
theorem gracev_zero {vs : Nat → Option RV} (h : vs 0 = none) : gracev vs 0 = vs := by
  funext n
  unfold gracev
  split
  · have : n = 0 := by omega
    subst this; rw [h]; rfl
  · rfl
theorem gracev_at (vs : Nat → Option RV) (i : Nat) : gracev vs i (i + 1) = vs (i + 1) := by unfold gracev; rw [if_neg (by omega)]
theorem gracev_succ (vs : Nat → Option RV) (i : Nat) : updv (gracev vs i) (i + 1) (keepv (vs (i + 1))) = gracev vs (i + 1) := by
  funext n
  unfold updv gracev
  by_cases h : n = i + 1
  · subst h; rw [if_pos rfl, if_pos (Nat.le_refl _)]
  · rw [if_neg h]
    by_cases h2 : n ≤ i
    · rw [if_pos h2, if_pos (by omega)]
    · rw [if_neg h2, if_neg (by omega)]
theorem gracev_stay {vs : Nat → Option RV} {i : Nat} (h : keepv (vs (i + 1)) = vs (i + 1)) : gracev vs (i + 1) = gracev vs i := by
  rw [← gracev_succ, h]
  funext n
  unfold updv
  split
  · rename_i e; subst e; exact (gracev_at vs i).symm
  · rfl
section
variable {w w1 w2 : World} {T : Nat → Prop} {bx made fail : Nat} {vs : Nat → Option RV} {rb gb : Nat → Nat} {lv : Value}
set_option maxRecDepth 100000 in
set_option maxHeartbeats 2000000 in
theorem xgrace_any (h : RM w T bx made fail vs rb gb lv) :
    Calls Try.prog 19 #[.pointer (some ⟨bx, 0, none⟩)] w fun e w' => e = .returned (.tuple #[]) ∧ RM w' T bx made fail (gracev vs made) rb gb lv ∧ Keeps T w w' := by
  have hv0 : vs 0 = none := by
    rcases hs : vs 0 with _ | q
    · rfl
    · have := (h.range 0 q hs).1; omega
  obtain ⟨A, cv, hlv, _⟩ := h.row_form
  subst hlv
  have hmd := h.made_le
  have HST := Lib.hid (show RM w T bx made fail (gracev vs 0) rb gb (.slice A made cv) from by rw [gracev_zero hv0]; exact h)
  clear h hv0
  go_enter Try.func19, Try.ntmps19
  go_wp2_with fail
  go_loopw [2] (fun i wr => ∃ k : Nat, k ≤ made ∧ i = .int .i64 k ∧ RM wr T bx made fail (gracev vs k) rb gb (.slice A made cv) ∧ Keeps T w wr) (fun i _ => made - (intOf i).toNat)
  case atStart => exact ⟨0, by omega, rfl, HST.out, Keeps.refl _ _⟩
  case round =>
    clear HST
    obtain ⟨k, hk, rfl, hr, hkk⟩ := hrel
    have c0 : wr.cell? ⟨bx, 0, none⟩ = some (.slice A made cv) := hr.head.cell 0
    have KK := Lib.hid hkk; clear hkk
    by_cases hkm : k < made
    · obtain ⟨A', cv', e, hc⟩ := hr.row_form
      cases e
      obtain ⟨g, rfl, cn⟩ := hc (k + 1) (by omega) (by omega)
      rw [Nat.add_sub_cancel] at cn
      clear hc
      have g1 : decide (k < made) = true := by simpa using hkm
      have i2 : (k : Int) < (made : Int) := by omega
      have hq := fun (w : World) a n c => Lib.run_eql_slice_nil (P := Try.prog) w 73 5 a n c 0 0 Try.underlying73
      rcases hs : vs (k + 1) with _ | q
      · obtain ⟨p, ret, hd⟩ := hr.dead (k + 1) (by omega) (by omega) (by rw [gracev_at]; exact hs)
        have d2 : wr.cell? ⟨rb (k + 1), 2, none⟩ = some (.bool ret) := hd.cell 2
        have d0 : wr.cell? ⟨rb (k + 1), 0, none⟩ = some (.slice none 0 0) := hd.cell 0
        have HR := Lib.hid (show RM wr T bx made fail (gracev vs (k + 1)) rb gb (.slice (some ⟨g, 0, none⟩) made cv) by rw [gracev_stay (by rw [hs]; rfl)]; exact hr)
        clear hd hr hs
        generalize rb (k + 1) = r at cn d2 d0
        rcases ret with _ | _
        · go_wp2_with fail
          go_roundw
          case rel => exact ⟨k + 1, by omega, by go_num, HR.out, KK.out⟩
          case measure => simp [intOf]; omega
        · have hq0 := fun (w : World) => hq w none 0 0
          clear hq hq0
          have hq1 := fun (w : World) => Go.run_neq_slice_nil (P := Try.prog) w 73 5 none 0 0 Try.underlying73
          simp only [Option.isNone_none, Bool.not_true] at hq1
          go_wp2_with fail
          go_roundw
          case rel => exact ⟨k + 1, by omega, by go_num, HR.out, KK.out⟩
          case measure => simp [intOf]; omega
      · have hs' : gracev vs k (k + 1) = some q := by rw [gracev_at]; exact hs
        have hR := hr.live (k + 1) q hs'
        have d2 : wr.cell? ⟨rb (k + 1), 2, none⟩ = some (.bool q.2.2) := hR.cell 2
        have d0 : wr.cell? ⟨rb (k + 1), 0, none⟩ = some (.slice (some ⟨gb (k + 1), 0, none⟩) q.2.1.length q.2.1.length) := hR.cell 0
        have f0 := hR.frozen 0
        rcases hret : q.2.2 with _ | _
        · rw [hret] at d2
          have HR := Lib.hid (show RM wr T bx made fail (gracev vs (k + 1)) rb gb (.slice (some ⟨g, 0, none⟩) made cv) by rw [gracev_stay (by rw [hs]; show (if q.2.2 then none else some q) = some q; rw [hret]; rfl)]; exact hr)
          clear hR hr hs hs' hret
          generalize rb (k + 1) = r at cn d2 d0 f0
          go_wp2_with fail
          go_roundw
          case rel => exact ⟨k + 1, by omega, by go_num, HR.out, KK.out⟩
          case measure => simp [intOf]; omega
        · rw [hret] at d2
          have ec := cnt_none (vs := gracev vs k) (n := k + 1) (by omega) (by rw [hs']; rfl) made (by omega)
          have hcl := cnt_le (gracev vs k) made
          have hbr : rb (k + 1) ≠ bx := Blk.ne_ hR hr.head (by decide)
          have H1 : Blk (wr.setCell ⟨rb (k + 1), 0, none⟩ (.slice none 0 0)) bx 28 #[.slice (some ⟨g, 0, none⟩) made cv, .int .i64 (cnt (gracev vs k) made), .int .i64 fail] := hr.head.far (p := ⟨rb (k + 1), 0, none⟩) (Ne.symm hbr) _
          have R1 : Blk (wr.setCell ⟨rb (k + 1), 0, none⟩ (.slice none 0 0)) (rb (k + 1)) 78 #[.slice none 0 0, .int .i64 q.1, .bool q.2.2] := by have := hR.set_ 0 (.slice none 0 0); simpa using this
          have hput := hr.put (n := k + 1) (r' := none) (w2 := (wr.setCell ⟨rb (k + 1), 0, none⟩ (.slice none 0 0)).setCell ⟨bx, 1, none⟩ (.int .i64 (cnt (updv (gracev vs k) (k + 1) none) made))) (by omega) (by omega)
            (Keeps.setCell (p := ⟨bx, 1, none⟩) (Keeps.setCell (p := ⟨rb (k + 1), 0, none⟩) (Keeps.refl _ wr) (.inl (.inl rfl)) _) (.inl (.inr rfl)) _) (by have := H1.set_ 1 (.int .i64 (cnt (updv (gracev vs k) (k + 1) none) made)); simpa using this) (fun q' e => by cases e) (fun _ => ⟨q.1, q.2.2, R1.far (p := ⟨bx, 1, none⟩) hbr _⟩)
          have ekv : updv (gracev vs k) (k + 1) none = gracev vs (k + 1) := by
            rw [← gracev_succ, hs]
            show _ = updv (gracev vs k) (k + 1) (if q.2.2 then none else some q)
            rw [hret]; rfl
          rw [ekv] at ec hput
          obtain ⟨C, hC⟩ : ∃ C, C = cnt (gracev vs (k + 1)) made := ⟨_, rfl⟩
          rw [← hC] at ec hput
          have HE := Lib.hid hput
          have hsub : ((cnt (gracev vs k) made : Nat) : Int) - 1 = (C : Int) := by omega
          have c1 : (wr.setCell ⟨rb (k + 1), 0, none⟩ (.slice none 0 0)).cell? ⟨bx, 1, none⟩ = some (.int .i64 (cnt (gracev vs k) made)) := H1.cell 1
          have f1 : (wr.setCell ⟨rb (k + 1), 0, none⟩ (.slice none 0 0)).frozen? ⟨bx, 1, none⟩ = false := H1.frozen 1
          have c1' : wr.cell? ⟨bx, 1, none⟩ = some (.int .i64 (cnt (gracev vs k) made)) := hr.head.cell 1
          have f1' : wr.frozen? ⟨bx, 1, none⟩ = false := hr.head.frozen 1
          generalize cnt (gracev vs k) made = D at *
          clear hR hr hs hs' hret H1 R1 hput ekv hC
          generalize rb (k + 1) = r at cn d2 d0 f0 HE hbr c1 f1
          have hq0 := fun (w : World) => hq w (some ⟨gb (k + 1), 0, none⟩) q.2.1.length q.2.1.length
          clear hq hq0
          have hq0 := fun (w : World) => Go.run_neq_slice_nil (P := Try.prog) w 73 5 (some ⟨gb (k + 1), 0, none⟩) q.2.1.length q.2.1.length Try.underlying73
          simp only [Option.isNone_some, Bool.not_false] at hq0
          generalize gb (k + 1) = gg at d0 hq0
          generalize q.2.1.length = ln at d0 hq0
          go_wp2_with fail
          go_roundw
          case rel => exact ⟨k + 1, by omega, by go_num, HE.out.1, KK.out.trans (HE.out.2.mono (fun b hb => .inl hb))⟩
          case measure => simp [intOf]; omega
    · have : k = made := by omega
      subst this
      have HR := Lib.hid hr; clear hr
      have g1 : decide (k < k) = false := by simp
      go_wp2_with fail
      go_end0
      exact ⟨rfl, HR.out, KK.out⟩
end
end Go.Proofs.Ytmbkagjdhpfngaa
