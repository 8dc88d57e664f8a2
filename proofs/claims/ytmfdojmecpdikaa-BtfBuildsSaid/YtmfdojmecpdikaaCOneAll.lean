/-
  Layer 6, the reference: a type, read: all ways.
-/
import Derived.Test.YtmfdojmecpdikaaCOne
import Derived.Test.YtmfdojmecpdikaaCOne4
namespace Go.Proofs.Ytmfdojmecpdikaa
open Go Go.RowKit
set_option linter.unusedVariables false
set_option linter.unusedSimpArgs false
set_option maxRecDepth 100000
theorem beq_eq_decide_ (a b : Int) : (a == b) = decide (a = b) := by rw [Bool.eq_iff_iff]; simp
theorem isE_empty (s : ByteArray) : isE s = s.toList.isEmpty := by
  unfold isE
  rw [ByteArray.toList_eq, Bool.eq_iff_iff]
  simp only [decide_eq_true_eq, List.isEmpty_iff]
  rw [← List.length_eq_zero_iff, size_list]
theorem pone_any {w : World} {g : Nat} {r : RS} (h : PM w g r) :
    Calls Try.prog 31 #[.pointer (some ⟨g, 0, none⟩)] w (PostY w g r) := by
  have hv := numV_lo (qnameR r)
  obtain ⟨v, ev⟩ : ∃ v, numV (qnameR r) = v := ⟨_, rfl⟩
  rw [ev] at hv
  have hA : bits .and .i64 v 65535 = v % 65536 := and_i64 v 16 (by decide)
  have hM := and_mid v hv
  have hE := isE_empty (qnameV r)
  obtain ⟨E, eE⟩ : ∃ E, (qnameV r).toList.isEmpty = E := ⟨_, rfl⟩
  rw [eE] at hE
  by_cases hmid : v / 65536 % 256 = 0
  · have hM0 : bits .and .i64 v 16711680 = 0 := by rw [hM, hmid]; rfl
    by_cases hst : v % 65536 ≠ 0 ∧ v / 16777216 ≠ 4
    · have hq : qone r = (⟨v / 16777216, qnameV r, 0, 0, 0, []⟩, ⟨(numR (qnameR r)).ts, (numR (qnameR r)).ns, true⟩) := by
        unfold qone; rw [ev, if_pos (by simp [qstop, hst])]
      exact one_stop2 h v _ _ ev hA rfl hv.1 hv.2 hM0 (by simp [hst.1]) (by simp [hst.2]) hq
    · have hns : qstop v = false := by
        simp only [qstop, Bool.or_eq_false_iff, Bool.and_eq_false_iff, decide_eq_false_iff_not, Decidable.not_not]
        exact ⟨hmid, by omega⟩
      have hq : qone r = qbody (v / 16777216) (v % 65536) (qnameV r) (numR (qnameR r)) := by
        unfold qone; rw [ev, if_neg (by simp [hns])]
      by_cases h4 : v / 16777216 = 4
      · obtain ⟨n, hn⟩ : ∃ n : Nat, v % 65536 = (n : Int) := ⟨(v % 65536).toNat, by omega⟩
        rw [hn, h4] at hq
        rw [hn] at hA
        refine one_struct h v ev n hA h4 hv.1 hv.2 hM0 (by omega) _ rfl _ rfl E eE ?_
        rw [hq]
        simp [qbody]
      · have hn0 : v % 65536 = 0 := by omega
        rw [hn0] at hq hA
        by_cases h1 : v / 16777216 = 1
        · rw [h1] at hq
          refine one_int h v ev hA h1 hv.1 hv.2 hM0 _ _ rfl rfl (numV_lo _) (numV_lo _) E eE _ rfl ?_
          rw [hq]
          simp [qbody, wantR, hE]
        · by_cases h2 : v / 16777216 = 2
          · rw [h2] at hq
            refine one_to2 h v ev hA h2 hv.1 hv.2 hM0 _ rfl E eE _ rfl ?_
            rw [hq]
            simp [qbody, wantR, hE]
          · by_cases h8 : v / 16777216 = 8
            · rw [h8] at hq
              refine one_to8 h v ev hA h8 hv.1 hv.2 hM0 _ rfl E eE _ rfl ?_
              rw [hq]
              simp [qbody, wantR, hE]
            · by_cases h3 : v / 16777216 = 3
              · rw [h3] at hq
                refine one_array h v ev hA h3 hv.1 hv.2 hM0 _ _ _ _ rfl rfl rfl rfl E eE _ rfl ?_
                rw [hq]
                simp [qbody, wantR, hE, bne, beq_eq_decide_]
              · refine one_other h v _ ev hA rfl hv.1 hv.2 hM0 (by simp [h1]) (by simp [h2]) (by simp [h8]) (by simp [h3]) (by simp [h4]) E eE ?_
                rw [hq]
                simp [qbody, h1, h2, h3, h4, h8]
  · have hM1 : ¬ bits .and .i64 v 16711680 = 0 := by rw [hM]; omega
    have hq : qone r = (⟨v / 16777216, qnameV r, 0, 0, 0, []⟩, ⟨(numR (qnameR r)).ts, (numR (qnameR r)).ns, true⟩) := by
      unfold qone; rw [ev, if_pos (by simp [qstop, hmid])]
    exact one_stop1 h v _ _ ev hA rfl hv.1 hv.2 _ rfl (by simp [hM1]) hM1 hq
end Go.Proofs.Ytmfdojmecpdikaa
