/-
  Layer 6, the reference's Parse, plainly: where a round stands.
-/
import Derived.Test.YtmfdojmecpdikaaCYard
import Derived.Test.YtmfdojmecpdikaaBParse
namespace Go.Proofs.Ytmfdojmecpdikaa
open Go Go.RowKit
set_option linter.unusedVariables false
set_option linter.unusedSimpArgs false
set_option maxRecDepth 100000
theorem qsmallR_len (r : RS) : (qsmallR r).ts.length ≤ r.ts.length := numR_len r
theorem qnameR_ts (r : RS) : (qnameR r).ts = (numR r).ts := by
  unfold qnameR
  split
  · rfl
  · split <;> rfl
theorem qnameR_ns (r : RS) : (qnameR r).ns = r.ns := by
  rw [← numR_ns r]
  unfold qnameR
  split
  · rfl
  · split <;> rfl
theorem qsmallR_ns (r : RS) : (qsmallR r).ns = r.ns := numR_ns r
theorem qmemR_len (r : RS) : (qmemR r).ts.length ≤ r.ts.length := by
  unfold qmemR
  have h1 := qsmallR_len (qsmallR (qnameR r))
  have h2 := qsmallR_len (qnameR r)
  have h3 := numR_len r
  rw [← qnameR_ts] at h3
  omega
theorem qmemR_ns (r : RS) : (qmemR r).ns = r.ns := by unfold qmemR; rw [qsmallR_ns, qsmallR_ns, qnameR_ns]
theorem qmemsR_len : ∀ (n : Nat) (r : RS), (qmemsR n r).ts.length ≤ r.ts.length
  | 0, r => Nat.le_refl _
  | n + 1, r => by
    simp only [qmemsR]
    split
    · exact Nat.le_refl _
    · exact Nat.le_trans (qmemsR_len n _) (qmemR_len r)
theorem qbody_len (k n : Int) (nm : ByteArray) (r : RS) : (qbody k n nm r).2.ts.length ≤ r.ts.length := by
  have h1 := numR_len r
  have h2 := numR_len (numR r)
  have h3 := qsmallR_len (numR r)
  have h4 := numR_len (qsmallR (numR r))
  have h5 := qsmallR_len (numR (qsmallR (numR r)))
  have h6 := qsmallR_len r
  have h7 := qmemsR_len n.toNat (wantR (qsmallR r) (decide (n ≤ 1024)))
  unfold qbody
  split
  · simp only [wantR]; omega
  · split
    · simp only [wantR]; omega
    · split
      · simp only [wantR]; omega
      · split
        · simp only [wantR]; omega
        · split
          · simp only [wantR] at *; omega
          · simp
theorem numR_eats {r : RS} (h : (numR r).bad = false) : (numR r).ts.length < r.ts.length := by
  unfold numR at *
  split at h
  · cases h
  · rename_i h4
    rw [if_neg h4]
    simp
    omega
theorem qone_eats (r : RS) (h : (qone r).2.bad = false) : (qone r).2.ts.length < r.ts.length := by
  unfold qone at *
  split at h
  · cases h
  · rename_i hs
    rw [if_neg hs]
    have hb := qbody_awake _ _ _ _ h
    have h1 := numR_ok hb
    have hq := (qname_ok h1).2
    have h2 := qbody_len (numV (qnameR r) / 16777216) (numV (qnameR r) % 65536) (qnameV r) (numR (qnameR r))
    have h3 := numR_eats hb
    have h4 := numR_len r
    rw [← qnameR_ts] at h4
    omega
theorem qnameV_small (r : RS) (h : r.ns.length ≤ 4294967296) : (qnameV r).size ≤ 4294967296 := by
  unfold qnameV
  split
  · rw [bstr_size]; simp
  · split
    · rw [bstr_size]
      have h1 := (List.takeWhile_sublist (l := qrest r) (fun x => x != 0)).length_le
      have h2 : (qrest r).length ≤ r.ns.length := by unfold qrest; rw [List.length_drop]; omega
      omega
    · rw [bstr_size]; simp
theorem qmemsV_small : ∀ (n : Nat) (r : RS), r.ns.length ≤ 4294967296 → ∀ m ∈ qmemsV n r, m.name.size ≤ 4294967296
  | 0, r => fun _ m h => by cases h
  | n + 1, r => fun hr m h => by
    simp only [qmemsV] at h
    split at h
    · cases h
    · rcases List.mem_cons.1 h with rfl | h
      · exact qnameV_small r hr
      · exact qmemsV_small n _ (by rw [qmemR_ns]; exact hr) m h
theorem qmemsV_bad (n : Nat) (r : RS) (h : r.bad = true) : qmemsV n r = [] := by
  cases n
  · rfl
  · simp [qmemsV, h]
theorem qmemsV_len : ∀ (n : Nat) (r : RS), (qmemsV n r).length ≤ n
  | 0, r => Nat.le_refl _
  | n + 1, r => by
    simp only [qmemsV]
    split
    · simp
    · have := qmemsV_len n (qmemR r)
      simp; omega
theorem qone_small (r : RS) (hr : r.ns.length ≤ 4294967296) : (qone r).1.name.size ≤ 9223372036854775807 ∧ (∀ m ∈ (qone r).1.mems, m.name.size ≤ 9223372036854775807) ∧ (qone r).1.mems.length ≤ 1024 := by
  have h1 := qnameV_small r hr
  unfold qone
  split
  · exact ⟨by simp only; omega, (fun m h => by cases h), by simp⟩
  · unfold qbody
    split
    · exact ⟨by simp only; omega, (fun m h => by cases h), by simp⟩
    · split
      · exact ⟨by simp only; omega, (fun m h => by cases h), by simp⟩
      · split
        · exact ⟨by simp only; omega, (fun m h => by cases h), by simp⟩
        · split
          · exact ⟨by simp only; omega, (fun m h => by cases h), by simp⟩
          · split
            · refine ⟨by simp only; omega, fun m h => ?_, ?_⟩
              · have := qmemsV_small _ _ (by simp only [wantR]; rw [qsmallR_ns, numR_ns, qnameR_ns]; exact hr) m h
                omega
              · simp only
                by_cases hn : numV (qnameR r) % 65536 ≤ 1024
                · have := qmemsV_len (numV (qnameR r) % 65536).toNat (wantR (qsmallR (numR (qnameR r))) (decide (numV (qnameR r) % 65536 ≤ 1024)))
                  omega
                · rw [qmemsV_bad _ _ (by simp [wantR, hn])]; simp
            · exact ⟨by simp only; omega, (fun m h => by cases h), by simp⟩
/-- Where the reading stands. -/
def PGQ (s : List UInt8) (r : RS) (acc : List Ty) : Prop := acc.length ≤ 1025 ∧ (r.bad = false → acc.length ≤ 1024) ∧ ∃ n, qparseF s = qparseG n r acc ∧ (r.bad = true ∨ r.ts.length < n)
theorem PGQ.start {s : List UInt8} (h : openB s = true) : PGQ s (openV s) [] := ⟨by simp, by simp, (openV s).ts.length + 1, by unfold qparseF; rw [if_pos h], .inr (by omega)⟩
theorem PGQ.stop {s : List UInt8} {r : RS} {acc : List Ty} (h : PGQ s r acc) (hb : r.bad = true) : qparseF s = none := by
  obtain ⟨_, _, n, h1, _⟩ := h
  rw [h1]
  cases n <;> (unfold qparseG; rw [if_pos hb])
theorem PGQ.done {s : List UInt8} {r : RS} {acc : List Ty} (h : PGQ s r acc) (hb : r.bad = false) (h0 : r.ts.length = 0) : qparseF s = some acc := by
  obtain ⟨_, _, n, h1, _⟩ := h
  rw [h1]
  cases n
  · unfold qparseG; rw [if_neg (by rw [hb]; decide)]
  · unfold qparseG; rw [if_neg (by rw [hb]; decide), if_pos h0]
theorem PGQ.go {s : List UInt8} {r : RS} {acc : List Ty} (h : PGQ s r acc) (hb : r.bad = false) (h0 : 0 < r.ts.length) :
    PGQ s (wantR (qone r).2 (decide (acc.length + 1 ≤ 1024))) (acc ++ [(qone r).1]) := by
  obtain ⟨hl, hl2, n, h1, h2⟩ := h
  have hl3 := hl2 hb
  rcases h2 with h2 | h2
  · rw [hb] at h2; cases h2
  · obtain ⟨m, rfl⟩ : ∃ m, n = m + 1 := ⟨n - 1, by omega⟩
    refine ⟨by simp; omega, fun hw => ?_, m, ?_, ?_⟩
    · have := (wantR_ok hw).2
      simpa using this
    · rw [h1]
      conv => lhs; unfold qparseG
      rw [if_neg (by rw [hb]; decide), if_neg (by omega)]
    · cases hq : (qone r).2.bad
      · have := qone_eats r hq
        by_cases hd : acc.length + 1 ≤ 1024
        · right; simp only [wantR]; omega
        · left; simp [wantR, hd]
      · left; simp [wantR, hq]
theorem Row6.keepsP {w w' : World} {base g : Nat} {v : Value} {ps : List (Ty × Value)} {cs : Array Value} (h : Row6 w base v ps) (hk : Keeps (· = g) w w') (hb : Blk w g 76 cs) : Row6 w' base v ps :=
  ⟨own_keepsTag h.own hk hb (by decide), fun p hp => own_keepsTag (h.mems p hp) hk hb (by decide), h.small⟩
end Go.Proofs.Ytmfdojmecpdikaa
