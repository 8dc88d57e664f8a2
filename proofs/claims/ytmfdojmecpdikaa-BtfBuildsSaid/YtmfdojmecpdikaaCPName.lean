/-
  Layer 6, the reference: its reader's name.
-/
import Derived.Test.YtmfdojmecpdikaaCNum
namespace Go.Proofs.Ytmfdojmecpdikaa
open Go Go.RowKit
set_option linter.unusedVariables false
set_option linter.unusedSimpArgs false
set_option maxRecDepth 100000
def qstopB (r : RS) : Bool := (numR r).bad || decide ((r.ns.length : Int) ≤ numV r)
def qrest (r : RS) : List UInt8 := r.ns.drop (numV r).toNat
def qnameV (r : RS) : ByteArray := if qstopB r = true then bstr [] else if (qrest r).contains 0 = true then bstr ((qrest r).takeWhile (· != 0)) else bstr []
def qnameR (r : RS) : RS :=
  if qstopB r = true then ⟨(numR r).ts, (numR r).ns, true⟩ else if (qrest r).contains 0 = true then ⟨(numR r).ts, (numR r).ns, !nameB (bstr ((qrest r).takeWhile (· != 0)))⟩ else ⟨(numR r).ts, (numR r).ns, true⟩
theorem ret_str {a b : ByteArray} (h : a = b) : Ending.returned (.string a) = .returned (.string b) := by rw [h]
/-- The first zero of a list. -/
theorem first_zero (l : List UInt8) (j : Nat) (hj : j < l.length) (h : ∀ x ∈ l.take j, x ≠ 0) (h0 : l[j] = 0) : l.contains 0 = true ∧ l.takeWhile (· != 0) = l.take j := by
  refine ⟨by simp; exact h0 ▸ List.getElem_mem hj, ?_⟩
  have e : l = l.take j ++ 0 :: l.drop (j + 1) := by rw [← h0, List.getElem_cons_drop, List.take_append_drop]
  conv => lhs; rw [e]
  exact takeWhile_stop _ _ h
theorem no_zero (l : List UInt8) (h : ∀ x ∈ l, x ≠ 0) : l.contains 0 = false := by
  cases hc : l.contains 0
  · rfl
  · simp at hc; exact absurd rfl (h 0 hc)
theorem take_next (l : List UInt8) (j : Nat) (hj : j < l.length) (h : ∀ x ∈ l.take j, x ≠ 0) (h0 : l[j] ≠ 0) : ∀ x ∈ l.take (j + 1), x ≠ 0 := by
  intro x hx
  rw [List.take_succ_eq_append_getElem hj, List.mem_append, List.mem_singleton] at hx
  rcases hx with hx | rfl
  · exact h x hx
  · exact h0
set_option maxHeartbeats 4000000 in
theorem pname_any {w : World} {g : Nat} {r : RS} (h : PM w g r) :
    Calls Try.prog 39 #[.pointer (some ⟨g, 0, none⟩)] w (PostQ w g (.returned (.string (qnameV r))) (qnameR r)) := by
  have hv := numV_lo r
  have CN := Lib.hid (pnum_any h)
  have hns : (numR r).ns = r.ns := numR_ns r
  have hln := h.ns
  have HV : Hid (qnameV r = _) := rfl
  unfold qnameV qnameR qstopB qrest
  rw [← hns] at *
  clear h HV
  generalize numV r = n at *
  generalize numR r = r' at *
  obtain ⟨ts, ns, bad⟩ := r'
  simp only at *
  cases bad
  · by_cases hn : (ns.length : Int) ≤ n
    · have d1 : decide ((ns.length : Int) ≤ n) = true := by simpa using hn
      rw [d1]
      have i1 : ((bstr ns).size : Int) ≤ n := by rw [bstr_size]; exact hn
      simp only [Bool.or_true, if_true]
      clear d1 hn hln
      go_enter Try.func39, Try.ntmps39
      go_wp2_with (go_at_call 40; refine CN.out.mono ?_; rintro e w1 ⟨rfl, hp, hk⟩; have HP := Lib.hid hp; have HK := Lib.hid hk; have c1 : w1.cell? ⟨g, 1, none⟩ = some (.string (bstr ns)) := hp.blk.cell 1; have c2 : w1.cell? ⟨g, 2, none⟩ = some (.bool false) := hp.blk.cell 2; have f2 : w1.frozen? ⟨g, 2, none⟩ = false := hp.blk.frozen 2; clear hp hk)
      go_ret
      exact ⟨ret_str rfl, ⟨by simpa using HP.out.blk.set_ 2 (.bool true), HP.out.ts, HP.out.ns⟩, HK.out.set_ 2 _⟩
    · have d1 : decide ((ns.length : Int) ≤ n) = false := by simpa using hn
      rw [d1]
      obtain ⟨p, rfl⟩ := Int.eq_ofNat_of_zero_le hv.1
      have i1 : (p : Int) < ((bstr ns).size : Int) := by rw [bstr_size]; omega
      have i2 : ((bstr ns).size : Int) ≤ 4294967296 := by rw [bstr_size]; omega
      have HL : Hid ((bstr ns).size = ns.length) := bstr_size ns
      simp only [Bool.or_false, Bool.false_eq_true, if_false, Int.toNat_natCast]
      have CT : Hid (∀ q : Nat, p ≤ q → q ≤ (bstr ns).size → (bstr ns).extract p q = bstr ((ns.drop p).take (q - p))) := fun q _ _ => bstr_cut ns p q
      have CF : Hid (∀ q : Nat, p ≤ q → ∀ hq : q < (bstr ns).size, ((bstr ns)[q] = 0 → (∀ x ∈ (ns.drop p).take (q - p), x ≠ 0) → (ns.drop p).contains 0 = true ∧ (ns.drop p).takeWhile (· != 0) = (ns.drop p).take (q - p)) ∧
          ((bstr ns)[q] ≠ 0 → (∀ x ∈ (ns.drop p).take (q - p), x ≠ 0) → ∀ x ∈ (ns.drop p).take (q + 1 - p), x ≠ 0)) := by
        intro q hpq hq
        rw [bstr_getElem ns q hq]
        rw [bstr_size] at hq
        have hj : q - p < (ns.drop p).length := by rw [List.length_drop]; omega
        have e : (ns.drop p)[q - p] = ns[q] := by rw [List.getElem_drop]; congr 1; omega
        refine ⟨fun h0 h => first_zero _ _ hj h (by rw [e]; exact h0), fun h0 h => ?_⟩
        have := take_next _ _ hj h (by rw [e]; exact h0)
        rwa [show q - p + 1 = q + 1 - p by omega] at this
      have HYES : Hid ((ns.drop p).contains 0 = true → ∀ T, (ns.drop p).takeWhile (· != 0) = T → (if (ns.drop p).contains 0 = true then bstr ((ns.drop p).takeWhile (· != 0)) else bstr []) = bstr T ∧
          (if (ns.drop p).contains 0 = true then (⟨ts, ns, !nameB (bstr ((ns.drop p).takeWhile (· != 0)))⟩ : RS) else ⟨ts, ns, true⟩) = ⟨ts, ns, !nameB (bstr T)⟩) := by
        intro h T hT; rw [h, hT]; exact ⟨rfl, rfl⟩
      have HNO : Hid ((ns.drop p).contains 0 = false → (if (ns.drop p).contains 0 = true then bstr ((ns.drop p).takeWhile (· != 0)) else bstr []) = bstr [] ∧
          (if (ns.drop p).contains 0 = true then (⟨ts, ns, !nameB (bstr ((ns.drop p).takeWhile (· != 0)))⟩ : RS) else ⟨ts, ns, true⟩) = ⟨ts, ns, true⟩) := by
        intro h; rw [h]; exact ⟨rfl, rfl⟩
      generalize (if (ns.drop p).contains 0 = true then bstr ((ns.drop p).takeWhile (· != 0)) else bstr []) = V at *
      generalize (if (ns.drop p).contains 0 = true then (⟨ts, ns, !nameB (bstr ((ns.drop p).takeWhile (· != 0)))⟩ : RS) else ⟨ts, ns, true⟩) = R at *
      clear d1 hn hln
      go_enter Try.func39, Try.ntmps39
      go_wp2_with (go_at_call 40; refine CN.out.mono ?_; rintro e w1 ⟨rfl, hp, hk⟩; have HP := Lib.hid hp; have HK := Lib.hid hk; have c1 : w1.cell? ⟨g, 1, none⟩ = some (.string (bstr ns)) := hp.blk.cell 1; have c2 : w1.cell? ⟨g, 2, none⟩ = some (.bool false) := hp.blk.cell 2; have f2 : w1.frozen? ⟨g, 2, none⟩ = false := hp.blk.frozen 2; clear hp hk)
      go_loop [4] (fun i => ∃ q : Nat, p ≤ q ∧ q ≤ (bstr ns).size ∧ i = .int .i64 q ∧ ∀ x ∈ (ns.drop p).take (q - p), x ≠ 0) (fun i => (bstr ns).size - (intOf i).toNat)
      case atStart => exact ⟨p, by omega, by omega, rfl, by simp⟩
      case round =>
        obtain ⟨q, hpq, hq, rfl, hnz⟩ := hrel
        have HNZ := Lib.hid hnz
        clear hnz
        by_cases hqs : q < (bstr ns).size
        · have i3 : (q : Int) < ((bstr ns).size : Int) := by omega
          have i4 : (p : Int) ≤ (q : Int) := by omega
          have g1 : decide (q < (bstr ns).size) = true := by simpa using hqs
          by_cases hz : (bstr ns)[q] = 0
          · have hb0 : (bstr ns)[q].toNat = 0 := by rw [hz]; rfl
            obtain ⟨h1, h2⟩ := (CF.out q hpq hqs).1 hz HNZ.out
            have hx := CT.out q hpq hq
            obtain ⟨T, hT⟩ : ∃ T, (ns.drop p).take (q - p) = T := ⟨_, rfl⟩
            rw [hT] at h2
            have HE := Lib.hid (HYES.out h1 T h2)
            have hTs : T.length ≤ 4294967296 := by rw [← hT, List.length_take, List.length_drop, ← HL.out]; omega
            have CM := Lib.hid (fun w => refName_any (bstr T) (by rw [bstr_size]; omega) w)
            rw [hT] at hx
            clear hz h1 h2 hT hTs CF CT HNZ HYES HNO
            go_wp2_with (go_at_call 15; refine (CM.out _).mono ?_; rintro e w2 ⟨rfl, rfl⟩)
            go_ret
            rw [HE.out.1, HE.out.2]
            exact ⟨ret_str rfl, ⟨by simpa using HP.out.blk.set_ 2 (.bool (!nameB (bstr T))), HP.out.ts, HP.out.ns⟩, HK.out.set_ 2 _⟩
          · have HN := Lib.hid ((CF.out q hpq hqs).2 hz HNZ.out)
            have hm0 : (bstr ns)[q].toNat ≠ 0 := fun e => hz (UInt8.toNat_inj.1 e)
            obtain ⟨m, hm⟩ : ∃ m, (bstr ns)[q].toNat = m := ⟨_, rfl⟩
            rw [hm] at hm0
            have g2 : ((m : Int) == 0) = false := by simpa using hm0
            clear hz CF CT HNZ hm0
            go_wp2_with fail
            go_round
            case rel => exact ⟨q + 1, by omega, by omega, by go_num, HN.out⟩
            case measure => simp [intOf]; omega
        · have e : q = (bstr ns).size := by omega
          subst e
          have g1 : decide ((bstr ns).size < (bstr ns).size) = false := by simp
          have h1 : (ns.drop p).contains 0 = false := no_zero _ (by have := HNZ.out; rwa [List.take_of_length_le (by rw [List.length_drop, HL.out]; exact Nat.le_refl _)] at this)
          have HE := Lib.hid (HNO.out h1)
          clear h1 CF CT HNZ hqs HYES HNO
          go_wp2_with fail
          go_ret
          rw [HE.out.1, HE.out.2]
          exact ⟨ret_str rfl, ⟨by simpa using HP.out.blk.set_ 2 (.bool true), HP.out.ts, HP.out.ns⟩, HK.out.set_ 2 _⟩
  · simp only [Bool.true_or, if_true]
    clear hln
    go_enter Try.func39, Try.ntmps39
    go_wp2_with (go_at_call 40; refine CN.out.mono ?_; rintro e w1 ⟨rfl, hp, hk⟩; have HP := Lib.hid hp; have HK := Lib.hid hk; have c1 : w1.cell? ⟨g, 1, none⟩ = some (.string (bstr ns)) := hp.blk.cell 1; have c2 : w1.cell? ⟨g, 2, none⟩ = some (.bool true) := hp.blk.cell 2; have f2 : w1.frozen? ⟨g, 2, none⟩ = false := hp.blk.frozen 2; clear hp hk)
    go_ret
    exact ⟨ret_str rfl, ⟨by simpa using HP.out.blk.set_ 2 (.bool true), HP.out.ts, HP.out.ns⟩, HK.out.set_ 2 _⟩
end Go.Proofs.Ytmfdojmecpdikaa
