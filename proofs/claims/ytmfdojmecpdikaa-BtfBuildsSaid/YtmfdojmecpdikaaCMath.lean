/-
  Layer 6, the reference's reader, plainly: what it tells may be; what was laid it tells.
-/
import Derived.Test.YtmfdojmecpdikaaCPName
namespace Go.Proofs.Ytmfdojmecpdikaa
open Go Go.RowKit
set_option linter.unusedVariables false
set_option linter.unusedSimpArgs false
set_option maxRecDepth 100000
def qsmallR (r : RS) : RS := wantR (numR r) (decide (numV r ≤ 2147483647))
def qmemV (r : RS) : Mem := ⟨qnameV r, numV (qnameR r), numV (qsmallR (qnameR r))⟩
def qmemR (r : RS) : RS := qsmallR (qsmallR (qnameR r))
def qmemsV : Nat → RS → List Mem
  | 0, r => []
  | n + 1, r => if r.bad = true then [] else qmemV r :: qmemsV n (qmemR r)
def qmemsR : Nat → RS → RS
  | 0, r => r
  | n + 1, r => if r.bad = true then r else qmemsR n (qmemR r)
def isE (s : ByteArray) : Bool := decide (s.size = 0)
def qstop (v : Int) : Bool := decide (v / 65536 % 256 ≠ 0) || (decide (v % 65536 ≠ 0) && decide (v / 16777216 ≠ 4))
def qbody (k n : Int) (nm : ByteArray) (r : RS) : Ty × RS :=
  if k = 1 then (⟨k, nm, numV r, 0, 0, []⟩, wantR (numR (numR r)) (!isE nm && (sizedB (numV r) && decide (numV (numR r) = 8 * numV r))))
  else if k = 2 then (⟨k, nm, 0, numV r, 0, []⟩, wantR (qsmallR r) (isE nm))
  else if k = 8 then (⟨k, nm, 0, numV r, 0, []⟩, wantR (qsmallR r) (!isE nm))
  else if k = 3 then (⟨k, nm, 0, numV (numR r), numV (numR (qsmallR (numR r))), []⟩, wantR (qsmallR (numR (qsmallR (numR r)))) (decide (numV r = 0) && (decide (numV (qsmallR (numR r)) = 0) && isE nm)))
  else if k = 4 then (⟨k, nm, numV r, 0, 0, qmemsV n.toNat (wantR (qsmallR r) (decide (n ≤ 1024)))⟩, qmemsR n.toNat (wantR (qsmallR r) (decide (n ≤ 1024))))
  else (⟨k, nm, 0, 0, 0, []⟩, ⟨r.ts, r.ns, true⟩)
def qone (r : RS) : Ty × RS :=
  if qstop (numV (qnameR r)) = true then (⟨numV (qnameR r) / 16777216, qnameV r, 0, 0, 0, []⟩, ⟨(numR (qnameR r)).ts, (numR (qnameR r)).ns, true⟩)
  else qbody (numV (qnameR r) / 16777216) (numV (qnameR r) % 65536) (qnameV r) (numR (qnameR r))
def qparseG : Nat → RS → List Ty → Option (List Ty)
  | 0, r, acc => if r.bad = true then none else some acc
  | n + 1, r, acc => if r.bad = true then none else if r.ts.length = 0 then some acc else qparseG n (wantR (qone r).2 (decide (acc.length + 1 ≤ 1024))) (acc ++ [(qone r).1])
def qparseF (s : List UInt8) : Option (List Ty) := if openB s = true then qparseG ((openV s).ts.length + 1) (openV s) [] else none

theorem wantR_ok {r : RS} {b : Bool} (h : (wantR r b).bad = false) : r.bad = false ∧ b = true := by
  simpa [wantR] using h
theorem numR_ok {r : RS} (h : (numR r).bad = false) : r.bad = false := by
  cases hb : r.bad
  · rfl
  · rw [numR_bad r hb] at h; cases h
theorem qname_ok {r : RS} (h : (qnameR r).bad = false) : nameB (qnameV r) = true ∧ r.bad = false := by
  unfold qnameR qnameV at *
  split at h
  · cases h
  · rename_i h1
    rw [if_neg h1]
    simp only [qstopB, Bool.or_eq_true, not_or] at h1
    have hb : r.bad = false := numR_ok (by simpa using h1.1)
    split at h
    · rename_i h2
      rw [if_pos h2]
      exact ⟨by simpa using h, hb⟩
    · cases h
theorem qsmall_ok {r : RS} (h : (qsmallR r).bad = false) : fitsB (numV r) = true ∧ r.bad = false := by
  obtain ⟨h1, h2⟩ := wantR_ok h
  have := numV_lo r
  exact ⟨by unfold fitsB; simp at h2; simp; omega, numR_ok h1⟩
theorem qmem_ok {r : RS} (h : (qmemR r).bad = false) : memB (qmemV r) = true ∧ r.bad = false := by
  obtain ⟨h1, h2⟩ := qsmall_ok h
  obtain ⟨h3, h4⟩ := qsmall_ok h2
  obtain ⟨h5, h6⟩ := qname_ok h4
  exact ⟨by simp only [memB, qmemV, h1, h3, h5, Bool.and_self], h6⟩
theorem qmems_ok : ∀ (n : Nat) (r : RS), (qmemsR n r).bad = false → ((qmemsV n r).all memB = true ∧ (qmemsV n r).length = n) ∧ r.bad = false := by
  intro n
  induction n with
  | zero => intro r h; exact ⟨⟨rfl, rfl⟩, h⟩
  | succ n ih =>
    intro r h
    simp only [qmemsR, qmemsV] at *
    by_cases hb : r.bad = true
    · rw [if_pos hb] at h; rw [hb] at h; cases h
    · rw [if_neg hb] at h
      rw [if_neg hb]
      obtain ⟨⟨h1, h2⟩, h3⟩ := ih _ h
      obtain ⟨h4, h5⟩ := qmem_ok h3
      exact ⟨⟨by simp [h4, h1], by simp [h2]⟩, h5⟩
theorem fits0 : fitsB 0 = true := by decide
theorem membersB_nil : membersB [] = true := by decide
theorem qbody_ok (k n : Int) (nm : ByteArray) (r : RS) (h : (qbody k n nm r).2.bad = false) (hn : nameB nm = true) (h0 : 0 ≤ n) : mayB (qbody k n nm r).1 = true := by
  unfold qbody at *
  by_cases h1 : k = 1
  · subst h1
    simp only [if_true] at *
    obtain ⟨_, hw⟩ := wantR_ok h
    simp only [Bool.and_eq_true, isE, decide_eq_true_eq, Bool.not_eq_true', decide_eq_false_iff_not] at hw
    have hs : fitsB (numV r) = true := by
      have := hw.2.1
      simp only [sizedB, decide_eq_true_eq] at this
      unfold fitsB; simp; omega
    simp [mayB, hn, hs, fits0, membersB_nil, kindOk, hw.1, hw.2.1]
  · by_cases h2 : k = 2
    · subst h2
      simp only [show ¬ (2 : Int) = 1 from by decide, if_true, if_false] at *
      obtain ⟨hq, hw⟩ := wantR_ok h
      obtain ⟨hs, _⟩ := qsmall_ok hq
      simp only [isE, decide_eq_true_eq] at hw
      simp [mayB, hn, hs, fits0, membersB_nil, kindOk, hw]
    · by_cases h8 : k = 8
      · subst h8
        simp only [show ¬ (8 : Int) = 1 from by decide, show ¬ (8 : Int) = 2 from by decide, if_true, if_false] at *
        obtain ⟨hq, hw⟩ := wantR_ok h
        obtain ⟨hs, _⟩ := qsmall_ok hq
        simp only [isE, Bool.not_eq_true', decide_eq_false_iff_not] at hw
        simp [mayB, hn, hs, fits0, membersB_nil, kindOk, hw]
      · by_cases h3 : k = 3
        · subst h3
          simp only [show ¬ (3 : Int) = 1 from by decide, show ¬ (3 : Int) = 2 from by decide, show ¬ (3 : Int) = 8 from by decide, if_true, if_false] at *
          obtain ⟨hq, hw⟩ := wantR_ok h
          obtain ⟨hs, hq2⟩ := qsmall_ok hq
          obtain ⟨ht, _⟩ := qsmall_ok (numR_ok hq2)
          simp only [isE, Bool.and_eq_true, decide_eq_true_eq] at hw
          simp [mayB, hn, hs, ht, fits0, membersB_nil, kindOk, hw.2.2]
        · by_cases h4 : k = 4
          · subst h4
            simp only [show ¬ (4 : Int) = 1 from by decide, show ¬ (4 : Int) = 2 from by decide, show ¬ (4 : Int) = 8 from by decide, show ¬ (4 : Int) = 3 from by decide, if_true, if_false] at *
            obtain ⟨⟨hm, hl⟩, hq⟩ := qmems_ok _ _ h
            obtain ⟨hq2, hw⟩ := wantR_ok hq
            obtain ⟨hs, _⟩ := qsmall_ok hq2
            simp only [decide_eq_true_eq] at hw
            have hmb : membersB (qmemsV n.toNat (wantR (qsmallR r) (decide (n ≤ 1024)))) = true := by unfold membersB; rw [hm, hl]; simp; omega
            simp [mayB, hn, hs, fits0, kindOk, hmb]
          · simp only [h1, h2, h8, h3, h4, if_false] at h
            cases h
theorem qbody_awake (k n : Int) (nm : ByteArray) (r : RS) (h : (qbody k n nm r).2.bad = false) : r.bad = false := by
  unfold qbody at h
  split at h
  · exact numR_ok (numR_ok (wantR_ok h).1)
  · split at h
    · exact (qsmall_ok (wantR_ok h).1).2
    · split at h
      · exact (qsmall_ok (wantR_ok h).1).2
      · split at h
        · exact numR_ok (qsmall_ok (numR_ok (qsmall_ok (wantR_ok h).1).2)).2
        · split at h
          · exact (qsmall_ok (wantR_ok (qmems_ok _ _ h).2).1).2
          · cases h
theorem qone_ok (r : RS) (h : (qone r).2.bad = false) : mayB (qone r).1 = true := by
  unfold qone at *
  split at h
  · cases h
  · rename_i hs
    rw [if_neg hs]
    have hv := numV_lo (qnameR r)
    exact qbody_ok _ _ _ _ h (qname_ok (numR_ok (qbody_awake _ _ _ _ h))).1 (by omega)
theorem qparseG_may : ∀ (n : Nat) (r : RS) (acc l : List Ty), qparseG n r acc = some l → (r.bad = false → acc.all mayB = true ∧ acc.length ≤ 1024) → l.all mayB = true ∧ l.length ≤ 1024 := by
  intro n
  induction n with
  | zero =>
    intro r acc l h ha
    simp only [qparseG] at h
    split at h
    · cases h
    · cases h; exact ha (by simpa using ‹¬ r.bad = true›)
  | succ n ih =>
    intro r acc l h ha
    simp only [qparseG] at h
    split at h
    · cases h
    · have hb : r.bad = false := by simpa using ‹¬ r.bad = true›
      split at h
      · cases h; exact ha hb
      · refine ih _ _ _ h fun hbad => ?_
        obtain ⟨h1, h2⟩ := wantR_ok hbad
        simp only [decide_eq_true_eq] at h2
        exact ⟨by simp [(ha hb).1, qone_ok r h1], by simpa using h2⟩
theorem qparseF_may (s : List UInt8) (l : List Ty) (h : qparseF s = some l) : l.all mayB = true ∧ l.length ≤ 1024 := by
  unfold qparseF at h
  split at h
  · exact qparseG_may _ _ _ _ h fun _ => ⟨rfl, by simp⟩
  · cases h
theorem qname_at (s : ByteArray) (p : Int) (rest N : List UInt8) (hs : nameB s = true) (hp : p < 4294967296) (h : StandsAt N s.data.toList p) :
    qnameV ⟨le4 p ++ rest, N, false⟩ = s ∧ qnameR ⟨le4 p ++ rest, N, false⟩ = ⟨rest, N, false⟩ := by
  obtain ⟨pre, post, rfl, rfl⟩ := h
  have hs' := hs
  simp only [nameB, Bool.and_eq_true, decide_eq_true_eq] at hs'
  have hno := nameOk_no0 _ hs'.2
  have hn := numV_le4 (pre.length : Int) (by omega) hp rest (pre ++ (s.data.toList ++ 0 :: post)) false
  have hst : qstopB ⟨le4 (pre.length : Int) ++ rest, pre ++ (s.data.toList ++ 0 :: post), false⟩ = false := by
    unfold qstopB
    rw [hn, numR_le4]
    simp only [List.length_append, List.length_cons, Bool.false_or, decide_eq_false_iff_not]
    omega
  have hrest : qrest ⟨le4 (pre.length : Int) ++ rest, pre ++ (s.data.toList ++ 0 :: post), false⟩ = s.data.toList ++ 0 :: post := by
    unfold qrest
    rw [hn, Int.toNat_natCast]
    exact List.drop_left
  have hc : (s.data.toList ++ 0 :: post).contains 0 = true := by simp
  constructor
  · unfold qnameV
    rw [hst, hrest, hc, takeWhile_stop _ _ hno, bstr_of]
    rfl
  · unfold qnameR
    rw [hst, hrest, hc, takeWhile_stop _ _ hno, bstr_of, hs, numR_le4]
    rfl
theorem qsmall_at (n : Int) (h0 : 0 ≤ n) (h1 : n ≤ 2147483647) (rest N : List UInt8) : numV ⟨le4 n ++ rest, N, false⟩ = n ∧ qsmallR ⟨le4 n ++ rest, N, false⟩ = ⟨rest, N, false⟩ := by
  have e := numV_le4 n h0 (by omega) rest N false
  refine ⟨e, ?_⟩
  unfold qsmallR
  rw [e, numR_le4, decide_eq_true h1]
  simp [wantR]
theorem qmem_at (m : Mem) (pl : List UInt8 → Int) (rest N : List UInt8) (hm : memB m = true) (hp : pl m.name.data.toList < 4294967296) (h : StandsAt N m.name.data.toList (pl m.name.data.toList)) :
    qmemV ⟨le4s [pl m.name.data.toList, m.ty, m.off] ++ rest, N, false⟩ = m ∧ qmemR ⟨le4s [pl m.name.data.toList, m.ty, m.off] ++ rest, N, false⟩ = ⟨rest, N, false⟩ := by
  simp only [memB, Bool.and_eq_true, fitsB, decide_eq_true_eq] at hm
  obtain ⟨⟨hn, ht0, ht1⟩, ho0, ho1⟩ := hm
  have e : le4s [pl m.name.data.toList, m.ty, m.off] ++ rest = le4 (pl m.name.data.toList) ++ (le4 m.ty ++ (le4 m.off ++ rest)) := by simp [le4s]
  rw [e]
  obtain ⟨h1, h2⟩ := qname_at m.name (pl m.name.data.toList) (le4 m.ty ++ (le4 m.off ++ rest)) N hn hp h
  obtain ⟨h3, h4⟩ := qsmall_at m.ty ht0 ht1 (le4 m.off ++ rest) N
  obtain ⟨h5, h6⟩ := qsmall_at m.off ho0 ho1 rest N
  constructor
  · unfold qmemV
    rw [h1, h2, h3, h4, h5]
  · unfold qmemR
    rw [h2, h4, h6]
theorem qmems_at (pl : List UInt8 → Int) (N : List UInt8) : ∀ (ms : List Mem) (rest : List UInt8), ms.all memB = true → (∀ m ∈ ms, pl m.name.data.toList < 4294967296 ∧ StandsAt N m.name.data.toList (pl m.name.data.toList)) →
    qmemsV ms.length ⟨(ms.flatMap fun m => le4s [pl m.name.data.toList, m.ty, m.off]) ++ rest, N, false⟩ = ms ∧ qmemsR ms.length ⟨(ms.flatMap fun m => le4s [pl m.name.data.toList, m.ty, m.off]) ++ rest, N, false⟩ = ⟨rest, N, false⟩ := by
  intro ms
  induction ms with
  | nil => intro rest _ _; exact ⟨rfl, rfl⟩
  | cons m ms ih =>
    intro rest hall hp
    simp only [List.all_cons, Bool.and_eq_true] at hall
    obtain ⟨h1, h2⟩ := qmem_at m pl ((ms.flatMap fun m => le4s [pl m.name.data.toList, m.ty, m.off]) ++ rest) N hall.1 (hp m (by simp)).1 (hp m (by simp)).2
    obtain ⟨i1, i2⟩ := ih rest hall.2 (fun x hx => hp x (by simp [hx]))
    simp only [List.flatMap_cons, List.append_assoc, List.length_cons, qmemsV, qmemsR, Bool.false_eq_true, if_false]
    rw [h1, h2, i1, i2]
    exact ⟨rfl, rfl⟩
theorem qbody_at (t : Ty) (ms rest N : List UInt8) (h : mayB t = true) (hm : qmemsV t.mems.length ⟨ms ++ rest, N, false⟩ = t.mems ∧ qmemsR t.mems.length ⟨ms ++ rest, N, false⟩ = ⟨rest, N, false⟩) (hms : t.mems = [] → ms = []) :
    qbody t.kind t.mems.length t.name ⟨le4s (kindNums t) ++ (ms ++ rest), N, false⟩ = (t, ⟨rest, N, false⟩) := by
  have h' := h
  simp only [mayB, Bool.and_eq_true, fitsB, decide_eq_true_eq] at h
  obtain ⟨⟨⟨⟨⟨_, hs0, hs1⟩, ht0, ht1⟩, hc0, hc1⟩, hmb⟩, hk⟩ := h
  obtain ⟨kind, name, size, ty, count, mems⟩ := t
  simp only at hs0 hs1 ht0 ht1 hc0 hc1
  rcases kind_of _ hk with h1 | h1 | h1 | h1 | h1
  all_goals
    simp only at h1
    subst h1
    simp [kindOk] at hk
    simp only [kindNums, if_true, show ¬ (2 : Int) = 1 from by decide, show ¬ (8 : Int) = 1 from by decide, show ¬ (8 : Int) = 2 from by decide, show ¬ (3 : Int) = 1 from by decide, show ¬ (3 : Int) = 2 from by decide, show ¬ (3 : Int) = 8 from by decide, show ¬ (4 : Int) = 1 from by decide, show ¬ (4 : Int) = 2 from by decide, show ¬ (4 : Int) = 8 from by decide, show ¬ (4 : Int) = 3 from by decide, if_false, le4s, List.flatMap_cons, List.flatMap_nil, List.append_nil, List.append_assoc]
    simp only [qbody, if_true, show ¬ (2 : Int) = 1 from by decide, show ¬ (8 : Int) = 1 from by decide, show ¬ (8 : Int) = 2 from by decide, show ¬ (3 : Int) = 1 from by decide, show ¬ (3 : Int) = 2 from by decide, show ¬ (3 : Int) = 8 from by decide, show ¬ (4 : Int) = 1 from by decide, show ¬ (4 : Int) = 2 from by decide, show ¬ (4 : Int) = 8 from by decide, show ¬ (4 : Int) = 3 from by decide, if_false]
  · obtain ⟨⟨⟨⟨hne, hz⟩, rfl⟩, rfl⟩, rfl⟩ := hk
    have hms' := hms rfl
    subst hms'
    have hz8 : size = 1 ∨ size = 2 ∨ size = 4 ∨ size = 8 := by simpa [sizedB] using hz
    rw [List.nil_append, numV_le4 size hs0 (by omega), numR_le4, numV_le4 (8 * size) (by omega) (by omega), numR_le4]
    simp [wantR, isE, hne, hz]
  · obtain ⟨⟨⟨hne, rfl⟩, rfl⟩, rfl⟩ := hk
    have hms' := hms rfl
    subst hms'
    obtain ⟨e1, e2⟩ := qsmall_at ty ht0 ht1 ([] ++ rest) N
    rw [e1, e2]
    simp [wantR, isE, hne]
  · obtain ⟨⟨⟨hne, rfl⟩, rfl⟩, rfl⟩ := hk
    have hms' := hms rfl
    subst hms'
    obtain ⟨e1, e2⟩ := qsmall_at ty ht0 ht1 ([] ++ rest) N
    rw [e1, e2]
    simp [wantR, isE, hne]
  · obtain ⟨⟨hne, rfl⟩, rfl⟩ := hk
    have hms' := hms rfl
    subst hms'
    obtain ⟨e1, e2⟩ := qsmall_at ty ht0 ht1 (le4 0 ++ (le4 count ++ ([] ++ rest))) N
    obtain ⟨e3, e4⟩ := qsmall_at count hc0 hc1 ([] ++ rest) N
    rw [numV_le4 0 (by omega) (by omega), numR_le4, e1, e2, numV_le4 0 (by omega) (by omega), numR_le4, e3, e4]
    simp [wantR, isE, hne]
  · obtain ⟨rfl, rfl⟩ := hk
    obtain ⟨e1, e2⟩ := qsmall_at size hs0 hs1 (ms ++ rest) N
    have hn : (mems.length : Int) ≤ 1024 := by simp only [membersB, Bool.and_eq_true, decide_eq_true_eq] at hmb; omega
    have e3 : wantR ⟨ms ++ rest, N, false⟩ (decide ((mems.length : Int) ≤ 1024)) = ⟨ms ++ rest, N, false⟩ := by rw [decide_eq_true hn]; simp [wantR]
    rw [e1, e2, e3, Int.toNat_natCast, hm.1, hm.2]
theorem qone_at (t : Ty) (pl : List UInt8 → Int) (rest N : List UInt8) (h : mayB t = true) (hp : pl t.name.data.toList < 4294967296) (hs : StandsAt N t.name.data.toList (pl t.name.data.toList))
    (hm : ∀ m ∈ t.mems, pl m.name.data.toList < 4294967296 ∧ StandsAt N m.name.data.toList (pl m.name.data.toList)) :
    qone ⟨tyBytes pl t ++ rest, N, false⟩ = (t, ⟨rest, N, false⟩) := by
  have h' := h
  simp only [mayB, Bool.and_eq_true, membersB, decide_eq_true_eq] at h'
  obtain ⟨⟨⟨⟨⟨hn, _⟩, _⟩, _⟩, hml, hma⟩, hk⟩ := h'
  have hkk := kind_of t hk
  obtain ⟨ms, hms⟩ : ∃ ms, ms = (t.mems.flatMap fun m => le4s [pl m.name.data.toList, m.ty, m.off]) := ⟨_, rfl⟩
  have e : tyBytes pl t ++ rest = le4 (pl t.name.data.toList) ++ (le4 (t.kind * 16777216 + t.mems.length) ++ (le4s (kindNums t) ++ (ms ++ rest))) := by
    rw [hms]; simp [tyBytes, le4s]
  obtain ⟨h1, h2⟩ := qname_at t.name (pl t.name.data.toList) (le4 (t.kind * 16777216 + t.mems.length) ++ (le4s (kindNums t) ++ (ms ++ rest))) N hn hp hs
  have hmm := qmems_at pl N t.mems rest hma hm
  rw [← hms] at hmm
  have hb := qbody_at t ms rest N h hmm (fun e => by rw [hms, e]; rfl)
  have hw : numV ⟨le4 (t.kind * 16777216 + t.mems.length) ++ (le4s (kindNums t) ++ (ms ++ rest)), N, false⟩ = t.kind * 16777216 + t.mems.length := numV_le4 _ (by omega) (by omega) _ _ _
  have hkind4 : t.kind ≠ 4 → t.mems.length = 0 := by
    intro h4
    unfold kindOk at hk
    rcases hkk with h1 | h1 | h1 | h1 | h1
    all_goals simp [h1] at hk
    all_goals first | exact absurd h1 h4 | simp [hk.2] | simp [hk]
  have hst : qstop (t.kind * 16777216 + t.mems.length) = false := by
    unfold qstop
    simp only [Bool.or_eq_false_iff, Bool.and_eq_false_iff, decide_eq_false_iff_not, Decidable.not_not]
    refine ⟨by omega, ?_⟩
    by_cases h4 : t.kind = 4
    · right; omega
    · left; have := hkind4 h4; omega
  unfold qone
  rw [e, h2, hw, hst, h1, numR_le4, show (t.kind * 16777216 + (t.mems.length : Int)) / 16777216 = t.kind by omega, show (t.kind * 16777216 + (t.mems.length : Int)) % 65536 = t.mems.length by omega, hb]
  rfl
theorem qtypes_at (pl : List UInt8 → Int) (N : List UInt8) : ∀ (l : List Ty) (n : Nat) (acc : List Ty), l.all mayB = true → acc.length + l.length ≤ 1024 → (l.flatMap (tyBytes pl)).length < n →
    (∀ t ∈ l, (pl t.name.data.toList < 4294967296 ∧ StandsAt N t.name.data.toList (pl t.name.data.toList)) ∧ ∀ m ∈ t.mems, pl m.name.data.toList < 4294967296 ∧ StandsAt N m.name.data.toList (pl m.name.data.toList)) →
    qparseG n ⟨l.flatMap (tyBytes pl), N, false⟩ acc = some (acc ++ l) := by
  intro l
  induction l with
  | nil =>
    intro n acc _ _ hn _
    cases n with
    | zero => simp at hn
    | succ n => simp [qparseG]
  | cons t l ih =>
    intro n acc hall hlen hn hp
    simp only [List.all_cons, Bool.and_eq_true] at hall
    have ht := tyBytes_long pl t
    simp only [List.flatMap_cons, List.length_append] at hn
    obtain ⟨n, rfl⟩ : ∃ m, n = m + 1 := ⟨n - 1, by omega⟩
    obtain ⟨hp0, hpm⟩ := hp t (by simp)
    have h1 := qone_at t pl (l.flatMap (tyBytes pl)) N hall.1 hp0.1 hp0.2 hpm
    simp only [List.flatMap_cons]
    unfold qparseG
    simp only [List.length_cons] at hlen
    rw [if_neg (by simp), if_neg (by simp only [List.length_append]; omega), h1]
    have hw : wantR (⟨l.flatMap (tyBytes pl), N, false⟩ : RS) (decide (acc.length + 1 ≤ 1024)) = ⟨l.flatMap (tyBytes pl), N, false⟩ := by rw [decide_eq_true (by omega)]; simp [wantR]
    simp only [hw]
    rw [ih n (acc ++ [t]) hall.2 (by simp; omega) (by omega) (fun x hx => hp x (by simp [hx]))]
    simp
end Go.Proofs.Ytmfdojmecpdikaa
