/-
  Layer 6, plainly: types as bytes and back.
-/
import Init
namespace Go.Proofs.Ytmfdojmecpdikaa
set_option linter.unusedVariables false
set_option linter.unusedSimpArgs false

def u8 (n : Int) : UInt8 := UInt8.ofNat (n % 256).toNat
def le4 (n : Int) : List UInt8 := [u8 n, u8 (n / 256), u8 (n / 65536), u8 (n / 16777216)]
def le4s (l : List Int) : List UInt8 := l.flatMap le4
def bstr (l : List UInt8) : ByteArray := ⟨l.toArray⟩
theorem bstr_size (l : List UInt8) : (bstr l).size = l.length := by simp [bstr, ByteArray.size]
theorem bstr_data (l : List UInt8) : (bstr l).data.toList = l := by simp [bstr]
theorem bstr_of (s : ByteArray) : bstr s.data.toList = s := by
  obtain ⟨d⟩ := s
  show ByteArray.mk d.toList.toArray = ⟨d⟩
  rw [Array.toArray_toList]
theorem size_list (s : ByteArray) : s.data.toList.length = s.size := by rw [Array.length_toList]; rfl

structure Mem where
  name : ByteArray
  ty : Int
  off : Int
structure Ty where
  kind : Int
  name : ByteArray
  size : Int
  ty : Int
  count : Int
  mems : List Mem

def letterB (c : UInt8) : Bool := (65 ≤ c.toNat && c.toNat ≤ 90) || (97 ≤ c.toNat && c.toNat ≤ 122) || c.toNat == 95
def digitB (c : UInt8) : Bool := 48 ≤ c.toNat && c.toNat ≤ 57
def nameOk : List UInt8 → Bool
  | [] => true
  | c :: r => letterB c && r.all fun c => letterB c || digitB c
def nameB (s : ByteArray) : Bool := decide (s.size ≤ 128) && nameOk s.data.toList
def fitsB (n : Int) : Bool := decide (0 ≤ n ∧ n ≤ 2147483647)
def sizedB (n : Int) : Bool := decide (n = 1 ∨ n = 2 ∨ n = 4 ∨ n = 8)
def memB (m : Mem) : Bool := nameB m.name && fitsB m.ty && fitsB m.off
def membersB (l : List Mem) : Bool := decide (l.length ≤ 1024) && l.all memB
def kindOk (t : Ty) : Bool :=
  if t.kind = 1 then decide (t.name.size ≠ 0) && sizedB t.size && decide (t.ty = 0) && decide (t.count = 0) && decide (t.mems.length = 0)
  else if t.kind = 2 then decide (t.name.size = 0) && decide (t.size = 0) && decide (t.count = 0) && decide (t.mems.length = 0)
  else if t.kind = 8 then decide (t.name.size ≠ 0) && decide (t.size = 0) && decide (t.count = 0) && decide (t.mems.length = 0)
  else if t.kind = 3 then decide (t.name.size = 0) && decide (t.size = 0) && decide (t.mems.length = 0)
  else if t.kind = 4 then decide (t.ty = 0) && decide (t.count = 0)
  else false
def mayB (t : Ty) : Bool := nameB t.name && fitsB t.size && fitsB t.ty && fitsB t.count && membersB t.mems && kindOk t

/- The writer. -/
structure WS where
  ts : List UInt8
  ns : List UInt8
  es : List (List UInt8 × Int)
def findE (es : List (List UInt8 × Int)) (s : List UInt8) : Option Int := es.lookup s
def placeP (w : WS) (s : List UInt8) : Int := match findE w.es s with | some p => p | none => w.ns.length
def placeW (w : WS) (s : List UInt8) : WS := match findE w.es s with | some p => w | none => ⟨w.ts, w.ns ++ s ++ [0], (s, (w.ns.length : Int)) :: w.es⟩
def numsW (w : WS) (l : List Int) : WS := ⟨w.ts ++ le4s l, w.ns, w.es⟩
def kindNums (t : Ty) : List Int :=
  if t.kind = 1 then [t.size, 8 * t.size] else if t.kind = 2 then [t.ty] else if t.kind = 8 then [t.ty] else if t.kind = 3 then [0, t.ty, 0, t.count] else if t.kind = 4 then [t.size] else []
def memW (w : WS) (m : Mem) : WS := numsW (placeW w m.name.data.toList) [placeP w m.name.data.toList, m.ty, m.off]
def headW (w : WS) (t : Ty) : WS := numsW (placeW w t.name.data.toList) [placeP w t.name.data.toList, t.kind * 16777216 + t.mems.length]
def putW (w : WS) (t : Ty) : WS := t.mems.foldl memW (numsW (headW w t) (kindNums t))
def newW : WS := ⟨[], [0], [([], 0)]⟩
def opening : List UInt8 := [159, 235, 1, 0, 24, 0, 0, 0]
def blobW (w : WS) : List UInt8 := opening ++ le4s [0, w.ts.length, w.ts.length, w.ns.length] ++ w.ts ++ w.ns
def buildF (l : List Ty) : List UInt8 := blobW (l.foldl putW newW)

/- The reader. -/
structure RS where
  ts : List UInt8
  ns : List UInt8
  bad : Bool
def num4 (l : List UInt8) : Int := (l.getD 0 0).toNat + (l.getD 1 0).toNat * 256 + (l.getD 2 0).toNat * 65536 + (l.getD 3 0).toNat * 16777216
def numV (r : RS) : Int := if r.ts.length < 4 then 0 else num4 r.ts
def numR (r : RS) : RS := if r.ts.length < 4 then ⟨r.ts, r.ns, true⟩ else ⟨r.ts.drop 4, r.ns, r.bad⟩
def wantR (r : RS) (b : Bool) : RS := ⟨r.ts, r.ns, r.bad || !b⟩
def pieceOf (ns : List UInt8) (p : Nat) : List UInt8 := (ns.drop p).take 129
def nameV (r : RS) : ByteArray := if (r.ns.length : Int) ≤ numV r then bstr [] else bstr ((pieceOf r.ns (numV r).toNat).takeWhile (· != 0))
def nameR (r : RS) : RS := if (r.ns.length : Int) ≤ numV r then ⟨(numR r).ts, (numR r).ns, true⟩ else wantR (numR r) ((pieceOf r.ns (numV r).toNat).contains 0)
def memV (r : RS) : Mem := ⟨nameV r, numV (nameR r), numV (numR (nameR r))⟩
def memR (r : RS) : RS := numR (numR (nameR r))
def memsV : Nat → RS → List Mem
  | 0, r => []
  | n + 1, r => memV r :: memsV n (memR r)
def memsR : Nat → RS → RS
  | 0, r => r
  | n + 1, r => memsR n (memR r)
structure Bd where
  size : Int
  ty : Int
  count : Int
def bodyV (k : Int) (r : RS) : Bd :=
  if k = 3 then ⟨0, numV (wantR (numR r) (numV r == 0)), numV (wantR (numR (numR (wantR (numR r) (numV r == 0)))) (numV (numR (wantR (numR r) (numV r == 0))) == 0))⟩
  else if k = 1 then ⟨numV r, 0, 0⟩ else if k = 4 then ⟨numV r, 0, 0⟩ else if k = 2 then ⟨0, numV r, 0⟩ else if k = 8 then ⟨0, numV r, 0⟩ else ⟨0, 0, 0⟩
def bodyR (k : Int) (r : RS) : RS :=
  if k = 3 then numR (wantR (numR (numR (wantR (numR r) (numV r == 0)))) (numV (numR (wantR (numR r) (numV r == 0))) == 0))
  else if k = 1 then wantR (numR (numR r)) (numV (numR r) == 8 * numV r) else numR r
def wordV (r : RS) : Int := numV (nameR r)
def kindV (r : RS) : Int := wordV r / 16777216
def partsV (r : RS) : Int := wordV r % 16777216
def body0 (r : RS) : RS := numR (nameR r)
def nextV (r : RS) : Ty :=
  if 1024 < partsV r then ⟨kindV r, nameV r, 0, 0, 0, []⟩
  else ⟨kindV r, nameV r, (bodyV (kindV r) (body0 r)).size, (bodyV (kindV r) (body0 r)).ty, (bodyV (kindV r) (body0 r)).count, memsV (partsV r).toNat (bodyR (kindV r) (body0 r))⟩
def nextR (r : RS) : RS :=
  if 1024 < partsV r then ⟨(body0 r).ts, (body0 r).ns, true⟩ else memsR (partsV r).toNat (bodyR (kindV r) (body0 r))
def partOf (s : List UInt8) (p n : Int) : List UInt8 := (s.drop p.toNat).take n.toNat
def liesIn (s : List UInt8) (p n : Int) : Bool := decide (p + n ≤ s.length)
def headZero : List UInt8 → Bool
  | [] => false
  | c :: _ => c == 0
def openB (s : List UInt8) : Bool :=
  decide (24 ≤ s.length) && (s.take 8 == opening) && liesIn (s.drop 24) (num4 (s.drop 8)) (num4 (s.drop 12)) && liesIn (s.drop 24) (num4 (s.drop 16)) (num4 (s.drop 20)) &&
    headZero (partOf (s.drop 24) (num4 (s.drop 16)) (num4 (s.drop 20)))
def openV (s : List UInt8) : RS := ⟨partOf (s.drop 24) (num4 (s.drop 8)) (num4 (s.drop 12)), partOf (s.drop 24) (num4 (s.drop 16)) (num4 (s.drop 20)), false⟩
def stopB (r : RS) (n : Nat) : Bool := (nextR r).bad || !mayB (nextV r) || decide (n = 1024)
def parseG : Nat → RS → List Ty → Option (List Ty)
  | 0, r, acc => if r.ts.length = 0 then some acc else none
  | n + 1, r, acc => if r.ts.length = 0 then some acc else if stopB r acc.length = true then none else parseG n (nextR r) (acc ++ [nextV r])
def parseF (s : List UInt8) : Option (List Ty) := if openB s = true then parseG (openV s).ts.length (openV s) [] else none

/- A reader never gets more; a name and a number take four bytes, or the mark stands. -/
theorem numR_len (r : RS) : (numR r).ts.length ≤ r.ts.length := by unfold numR; split <;> simp
theorem numR_bad (r : RS) (h : r.bad = true) : (numR r).bad = true := by unfold numR; split <;> simp [h]
theorem wantR_bad (r : RS) (b : Bool) (h : r.bad = true) : (wantR r b).bad = true := by simp [wantR, h]
theorem nameR_len (r : RS) : (nameR r).ts.length ≤ r.ts.length := by unfold nameR; split <;> exact numR_len r
theorem nameR_bad (r : RS) (h : r.bad = true) : (nameR r).bad = true := by unfold nameR; split <;> simp [wantR, numR_bad r h]
theorem nameR_eats (r : RS) (h : 0 < r.ts.length) (hb : (nameR r).bad = false) : (nameR r).ts.length < r.ts.length := by
  unfold nameR at *
  split at hb
  · cases hb
  · rw [if_neg ‹_›]
    simp only [wantR, Bool.or_eq_false_iff] at hb ⊢
    obtain ⟨hb, _⟩ := hb
    unfold numR at *
    split at hb
    · cases hb
    · rw [if_neg ‹_›]; simp; omega
theorem memR_len (r : RS) : (memR r).ts.length ≤ r.ts.length := Nat.le_trans (numR_len _) (Nat.le_trans (numR_len _) (nameR_len _))
theorem memR_bad (r : RS) (h : r.bad = true) : (memR r).bad = true := numR_bad _ (numR_bad _ (nameR_bad _ h))
theorem memsR_len : ∀ (n : Nat) (r : RS), (memsR n r).ts.length ≤ r.ts.length
  | 0, r => Nat.le_refl _
  | n + 1, r => Nat.le_trans (memsR_len n _) (memR_len r)
theorem memsR_bad : ∀ (n : Nat) (r : RS), r.bad = true → (memsR n r).bad = true
  | 0, r, h => h
  | n + 1, r, h => memsR_bad n _ (memR_bad r h)
theorem bodyR_len (k : Int) (r : RS) : (bodyR k r).ts.length ≤ r.ts.length := by
  unfold bodyR
  split
  · refine Nat.le_trans (numR_len _) ?_
    show (numR (numR (wantR (numR r) (numV r == 0)))).ts.length ≤ _
    refine Nat.le_trans (numR_len _) (Nat.le_trans (numR_len _) ?_)
    exact numR_len r
  · split
    · exact Nat.le_trans (numR_len _) (numR_len r)
    · exact numR_len r
theorem bodyR_bad (k : Int) (r : RS) (h : r.bad = true) : (bodyR k r).bad = true := by
  unfold bodyR
  split
  · exact numR_bad _ (wantR_bad _ _ (numR_bad _ (numR_bad _ (wantR_bad _ _ (numR_bad _ h)))))
  · split
    · exact wantR_bad _ _ (numR_bad _ (numR_bad _ h))
    · exact numR_bad _ h
theorem nextR_eats (r : RS) (h : 0 < r.ts.length) (hb : (nextR r).bad = false) : (nextR r).ts.length < r.ts.length := by
  unfold nextR at *
  split at hb
  · cases hb
  · rw [if_neg ‹_›]
    have h1 : (nameR r).bad = false := by
      cases h1 : (nameR r).bad
      · rfl
      · have e := memsR_bad (partsV r).toNat _ (bodyR_bad (kindV r) _ (numR_bad _ h1))
        rw [show bodyR (kindV r) (numR (nameR r)) = bodyR (kindV r) (body0 r) from rfl] at e
        rw [e] at hb; cases hb
    have h2 := nameR_eats r h h1
    have h3 := memsR_len (partsV r).toNat (bodyR (kindV r) (body0 r))
    have h4 := bodyR_len (kindV r) (body0 r)
    have h5 : (body0 r).ts.length ≤ _ := numR_len (nameR r)
    omega

/- What Parse tells may be. -/
theorem parseG_may : ∀ (n : Nat) (r : RS) (acc l : List Ty), parseG n r acc = some l → acc.all mayB = true → acc.length ≤ 1024 → l.all mayB = true ∧ l.length ≤ 1024 := by
  intro n
  induction n with
  | zero =>
    intro r acc l h ha hl
    simp only [parseG] at h
    split at h
    · cases h; exact ⟨ha, hl⟩
    · cases h
  | succ n ih =>
    intro r acc l h ha hl
    simp only [parseG] at h
    split at h
    · cases h; exact ⟨ha, hl⟩
    · split at h
      · cases h
      · rename_i hs
        simp only [stopB, Bool.or_eq_true, Bool.not_eq_true', decide_eq_true_eq, not_or] at hs
        refine ih _ _ _ h ?_ ?_
        · simp only [List.all_append, ha, List.all_cons, List.all_nil, Bool.and_true, Bool.true_and]
          cases hm : mayB (nextV r)
          · exact absurd hm hs.1.2
          · rfl
        · simp; omega
theorem parseF_may (s : List UInt8) (l : List Ty) (h : parseF s = some l) : l.all mayB = true ∧ l.length ≤ 1024 := by
  unfold parseF at h
  split at h
  · exact parseG_may _ _ _ _ h rfl (by simp)
  · cases h

/- There and back. -/
theorem toNat_u8 (n : Int) : ((u8 n).toNat : Int) = n % 256 := by
  unfold u8
  rw [UInt8.toNat_ofNat']
  omega
theorem le4_length (n : Int) : (le4 n).length = 4 := rfl
theorem num4_le4 (n : Int) (h0 : 0 ≤ n) (h1 : n < 4294967296) (rest : List UInt8) : num4 (le4 n ++ rest) = n := by
  simp only [num4, le4, List.cons_append, List.nil_append, List.getD_cons_zero, List.getD_cons_succ, toNat_u8]
  omega
theorem numV_le4 (n : Int) (h0 : 0 ≤ n) (h1 : n < 4294967296) (rest N : List UInt8) (b : Bool) : numV ⟨le4 n ++ rest, N, b⟩ = n := by
  unfold numV
  rw [if_neg (by simp [le4_length]), num4_le4 n h0 h1]
theorem numR_le4 (n : Int) (rest N : List UInt8) (b : Bool) : numR ⟨le4 n ++ rest, N, b⟩ = ⟨rest, N, b⟩ := by
  unfold numR
  rw [if_neg (by simp [le4_length])]
  rfl
/-- The name s stands at p of N. -/
def StandsAt (N s : List UInt8) (p : Int) : Prop := ∃ pre post, N = pre ++ (s ++ 0 :: post) ∧ p = pre.length
theorem StandsAt.more {N s : List UInt8} {p : Int} (h : StandsAt N s p) (x : List UInt8) : StandsAt (N ++ x) s p := by
  obtain ⟨pre, post, rfl, rfl⟩ := h
  exact ⟨pre, post ++ x, by simp, rfl⟩
theorem nameOk_no0 (s : List UInt8) (h : nameOk s = true) : ∀ c ∈ s, c ≠ 0 := by
  have l0 : letterB 0 = false := by decide
  have d0 : digitB 0 = false := by decide
  intro c hc e
  subst e
  cases s with
  | nil => cases hc
  | cons a r =>
    simp only [nameOk, Bool.and_eq_true, List.all_eq_true, Bool.or_eq_true] at h
    rcases List.mem_cons.1 hc with rfl | hc
    · rw [l0] at h; cases h.1
    · have := h.2 _ hc
      simp [l0, d0] at this
theorem takeWhile_stop (s post : List UInt8) (h : ∀ c ∈ s, c ≠ 0) : (s ++ 0 :: post).takeWhile (· != 0) = s := by
  induction s with
  | nil => simp
  | cons a r ih =>
    have ha : a ≠ 0 := h a (by simp)
    simp [ha]
    exact ih (fun c hc => h c (by simp [hc]))
theorem piece_at (pre s post : List UInt8) (hs : s.length ≤ 128) : pieceOf (pre ++ (s ++ 0 :: post)) pre.length = s ++ 0 :: post.take (128 - s.length) := by
  unfold pieceOf
  rw [List.drop_left, List.take_append, List.take_of_length_le (by omega)]
  rw [show 129 - s.length = (128 - s.length) + 1 by omega]
  rfl
theorem name_at (s : ByteArray) (p : Int) (rest N : List UInt8) (hs : nameB s = true) (hp : p < 4294967296) (h : StandsAt N s.data.toList p) :
    nameV ⟨le4 p ++ rest, N, false⟩ = s ∧ nameR ⟨le4 p ++ rest, N, false⟩ = ⟨rest, N, false⟩ := by
  obtain ⟨pre, post, rfl, rfl⟩ := h
  simp only [nameB, Bool.and_eq_true, decide_eq_true_eq] at hs
  obtain ⟨hl, hok⟩ := hs
  have hno := nameOk_no0 _ hok
  have hn := numV_le4 (pre.length : Int) (by omega) hp rest (pre ++ (s.data.toList ++ 0 :: post)) false
  have hpc := piece_at pre s.data.toList post (by rw [size_list]; exact hl)
  have hlt : ¬ (((pre ++ (s.data.toList ++ 0 :: post)).length : Int) ≤ (pre.length : Int)) := by
    simp only [List.length_append, List.length_cons]; omega
  constructor
  · unfold nameV
    rw [hn, if_neg hlt]
    simp only [Int.toNat_natCast]
    rw [hpc, takeWhile_stop _ _ hno, bstr_of]
  · unfold nameR
    rw [hn, if_neg hlt, numR_le4]
    simp only [Int.toNat_natCast, wantR]
    rw [hpc]
    simp

/- What is laid of a type, where each name's place is known. -/
def tyBytes (pl : List UInt8 → Int) (t : Ty) : List UInt8 :=
  le4s [pl t.name.data.toList, t.kind * 16777216 + t.mems.length] ++ le4s (kindNums t) ++ t.mems.flatMap fun m => le4s [pl m.name.data.toList, m.ty, m.off]
theorem mem_at (m : Mem) (pl : List UInt8 → Int) (rest N : List UInt8) (hm : memB m = true) (hp : pl m.name.data.toList < 4294967296) (h : StandsAt N m.name.data.toList (pl m.name.data.toList)) :
    memV ⟨le4s [pl m.name.data.toList, m.ty, m.off] ++ rest, N, false⟩ = m ∧ memR ⟨le4s [pl m.name.data.toList, m.ty, m.off] ++ rest, N, false⟩ = ⟨rest, N, false⟩ := by
  simp only [memB, Bool.and_eq_true, fitsB, decide_eq_true_eq] at hm
  obtain ⟨⟨hn, ht0, ht1⟩, ho0, ho1⟩ := hm
  have e : le4s [pl m.name.data.toList, m.ty, m.off] ++ rest = le4 (pl m.name.data.toList) ++ (le4 m.ty ++ (le4 m.off ++ rest)) := by simp [le4s]
  rw [e]
  obtain ⟨h1, h2⟩ := name_at m.name (pl m.name.data.toList) (le4 m.ty ++ (le4 m.off ++ rest)) N hn hp h
  constructor
  · unfold memV
    rw [h1, h2, numV_le4 _ ht0 (by omega), numR_le4, numV_le4 _ ho0 (by omega)]
  · unfold memR
    rw [h2, numR_le4, numR_le4]
theorem mems_at (pl : List UInt8 → Int) (N : List UInt8) : ∀ (ms : List Mem) (rest : List UInt8), ms.all memB = true → (∀ m ∈ ms, pl m.name.data.toList < 4294967296 ∧ StandsAt N m.name.data.toList (pl m.name.data.toList)) →
    memsV ms.length ⟨(ms.flatMap fun m => le4s [pl m.name.data.toList, m.ty, m.off]) ++ rest, N, false⟩ = ms ∧ memsR ms.length ⟨(ms.flatMap fun m => le4s [pl m.name.data.toList, m.ty, m.off]) ++ rest, N, false⟩ = ⟨rest, N, false⟩ := by
  intro ms
  induction ms with
  | nil => intro rest _ _; exact ⟨rfl, rfl⟩
  | cons m ms ih =>
    intro rest hall hp
    simp only [List.all_cons, Bool.and_eq_true] at hall
    obtain ⟨h1, h2⟩ := mem_at m pl ((ms.flatMap fun m => le4s [pl m.name.data.toList, m.ty, m.off]) ++ rest) N hall.1 (hp m (by simp)).1 (hp m (by simp)).2
    obtain ⟨i1, i2⟩ := ih rest hall.2 (fun x hx => hp x (by simp [hx]))
    simp only [List.flatMap_cons, List.append_assoc, List.length_cons, memsV, memsR]
    rw [h1, h2, i1, i2]
    exact ⟨rfl, rfl⟩

theorem kind_of (t : Ty) (h : kindOk t = true) : t.kind = 1 ∨ t.kind = 2 ∨ t.kind = 8 ∨ t.kind = 3 ∨ t.kind = 4 := by
  unfold kindOk at h
  split at h
  · exact .inl ‹_›
  · split at h
    · exact .inr (.inl ‹_›)
    · split at h
      · exact .inr (.inr (.inl ‹_›))
      · split at h
        · exact .inr (.inr (.inr (.inl ‹_›)))
        · split at h
          · exact .inr (.inr (.inr (.inr ‹_›)))
          · cases h
theorem body_at (t : Ty) (rest N : List UInt8) (h : mayB t = true) :
    bodyV t.kind ⟨le4s (kindNums t) ++ rest, N, false⟩ = ⟨t.size, t.ty, t.count⟩ ∧ bodyR t.kind ⟨le4s (kindNums t) ++ rest, N, false⟩ = ⟨rest, N, false⟩ := by
  simp only [mayB, Bool.and_eq_true, fitsB, decide_eq_true_eq] at h
  obtain ⟨⟨⟨⟨⟨_, hs0, hs1⟩, ht0, ht1⟩, hc0, hc1⟩, _⟩, hk⟩ := h
  obtain ⟨kind, name, size, ty, count, mems⟩ := t
  simp only at hs0 hs1 ht0 ht1 hc0 hc1
  rcases kind_of _ hk with h1 | h1 | h1 | h1 | h1
  all_goals
    simp only at h1
    subst h1
    simp [kindOk, sizedB] at hk
    simp only [kindNums, if_true, show ¬ (2 : Int) = 1 from by decide, show ¬ (8 : Int) = 1 from by decide, show ¬ (8 : Int) = 2 from by decide, show ¬ (3 : Int) = 1 from by decide, show ¬ (3 : Int) = 2 from by decide, show ¬ (3 : Int) = 8 from by decide, show ¬ (4 : Int) = 1 from by decide, show ¬ (4 : Int) = 2 from by decide, show ¬ (4 : Int) = 8 from by decide, show ¬ (4 : Int) = 3 from by decide, if_false, le4s, List.flatMap_cons, List.flatMap_nil, List.append_nil, List.append_assoc]
    simp only [bodyV, bodyR, if_true, show ¬ (1 : Int) = 3 from by decide, show ¬ (2 : Int) = 3 from by decide, show ¬ (2 : Int) = 4 from by decide, show ¬ (2 : Int) = 1 from by decide, show ¬ (8 : Int) = 3 from by decide, show ¬ (8 : Int) = 4 from by decide, show ¬ (8 : Int) = 1 from by decide, show ¬ (8 : Int) = 2 from by decide, show ¬ (4 : Int) = 3 from by decide, show ¬ (4 : Int) = 1 from by decide, if_false]
  · obtain ⟨⟨⟨⟨_, hz⟩, rfl⟩, rfl⟩, _⟩ := hk
    rw [numV_le4 size hs0 (by omega), numR_le4, numV_le4 (8 * size) (by omega) (by omega), numR_le4]
    exact ⟨rfl, by simp [wantR]⟩
  · obtain ⟨⟨⟨_, rfl⟩, rfl⟩, _⟩ := hk
    rw [numV_le4 ty ht0 (by omega), numR_le4]
    exact ⟨rfl, rfl⟩
  · obtain ⟨⟨⟨_, rfl⟩, rfl⟩, _⟩ := hk
    rw [numV_le4 ty ht0 (by omega), numR_le4]
    exact ⟨rfl, rfl⟩
  · obtain ⟨⟨_, rfl⟩, _⟩ := hk
    have w0 : wantR ⟨le4 ty ++ (le4 0 ++ (le4 count ++ rest)), N, false⟩ ((0 : Int) == 0) = ⟨le4 ty ++ (le4 0 ++ (le4 count ++ rest)), N, false⟩ := by simp [wantR]
    have w1 : wantR ⟨le4 count ++ rest, N, false⟩ ((0 : Int) == 0) = ⟨le4 count ++ rest, N, false⟩ := by simp [wantR]
    rw [numV_le4 0 (by omega) (by omega), numR_le4, w0, numV_le4 ty ht0 (by omega), numR_le4, numV_le4 0 (by omega) (by omega), numR_le4, w1, numV_le4 count hc0 (by omega), numR_le4]
    exact ⟨rfl, rfl⟩
  · obtain ⟨rfl, rfl⟩ := hk
    rw [numV_le4 size hs0 (by omega), numR_le4]
    exact ⟨rfl, rfl⟩
theorem next_at (t : Ty) (pl : List UInt8 → Int) (rest N : List UInt8) (h : mayB t = true) (hp : pl t.name.data.toList < 4294967296) (hs : StandsAt N t.name.data.toList (pl t.name.data.toList))
    (hm : ∀ m ∈ t.mems, pl m.name.data.toList < 4294967296 ∧ StandsAt N m.name.data.toList (pl m.name.data.toList)) :
    nextV ⟨tyBytes pl t ++ rest, N, false⟩ = t ∧ nextR ⟨tyBytes pl t ++ rest, N, false⟩ = ⟨rest, N, false⟩ := by
  have h' := h
  simp only [mayB, Bool.and_eq_true, membersB, decide_eq_true_eq] at h'
  obtain ⟨⟨⟨⟨⟨hn, _⟩, _⟩, _⟩, hml, hma⟩, hk⟩ := h'
  have hkk := kind_of t hk
  obtain ⟨R, hR⟩ : ∃ R, R = (t.mems.flatMap fun m => le4s [pl m.name.data.toList, m.ty, m.off]) ++ rest := ⟨_, rfl⟩
  have e : tyBytes pl t ++ rest = le4 (pl t.name.data.toList) ++ (le4 (t.kind * 16777216 + t.mems.length) ++ (le4s (kindNums t) ++ R)) := by
    rw [hR]; simp [tyBytes, le4s]
  rw [e]
  obtain ⟨h1, h2⟩ := name_at t.name (pl t.name.data.toList) (le4 (t.kind * 16777216 + t.mems.length) ++ (le4s (kindNums t) ++ R)) N hn hp hs
  have hw0 : 0 ≤ t.kind * 16777216 + (t.mems.length : Int) := by omega
  have hw1 : t.kind * 16777216 + (t.mems.length : Int) < 4294967296 := by omega
  have hw : wordV ⟨le4 (pl t.name.data.toList) ++ (le4 (t.kind * 16777216 + t.mems.length) ++ (le4s (kindNums t) ++ R)), N, false⟩ = t.kind * 16777216 + t.mems.length := by
    unfold wordV; rw [h2, numV_le4 _ hw0 hw1]
  have hkv : kindV ⟨le4 (pl t.name.data.toList) ++ (le4 (t.kind * 16777216 + t.mems.length) ++ (le4s (kindNums t) ++ R)), N, false⟩ = t.kind := by
    unfold kindV; rw [hw]; omega
  have hpv : partsV ⟨le4 (pl t.name.data.toList) ++ (le4 (t.kind * 16777216 + t.mems.length) ++ (le4s (kindNums t) ++ R)), N, false⟩ = t.mems.length := by
    unfold partsV; rw [hw]; omega
  have hb0 : body0 ⟨le4 (pl t.name.data.toList) ++ (le4 (t.kind * 16777216 + t.mems.length) ++ (le4s (kindNums t) ++ R)), N, false⟩ = ⟨le4s (kindNums t) ++ R, N, false⟩ := by
    unfold body0; rw [h2, numR_le4]
  obtain ⟨b1, b2⟩ := body_at t R N h
  have hmm := mems_at pl N t.mems rest hma hm
  rw [← hR] at hmm
  have hnl : ¬ (1024 : Int) < t.mems.length := by omega
  constructor
  · unfold nextV
    rw [hpv, hkv, hb0, h1, b1, b2, if_neg hnl, Int.toNat_natCast, hmm.1]
  · unfold nextR
    rw [hpv, hkv, hb0, b2, if_neg hnl, Int.toNat_natCast, hmm.2]
theorem tyBytes_long (pl : List UInt8 → Int) (t : Ty) : 0 < (tyBytes pl t).length := by simp [tyBytes, le4s, le4_length]; omega
theorem types_at (pl : List UInt8 → Int) (N : List UInt8) : ∀ (l : List Ty) (n : Nat) (acc : List Ty), l.all mayB = true → acc.length + l.length ≤ 1024 → (l.flatMap (tyBytes pl)).length ≤ n →
    (∀ t ∈ l, (pl t.name.data.toList < 4294967296 ∧ StandsAt N t.name.data.toList (pl t.name.data.toList)) ∧ ∀ m ∈ t.mems, pl m.name.data.toList < 4294967296 ∧ StandsAt N m.name.data.toList (pl m.name.data.toList)) →
    parseG n ⟨l.flatMap (tyBytes pl), N, false⟩ acc = some (acc ++ l) := by
  intro l
  induction l with
  | nil => intro n acc _ _ _ _; cases n <;> simp [parseG]
  | cons t l ih =>
    intro n acc hall hlen hn hp
    simp only [List.all_cons, Bool.and_eq_true] at hall
    have ht := tyBytes_long pl t
    simp only [List.flatMap_cons, List.length_append] at hn
    obtain ⟨n, rfl⟩ : ∃ m, n = m + 1 := ⟨n - 1, by omega⟩
    obtain ⟨hp0, hpm⟩ := hp t (by simp)
    obtain ⟨h1, h2⟩ := next_at t pl (l.flatMap (tyBytes pl)) N hall.1 hp0.1 hp0.2 hpm
    simp only [List.flatMap_cons]
    unfold parseG
    simp only [List.length_cons] at hlen
    rw [if_neg (by simp only [List.length_append]; omega)]
    have hst : stopB ⟨tyBytes pl t ++ l.flatMap (tyBytes pl), N, false⟩ acc.length = false := by
      unfold stopB
      rw [h1, h2, hall.1]
      simp; omega
    rw [hst, h1, h2, ih n (acc ++ [t]) hall.2 (by simp; omega) (by omega) (fun x hx => hp x (by simp [hx]))]
    simp

/- The writer's places. -/
def Places (w : WS) : Prop := ∀ s p, findE w.es s = some p → StandsAt w.ns s p ∧ p < w.ns.length
/-- w' has what w has, and more. -/
structure Ext (w w' : WS) : Prop where
  es : ∀ s p, findE w.es s = some p → findE w'.es s = some p
theorem Ext.refl (w : WS) : Ext w w := ⟨fun _ _ h => h⟩
theorem Ext.trans {a b c : WS} (h : Ext a b) (k : Ext b c) : Ext a c := ⟨fun s p e => k.es s p (h.es s p e)⟩
theorem findE_cons (s k : List UInt8) (v : Int) (es : List (List UInt8 × Int)) : findE ((k, v) :: es) s = if s = k then some v else findE es s := by
  unfold findE
  rw [List.lookup_cons]
  by_cases h : s = k
  · subst h; simp
  · rw [if_neg h]
    have : (s == k) = false := by simpa using h
    rw [this]
theorem place_ext (w : WS) (s : List UInt8) : Ext w (placeW w s) := by
  constructor
  intro x p h
  unfold placeW
  split
  · exact h
  · rename_i hn
    rw [findE_cons, if_neg, h]
    rintro rfl
    rw [hn] at h; cases h
theorem place_find (w : WS) (s : List UInt8) : findE (placeW w s).es s = some (placeP w s) := by
  unfold placeW placeP
  split
  · assumption
  · rw [findE_cons, if_pos rfl]
theorem place_ok (w : WS) (s : List UInt8) (h : Places w) : Places (placeW w s) := by
  unfold placeW
  split
  · exact h
  · intro x p hx
    rw [findE_cons] at hx
    split at hx
    · cases hx
      subst x
      exact ⟨⟨w.ns, [], by simp, rfl⟩, by simp; omega⟩
    · obtain ⟨h1, h2⟩ := h x p hx
      refine ⟨?_, by simp; omega⟩
      simp only [List.append_assoc]
      exact h1.more _
theorem place_ts (w : WS) (s : List UInt8) : (placeW w s).ts = w.ts := by unfold placeW; split <;> rfl
theorem nums_ext (w : WS) (l : List Int) : Ext w (numsW w l) := ⟨fun _ _ h => h⟩
theorem memW_ext (w : WS) (m : Mem) : Ext w (memW w m) := (place_ext _ _).trans (nums_ext _ _)
theorem memW_find (w : WS) (m : Mem) : findE (memW w m).es m.name.data.toList = some (placeP w m.name.data.toList) := place_find _ _
theorem memW_ts (w : WS) (m : Mem) : (memW w m).ts = w.ts ++ le4s [placeP w m.name.data.toList, m.ty, m.off] := by unfold memW numsW; rw [place_ts]
theorem mems_ext : ∀ (l : List Mem) (w : WS), Ext w (l.foldl memW w) := by
  intro l
  induction l with
  | nil => intro w; exact .refl _
  | cons m l ih => intro w; exact (memW_ext w m).trans (ih _)
def Has (w : WS) (pl : List UInt8 → Int) : Prop := ∀ s p, findE w.es s = some p → pl s = p
theorem mems_ts (pl : List UInt8 → Int) : ∀ (l : List Mem) (w : WS), Has (l.foldl memW w) pl →
    (l.foldl memW w).ts = w.ts ++ (l.flatMap fun m => le4s [pl m.name.data.toList, m.ty, m.off]) ∧ ∀ m ∈ l, findE (l.foldl memW w).es m.name.data.toList = some (pl m.name.data.toList) := by
  intro l
  induction l with
  | nil => intro w h; simp
  | cons m l ih =>
    intro w h
    simp only [List.foldl_cons] at h ⊢
    obtain ⟨h1, h2⟩ := ih (memW w m) h
    have hf := (mems_ext l (memW w m)).es _ _ (memW_find w m)
    have hpl := h _ _ hf
    refine ⟨?_, ?_⟩
    · rw [h1, memW_ts, ← hpl]; simp
    · intro x hx
      rcases List.mem_cons.1 hx with rfl | hx
      · rw [hf, hpl]
      · exact h2 x hx
theorem putW_ext (w : WS) (t : Ty) : Ext w (putW w t) := (place_ext _ _).trans (Ext.trans (nums_ext _ _) (Ext.trans (nums_ext _ _) (mems_ext _ _)))
theorem putW_ts (pl : List UInt8 → Int) (w : WS) (t : Ty) (h : Has (putW w t) pl) :
    (putW w t).ts = w.ts ++ tyBytes pl t ∧ findE (putW w t).es t.name.data.toList = some (pl t.name.data.toList) ∧ ∀ m ∈ t.mems, findE (putW w t).es m.name.data.toList = some (pl m.name.data.toList) := by
  obtain ⟨h1, h2⟩ := mems_ts pl t.mems _ h
  have e1 : Ext (headW w t) (putW w t) := (nums_ext _ _).trans (mems_ext _ _)
  have hf : findE (putW w t).es t.name.data.toList = some (placeP w t.name.data.toList) := e1.es _ _ (place_find w _)
  have hpl := h _ _ hf
  refine ⟨?_, by rw [hf, hpl], h2⟩
  unfold putW
  rw [h1]
  show (headW w t).ts ++ le4s (kindNums t) ++ _ = _
  unfold headW numsW
  simp only [place_ts, tyBytes, hpl, List.append_assoc]
theorem all_ext : ∀ (l : List Ty) (w : WS), Ext w (l.foldl putW w) := by
  intro l
  induction l with
  | nil => intro w; exact .refl _
  | cons m l ih => intro w; exact (putW_ext w m).trans (ih _)
theorem all_ts (pl : List UInt8 → Int) : ∀ (l : List Ty) (w : WS), Has (l.foldl putW w) pl →
    (l.foldl putW w).ts = w.ts ++ l.flatMap (tyBytes pl) ∧ ∀ t ∈ l, findE (l.foldl putW w).es t.name.data.toList = some (pl t.name.data.toList) ∧ ∀ m ∈ t.mems, findE (l.foldl putW w).es m.name.data.toList = some (pl m.name.data.toList) := by
  intro l
  induction l with
  | nil => intro w h; simp
  | cons t l ih =>
    intro w h
    simp only [List.foldl_cons] at h ⊢
    obtain ⟨h1, h2⟩ := ih (putW w t) h
    have e := all_ext l (putW w t)
    obtain ⟨g1, g2, g3⟩ := putW_ts pl w t (fun s p hs => h s p (e.es s p hs))
    refine ⟨by rw [h1, g1]; simp, ?_⟩
    intro x hx
    rcases List.mem_cons.1 hx with rfl | hx
    · exact ⟨e.es _ _ g2, fun m hm => e.es _ _ (g3 m hm)⟩
    · exact h2 x hx
theorem mems_ok : ∀ (l : List Mem) (w : WS), Places w → Places (l.foldl memW w) := by
  intro l
  induction l with
  | nil => intro w h; exact h
  | cons m l ih => intro w h; exact ih _ (place_ok w _ h)
theorem all_ok : ∀ (l : List Ty) (w : WS), Places w → Places (l.foldl putW w) := by
  intro l
  induction l with
  | nil => intro w h; exact h
  | cons t l ih => intro w h; exact ih _ (mems_ok t.mems _ (place_ok w _ h))
/- How much is laid. -/
theorem place_ns (w : WS) (s : ByteArray) (h : nameB s = true) : (placeW w s.data.toList).ns.length ≤ w.ns.length + 129 := by
  simp only [nameB, Bool.and_eq_true, decide_eq_true_eq] at h
  have := h.1
  unfold placeW
  split
  · omega
  · simp only [List.length_append, size_list, List.length_cons, List.length_nil]; omega
theorem place_pre (w : WS) (s : List UInt8) : ∃ x, (placeW w s).ns = w.ns ++ x := by
  unfold placeW
  split
  · exact ⟨[], by simp⟩
  · exact ⟨s ++ [0], by simp⟩
theorem mems_pre : ∀ (l : List Mem) (w : WS), ∃ x, (l.foldl memW w).ns = w.ns ++ x := by
  intro l
  induction l with
  | nil => intro w; exact ⟨[], by simp⟩
  | cons m l ih =>
    intro w
    obtain ⟨x, hx⟩ := ih (memW w m)
    obtain ⟨y, hy⟩ := place_pre w m.name.data.toList
    refine ⟨y ++ x, ?_⟩
    simp only [List.foldl_cons]
    rw [hx, show (memW w m).ns = (placeW w m.name.data.toList).ns from rfl, hy, List.append_assoc]
theorem all_pre : ∀ (l : List Ty) (w : WS), ∃ x, (l.foldl putW w).ns = w.ns ++ x := by
  intro l
  induction l with
  | nil => intro w; exact ⟨[], by simp⟩
  | cons t l ih =>
    intro w
    obtain ⟨x, hx⟩ := ih (putW w t)
    obtain ⟨y, hy⟩ := place_pre w t.name.data.toList
    obtain ⟨z, hz⟩ := mems_pre t.mems (numsW (headW w t) (kindNums t))
    refine ⟨y ++ (z ++ x), ?_⟩
    simp only [List.foldl_cons]
    rw [hx, show (putW w t).ns = (t.mems.foldl memW (numsW (headW w t) (kindNums t))).ns from rfl, hz, show (numsW (headW w t) (kindNums t)).ns = (placeW w t.name.data.toList).ns from rfl, hy]
    simp
theorem mems_ns : ∀ (l : List Mem) (w : WS), l.all memB = true → (l.foldl memW w).ns.length ≤ w.ns.length + 129 * l.length ∧ (l.foldl memW w).ts.length = w.ts.length + 12 * l.length := by
  intro l
  induction l with
  | nil => intro w _; simp
  | cons m l ih =>
    intro w h
    simp only [List.all_cons, Bool.and_eq_true] at h
    obtain ⟨h1, h2⟩ := ih (memW w m) h.2
    have h3 : (memW w m).ns.length ≤ _ := place_ns w m.name (by have := h.1; simp only [memB, Bool.and_eq_true] at this; exact this.1.1)
    have h4 : (memW w m).ts.length = w.ts.length + 12 := by rw [memW_ts]; simp [le4s, le4_length]
    simp only [List.foldl_cons, List.length_cons]
    omega
theorem kindNums_len (t : Ty) : (kindNums t).length ≤ 4 := by
  unfold kindNums
  by_cases h1 : t.kind = 1
  · simp [h1]
  by_cases h2 : t.kind = 2
  · simp [h2]
  by_cases h3 : t.kind = 8
  · simp [h3]
  by_cases h4 : t.kind = 3
  · simp [h4]
  by_cases h5 : t.kind = 4
  · simp [h5]
  simp [h1, h2, h3, h4, h5]
theorem le4s_length (l : List Int) : (le4s l).length = 4 * l.length := by
  induction l with
  | nil => rfl
  | cons a l ih => simp only [le4s, List.flatMap_cons, List.length_append, le4_length, List.length_cons] at *; omega
theorem putW_size (w : WS) (t : Ty) (h : mayB t = true) : (putW w t).ns.length ≤ w.ns.length + 132225 ∧ (putW w t).ts.length ≤ w.ts.length + 12312 := by
  simp only [mayB, Bool.and_eq_true, membersB, decide_eq_true_eq] at h
  obtain ⟨⟨⟨⟨⟨hn, _⟩, _⟩, _⟩, hml, hma⟩, _⟩ := h
  obtain ⟨h1, h2⟩ := mems_ns t.mems (numsW (headW w t) (kindNums t)) hma
  have h3 := place_ns w t.name hn
  have h4 : (numsW (headW w t) (kindNums t)).ns = (placeW w t.name.data.toList).ns := rfl
  have h5 : (numsW (headW w t) (kindNums t)).ts.length ≤ w.ts.length + 24 := by
    show ((headW w t).ts ++ le4s (kindNums t)).length ≤ _
    have e : (headW w t).ts = w.ts ++ le4s [placeP w t.name.data.toList, t.kind * 16777216 + t.mems.length] := by unfold headW numsW; rw [place_ts]
    have := kindNums_len t
    rw [e, List.length_append, List.length_append, le4s_length, le4s_length]
    simp only [List.length_cons, List.length_nil]
    omega
  rw [h4] at h1
  unfold putW
  omega
theorem all_size : ∀ (l : List Ty) (w : WS), l.all mayB = true → (l.foldl putW w).ns.length ≤ w.ns.length + 132225 * l.length ∧ (l.foldl putW w).ts.length ≤ w.ts.length + 12312 * l.length := by
  intro l
  induction l with
  | nil => intro w _; simp
  | cons t l ih =>
    intro w h
    simp only [List.all_cons, Bool.and_eq_true] at h
    obtain ⟨h1, h2⟩ := ih (putW w t) h.2
    obtain ⟨h3, h4⟩ := putW_size w t h.1
    simp only [List.foldl_cons, List.length_cons]
    omega
theorem new_ok : Places newW := by
  intro s p h
  unfold newW at *
  rw [findE_cons] at h
  split at h
  · cases h
    subst s
    exact ⟨⟨[], [], rfl, rfl⟩, by decide⟩
  · cases h
theorem parse_build (l : List Ty) (more : List UInt8) (hall : l.all mayB = true) (hlen : l.length ≤ 1024) : parseF (buildF l ++ more) = some l := by
  obtain ⟨W, hW⟩ : ∃ W, W = l.foldl putW newW := ⟨_, rfl⟩
  obtain ⟨s1, s2⟩ := all_size l newW hall
  obtain ⟨x, hx⟩ := all_pre l newW
  have hP := all_ok l newW new_ok
  have hts := all_ts (fun s => (findE (l.foldl putW newW).es s).getD 0) l newW (fun s p h => by simp [h])
  rw [← hW] at s1 s2 hx hP hts
  have n1 : W.ns.length < 4294967296 := by have : newW.ns.length = 1 := rfl; omega
  have n2 : W.ts.length < 4294967296 := by have : newW.ts.length = 0 := rfl; omega
  have hb : buildF l ++ more = opening ++ (le4 0 ++ (le4 W.ts.length ++ (le4 W.ts.length ++ (le4 W.ns.length ++ (W.ts ++ (W.ns ++ more)))))) := by
    unfold buildF blobW; rw [← hW]; simp [le4s]
  rw [hb]
  have d8 : ∀ r : List UInt8, (opening ++ r).drop 8 = r := fun r => rfl
  have d12 : ∀ (a : Int) (r : List UInt8), (opening ++ (le4 a ++ r)).drop 12 = r := fun a r => rfl
  have d16 : ∀ (a b : Int) (r : List UInt8), (opening ++ (le4 a ++ (le4 b ++ r))).drop 16 = r := fun a b r => rfl
  have d20 : ∀ (a b c : Int) (r : List UInt8), (opening ++ (le4 a ++ (le4 b ++ (le4 c ++ r)))).drop 20 = r := fun a b c r => rfl
  have d24 : ∀ (a b c d : Int) (r : List UInt8), (opening ++ (le4 a ++ (le4 b ++ (le4 c ++ (le4 d ++ r))))).drop 24 = r := fun a b c d r => rfl
  have t8 : ∀ r : List UInt8, (opening ++ r).take 8 = opening := fun r => rfl
  have p1 : partOf (W.ts ++ (W.ns ++ more)) 0 W.ts.length = W.ts := by
    unfold partOf; simp
  have p2 : partOf (W.ts ++ (W.ns ++ more)) W.ts.length W.ns.length = W.ns := by
    unfold partOf; simp
  have hns : ∃ y, W.ns = 0 :: y := ⟨x, by rw [hx]; rfl⟩
  unfold parseF
  have ho : openB (opening ++ (le4 0 ++ (le4 W.ts.length ++ (le4 W.ts.length ++ (le4 W.ns.length ++ (W.ts ++ (W.ns ++ more))))))) = true := by
    unfold openB
    rw [d8, d12, d16, d20, d24, t8, num4_le4 0 (by omega) (by omega), num4_le4 _ (by omega) (by omega), num4_le4 _ (by omega) (by omega), num4_le4 _ (by omega) (by omega), p2]
    obtain ⟨y, hy⟩ := hns
    have e1 : liesIn (W.ts ++ (W.ns ++ more)) 0 W.ts.length = true := by simp [liesIn]; omega
    have e2 : liesIn (W.ts ++ (W.ns ++ more)) W.ts.length W.ns.length = true := by simp [liesIn]; omega
    rw [e1, e2, hy]
    simp [opening, le4_length, headZero]
    omega
  rw [if_pos ho]
  unfold openV
  rw [d8, d12, d16, d20, d24, num4_le4 0 (by omega) (by omega), num4_le4 _ (by omega) (by omega), num4_le4 _ (by omega) (by omega), num4_le4 _ (by omega) (by omega), p1, p2]
  have ht := hts.1
  rw [show newW.ts = [] from rfl, List.nil_append] at ht
  have fin := types_at (fun s => (findE W.es s).getD 0) W.ns l W.ts.length [] hall (by simpa using hlen) (by rw [← ht]; exact Nat.le_refl _) (fun t htl => by
    obtain ⟨g1, g2⟩ := hts.2 t htl
    refine ⟨?_, fun m hm => ?_⟩
    · obtain ⟨k1, k2⟩ := hP _ _ g1
      exact ⟨by omega, k1⟩
    · obtain ⟨k1, k2⟩ := hP _ _ (g2 m hm)
      exact ⟨by omega, k1⟩)
  rw [← ht] at fin
  simpa using fin
end Go.Proofs.Ytmfdojmecpdikaa
