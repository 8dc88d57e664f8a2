/-
  Programs as lists of slots, plainly: where instructions begin, which program may be, where an instruction goes, what is reached.
-/
import Derived.Test.YticklgoegmobbaaDoorSLeaf2
namespace Go.Proofs.YticklgoegmobbaaDoor
open Go Go.RowKit
set_option linter.unusedVariables false
def oneS (x : Slot) : Bool := oneB x.o x.d x.s x.f x.m
def wideS (x : Slot) : Bool := x.o == 24
def slN (x : Slot) : Nat := if wideS x then 2 else 1
def tailS (a b : Slot) : Bool := if a.s == 1 then (b.o == 0) && ((b.d == 0) && ((b.s == 0) && ((b.f == 0) && (b.m == 0)))) else ((b.o == 0) && ((b.d == 0) && ((b.s == 0) && (b.f == 0)))) && decide (FitsR b.o b.d b.s b.f b.m)
/-- The instruction at the place i may be, with all slots that it has. -/
def wholeS (X : Nat → Slot) (n i : Nat) : Bool := oneS (X i) && (!wideS (X i) || (decide (i + 1 < n) && tailS (X i) (X (i + 1))))
/-- Does an instruction begin at the place? -/
def fst (X : Nat → Slot) : Nat → Bool
  | 0 => true
  | i + 1 => !(fst X i && wideS (X i))
def aimS (x : Slot) : Bool := ((x.o % 8 == 5) || (x.o % 8 == 6)) && (!(x.o == 133) && !(x.o == 149))
def tgt (x : Slot) (i : Nat) : Int := (i : Int) + 1 + x.f
def holdsS (X : Nat → Slot) (n : Nat) (t : Int) : Bool := decide (0 ≤ t) && (decide (t < n) && fst X t.toNat)
/-- The jump at the place leads to no instruction. -/
def strayS (X : Nat → Slot) (n i : Nat) : Bool := fst X i && (aimS (X i) && !holdsS X n (tgt (X i) i))
def scanBad (X : Nat → Slot) (n : Nat) : Option Nat := (List.range n).find? fun i => fst X i && !wholeS X n i
def aimBad (X : Nat → Slot) (n : Nat) : Option Nat := (List.range n).find? fun i => strayS X n i
/-- The last instruction's place. -/
def lastOf (X : Nat → Slot) (n : Nat) : Nat := if fst X (n - 1) then n - 1 else n - 2
def endS (x : Slot) : Bool := (x.o == 149) || (x.o == 5)
/-- The place of the first thing that is wrong; none, if the slots are a program. -/
def chk (X : Nat → Slot) (n : Nat) : Option Nat :=
  if n = 0 ∨ 4096 < n then some 0 else
  match scanBad X n with
  | some k => some k
  | none => match aimBad X n with
    | some k => some k
    | none => if endS (X (lastOf X n)) then none else some (lastOf X n)
theorem find_range_some {p : Nat → Bool} {n i : Nat} (hi : i < n) (h : p i = true) (hlt : ∀ j, j < i → p j = false) : (List.range n).find? p = some i := by
  rw [List.find?_range_eq_some]
  exact ⟨h, List.mem_range.2 hi, fun j hj => by simp [hlt j hj]⟩
theorem find_range_none {p : Nat → Bool} {n : Nat} (h : ∀ j, j < n → p j = false) : (List.range n).find? p = none := by
  rw [List.find?_eq_none]
  intro j hj
  simp [h j (List.mem_range.1 hj)]
theorem find_range_none' {p : Nat → Bool} {n : Nat} (h : (List.range n).find? p = none) : ∀ j, j < n → p j = false := by
  rw [List.find?_eq_none] at h
  intro j hj
  simpa using h j (List.mem_range.2 hj)
/-- What a program is. -/
structure Good (X : Nat → Slot) (n : Nat) : Prop where
  pos : 0 < n
  le : n ≤ 4096
  whole : ∀ i, i < n → fst X i = true → wholeS X n i = true
  aim : ∀ i, i < n → fst X i = true → aimS (X i) = true → holdsS X n (tgt (X i) i) = true
  last : endS (X (lastOf X n)) = true
theorem chk_none {X : Nat → Slot} {n : Nat} : chk X n = none ↔ Good X n := by
  constructor
  · intro h
    unfold chk at h
    split at h
    · cases h
    · rename_i hn
      cases hs : scanBad X n with
      | some k => rw [hs] at h; cases h
      | none =>
        rw [hs] at h
        cases ha : aimBad X n with
        | some k => rw [ha] at h; cases h
        | none =>
          rw [ha] at h
          simp only at h
          split at h
          · rename_i he
            refine ⟨by omega, by omega, ?_, ?_, he⟩
            · intro i hi hf
              have := find_range_none' hs i hi
              simpa [hf] using this
            · intro i hi hf hm
              have := find_range_none' ha i hi
              simpa [strayS, hf, hm] using this
          · cases h
  · intro h
    have hn : ¬ (n = 0 ∨ 4096 < n) := by have := h.pos; have := h.le; omega
    unfold chk
    rw [if_neg hn]
    have hs : scanBad X n = none := find_range_none fun j hj => by
      cases hf : fst X j
      · rfl
      · simp [h.whole j hj hf]
    have ha : aimBad X n = none := find_range_none fun j hj => by
      unfold strayS
      cases hf : fst X j
      · rfl
      · cases hm : aimS (X j)
        · rfl
        · simp [h.aim j hj hf hm]
    rw [hs, ha]
    simp [h.last]
section
variable {X : Nat → Slot} {n : Nat}
theorem Good.wide (h : Good X n) {i : Nat} (hi : i < n) (hf : fst X i = true) (hw : wideS (X i) = true) : i + 1 < n := by
  have := h.whole i hi hf
  simp [wholeS, hw] at this
  exact this.2.1
theorem Good.one (h : Good X n) {i : Nat} (hi : i < n) (hf : fst X i = true) : oneS (X i) = true := by
  have := h.whole i hi hf
  simp [wholeS] at this
  exact this.1
theorem fst_next {i : Nat} (hf : fst X i = true) : fst X (i + slN (X i)) = true := by
  unfold slN
  cases hw : wideS (X i)
  · simp [fst, hf, hw]
  · simp [fst, hf, hw]
/-- Behind a program's last slot an instruction might begin. -/
theorem Good.fst_end (h : Good X n) : fst X n = true := by
  obtain ⟨m, rfl⟩ : ∃ m, n = m + 1 := ⟨n - 1, by have := h.pos; omega⟩
  rw [fst]
  cases hf : fst X m
  · rfl
  · cases hw : wideS (X m)
    · rfl
    · have := h.wide (by omega) hf hw
      omega
end
/-- Where the instruction that begins with x at the place i may go. -/
def nxt (x : Slot) (i : Nat) : List Int := if x.o == 149 then [] else if x.o == 5 then [tgt x i] else if aimS x then [(i : Int) + 1, tgt x i] else [(i : Int) + slN x]
inductive Reach (X : Nat → Slot) : Nat → Prop
  | start : Reach X 0
  | step {i j : Nat} : Reach X i → (j : Int) ∈ nxt (X i) i → Reach X j
/-- The slot is one of a reached instruction. -/
def Reached (X : Nat → Slot) (i : Nat) : Prop := ∃ a, Reach X a ∧ (i = a ∨ (wideS (X a) = true ∧ i = a + 1))
section
variable {X : Nat → Slot} {n : Nat}
theorem holds_iff {t : Int} : holdsS X n t = true ↔ 0 ≤ t ∧ t < n ∧ fst X t.toNat = true := by simp [holdsS]
theorem lastOf_le (h : 0 < n) : lastOf X n < n := by unfold lastOf; split <;> omega
theorem lastOf_max (h : Good X n) {i : Nat} (hi : i < n) (hf : fst X i = true) : i ≤ lastOf X n := by
  unfold lastOf
  split
  · omega
  · rename_i hl
    rcases Nat.lt_or_ge i (n - 1) with h1 | h1
    · omega
    · exact absurd (by rwa [show n - 1 = i by omega]) hl
/-- Whatever is told of an instruction of a program is a place of one. -/
theorem Good.next (h : Good X n) {i : Nat} (hi : i < n) (hf : fst X i = true) {t : Int} (ht : t ∈ nxt (X i) i) : holdsS X n t = true := by
  have seq : ∀ s : Nat, s = slN (X i) → endS (X i) = false → holdsS X n ((i : Int) + s) = true := by
    rintro s rfl he
    rw [holds_iff]
    have hlast : i < lastOf X n := by
      have h1 := lastOf_max h hi hf
      rcases Nat.lt_or_ge i (lastOf X n) with h2 | h2
      · exact h2
      · have : i = lastOf X n := by omega
        have h3 := h.last
        rw [← this, he] at h3
        cases h3
    have hl := lastOf_le (X := X) h.pos
    have hfl : fst X (lastOf X n) = true := by
      unfold lastOf
      split
      · assumption
      · rename_i hl
        obtain ⟨m, rfl⟩ : ∃ m, n = m + 2 := ⟨n - 2, by
          rcases Nat.lt_or_ge n 2 with h1 | h1
          · have : n = 1 := by have := h.pos; omega
            subst this
            exact absurd rfl hl
          · omega⟩
        simp [fst] at hl ⊢
        exact hl.1
    have hs : i + slN (X i) < n := by
      unfold slN
      cases hw : wideS (X i)
      · simp; omega
      · simp
        rcases Nat.lt_or_ge (i + 2) n with h1 | h1
        · exact h1
        · have e : lastOf X n = i + 1 := by omega
          rw [e] at hfl
          simp [fst, hf, hw] at hfl
    refine ⟨by omega, by omega, ?_⟩
    rw [show ((i : Int) + (slN (X i) : Nat)).toNat = i + slN (X i) by omega]
    exact fst_next hf
  unfold nxt at ht
  split at ht
  · cases ht
  · rename_i h149
    split at ht
    · rename_i h5
      simp only [List.mem_singleton] at ht
      subst ht
      have e5 : (X i).o = 5 := by simpa using h5
      exact h.aim i hi hf (by simp [aimS, e5])
    · rename_i h5
      have he : endS (X i) = false := by simpa [endS] using ⟨by simpa using h149, by simpa using h5⟩
      split at ht
      · rename_i ha
        simp only [List.mem_cons, List.not_mem_nil, or_false] at ht
        rcases ht with rfl | rfl
        · have hnw : wideS (X i) = false := by
            cases hw : wideS (X i)
            · rfl
            · have e24 : (X i).o = 24 := by simpa [wideS] using hw
              simp [aimS, e24] at ha
          exact seq 1 (by simp [slN, hnw]) he
        · exact h.aim i hi hf ha
      · simp only [List.mem_singleton] at ht
        subst ht
        exact seq _ rfl he
theorem Good.reach (h : Good X n) {i : Nat} (hr : Reach X i) : i < n ∧ fst X i = true := by
  induction hr with
  | start => exact ⟨h.pos, rfl⟩
  | step _ hj ih =>
    have := (holds_iff.1 (h.next ih.1 ih.2 hj)).2
    simpa using this
theorem Good.reached (h : Good X n) {i : Nat} (hr : Reached X i) : i < n := by
  obtain ⟨a, ha, rfl | ⟨hw, rfl⟩⟩ := hr
  · exact (h.reach ha).1
  · exact h.wide (h.reach ha).1 (h.reach ha).2 hw
theorem Good.reached_fst (h : Good X n) {i : Nat} (hr : Reached X i) (hf : fst X i = true) : Reach X i := by
  obtain ⟨a, ha, rfl | ⟨hw, rfl⟩⟩ := hr
  · exact ha
  · have := (h.reach ha).2
    simp [fst, this, hw] at hf
end
end Go.Proofs.YticklgoegmobbaaDoor
