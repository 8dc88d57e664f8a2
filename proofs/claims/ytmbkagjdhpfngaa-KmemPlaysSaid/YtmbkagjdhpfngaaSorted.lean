/-
  slices.Sort of a row that is owned; slices.Sorted of the memory's numbers.
-/
import Derived.Test.YtmbkagjdhpfngaaFreeRet
namespace Go.Proofs.Ytmbkagjdhpfngaa
open Go Go.RowKit Go.Maps
set_option linter.unusedVariables false
theorem sorted_lt {d : Array Nat} {n : Nat} (hn : d.size = n) (h : Sort.SortedIn ltN 0 n d) (hd : d.toList.Nodup) : d.toList.Pairwise (· < ·) := by
  rw [List.pairwise_iff_getElem]
  intro i j hi hj hij
  have hi' : i < d.size := by simpa using hi
  have hj' : j < d.size := by simpa using hj
  have h1 := h i j (Nat.zero_le _) hij (by omega)
  rw [getElem!_pos d i hi', getElem!_pos d j hj'] at h1
  have h2 : ¬ d[j] < d[i] := by simpa [ltN] using h1
  have h3 : d[i] ≠ d[j] := fun e => by
    have := nodup_idx hd hi hj (by simpa using e)
    omega
  simp only [Array.getElem_toList]
  omega
def SortRow (w2 : World) (B : Nat) (v : Value) (ss : List Nat) (e : Ending) (w' : World) : Prop :=
  e = .returned (.tuple #[]) ∧ ∃ ss' : List Nat, ss'.Perm ss ∧ (ss.Nodup → ss'.Pairwise (· < ·)) ∧ w'.ownsRow B 39 1 v ss'.length (ss'.map encU) ∧ Keeps (fun b => v.ownBlock = some b) w2 w'
theorem sort_row (w2 : World) (B : Nat) (v : Value) (ss : List Nat) (hrow : w2.ownsRow B 39 1 v ss.length (ss.map encU)) (hc : ss.length ≤ 1048576) :
    Calls Try.prog 40 #[v] w2 (SortRow w2 B v ss) := by
  rcases hrow.2 with ⟨rfl, h0⟩ | ⟨g, cap, cur, rfl, hB, h1, h2, h3, h4, h5⟩
  · obtain rfl := List.eq_nil_of_length_eq_zero h0
    refine (sort_nil none 0 w2).mono ?_
    rintro e w' ⟨rfl, rfl⟩
    exact ⟨rfl, [], List.Perm.refl _, fun _ => List.Pairwise.nil, hrow, Keeps.refl _ _⟩
  · rw [Nat.mul_one] at h4 h5
    have hr : SRow w2 w2 g (cur.toList.drop ss.length) ss.toArray := ⟨Keeps.refl _ w2, by
      have e : (ss.toArray.toList.map encU ++ cur.toList.drop ss.length).toArray = cur := by
        simp only
        rw [← h5, List.take_append_drop]
      rw [e]; exact h1⟩
    have c := sort_any w2 w2 g _ ss.toArray cap (by simpa using h2) (by simpa using hc) hr
    rw [List.size_toArray] at c
    refine c.mono ?_
    rintro e w' ⟨rfl, d', hp, hs, hr'⟩
    have hl : d'.toList.length = ss.length := by have := hp.length_eq; simpa using this
    have hl' : d'.size = ss.length := by rw [← Array.length_toList]; exact hl
    refine ⟨rfl, d'.toList, by simpa using hp, fun hn => sorted_lt hl' (by simpa using hs) ((show d'.toList.Perm ss by simpa using hp).nodup_iff.2 hn), ?_, hr'.keep.mono (fun b e => by subst e; rfl)⟩
    refine ⟨by simp, .inr ⟨g, cap, _, by rw [hl], hB, hr'.row, by rw [hl]; exact h2, h3, ?_, ?_⟩⟩
    · have : cur.toList.length = cap := by rw [Array.length_toList]; exact h4
      simp [hl', this]; omega
    · simp
section
variable {w : World} {S : Nat → Prop} {bm made fail : Nat} {st : Nat → Option RG} {rl : List Nat} {mv rv : Value}
/-- Just these numbers are live, and they rise. -/
def LiveAsc (st : Nat → Option RG) (ss : List Nat) : Prop := ss.Pairwise (· < ·) ∧ ∀ n : Nat, n ∈ ss ↔ (st n).isSome = true
def SortedPost (w : World) (st : Nat → Option RG) (e : Ending) (w' : World) : Prop :=
  ∃ (v : Value) (ss : List Nat), e = .returned v ∧ LiveAsc st ss ∧ w'.ownsRow w.heap.size 39 1 v ss.length (ss.map encU) ∧ Below w.heap.size w w'
theorem sorted_live (w : World) (g : Nat) (a : Addr) (st : Nat → Option RG) (made : Nat) (hr : ∀ n r, st n = some r → 1 ≤ n ∧ n ≤ made) (hmd : made ≤ 4096)
    (c : Calls Try.prog 46 #[.func (.func g) #[] #[.pointer (some a)]] w (NewRow w (LiveIn st))) :
    Calls Try.prog 30 #[.func (.func g) #[] #[.pointer (some a)]] w (SortedPost w st) := by
  have C := Lib.hid c
  have HS : Hid (∀ (w2 : World) (v : Value) (ss : List Nat), LiveIn st ss → w2.ownsRow w.heap.size 39 1 v ss.length (ss.map encU) → Below w.heap.size w w2 → Calls Try.prog 40 #[v] w2 fun e w' => e = .returned (.tuple #[]) ∧ SortedPost w st (.returned v) w') := by
    intro w2 v ss hl hrow hb
    have hlen : ss.length ≤ made := nodup_le made ss hl.1 (fun x hx => by
      have := (hl.2 x).1 hx
      rcases hs : st x with _ | r
      · rw [hs] at this; cases this
      · exact hr x r hs)
    refine (sort_row w2 w.heap.size v ss hrow (by omega)).mono ?_
    rintro e w' ⟨rfl, ss', hp, hasc, hrow', k⟩
    exact ⟨rfl, v, ss', rfl, ⟨hasc hl.1, fun n => by rw [hp.mem_iff, hl.2 n]⟩, hrow', hb.trans (k.below (fun b hv => (hrow.lt b hv).1) hb.size)⟩
  generalize SortedPost w st = post at HS ⊢
  clear c hr
  go_enter Try.func30, Try.ntmps30
  go_wp2_with (first
    | (go_at_call 46; refine C.out.mono ?_; rintro e w2 ⟨v, ss, rfl, h2, h3, _, h5⟩; have C2 := Lib.hid (HS.out w2 v ss h2 h3 h5); clear h2 h3 h5)
    | (go_at_call 40; refine C2.out.mono ?_; rintro e w3 ⟨rfl, h3⟩; have H3 := Lib.hid h3; clear h3))
  exact H3.out
end
end Go.Proofs.Ytmbkagjdhpfngaa
