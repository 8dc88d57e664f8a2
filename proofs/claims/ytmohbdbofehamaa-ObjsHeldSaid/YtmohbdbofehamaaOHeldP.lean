/-
  The law ObjsHeld: one object, held by so many fds, pins and Holds.
-/
import Derived.Test.YtmohbdbofehamaaOAwake
namespace Go.Proofs.Ytmohbdbofehamaa
open Go Go.RowKit Go.Maps OSt
set_option linter.unusedVariables false
set_option linter.unusedSimpArgs false
set_option maxRecDepth 100000
def pth (i : Nat) : ByteArray := ⟨#[47, UInt8.ofNat (97 + i)]⟩
def fdsH (a : Nat) : List Nat := List.replicate a 1 ++ List.replicate (64 - a) 0
def pinsH (b : Nat) : List (ByteArray × Nat) := (List.range b).map fun i : Nat => (pth i, 1)
def HS (q a b c : Nat) : OSt := ⟨[⟨1, c, true⟩], fdsH a, pinsH b, q⟩
def HD (q a b c : Nat) : OSt := ⟨[⟨1, c, false⟩], fdsH a, pinsH b, q⟩
theorem pth_inj {i j : Nat} (hi : i < 10) (hj : j < 10) (h : pth i = pth j) : i = j := by
  unfold pth at h
  have h1 : (#[47, UInt8.ofNat (97 + i)] : Array UInt8) = #[47, UInt8.ofNat (97 + j)] := ByteArray.mk.inj h
  have h2 : UInt8.ofNat (97 + i) = UInt8.ofNat (97 + j) := by simpa using h1
  have h3 := congrArg UInt8.toNat h2
  rw [UInt8.toNat_ofNat', UInt8.toNat_ofNat'] at h3
  omega
theorem pth_path : ∀ i, i < 10 → pathB (pth i) = true := by decide +kernel
theorem pth_size (i : Nat) : (pth i).size = 2 := rfl
theorem fdsH_facts : ∀ a, a < 12 → freeAt (fdsH a) = some a ∧ (fdsH a).set a 1 = fdsH (a + 1) ∧ ∀ j, j < a → (fdsH a).getD j 0 = 1 := by decide +kernel
theorem fdsH_close : ∀ a, a < 12 → (fdsH (a + 1)).set a 0 = fdsH a := by decide +kernel
theorem findP_H {b j : Nat} (hb : b ≤ 9) (hj : j < 10) : findP (pinsH b) (pth j) = if j < b then some j else none := by
  have hat : ∀ i e, (pinsH b)[i]? = some e → i < b ∧ e = (pth i, 1) := fun i e h => by
    unfold pinsH at h
    rw [List.getElem?_map, Option.map_eq_some_iff] at h
    obtain ⟨k, hk, rfl⟩ := h
    obtain ⟨h1, h2⟩ := List.getElem?_eq_some_iff.1 hk
    simp at h1 h2
    subst h2
    exact ⟨h1, rfl⟩
  cases hf : findP (pinsH b) (pth j) with
  | none =>
    split
    · rename_i hlt
      refine absurd rfl (findP_none hf (pth j, 1) ?_)
      unfold pinsH
      exact List.mem_map.2 ⟨j, List.mem_range.2 hlt, rfl⟩
    · rfl
  | some i =>
    obtain ⟨e, he, hk⟩ := findP_some hf
    obtain ⟨h1, rfl⟩ := hat i e he
    have := pth_inj (by omega) hj hk
    subst this
    rw [if_pos h1]
theorem pinsH_at {b j : Nat} (h : j < b) : (pinsH b)[j]? = some (pth j, 1) := by
  unfold pinsH
  rw [List.getElem?_map, List.getElem?_range h]; rfl
theorem pinId_H {q a b c j : Nat} (hb : b ≤ 9) (hj : j < 10) : (HS q a b c).pinId (pth j) = if j < b then 1 else 0 := by
  unfold pinId
  rw [show (HS q a b c).pins = pinsH b from rfl, findP_H hb hj]
  split
  · rename_i h
    rw [Option.elim_some, pinsH_at h]; rfl
  · rfl
theorem leads_H {q a b c : Nat} (ha : a ≤ 64) : (HS q a b c).leads 1 = a + b := by
  unfold leads HS fdsH pinsH
  simp only [List.count_append, List.count_replicate, List.countP_map]
  have h1 : List.countP ((fun p : ByteArray × Nat => p.2 == 1) ∘ fun i : Nat => (pth i, 1)) (List.range b) = b := by
    rw [show ((fun p : ByteArray × Nat => p.2 == 1) ∘ fun i : Nat => (pth i, 1)) = fun _ => true from rfl]
    simp
  rw [h1]
  simp
theorem holds_H {q a b c : Nat} : (HS q a b c).holdsOf 1 = c := rfl
theorem there_H {q a b c : Nat} : (HS q a b c).isThere 1 := ⟨_, rfl, rfl⟩
theorem thereI_H {q a b c : Nat} : thereI (HS q a b c) 1 = true := rfl
/-- Behind an end: the object is there as long as something holds it. -/
def HE (q a b c : Nat) : OSt := if a + b + c = 0 then HD q a b c else HS q a b c
theorem die_H {q a b c : Nat} (ha : a ≤ 64) : (HS q a b c).die 1 = HE q a b c ∧ (HS q a b c).dead 1 = if a + b + c = 0 then [1] else [] := by
  unfold OSt.die dead loose HE
  rw [leads_H ha, holds_H]
  by_cases h : a + b + c = 0
  · rw [decide_eq_true h, if_pos rfl, if_pos rfl, if_pos h, if_pos h]
    exact ⟨rfl, rfl⟩
  · rw [decide_eq_false h, if_neg h, if_neg h]
    exact ⟨rfl, rfl⟩
theorem h_start : addS newO 1 = HS 0 1 0 0 ∧ addN newO = 0 ∧ addP newO = 1 ∧ openE newO = 0 := ⟨rfl, rfl, rfl, rfl⟩
theorem h_dup {q a : Nat} (h0 : 0 < a) (ha : a < 12) : dupS (HS q a 0 0) 0 = HS q (a + 1) 0 0 ∧ dupE (HS q a 0 0) 0 = 0 := by
  obtain ⟨h1, h2, h3⟩ := fdsH_facts a ha
  have hf : (HS q a 0 0).fdId 0 = 1 := (fdId_at (f := 0) (by decide)).trans (h3 0 h0)
  have hfr : (HS q a 0 0).free = some a := h1
  unfold dupS dupE openS openE
  rw [hf, hfr, if_neg (by decide), if_neg (by decide)]
  refine ⟨?_, rfl⟩
  show (⟨_, (fdsH a).set a 1, _, _⟩ : OSt) = _
  rw [h2]; rfl
theorem h_pin {q a b : Nat} (h0 : 0 < a) (ha : a < 12) (hb : b < 9) : pinS (HS q a b 0) (pth b) 0 = HS (q + 1) a (b + 1) 0 ∧ pinBad (HS q a b 0) (pth b) 0 = 0 := by
  obtain ⟨h1, h2, h3⟩ := fdsH_facts a ha
  have hf : (HS q a b 0).fdId 0 = 1 := (fdId_at (f := 0) (by decide)).trans (h3 0 h0)
  have hp : pinBad (HS q a b 0) (pth b) 0 = 0 := by
    unfold pinBad
    rw [pth_path b (by omega), hf, pinId_H (by omega) (by omega), if_neg (Nat.lt_irrefl b)]
    rfl
  refine ⟨?_, hp⟩
  unfold pinS
  rw [if_pos hp, hf]
  show (⟨_, _, pinsH b ++ [(pth b, 1)], _⟩ : OSt) = _
  rw [show pinsH b ++ [(pth b, 1)] = pinsH (b + 1) by simp [pinsH, List.range_succ]]
  rfl
theorem h_hold {q a b c : Nat} : holdS (HS q a b c) 1 = HS q a b (c + 1) ∧ holdE (HS q a b c) 1 = 0 := ⟨rfl, rfl⟩
theorem h_close {q a b c : Nat} (ha : a < 11) : closeS (HS q (a + 1) b c) (a : Int) = HE q a b c ∧ closeL (HS q (a + 1) b c) (a : Int) = (if a + b + c = 0 then [1] else []) ∧ fdE (HS q (a + 1) b c) (a : Int) = 0 := by
  obtain ⟨_, _, h3⟩ := fdsH_facts (a + 1) (by omega)
  have hf : (HS q (a + 1) b c).fdId (a : Int) = 1 := (fdId_at (f := a) (by omega)).trans (h3 a (by omega))
  have hc : closed (HS q (a + 1) b c) (a : Int) = HS q a b c := by
    unfold closed putFd
    rw [Int.toNat_natCast]
    show (⟨_, (fdsH (a + 1)).set a 0, _, _⟩ : OSt) = _
    rw [fdsH_close a (by omega)]
    rfl
  unfold closeS closeL fdE
  have h10 : ¬ (1 : Nat) = 0 := by decide
  rw [hf, hc, if_neg h10, if_neg h10, if_neg h10]
  exact ⟨(die_H (q := q) (a := a) (b := b) (c := c) (by omega)).1, (die_H (q := q) (a := a) (b := b) (c := c) (by omega)).2, rfl⟩
theorem h_unpin {q a b c : Nat} (ha : a < 12) (hb : b < 9) : unpinS (HS q a (b + 1) c) (pth b) = HE q a b c ∧ unpinL (HS q a (b + 1) c) (pth b) = (if a + b + c = 0 then [1] else []) ∧ pathE (HS q a (b + 1) c) (pth b) = 0 := by
  have hid : (HS q a (b + 1) c).pinId (pth b) = 1 := by rw [pinId_H (by omega) (by omega), if_pos (Nat.lt_succ_self b)]
  have hp : pathE (HS q a (b + 1) c) (pth b) = 0 := by
    unfold pathE
    rw [pth_path b (by omega), hid]; rfl
  have hu : unpinned (HS q a (b + 1) c) (pth b) = HS q a b c := by
    unfold unpinned
    rw [show (HS q a (b + 1) c).pins = pinsH (b + 1) from rfl, findP_H (by omega) (by omega), if_pos (Nat.lt_succ_self b)]
    show (⟨_, _, (pinsH (b + 1)).eraseIdx b, _⟩ : OSt) = _
    rw [show (pinsH (b + 1)).eraseIdx b = pinsH b by
      have e : pinsH (b + 1) = pinsH b ++ [(pth b, 1)] := by simp [pinsH, List.range_succ]
      rw [e, List.eraseIdx_append_of_length_le (by simp [pinsH])]
      simp [pinsH]]
    rfl
  unfold unpinS unpinL
  rw [if_pos hp, if_pos hp, hid, hu]
  exact ⟨(die_H (q := q) (a := a) (b := b) (c := c) (by omega)).1, (die_H (q := q) (a := a) (b := b) (c := c) (by omega)).2, hp⟩
theorem h_drop {q a b c : Nat} (ha : a < 12) : dropS (HS q a b (c + 1)) 1 = HE q a b c ∧ dropL (HS q a b (c + 1)) 1 = (if a + b + c = 0 then [1] else []) ∧ dropE (HS q a b (c + 1)) 1 = 0 := by
  have hh : heldI (HS q a b (c + 1)) 1 = true := heldI_iff.2 ⟨rfl, Nat.succ_ne_zero c⟩
  have hd : dropped (HS q a b (c + 1)) 1 = HS q a b c := rfl
  unfold dropS dropL dropE
  rw [if_pos hh, if_pos hh, if_pos hh, hd]
  exact ⟨(die_H (q := q) (a := a) (b := b) (c := c) (by omega)).1, (die_H (q := q) (a := a) (b := b) (c := c) (by omega)).2, rfl⟩
theorem live_HE {q a b c : Nat} : liveS (HE q a b c) = if a + b + c = 0 then [] else [1] := by
  unfold HE
  split <;> rfl
theorem h_ok {q a b c : Nat} (ha : a < 12) (hb : b ≤ 9) (hc : c ≤ 9) (hq : q ≤ 9) : OOk 100 (HS q a b c) where
  len := by simp [HS, fdsH]; omega
  fd id h h0 := by
    have : id = 1 := by
      unfold HS fdsH at h
      simp only [List.mem_append, List.mem_replicate] at h
      rcases h with h | h
      · exact h.2
      · exact absurd h.2 h0
    rw [this]; exact there_H
  pin p h := by
    have : p.2 = 1 := by
      unfold HS pinsH at h
      obtain ⟨i, _, rfl⟩ := List.mem_map.1 h
      rfl
    rw [this]; exact there_H
  nd i j x y h1 h2 hij e := by
    have hat : ∀ (i : Nat) (e : ByteArray × Nat), (pinsH b)[i]? = some e → i < b ∧ e = (pth i, 1) := fun i e h => by
      unfold pinsH at h
      rw [List.getElem?_map, Option.map_eq_some_iff] at h
      obtain ⟨k, hk, rfl⟩ := h
      obtain ⟨h1, h2⟩ := List.getElem?_eq_some_iff.1 hk
      simp at h1 h2
      subst h2
      exact ⟨h1, rfl⟩
    obtain ⟨a1, rfl⟩ := hat i x h1
    obtain ⟨a2, rfl⟩ := hat j y h2
    exact hij (pth_inj (by omega) (by omega) e)
  psz p h := by
    unfold HS pinsH at h
    obtain ⟨i, _, rfl⟩ := List.mem_map.1 h
    show 2 ≤ 256
    decide
  os := by simp [HS]
  hl id := by
    unfold holdsOf obj HS
    split
    · simp
    · rename_i h0
      rcases Nat.lt_or_ge (id - 1) 1 with h | h
      · have : id - 1 = 0 := by omega
        simp [this]; omega
      · rw [List.getElem?_eq_none (by simpa using h)]; simp
  pl := by simp [HS, pinsH]; omega
  pm := by show q ≤ 100; omega
theorem he_ok {q a b c : Nat} (ha : a < 11) (hb : b ≤ 9) (hc : c ≤ 9) (hq : q ≤ 9) : OOk 100 (HE q a b c) := by
  rw [← (h_close ha).1]
  exact ok_close (h_ok (by omega) hb hc hq) _
end Go.Proofs.Ytmohbdbofehamaa
