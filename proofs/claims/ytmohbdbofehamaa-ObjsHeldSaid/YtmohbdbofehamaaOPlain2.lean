/-
  Layer 14, plainly: each call leaves a table that may be.
-/
import Derived.Test.YtmohbdbofehamaaOPlain
namespace Go.Proofs.Ytmohbdbofehamaa
open Go Go.RowKit OSt
set_option linter.unusedVariables false
set_option linter.unusedSimpArgs false
section
variable {s : OSt} {n m id k f : Nat} {fd : Int}
theorem OOk.mono (h : OOk n s) (hm : n ≤ m) : OOk m s :=
  ⟨h.len, h.fd, h.pin, h.nd, h.psz, Nat.le_trans h.os hm, fun id => Nat.le_trans (h.hl id) hm, Nat.le_trans h.pl hm, Nat.le_trans h.pm hm⟩
theorem mem_set_fds {l : List Nat} {v a : Nat} (h : a ∈ l.set f v) : a ∈ l ∨ a = v := (List.mem_or_eq_of_mem_set h)
theorem ok_putFd (ho : OOk n s) (hid : id = 0 ∨ s.isThere id) : OOk n (s.putFd f id) := by
  refine ⟨by simp [putFd, ho.len], fun a ha h0 => ?_, ho.pin, ho.nd, ho.psz, ho.os, ho.hl, ho.pl, ho.pm⟩
  rcases mem_set_fds ha with h1 | rfl
  · exact ho.fd a h1 h0
  · exact hid.resolve_left h0
theorem ok_setObj (ho : OOk n s) (o : Ob) (h : s.isThere id) (ht : o.there = true) (hh : o.holds ≤ m) (hm : n ≤ m) : OOk m (s.setObj id o) := by
  refine ⟨ho.len, fun a ha h0 => (isThere_setObj o h ht).2 (ho.fd a ha h0), fun q hq => (isThere_setObj o h ht).2 (ho.pin q hq), ho.nd, ho.psz, ?_, fun k => ?_, Nat.le_trans ho.pl hm, Nat.le_trans ho.pm hm⟩
  · simp only [OSt.setObj, List.length_set]; exact Nat.le_trans ho.os hm
  · rw [holdsOf_setObj o h]
    split
    · exact hh
    · exact Nat.le_trans (ho.hl k) hm
theorem ok_die (ho : OOk n s) (h : s.isThere id) : OOk n (s.die id) := by
  unfold OSt.die
  split
  · rename_i hl
    unfold loose at hl
    have h0 : s.leads id = 0 := by have := of_decide_eq_true hl; omega
    obtain ⟨h1, h2⟩ := leads_zero h0
    refine ⟨ho.len, fun a ha ha0 => (isThere_die _ h (fun e => h1 (e ▸ ha))).2 (ho.fd a ha ha0), fun q hq => (isThere_die _ h (h2 q hq)).2 (ho.pin q hq), ho.nd, ho.psz, ?_, fun k => ?_, ho.pl, ho.pm⟩
    · simp only [OSt.setObj, List.length_set]; exact ho.os
    · rw [holdsOf_setObj _ h]
      split
      · exact ho.hl id
      · exact ho.hl k
  · exact ho
theorem obj_add (o : Ob) (l : List Nat) : ({ s with os := s.os ++ [o], fds := l } : OSt).obj k = if k = s.os.length + 1 then some o else s.obj k := by
  unfold obj
  by_cases h0 : k = 0
  · subst h0; simp
  · rw [if_neg h0, if_neg h0]
    by_cases h1 : k = s.os.length + 1
    · subst h1; simp
    · rw [if_neg h1]
      show (s.os ++ [o])[k - 1]? = _
      rcases Nat.lt_or_ge (k - 1) s.os.length with hl | hg
      · rw [List.getElem?_append_left hl]
      · rw [List.getElem?_append_right hg, List.getElem?_eq_none (l := s.os) hg, List.getElem?_eq_none]
        simp; omega
theorem isThere_add (kd : Int) (l : List Nat) : ({ s with os := s.os ++ [⟨kd, 0, true⟩], fds := l } : OSt).isThere k ↔ k = s.os.length + 1 ∨ s.isThere k := by
  unfold isThere
  rw [obj_add]
  by_cases hk : k = s.os.length + 1
  · rw [if_pos hk]
    exact ⟨fun _ => .inl hk, fun _ => ⟨_, rfl, rfl⟩⟩
  · rw [if_neg hk]
    exact ⟨.inr, fun h => h.resolve_left hk⟩
theorem ok_add (ho : OOk n s) (kd : Int) : OOk (n + 1) (addS s kd) := by
  unfold addS free
  cases hf : freeAt s.fds with
  | none => exact ho.mono (Nat.le_succ n)
  | some f =>
    refine ⟨by simp [ho.len], fun a ha h0 => (isThere_add kd _).2 ?_, fun q hq => (isThere_add kd _).2 (.inr (ho.pin q hq)), ho.nd, ho.psz, ?_, fun k => ?_, Nat.le_succ_of_le ho.pl, Nat.le_succ_of_le ho.pm⟩
    · rcases mem_set_fds ha with h1 | rfl
      · exact .inr (ho.fd a h1 h0)
      · exact .inl rfl
    · have := ho.os
      simp; omega
    · have e : OSt.obj ({ s with os := s.os ++ [⟨kd, 0, true⟩], fds := s.fds.set f (s.os.length + 1) } : OSt) k = _ := obj_add _ _
      unfold holdsOf
      simp only [Option.elim_some, e]
      split
      · exact Nat.zero_le _
      · exact Nat.le_succ_of_le (ho.hl k)
theorem ok_open (ho : OOk n s) (h : s.isThere id) : OOk n (openS s id) := by
  unfold openS free
  cases hf : freeAt s.fds with
  | none => exact ho
  | some f => exact ok_putFd ho (.inr h)
theorem ok_dup (ho : OOk n s) (fd : Int) : OOk n (dupS s fd) := by
  unfold dupS
  split
  · exact ho
  · rename_i h; exact ok_open ho (fdId_there ho h)
theorem isThere_fds (l : List Nat) : ({ s with fds := l } : OSt).isThere k ↔ s.isThere k := Iff.rfl
theorem ok_close (ho : OOk n s) (fd : Int) : OOk n (closeS s fd) := by
  unfold closeS
  split
  · exact ho
  · rename_i h; exact ok_die (ok_putFd ho (.inl rfl)) (fdId_there ho h)
theorem ok_hold (ho : OOk n s) (j : Int) : OOk (n + 1) (holdS s j) := by
  unfold holdS
  split
  · rename_i h
    exact ok_setObj ho _ (thereI_iff.1 h).2 rfl (Nat.succ_le_succ (ho.hl _)) (Nat.le_succ n)
  · exact ho.mono (Nat.le_succ n)
theorem heldI_iff {j : Int} : heldI s j = true ↔ thereI s j = true ∧ s.holdsOf j.toNat ≠ 0 := by
  unfold heldI
  rw [Bool.and_eq_true, decide_eq_true_eq]
theorem dropped_there {j : Int} (h : thereI s j = true) : (dropped s j).isThere j.toNat := (isThere_setObj _ (thereI_iff.1 h).2 rfl).2 (thereI_iff.1 h).2
theorem ok_dropped (ho : OOk n s) {j : Int} (h : thereI s j = true) : OOk n (dropped s j) :=
  ok_setObj ho _ (thereI_iff.1 h).2 rfl (Nat.le_trans (Nat.sub_le _ _) (ho.hl _)) (Nat.le_refl n)
theorem ok_drop (ho : OOk n s) (j : Int) : OOk n (dropS s j) := by
  unfold dropS
  split
  · rename_i h
    have h1 := (heldI_iff.1 h).1
    exact ok_die (ok_dropped ho h1) (dropped_there h1)
  · exact ho
theorem pathB_size {p : ByteArray} (h : pathB p = true) : p.size ≤ 256 := by
  unfold pathB at h
  simp only [Bool.and_eq_true, decide_eq_true_eq] at h
  exact h.1.1.2
theorem pinBad_zero {p : ByteArray} (h : pinBad s p fd = 0) : pathB p = true ∧ s.fdId fd ≠ 0 ∧ s.pinId p = 0 := by
  unfold pinBad at h
  split at h
  · cases h
  · rename_i h1
    split at h
    · cases h
    · rename_i h2
      split at h
      · cases h
      · rename_i h3
        exact ⟨by simpa using h1, h2, by simpa using h3⟩
theorem ok_pin (ho : OOk n s) (p : ByteArray) (fd : Int) : OOk (n + 1) (pinS s p fd) := by
  unfold pinS
  split
  · rename_i h
    obtain ⟨h1, h2, h3⟩ := pinBad_zero h
    have hn := findP_none (pinId_none ho h3)
    have hm : ∀ q, q ∈ s.pins ++ [(p, s.fdId fd)] → q ∈ s.pins ∨ q = (p, s.fdId fd) := fun q hq => by simpa using hq
    refine ⟨ho.len, ho.fd, fun q hq => ?_, fun i j a b ha hb hij => ?_, fun q hq => ?_, Nat.le_succ_of_le ho.os, fun k => Nat.le_succ_of_le (ho.hl k), ?_, Nat.succ_le_succ ho.pm⟩
    · rcases hm q hq with h4 | rfl
      · exact ho.pin q h4
      · exact (fdId_there ho h2 : s.isThere (s.fdId fd))
    · simp only [List.getElem?_append] at ha hb
      split at ha <;> split at hb
      · exact ho.nd i j a b ha hb hij
      · obtain rfl : b = (p, s.fdId fd) := by simpa using List.mem_of_getElem? hb
        exact hn a (List.mem_of_getElem? ha)
      · obtain rfl : a = (p, s.fdId fd) := by simpa using List.mem_of_getElem? ha
        exact (hn b (List.mem_of_getElem? hb)).symm
      · rename_i g1 g2
        have e1 := (List.getElem?_eq_some_iff.1 ha).1
        have e2 := (List.getElem?_eq_some_iff.1 hb).1
        simp at e1 e2
        omega
    · rcases hm q hq with h4 | rfl
      · exact ho.psz q h4
      · exact pathB_size h1
    · have := ho.pl
      simp; omega
  · exact ho.mono (Nat.le_succ n)
theorem pathE_zero {p : ByteArray} (h : pathE s p = 0) : pathB p = true ∧ s.pinId p ≠ 0 := by
  unfold pathE at h
  split at h
  · cases h
  · rename_i h1
    split at h
    · cases h
    · rename_i h2
      exact ⟨by simpa using h1, h2⟩
theorem ok_unpinned (ho : OOk n s) (p : ByteArray) : OOk n (unpinned s p) := by
  unfold unpinned
  generalize (findP s.pins p).getD 0 = i
  have hs : ∀ q, q ∈ s.pins.eraseIdx i → q ∈ s.pins := fun q hq => List.mem_of_mem_eraseIdx hq
  refine ⟨ho.len, ho.fd, fun q hq => ho.pin q (hs q hq), fun a b x y hx hy hab => ?_, fun q hq => ho.psz q (hs q hq), ho.os, ho.hl, ?_, ho.pm⟩
  · rw [List.getElem?_eraseIdx] at hx hy
    split at hx <;> split at hy
    · exact ho.nd _ _ x y hx hy hab
    · exact ho.nd _ _ x y hx hy (by omega)
    · exact ho.nd _ _ x y hx hy (by omega)
    · exact ho.nd _ _ x y hx hy (by omega)
  · exact Nat.le_trans (List.length_eraseIdx_le _ _) ho.pl
theorem ok_unpin (ho : OOk n s) (p : ByteArray) : OOk n (unpinS s p) := by
  unfold unpinS
  split
  · rename_i h
    exact ok_die (ok_unpinned ho p) (pinId_there ho (pathE_zero h).2)
  · exact ho
theorem ok_op (ho : OOk n s) (p : ByteArray) : OOk n (opS s p) := by
  unfold opS
  split
  · rename_i h
    exact ok_open ho (pinId_there ho (pathE_zero h).2)
  · exact ho
/-! ### which are there, rising -/
theorem mem_liveTo : ∀ {os : List Ob} {i k : Nat}, k ∈ liveTo os i ↔ 1 ≤ k ∧ k ≤ i ∧ (os[k - 1]?).elim false (·.there) = true
  | os, 0, k => by simp [liveTo]; omega
  | os, i + 1, k => by
    unfold liveTo
    rw [List.mem_append, mem_liveTo]
    constructor
    · rintro (⟨h1, h2, h3⟩ | h)
      · exact ⟨h1, by omega, h3⟩
      · split at h
        · rename_i ht
          simp at h
          subst h
          exact ⟨by omega, Nat.le_refl _, ht⟩
        · simp at h
    · rintro ⟨h1, h2, h3⟩
      rcases Nat.lt_or_ge i k with hlt | hge
      · obtain rfl : k = i + 1 := by omega
        rw [Nat.add_sub_cancel] at h3
        rw [if_pos h3]
        exact .inr (by simp)
      · exact .inl ⟨h1, hge, h3⟩
theorem liveTo_asc : ∀ (os : List Ob) (i : Nat), (liveTo os i).Pairwise (· < ·)
  | os, 0 => List.Pairwise.nil
  | os, i + 1 => by
    unfold liveTo
    rw [List.pairwise_append]
    refine ⟨liveTo_asc os i, by split <;> simp, fun a ha b hb => ?_⟩
    have := (mem_liveTo.1 ha).2.1
    split at hb
    · simp at hb; omega
    · simp at hb
theorem mem_live : k ∈ liveS s ↔ s.isThere k := by
  unfold liveS
  rw [mem_liveTo]
  constructor
  · rintro ⟨h1, h2, h3⟩
    cases ho : s.os[k - 1]? with
    | none => rw [ho] at h3; cases h3
    | some o =>
      rw [ho] at h3
      exact ⟨o, by unfold obj; rw [if_neg (by omega)]; exact ho, h3⟩
  · intro h
    obtain ⟨h1, h2⟩ := isThere_pos h
    obtain ⟨o, h3, h4⟩ := h
    unfold obj at h3
    rw [if_neg (by omega)] at h3
    exact ⟨h1, h2, by rw [h3]; exact h4⟩
theorem asc_eqN : ∀ {a b : List Nat}, a.Pairwise (· < ·) → b.Pairwise (· < ·) → (∀ n, n ∈ a ↔ n ∈ b) → a = b
  | [], [], _, _, _ => rfl
  | [], x :: b, _, _, h => absurd ((h x).2 (by simp)) (by simp)
  | x :: a, [], _, _, h => absurd ((h x).1 (by simp)) (by simp)
  | x :: a, y :: b, ha, hb, h => by
    obtain ⟨ha1, ha2⟩ := List.pairwise_cons.1 ha
    obtain ⟨hb1, hb2⟩ := List.pairwise_cons.1 hb
    have hxy : x = y := by
      rcases List.mem_cons.1 ((h x).1 (by simp)) with e | e
      · exact e
      · rcases List.mem_cons.1 ((h y).2 (by simp)) with e' | e'
        · exact e'.symm
        · have := ha1 y e'; have := hb1 x e; omega
    subst hxy
    congr 1
    refine asc_eqN ha2 hb2 fun n => ⟨fun hn => ?_, fun hn => ?_⟩
    · rcases List.mem_cons.1 ((h n).1 (List.mem_cons_of_mem _ hn)) with e | e
      · have := ha1 n hn; omega
      · exact e
    · rcases List.mem_cons.1 ((h n).2 (List.mem_cons_of_mem _ hn)) with e | e
      · have := hb1 n hn; omega
      · exact e
theorem liveTo_le : ∀ (os : List Ob) (i : Nat), (liveTo os i).length ≤ i
  | os, 0 => Nat.le_refl _
  | os, i + 1 => by
    have := liveTo_le os i
    unfold liveTo
    rw [List.length_append]
    split <;> simp <;> omega
end
end Go.Proofs.Ytmohbdbofehamaa
