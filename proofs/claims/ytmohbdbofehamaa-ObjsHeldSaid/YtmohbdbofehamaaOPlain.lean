/-
  Layer 14, plainly: objects, fds, paths; what each call answers, and what it leaves.
-/
import Derived.Test.YtmohbdbofehamaaBlk
import Derived.Lib.Strings
namespace Go.Proofs.Ytmohbdbofehamaa
open Go Go.RowKit
set_option linter.unusedVariables false
set_option linter.unusedSimpArgs false
/-- An object: its kind, its Holds, whether it is there. -/
structure Ob where
  kind : Int
  holds : Nat
  there : Bool
/-- A table: object n at place n - 1, fds (0: free), paths, and how many paths were ever pinned. -/
structure OSt where
  os : List Ob
  fds : List Nat
  pins : List (ByteArray × Nat)
  pm : Nat
def keyB (a b : ByteArray) : Bool := a.toList == b.toList
def findP : List (ByteArray × Nat) → ByteArray → Option Nat
  | [], _ => none
  | e :: es, k => if keyB e.1 k = true then some 0 else (findP es k).map (· + 1)
def freeAt : List Nat → Option Nat
  | [] => none
  | a :: l => if a = 0 then some 0 else (freeAt l).map (· + 1)
namespace OSt
def obj (s : OSt) (id : Nat) : Option Ob := if id = 0 then none else s.os[id - 1]?
def isThere (s : OSt) (id : Nat) : Prop := ∃ o, s.obj id = some o ∧ o.there = true
def leads (s : OSt) (id : Nat) : Nat := s.fds.count id + s.pins.countP (fun p => p.2 == id)
def setObj (s : OSt) (id : Nat) (o : Ob) : OSt := { s with os := s.os.set (id - 1) o }
def free (s : OSt) : Option Nat := freeAt s.fds
def fdId (s : OSt) (fd : Int) : Nat := if 0 ≤ fd ∧ fd < 64 then s.fds.getD fd.toNat 0 else 0
def pinId (s : OSt) (p : ByteArray) : Nat := (findP s.pins p).elim 0 fun i => (s.pins[i]?).elim 0 (·.2)
def kindOf (s : OSt) (id : Nat) : Int := (s.obj id).elim 0 (·.kind)
def holdsOf (s : OSt) (id : Nat) : Nat := (s.obj id).elim 0 (·.holds)
/-- Nothing holds it. -/
def loose (s : OSt) (id : Nat) : Bool := decide (s.leads id + s.holdsOf id = 0)
/-- It dies, if nothing holds it. -/
def die (s : OSt) (id : Nat) : OSt := if s.loose id = true then s.setObj id ⟨s.kindOf id, s.holdsOf id, false⟩ else s
def dead (s : OSt) (id : Nat) : List Nat := if s.loose id = true then [id] else []
def putFd (s : OSt) (f id : Nat) : OSt := { s with fds := s.fds.set f id }
end OSt
open OSt
def addS (s : OSt) (k : Int) : OSt := s.free.elim s fun f => { s with os := s.os ++ [⟨k, 0, true⟩], fds := s.fds.set f (s.os.length + 1) }
def addN (s : OSt) : Int := s.free.elim 0 fun f => (f : Int)
def addP (s : OSt) : Int := s.free.elim 0 fun _ => ((s.os.length + 1 : Nat) : Int)
def openE (s : OSt) : Int := s.free.elim 8 fun _ => 0
def openS (s : OSt) (id : Nat) : OSt := s.free.elim s fun f => s.putFd f id
def dupS (s : OSt) (fd : Int) : OSt := if s.fdId fd = 0 then s else openS s (s.fdId fd)
def dupN (s : OSt) (fd : Int) : Int := if s.fdId fd = 0 then 0 else addN s
def dupE (s : OSt) (fd : Int) : Int := if s.fdId fd = 0 then 8 else openE s
def fdE (s : OSt) (fd : Int) : Int := if s.fdId fd = 0 then 8 else 0
def getN (s : OSt) (fd : Int) : Int := if s.fdId fd = 0 then 0 else s.kindOf (s.fdId fd)
def closed (s : OSt) (fd : Int) : OSt := s.putFd fd.toNat 0
def closeS (s : OSt) (fd : Int) : OSt := if s.fdId fd = 0 then s else (closed s fd).die (s.fdId fd)
def closeL (s : OSt) (fd : Int) : List Nat := if s.fdId fd = 0 then [] else (closed s fd).dead (s.fdId fd)
/-- The object of this number, if it is there. -/
def thereI (s : OSt) (n : Int) : Bool := decide (1 ≤ n) && (s.obj n.toNat).elim false (·.there)
def heldI (s : OSt) (n : Int) : Bool := thereI s n && decide (s.holdsOf n.toNat ≠ 0)
def withHolds (s : OSt) (id h : Nat) : OSt := s.setObj id ⟨s.kindOf id, h, true⟩
def holdS (s : OSt) (n : Int) : OSt := if thereI s n = true then withHolds s n.toNat (s.holdsOf n.toNat + 1) else s
def holdE (s : OSt) (n : Int) : Int := if thereI s n = true then 0 else 1
def dropped (s : OSt) (n : Int) : OSt := withHolds s n.toNat (s.holdsOf n.toNat - 1)
def dropS (s : OSt) (n : Int) : OSt := if heldI s n = true then (dropped s n).die n.toNat else s
def dropL (s : OSt) (n : Int) : List Nat := if heldI s n = true then (dropped s n).dead n.toNat else []
def dropE (s : OSt) (n : Int) : Int := if heldI s n = true then 0 else 1
def pathB (p : ByteArray) : Bool := decide (2 ≤ p.size) && decide (p.size ≤ 256) && decide (p.data[0]? = some 47) && decide ((0 : UInt8) ∉ p.data.toList)
def pinBad (s : OSt) (p : ByteArray) (fd : Int) : Int := if pathB p = false then 1 else if s.fdId fd = 0 then 8 else if s.pinId p ≠ 0 then 5 else 0
def pinS (s : OSt) (p : ByteArray) (fd : Int) : OSt := if pinBad s p fd = 0 then { s with pins := s.pins ++ [(p, s.fdId fd)], pm := s.pm + 1 } else s
def pathE (s : OSt) (p : ByteArray) : Int := if pathB p = false then 1 else if s.pinId p = 0 then 4 else 0
def unpinned (s : OSt) (p : ByteArray) : OSt := { s with pins := s.pins.eraseIdx ((findP s.pins p).getD 0) }
def unpinS (s : OSt) (p : ByteArray) : OSt := if pathE s p = 0 then (unpinned s p).die (s.pinId p) else s
def unpinL (s : OSt) (p : ByteArray) : List Nat := if pathE s p = 0 then (unpinned s p).dead (s.pinId p) else []
def opE (s : OSt) (p : ByteArray) : Int := if pathE s p = 0 then openE s else pathE s p
def opN (s : OSt) (p : ByteArray) : Int := if pathE s p = 0 then addN s else 0
def opS (s : OSt) (p : ByteArray) : OSt := if pathE s p = 0 then openS s (s.pinId p) else s
def liveTo (os : List Ob) : Nat → List Nat
  | 0 => []
  | i + 1 => liveTo os i ++ (if (os[i]?).elim false (·.there) = true then [i + 1] else [])
def liveS (s : OSt) : List Nat := liveTo s.os s.os.length
/-! ### free, findP -/
theorem freeAt_some : ∀ {l : List Nat} {f : Nat}, freeAt l = some f → l[f]? = some 0 ∧ ∀ j : Nat, j < f → ∀ a : Nat, l[j]? = some a → a ≠ 0
  | [], f, h => by cases h
  | a :: l, f, h => by
    unfold freeAt at h
    split at h
    · rename_i ha
      cases h
      exact ⟨by simp [ha], fun j hj => by omega⟩
    · rename_i ha
      obtain ⟨g, hg, rfl⟩ := Option.map_eq_some_iff.1 h
      obtain ⟨h1, h2⟩ := freeAt_some hg
      refine ⟨by simpa using h1, fun j hj b hb => ?_⟩
      rcases j with _ | j
      · simp at hb; subst hb; exact ha
      · exact h2 j (by omega) b (by simpa using hb)
theorem freeAt_none : ∀ {l : List Nat}, freeAt l = none → ∀ j a : Nat, l[j]? = some a → a ≠ 0
  | [], h, j, a, hj => by simp at hj
  | b :: l, h, j, a, hj => by
    unfold freeAt at h
    split at h
    · cases h
    · rename_i hb
      rcases j with _ | j
      · simp at hj; subst hj; exact hb
      · exact freeAt_none (Option.map_eq_none_iff.1 h) j a (by simpa using hj)
theorem freeAt_of {l : List Nat} {f : Nat} (h1 : l[f]? = some 0) (h2 : ∀ j : Nat, j < f → ∀ a : Nat, l[j]? = some a → a ≠ 0) : freeAt l = some f := by
  cases h : freeAt l with
  | none => exact absurd rfl (freeAt_none h f 0 h1)
  | some g =>
    obtain ⟨a1, a2⟩ := freeAt_some h
    rcases Nat.lt_trichotomy f g with hl | rfl | hl
    · exact absurd rfl (a2 f hl 0 h1)
    · rfl
    · exact absurd rfl (h2 g hl 0 a1)
theorem freeAt_off {l : List Nat} (h : ∀ j a : Nat, l[j]? = some a → a ≠ 0) : freeAt l = none := by
  cases h' : freeAt l with
  | none => rfl
  | some g => exact absurd rfl (h g 0 (freeAt_some h').1)
theorem ba_ext {a b : ByteArray} (h : a.data.toList = b.data.toList) : a = b := ByteArray.ext (Array.toList_inj.1 h)
theorem keyB_iff {a b : ByteArray} : keyB a b = true ↔ a = b := by
  unfold keyB
  rw [beq_iff_eq, Lib.toList_data, Lib.toList_data]
  exact ⟨ba_ext, fun h => by rw [h]⟩
theorem keyB_no {a b : ByteArray} : keyB a b = false ↔ a ≠ b := by
  rw [← Bool.not_eq_true, keyB_iff]
theorem findP_some : ∀ {l : List (ByteArray × Nat)} {k : ByteArray} {i : Nat}, findP l k = some i → ∃ e, l[i]? = some e ∧ e.1 = k
  | [], k, i, h => by cases h
  | e :: l, k, i, h => by
    unfold findP at h
    split at h
    · rename_i hk
      cases h
      exact ⟨e, rfl, keyB_iff.1 hk⟩
    · obtain ⟨j, hj, rfl⟩ := Option.map_eq_some_iff.1 h
      simpa using findP_some hj
theorem findP_none : ∀ {l : List (ByteArray × Nat)} {k : ByteArray}, findP l k = none → ∀ e, e ∈ l → e.1 ≠ k
  | [], k, h, e, he => by simp at he
  | a :: l, k, h, e, he => by
    unfold findP at h
    split at h
    · cases h
    · rename_i hk
      rcases List.mem_cons.1 he with rfl | he
      · exact fun hh => hk (keyB_iff.2 hh)
      · exact findP_none (Option.map_eq_none_iff.1 h) e he
theorem findP_at : ∀ {es : List (ByteArray × Nat)} {k : ByteArray} {j : Nat} {e : ByteArray × Nat}, findP (es.take j) k = none → es[j]? = some e → keyB e.1 k = true → findP es k = some j
  | [], _, _, _, _, h, _ => by simp at h
  | e' :: es, k, 0, e, _, h, hk => by
    simp at h
    subst h
    unfold findP
    rw [if_pos hk]
  | e' :: es, k, j + 1, e, h0, h, hk => by
    rw [List.take_succ_cons] at h0
    unfold findP at h0 ⊢
    split at h0
    · cases h0
    · rename_i hn
      rw [if_neg hn, findP_at (Option.map_eq_none_iff.1 h0) (by simpa using h) hk]
      rfl
theorem findP_step : ∀ {es : List (ByteArray × Nat)} {k : ByteArray} {j : Nat} {e : ByteArray × Nat}, findP (es.take j) k = none → es[j]? = some e → keyB e.1 k = false → findP (es.take (j + 1)) k = none
  | [], _, _, _, _, h, _ => by simp at h
  | e' :: es, k, 0, e, _, h, hk => by
    simp at h
    subst h
    simp [findP, hk]
  | e' :: es, k, j + 1, e, h0, h, hk => by
    rw [List.take_succ_cons] at h0 ⊢
    unfold findP at h0 ⊢
    split at h0
    · cases h0
    · rename_i hn
      rw [if_neg hn, findP_step (Option.map_eq_none_iff.1 h0) (by simpa using h) hk]
      rfl
/-! ### a table that may be -/
structure OOk (n : Nat) (s : OSt) : Prop where
  len : s.fds.length = 64
  fd : ∀ id, id ∈ s.fds → id ≠ 0 → s.isThere id
  pin : ∀ q, q ∈ s.pins → s.isThere q.2
  nd : ∀ (i j : Nat) (a b : ByteArray × Nat), s.pins[i]? = some a → s.pins[j]? = some b → i ≠ j → a.1 ≠ b.1
  psz : ∀ q, q ∈ s.pins → q.1.size ≤ 256
  os : s.os.length ≤ n
  hl : ∀ id, s.holdsOf id ≤ n
  pl : s.pins.length ≤ n
  pm : s.pm ≤ n
section
variable {s : OSt} {n id k f : Nat} {fd : Int}
theorem isThere_pos (h : s.isThere id) : 1 ≤ id ∧ id ≤ s.os.length := by
  obtain ⟨o, h1, _⟩ := h
  unfold obj at h1
  split at h1
  · cases h1
  · have := (List.getElem?_eq_some_iff.1 h1).1
    omega
theorem obj_setObj (o : Ob) (h : (s.obj id).isSome = true) : (s.setObj id o).obj k = if k = id then some o else s.obj k := by
  unfold obj at h ⊢
  simp only [OSt.setObj]
  by_cases h0 : k = 0
  · subst h0
    by_cases h1 : 0 = id
    · subst h1; simp at h
    · simp [h1]
  · rw [if_neg h0, if_neg h0]
    by_cases h1 : id = 0
    · rw [if_pos h1] at h; cases h
    · rw [if_neg h1] at h
      have hl : id - 1 < s.os.length := by
        obtain ⟨o', ho'⟩ := Option.isSome_iff_exists.1 h
        exact (List.getElem?_eq_some_iff.1 ho').1
      by_cases h2 : k = id
      · subst h2
        rw [if_pos rfl, List.getElem?_set_self hl]
      · rw [if_neg h2, List.getElem?_set_ne (by omega)]
theorem isThere_some (h : s.isThere id) : (s.obj id).isSome = true := by obtain ⟨o, h1, _⟩ := h; rw [h1]; rfl
theorem isThere_setObj (o : Ob) (h : s.isThere id) (ho : o.there = true) : (s.setObj id o).isThere k ↔ s.isThere k := by
  unfold isThere
  rw [obj_setObj o (isThere_some h)]
  by_cases hk : k = id
  · subst hk
    rw [if_pos rfl]
    exact ⟨fun _ => h, fun _ => ⟨o, rfl, ho⟩⟩
  · rw [if_neg hk]
theorem isThere_die (o : Ob) (h : s.isThere id) (hk : k ≠ id) : (s.setObj id o).isThere k ↔ s.isThere k := by
  unfold isThere
  rw [obj_setObj o (isThere_some h), if_neg hk]
theorem holdsOf_setObj (o : Ob) (h : s.isThere id) : (s.setObj id o).holdsOf k = if k = id then o.holds else s.holdsOf k := by
  unfold holdsOf
  rw [obj_setObj o (isThere_some h)]
  split <;> rfl
theorem kindOf_setObj (o : Ob) (h : s.isThere id) : (s.setObj id o).kindOf k = if k = id then o.kind else s.kindOf k := by
  unfold kindOf
  rw [obj_setObj o (isThere_some h)]
  split <;> rfl
theorem thereI_iff {m : Int} : thereI s m = true ↔ 1 ≤ m ∧ s.isThere m.toNat := by
  unfold thereI isThere
  simp only [Bool.and_eq_true, decide_eq_true_eq]
  refine and_congr_right fun h1 => ?_
  cases s.obj m.toNat with
  | none => simp
  | some o => simp
theorem fdId_lt (h : s.fdId fd ≠ 0) : ∃ f : Nat, fd = (f : Int) ∧ f < 64 := by
  unfold fdId at h
  split at h
  · rename_i h1
    exact ⟨fd.toNat, by omega, by omega⟩
  · exact absurd rfl h
theorem fdId_at (hf : f < 64) : s.fdId (f : Int) = s.fds.getD f 0 := by
  unfold fdId
  rw [if_pos (by omega)]; rfl
theorem fdId_get (ho : OOk n s) (hf : f < 64) : s.fds[f]? = some (s.fdId (f : Int)) := by
  rw [fdId_at hf, List.getD_eq_getElem?_getD]
  have : f < s.fds.length := by rw [ho.len]; exact hf
  rw [List.getElem?_eq_getElem this]; rfl
theorem fdId_there (ho : OOk n s) (h : s.fdId fd ≠ 0) : s.isThere (s.fdId fd) := by
  obtain ⟨f, rfl, hf⟩ := fdId_lt h
  exact ho.fd _ (List.mem_of_getElem? (fdId_get ho hf)) h
theorem pinId_at (ho : OOk n s) {p : ByteArray} (h : s.pinId p ≠ 0) : ∃ i, findP s.pins p = some i ∧ s.pins[i]? = some (p, s.pinId p) := by
  unfold pinId at h ⊢
  cases hf : findP s.pins p with
  | none => rw [hf] at h; exact absurd rfl h
  | some i =>
    obtain ⟨e, he, hk⟩ := findP_some hf
    refine ⟨i, rfl, ?_⟩
    subst hk
    simp only [Option.elim_some, he]
theorem pinId_none (ho : OOk n s) {p : ByteArray} (h : s.pinId p = 0) : findP s.pins p = none := by
  cases hf : findP s.pins p with
  | none => rfl
  | some i =>
    obtain ⟨e, he, hk⟩ := findP_some hf
    unfold pinId at h
    rw [hf] at h
    simp only [Option.elim_some, he] at h
    have := (isThere_pos (ho.pin e (List.mem_of_getElem? he))).1
    omega
theorem pinId_there (ho : OOk n s) {p : ByteArray} (h : s.pinId p ≠ 0) : s.isThere (s.pinId p) := by
  obtain ⟨i, _, h2⟩ := pinId_at ho h
  exact ho.pin _ (List.mem_of_getElem? h2)
theorem leads_le (ho : OOk n s) : s.leads id ≤ 64 + n := by
  unfold leads
  have h1 : s.fds.count id ≤ s.fds.length := List.count_le_length
  have h2 : s.pins.countP (fun p => p.2 == id) ≤ s.pins.length := List.countP_le_length
  have := ho.len
  have := ho.pl
  omega
theorem leads_fds (hf : f < s.fds.length) (v : Nat) : (s.putFd f v).leads k + (if s.fds[f] = k then 1 else 0) = s.leads k + (if v = k then 1 else 0) := by
  unfold leads putFd
  simp only [List.count_set hf]
  have : s.fds[f] = k → 0 < s.fds.count k := fun h => by rw [← h]; exact List.count_pos_iff.2 (List.getElem_mem hf)
  by_cases h1 : s.fds[f] = k
  · have := this h1
    by_cases h2 : v = k <;> simp [h1, h2] <;> omega
  · by_cases h2 : v = k <;> simp [h1, h2] <;> omega
theorem count_erase_pins {l : List (ByteArray × Nat)} {i : Nat} {e : ByteArray × Nat} (h : l[i]? = some e) : (l.eraseIdx i).countP (fun p => p.2 == k) + (if e.2 = k then 1 else 0) = l.countP (fun p => p.2 == k) := by
  have hi := (List.getElem?_eq_some_iff.1 h).1
  have he := (List.getElem?_eq_some_iff.1 h).2
  rw [List.eraseIdx_eq_take_drop_succ, List.countP_append]
  conv => rhs; rw [← List.take_append_drop i l, List.countP_append, List.drop_eq_getElem_cons hi, he, List.countP_cons]
  simp only [beq_iff_eq]
  omega
theorem leads_zero (h : s.leads id = 0) : id ∉ s.fds ∧ ∀ q, q ∈ s.pins → q.2 ≠ id := by
  unfold leads at h
  refine ⟨List.count_eq_zero.1 (by omega), fun q hq => ?_⟩
  have := List.countP_eq_zero.1 (show s.pins.countP (fun p => p.2 == id) = 0 by omega) q hq
  simpa using this
end
end Go.Proofs.Ytmohbdbofehamaa
