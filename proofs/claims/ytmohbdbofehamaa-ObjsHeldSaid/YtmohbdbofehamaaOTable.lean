/-
  Package objs: a table's small functions: freeFd, leadsTo, openFd, isPath, pathLeadsTo.
-/
import Derived.Test.YtmohbdbofehamaaOLive
namespace Go.Proofs.Ytmohbdbofehamaa
open Go Go.RowKit Go.Maps OSt
set_option linter.unusedVariables false
set_option linter.unusedSimpArgs false
set_option maxRecDepth 100000
/-- A table whose objects' counts say what leads to them. -/
abbrev TG (x : Nat) (w0 : World) (P0 : Nat → Prop) (s : OSt) (w : World) : Prop := PG x w0 P0 s s.leads w
section
variable {x : Nat} {w0 w w' : World} {P0 P U : Nat → Prop} {s s' : OSt} {ld ld' : Nat → Nat} {mo mp mo' mp' : Option Nat} {D E D' E' : DataW Value} {bl bl' : Nat → Nat} {id n f k : Nat} {fd : Int} {p : ByteArray}
theorem PG.congr (h : PG x w0 P0 s ld w) (hl : ∀ id, s.isThere id → ld id = ld' id) : PG x w0 P0 s ld' w := by
  obtain ⟨mo, mp, D, E, bl, h⟩ := h
  exact ⟨mo, mp, D, E, bl, h.keeps, h.pl, h.px, h.tab, h.obs, h.pth, h.pmo, h.pmp, h.two, h.dat, h.pat, fun id hid => by rw [← hl id hid]; exact h.ent id hid, h.pent, h.inj⟩
theorem PGat.setFd (h : PGat x w0 P0 s ld mo mp D E bl w) (hf : f < s.fds.length) (v : Nat) : PGat x w0 P0 (s.putFd f v) ld mo mp D E bl (w.setCell ⟨x, 2 + f, none⟩ (.int .i64 (v : Int))) := by
  have k : Keeps (fun b => b = x) w (w.setCell ⟨x, 2 + f, none⟩ (.int .i64 (v : Int))) := (Keeps.refl (fun b => b = x) w).setCell (p := ⟨x, 2 + f, none⟩) (.inl rfl) _
  refine h.local_ (s' := s.putFd f v) k (fun b hb => by rw [hb]; exact .inl h.px) ?_ (h.obs.keeps k fun b hb e => h.obs.ne_ h.tab hb e.symm) (h.pth.keeps k fun b hb e => h.pth.ne_ h.tab hb e.symm) (fun b hb => .inl hb) (fun b hb => .inl hb) h.two ⟨h.dat.yes, h.dat.no⟩ h.pat (fun j hj => (h.ent j hj).keeps k ((h.ent j hj).ne_ h.tab (by decide))) (fun j hj => .inr ⟨j, hj, rfl⟩) h.inj
  rw [show (s.putFd f v).fds = s.fds.set f v from rfl, ← tabC_set_fd hf v]
  exact h.tab.set_ (2 + f) _
theorem leads_none (ho : OOk n s) (hk : ¬ s.isThere k) (h0 : k ≠ 0) : s.leads k = 0 := by
  unfold leads
  have h1 : s.fds.count k = 0 := List.count_eq_zero.2 fun hm => hk (ho.fd k hm h0)
  have h2 : s.pins.countP (fun p => p.2 == k) = 0 := List.countP_eq_zero.2 fun q hq e => hk (by have := ho.pin q hq; rwa [show q.2 = k by simpa using e] at this)
  omega
theorem free_lt (ho : OOk n s) (h : s.free = some f) : f < 64 ∧ s.fds[f]? = some 0 := by
  have := (freeAt_some h).1
  exact ⟨by have := (List.getElem?_eq_some_iff.1 this).1; rw [ho.len] at this; exact this, this⟩
theorem leads_put (ho : OOk n s) {a : Nat} (h : s.fds[f]? = some a) (v : Nat) (hk : k ≠ 0) : (s.putFd f v).leads k + (if a = k then 1 else 0) = s.leads k + (if v = k then 1 else 0) := by
  obtain ⟨h1, h2⟩ := List.getElem?_eq_some_iff.1 h
  rw [← leads_fds h1 v, h2]
theorem getD_ints {l : List Nat} (j : Nat) : (intsOf l).getD j 0 = ((l.getD j 0 : Nat) : Int) := by
  unfold intsOf
  rw [List.getD_eq_getElem?_getD, List.getD_eq_getElem?_getD, List.getElem?_map]
  cases l[j]? <;> rfl
theorem getD_of {l : List Nat} {j a : Nat} (h : l[j]? = some a) : l.getD j 0 = a := by rw [List.getD_eq_getElem?_getD, h]; rfl
theorem idx_free (l : List Nat) : Lib.idxOf ((intsOf l).take l.length) 0 = (freeAt l).elim (-1) fun f => (f : Int) := by
  cases hf : freeAt l with
  | none =>
    refine Lib.idxOf_miss _ _ _ fun j hj => ?_
    rw [getD_ints]
    have := freeAt_none hf j _ (List.getElem?_eq_getElem hj)
    rw [getD_of (List.getElem?_eq_getElem hj)]
    omega
  | some f =>
    obtain ⟨h1, h2⟩ := freeAt_some hf
    have hl := (List.getElem?_eq_some_iff.1 h1).1
    refine (Lib.idxOf_hit _ _ f _ hl (by simp [intsOf]) (by rw [getD_ints, getD_of h1]; rfl) fun j hj => ?_)
    rw [getD_ints, getD_of (List.getElem?_eq_getElem (show j < l.length by omega))]
    have := h2 j hj _ (List.getElem?_eq_getElem (show j < l.length by omega))
    omega
theorem freeFd_any (h : PG x w0 P0 s ld w) (hl : s.fds.length = 64) : Calls Try.prog 32 #[tp x] w fun e w' => e = .returned (.tuple #[.int .i64 (addN s), .int .i64 (openE s)]) ∧ w = w' := by
  obtain ⟨mo, mp, D, E, bl, h⟩ := h
  have ci := Try.slices_Index_int x 2 64 64 (intsOf s.fds) 0 w (by simp [intsOf, hl]) (by decide) (fun j hj => by
    have hj' : j < s.fds.length := by simpa [intsOf] using hj
    rw [getD_ints, getD_of (List.getElem?_eq_getElem hj')]
    exact (h.tab.cell _).trans (tabC_fd (List.getElem?_eq_getElem hj')))
  have e1 : (intsOf s.fds).take 64 = (intsOf s.fds).take s.fds.length := by rw [hl]
  rw [e1, idx_free] at ci
  have CI := Lib.hid ci
  have hlt : ∀ f, freeAt s.fds = some f → f < 64 := fun f hf => by have := (List.getElem?_eq_some_iff.1 (freeAt_some hf).1).1; omega
  unfold addN openE free
  cases hf : freeAt s.fds with
  | none =>
    rw [hf] at CI
    have CI : Hid (Calls Try.prog 52 #[.slice (some ⟨x, 2, none⟩) 64 64, .int .i64 0] w fun e w' => e = .returned (.int .i64 (-1)) ∧ w' = w) := CI
    clear h ci hl e1 hlt hf
    go_enter Try.func32, Try.ntmps32
    go_wp2_with (go_at_call 52; refine CI.out.mono ?_; rintro e w1 ⟨rfl, hw⟩; obtain rfl := hw.symm; clear hw)
    go_ret2
    exact ⟨rfl, rfl⟩
  | some f =>
    rw [hf] at CI
    have CI : Hid (Calls Try.prog 52 #[.slice (some ⟨x, 2, none⟩) 64 64, .int .i64 0] w fun e w' => e = .returned (.int .i64 (f : Int)) ∧ w' = w) := CI
    have g1 : decide ((f : Int) < 0) = false := decide_eq_false (by omega)
    clear h ci hl e1 hlt hf
    go_enter Try.func32, Try.ntmps32
    go_wp2_with (go_at_call 52; refine CI.out.mono ?_; rintro e w1 ⟨rfl, hw⟩; obtain rfl := hw.symm; clear hw)
    go_ret2
    exact ⟨rfl, rfl⟩
theorem leadsTo_any (h : PG x w0 P0 s ld w) (ho : OOk n s) (fd : Int) : Calls Try.prog 34 #[tp x, .int .i64 fd] w fun e w' => e = .returned (.tuple #[.int .i64 (s.fdId fd : Int), .int .i64 (fdE s fd)]) ∧ w = w' := by
  obtain ⟨mo, mp, D, E, bl, h⟩ := h
  by_cases h1 : fd < 0
  · have e1 : s.fdId fd = 0 := if_neg (by omega)
    have g1 : decide (fd < 0) = true := decide_eq_true h1
    unfold fdE
    rw [e1, if_pos rfl]
    clear h ho h1 e1
    go_enter Try.func34, Try.ntmps34
    go_wp2_with fail
    go_ret2
    exact ⟨rfl, rfl⟩
  · have g1 : decide (fd < 0) = false := decide_eq_false h1
    by_cases h2 : 64 ≤ fd
    · have e1 : s.fdId fd = 0 := if_neg (by omega)
      have g2 : decide (64 ≤ fd) = true := decide_eq_true h2
      unfold fdE
      rw [e1, if_pos rfl]
      clear h ho h1 e1
      go_enter Try.func34, Try.ntmps34
      go_wp2_with fail
      go_ret2
      exact ⟨rfl, rfl⟩
    · obtain ⟨f, rfl⟩ := Int.eq_ofNat_of_zero_le (show 0 ≤ fd by omega)
      have hf : f < 64 := by omega
      have g2 : decide ((64 : Int) ≤ (f : Int)) = false := decide_eq_false h2
      have g3 : decide (64 ≤ f) = false := decide_eq_false (by omega)
      have i1 : (f : Int) < 64 := by omega
      have c0 : w.cell? ⟨x, 2 + f, none⟩ = some (.int .i64 (s.fdId (f : Int) : Int)) := (h.tab.cell _).trans (tabC_fd (fdId_get ho hf))
      unfold fdE
      by_cases h0 : s.fdId (f : Int) = 0
      · rw [if_pos h0]
        rw [h0] at c0 ⊢
        clear h ho h1 h2 h0
        go_enter Try.func34, Try.ntmps34
        go_wp2_with fail
        go_ret2
        exact ⟨rfl, rfl⟩
      · have g4 : ((s.fdId (f : Int) : Int) == 0) = false := by simp; omega
        rw [if_neg h0]
        clear h ho h1 h2 h0
        generalize s.fdId (f : Int) = a at *
        go_enter Try.func34, Try.ntmps34
        go_wp2_with fail
        go_ret2
        exact ⟨rfl, rfl⟩
end
end Go.Proofs.Ytmohbdbofehamaa
