/-
  Package objs: lower, hold, drop.
-/
import Derived.Test.YtmohbdbofehamaaOCounts
namespace Go.Proofs.Ytmohbdbofehamaa
open Go Go.RowKit Go.Maps OSt
set_option linter.unusedVariables false
set_option linter.unusedSimpArgs false
set_option maxRecDepth 100000
section
variable {x : Nat} {w0 w w' : World} {P0 P U : Nat → Prop} {s s' : OSt} {ld ld' : Nat → Nat} {mo mp mo' mp' : Option Nat} {D E D' E' : DataW Value} {bl bl' : Nat → Nat} {id : Nat}
theorem lower_any (h : PG x w0 P0 s ld w) (hn : s.os.length ≤ 1000000) (hid : s.isThere id) (hl : ld id ≤ 1000000) (h0 : ld id ≠ 0) (hh : s.holdsOf id ≤ 1000000) :
    Calls Try.prog 40 #[tp x, .int .i64 (id : Int)] w fun e w' => ∃ v, e = .returned v ∧ SetPost x w0 P0 s (bump ld id (ld id - 1)) id v w' := by
  obtain ⟨mo, mp, D, E, bl, h⟩ := h
  have lk := h.look hn hid
  have c0 : w.cell? ⟨x, 0, none⟩ = some (.map mo) := h.tab.cell 0
  have d1 : w.cell? ⟨bl id, 1, none⟩ = some (.int .i64 (ld id : Int)) := (h.ent id hid).cell 1
  have f1 : w.frozen? ⟨bl id, 1, none⟩ = false := (h.ent id hid).frozen 1
  have CS := Lib.hid (settle_any ⟨mo, mp, D, E, bl, h.setLd hid (ld id - 1)⟩ hn hid (by rw [bump_same]; omega) hh)
  have e1 : IntKind.i64.wrap ((ld id : Int) - 1) = ((ld id - 1 : Nat) : Int) := by rw [IntWalk.i64_in _ (by omega)]; omega
  clear h hid hn hl h0 hh
  generalize ld id - 1 = v at *
  generalize ld id = a at *
  generalize bl id = b at *
  go_enter Try.func40, Try.ntmps40
  go_wp2_with (go_at_call 55; refine CS.out.mono ?_; rintro e w1 ⟨r, rfl, h1⟩; have H1 := Lib.hid h1; clear h1)
  go_ret
  exact ⟨_, rfl, H1.out⟩
theorem chold_yes (h : PG x w0 P0 s ld w) (hn : s.os.length ≤ 1000000) (hid : s.isThere id) (hh : s.holdsOf id ≤ 1000000) :
    Calls Try.prog 39 #[tp x, .int .i64 (id : Int)] w fun e w' => e = .returned (.int .i64 0) ∧ PG x w0 P0 (withHolds s id (s.holdsOf id + 1)) ld w' := by
  obtain ⟨mo, mp, D, E, bl, h⟩ := h
  have lk := h.look hn hid
  have c0 : w.cell? ⟨x, 0, none⟩ = some (.map mo) := h.tab.cell 0
  have d2 : w.cell? ⟨bl id, 2, none⟩ = some (.int .i64 (s.holdsOf id : Int)) := (h.ent id hid).cell 2
  have f2 : w.frozen? ⟨bl id, 2, none⟩ = false := (h.ent id hid).frozen 2
  have HF := Lib.hid (h.setHo hid (s.holdsOf id + 1))
  have e1 : IntKind.i64.wrap ((s.holdsOf id : Int) + 1) = ((s.holdsOf id + 1 : Nat) : Int) := by rw [IntWalk.i64_in _ (by omega)]; omega
  clear h hid hn hh
  generalize s.holdsOf id + 1 = v at *
  generalize s.holdsOf id = a at *
  generalize bl id = b at *
  go_enter Try.func39, Try.ntmps39
  go_wp2_with fail
  go_ret
  exact ⟨rfl, _, _, _, _, _, HF.out⟩
theorem chold_no (h : PG x w0 P0 s ld w) {n : Int} (hn : -9223372036854775808 ≤ n ∧ n ≤ 9223372036854775807) (ht : thereI s n = false) :
    Calls Try.prog 39 #[tp x, .int .i64 n] w fun e w' => e = .returned (.int .i64 1) ∧ w = w' := by
  obtain ⟨mo, mp, D, E, bl, h⟩ := h
  have lk := h.look_no hn ht
  have c0 : w.cell? ⟨x, 0, none⟩ = some (.map mo) := h.tab.cell 0
  clear h hn ht
  go_enter Try.func39, Try.ntmps39
  go_wp2_with fail
  go_ret
  exact ⟨rfl, rfl⟩
theorem cdrop_none (h : PG x w0 P0 s ld w) {n : Int} (hn : -9223372036854775808 ≤ n ∧ n ≤ 9223372036854775807) (ht : thereI s n = false) :
    Calls Try.prog 42 #[tp x, .int .i64 n] w fun e w' => e = .returned (.tuple #[.slice none 0 0, .int .i64 1]) ∧ w = w' := by
  obtain ⟨mo, mp, D, E, bl, h⟩ := h
  have lk := h.look_no hn ht
  have c0 : w.cell? ⟨x, 0, none⟩ = some (.map mo) := h.tab.cell 0
  clear h hn ht
  go_enter Try.func42, Try.ntmps42
  go_wp2_with fail
  go_ret2
  exact ⟨rfl, rfl⟩
theorem cdrop_zero (h : PG x w0 P0 s ld w) (hn : s.os.length ≤ 1000000) (hid : s.isThere id) (h0 : s.holdsOf id = 0) :
    Calls Try.prog 42 #[tp x, .int .i64 (id : Int)] w fun e w' => e = .returned (.tuple #[.slice none 0 0, .int .i64 1]) ∧ w = w' := by
  obtain ⟨mo, mp, D, E, bl, h⟩ := h
  have lk := h.look hn hid
  have c0 : w.cell? ⟨x, 0, none⟩ = some (.map mo) := h.tab.cell 0
  have d2 : w.cell? ⟨bl id, 2, none⟩ = some (.int .i64 (s.holdsOf id : Int)) := (h.ent id hid).cell 2
  rw [h0] at d2
  clear h hn hid h0
  generalize bl id = b at *
  go_enter Try.func42, Try.ntmps42
  go_wp2_with fail
  go_ret2
  exact ⟨rfl, rfl⟩
theorem cdrop_yes (h : PG x w0 P0 s ld w) (hn : s.os.length ≤ 1000000) (hid : s.isThere id) (h0 : s.holdsOf id ≠ 0) (hl : ld id ≤ 1000000) (hh : s.holdsOf id ≤ 1000000) :
    Calls Try.prog 42 #[tp x, .int .i64 (id : Int)] w fun e w' => ∃ v, e = .returned (.tuple #[v, .int .i64 0]) ∧ SetPost x w0 P0 (withHolds s id (s.holdsOf id - 1)) ld id v w' := by
  obtain ⟨mo, mp, D, E, bl, h⟩ := h
  have lk := h.look hn hid
  have c0 : w.cell? ⟨x, 0, none⟩ = some (.map mo) := h.tab.cell 0
  have d2 : w.cell? ⟨bl id, 2, none⟩ = some (.int .i64 (s.holdsOf id : Int)) := (h.ent id hid).cell 2
  have f2 : w.frozen? ⟨bl id, 2, none⟩ = false := (h.ent id hid).frozen 2
  have CS := Lib.hid (settle_any (s := withHolds s id (s.holdsOf id - 1)) (id := id) ⟨mo, mp, D, E, bl, h.setHo hid (s.holdsOf id - 1)⟩ (by rw [show (withHolds s id (s.holdsOf id - 1)).os.length = s.os.length from List.length_set]; exact hn) ((isThere_setObj _ hid rfl).2 hid) hl (by rw [withHolds, holdsOf_setObj _ hid, if_pos rfl]; show s.holdsOf id - 1 ≤ _; omega))
  have e1 : IntKind.i64.wrap ((s.holdsOf id : Int) - 1) = ((s.holdsOf id - 1 : Nat) : Int) := by rw [IntWalk.i64_in _ (by omega)]; omega
  have g1 : ((s.holdsOf id : Int) == 0) = false := by simp; omega
  clear h hid hn hl h0 hh
  generalize s.holdsOf id - 1 = v at *
  generalize s.holdsOf id = a at *
  generalize bl id = b at *
  go_enter Try.func42, Try.ntmps42
  go_wp2_with (go_at_call 55; refine CS.out.mono ?_; rintro e w1 ⟨r, rfl, h1⟩; have H1 := Lib.hid h1; clear h1)
  go_ret2
  exact ⟨_, rfl, H1.out⟩
/-! ### begin -/
theorem DatO.add (h : DatO D s bl) (hm : IsMap D) (kd : Int) (b : Nat) : DatO (D.put (litI ((s.os.length + 1 : Nat) : Int)) (heldD (tp b))) { s with os := s.os ++ [⟨kd, 0, true⟩] } (bump bl (s.os.length + 1) b) := by
  have ht : ∀ j, ({ s with os := s.os ++ [⟨kd, 0, true⟩] } : OSt).isThere j ↔ j = s.os.length + 1 ∨ s.isThere j := fun j => isThere_add kd s.fds
  refine ⟨fun j hj z => ?_, fun n hn => ?_⟩
  · by_cases hji : j = s.os.length + 1
    · subst hji
      rw [atKey_put_same hm (isKeyI _), bump_same]
    · rw [atKey_put_other (litI_ne (by omega)), bump_other _ _ hji]
      exact h.yes j (((ht j).1 hj).resolve_left hji) z
  · have h1 : n ≠ ((s.os.length + 1 : Nat) : Int) := by
      rintro rfl
      have := thereI_nat.2 ((ht _).2 (.inl rfl))
      rw [hn] at this; cases this
    rw [has_put_other (litI_ne h1)]
    refine h.no n ?_
    rw [← Bool.not_eq_true] at hn ⊢
    intro h2
    obtain ⟨h3, h4⟩ := thereI_iff.1 h2
    exact hn (thereI_iff.2 ⟨h3, (ht _).2 (.inr h4)⟩)
/-- A new object comes: the table's head says the next number, its map has it. -/
theorem PGat.came (h : PGat x w0 P0 s ld mo mp D E bl w) (kd : Int) {b g : Nat} {U : Nat → Prop} {D1 : DataW Value} (k : Keeps U w w') (hU : ∀ c, U c → c = x ∨ mo = some c) (hg : w.heap.size ≤ g) (hb : mo = some b ∨ w.heap.size ≤ b) (hbp : ∀ c, mp = some c → c ≠ b)
    (tab' : Blk w' x tabT (tabC (some b) (s.os.length + 1) s.fds mp)) (own : w'.ownsMap Try.prog intT heldV b (s.os.length + 1) (D.put (litI ((s.os.length + 1 : Nat) : Int)) (heldD (tp g)))) (hm : IsMap D)
    (ob : Blk w' g objT (obC kd 1 0)) : PG x w0 P0 { s with os := s.os ++ [⟨kd, 0, true⟩] } (bump ld (s.os.length + 1) 1) w' := by
  have ht : ∀ j, ({ s with os := s.os ++ [⟨kd, 0, true⟩] } : OSt).isThere j ↔ j = s.os.length + 1 ∨ s.isThere j := fun j => isThere_add kd s.fds
  have hl : ({ s with os := s.os ++ [⟨kd, 0, true⟩] } : OSt).os.length = s.os.length + 1 := by simp
  have hne : ∀ j, s.isThere j → j ≠ s.os.length + 1 := fun j hj => by have := isThere_pos hj; omega
  have hu : ∀ c, U c → ∀ g t cs, Blk w g t cs → g ≠ x → g ≠ c := fun c hc g t cs hgb hgx => by
    rcases hU c hc with rfl | h1
    · exact hgx
    · exact h.obs.ne_ hgb h1
  have e1 : ∀ j, s.isThere j → ({ s with os := s.os ++ [⟨kd, 0, true⟩] } : OSt).kindOf j = s.kindOf j ∧ ({ s with os := s.os ++ [⟨kd, 0, true⟩] } : OSt).holdsOf j = s.holdsOf j := fun j hj => by
    have : ({ s with os := s.os ++ [⟨kd, 0, true⟩], fds := s.fds } : OSt).obj j = _ := obj_add _ _
    rw [if_neg (hne j hj)] at this
    exact ⟨by unfold kindOf; rw [this], by unfold holdsOf; rw [this]⟩
  have e2 : ({ s with os := s.os ++ [⟨kd, 0, true⟩] } : OSt).kindOf (s.os.length + 1) = kd ∧ ({ s with os := s.os ++ [⟨kd, 0, true⟩] } : OSt).holdsOf (s.os.length + 1) = 0 := by
    have : ({ s with os := s.os ++ [⟨kd, 0, true⟩], fds := s.fds } : OSt).obj (s.os.length + 1) = _ := obj_add _ _
    rw [if_pos rfl] at this
    exact ⟨by unfold kindOf; rw [this]; rfl, by unfold holdsOf; rw [this]; rfl⟩
  refine ⟨_, _, _, _, _, h.local_ (s' := { s with os := s.os ++ [⟨kd, 0, true⟩] }) (ld' := bump ld (s.os.length + 1) 1) k (fun c hc => ?_) (by rw [hl]; exact tab') (by rw [hl]; exact .inr ⟨b, rfl, own⟩) (h.pth.keeps k fun c hc hcu => ?_) (fun c hc => by cases hc; exact hb) (fun c hc => .inl hc) (fun c h1 h2 => by cases h1; exact hbp _ h2 rfl) (h.dat.add hm kd g) h.pat (fun j hj => ?_) (fun j hj => ?_) (fun i j hi hj hij => ?_)⟩
  · rcases hU c hc with rfl | h1
    · exact .inl h.px
    · exact h.pmo c h1
  · rcases hU c hcu with rfl | h1
    · exact h.pth.ne_ h.tab hc rfl
    · exact h.two c h1 hc
  · rcases (ht j).1 hj with rfl | h1
    · rw [bump_same, bump_same, e2.1, e2.2]; exact ob
    · rw [bump_other _ _ (hne j h1), bump_other _ _ (hne j h1), (e1 j h1).1, (e1 j h1).2]
      exact (h.ent j h1).keeps k fun hc => hu _ hc _ _ _ (h.ent j h1) ((h.ent j h1).ne_ h.tab (by decide)) rfl
  · rcases (ht j).1 hj with rfl | h1
    · rw [bump_same]; exact .inl hg
    · rw [bump_other _ _ (hne j h1)]; exact .inr ⟨j, h1, rfl⟩
  · rcases (ht i).1 hi with rfl | h1 <;> rcases (ht j).1 hj with rfl | h2
    · rfl
    · rw [bump_same, bump_other _ _ (hne j h2)] at hij
      have := (h.ent j h2).lt; omega
    · rw [bump_same, bump_other _ _ (hne i h1)] at hij
      have := (h.ent i h1).lt; omega
    · rw [bump_other _ _ (hne i h1), bump_other _ _ (hne j h2)] at hij
      exact h.inj i j h1 h2 hij
end
end Go.Proofs.Ytmohbdbofehamaa
