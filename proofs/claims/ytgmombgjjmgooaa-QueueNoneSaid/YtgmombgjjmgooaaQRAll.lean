/-
  The reference's queue: each call's one answer.
-/
import Derived.Test.YtgmombgjjmgooaaQRPop
namespace Go.Proofs.Ytgmombgjjmgooaa
open Go Go.RowKit Go.Maps
set_option linter.unusedVariables false
set_option linter.unusedSimpArgs false
set_option maxRecDepth 100000
/-- What a call leaves of a map of the reference. -/
abbrev XPost (w : World) (base y : Nat) (k : Int) (v mx : Nat) (L' : List ByteArray) (e0 e : Ending) (w' : World) : Prop := e = e0 ∧ RQ w' base y k v mx L' ∧ Keeps (isY y) w w'
section
variable {w : World} {base y v mx : Nat} {k : Int} {L : List ByteArray}
theorem xquiet_post {w' : World} {e0 e : Ending} (h : RQ w base y k v mx L) (he : e = e0 ∧ ∃ m, w' = w.drewN m) : XPost w base y k v mx L e0 e w' := by
  obtain ⟨rfl, m, rfl⟩ := he
  exact ⟨rfl, h.below (below_drewN w m), (keeps_grow (below_drewN w m)).mono fun _ h => h.elim⟩
theorem xturn_post {w' : World} {e0 e : Ending} {L' : List ByteArray} (h : RQ w base y k v mx L) (hl : L'.length ≤ mx) (he : e = e0 ∧ (∃ V, Blk w' y refT (refC k v mx V) ∧ Strs w' w.heap.size V L') ∧ Keeps (isY y) w w') : XPost w base y k v mx L' e0 e w' := by
  obtain ⟨rfl, ⟨V, h1, h2⟩, hk⟩ := he
  exact ⟨rfl, ⟨⟨V, h1, ownsRow_base h2 h.bz⟩, h.lt, hl, h.most, Nat.le_trans h.bz hk.size⟩, hk⟩
/-- A map with texts: where they lie, what Peek tells. -/
theorem RQ.some_ (h : RQ w base y k v mx L) (h0 : L ≠ []) : ∃ g c, Half w y k v mx (some ⟨g, 0, none⟩) c L ∧ L.length ≤ c ∧ c ≤ maxLen ∧ g < w.heap.size ∧ ∀ i s, L[i]? = some s → w.cell? ⟨g, i, none⟩ = some (.string s) := by
  obtain ⟨⟨V, h1, h2⟩, _⟩ := h
  rcases strs_form h2 with ⟨rfl, rfl⟩ | ⟨g, c, rfl, hb, hl, hc, hg, hs⟩
  · exact absurd rfl h0
  · exact ⟨g, c, ⟨h1, fun i s hi => ⟨g, 0, rfl, hg, by rw [Nat.zero_add]; exact hs i s hi⟩, (fun h => by cases h), (fun a h => by cases h; exact ⟨g, 0, rfl⟩)⟩, hl, hc, hg, hs⟩
theorem RQ.none_ (h : RQ w base y k v mx []) : ∃ A c, Blk w y refT (refC k v mx (.slice A 0 c)) := by
  obtain ⟨A, c, h1, _⟩ := h.half
  exact ⟨A, c, h1⟩
/-- The place of the one that goes next. -/
def firstAt (k : Int) (L : List ByteArray) : Nat := if k = 23 then L.length - 1 else 0
theorem first_any (h0 : L ≠ []) (hm : L.length ≤ 4096) {A : Option Addr} {c : Nat} (w' : World) (h : Blk w' y refT (refC k v mx (.slice A L.length c))) :
    Calls Try.prog 27 #[rp y] w' fun e w'' => e = .returned (.int .i64 (firstAt k L)) ∧ w' = w'' := by
  have hp := List.length_pos_iff.2 h0
  unfold firstAt
  by_cases hk : k = 23
  · subst hk
    rw [if_pos rfl]
    exact first_stack (by omega) hm h
  · rw [if_neg hk]
    exact first_queue hk h
theorem first_get (h0 : L ≠ []) : L[firstAt k L]? = some (peekS k L) ∧ firstAt k L < L.length ∧ L.take (firstAt k L) ++ L.drop (firstAt k L + 1) = rest k L := by
  have hp := List.length_pos_iff.2 h0
  unfold firstAt peekS turn rest
  by_cases hk : k = 23
  · rw [if_pos hk, if_pos hk, if_pos hk]
    refine ⟨?_, by omega, ?_⟩
    · rw [List.getLast?_eq_getElem?, List.getElem?_eq_getElem (by omega)]; rfl
    · rw [show L.length - 1 + 1 = L.length by omega, List.drop_length, List.append_nil, List.dropLast_eq_take]
  · rw [if_neg hk, if_neg hk, if_neg hk]
    match L, h0 with
    | a :: M, _ => exact ⟨rfl, by simp, rfl⟩
theorem xpeek_at (h : RQ w base y k v mx L) (h0 : L ≠ []) : Calls Try.prog 14 #[rp y] w fun e w' => e = .returned (.tuple #[.string (peekS k L), .int .i64 0]) ∧ ∃ m, w' = w.drewN m := by
  obtain ⟨g, c, hh, _, _, _, hs⟩ := h.some_ h0
  obtain ⟨f1, f2, _⟩ := first_get (k := k) h0
  have hm := h.len
  have hm2 := h.most
  exact xpeek_some f2 hh.map (hs _ _ f1) (fun w' hb => first_any h0 (by omega) w' hb)
theorem xpeek_any (h : RQ w base y k v mx L) : Calls Try.prog 14 #[rp y] w (XPost w base y k v mx L (.returned (.tuple #[.string (peekS k L), .int .i64 (peekE k L)]))) := by
  by_cases h0 : L = []
  · subst h0
    have e1 : peekS k [] = ⟨#[]⟩ := by unfold peekS turn; split <;> rfl
    rw [e1]
    obtain ⟨A, c, h1⟩ := h.none_
    exact (xpeek_none h1).mono fun e w' he => xquiet_post h he
  · have e2 : peekE k L = 0 := by unfold peekE; rw [if_neg h0]
    rw [e2]
    exact (xpeek_at h h0).mono fun e w' he => xquiet_post h he
theorem xpop_any (h : RQ w base y k v mx L) : Calls Try.prog 12 #[rp y] w (XPost w base y k v mx (rest k L) (.returned (.tuple #[.string (peekS k L), .int .i64 (peekE k L)]))) := by
  by_cases h0 : L = []
  · subst h0
    have e1 : peekS k [] = ⟨#[]⟩ := by unfold peekS turn; split <;> rfl
    have e2 : rest k [] = [] := by unfold rest; split <;> rfl
    rw [e1, e2]
    obtain ⟨A, c, h1⟩ := h.none_
    exact (xpop_none h1).mono fun e w' he => xquiet_post h he
  · have e2 : peekE k L = 0 := by unfold peekE; rw [if_neg h0]
    rw [e2]
    obtain ⟨g, c, hh, hlc, hc, hg, hs⟩ := h.some_ h0
    obtain ⟨f1, f2, f3⟩ := first_get (k := k) h0
    have hm := h.len
    have hm2 := h.most
    have hpk := xpeek_at h h0
    have hfa := fun w' (hb : Blk w' y refT (refC k v mx (.slice (some ⟨g, 0, none⟩) L.length c))) => first_any h0 (by omega) w' hb
    have hlen : (rest k L).length ≤ mx := by
      rw [← f3, List.length_append, List.length_take, List.length_drop]; omega
    generalize firstAt k L = q at *
    have l1 : (L.take q).length = q := by rw [List.length_take]; omega
    have l2 : (L.drop (q + 1)).length = L.length - (q + 1) := List.length_drop
    refine (xpop_some (A := some ⟨g, 0, none⟩) (A' := some ⟨g, if c = q + 1 then 0 else q + 1, none⟩) (n := L.length) (c := c) (c' := c - (q + 1)) (q := q) (q1 := q + 1) (M := L.take q) (N := L.drop (q + 1)) hh.map hpk hfa
      (by rw [l1]; exact slice_head g _ c q (by omega)) (by rw [IntWalk.i64_in _ (by omega)]; rfl) (by rw [l2]; exact slice_tail g _ c (q + 1) (by omega))
      (fun i s hi => ?_) (fun h => by cases h) (fun a h => by cases h; exact ⟨_, _, rfl⟩) (fun i s hi => ?_) (fun h => by cases h) (fun a h => by cases h; exact ⟨_, _, rfl⟩) (by rw [l1, l2]; omega)).mono ?_
    · rw [List.getElem?_take] at hi
      split at hi
      · exact ⟨g, 0, rfl, hg, by rw [Nat.zero_add]; exact hs i s hi⟩
      · cases hi
    · rw [List.getElem?_drop] at hi
      have hlt := (List.getElem?_eq_some_iff.1 hi).1
      rw [if_neg (by omega)]
      exact ⟨g, q + 1, rfl, hg, hs _ _ hi⟩
    · rw [f3]
      exact fun e w' he => xturn_post h hlen he
theorem xpush_any (h : RQ w base y k v mx L) (h1 : 1 ≤ mx) (s : ByteArray) (fl : Int) : Calls Try.prog 10 #[rp y, .string s, .int .i64 fl] w (XPost w base y k v mx (pushL v mx L s fl) (.returned (.int .i64 (pushE v mx L s fl)))) := by
  have hq : ∀ {e0 e : Ending} {w' : World}, e = e0 ∧ w = w' → XPost w base y k v mx L e0 e w' := fun {e0 e w'} he => by
    obtain ⟨rfl, rfl⟩ := he
    exact ⟨rfl, h, Keeps.refl _ _⟩
  have hlm := h.len
  have hm := h.most
  by_cases hs : s.size = v
  · by_cases hf : fl = 0 ∨ fl = 2
    · by_cases hl : L.length = mx
      · by_cases h0 : fl = 0
        · have e1 : pushE v mx L s fl = 3 := by unfold pushE; rw [if_pos ⟨hs, hf⟩, if_pos ⟨hl, h0⟩]
          have e2 : pushL v mx L s fl = L := by unfold pushL; rw [e1, if_neg (by decide)]
          rw [e1, e2]
          subst h0
          obtain ⟨A, c, hh⟩ := h.half
          refine (xpush_full hh s hs hl).mono ?_
          rintro e w' ⟨rfl, hb⟩
          exact ⟨rfl, h.below hb, (keeps_grow hb).mono fun _ h => h.elim⟩
        · have e1 : pushE v mx L s fl = 0 := by unfold pushE; rw [if_pos ⟨hs, hf⟩, if_neg (fun h => h0 h.2)]
          have e2 : pushL v mx L s fl = L.tail ++ [s] := by unfold pushL; rw [e1, if_pos rfl, if_pos hl]
          rw [e1, e2]
          obtain rfl : fl = 2 := by omega
          match L, hl, h with
          | [], hl, _ => simp at hl; omega
          | a :: M, hl, h =>
            have hl' : M.length + 1 = mx := by simpa using hl
            obtain ⟨g, c, hh, hlc, hc, hg, hs'⟩ := h.some_ (by simp)
            refine (xpush_over (A' := some ⟨g, if c = 1 then 0 else 1, none⟩) (c' := c - 1) hh s hs hl' hm (fun w' hb hk => ⟨hb, fun i u hi => ?_, (fun h => by cases h), (fun a h => by cases h; exact ⟨_, _, rfl⟩)⟩) (slice_tail g _ c 1 (by omega))).mono fun e w' he => xturn_post h (by simp; omega) he
            have hlt := (List.getElem?_eq_some_iff.1 hi).1
            have hlc' : M.length + 1 ≤ c := by simpa using hlc
            have hgy : g ≠ y := by
              intro e
              subst e
              have c1 := hs' 0 a rfl
              have c2 := hh.map.cell 0
              rw [c2] at c1
              cases c1
            rw [if_neg (by omega)]
            refine ⟨g, 1, rfl, Nat.lt_of_lt_of_le hg hk.size, ?_⟩
            rw [World.cell?_of_block (hk.block g hg hgy)]
            exact hs' (1 + i) u (by rw [Nat.add_comm]; exact hi)
      · have e1 : pushE v mx L s fl = 0 := by unfold pushE; rw [if_pos ⟨hs, hf⟩, if_neg (fun h => hl h.1)]
        have e2 : pushL v mx L s fl = L ++ [s] := by unfold pushL; rw [e1, if_pos rfl, if_neg hl]
        rw [e1, e2]
        obtain ⟨A, c, hh⟩ := h.half
        exact (xpush_room hh s hs fl hf (by omega) hm).mono fun e w' he => xturn_post h (by simp; omega) he
    · have e1 : pushE v mx L s fl = 1 := by unfold pushE; rw [if_neg (fun h => hf h.2)]
      have e2 : pushL v mx L s fl = L := by unfold pushL; rw [e1, if_neg (by decide)]
      rw [e1, e2]
      exact (xpush_flag h s hs fl (by omega) (by omega)).mono fun e w' he => hq he
  · have e1 : pushE v mx L s fl = 1 := by unfold pushE; rw [if_neg (fun h => hs h.1)]
    have e2 : pushL v mx L s fl = L := by unfold pushL; rw [e1, if_neg (by decide)]
    rw [e1, e2]
    exact (xpush_len h s hs fl).mono fun e w' he => hq he
end
end Go.Proofs.Ytgmombgjjmgooaa
