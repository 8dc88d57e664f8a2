/-
  Package queue: Pop; each call's one answer.
-/
import Derived.Test.YtgmombgjjmgooaaQPush
namespace Go.Proofs.Ytgmombgjjmgooaa
open Go Go.RowKit
set_option linter.unusedVariables false
set_option linter.unusedSimpArgs false
set_option maxRecDepth 100000
section
variable {w : World} {x r g mx v : Nat} {k : Int} {L : List ByteArray}
theorem pop_none (h : QM w x r g k v mx []) : Calls Try.prog 11 #[rp x] w fun e w' => e = .returned (.tuple #[.string ⟨#[]⟩, .int .i64 4]) ∧ ∃ m, w' = w.drewN m := by
  have CP := Lib.hid (peek_none h)
  clear h
  go_enter Try.func11, Try.ntmps11
  go_wp2_with (go_at_call 13; refine CP.out.mono ?_; rintro e w1 ⟨rfl, m, rfl⟩)
  go_ret2
  exact ⟨rfl, _, rfl⟩
theorem pop_queue {a : ByteArray} (hk : k ≠ 23) (h : QM w x r g k v mx (a :: L)) : Calls Try.prog 11 #[rp x] w fun e w' => e = .returned (.tuple #[.string a, .int .i64 0]) ∧ QM w' x r g k v mx L ∧ Keeps (rg r g) w w' := by
  have CP := Lib.hid (peek_queue hk h)
  have CS := Lib.hid (fun w1 (h : QM w1 x r g k v mx (a :: L)) => stacked_any h.map)
  rw [decide_eq_false hk] at CS
  have CD := Lib.hid (fun w1 (h : QM w1 x r g k v mx (a :: L)) => row_dropOldest h.row)
  have H := Lib.hid h
  clear h hk
  go_enter Try.func11, Try.ntmps11
  go_upto_region 4 with (go_at_call 13; refine CP.out.mono ?_; rintro e w1 ⟨rfl, m, hm⟩; have H1 : Hid (QM w1 x r g k v mx (a :: L)) := hm ▸ H.out.drewN m; have B1 : Hid (Below w.heap.size w w1) := hm ▸ below_drewN w m; clear hm)
  have c4 : w1.cell? ⟨x, 4, none⟩ = some (rp r) := H1.out.map.cell 4
  go_wp2_with (first
    | (go_at_call 25; refine (CS.out _ H1.out).mono ?_; rintro e w2 ⟨rfl, rfl⟩)
    | (go_at_call 22; refine (CD.out _ H1.out).mono ?_; rintro e w2 ⟨rfl, hr, hk⟩; have HR := Lib.hid hr; have HK := Lib.hid hk; clear hr hk))
  go_ret2
  exact ⟨rfl, H1.out.turn HR.out HK.out, keeps_rg (keeps_below B1.out) HK.out⟩
theorem pop_stack {a : ByteArray} (h : QM w x r g 23 v mx (L ++ [a])) : Calls Try.prog 11 #[rp x] w fun e w' => e = .returned (.tuple #[.string a, .int .i64 0]) ∧ QM w' x r g 23 v mx L ∧ Keeps (rg r g) w w' := by
  have CP := Lib.hid (peek_stack h)
  have CS := Lib.hid (fun w1 (h : QM w1 x r g 23 v mx (L ++ [a])) => stacked_any h.map)
  have CD := Lib.hid (fun w1 (h : QM w1 x r g 23 v mx (L ++ [a])) => row_dropNewest h.row)
  have H := Lib.hid h
  clear h
  go_enter Try.func11, Try.ntmps11
  go_upto_region 4 with (go_at_call 13; refine CP.out.mono ?_; rintro e w1 ⟨rfl, m, hm⟩; have H1 : Hid (QM w1 x r g 23 v mx (L ++ [a])) := hm ▸ H.out.drewN m; have B1 : Hid (Below w.heap.size w w1) := hm ▸ below_drewN w m; clear hm)
  have c4 : w1.cell? ⟨x, 4, none⟩ = some (rp r) := H1.out.map.cell 4
  go_wp2_with (first
    | (go_at_call 25; refine (CS.out _ H1.out).mono ?_; rintro e w2 ⟨rfl, rfl⟩)
    | (go_at_call 26; refine (CD.out _ H1.out).mono ?_; rintro e w2 ⟨rfl, hr, hk⟩; have HR := Lib.hid hr; have HK := Lib.hid hk; clear hr hk))
  go_ret2
  exact ⟨rfl, H1.out.turn HR.out HK.out, keeps_rg (keeps_below B1.out) HK.out⟩
/-- What a map's call leaves. -/
abbrev QPost (w : World) (x r g : Nat) (k : Int) (v mx : Nat) (L' : List ByteArray) (e0 e : Ending) (w' : World) : Prop := e = e0 ∧ QM w' x r g k v mx L' ∧ Keeps (rg r g) w w'
theorem quiet_post {w' : World} {e0 e : Ending} (h : QM w x r g k v mx L) (he : e = e0 ∧ ∃ m, w' = w.drewN m) : QPost w x r g k v mx L e0 e w' := by
  obtain ⟨rfl, m, rfl⟩ := he
  exact ⟨rfl, h.drewN m, keeps_below (below_drewN w m)⟩
theorem snoc_of {L : List ByteArray} (h : L ≠ []) : ∃ M a, L = M ++ [a] ∧ L.getLast? = some a ∧ L.dropLast = M := by
  refine ⟨L.dropLast, L.getLast h, (List.dropLast_concat_getLast h).symm, ?_, rfl⟩
  exact List.getLast?_eq_some_getLast h
theorem peek_any (h : QM w x r g k v mx L) : Calls Try.prog 13 #[rp x] w (QPost w x r g k v mx L (.returned (.tuple #[.string (peekS k L), .int .i64 (peekE k L)]))) := by
  by_cases h0 : L = []
  · subst h0
    have e1 : peekS k [] = ⟨#[]⟩ := by unfold peekS turn; split <;> rfl
    rw [e1]
    exact (peek_none h).mono fun e w' he => quiet_post h he
  · have e2 : peekE k L = 0 := by unfold peekE; rw [if_neg h0]
    rw [e2]
    by_cases hk : k = 23
    · subst hk
      obtain ⟨M, a, e, e3, e4⟩ := snoc_of h0
      have e1 : peekS 23 L = a := by unfold peekS turn; rw [if_pos rfl, e3]; rfl
      rw [e1]
      subst e
      exact (peek_stack h).mono fun e w' he => quiet_post h he
    · match L, h0 with
      | a :: M, _ =>
        have e1 : peekS k (a :: M) = a := by unfold peekS turn; rw [if_neg hk]; rfl
        rw [e1]
        exact (peek_queue hk h).mono fun e w' he => quiet_post h he
theorem pop_any (h : QM w x r g k v mx L) : Calls Try.prog 11 #[rp x] w (QPost w x r g k v mx (rest k L) (.returned (.tuple #[.string (peekS k L), .int .i64 (peekE k L)]))) := by
  by_cases h0 : L = []
  · subst h0
    have e1 : peekS k [] = ⟨#[]⟩ := by unfold peekS turn; split <;> rfl
    have e2 : rest k [] = [] := by unfold rest; split <;> rfl
    rw [e1, e2]
    exact (pop_none h).mono fun e w' he => quiet_post h he
  · have e2 : peekE k L = 0 := by unfold peekE; rw [if_neg h0]
    rw [e2]
    by_cases hk : k = 23
    · subst hk
      obtain ⟨M, a, e, e3, e4⟩ := snoc_of h0
      have e1 : peekS 23 L = a := by unfold peekS turn; rw [if_pos rfl, e3]; rfl
      have e5 : rest 23 L = M := by unfold rest; rw [if_pos rfl, e4]
      rw [e1, e5]
      subst e
      exact pop_stack h
    · match L, h0 with
      | a :: M, _ =>
        have e1 : peekS k (a :: M) = a := by unfold peekS turn; rw [if_neg hk]; rfl
        have e5 : rest k (a :: M) = M := by unfold rest; rw [if_neg hk]; rfl
        rw [e1, e5]
        exact pop_queue hk h
theorem push_any (h : QM w x r g k v mx L) (h1 : 1 ≤ mx) (s : ByteArray) (fl : Int) : Calls Try.prog 9 #[rp x, .string s, .int .i64 fl] w (QPost w x r g k v mx (pushL v mx L s fl) (.returned (.int .i64 (pushE v mx L s fl)))) := by
  have hq : ∀ {e0 e : Ending} {w' : World}, e = e0 ∧ w = w' → QPost w x r g k v mx L e0 e w' := fun {e0 e w'} he => by
    obtain ⟨rfl, rfl⟩ := he
    exact ⟨rfl, h, Keeps.refl _ _⟩
  have hlm : L.length ≤ mx := by obtain ⟨f, hr⟩ := h.row; exact hr.len
  by_cases hs : s.size = v
  · by_cases hf : fl = 0 ∨ fl = 2
    · by_cases hl : L.length = mx
      · by_cases h0 : fl = 0
        · have e1 : pushE v mx L s fl = 3 := by unfold pushE; rw [if_pos ⟨hs, hf⟩, if_pos ⟨hl, h0⟩]
          have e2 : pushL v mx L s fl = L := by unfold pushL; rw [e1, if_neg (by decide)]
          rw [e1, e2]
          subst h0
          refine (push_full h s hs hl).mono ?_
          rintro e w' ⟨rfl, hb⟩
          exact ⟨rfl, h.below hb, keeps_below hb⟩
        · have e1 : pushE v mx L s fl = 0 := by unfold pushE; rw [if_pos ⟨hs, hf⟩, if_neg (fun h => h0 h.2)]
          have e2 : pushL v mx L s fl = L.tail ++ [s] := by unfold pushL; rw [e1, if_pos rfl, if_pos hl]
          rw [e1, e2]
          obtain rfl : fl = 2 := by omega
          match L, hl, h with
          | [], hl, _ => simp at hl; omega
          | a :: M, hl, h => exact push_over h s hs (by simpa using hl)
      · have e1 : pushE v mx L s fl = 0 := by unfold pushE; rw [if_pos ⟨hs, hf⟩, if_neg (fun h => hl h.1)]
        have e2 : pushL v mx L s fl = L ++ [s] := by unfold pushL; rw [e1, if_pos rfl, if_neg hl]
        rw [e1, e2]
        exact push_room h s hs fl hf (by omega)
    · have e1 : pushE v mx L s fl = 1 := by unfold pushE; rw [if_neg (fun h => hf h.2)]
      have e2 : pushL v mx L s fl = L := by unfold pushL; rw [e1, if_neg (by decide)]
      rw [e1, e2]
      exact (push_flag h s hs fl (by omega) (by omega)).mono fun e w' he => hq he
  · have e1 : pushE v mx L s fl = 1 := by unfold pushE; rw [if_neg (fun h => hs h.1)]
    have e2 : pushL v mx L s fl = L := by unfold pushL; rw [e1, if_neg (by decide)]
    rw [e1, e2]
    exact (push_len h s hs fl).mono fun e w' he => hq he
end
end Go.Proofs.Ytgmombgjjmgooaa
