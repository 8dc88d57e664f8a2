/-
  Package ring: a held record comes to be one that was submitted or discarded, plainly.
-/
import Derived.Test.YtdihlmhipkcedaaGReserve2
namespace Go.Proofs.Ytdihlmhipkcedaa
open Go Go.RowKit Go.Maps
set_option linter.unusedVariables false
set_option linter.unusedSimpArgs false
set_option maxRecDepth 100000
def RSt.ended (s : RSt) (pre : List Rec) (r : Rec) (post : List Rec) (st : Nat) (txt b : List UInt8) : RSt := ⟨s.m.set r.n (some (3, b, true)), s.first, pre ++ { r with state := st, text := txt } :: post⟩
/-- The held record r, behind pre and ahead of post. -/
structure Here (p : RPar) (s : RSt) (pre : List Rec) (r : Rec) (post : List Rec) (b : List UInt8) : Prop where
  rs : s.rs = pre ++ r :: post
  state : r.state = 0
  bytes : s.m.vs r.n = some (3, b, false)
  len : b.length = r.size
section
variable {p : RPar} {s : RSt} {pre post : List Rec} {r : Rec} {b bs : List UInt8}
def RSt.at (s : RSt) (pre : List Rec) : Nat := s.first + sumU pre
theorem Here.mem (h : Here p s pre r post b) : r ∈ s.rs := by rw [h.rs]; simp
theorem Here.others (h : Here p s pre r post b) (ho : Ok p s) : ∀ x, x ∈ pre ++ post → x.n ≠ r.n := by
  intro x hx e
  have hn := ho.nums
  rw [h.rs, List.map_append, List.map_cons, List.nodup_append] at hn
  obtain ⟨h1, h2, h3⟩ := hn
  rcases List.mem_append.1 hx with hx | hx
  · exact h3 x.n (List.mem_map.2 ⟨x, hx, rfl⟩) r.n (by simp) e
  · exact (List.nodup_cons.1 h2).1 (List.mem_map.2 ⟨x, hx, e⟩)
theorem Here.hp (h : Here p s pre r post b) (ho : Ok p s) : hp p.mx s.first s.rs r.n = some (s.at pre % p.mx) := by
  rw [h.rs, hp_append _ _ _ (fun x hx _ => h.others ho x (List.mem_append.2 (.inl hx)))]
  show (if r.state = 0 ∧ r.n = r.n then _ else _) = _
  rw [if_pos ⟨h.state, rfl⟩]
  rfl
theorem Here.sum (h : Here p s pre r post b) (ho : Ok p s) : sumU pre + uses r.size + sumU post ≤ p.mx := by
  have := ho.sum
  rw [h.rs, sumU_append] at this
  simp only [sumU] at this
  omega
theorem Here.place8 (h : Here p s pre r post b) (ho : Ok p s) : s.at pre % p.mx + 8 ≤ p.mx := ho.place _ (sumU_dvd _)
theorem Here.size (h : Here p s pre r post b) (ho : Ok p s) : 1 ≤ r.size ∧ r.size ≤ p.mx / 2 ∧ 1 ≤ r.n ∧ r.n ≤ s.m.made := by
  have := ho.recs r h.mem
  exact ⟨this.1, this.2.1, this.2.2.2⟩
theorem Here.recAt (h : Here p s pre r post b) (hl : Lies bs s.first s.rs) : RecAt bs (s.at pre) r := by
  rw [h.rs, lies_append] at hl
  exact hl.2.1
/-- Its head. -/
theorem Here.head (h : Here p s pre r post b) (ho : Ok p s) (hz : bs.length = p.mx) (hl : Lies bs s.first s.rs) : (bs.drop (s.at pre % p.mx)).take 8 = hb r.size 0 := by
  have h1 := (h.recAt hl).head
  rw [h.state] at h1
  have h2 := cyc_drop (bs := bs) (a := s.at pre) (n := 8) (by rw [hz]; have := ho.m64; omega) (by rw [hz]; exact h.place8 ho)
  rw [hz] at h2
  rw [h2, h1]
theorem lies_turn {bs' l : List UInt8} {r' : Rec} {a : Nat} (h : Here p s pre r post b) (ho : Ok p s) (hz : bs.length = p.mx) (hl : Lies bs s.first s.rs) (hw : Wrote bs bs' a l) (h1 : s.at pre ≤ a) (h2 : a + l.length ≤ s.at pre + uses r.size) (hu : r'.size = r.size) (hr : RecAt bs' (s.at pre) r') : Lies bs' s.first (pre ++ r' :: post) := by
  have hs := h.sum ho
  rw [h.rs, lies_append] at hl
  obtain ⟨l1, _, l2⟩ := hl
  unfold RSt.at at *
  rw [lies_append]
  refine ⟨lies_frame hw _ _ l1 (.inr ⟨h1, by rw [hz]; omega⟩), hr, ?_⟩
  rw [hu]
  exact lies_frame hw _ _ l2 (.inl ⟨by omega, by rw [hz]; omega⟩)
/-- Its text is written. -/
theorem Here.texted (h : Here p s pre r post b) (ho : Ok p s) (hz : bs.length = p.mx) (hl : Lies bs s.first s.rs) :
    Lies (put2 bs ((s.at pre % p.mx + 8) % p.mx) b) s.first s.rs ∧ (put2 bs ((s.at pre % p.mx + 8) % p.mx) b).length = bs.length ∧ cyc (put2 bs ((s.at pre % p.mx + 8) % p.mx) b) (s.at pre + 8) r.size = b := by
  have hsz := h.size ho
  have hm := ho.m64
  have hug := uses_ge r.size
  have hw := wrote_put2 (bs := bs) (l := b) (a := s.at pre + 8) (by rw [hz]; omega) (by rw [hz, h.len]; omega)
  rw [hz, ← Nat.mod_add_mod] at hw
  have hr := h.recAt hl
  refine ⟨?_, hw.len, ?_⟩
  · have := lies_turn (r' := r) h ho hz hl hw (by omega) (by rw [h.len]; omega) rfl ⟨?_, fun e => by rw [h.state] at e; cases e⟩
    · rw [← h.rs] at this; exact this
    · rw [cyc_frame hw (.inr ⟨by omega, by rw [hz, h.len]; omega⟩)]; exact hr.head
  · have := cyc_wrote hw
    rwa [h.len] at this
/-- Its head is written. -/
theorem Here.headed (h : Here p s pre r post b) (ho : Ok p s) (hz : bs.length = p.mx) (hl : Lies bs s.first s.rs) (st : Nat) (txt : List UInt8) (ht : st = 1 → cyc bs (s.at pre + 8) r.size = txt) :
    Lies (setAt bs (s.at pre % p.mx) (hb r.size st)) s.first (pre ++ { r with state := st, text := txt } :: post) ∧ (setAt bs (s.at pre % p.mx) (hb r.size st)).length = bs.length := by
  have hsz := h.size ho
  have hm := ho.m64
  have hug := uses_ge r.size
  have hp8 := h.place8 ho
  have hw := wrote_set (bs := bs) (l := hb r.size st) (a := s.at pre) (by rw [hz]; omega) (by rw [hz, hb_length]; exact hp8)
  rw [hz] at hw
  refine ⟨lies_turn (r' := { r with state := st, text := txt }) h ho hz hl hw (Nat.le_refl _) (by rw [hb_length]; omega) rfl ⟨?_, fun e => ?_⟩, hw.len⟩
  · have := cyc_wrote hw
    rwa [hb_length] at this
  · have e' : st = 1 := e
    rw [cyc_frame hw (.inl ⟨by rw [hb_length]; exact Nat.le_refl _, by show s.at pre + 8 + r.size ≤ _; rw [hz]; omega⟩)]
    exact ht e'
theorem Here.hpEnded (h : Here p s pre r post b) (ho : Ok p s) (st : Nat) (hst : st ≠ 0) (txt : List UInt8) (k : Nat) : _root_.Go.Proofs.Ytdihlmhipkcedaa.hp p.mx s.first (pre ++ { r with state := st, text := txt } :: post) k = if k = r.n then none else _root_.Go.Proofs.Ytdihlmhipkcedaa.hp p.mx s.first s.rs k := by
  rw [h.rs]
  exact hp_turn (r := r) (r' := { r with state := st, text := txt }) (n := k) rfl pre post s.first (fun e => ⟨hst, fun x hx _ => by rw [← e]; exact h.others ho x hx⟩) (fun e => e)
theorem Here.okEnded (h : Here p s pre r post b) (ho : Ok p s) (st : Nat) (hst : st ≠ 0) (hst2 : st ≤ 2) (txt : List UInt8) : Ok p (s.ended pre r post st txt b) where
  m64 := ho.m64
  mle := ho.mle
  dv := ho.dv
  first := ho.first
  f8 := ho.f8
  sum := by
    have := h.sum ho
    show sumU (pre ++ _ :: post) ≤ _
    rw [sumU_append]; simp only [sumU]; omega
  recs x hx := by
    rcases List.mem_append.1 hx with hx | hx
    · exact ho.recs x (by rw [h.rs]; exact List.mem_append.2 (.inl hx))
    · rcases List.mem_cons.1 hx with rfl | hx
      · have := ho.recs r h.mem
        exact ⟨this.1, this.2.1, hst2, this.2.2.2⟩
      · exact ho.recs x (by rw [h.rs]; exact List.mem_append.2 (.inr (List.mem_cons.2 (.inr hx))))
  nums := by
    have := ho.nums
    rw [h.rs] at this
    show ((pre ++ { r with state := st, text := txt } :: post).map (·.n)).Nodup
    rw [List.map_append, List.map_cons] at this ⊢
    exact this
  held x hx hs := by
    have key : x ∈ pre ++ post := by
      rcases List.mem_append.1 hx with hx | hx
      · exact List.mem_append.2 (.inl hx)
      · rcases List.mem_cons.1 hx with rfl | hx
        · exact absurd hs hst
        · exact List.mem_append.2 (.inr hx)
    have hmem : x ∈ s.rs := by
      rw [h.rs]
      rcases List.mem_append.1 key with hx | hx
      · exact List.mem_append.2 (.inl hx)
      · exact List.mem_append.2 (.inr (List.mem_cons.2 (.inr hx)))
    obtain ⟨c, hc, hl⟩ := ho.held x hmem hs
    refine ⟨c, ?_, hl⟩
    show updv s.m.vs r.n _ x.n = _
    rw [updv_other _ _ (h.others ho x key)]
    exact hc
  made := ho.made
end
end Go.Proofs.Ytdihlmhipkcedaa
