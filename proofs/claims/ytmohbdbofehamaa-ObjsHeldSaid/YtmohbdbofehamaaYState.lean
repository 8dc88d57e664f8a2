/-
  The reference of layer 14: a table as it lies; free, is, there, path.
-/
import Derived.Test.YtmohbdbofehamaaORows
namespace Go.Proofs.Ytmohbdbofehamaa
open Go Go.RowKit Go.Maps OSt
set_option linter.unusedVariables false
set_option linter.unusedSimpArgs false
set_option maxRecDepth 100000
abbrev refT : TypeId := 30
def refC (VL : Value) (fds : List Nat) (VP : Value) : Array Value := (VL :: (fdV fds ++ [VP])).toArray
section
variable {VL VP V : Value} {f a : Nat} {fds : List Nat}
theorem refC_objs : (refC VL fds VP)[0]? = some VL := rfl
theorem refC_fd (h : fds[f]? = some a) : (refC VL fds VP)[1 + f]? = some (.int .i64 (a : Int)) := by
  have hl := (List.getElem?_eq_some_iff.1 h).1
  rw [refC, List.getElem?_toArray, show 1 + f = f + 1 by omega, List.getElem?_cons_succ, List.getElem?_append_left (by simpa [fdV] using hl), fdV, List.getElem?_map, h]
  rfl
theorem refC_pins (h : fds.length = 64) : (refC VL fds VP)[65]? = some VP := by
  rw [refC, List.getElem?_toArray, List.getElem?_cons_succ, List.getElem?_append_right (by simp [fdV, h])]
  simp [fdV, h]
theorem refC_set_fd (h : f < fds.length) (v : Nat) : (refC VL fds VP).setIfInBounds (1 + f) (.int .i64 (v : Int)) = refC VL (fds.set f v) VP := by
  rw [refC, refC, List.setIfInBounds_toArray, show 1 + f = f + 1 by omega, List.set_cons_succ, List.set_append_left _ _ (by simpa [fdV] using h), fdV, fdV, List.map_set]
theorem refC_set_objs : (refC VL fds VP).setIfInBounds 0 V = refC V fds VP := by
  rw [refC, refC, List.setIfInBounds_toArray, List.set_cons_zero]
theorem refC_set_pins (h : fds.length = 64) : (refC VL fds VP).setIfInBounds 65 V = refC VL fds V := by
  rw [refC, refC, List.setIfInBounds_toArray, List.set_cons_succ, List.set_append_right _ _ (by simp [fdV, h])]
  simp [fdV, h]
end
/-- The reference's table at y lies in its own blocks, from world w0 and the blocks Q0 on. -/
structure YGat (y : Nat) (w0 : World) (Q0 : Nat → Prop) (s : OSt) (VL VP : Value) (w : World) : Prop where
  keeps : Keeps Q0 w0 w
  ql : ∀ b, Q0 b → b < w0.heap.size
  qy : Q0 y
  tab : Blk w y refT (refC VL s.fds VP)
  obs : yoR w VL s.os
  pns : ypR w VP s.pins
  own : ∀ g, VL.ownBlock = some g → Q0 g ∨ w0.heap.size ≤ g
  ownp : ∀ g, VP.ownBlock = some g → Q0 g ∨ w0.heap.size ≤ g
def YG (y : Nat) (w0 : World) (Q0 : Nat → Prop) (s : OSt) (w : World) : Prop := ∃ VL VP, YGat y w0 Q0 s VL VP w
def YR (y : Nat) (s : OSt) (Q : Nat → Prop) (w : World) : Prop := YG y w Q s w
/-- Whom a table's own statements write. -/
def ownY (y : Nat) (VL VP : Value) (b : Nat) : Prop := b = y ∨ VL.ownBlock = some b ∨ VP.ownBlock = some b
section
variable {y : Nat} {w0 w w' : World} {Q Q0 U : Nat → Prop} {s s' : OSt} {VL VP VL' VP' : Value} {n id f k i : Nat} {fd : Int} {p : ByteArray}
theorem YGat.local_ (h : YGat y w0 Q0 s VL VP w) (kk : Keeps (ownY y VL VP) w w') (tab' : Blk w' y refT (refC VL' s'.fds VP')) (obs' : yoR w' VL' s'.os) (pns' : ypR w' VP' s'.pins)
    (own' : ∀ g, VL'.ownBlock = some g → VL.ownBlock = some g ∨ w.heap.size ≤ g) (ownp' : ∀ g, VP'.ownBlock = some g → VP.ownBlock = some g ∨ w.heap.size ≤ g) : YGat y w0 Q0 s' VL' VP' w' := by
  refine ⟨h.keeps.trans (kk.mono ?_), h.ql, h.qy, tab', obs', pns', fun g hg => ?_, fun g hg => ?_⟩
  · rintro b (rfl | hu | hu)
    · exact .inl h.qy
    · exact (h.own b hu).imp (fun h => h) fun hz => ⟨hz, yoR_lt h.obs hu⟩
    · exact (h.ownp b hu).imp (fun h => h) fun hz => ⟨hz, ypR_lt h.pns hu⟩
  · rcases own' g hg with hu | hz
    · exact h.own g hu
    · exact .inr (Nat.le_trans h.keeps.size hz)
  · rcases ownp' g hg with hu | hz
    · exact h.ownp g hu
    · exact .inr (Nat.le_trans h.keeps.size hz)
theorem YG.quiet (h : YG y w0 Q0 s w) (kk : Keeps (fun _ => False) w w') : YG y w0 Q0 s w' := by
  obtain ⟨VL, VP, h⟩ := h
  exact ⟨VL, VP, h.local_ (kk.mono fun _ hf => hf.elim) (h.tab.keeps kk (fun hf => hf)) (yoR_keeps h.obs kk (fun _ _ hf => hf)) (ypR_keeps h.pns kk (fun _ _ hf => hf)) (fun g hg => .inl hg) (fun g hg => .inl hg)⟩
theorem YG.drewN (h : YG y w0 Q0 s w) (n : Nat) : YG y w0 Q0 s (w.drewN n) := h.quiet (keeps_drewN w n)
theorem YG.drew (h : YG y w0 Q0 s w) : YG y w0 Q0 s w.drew := h.quiet (keeps_drew w)
theorem YG.done (h : YG y w0 Q0 s w) : YR y s (more Q0 w0 w) w ∧ Keeps Q0 w0 w := by
  obtain ⟨VL, VP, h⟩ := h
  refine ⟨⟨VL, VP, Keeps.refl _ _, ?_, .inl h.qy, h.tab, h.obs, h.pns, fun g hg => .inl ((h.own g hg).imp (fun h => h) fun hz => ⟨hz, yoR_lt h.obs hg⟩), fun g hg => .inl ((h.ownp g hg).imp (fun h => h) fun hz => ⟨hz, ypR_lt h.pns hg⟩)⟩, h.keeps⟩
  rintro b (h1 | h1)
  · exact Nat.lt_of_lt_of_le (h.ql b h1) h.keeps.size
  · exact h1.2
theorem YR.lt (h : YR y s Q w) : ∀ b, Q b → b < w.heap.size := by
  obtain ⟨VL, VP, h⟩ := h
  exact h.ql
theorem YR.keeps (h : YR y s Q w) (kk : Keeps U w w') (hd : ∀ b, Q b → ¬ U b) : YR y s Q w' := by
  obtain ⟨VL, VP, h⟩ := h
  have po : ∀ g, VL.ownBlock = some g → Q g := fun g hg => (h.own g hg).resolve_right (by have := yoR_lt h.obs hg; omega)
  have pp : ∀ g, VP.ownBlock = some g → Q g := fun g hg => (h.ownp g hg).resolve_right (by have := ypR_lt h.pns hg; omega)
  exact ⟨VL, VP, Keeps.refl _ _, fun b hb => Nat.lt_of_lt_of_le (h.ql b hb) kk.size, h.qy, h.tab.keeps kk (hd _ h.qy), yoR_keeps h.obs kk (fun g hg => hd g (po g hg)), ypR_keeps h.pns kk (fun g hg => hd g (pp g hg)), fun g hg => .inl (po g hg), fun g hg => .inl (pp g hg)⟩
/-! ### what only reads -/
theorem ret_i {k : IntKind} {a b : Int} (h : a = b) : Ending.returned (.int k a) = .returned (.int k b) := by rw [h]
def freeI (s : OSt) : Int := s.free.elim (-1) fun f => (f : Int)
theorem xfree_any (h : YG y w0 Q0 s w) (hl : s.fds.length = 64) : Calls Try.prog 44 #[tp y] w fun e w' => e = .returned (.int .i64 (freeI s)) ∧ w = w' := by
  obtain ⟨VL, VP, h⟩ := h
  have HT := Lib.hid h.tab
  have HL := Lib.hid hl
  clear h hl
  go_enter Try.func44, Try.ntmps44
  go_wp2_with fail
  go_loopw [3] (fun v wr => ∃ j : Nat, v = .int .i64 (j : Int) ∧ wr = w ∧ j ≤ 64 ∧ ∀ i : Nat, i < j → ∀ a : Nat, s.fds[i]? = some a → a ≠ 0) (fun v _ => 64 - (Lib.intOf v).toNat)
  case atStart => exact ⟨0, rfl, rfl, Nat.zero_le _, fun i hi => absurd hi (Nat.not_lt_zero _)⟩
  case round =>
    obtain ⟨j, rfl, hwr, hj, hno⟩ := hrel
    obtain rfl : w = wr := hwr.symm
    have HNO := Lib.hid hno
    have HJ := Lib.hid hj
    clear hno hj
    by_cases hlt : j < 64
    · have hjl : j < s.fds.length := by rw [HL.out]; exact hlt
      obtain ⟨a, ha⟩ : ∃ a, s.fds[j]? = some a := ⟨_, List.getElem?_eq_getElem hjl⟩
      have HA := Lib.hid ha
      have c0 : w.cell? ⟨y, 1 + j, none⟩ = some (.int .i64 (a : Int)) := (HT.out.cell _).trans (refC_fd ha)
      have g1 : decide ((j : Int) < 64) = true := decide_eq_true (by omega)
      have g2 : decide (j < 64) = true := decide_eq_true hlt
      have g3 : decide (64 ≤ j) = false := decide_eq_false (by omega)
      have i1 : (j : Int) < 64 := by omega
      have HLT := Lib.hid hlt
      clear ha hjl hlt
      by_cases h0 : a = 0
      · subst h0
        have HE : Hid (freeI s = (j : Int)) := by unfold freeI free; rw [freeAt_of HA.out HNO.out]; rfl
        go_wp2_with fail
        go_ret
        exact ⟨ret_i HE.out.symm, rfl⟩
      · have g4 : ((a : Int) == 0) = false := by simp; omega
        have HZ := Lib.hid h0
        clear h0
        go_wp2_with fail
        go_roundw
        case rel =>
          refine ⟨j + 1, by go_num, trivial, by have := HLT.out; omega, fun i hi b hb => ?_⟩
          rcases Nat.lt_or_ge i j with h3 | h3
          · exact HNO.out i h3 b hb
          · obtain rfl : i = j := by omega
            rw [HA.out] at hb; cases hb; exact HZ.out
        case measure => have := HLT.out; simp [Lib.intOf]; omega
    · obtain rfl : j = 64 := by have := HJ.out; omega
      have HE : Hid (freeI s = -1) := by
        unfold freeI free
        rw [freeAt_off fun i a ha => HNO.out i (by have := (List.getElem?_eq_some_iff.1 ha).1; have := HL.out; omega) a ha]; rfl
      go_wp2_with fail
      go_ret
      exact ⟨ret_i HE.out.symm, rfl⟩
theorem xis_any (h : YG y w0 Q0 s w) (ho : OOk n s) (fd : Int) : Calls Try.prog 45 #[tp y, .int .i64 fd] w fun e w' => e = .returned (.bool (decide (s.fdId fd ≠ 0))) ∧ w = w' := by
  obtain ⟨VL, VP, h⟩ := h
  by_cases h1 : 0 ≤ fd
  · have g1 : decide (0 ≤ fd) = true := decide_eq_true h1
    by_cases h2 : fd < 64
    · obtain ⟨f, rfl⟩ := Int.eq_ofNat_of_zero_le h1
      have hf : f < 64 := by omega
      have g2 : decide ((f : Int) < 64) = true := decide_eq_true h2
      have g3 : decide (f < 64) = true := decide_eq_true hf
      have i1 : (f : Int) < 64 := by omega
      have c0 : w.cell? ⟨y, 1 + f, none⟩ = some (.int .i64 (s.fdId (f : Int) : Int)) := (h.tab.cell _).trans (refC_fd (fdId_get ho hf))
      have g4 : ((s.fdId (f : Int) : Int) != 0) = decide (s.fdId (f : Int) ≠ 0) := by
        rw [Bool.eq_iff_iff, bne_iff_ne, decide_eq_true_eq]; omega
      clear h ho h1 h2
      generalize s.fdId (f : Int) = a at *
      generalize decide (a ≠ 0) = b at *
      go_enter Try.func45, Try.ntmps45
      go_wp2_with fail
      go_ret
      exact ⟨by rw [← g4]; rfl, rfl⟩
    · have g2 : decide (fd < 64) = false := decide_eq_false h2
      have e1 : s.fdId fd = 0 := if_neg (by omega)
      rw [e1]
      clear h ho h1 h2 e1
      go_enter Try.func45, Try.ntmps45
      go_wp2_with fail
      go_ret
      exact ⟨rfl, rfl⟩
  · have g1 : decide (0 ≤ fd) = false := decide_eq_false h1
    have e1 : s.fdId fd = 0 := if_neg (by omega)
    rw [e1]
    clear h ho h1 e1
    go_enter Try.func45, Try.ntmps45
    go_wp2_with fail
    go_ret
    exact ⟨rfl, rfl⟩
end
end Go.Proofs.Ytmohbdbofehamaa
