/-
  The reference of layer 14: dies, Hold, Drop, Close, Get.
-/
import Derived.Test.YtmohbdbofehamaaYCount
namespace Go.Proofs.Ytmohbdbofehamaa
open Go Go.RowKit Go.Maps OSt
set_option linter.unusedVariables false
set_option linter.unusedSimpArgs false
set_option maxRecDepth 100000
section
variable {y : Nat} {w0 w w' : World} {Q Q0 U : Nat → Prop} {s s' : OSt} {VL VP VL' VP' : Value} {n id f k i : Nat} {fd : Int} {p : ByteArray}
/-- A cell of an object's is written. -/
theorem YGat.setOb {g c j : Nat} {o o' : Ob} {v : Value} (h : YGat y w0 Q0 s (.slice (some ⟨g, 0, none⟩) s.os.length c) VP w) (hobj : s.obj id = some o) (hj : j < 3) (hc : yoC o' = (yoC o).set j v) : YG y w0 Q0 (s.setObj id o') (w.setCell ⟨g, (id - 1) * 3 + j, none⟩ v) := by
  obtain ⟨_, hat⟩ := obj_at hobj
  have hgy : g ≠ y := yoR_ne h.obs rfl h.tab (by decide)
  have kk : Keeps (fun b => b = g) w (w.setCell ⟨g, (id - 1) * 3 + j, none⟩ v) := (Keeps.refl (fun b => b = g) w).setCell (p := ⟨g, (id - 1) * 3 + j, none⟩) (.inl rfl) _
  refine ⟨.slice (some ⟨g, 0, none⟩) s.os.length c, VP, h.local_ (s' := s.setObj id o') (kk.mono fun b hb => .inr (.inl (by rw [hb]; rfl))) (h.tab.keeps kk fun e => hgy e.symm) ?_ (ypR_keeps h.pns kk fun g' hg' e => ?_) (fun g hg => .inl hg) (fun g hg => .inl hg)⟩
  · have := yoR_set h.obs hat hj hc
    exact this
  · subst e
    rcases yoR_form h.obs with ⟨e1, _⟩ | ⟨g1, c1, cur, e1, _, _, hb, _⟩
    · cases e1
    · cases e1
      exact ypR_ne h.pns hg' hb (by decide) rfl
theorem yoR_cells {g c : Nat} {V : Value} (h : YGat y w0 Q0 s V VP w) (hid : s.isThere id) : ∃ o g c, s.obj id = some o ∧ o.kind = s.kindOf id ∧ o.holds = s.holdsOf id ∧ o.there = true ∧ V = .slice (some ⟨g, 0, none⟩) s.os.length c ∧
    w.cell? ⟨g, (id - 1) * 3, none⟩ = some (.int .i64 (s.kindOf id)) ∧ w.cell? ⟨g, (id - 1) * 3 + 1, none⟩ = some (.int .i64 (s.holdsOf id : Int)) ∧ w.cell? ⟨g, (id - 1) * 3 + 2, none⟩ = some (.bool true) ∧ ∀ i, w.frozen? ⟨g, i, none⟩ = false := by
  obtain ⟨o, hobj, hk, hh⟩ := some_of (isThere_some hid)
  obtain ⟨_, hat⟩ := obj_at hobj
  obtain ⟨g, c, rfl, _, _⟩ := yoR_row h.obs (fun e => by rw [e] at hat; simp at hat)
  have ht : o.there = true := by obtain ⟨o', h1, h2⟩ := hid; rw [hobj] at h1; cases h1; exact h2
  refine ⟨o, g, c, hobj, hk, hh, ht, rfl, ?_, ?_, ?_, fun i => yoR_frozen h.obs⟩
  · have := yoR_at h.obs hat (j := 0) (by decide) rfl
    rw [hk] at this
    simpa using this
  · have := yoR_at h.obs hat (j := 1) (by decide) rfl
    rw [hh] at this
    exact this
  · have := yoR_at h.obs hat (j := 2) (by decide) rfl
    rw [ht] at this
    exact this
theorem id_facts (ho : OOk n s) (hn : n ≤ 100000) (hid : s.isThere id) : IntKind.i64.wrap ((id : Int) - 1) = ((id - 1 : Nat) : Int) ∧ ((id - 1 : Nat) : Int) < (s.os.length : Int) := by
  have h1 := isThere_pos hid
  have h2 := ho.os
  exact ⟨by rw [IntWalk.i64_in _ (by omega)]; omega, by omega⟩
theorem xdies_any (h : YG y w0 Q0 s w) (ho : OOk n s) (hn : n ≤ 100000) (hid : s.isThere id) :
    Calls Try.prog 46 #[tp y, .int .i64 (id : Int)] w fun e w' => ∃ A c, e = .returned (.slice A (s.dead id).length c) ∧ RowI w0.heap.size w' A (s.dead id) ∧ YG y w0 Q0 (s.die id) w' := by
  have CC := Lib.hid (xcount_any h ho hn hid)
  have H := Lib.hid h
  obtain ⟨VL, VP, h⟩ := h
  obtain ⟨o, g, c, hobj, hk, hh, ht, rfl, d0, d1, d2, ff⟩ := yoR_cells (g := 0) (c := 0) h hid
  by_cases h0 : s.leads id + s.holdsOf id = 0
  · have e1 : s.dead id = [id] := by unfold dead loose; rw [decide_eq_true h0]; rfl
    have e2 : s.die id = s.setObj id ⟨s.kindOf id, s.holdsOf id, false⟩ := by unfold OSt.die loose; rw [decide_eq_true h0]; rfl
    rw [e1, e2]
    rw [h0] at CC
    have CC : Hid (Calls Try.prog 56 #[tp y, .int .i64 (id : Int)] w fun e w' => e = .returned (.int .i64 0) ∧ w = w') := CC
    have c0 : w.cell? ⟨y, 0, none⟩ = some (.slice (some ⟨g, 0, none⟩) s.os.length c) := h.tab.cell 0
    obtain ⟨q1, q2⟩ := id_facts ho hn hid
    have HF := Lib.hid (h.setOb (j := 2) (o' := ⟨s.kindOf id, s.holdsOf id, false⟩) (v := .bool false) hobj (by decide) (by unfold yoC; rw [hk, hh]; rfl))
    have HR : Hid (∀ (W : World) (m : Nat), W.heap.size = m → w0.heap.size ≤ m → RowI w0.heap.size (W.alloc (.cells #[.int .i64 (id : Int)] intT)) (some ⟨m, 0, none⟩) [id]) := fun W m hm hB => by subst hm; exact row_one W id hB
    have HB := Lib.hid h.keeps.size
    have f2 := ff ((id - 1) * 3 + 2)
    clear h ho hn hid hobj hk hh ht h0 e1 e2 d0 d1 ff
    generalize id - 1 = q at *
    generalize s.setObj id ⟨s.kindOf id, s.holdsOf id, false⟩ = s1 at *
    generalize s.os.length = L at *
    go_enter Try.func46, Try.ntmps46
    go_wp2_with (go_at_call 56; refine CC.out.mono ?_; rintro e w1 ⟨rfl, rfl⟩)
    go_ret
    exact ⟨_, _, rfl, HR.out _ _ (by simp [World.setCell]) HB.out, HF.out.quiet ((Keeps.refl _ _).alloc _)⟩
  · have e1 : s.dead id = [] := by unfold dead loose; rw [decide_eq_false h0]; rfl
    have e2 : s.die id = s := by unfold OSt.die loose; rw [decide_eq_false h0]; rfl
    rw [e1, e2]
    have g1 : decide ((0 : Int) < ((s.leads id + s.holdsOf id : Nat) : Int)) = true := decide_eq_true (by omega)
    have g2 : decide (0 < s.leads id + s.holdsOf id) = true := decide_eq_true (by omega)
    clear h ho hn hid hobj hk hh ht h0 e1 e2 d0 d1 d2 ff
    generalize s.leads id + s.holdsOf id = q at *
    go_enter Try.func46, Try.ntmps46
    go_wp2_with (go_at_call 56; refine CC.out.mono ?_; rintro e w1 ⟨rfl, rfl⟩)
    go_ret
    exact ⟨_, _, rfl, RowI.nil _ _ _, H.out⟩
theorem xhold_any (h : YG y w0 Q0 s w) (ho : OOk n s) (hn : n ≤ 100000) (m : Int) : Calls Try.prog 26 #[tp y, .int .i64 m] w fun e w' => e = .returned (.int .i64 (holdE s m)) ∧ YG y w0 Q0 (holdS s m) w' := by
  have CT := Lib.hid (xthere_any h (Nat.le_trans ho.os (by omega)) m)
  have H := Lib.hid h
  cases ht : thereI s m
  · have e1 : holdE s m = 1 := by unfold holdE; rw [ht]; rfl
    have e2 : holdS s m = s := by unfold holdS; rw [ht]; rfl
    rw [e1, e2]
    rw [ht] at CT
    clear h ho hn ht e1 e2
    go_enter Try.func26, Try.ntmps26
    go_wp2_with (go_at_call 47; refine CT.out.mono ?_; rintro e w1 ⟨rfl, rfl⟩)
    go_ret
    exact ⟨rfl, H.out⟩
  · obtain ⟨h1, hid⟩ := thereI_iff.1 ht
    obtain ⟨j, rfl⟩ := Int.eq_ofNat_of_zero_le (show 0 ≤ m by omega)
    rw [Int.toNat_natCast] at hid
    have e1 : holdE s (j : Int) = 0 := by unfold holdE; rw [ht]; rfl
    have e2 : holdS s (j : Int) = withHolds s j (s.holdsOf j + 1) := by unfold holdS; rw [ht, Int.toNat_natCast]; rfl
    rw [e1, e2]
    rw [ht] at CT
    obtain ⟨VL, VP, h⟩ := h
    obtain ⟨o, g, c, hobj, hk, hh, hth, rfl, d0, d1, d2, ff⟩ := yoR_cells (g := 0) (c := 0) h hid
    have c0 : w.cell? ⟨y, 0, none⟩ = some (.slice (some ⟨g, 0, none⟩) s.os.length c) := h.tab.cell 0
    obtain ⟨q1, q2⟩ := id_facts ho hn hid
    have HF : Hid (YG y w0 Q0 (withHolds s j (s.holdsOf j + 1)) (w.setCell ⟨g, (j - 1) * 3 + 1, none⟩ (.int .i64 ((s.holdsOf j + 1 : Nat) : Int)))) := h.setOb (j := 1) (o' := ⟨s.kindOf j, s.holdsOf j + 1, true⟩) hobj (by decide) (by unfold yoC; rw [hk, hth]; rfl)
    have q3 : IntKind.i64.wrap ((s.holdsOf j : Int) + 1) = ((s.holdsOf j + 1 : Nat) : Int) := by have := ho.hl j; rw [IntWalk.i64_in _ (by omega)]; omega
    have f1 := ff ((j - 1) * 3 + 1)
    clear h ho hn hid hobj hk hh hth ht e1 e2 d0 d2 ff h1 H
    generalize withHolds s j (s.holdsOf j + 1) = s1 at *
    generalize s.holdsOf j + 1 = v1 at *
    generalize s.holdsOf j = v0 at *
    generalize j - 1 = q at *
    generalize s.os.length = L at *
    go_enter Try.func26, Try.ntmps26
    go_wp2_with (go_at_call 47; refine CT.out.mono ?_; rintro e w1 ⟨rfl, rfl⟩)
    go_ret
    exact ⟨rfl, HF.out⟩
theorem xdrop_any (h : YG y w0 Q0 s w) (ho : OOk n s) (hn : n ≤ 100000) (m : Int) : Calls Try.prog 27 #[tp y, .int .i64 m] w fun e w' => ∃ A c, e = .returned (.tuple #[.slice A (dropL s m).length c, .int .i64 (dropE s m)]) ∧ RowI w0.heap.size w' A (dropL s m) ∧ YG y w0 Q0 (dropS s m) w' := by
  have CT := Lib.hid (xthere_any h (Nat.le_trans ho.os (by omega)) m)
  have H := Lib.hid h
  cases ht : thereI s m
  · have e0 : heldI s m = false := by unfold heldI; rw [ht]; rfl
    have e1 : dropE s m = 1 := by unfold dropE; rw [e0]; rfl
    have e2 : dropS s m = s := by unfold dropS; rw [e0]; rfl
    have e3 : dropL s m = [] := by unfold dropL; rw [e0]; rfl
    rw [e1, e2, e3]
    rw [ht] at CT
    clear h ho hn ht e0 e1 e2 e3
    go_enter Try.func27, Try.ntmps27
    go_wp2_with (go_at_call 47; refine CT.out.mono ?_; rintro e w1 ⟨rfl, rfl⟩)
    go_ret2
    exact ⟨_, _, rfl, RowI.nil _ _ _, H.out⟩
  · have ht' := ht
    obtain ⟨h1, hid⟩ := thereI_iff.1 ht
    obtain ⟨j, rfl⟩ := Int.eq_ofNat_of_zero_le (show 0 ≤ m by omega)
    rw [Int.toNat_natCast] at hid
    rw [ht] at CT
    obtain ⟨VL, VP, h⟩ := h
    obtain ⟨o, g, c, hobj, hk, hh, hth, rfl, d0, d1, d2, ff⟩ := yoR_cells (g := 0) (c := 0) h hid
    have c0 : w.cell? ⟨y, 0, none⟩ = some (.slice (some ⟨g, 0, none⟩) s.os.length c) := h.tab.cell 0
    obtain ⟨q1, q2⟩ := id_facts ho hn hid
    by_cases h0 : s.holdsOf j = 0
    · have e0 : heldI s (j : Int) = false := by unfold heldI; rw [Int.toNat_natCast, h0, ht]; rfl
      have e1 : dropE s (j : Int) = 1 := by unfold dropE; rw [e0]; rfl
      have e2 : dropS s (j : Int) = s := by unfold dropS; rw [e0]; rfl
      have e3 : dropL s (j : Int) = [] := by unfold dropL; rw [e0]; rfl
      rw [e1, e2, e3]
      rw [h0] at d1
      clear h ho hn hid hobj hk hh hth ht e0 e1 e2 e3 d0 d2 ff h1 ht' h0
      generalize j - 1 = q at *
      generalize s.os.length = L at *
      go_enter Try.func27, Try.ntmps27
      go_wp2_with (go_at_call 47; refine CT.out.mono ?_; rintro e w1 ⟨rfl, rfl⟩)
      go_ret2
      exact ⟨_, _, rfl, RowI.nil _ _ _, H.out⟩
    · have e0 : heldI s (j : Int) = true := heldI_iff.2 ⟨ht, by rw [Int.toNat_natCast]; exact h0⟩
      have e4 : dropped s (j : Int) = withHolds s j (s.holdsOf j - 1) := rfl
      have e1 : dropE s (j : Int) = 0 := by unfold dropE; rw [e0]; rfl
      have e2 : dropS s (j : Int) = (withHolds s j (s.holdsOf j - 1)).die j := by unfold dropS; rw [e0, e4]; rfl
      have e3 : dropL s (j : Int) = (withHolds s j (s.holdsOf j - 1)).dead j := by unfold dropL; rw [e0, e4]; rfl
      rw [e1, e2, e3]
      have HF : YG y w0 Q0 (withHolds s j (s.holdsOf j - 1)) (w.setCell ⟨g, (j - 1) * 3 + 1, none⟩ (.int .i64 ((s.holdsOf j - 1 : Nat) : Int))) := h.setOb (j := 1) (o' := ⟨s.kindOf j, s.holdsOf j - 1, true⟩) hobj (by decide) (by unfold yoC; rw [hk, hth]; rfl)
      have q3 : IntKind.i64.wrap ((s.holdsOf j : Int) - 1) = ((s.holdsOf j - 1 : Nat) : Int) := by have := ho.hl j; rw [IntWalk.i64_in _ (by omega)]; omega
      have ho1 : OOk n (withHolds s j (s.holdsOf j - 1)) := e4 ▸ ok_dropped ho ht
      have hid1 : (withHolds s j (s.holdsOf j - 1)).isThere j := (isThere_setObj _ hid rfl).2 hid
      have CD := Lib.hid (xdies_any HF ho1 hn hid1)
      have g1 : ((s.holdsOf j : Int) == 0) = false := by simp; omega
      have f1 := ff ((j - 1) * 3 + 1)
      clear h ho hn hid hobj hk hh hth ht e0 e1 e2 e3 e4 d0 d2 ff h1 H HF ho1 hid1 h0 ht'
      generalize withHolds s j (s.holdsOf j - 1) = s1 at *
      generalize s1.dead j = DL at *
      generalize s1.die j = s2 at *
      generalize s.holdsOf j - 1 = v1 at *
      generalize s.holdsOf j = v0 at *
      generalize j - 1 = q at *
      generalize s.os.length = L at *
      go_enter Try.func27, Try.ntmps27
      go_wp2_with (first
        | (go_at_call 47; refine CT.out.mono ?_; rintro e w1 ⟨rfl, rfl⟩)
        | (go_at_call 46; refine CD.out.mono ?_; rintro e w2 ⟨A, c2, rfl, h1, h2⟩; have H1 := Lib.hid (And.intro h1 h2); clear h1 h2))
      go_ret2
      exact ⟨A, c2, rfl, H1.out.1, H1.out.2⟩
end
end Go.Proofs.Ytmohbdbofehamaa
