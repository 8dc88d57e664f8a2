/-
  The reference of layer 14: Add, Open, Live.
-/
import Derived.Test.YtmohbdbofehamaaYOps
namespace Go.Proofs.Ytmohbdbofehamaa
open Go Go.RowKit Go.Maps OSt
set_option linter.unusedVariables false
set_option linter.unusedSimpArgs false
set_option maxRecDepth 100000
section
variable {y : Nat} {w0 w w' : World} {Q Q0 U : Nat → Prop} {s s' : OSt} {VL VP VL' VP' : Value} {n id f k i : Nat} {fd : Int} {p : ByteArray}
/-- A new object comes. -/
theorem YGat.addOb {o : Ob} (h : YGat y w0 Q0 s VL VP w) {V' : Value} {w2 : World} (hr : yoR w2 V' (s.os ++ [o])) (kk : Keeps (fun b => VL.ownBlock = some b) w w2) (hV : ∀ g, V'.ownBlock = some g → VL.ownBlock = some g ∨ w.heap.size ≤ g) : YG y w0 Q0 { s with os := s.os ++ [o] } (w2.setCell ⟨y, 0, none⟩ V') := by
  have t2 : Blk w2 y refT (refC VL s.fds VP) := h.tab.keeps kk fun e => yoR_ne h.obs e h.tab (by decide) rfl
  have k2 : Keeps (fun b => b = y) w2 (w2.setCell ⟨y, 0, none⟩ V') := (Keeps.refl (fun b => b = y) w2).setCell (p := ⟨y, 0, none⟩) (.inl rfl) _
  have ka : Keeps (ownY y VL VP) w (w2.setCell ⟨y, 0, none⟩ V') := (kk.mono fun b hb => .inr (.inl hb)).setCell (p := ⟨y, 0, none⟩) (.inl (.inl rfl)) _
  have p2 : ypR w2 VP s.pins := ypR_keeps h.pns kk fun g hg e => by
    rcases yoR_form h.obs with ⟨e1, _⟩ | ⟨g1, c1, cur, e1, _, _, hb, _⟩
    · rw [e1] at e; cases e
    · rw [e1] at e; cases e
      exact ypR_ne h.pns hg hb (by decide) rfl
  refine ⟨V', VP, h.local_ (s' := { s with os := s.os ++ [o] }) ka ?_ (yoR_keeps hr k2 fun g hg => yoR_ne hr hg t2 (by decide)) (ypR_keeps p2 k2 fun g hg => ypR_ne p2 hg t2 (by decide)) hV (fun g hg => .inl hg)⟩
  have := t2.set_ 0 V'
  rw [refC_set_objs] at this
  exact this
theorem adds_some (hf : s.free = some f) (kd : Int) : addS s kd = ({ s with os := s.os ++ [⟨kd, 0, true⟩] } : OSt).putFd f (s.os.length + 1) ∧ openE s = 0 ∧ addN s = (f : Int) ∧ freeI s = (f : Int) ∧ addP s = ((s.os.length + 1 : Nat) : Int) := by
  unfold addS openE addN freeI addP
  rw [hf]
  exact ⟨rfl, rfl, rfl, rfl, rfl⟩
theorem adds_none (hf : s.free = none) (kd : Int) : addS s kd = s ∧ openE s = 8 ∧ addN s = 0 ∧ freeI s = -1 ∧ addP s = 0 := by
  unfold addS openE addN freeI addP
  rw [hf]
  exact ⟨rfl, rfl, rfl, rfl, rfl⟩
set_option maxHeartbeats 1000000 in
theorem xadd_any (h : YG y w0 Q0 s w) (ho : OOk n s) (hn : n ≤ 100000) (kd : Int) :
    Calls Try.prog 22 #[tp y, .int .i64 kd] w fun e w' => e = .returned (.tuple #[.int .i64 (addN s), .int .i64 (addP s), .int .i64 (openE s)]) ∧ YG y w0 Q0 (addS s kd) w' := by
  have CF := Lib.hid (xfree_any h ho.len)
  have H := Lib.hid h
  cases hf : s.free with
  | none =>
    obtain ⟨q1, q2, q3, q4, q5⟩ := adds_none hf kd
    rw [q4] at CF
    rw [q1, q2, q3, q5]
    clear h ho q1 q2 q3 q4 q5 hf
    go_enter Try.func22, Try.ntmps22
    go_wp2_with (go_at_call 44; refine CF.out.mono ?_; rintro e w1 ⟨rfl, rfl⟩)
    go_ret3
    exact ⟨rfl, H.out⟩
  | some f =>
    obtain ⟨q1, q2, q3, q4, q5⟩ := adds_some hf kd
    rw [q4] at CF
    rw [q1, q2, q3, q5]
    obtain ⟨hf1, hf2⟩ := free_lt ho hf
    have hlen := ho.len
    have hos := ho.os
    obtain ⟨c1, f1⟩ := h.fd_facts ho hf1
    obtain ⟨VL, VP, h⟩ := h
    obtain ⟨V', w2, hr, hro, hk, hV⟩ := yoR_one ⟨kd, 0, true⟩ h.obs (by omega)
    have hr' : ∀ ty, (Builtin.append_ #[yosT, yosT] ty #[VL, .slice (some ⟨w.heap.size, 0, none⟩) 1 1]).run Try.prog (w.alloc (.cells #[.int .i64 kd, .int .i64 0, .bool true] yoT)) = .ok V' w2 := hr
    have HG := h.addOb hro hk hV
    have HR := Lib.hid hr'
    clear hr'
    obtain ⟨A', c', hVs⟩ := yoR_shape hro
    have hl1 : (s.os ++ [(⟨kd, 0, true⟩ : Ob)]).length = s.os.length + 1 := by simp
    rw [hl1] at hVs
    have c0 : w.cell? ⟨y, 0, none⟩ = some VL := h.tab.cell 0
    obtain ⟨A0, c00, hVL⟩ := yoR_shape h.obs
    have t2 : Blk w2 y refT (refC VL s.fds VP) := h.tab.keeps hk fun e => yoR_ne h.obs e h.tab (by decide) rfl
    have c2 : w2.cell? ⟨y, 0, none⟩ = some VL := t2.cell 0
    have f2 : w2.frozen? ⟨y, 0, none⟩ = false := t2.frozen 0
    have t3 : Blk (w2.setCell ⟨y, 0, none⟩ V') y refT (refC V' s.fds VP) := by
      have := t2.set_ 0 V'
      rw [refC_set_objs] at this
      exact this
    have d0 : (w2.setCell ⟨y, 0, none⟩ V').cell? ⟨y, 0, none⟩ = some V' := t3.cell 0
    have d1 : (w2.setCell ⟨y, 0, none⟩ V').cell? ⟨y, 1 + f, none⟩ = some (.int .i64 0) := (t3.cell _).trans (refC_fd hf2)
    have d2 : (w2.setCell ⟨y, 0, none⟩ V').frozen? ⟨y, 1 + f, none⟩ = false := t3.frozen _
    have HF := Lib.hid (HG.setFd (f := f) (by show f < s.fds.length; rw [hlen]; exact hf1) (s.os.length + 1))
    have D3 : Hid (((w2.setCell ⟨y, 0, none⟩ V').setCell ⟨y, 1 + f, none⟩ (.int .i64 ((s.os.length + 1 : Nat) : Int))).cell? ⟨y, 0, none⟩ = some V') := (World.cell?_setCell_other _ _ _ _ (by intro e; injection e with _ e; omega)).trans d0
    subst hVs
    subst hVL
    have g2 : decide (64 ≤ f) = false := decide_eq_false (by omega)
    have i1 : (f : Int) < 64 := by omega
    have g4 : decide ((f : Int) < 0) = false := decide_eq_false (by omega)
    clear h ho q1 q2 q3 q4 q5 hf hf2 hos hlen hr hro hk hV HG hl1 t2 t3 c1 f1 H
    generalize ({ s with os := s.os ++ [⟨kd, 0, true⟩] } : OSt).putFd f (s.os.length + 1) = s1 at *
    generalize s.os.length + 1 = n1 at *
    generalize s.os.length = n0 at *
    go_enter Try.func22, Try.ntmps22
    go_upto_region 5 with (first
      | (go_at_call 44; refine CF.out.mono ?_; rintro e w1 ⟨rfl, rfl⟩)
      | (at_builtin; refine wpList_append_run rfl (.tmp 16) (.tmp 19) yosT rfl _ (.slice (some ⟨_, 0, none⟩) 1 1) (.slice A' n1 c') w2 rfl rfl HR.out ?_))
    generalize hW : w2.setCell ⟨y, 0, none⟩ (.slice A' n1 c') = w3 at d0 d1 d2 HF D3 ⊢
    clear hW c2 f2 c0
    have S0 : Hid (w3.cell? ⟨y, 0, none⟩ = some (.slice A' n1 c')) := d0
    go_region_held3 (fun W => W.cell? ⟨y, 0, none⟩ = some (.slice A' n1 c'))
      (first | exact S0.out | exact D3.out)
      (first | fail)
    generalize hW : w3.setCell ⟨y, 1 + f, none⟩ (.int .i64 (n1 : Int)) = w4 at HF D3 ⊢
    have d4 : w4.cell? ⟨y, 0, none⟩ = some (.slice A' n1 c') := D3.out
    clear hW d0 d1 d2 S0
    go_upto_region 6 with fail
    go_quiet (fail)
    go_wp2_with fail
    go_ret3
    exact ⟨rfl, HF.out.drew.drewN _⟩
set_option maxHeartbeats 1000000 in
theorem xopen_any (h : YG y w0 Q0 s w) (ho : OOk n s) (hn : n ≤ 100000) (p : ByteArray) (hp : p.size ≤ maxLen) :
    Calls Try.prog 30 #[tp y, .string p] w fun e w' => e = .returned (.tuple #[.int .i64 (opN s p), .int .i64 (opE s p)]) ∧ YG y w0 Q0 (opS s p) w' := by
  have CP := Lib.hid (xpath_any p hp)
  have CN := Lib.hid (xfind_any h ho hn p)
  have CF := Lib.hid (xfree_any h ho.len)
  have H := Lib.hid h
  cases hb : pathB p
  · have e1 : pathE s p = 1 := by unfold pathE; rw [hb]; rfl
    have e2 : opN s p = 0 := by unfold opN; rw [e1]; rfl
    have e3 : opE s p = 1 := by unfold opE; rw [e1]; rfl
    have e4 : opS s p = s := by unfold opS; rw [e1]; rfl
    rw [hb] at CP
    rw [e2, e3, e4]
    clear h ho hp hb e1 e2 e3 e4
    go_enter Try.func30, Try.ntmps30
    go_wp2_with (go_at_call 48; refine (CP.out _).mono ?_; rintro e w1 ⟨rfl, rfl⟩)
    go_ret2
    exact ⟨rfl, H.out⟩
  · rw [hb] at CP
    by_cases h0 : s.pinId p = 0
    · have e1 : pathE s p = 4 := by unfold pathE; rw [hb, h0]; rfl
      have e2 : opN s p = 0 := by unfold opN; rw [e1]; rfl
      have e3 : opE s p = 4 := by unfold opE; rw [e1]; rfl
      have e4 : opS s p = s := by unfold opS; rw [e1]; rfl
      have e5 : findI s p = -1 := by unfold findI; rw [pinId_none ho h0]; rfl
      rw [e5] at CN
      rw [e2, e3, e4]
      clear h ho hp hb h0 e1 e2 e3 e4 e5
      go_enter Try.func30, Try.ntmps30
      go_wp2_with (first
        | (go_at_call 48; refine (CP.out _).mono ?_; rintro e w1 ⟨rfl, rfl⟩)
        | (go_at_call 49; refine CN.out.mono ?_; rintro e w1 ⟨rfl, rfl⟩))
      go_ret2
      exact ⟨rfl, H.out⟩
    · have e1 : pathE s p = 0 := by unfold pathE; rw [hb, if_neg h0]; rfl
      have e2 : opN s p = addN s := by unfold opN; rw [e1]; rfl
      have e3 : opE s p = openE s := by unfold opE; rw [e1]; rfl
      have e4 : opS s p = openS s (s.pinId p) := by unfold opS; rw [e1]; rfl
      obtain ⟨j, hj1, hj2⟩ := pinId_at ho h0
      have e5 : findI s p = (j : Int) := by unfold findI; rw [hj1]; rfl
      rw [e5] at CN
      rw [e2, e3, e4]
      have g5 : decide ((j : Int) < 0) = false := decide_eq_false (by omega)
      cases hf : s.free with
      | none =>
        obtain ⟨q1, q2, q3, q4⟩ := openS_none (id := s.pinId p) hf
        rw [q4] at CF
        rw [q1, q2, q3]
        clear h ho hp hb h0 e1 e2 e3 e4 e5 hj1 hj2 q1 q2 q3 q4 hf
        go_enter Try.func30, Try.ntmps30
        go_wp2_with (first
          | (go_at_call 48; refine (CP.out _).mono ?_; rintro e w1 ⟨rfl, rfl⟩)
          | (go_at_call 49; refine CN.out.mono ?_; rintro e w1 ⟨rfl, rfl⟩)
          | (go_at_call 44; refine CF.out.mono ?_; rintro e w1 ⟨rfl, rfl⟩))
        go_ret2
        exact ⟨rfl, H.out⟩
      | some f =>
        obtain ⟨q1, q2, q3, q4⟩ := openS_some (id := s.pinId p) hf
        rw [q4] at CF
        rw [q1, q2, q3]
        obtain ⟨hf1, hf2⟩ := free_lt ho hf
        obtain ⟨c2, f2⟩ := h.fd_facts ho hf1
        have HF := Lib.hid (fun N => (h.drewN N).setFd (f := f) (by rw [ho.len]; exact hf1) (s.pinId p))
        obtain ⟨VL, VP, h⟩ := h
        have hjl := (List.getElem?_eq_some_iff.1 hj2).1
        obtain ⟨g, c, rfl, _, _⟩ := ypR_row h.pns (fun e => by rw [e] at hjl; simp at hjl)
        have c0 : w.cell? ⟨y, 65, none⟩ = some (.slice (some ⟨g, 0, none⟩) s.pins.length c) := (h.tab.cell _).trans (refC_pins ho.len)
        have d0 : w.cell? ⟨g, j * 2 + 1, none⟩ = some (.int .i64 (s.pinId p : Int)) := ypR_at h.pns hj2 (by decide) rfl
        have hgy : g ≠ y := ypR_ne h.pns rfl h.tab (by decide)
        have S0 : Hid (w.cell? ⟨y, 65, none⟩ = some (.slice (some ⟨g, 0, none⟩) s.pins.length c) ∧ w.cell? ⟨g, j * 2 + 1, none⟩ = some (.int .i64 (s.pinId p : Int))) := ⟨c0, d0⟩
        have S1 : Hid ((w.setCell ⟨y, 1 + f, none⟩ (.int .i64 (s.pinId p : Int))).cell? ⟨y, 65, none⟩ = some (.slice (some ⟨g, 0, none⟩) s.pins.length c) ∧ (w.setCell ⟨y, 1 + f, none⟩ (.int .i64 (s.pinId p : Int))).cell? ⟨g, j * 2 + 1, none⟩ = some (.int .i64 (s.pinId p : Int))) :=
          ⟨(World.cell?_setCell_other _ _ _ _ (by intro e; injection e with _ e; omega)).trans c0, (World.cell?_setCell_other _ _ _ _ (by intro e; injection e with e _; exact hgy e.symm)).trans d0⟩
        have g2 : decide (64 ≤ f) = false := decide_eq_false (by omega)
        have i1 : (f : Int) < 64 := by omega
        have g4 : decide ((f : Int) < 0) = false := decide_eq_false (by omega)
        have i2 : (j : Int) < (s.pins.length : Int) := by omega
        clear h ho hp hb h0 e1 e2 e3 e4 e5 hj1 hj2 q1 q2 q3 q4 hf hf2 hjl
        generalize s.pinId p = a at *
        generalize s.fdId (f : Int) = b at *
        generalize s.putFd f a = s1 at *
        generalize s.pins.length = L at *
        go_enter Try.func30, Try.ntmps30
        go_upto_region 9 with (first
          | (go_at_call 48; refine (CP.out _).mono ?_; rintro e w1 ⟨rfl, rfl⟩)
          | (go_at_call 49; refine CN.out.mono ?_; rintro e w1 ⟨rfl, rfl⟩)
          | (go_at_call 44; refine CF.out.mono ?_; rintro e w1 ⟨rfl, rfl⟩))
        go_region_held3 (fun W => W.cell? ⟨y, 65, none⟩ = some (.slice (some ⟨g, 0, none⟩) L c) ∧ W.cell? ⟨g, j * 2 + 1, none⟩ = some (.int .i64 (a : Int)))
          (first | exact S0.out | exact S1.out)
          (first | fail)
        go_wp2_with fail
        go_ret2
        exact ⟨rfl, HF.out 1⟩
end
end Go.Proofs.Ytmohbdbofehamaa
