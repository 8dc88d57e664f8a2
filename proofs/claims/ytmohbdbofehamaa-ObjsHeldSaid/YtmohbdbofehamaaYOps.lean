/-
  The reference of layer 14: Close, Get, Dup, Open.
-/
import Derived.Test.YtmohbdbofehamaaYDies
namespace Go.Proofs.Ytmohbdbofehamaa
open Go Go.RowKit Go.Maps OSt
set_option linter.unusedVariables false
set_option linter.unusedSimpArgs false
set_option maxRecDepth 100000
section
variable {y : Nat} {w0 w w' : World} {Q Q0 U : Nat → Prop} {s s' : OSt} {VL VP VL' VP' : Value} {n id f k i : Nat} {fd : Int} {p : ByteArray}
theorem YG.setFd (h : YG y w0 Q0 s w) (hf : f < s.fds.length) (v : Nat) : YG y w0 Q0 (s.putFd f v) (w.setCell ⟨y, 1 + f, none⟩ (.int .i64 (v : Int))) := by
  obtain ⟨VL, VP, h⟩ := h
  have kk : Keeps (fun b => b = y) w (w.setCell ⟨y, 1 + f, none⟩ (.int .i64 (v : Int))) := (Keeps.refl (fun b => b = y) w).setCell (p := ⟨y, 1 + f, none⟩) (.inl rfl) _
  refine ⟨VL, VP, h.local_ (s' := s.putFd f v) (kk.mono fun b hb => .inl hb) ?_ (yoR_keeps h.obs kk fun g hg => yoR_ne h.obs hg h.tab (by decide)) (ypR_keeps h.pns kk fun g hg => ypR_ne h.pns hg h.tab (by decide)) (fun g hg => .inl hg) (fun g hg => .inl hg)⟩
  rw [show (s.putFd f v).fds = s.fds.set f v from rfl, ← refC_set_fd hf v]
  exact h.tab.set_ (1 + f) _
theorem YG.fd_facts (h : YG y w0 Q0 s w) (ho : OOk n s) (hf : f < 64) : w.cell? ⟨y, 1 + f, none⟩ = some (.int .i64 (s.fdId (f : Int) : Int)) ∧ w.frozen? ⟨y, 1 + f, none⟩ = false := by
  obtain ⟨VL, VP, h⟩ := h
  exact ⟨(h.tab.cell _).trans (refC_fd (fdId_get ho hf)), h.tab.frozen _⟩
theorem xclose_any (h : YG y w0 Q0 s w) (ho : OOk n s) (hn : n ≤ 100000) (fd : Int) :
    Calls Try.prog 25 #[tp y, .int .i64 fd] w fun e w' => ∃ A c, e = .returned (.tuple #[.slice A (closeL s fd).length c, .int .i64 (fdE s fd)]) ∧ RowI w0.heap.size w' A (closeL s fd) ∧ YG y w0 Q0 (closeS s fd) w' := by
  have CI := Lib.hid (xis_any h ho fd)
  have H := Lib.hid h
  by_cases h0 : s.fdId fd = 0
  · have e1 : fdE s fd = 8 := if_pos h0
    have e2 : closeL s fd = [] := if_pos h0
    have e3 : closeS s fd = s := if_pos h0
    rw [decide_eq_false (fun hh => hh h0)] at CI
    rw [e1, e2, e3]
    clear h ho e1 e2 h0 e3
    go_enter Try.func25, Try.ntmps25
    go_wp2_with (go_at_call 45; refine CI.out.mono ?_; rintro e w1 ⟨rfl, rfl⟩)
    go_ret2
    exact ⟨_, _, rfl, RowI.nil _ _ _, H.out⟩
  · have e1 : fdE s fd = 0 := if_neg h0
    have e2 : closeL s fd = (closed s fd).dead (s.fdId fd) := if_neg h0
    have e3 : closeS s fd = (closed s fd).die (s.fdId fd) := if_neg h0
    rw [decide_eq_true h0] at CI
    rw [e1, e2, e3]
    obtain ⟨f, rfl, hf⟩ := fdId_lt h0
    have hfl : f < s.fds.length := by rw [ho.len]; exact hf
    obtain ⟨c0, f0⟩ := h.fd_facts ho hf
    have e4 : closed s (f : Int) = s.putFd f 0 := rfl
    rw [e4]
    have CD := Lib.hid (xdies_any (h.setFd hfl 0) (ok_putFd ho (.inl rfl)) hn (id := s.fdId (f : Int)) (fdId_there ho h0))
    have g2 : decide (64 ≤ f) = false := decide_eq_false (by omega)
    have i1 : (f : Int) < 64 := by omega
    clear h ho e1 e2 e3 e4 h0 hfl
    generalize s.fdId (f : Int) = a at *
    have CD : Hid (Calls Try.prog 46 #[tp y, .int .i64 (a : Int)] (w.setCell ⟨y, 1 + f, none⟩ (.int .i64 0)) fun e w' => ∃ A c, e = .returned (.slice A ((s.putFd f 0).dead a).length c) ∧ RowI w0.heap.size w' A ((s.putFd f 0).dead a) ∧ YG y w0 Q0 ((s.putFd f 0).die a) w') := CD
    generalize s.putFd f 0 = s1 at *
    generalize s1.dead a = L at *
    generalize s1.die a = s2 at *
    go_enter Try.func25, Try.ntmps25
    go_wp2_with (first
      | (go_at_call 45; refine CI.out.mono ?_; rintro e w1 ⟨rfl, rfl⟩)
      | (go_at_call 46; refine CD.out.mono ?_; rintro e w2 ⟨A, c, rfl, h2, h3⟩; have H1 := Lib.hid (And.intro h2 h3); clear h2 h3))
    go_ret2
    exact ⟨A, c, rfl, H1.out.1, H1.out.2⟩
set_option maxHeartbeats 1000000 in
theorem xget_any (h : YG y w0 Q0 s w) (ho : OOk n s) (hn : n ≤ 100000) (fd : Int) :
    Calls Try.prog 23 #[tp y, .int .i64 fd] w fun e w' => e = .returned (.tuple #[.int .i64 (getN s fd), .int .i64 (s.fdId fd : Int), .int .i64 (fdE s fd)]) ∧ YG y w0 Q0 s w' := by
  have CI := Lib.hid (xis_any h ho fd)
  have H := Lib.hid h
  by_cases h0 : s.fdId fd = 0
  · have e1 : fdE s fd = 8 := if_pos h0
    have e2 : getN s fd = 0 := if_pos h0
    rw [decide_eq_false (fun hh => hh h0)] at CI
    rw [e1, e2, h0]
    clear h ho e1 e2 h0
    go_enter Try.func23, Try.ntmps23
    go_wp2_with (go_at_call 45; refine CI.out.mono ?_; rintro e w1 ⟨rfl, rfl⟩)
    go_ret3
    exact ⟨rfl, H.out⟩
  · have e1 : fdE s fd = 0 := if_neg h0
    have e2 : getN s fd = s.kindOf (s.fdId fd) := if_neg h0
    rw [decide_eq_true h0] at CI
    rw [e1, e2]
    have hid := fdId_there ho h0
    obtain ⟨f, rfl, hf⟩ := fdId_lt h0
    obtain ⟨c1, f1⟩ := h.fd_facts ho hf
    obtain ⟨VL, VP, h⟩ := h
    obtain ⟨o, g, c, hobj, hk, hh, hth, rfl, d0, d1, d2, ff⟩ := yoR_cells (g := 0) (c := 0) h hid
    have c0 : w.cell? ⟨y, 0, none⟩ = some (.slice (some ⟨g, 0, none⟩) s.os.length c) := h.tab.cell 0
    obtain ⟨q1, q2⟩ := id_facts ho hn hid
    have g2 : decide (64 ≤ f) = false := decide_eq_false (by omega)
    have i1 : (f : Int) < 64 := by omega
    clear h ho e1 e2 h0 hid hobj hk hh hth d1 d2 ff f1
    generalize s.kindOf (s.fdId (f : Int)) = kd at *
    generalize s.fdId (f : Int) = a at *
    generalize a - 1 = q at *
    generalize s.os.length = L at *
    go_enter Try.func23, Try.ntmps23
    go_upto_region 3 with (go_at_call 45; refine CI.out.mono ?_; rintro e w1 ⟨rfl, rfl⟩)
    go_quiet (fail)
    go_wp2_with fail
    go_ret3
    exact ⟨rfl, H.out.drewN _⟩
theorem openS_some (hf : s.free = some f) : openS s id = s.putFd f id ∧ openE s = 0 ∧ addN s = (f : Int) ∧ freeI s = (f : Int) := by
  unfold openS openE addN freeI
  rw [hf]
  exact ⟨rfl, rfl, rfl, rfl⟩
theorem openS_none (hf : s.free = none) : openS s id = s ∧ openE s = 8 ∧ addN s = 0 ∧ freeI s = -1 := by
  unfold openS openE addN freeI
  rw [hf]
  exact ⟨rfl, rfl, rfl, rfl⟩
set_option maxHeartbeats 1000000 in
theorem xdup_any (h : YG y w0 Q0 s w) (ho : OOk n s) (hn : n ≤ 100000) (fd : Int) :
    Calls Try.prog 24 #[tp y, .int .i64 fd] w fun e w' => e = .returned (.tuple #[.int .i64 (dupN s fd), .int .i64 (dupE s fd)]) ∧ YG y w0 Q0 (dupS s fd) w' := by
  have CI := Lib.hid (xis_any h ho fd)
  have CF := Lib.hid (xfree_any h ho.len)
  have H := Lib.hid h
  by_cases h0 : s.fdId fd = 0
  · have e2 : dupN s fd = 0 := if_pos h0
    have e3 : dupE s fd = 8 := if_pos h0
    have e4 : dupS s fd = s := if_pos h0
    rw [decide_eq_false (fun hh => hh h0)] at CI
    rw [e2, e3, e4]
    clear h ho e2 h0 e3 e4
    go_enter Try.func24, Try.ntmps24
    go_wp2_with (first
      | (go_at_call 45; refine CI.out.mono ?_; rintro e w1 ⟨rfl, rfl⟩)
      | (go_at_call 44; refine CF.out.mono ?_; rintro e w1 ⟨rfl, rfl⟩))
    go_ret2
    exact ⟨rfl, H.out⟩
  · have e2 : dupN s fd = addN s := if_neg h0
    have e3 : dupE s fd = openE s := if_neg h0
    have e4 : dupS s fd = openS s (s.fdId fd) := if_neg h0
    rw [decide_eq_true h0] at CI
    rw [e2, e3, e4]
    cases hf : s.free with
    | none =>
      obtain ⟨q1, q2, q3, q4⟩ := openS_none (id := s.fdId fd) hf
      rw [q4] at CF
      rw [q1, q2, q3]
      clear h ho e2 e3 e4 h0 q1 q2 q3 q4 hf
      go_enter Try.func24, Try.ntmps24
      go_wp2_with (first
        | (go_at_call 45; refine CI.out.mono ?_; rintro e w1 ⟨rfl, rfl⟩)
        | (go_at_call 44; refine CF.out.mono ?_; rintro e w1 ⟨rfl, rfl⟩))
      go_ret2
      exact ⟨rfl, H.out⟩
    | some f =>
      obtain ⟨q1, q2, q3, q4⟩ := openS_some (id := s.fdId fd) hf
      rw [q4] at CF
      rw [q1, q2, q3]
      obtain ⟨hf1, hf2⟩ := free_lt ho hf
      obtain ⟨j, rfl, hj⟩ := fdId_lt h0
      obtain ⟨c1, f1⟩ := h.fd_facts ho hj
      obtain ⟨c2, f2⟩ := h.fd_facts ho hf1
      have HF := Lib.hid (fun N => (h.drewN N).setFd (f := f) (by rw [ho.len]; exact hf1) (s.fdId (j : Int)))
      have hne : j ≠ f := fun e => h0 (by rw [e, fdId_at hf1, getD_of hf2])
      have d1 : ∀ v, (w.setCell ⟨y, 1 + f, none⟩ v).cell? ⟨y, 1 + j, none⟩ = some (.int .i64 (s.fdId (j : Int) : Int)) := fun v => (World.cell?_setCell_other _ _ _ _ (by intro e; injection e with _ e; omega)).trans c1
      have S0 : Hid (w.cell? ⟨y, 1 + j, none⟩ = some (.int .i64 (s.fdId (j : Int) : Int))) := c1
      have S1 : Hid ((w.setCell ⟨y, 1 + f, none⟩ (.int .i64 (s.fdId (j : Int) : Int))).cell? ⟨y, 1 + j, none⟩ = some (.int .i64 (s.fdId (j : Int) : Int))) := d1 _
      have g2 : decide (64 ≤ f) = false := decide_eq_false (by omega)
      have i1 : (f : Int) < 64 := by omega
      have g3 : decide (64 ≤ j) = false := decide_eq_false (by omega)
      have i2 : (j : Int) < 64 := by omega
      have g4 : decide ((f : Int) < 0) = false := decide_eq_false (by omega)
      clear h ho e2 e3 e4 h0 q1 q2 q3 q4 hf hf2 d1
      generalize s.fdId (j : Int) = a at *
      generalize s.fdId (f : Int) = b at *
      generalize s.putFd f a = s1 at *
      go_enter Try.func24, Try.ntmps24
      go_upto_region 4 with (first
        | (go_at_call 45; refine CI.out.mono ?_; rintro e w1 ⟨rfl, rfl⟩)
        | (go_at_call 44; refine CF.out.mono ?_; rintro e w1 ⟨rfl, rfl⟩))
      go_region_held3 (fun W => W.cell? ⟨y, 1 + j, none⟩ = some (.int .i64 (a : Int)))
        (first | exact S0.out | exact S1.out)
        (first | fail)
      go_wp2_with fail
      go_ret2
      exact ⟨rfl, HF.out 1⟩
end
end Go.Proofs.Ytmohbdbofehamaa
