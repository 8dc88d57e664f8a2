/-
  Package objs: Get, Dup, Close, Hold, Drop, Unpin, Open, Live.
-/
import Derived.Test.YtmohbdbofehamaaOAdd
namespace Go.Proofs.Ytmohbdbofehamaa
open Go Go.RowKit Go.Maps OSt
set_option linter.unusedVariables false
set_option linter.unusedSimpArgs false
set_option maxRecDepth 100000
section
variable {x : Nat} {w0 w w' : World} {P0 P U : Nat → Prop} {s s' : OSt} {ld ld' : Nat → Nat} {mo mp mo' mp' : Option Nat} {D E D' E' : DataW Value} {bl bl' : Nat → Nat} {id n f k : Nat} {fd : Int} {p : ByteArray}
theorem get_any (h : TG x w0 P0 s w) (ho : OOk n s) (hn : n ≤ 100000) (fd : Int) :
    Calls Try.prog 20 #[tp x, .int .i64 fd] w fun e w' => e = .returned (.tuple #[.int .i64 (getN s fd), .int .i64 (s.fdId fd : Int), .int .i64 (fdE s fd)]) ∧ TG x w0 P0 s w' := by
  have CL := Lib.hid (leadsTo_any h ho fd)
  have H := Lib.hid h
  by_cases h0 : s.fdId fd = 0
  · have e1 : fdE s fd = 8 := if_pos h0
    have e2 : getN s fd = 0 := if_pos h0
    rw [e1, h0] at CL
    rw [e1, e2, h0]
    clear h ho e1 e2 h0
    go_enter Try.func20, Try.ntmps20
    go_wp2_with (go_at_call 34; refine CL.out.mono ?_; rintro e w1 ⟨rfl, rfl⟩)
    go_ret3
    exact ⟨rfl, H.out⟩
  · have e1 : fdE s fd = 0 := if_neg h0
    have e2 : getN s fd = s.kindOf (s.fdId fd) := if_neg h0
    rw [e1] at CL
    rw [e1, e2]
    have CK := Lib.hid (kind_any h (Nat.le_trans ho.os (by omega)) (fdId_there ho h0))
    clear h ho e1 e2 h0
    generalize s.fdId fd = a at *
    go_enter Try.func20, Try.ntmps20
    go_wp2_with (first
      | (go_at_call 34; refine CL.out.mono ?_; rintro e w1 ⟨rfl, rfl⟩)
      | (go_at_call 43; refine CK.out.mono ?_; rintro e w1 ⟨rfl, rfl⟩))
    go_ret3
    exact ⟨rfl, H.out⟩
theorem dup_any (h : TG x w0 P0 s w) (ho : OOk n s) (hn : n ≤ 100000) (fd : Int) :
    Calls Try.prog 14 #[tp x, .int .i64 fd] w fun e w' => e = .returned (.tuple #[.int .i64 (dupN s fd), .int .i64 (dupE s fd)]) ∧ TG x w0 P0 (dupS s fd) w' := by
  have CL := Lib.hid (leadsTo_any h ho fd)
  have H := Lib.hid h
  by_cases h0 : s.fdId fd = 0
  · have e1 : fdE s fd = 8 := if_pos h0
    have e2 : dupN s fd = 0 := if_pos h0
    have e3 : dupE s fd = 8 := if_pos h0
    have e4 : dupS s fd = s := if_pos h0
    rw [e1, h0] at CL
    rw [e2, e3, e4]
    clear h ho e1 e2 h0 e3 e4
    go_enter Try.func14, Try.ntmps14
    go_wp2_with (go_at_call 34; refine CL.out.mono ?_; rintro e w1 ⟨rfl, rfl⟩)
    go_ret2
    exact ⟨rfl, H.out⟩
  · have e1 : fdE s fd = 0 := if_neg h0
    have e2 : dupN s fd = addN s := if_neg h0
    have e3 : dupE s fd = openE s := if_neg h0
    have e4 : dupS s fd = openS s (s.fdId fd) := if_neg h0
    rw [e1] at CL
    rw [e2, e3, e4]
    have CO := Lib.hid (openFd_any h ho hn (fdId_there ho h0))
    clear h ho e1 e2 h0 e3 e4
    generalize s.fdId fd = a at *
    generalize addN s = r1 at *
    generalize openE s = r2 at *
    go_enter Try.func14, Try.ntmps14
    go_wp2_with (first
      | (go_at_call 34; refine CL.out.mono ?_; rintro e w1 ⟨rfl, rfl⟩)
      | (go_at_call 35; refine CO.out.mono ?_; rintro e w1 ⟨rfl, h1⟩; have H1 := Lib.hid h1; clear h1))
    go_ret2
    exact ⟨rfl, H1.out⟩
theorem open_any (h : TG x w0 P0 s w) (ho : OOk n s) (hn : n ≤ 100000) (p : ByteArray) (hp : p.size ≤ maxLen) :
    Calls Try.prog 21 #[tp x, .string p] w fun e w' => e = .returned (.tuple #[.int .i64 (opN s p), .int .i64 (opE s p)]) ∧ TG x w0 P0 (opS s p) w' := by
  have CL := Lib.hid (pathLeadsTo_any h ho hp)
  have H := Lib.hid h
  by_cases h0 : pathE s p = 0
  · have e2 : opN s p = addN s := if_pos h0
    have e3 : opE s p = openE s := if_pos h0
    have e4 : opS s p = openS s (s.pinId p) := if_pos h0
    have e5 : ledN s p = s.pinId p := if_pos h0
    rw [h0, e5] at CL
    rw [e2, e3, e4]
    have CO := Lib.hid (openFd_any h ho hn (pinId_there ho (pathE_zero h0).2))
    clear h ho e2 h0 e3 e4 e5 hp
    generalize s.pinId p = a at *
    generalize addN s = r1 at *
    generalize openE s = r2 at *
    go_enter Try.func21, Try.ntmps21
    go_wp2_with (first
      | (go_at_call 41; refine CL.out.mono ?_; rintro e w1 ⟨rfl, rfl⟩)
      | (go_at_call 35; refine CO.out.mono ?_; rintro e w1 ⟨rfl, h1⟩; have H1 := Lib.hid h1; clear h1))
    go_ret2
    exact ⟨rfl, H1.out⟩
  · have e2 : opN s p = 0 := if_neg h0
    have e3 : opE s p = pathE s p := if_neg h0
    have e4 : opS s p = s := if_neg h0
    have e5 : ledN s p = 0 := if_neg h0
    rw [e5] at CL
    rw [e2, e3, e4]
    have g1 : (pathE s p != 0) = true := by simp [h0]
    clear h ho e2 h0 e3 e4 e5 hp
    generalize pathE s p = r at *
    go_enter Try.func21, Try.ntmps21
    go_wp2_with (go_at_call 41; refine CL.out.mono ?_; rintro e w1 ⟨rfl, rfl⟩)
    go_ret2
    exact ⟨rfl, H.out⟩
/-- An object that may die, as the plain state has it. -/
theorem SetPost.fin {v : Value} (h : SetPost x w0 P0 s ld id v w') (hid : s.isThere id) (hl : ∀ k, s.isThere k → ld k = s.leads k) : ∃ A c, v = .slice A (s.dead id).length c ∧ RowI w0.heap.size w' A (s.dead id) ∧ TG x w0 P0 (s.die id) w' := by
  unfold dead OSt.die loose
  by_cases h0 : s.leads id + s.holdsOf id = 0
  · rw [decide_eq_true h0, if_pos rfl, if_pos rfl]
    obtain ⟨A, c, h1, h2, h3⟩ := h.1 (by rw [hl id hid]; exact h0)
    refine ⟨A, c, h1, h2, h3.congr fun k hk => ?_⟩
    have hk' : s.isThere k := by
      by_cases hki : k = id
      · rw [hki]; exact hid
      · exact (isThere_die _ hid hki).1 hk
    exact hl k hk'
  · rw [decide_eq_false h0, if_neg (by decide), if_neg (by decide)]
    obtain ⟨h1, h2⟩ := h.2 (by rw [hl id hid]; exact h0)
    exact ⟨none, 0, h1, RowI.nil _ _ _, h2.congr hl⟩
theorem close_any (h : TG x w0 P0 s w) (ho : OOk n s) (hn : n ≤ 100000) (fd : Int) :
    Calls Try.prog 17 #[tp x, .int .i64 fd] w fun e w' => ∃ A c, e = .returned (.tuple #[.slice A (closeL s fd).length c, .int .i64 (fdE s fd)]) ∧ RowI w0.heap.size w' A (closeL s fd) ∧ TG x w0 P0 (closeS s fd) w' := by
  have CL := Lib.hid (leadsTo_any h ho fd)
  have H := Lib.hid h
  by_cases h0 : s.fdId fd = 0
  · have e1 : fdE s fd = 8 := if_pos h0
    have e2 : closeL s fd = [] := if_pos h0
    have e3 : closeS s fd = s := if_pos h0
    rw [e1, h0] at CL
    rw [e1, e2, e3]
    clear h ho e1 e2 h0 e3
    go_enter Try.func17, Try.ntmps17
    go_wp2_with (go_at_call 34; refine CL.out.mono ?_; rintro e w1 ⟨rfl, rfl⟩)
    go_ret2
    exact ⟨_, _, rfl, RowI.nil _ _ _, H.out⟩
  · have e1 : fdE s fd = 0 := if_neg h0
    have e2 : closeL s fd = (closed s fd).dead (s.fdId fd) := if_neg h0
    have e3 : closeS s fd = (closed s fd).die (s.fdId fd) := if_neg h0
    rw [e1] at CL
    rw [e1, e2, e3]
    obtain ⟨f, rfl, hf⟩ := fdId_lt h0
    have hth := fdId_there ho h0
    have hat := fdId_get ho hf
    have hfl : f < s.fds.length := by rw [ho.len]; exact hf
    obtain ⟨⟨v0, c0⟩, f0⟩ := h.fd_facts ho.len hf
    have e4 : closed s (f : Int) = s.putFd f 0 := rfl
    rw [e4]
    have hlr := leads_le ho (id := s.fdId (f : Int))
    have hpos : 0 < s.leads (s.fdId (f : Int)) := by
      have : 0 < s.fds.count (s.fdId (f : Int)) := List.count_pos_iff.2 (List.mem_of_getElem? hat)
      unfold leads; omega
    have CW := Lib.hid (lower_any (h.setFd hfl 0) (Nat.le_trans ho.os (by omega)) hth (by omega) (by omega) (Nat.le_trans (ho.hl _) (by omega)))
    have HF : Hid (∀ v w2, SetPost x w0 P0 (s.putFd f 0) (bump s.leads (s.fdId (f : Int)) (s.leads (s.fdId (f : Int)) - 1)) (s.fdId (f : Int)) v w2 → ∃ A c, v = .slice A ((s.putFd f 0).dead (s.fdId (f : Int))).length c ∧ RowI w0.heap.size w2 A ((s.putFd f 0).dead (s.fdId (f : Int))) ∧ TG x w0 P0 ((s.putFd f 0).die (s.fdId (f : Int))) w2) := fun v w2 h2 => h2.fin hth fun k hk => by
      have hk0 : k ≠ 0 := by have := isThere_pos hk; omega
      have hp := leads_put ho hat 0 hk0
      rw [if_neg (fun e : (0 : Nat) = k => hk0 e.symm)] at hp
      by_cases hki : k = s.fdId (f : Int)
      · have hb : bump s.leads (s.fdId (f : Int)) (s.leads (s.fdId (f : Int)) - 1) k = s.leads k - 1 := by rw [hki]; exact bump_same _ _ _
        rw [if_pos hki.symm] at hp
        rw [hb]; omega
      · rw [if_neg (fun e => hki e.symm)] at hp
        rw [bump_other _ _ hki]; omega
    have g2 : decide (64 ≤ f) = false := decide_eq_false (by omega)
    have i1 : (f : Int) < 64 := by omega
    clear h ho e1 e2 e3 e4 h0 hth hat hfl hlr hpos
    generalize s.fdId (f : Int) = a at *
    have CW : Hid (Calls Try.prog 40 #[tp x, .int .i64 (a : Int)] (w.setCell ⟨x, 2 + f, none⟩ (.int .i64 0)) fun e w' => ∃ v, e = .returned v ∧ SetPost x w0 P0 (s.putFd f 0) (bump s.leads a (s.leads a - 1)) a v w') := CW
    generalize s.putFd f 0 = s1 at *
    generalize bump s.leads a (s.leads a - 1) = ld1 at *
    generalize s1.dead a = L at *
    generalize s1.die a = s2 at *
    go_enter Try.func17, Try.ntmps17
    go_wp2_with (first
      | (go_at_call 34; refine CL.out.mono ?_; rintro e w1 ⟨rfl, rfl⟩)
      | (go_at_call 40; refine CW.out.mono ?_; rintro e w2 ⟨r, rfl, h1⟩; obtain ⟨A, c, rfl, h2, h3⟩ := HF.out _ _ h1; have H1 := Lib.hid (And.intro h2 h3); clear h1 h2 h3))
    go_ret2
    exact ⟨A, c, rfl, H1.out.1, H1.out.2⟩
theorem hold_any (h : TG x w0 P0 s w) (ho : OOk n s) (hn : n ≤ 100000) (j : Int) (hj : -9223372036854775808 ≤ j ∧ j ≤ 9223372036854775807) :
    Calls Try.prog 16 #[tp x, .int .i64 j] w fun e w' => e = .returned (.int .i64 (holdE s j)) ∧ TG x w0 P0 (holdS s j) w' := by
  have H := Lib.hid h
  cases ht : thereI s j
  · have e1 : holdE s j = 1 := by unfold holdE; rw [ht]; rfl
    have e2 : holdS s j = s := by unfold holdS; rw [ht]; rfl
    rw [e1, e2]
    have CH := Lib.hid (chold_no h hj ht)
    clear h ho hn ht e1 e2 hj
    go_enter Try.func16, Try.ntmps16
    go_wp2_with (go_at_call 39; refine CH.out.mono ?_; rintro e w1 ⟨rfl, rfl⟩)
    go_ret
    exact ⟨rfl, H.out⟩
  · obtain ⟨h1, h2⟩ := thereI_iff.1 ht
    obtain ⟨i, rfl⟩ := Int.eq_ofNat_of_zero_le (show 0 ≤ j by omega)
    rw [Int.toNat_natCast] at h2
    have e1 : holdE s (i : Int) = 0 := by unfold holdE; rw [ht]; rfl
    have e2 : holdS s (i : Int) = withHolds s i (s.holdsOf i + 1) := by unfold holdS; rw [ht, Int.toNat_natCast]; rfl
    rw [e1, e2]
    have CH := Lib.hid (chold_yes h (Nat.le_trans ho.os (by omega)) h2 (Nat.le_trans (ho.hl _) (by omega)))
    have HE : Hid (∀ w2, PG x w0 P0 (withHolds s i (s.holdsOf i + 1)) s.leads w2 → TG x w0 P0 (withHolds s i (s.holdsOf i + 1)) w2) := fun w2 h3 => h3
    clear h ho hn ht e1 e2 hj h1 h2
    generalize withHolds s i (s.holdsOf i + 1) = s1 at *
    go_enter Try.func16, Try.ntmps16
    go_wp2_with (go_at_call 39; refine CH.out.mono ?_; rintro e w1 ⟨rfl, h1⟩; have H1 := Lib.hid (HE.out _ h1); clear h1)
    go_ret
    exact ⟨rfl, H1.out⟩
theorem drop_any (h : TG x w0 P0 s w) (ho : OOk n s) (hn : n ≤ 100000) (j : Int) (hj : -9223372036854775808 ≤ j ∧ j ≤ 9223372036854775807) :
    Calls Try.prog 19 #[tp x, .int .i64 j] w fun e w' => ∃ A c, e = .returned (.tuple #[.slice A (dropL s j).length c, .int .i64 (dropE s j)]) ∧ RowI w0.heap.size w' A (dropL s j) ∧ TG x w0 P0 (dropS s j) w' := by
  have H := Lib.hid h
  cases ht : heldI s j
  · have e1 : dropE s j = 1 := by unfold dropE; rw [ht]; rfl
    have e2 : dropS s j = s := by unfold dropS; rw [ht]; rfl
    have e3 : dropL s j = [] := by unfold dropL; rw [ht]; rfl
    rw [e1, e2, e3]
    have CH : Hid (Calls Try.prog 42 #[tp x, .int .i64 j] w fun e w' => e = .returned (.tuple #[.slice none 0 0, .int .i64 1]) ∧ w = w') := by
      cases h1 : thereI s j
      · exact cdrop_none h hj h1
      · obtain ⟨h2, h3⟩ := thereI_iff.1 h1
        obtain ⟨i, rfl⟩ := Int.eq_ofNat_of_zero_le (show 0 ≤ j by omega)
        rw [Int.toNat_natCast] at h3
        refine cdrop_zero h (Nat.le_trans ho.os (by omega)) h3 ?_
        refine Classical.byContradiction fun h4 => ?_
        have := heldI_iff.2 ⟨h1, by rw [Int.toNat_natCast]; exact h4⟩
        rw [ht] at this; cases this
    clear h ho hn ht e1 e2 e3 hj
    go_enter Try.func19, Try.ntmps19
    go_wp2_with (go_at_call 42; refine CH.out.mono ?_; rintro e w1 ⟨rfl, rfl⟩)
    go_ret2
    exact ⟨_, _, rfl, RowI.nil _ _ _, H.out⟩
  · obtain ⟨h0, h4⟩ := heldI_iff.1 ht
    obtain ⟨h1, h2⟩ := thereI_iff.1 h0
    obtain ⟨i, rfl⟩ := Int.eq_ofNat_of_zero_le (show 0 ≤ j by omega)
    rw [Int.toNat_natCast] at h2 h4
    have e0 : dropped s (i : Int) = withHolds s i (s.holdsOf i - 1) := rfl
    have e1 : dropE s (i : Int) = 0 := by unfold dropE; rw [ht]; rfl
    have e2 : dropS s (i : Int) = (withHolds s i (s.holdsOf i - 1)).die i := by unfold dropS; rw [ht, e0]; rfl
    have e3 : dropL s (i : Int) = (withHolds s i (s.holdsOf i - 1)).dead i := by unfold dropL; rw [ht, e0]; rfl
    rw [e1, e2, e3]
    have hlr := leads_le ho (id := i)
    have CH := Lib.hid (cdrop_yes h (Nat.le_trans ho.os (by omega)) h2 h4 (by omega) (Nat.le_trans (ho.hl _) (by omega)))
    have HF : Hid (∀ v w2, SetPost x w0 P0 (withHolds s i (s.holdsOf i - 1)) s.leads i v w2 → ∃ A c, v = .slice A ((withHolds s i (s.holdsOf i - 1)).dead i).length c ∧ RowI w0.heap.size w2 A ((withHolds s i (s.holdsOf i - 1)).dead i) ∧ TG x w0 P0 ((withHolds s i (s.holdsOf i - 1)).die i) w2) := fun v w2 h5 => h5.fin ((isThere_setObj _ h2 rfl).2 h2) fun k hk => rfl
    clear h ho hn ht e0 e1 e2 e3 hj h0 h4 h1 h2 hlr
    generalize withHolds s i (s.holdsOf i - 1) = s1 at *
    generalize s.leads = ld1 at *
    generalize s1.dead i = L at *
    generalize s1.die i = s2 at *
    go_enter Try.func19, Try.ntmps19
    go_wp2_with (go_at_call 42; refine CH.out.mono ?_; rintro e w1 ⟨r, rfl, h1⟩; obtain ⟨A, c, rfl, h2, h3⟩ := HF.out _ _ h1; have H1 := Lib.hid (And.intro h2 h3); clear h1 h2 h3)
    go_ret2
    exact ⟨A, c, rfl, H1.out.1, H1.out.2⟩
theorem live_any (h : PG x w0 P0 s ld w) (ho : OOk n s) (hn : n ≤ 100000) : Calls Try.prog 10 #[tp x] w (LivePost w (liveS s)) := by
  have CL := Lib.hid (clive_any h (Nat.le_trans ho.os (by omega)))
  unfold LivePost at CL
  clear h ho hn
  generalize liveS s = L at *
  go_enter Try.func10, Try.ntmps10
  go_wp2_with (go_at_call 31; refine CL.out.mono ?_; rintro e w1 ⟨A, c, rfl, h1, h2⟩; have H1 := Lib.hid (And.intro h1 h2); clear h1 h2)
  go_ret
  exact ⟨A, c, rfl, H1.out.1, H1.out.2⟩
end
end Go.Proofs.Ytmohbdbofehamaa
