/-
  The reference of layer 14: Pin, Unpin, Live.
-/
import Derived.Test.YtmohbdbofehamaaYAdd
namespace Go.Proofs.Ytmohbdbofehamaa
open Go Go.RowKit Go.Maps OSt
set_option linter.unusedVariables false
set_option linter.unusedSimpArgs false
set_option maxRecDepth 100000
theorem step_append_run' {P : Program} {ops : Array Oper} {o : Oper} {a : Act} {w : World} {K : Act → World → Prop} {Q : Exit → Act → World → Prop} {E : Prop} (hg : o.guard = none) (s x : Operand) (t : TypeId)
    (hop : o.op = Op.call { callee := Callee.builtin Builtin.append, args := #[s, x], argTypes := #[t, t] }) (v xv v' : Value) (w' : World) (hs : a.eval s = v) (hx : a.eval x = xv) (hrun : ∀ ty, (Builtin.append_ #[t, t] ty #[v, xv]).run P w = .ok v' w') (hK : K (a.put o.dst v') w') :
    if Region.wanted o (yielded ops a.tmps) = true then Oper.wp P o a w K Q else E := by
  have hw : Region.wanted o (yielded ops a.tmps) = true := by simp [Region.wanted, hg]
  rw [if_pos hw]
  unfold Oper.wp
  simp [execOp, hop, resolve, invoke, builtin, hs, hx, hrun, Result.andThen]
  exact hK
theorem sizeYp (w : World) : (sizeOf (Try.prog.elem ypsT)).run Try.prog w = .ok 2 w := by kernel_rfl
theorem elemYp : Try.prog.underlying ypsT = some (.slice (Try.prog.elem ypsT)) := by kernel_rfl
theorem slice_headYp (g n c q : Nat) (hq : q ≤ c) (w : World) : (Instr.slice ypsT (.slice (some ⟨g, 0, none⟩) n c) none (some (.int .i64 (q : Int))) none).run Try.prog w = .ok (.slice (some ⟨g, 0, none⟩) q c) w := by
  rw [run_slice_h (ht := elemYp) (h0 := by omega) (h2 := by omega), sizeYp]
  simp [Result.andThen, sliced, Addr.add]
theorem slice_tailYp (g n c q : Nat) (hq : q ≤ n) (w : World) : (Instr.slice ypsT (.slice (some ⟨g, 0, none⟩) n c) (some (.int .i64 (q : Int))) none none).run Try.prog w = .ok (.slice (some ⟨g, if c = q then 0 else q * 2, none⟩) (n - q) (c - q)) w := by
  rw [run_slice_l (ht := elemYp) (h0 := by omega) (h1 := by omega), sizeYp]
  by_cases h : c = q
  · simp [Result.andThen, sliced, Addr.add, h]
  · simp [Result.andThen, sliced, Addr.add, h]
    exact fun e => e.symm
/-- The row without entry i, made anew. -/
theorem ypR_cut {w : World} {g c i : Nat} {es : List (ByteArray × Nat)} (h : ypR w (.slice (some ⟨g, 0, none⟩) es.length c) es) (hi : i < es.length) (hl : es.length ≤ 100000) :
    ∃ A1 c1 w2 A2 c2 w4, (∀ ty, (Builtin.append_ #[ypsT, ypsT] ty #[.slice none 0 0, .slice (some ⟨g, 0, none⟩) i c]).run Try.prog w = .ok (.slice A1 i c1) w2) ∧
      (∀ ty, (Builtin.append_ #[ypsT, ypsT] ty #[.slice A1 i c1, .slice (some ⟨g, if c = i + 1 then 0 else (i + 1) * 2, none⟩) (es.length - (i + 1)) (c - (i + 1))]).run Try.prog w2 = .ok (.slice A2 (es.length - 1) c2) w4) ∧
      ypR w4 (.slice A2 (es.length - 1) c2) (es.eraseIdx i) ∧ Keeps (fun _ => False) w w2 ∧ Keeps (fun _ => False) w w4 ∧ ∀ b, (Value.slice A2 (es.length - 1) c2).ownBlock = some b → w.heap.size ≤ b := by
  obtain ⟨hlc, hcells⟩ : es.length ≤ c ∧ ∀ j u, (ypsC es)[j]? = some u → w.cell? ⟨g, j, none⟩ = some u := by
    rcases ypR_form h with ⟨e, _⟩ | ⟨g', c', cur, e, h1, _, _, h2⟩
    · cases e
    · cases e; exact ⟨h1, h2⟩
  have l1 : (es.take i).length = i := by rw [List.length_take]; omega
  have l2 : (es.drop (i + 1)).length = es.length - (i + 1) := List.length_drop
  have s1 : ypsC es = ypsC (es.take i) ++ ypsC (es.drop i) := by rw [← ypsC_append, List.take_append_drop]
  have s2 : ypsC es = ypsC (es.take (i + 1)) ++ ypsC (es.drop (i + 1)) := by rw [← ypsC_append, List.take_append_drop]
  have l3 : (ypsC (es.take (i + 1))).length = (i + 1) * 2 := by rw [ypsC_length, List.length_take]; congr 1; omega
  obtain ⟨V1, w2, r1, o1, g1, b1⟩ := ypR_append (w := w) (V := .slice none 0 0) (N := []) (M := es.take i) (A := some ⟨g, 0, none⟩) (c := c) (World.ownsRow_nil _ _ _ _) (fun j u hj => ⟨g, 0, rfl, by
    rw [Nat.zero_add]
    refine hcells j u ?_
    rw [s1, List.getElem?_append_left (List.getElem?_eq_some_iff.1 hj).1]
    exact hj⟩) (fun h => by cases h) (fun a h => by cases h; exact ⟨_, _, rfl⟩) (by rw [l1]; simp; omega)
  rw [List.nil_append] at o1
  have k1 : Keeps (fun _ => False) w w2 := Keeps.grown (Keeps.refl _ _) g1 (fun k e => by cases e)
  have b1' : ∀ b, V1.ownBlock = some b → w.heap.size ≤ b := fun b hb => by
    rcases b1 with e | e
    · rw [e] at hb; cases hb
    · rw [e] at hb; cases hb; exact Nat.le_refl _
  obtain ⟨V2, w4, r2, o2, g2, b2⟩ := ypR_append (w := w2) (V := V1) (N := es.take i) (M := es.drop (i + 1)) (A := some ⟨g, if c = i + 1 then 0 else (i + 1) * 2, none⟩) (c := c - (i + 1)) o1 (fun j u hj => by
    have hj' := (List.getElem?_eq_some_iff.1 hj).1
    rw [ypsC_length, l2] at hj'
    have hne : ¬ c = i + 1 := by omega
    refine ⟨g, _, rfl, ?_⟩
    rw [if_neg hne]
    have hc : w.cell? ⟨g, (i + 1) * 2 + j, none⟩ = some u := by
      refine hcells _ u ?_
      rw [s2, List.getElem?_append_right (by omega), l3, Nat.add_sub_cancel_left]
      exact hj
    rw [World.cell?_of_block (k1.block g (World.block_lt_of_cell? w _ hc) (fun h => h))]
    exact hc) (fun h => by cases h) (fun a h => by cases h; exact ⟨_, _, rfl⟩) (by rw [l1, l2]; omega)
  have k2 : Keeps (fun _ => False) w w4 := Keeps.grown k1 g2 (fun k e => .inr (b1' k e))
  have b2' : ∀ b, V2.ownBlock = some b → w.heap.size ≤ b := fun b hb => by
    rcases b2 with e | e
    · exact b1' b (e ▸ hb)
    · rw [e] at hb; cases hb; exact k1.size
  rw [← List.eraseIdx_eq_take_drop_succ] at o2
  have l4 : (es.eraseIdx i).length = es.length - 1 := by rw [List.length_eraseIdx, if_pos hi]
  obtain ⟨A1, c1, rfl⟩ := ypR_shape o1
  obtain ⟨A2, c2, rfl⟩ := ypR_shape o2
  rw [l1] at r1 r2 o1
  rw [l2] at r2
  have o2' := o2
  rw [l4] at r2 o2' b2'
  exact ⟨A1, c1, w2, A2, c2, w4, r1, r2, o2', k1, k2, b2'⟩
section
variable {y : Nat} {w0 w w' : World} {Q Q0 U : Nat → Prop} {s s' : OSt} {VL VP VL' VP' : Value} {n id f k i : Nat} {fd : Int} {p : ByteArray}
/-- The row of pins is another one. -/
theorem YGat.setPins {ps : List (ByteArray × Nat)} {pm : Nat} (h : YGat y w0 Q0 s VL VP w) (hl : s.fds.length = 64) {V' : Value} {w2 : World} (hr : ypR w2 V' ps) (kk : Keeps (fun b => VP.ownBlock = some b) w w2) (hV : ∀ g, V'.ownBlock = some g → VP.ownBlock = some g ∨ w.heap.size ≤ g) : YG y w0 Q0 { s with pins := ps, pm := pm } (w2.setCell ⟨y, 65, none⟩ V') := by
  have t2 : Blk w2 y refT (refC VL s.fds VP) := h.tab.keeps kk fun e => ypR_ne h.pns e h.tab (by decide) rfl
  have k2 : Keeps (fun b => b = y) w2 (w2.setCell ⟨y, 65, none⟩ V') := (Keeps.refl (fun b => b = y) w2).setCell (p := ⟨y, 65, none⟩) (.inl rfl) _
  have ka : Keeps (ownY y VL VP) w (w2.setCell ⟨y, 65, none⟩ V') := (kk.mono fun b hb => .inr (.inr hb)).setCell (p := ⟨y, 65, none⟩) (.inl (.inl rfl)) _
  have p2 : yoR w2 VL s.os := yoR_keeps h.obs kk fun g hg e => by
    rcases ypR_form h.pns with ⟨e1, _⟩ | ⟨g1, c1, cur, e1, _, _, hb, _⟩
    · rw [e1] at e; cases e
    · rw [e1] at e; cases e
      exact yoR_ne h.obs hg hb (by decide) rfl
  refine ⟨VL, V', h.local_ (s' := { s with pins := ps, pm := pm }) ka ?_ (yoR_keeps p2 k2 fun g hg => yoR_ne p2 hg t2 (by decide)) (ypR_keeps hr k2 fun g hg => ypR_ne hr hg t2 (by decide)) (fun g hg => .inl hg) hV⟩
  have := t2.set_ 65 V'
  rw [refC_set_pins hl] at this
  exact this
theorem xpin_bad (h : YG y w0 Q0 s w) (ho : OOk n s) (hn : n ≤ 100000) (p : ByteArray) (hp : p.size ≤ maxLen) (fd : Int) (h0 : pinBad s p fd ≠ 0) :
    Calls Try.prog 28 #[tp y, .string p, .int .i64 fd] w fun e w' => e = .returned (.int .i64 (pinBad s p fd)) ∧ w = w' := by
  have CP := Lib.hid (xpath_any p hp)
  have CN := Lib.hid (xfind_any h ho hn p)
  have CI := Lib.hid (xis_any h ho fd)
  cases hb : pathB p
  · have e1 : pinBad s p fd = 1 := by unfold pinBad; rw [hb]; rfl
    rw [hb] at CP
    rw [e1]
    clear h ho hp hb h0 e1
    go_enter Try.func28, Try.ntmps28
    go_wp2_with (go_at_call 48; refine (CP.out _).mono ?_; rintro e w1 ⟨rfl, rfl⟩)
    go_ret
    exact ⟨rfl, rfl⟩
  · rw [hb] at CP
    by_cases h1 : s.fdId fd = 0
    · have e1 : pinBad s p fd = 8 := by unfold pinBad; rw [hb, h1]; rfl
      rw [decide_eq_false (fun hh => hh h1)] at CI
      rw [e1]
      clear h ho hp hb h0 e1 h1
      go_enter Try.func28, Try.ntmps28
      go_wp2_with (first
        | (go_at_call 48; refine (CP.out _).mono ?_; rintro e w1 ⟨rfl, rfl⟩)
        | (go_at_call 45; refine CI.out.mono ?_; rintro e w1 ⟨rfl, rfl⟩))
      go_ret
      exact ⟨rfl, rfl⟩
    · rw [decide_eq_true h1] at CI
      have h2 : s.pinId p ≠ 0 := fun h2 => h0 (by unfold pinBad; rw [hb, if_neg h1, h2]; rfl)
      have e1 : pinBad s p fd = 5 := by unfold pinBad; rw [hb, if_neg h1, if_pos h2]; rfl
      rw [e1]
      obtain ⟨j, hj1, _⟩ := pinId_at ho h2
      have e5 : findI s p = (j : Int) := by unfold findI; rw [hj1]; rfl
      rw [e5] at CN
      have g5 : decide ((0 : Int) ≤ (j : Int)) = true := decide_eq_true (by omega)
      clear h ho hp hb h0 e1 h1 h2 e5 hj1
      go_enter Try.func28, Try.ntmps28
      go_wp2_with (first
        | (go_at_call 48; refine (CP.out _).mono ?_; rintro e w1 ⟨rfl, rfl⟩)
        | (go_at_call 45; refine CI.out.mono ?_; rintro e w1 ⟨rfl, rfl⟩)
        | (go_at_call 49; refine CN.out.mono ?_; rintro e w1 ⟨rfl, rfl⟩))
      go_ret
      exact ⟨rfl, rfl⟩
set_option maxHeartbeats 2000000 in
theorem xpin_ok (h : YG y w0 Q0 s w) (ho : OOk n s) (hn : n ≤ 100000) (p : ByteArray) (hp : p.size ≤ maxLen) (fd : Int) (h0 : pinBad s p fd = 0) :
    Calls Try.prog 28 #[tp y, .string p, .int .i64 fd] w fun e w' => e = .returned (.int .i64 0) ∧ YG y w0 Q0 (pinned s p (s.fdId fd)) w' := by
  have CP := Lib.hid (xpath_any p hp)
  have CN := Lib.hid (xfind_any h ho hn p)
  have CI := Lib.hid (xis_any h ho fd)
  obtain ⟨hb, h1, h2⟩ := pinBad_zero h0
  rw [hb] at CP
  rw [decide_eq_true h1] at CI
  have e5 : findI s p = -1 := by unfold findI; rw [pinId_none ho h2]; rfl
  rw [e5] at CN
  obtain ⟨j, rfl, hj⟩ := fdId_lt h1
  obtain ⟨c1, f1⟩ := h.fd_facts ho hj
  obtain ⟨VL, VP, h⟩ := h
  have hpl := Nat.le_trans ho.pl hn
  have hdr := ypR_keeps h.pns (keeps_drew w) (fun _ _ hf => hf)
  obtain ⟨V', w2, hr, hro, hk, hV⟩ := ypR_one (p, s.fdId (j : Int)) hdr (by omega)
  have hr' : ∀ ty, (Builtin.append_ #[ypsT, ypsT] ty #[VP, .slice (some ⟨w.heap.size, 0, none⟩) 1 1]).run Try.prog (w.alloc (.cells #[.string p, .int .i64 (s.fdId (j : Int) : Int)] ypT)).drew = .ok V' w2 := hr
  have hk' : Keeps (fun b => VP.ownBlock = some b) w w2 := ((keeps_drew w).mono fun _ hf => hf.elim).trans (hk.mono fun b hb => .inl hb)
  have HG0 := Lib.hid (h.setPins (pm := s.pm + 1) ho.len hro hk' hV)
  have HR := Lib.hid hr'
  have t2 : Blk w2 y refT (refC VL s.fds VP) := h.tab.keeps hk' fun e => ypR_ne h.pns e h.tab (by decide) rfl
  have c0 : w.cell? ⟨y, 65, none⟩ = some VP := (h.tab.cell _).trans (refC_pins ho.len)
  have c2 : w2.cell? ⟨y, 65, none⟩ = some VP := (t2.cell _).trans (refC_pins ho.len)
  have f2 : w2.frozen? ⟨y, 65, none⟩ = false := t2.frozen _
  have hat := h.tab.alloc (.cells #[.string p, .int .i64 (s.fdId (j : Int) : Int)] ypT)
  have a0 : (w.alloc (.cells #[.string p, .int .i64 (s.fdId (j : Int) : Int)] ypT)).cell? ⟨y, 65, none⟩ = some VP := (hat.cell _).trans (refC_pins ho.len)
  have a1 : (w.alloc (.cells #[.string p, .int .i64 (s.fdId (j : Int) : Int)] ypT)).cell? ⟨y, 1 + j, none⟩ = some (.int .i64 (s.fdId (j : Int) : Int)) := (hat.cell _).trans (refC_fd (fdId_get ho hj))
  obtain ⟨A0, c00, hVP⟩ := ypR_shape h.pns
  obtain ⟨A', c', hVs⟩ := ypR_shape hro
  subst hVP
  subst hVs
  have HG : Hid (YG y w0 Q0 (pinned s p (s.fdId (j : Int))) (w2.setCell ⟨y, 65, none⟩ (.slice A' (s.pins ++ [(p, s.fdId (j : Int))]).length c'))) := HG0
  clear HG0
  have g2 : decide (64 ≤ j) = false := decide_eq_false (by omega)
  have i1 : (j : Int) < 64 := by omega
  clear h ho hp hb h0 h1 h2 e5 hpl hdr hr hr' hro hk hk' hV t2 hat f1
  generalize pinned s p (s.fdId (j : Int)) = s1 at *
  generalize (s.pins ++ [(p, s.fdId (j : Int))]).length = n1 at *
  generalize s.fdId (j : Int) = a at *
  generalize s.pins.length = n0 at *
  go_enter Try.func28, Try.ntmps28
  go_upto_region 7 with (first
    | (go_at_call 48; refine (CP.out _).mono ?_; rintro e w1 ⟨rfl, rfl⟩)
    | (go_at_call 45; refine CI.out.mono ?_; rintro e w1 ⟨rfl, rfl⟩)
    | (go_at_call 49; refine CN.out.mono ?_; rintro e w1 ⟨rfl, rfl⟩))
  go_region_law ((first
    | (refine step_append_run' (by rfl) (.tmp 22) (.tmp 31) ypsT (by rfl) (.slice A0 n0 c00) (.slice (some ⟨w.heap.size, 0, none⟩) 1 1) (.slice A' n1 c') w2 (by rfl) (by rfl) HR.out ?_)))
  all_goals go_wp2_with fail
  all_goals go_ret
  all_goals exact ⟨rfl, HG.out⟩
theorem xpin_any (h : YG y w0 Q0 s w) (ho : OOk n s) (hn : n ≤ 100000) (p : ByteArray) (hp : p.size ≤ maxLen) (fd : Int) :
    Calls Try.prog 28 #[tp y, .string p, .int .i64 fd] w fun e w' => e = .returned (.int .i64 (pinBad s p fd)) ∧ YG y w0 Q0 (pinS s p fd) w' := by
  by_cases h0 : pinBad s p fd = 0
  · rw [h0, show pinS s p fd = pinned s p (s.fdId fd) from if_pos h0]
    exact xpin_ok h ho hn p hp fd h0
  · rw [show pinS s p fd = s from if_neg h0]
    refine (xpin_bad h ho hn p hp fd h0).mono ?_
    rintro e w' ⟨rfl, rfl⟩
    exact ⟨rfl, h⟩
set_option maxHeartbeats 2000000 in
theorem xunpin_any (h : YG y w0 Q0 s w) (ho : OOk n s) (hn : n ≤ 100000) (p : ByteArray) (hp : p.size ≤ maxLen) :
    Calls Try.prog 29 #[tp y, .string p] w fun e w' => ∃ A c, e = .returned (.tuple #[.slice A (unpinL s p).length c, .int .i64 (pathE s p)]) ∧ RowI w0.heap.size w' A (unpinL s p) ∧ YG y w0 Q0 (unpinS s p) w' := by
  have CP := Lib.hid (xpath_any p hp)
  have CN := Lib.hid (xfind_any h ho hn p)
  have H := Lib.hid h
  cases hb : pathB p
  · have e1 : pathE s p = 1 := by unfold pathE; rw [hb]; rfl
    have e2 : unpinL s p = [] := by unfold unpinL; rw [e1]; rfl
    have e3 : unpinS s p = s := by unfold unpinS; rw [e1]; rfl
    rw [hb] at CP
    rw [e1, e2, e3]
    clear h ho hp hb e1 e2 e3
    go_enter Try.func29, Try.ntmps29
    go_wp2_with (go_at_call 48; refine (CP.out _).mono ?_; rintro e w1 ⟨rfl, rfl⟩)
    go_ret2
    exact ⟨_, _, rfl, RowI.nil _ _ _, H.out⟩
  · rw [hb] at CP
    by_cases h0 : s.pinId p = 0
    · have e1 : pathE s p = 4 := by unfold pathE; rw [hb, h0]; rfl
      have e2 : unpinL s p = [] := by unfold unpinL; rw [e1]; rfl
      have e3 : unpinS s p = s := by unfold unpinS; rw [e1]; rfl
      have e5 : findI s p = -1 := by unfold findI; rw [pinId_none ho h0]; rfl
      rw [e5] at CN
      rw [e1, e2, e3]
      clear h ho hp hb h0 e1 e2 e3 e5
      go_enter Try.func29, Try.ntmps29
      go_wp2_with (first
        | (go_at_call 48; refine (CP.out _).mono ?_; rintro e w1 ⟨rfl, rfl⟩)
        | (go_at_call 49; refine CN.out.mono ?_; rintro e w1 ⟨rfl, rfl⟩))
      go_ret2
      exact ⟨_, _, rfl, RowI.nil _ _ _, H.out⟩
    · have e1 : pathE s p = 0 := by unfold pathE; rw [hb, if_neg h0]; rfl
      have e2 : unpinL s p = (unpinned s p).dead (s.pinId p) := by unfold unpinL; rw [e1]; rfl
      have e3 : unpinS s p = (unpinned s p).die (s.pinId p) := by unfold unpinS; rw [e1]; rfl
      obtain ⟨j, hj1, hj2⟩ := pinId_at ho h0
      have hid := pinId_there ho h0
      have e5 : findI s p = (j : Int) := by unfold findI; rw [hj1]; rfl
      rw [e5] at CN
      rw [e1, e2, e3]
      have e6 : unpinned s p = { s with pins := s.pins.eraseIdx j } := by unfold unpinned; rw [hj1]; rfl
      have hou : OOk n (unpinned s p) := ok_unpinned ho p
      obtain ⟨VL, VP, h⟩ := h
      have hjl := (List.getElem?_eq_some_iff.1 hj2).1
      obtain ⟨g, c, rfl, _, _⟩ := ypR_row h.pns (fun e => by rw [e] at hjl; simp at hjl)
      have c0 : w.cell? ⟨y, 65, none⟩ = some (.slice (some ⟨g, 0, none⟩) s.pins.length c) := (h.tab.cell _).trans (refC_pins ho.len)
      have d0 : w.cell? ⟨g, j * 2 + 1, none⟩ = some (.int .i64 (s.pinId p : Int)) := ypR_at h.pns hj2 (by decide) rfl
      have hpl := Nat.le_trans ho.pl hn
      obtain ⟨A1, c1, w2, A2, c2, w4, hr1, hr2, hro, hk2, hk4, hV⟩ := ypR_cut (ypR_keeps h.pns (keeps_drew w) (fun _ _ hf => hf)) hjl hpl
      have k4 : Keeps (fun _ => False) w w4 := (keeps_drew w).trans (hk4.mono fun _ hf => hf.elim)
      have k2 : Keeps (fun _ => False) w w2 := (keeps_drew w).trans (hk2.mono fun _ hf => hf.elim)
      have HG := h.setPins (pm := s.pm) ho.len hro (k4.mono fun _ hf => hf.elim) (fun g' hg' => .inr (hV g' hg'))
      have t2 := h.tab.keeps k2 (fun hf => hf)
      have t4 := h.tab.keeps k4 (fun hf => hf)
      have x2 : w2.cell? ⟨y, 65, none⟩ = some (.slice (some ⟨g, 0, none⟩) s.pins.length c) := (t2.cell _).trans (refC_pins ho.len)
      have x4 : w4.cell? ⟨y, 65, none⟩ = some (.slice (some ⟨g, 0, none⟩) s.pins.length c) := (t4.cell _).trans (refC_pins ho.len)
      have f4 : w4.frozen? ⟨y, 65, none⟩ = false := t4.frozen _
      have HG : YG y w0 Q0 (unpinned s p) (w4.setCell ⟨y, 65, none⟩ (.slice A2 (s.pins.length - 1) c2)) := by rw [e6]; exact HG
      have CD := Lib.hid (xdies_any HG hou hn (id := s.pinId p) hid)
      have R1 := Lib.hid hr1
      have R2 := Lib.hid hr2
      have hs1 := slice_headYp g s.pins.length c j (by have := ypR_form h.pns; rcases this with ⟨e, _⟩ | ⟨g', c', cur, e, h1, _⟩; cases e; cases e; omega)
      have hs2 := slice_tailYp g s.pins.length c (j + 1) (by omega)
      have q1 : IntKind.i64.wrap ((j : Int) + 1) = ((j + 1 : Nat) : Int) := by rw [IntWalk.i64_in _ (by omega)]; omega
      have i2 : (j : Int) < (s.pins.length : Int) := by omega
      have g5 : decide ((j : Int) < 0) = false := decide_eq_false (by omega)
      obtain ⟨L, hL⟩ : ∃ L, s.pins.length = L := ⟨_, rfl⟩
      obtain ⟨j1, hj1'⟩ : ∃ k, j + 1 = k := ⟨_, rfl⟩
      obtain ⟨L1, hL1⟩ : ∃ k, L - 1 = k := ⟨_, rfl⟩
      obtain ⟨L2, hL2⟩ : ∃ k, L - j1 = k := ⟨_, rfl⟩
      rw [hL] at c0 x2 x4 hs1 hs2 R2 CD i2
      rw [hj1'] at hs2 q1 R2
      rw [hL1] at R2 CD
      rw [hL2] at R2 hs2
      clear h ho hp hb h0 e1 e2 e3 e5 e6 hj1 hj2 hjl hpl hr1 hr2 hro hk2 hk4 hV k4 k2 HG t2 t4 hL hj1' hL1 hL2 hid hou H
      generalize s.pinId p = a at *
      generalize unpinned s p = s1 at *
      generalize s1.dead a = DL at *
      generalize s1.die a = s2 at *
      go_enter Try.func29, Try.ntmps29
      go_upto_region 7 with (first
        | (go_at_call 48; refine (CP.out _).mono ?_; rintro e w1 ⟨rfl, rfl⟩)
        | (go_at_call 49; refine CN.out.mono ?_; rintro e w1 ⟨rfl, rfl⟩))
      go_region_law ((first
        | (refine step_append_run' (by rfl) (.const (.slice none 0 0)) (.tmp 30) ypsT (by rfl) (.slice none 0 0) (.slice (some ⟨g, 0, none⟩) j c) (.slice A1 j c1) w2 (by rfl) (by rfl) R1.out ?_)
        | (refine step_append_run' (by rfl) (.tmp 31) (.tmp 38) ypsT (by rfl) (.slice A1 j c1) (.slice (some ⟨g, if c = j1 then 0 else j1 * 2, none⟩) L2 (c - j1)) (.slice A2 L1 c2) w4 (by rfl) (by rfl) R2.out ?_)))
      all_goals go_wp2_with (go_at_call 46; refine CD.out.mono ?_; rintro e w5 ⟨A, c5, rfl, h2, h3⟩; have H1 := Lib.hid (And.intro h2 h3); clear h2 h3)
      all_goals go_ret2
      all_goals exact ⟨A, ⟨c5, rfl⟩, H1.out.1, H1.out.2⟩
end
end Go.Proofs.Ytmohbdbofehamaa
