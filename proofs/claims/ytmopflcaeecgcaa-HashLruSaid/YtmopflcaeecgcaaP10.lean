/-
  The reference of layer 10: remove. The reference of layer 10: Lookup, Delete, Update of what is there, Update refused.
-/
import Derived.Test.YtmopflcaeecgcaaP9
namespace Go.Proofs.Ytmopflcaeecgcaa
open Go Go.RowKit Go.Maps
set_option linter.unusedVariables false
set_option linter.unusedSimpArgs false
set_option maxRecDepth 100000
theorem step_append_run' {P : Program} {ops : Array Oper} {o : Oper} {a : Act} {w : World} {K : Act → World → Prop} {Q : Exit → Act → World → Prop} {E : Prop} (hg : o.guard = none) (s x : Operand) (t : TypeId)
    (hop : o.op = Op.call { callee := Callee.builtin Builtin.append, args := #[s, x], argTypes := #[t, t] }) (v xv v' : Value) (w' : World) (hs : a.eval s = v) (hx : a.eval x = xv) (hrun : ∀ ty, (Builtin.append_ #[t, t] ty #[v, xv]).run P w = .ok v' w') (hK : K (a.put o.dst v') w') :
    if Region.wanted o (yielded ops a.tmps) = true then Oper.wp P o a w K Q else E := by
  have hw : Region.wanted o (yielded ops a.tmps) = true := by simp [Region.wanted, hg]
  rw [if_pos hw]
  unfold Oper.wp
  simp [execOp, hop, resolve, invoke, builtin, hs, hx, hrun, Result.andThen]
  exact hK
theorem sizeE (w : World) : (sizeOf (Try.prog.elem entsT)).run Try.prog w = .ok 3 w := by kernel_rfl
theorem elemE : Try.prog.underlying entsT = some (.slice (Try.prog.elem entsT)) := by kernel_rfl
theorem slice_headE (g n c q : Nat) (hq : q ≤ c) (w : World) : (Instr.slice entsT (.slice (some ⟨g, 0, none⟩) n c) none (some (.int .i64 (q : Int))) none).run Try.prog w = .ok (.slice (some ⟨g, 0, none⟩) q c) w := by
  rw [run_slice_h (ht := elemE) (h0 := by omega) (h2 := by omega), sizeE]
  simp [Result.andThen, sliced, Addr.add]
theorem slice_tailE (g n c q : Nat) (hq : q ≤ n) (w : World) : (Instr.slice entsT (.slice (some ⟨g, 0, none⟩) n c) (some (.int .i64 (q : Int))) none none).run Try.prog w = .ok (.slice (some ⟨g, if c = q then 0 else q * 3, none⟩) (n - q) (c - q)) w := by
  rw [run_slice_l (ht := elemE) (h0 := by omega) (h1 := by omega), sizeE]
  by_cases h : c = q
  · simp [Result.andThen, sliced, Addr.add, h]
  · simp [Result.andThen, sliced, Addr.add, h]
    exact fun e => e.symm
theorem ents_shape {w : World} {V : Value} {es : List Ent} (h : Ents w V es) : ∃ A c, V = .slice A es.length c := by
  rcases ents_form h with ⟨h1, h2⟩ | ⟨g, c, cur, rfl, _⟩
  · exact ⟨none, 0, by rw [h1, h2]; rfl⟩
  · exact ⟨_, c, rfl⟩
/-- The row without entry i, made anew. -/
theorem ents_cut {w : World} {g c i : Nat} {es : List Ent} (h : Ents w (.slice (some ⟨g, 0, none⟩) es.length c) es) (hi : i < es.length) (hl : es.length ≤ 4096) :
    ∃ A1 c1 w2 A2 c2 w4, (∀ ty, (Builtin.append_ #[entsT, entsT] ty #[.slice none 0 0, .slice (some ⟨g, 0, none⟩) i c]).run Try.prog w = .ok (.slice A1 i c1) w2) ∧
      (∀ ty, (Builtin.append_ #[entsT, entsT] ty #[.slice A1 i c1, .slice (some ⟨g, if c = i + 1 then 0 else (i + 1) * 3, none⟩) (es.length - (i + 1)) (c - (i + 1))]).run Try.prog w2 = .ok (.slice A2 (es.length - 1) c2) w4) ∧
      Ents w4 (.slice A2 (es.length - 1) c2) (es.eraseIdx i) ∧ Keeps (fun _ => False) w w2 ∧ Keeps (fun _ => False) w w4 ∧ ∀ b, (Value.slice A2 (es.length - 1) c2).ownBlock = some b → w.heap.size ≤ b := by
  obtain ⟨hlc, hcells⟩ : es.length ≤ c ∧ ∀ j u, (entsC es)[j]? = some u → w.cell? ⟨g, j, none⟩ = some u := by
    rcases ents_form h with ⟨e, _⟩ | ⟨g', c', cur, e, h1, _, _, h2⟩
    · cases e
    · cases e; exact ⟨h1, h2⟩
  have l1 : (es.take i).length = i := by rw [List.length_take]; omega
  have l2 : (es.drop (i + 1)).length = es.length - (i + 1) := List.length_drop
  have s1 : entsC es = entsC (es.take i) ++ entsC (es.drop i) := by rw [← entsC_append, List.take_append_drop]
  have s2 : entsC es = entsC (es.take (i + 1)) ++ entsC (es.drop (i + 1)) := by rw [← entsC_append, List.take_append_drop]
  have l3 : (entsC (es.take (i + 1))).length = (i + 1) * 3 := by rw [entsC_length, List.length_take]; congr 1; omega
  obtain ⟨V1, w2, r1, o1, g1, b1⟩ := ents_append (w := w) (V := .slice none 0 0) (N := []) (M := es.take i) (A := some ⟨g, 0, none⟩) (c := c) (World.ownsRow_nil _ _ _ _) (fun j u hj => ⟨g, 0, rfl, by
    rw [Nat.zero_add]
    refine hcells j u ?_
    rw [s1, List.getElem?_append_left (List.getElem?_eq_some_iff.1 hj).1]
    exact hj⟩) (fun h => by cases h) (fun a h => by cases h; exact ⟨_, _, rfl⟩) (by rw [l1]; simp; omega)
  rw [List.nil_append] at o1
  have k1 : Keeps (fun _ => False) w w2 := Keeps.grown (Keeps.refl _ _) g1 (fun k e => by cases e)
  have b1' : ∀ b, V1.ownBlock = some b → w.heap.size ≤ b := fun b hb => by
    rcases b1 with e | e
    · rw [e] at hb; cases hb
    · rw [e] at hb; cases hb; exact Nat.le_refl _
  have hlt1 := (Keeps.refl (fun _ => False) w).size
  obtain ⟨V2, w4, r2, o2, g2, b2⟩ := ents_append (w := w2) (V := V1) (N := es.take i) (M := es.drop (i + 1)) (A := some ⟨g, if c = i + 1 then 0 else (i + 1) * 3, none⟩) (c := c - (i + 1)) o1 (fun j u hj => by
    have hj' := (List.getElem?_eq_some_iff.1 hj).1
    rw [entsC_length, l2] at hj'
    have hne : ¬ c = i + 1 := by omega
    refine ⟨g, _, rfl, ?_⟩
    rw [if_neg hne]
    have hc : w.cell? ⟨g, (i + 1) * 3 + j, none⟩ = some u := by
      refine hcells _ u ?_
      rw [s2, List.getElem?_append_right (by omega), l3, Nat.add_sub_cancel_left]
      exact hj
    rw [World.cell?_of_block (k1.block g (World.block_lt_of_cell? w _ hc) (fun h => h))]
    exact hc) (fun h => by cases h) (fun a h => by cases h; exact ⟨_, _, rfl⟩) (by rw [l1, l2]; omega)
  have k2 : Keeps (fun _ => False) w w4 := by
    have k := Keeps.grown k1 g2 (fun k e => .inr (b1' k e))
    exact k
  have b2' : ∀ b, V2.ownBlock = some b → w.heap.size ≤ b := fun b hb => by
    rcases b2 with e | e
    · exact b1' b (e ▸ hb)
    · rw [e] at hb; cases hb; exact k1.size
  rw [← List.eraseIdx_eq_take_drop_succ] at o2
  have l4 : (es.eraseIdx i).length = es.length - 1 := by rw [List.length_eraseIdx, if_pos hi]
  obtain ⟨A1, c1, rfl⟩ := ents_shape o1
  obtain ⟨A2, c2, rfl⟩ := ents_shape o2
  rw [l1] at r1 r2 o1
  rw [l2] at r2
  have o2' := o2
  rw [l4] at r2 o2' b2'
  exact ⟨A1, c1, w2, A2, c2, w4, r1, r2, o2', k1, k2, b2'⟩
section
variable {p : HPar} {w0 w w' : World} {Q Q0 U T T' : Nat → Prop} {s s' : HSt} {V V' : Value}
/-- Entry i goes: its region is retired. -/
def HSt.cut (s : HSt) (i : Nat) (e : Ent) (q : RV) : HSt := { s with m := s.m.set e.n (some (q.1, q.2.1, true)), es := s.es.eraseIdx i }
set_option maxHeartbeats 2000000 in
theorem YS.remove (h : YS p w0 Q0 s T V w) (i : Nat) (hl : s.es.length ≤ 4096) (e : Ent) (he : s.es[i]? = some e) (q : RV) (hq : s.m.vs e.n = some q) (hr : q.2.2 = false) :
    Calls Try.prog 53 #[tp p.y, .int .i64 i] w fun e' w' => e' = .returned (.tuple #[]) ∧ ∃ T' V', YS p w0 Q0 (s.cut i e q) T' V' w' := by
  have hi : i < s.es.length := (List.getElem?_eq_some_iff.1 he).1
  obtain ⟨g, c, rfl, h1, h2⟩ := h.row (by intro e; rw [e] at hi; simp at hi)
  have c0 : w.cell? ⟨p.y, 0, none⟩ = some (tp p.bx) := h.map.cell 0
  have c5 : w.cell? ⟨p.y, 5, none⟩ = some (.slice (some ⟨g, 0, none⟩) s.es.length c) := h.map.cell 5
  have d1 := (ents_cells h.ents he).2.1
  have H := Lib.hid h
  have HR := Lib.hid (fun w1 T1 (h1 : YS p w0 Q0 s T1 (.slice (some ⟨g, 0, none⟩) s.es.length c) w1) => h1.call (x_retire p.bx s.m e.n q hq hr))
  have HC := Lib.hid (fun w1 (h1 : Ents w1 (.slice (some ⟨g, 0, none⟩) s.es.length c) s.es) => ents_cut h1 hi hl)
  have HE := Lib.hid he
  have HL := Lib.hid hi
  have e1 : IntKind.i64.wrap ((i : Int) + 1) = ((i + 1 : Nat) : Int) := by rw [IntWalk.i64_in _ (by omega)]; omega
  have i1 : (i : Int) < (s.es.length : Int) := by omega
  have hs1 := slice_headE g s.es.length c i (by omega)
  have hs2 := slice_tailE g s.es.length c (i + 1) (by omega)
  obtain ⟨n, hn⟩ : ∃ n, s.es.length = n := ⟨_, rfl⟩
  obtain ⟨i1', hi1⟩ : ∃ k, i + 1 = k := ⟨_, rfl⟩
  have HNN := Lib.hid hn
  clear h h1 h2 he hq hr hi hl
  rw [hn] at c5 i1 hs1 hs2 HR HC
  rw [hi1] at e1 hs2 HC
  clear hn hi1
  go_enter Try.func53, Try.ntmps53
  go_upto_region 0 with fail
  have S0 : Hid (w.cell? ⟨p.y, 0, none⟩ = some (tp p.bx) ∧ w.cell? ⟨p.y, 5, none⟩ = some (.slice (some ⟨g, 0, none⟩) n c) ∧ w.cell? ⟨g, i * 3 + 1, none⟩ = some (.int .u64 (addr e.n 0))) := ⟨c0, c5, d1⟩
  have HD : Hid (YS p w0 Q0 s T (.slice (some ⟨g, 0, none⟩) n c) w.drew) := by rw [← HNN.out]; exact H.out.drew
  go_region_held3 (fun W => W.cell? ⟨p.y, 0, none⟩ = some (tp p.bx) ∧ W.cell? ⟨p.y, 5, none⟩ = some (.slice (some ⟨g, 0, none⟩) n c) ∧ W.cell? ⟨g, i * 3 + 1, none⟩ = some (.int .u64 (addr e.n 0)))
    (first | exact S0.out | exact S1.out)
    (first
      | (go_at_call 72; refine (HR.out _ _ HD.out).mono ?_; rintro e' w1 ⟨rfl, T1, h1⟩; have H1 := Lib.hid h1; have HE1 : Hid (Ents w1 (.slice (some ⟨g, 0, none⟩) s.es.length c) s.es) := (by rw [HNN.out]; have := h1.ents; unfold Ents at this ⊢; exact this); have S1 : Hid (w1.cell? ⟨p.y, 0, none⟩ = some (tp p.bx) ∧ w1.cell? ⟨p.y, 5, none⟩ = some (.slice (some ⟨g, 0, none⟩) n c) ∧ w1.cell? ⟨g, i * 3 + 1, none⟩ = some (.int .u64 (addr e.n 0))) := ⟨h1.map.cell 0, h1.map.cell 5, (ents_cells HE1.out HE.out).2.1⟩; clear h1))
  go_upto_region 1 with fail
  obtain ⟨A1, c1, w2, A2, c2, w4, hr1, hr2, ho, k2, k4, hb⟩ := HC.out w1.drew (ents_keeps H1.out.ents (Keeps.refl (fun _ => False) w1).drew (fun _ _ h => h))
  have R1 := Lib.hid hr1; have R2 := Lib.hid hr2; have HO := Lib.hid ho; have HB := Lib.hid hb
  have K4 : Hid (Keeps (fun _ => False) w1 w4) := ((Keeps.refl (fun _ => False) w1).drew).trans (k4.mono fun _ hf => hf.elim)
  have M1 := Lib.hid H1.out.map
  have M2 := Lib.hid (H1.out.map.drew.keeps k2 (fun h => h))
  have M4 := Lib.hid (H1.out.map.drew.keeps k4 (fun h => h))
  have x1 : w1.cell? ⟨p.y, 5, none⟩ = some (.slice (some ⟨g, 0, none⟩) n c) := M1.out.cell 5
  have x2 : w2.cell? ⟨p.y, 5, none⟩ = some (.slice (some ⟨g, 0, none⟩) n c) := M2.out.cell 5
  have x4 : w4.cell? ⟨p.y, 5, none⟩ = some (.slice (some ⟨g, 0, none⟩) n c) := M4.out.cell 5
  have f4 : w4.frozen? ⟨p.y, 5, none⟩ = false := M4.out.frozen 5
  have HYL := Lib.hid M1.out.lt
  clear hr1 hr2 ho k2 k4 hb HR HC S0 S1 HD M1 M2 HE1
  generalize n - 1 = n1 at *
  generalize hz2 : n - i1' = n2 at *
  clear hz2
  go_region_law ((first
    | (refine step_append_run' (by rfl) (.const (.slice none 0 0)) (.tmp 23) entsT (by rfl) (.slice none 0 0) (.slice (some ⟨g, 0, none⟩) i c) (.slice A1 i c1) w2 (by rfl) (by rfl) R1.out ?_)
    | (refine step_append_run' (by rfl) (.tmp 24) (.tmp 31) entsT (by rfl) (.slice A1 i c1) (.slice (some ⟨g, if c = i1' then 0 else i1' * 3, none⟩) n2 (c - i1')) (.slice A2 n1 c2) w4 (by rfl) (by rfl) R2.out ?_)))
  all_goals go_wp2_with fail
  all_goals go_end0
  all_goals refine ⟨rfl, T1, .slice A2 n1 c2, H1.out.local_ (s' := s.cut i e q) rfl (((K4.out.mono fun _ hf => hf.elim).setCell (p := ⟨p.y, 5, none⟩) (.inl (.inl rfl)) _)) (M4.out.set_ 5 _) ?_ (fun g' hg' => .inr (HB.out g' hg'))⟩
  all_goals exact ents_keeps HO.out ((Keeps.refl (fun b => b = p.y) w4).setCell (p := ⟨p.y, 5, none⟩) (.inl rfl) _) (fun g' hg' e => by have := HB.out g' hg'; have := HYL.out; have h3 : w1.drew.heap.size = w1.heap.size := rfl; omega)
end
end Go.Proofs.Ytmopflcaeecgcaa
namespace Go.Proofs.Ytmopflcaeecgcaa
open Go Go.RowKit Go.Maps
set_option linter.unusedVariables false
set_option linter.unusedSimpArgs false
set_option maxRecDepth 100000
def HSt.put (s : HSt) (e : Ent) (q : RV) (l : List UInt8) : HSt := { s with m := s.m.set e.n (some (q.1, setAt q.2.1 0 l, q.2.2)) }
theorem find_none {es : List Ent} {k : ByteArray} (h : findE es k = none) : findI es k = -1 := by unfold findI; rw [h]; rfl
theorem find_some {es : List Ent} {k : ByteArray} {i : Nat} (h : findE es k = some i) : findI es k = (i : Int) := by unfold findI; rw [h]; rfl
theorem setUsed_get {es : List Ent} {i u : Nat} {e : Ent} (h : es[i]? = some e) : (setUsed es i u)[i]? = some { e with used := u } := by
  unfold setUsed
  rw [List.getElem?_modify_eq, h]; rfl
section
variable {p : HPar} {w0 w w' : World} {Q Q0 U T T' : Nat → Prop} {s s' : HSt} {V V' : Value}
theorem YS.look_none (h : YS p w0 Q0 s T V w) (hl : s.es.length ≤ 4096) (key : ByteArray) (hf : findE s.es key = none) :
    Calls Try.prog 28 #[tp p.y, .string key] w fun e w' => e = .returned (.int .u64 0) ∧ w = w' := by
  have CF := Lib.hid (h.find hl key)
  rw [find_none hf] at CF
  clear h hl hf
  go_enter Try.func28, Try.ntmps28
  go_wp2_with (go_at_call 49; refine CF.out.mono ?_; rintro e w1 ⟨rfl, rfl⟩)
  go_ret
  exact ⟨rfl, rfl⟩
theorem YS.look_some (h : YS p w0 Q0 s T V w) (hl : s.es.length ≤ 4096) (hc : s.clock < 1000000) (key : ByteArray) (i : Nat) (hf : findE s.es key = some i) (e : Ent) (he : s.es[i]? = some e) :
    Calls Try.prog 28 #[tp p.y, .string key] w fun e' w' => e' = .returned (.int .u64 (addr e.n 0)) ∧ YS p w0 Q0 (s.use i) T V w' := by
  have CF := Lib.hid (h.find hl key)
  rw [find_some hf] at CF
  have hi := find_lt hf
  have CU := Lib.hid (h.use i hi hc)
  obtain ⟨g, c, rfl, h1, h2⟩ := h.row (by intro e; rw [e] at hi; simp at hi)
  have g1 : decide ((i : Int) < 0) = false := decide_eq_false (by omega)
  have i1 : (i : Int) < (s.es.length : Int) := by omega
  have HE := Lib.hid he
  generalize hn : s.es.length = n at *
  have HNN := Lib.hid hn
  clear h hl hf hc h1 h2 he hn hi
  go_enter Try.func28, Try.ntmps28
  go_upto_region 5 with (first
    | (go_at_call 49; refine CF.out.mono ?_; rintro e' w1 ⟨rfl, rfl⟩)
    | (go_at_call 50; refine CU.out.mono ?_; rintro e' w2 ⟨rfl, h2⟩; have H2 := Lib.hid h2; clear h2))
  have c5 : w2.cell? ⟨p.y, 5, none⟩ = some (.slice (some ⟨g, 0, none⟩) n c) := H2.out.map.cell 5
  have d1 : w2.cell? ⟨g, i * 3 + 1, none⟩ = some (.int .u64 (addr e.n 0)) := by
    have hx : Ents w2 (.slice (some ⟨g, 0, none⟩) (s.use i).es.length c) (s.use i).es := by
      have := H2.out.ents
      rw [show (s.use i).es.length = n by rw [← HNN.out]; exact setUsed_length _ _ _]; exact this
    exact (ents_cells hx (setUsed_get HE.out)).2.1
  go_wp2_with fail
  go_ret
  exact ⟨rfl, H2.out⟩
theorem YS.del_bad (h : YS p w0 Q0 s T V w) (key : ByteArray) (hb : s.gone = true ∨ key.size ≠ p.key) :
    Calls Try.prog 30 #[tp p.y, .string key] w fun e w' => e = .returned (.int .i64 1) ∧ w = w' := by
  have c2 : w.cell? ⟨p.y, 2, none⟩ = some (.int .i64 p.key) := h.map.cell 2
  have c7 : w.cell? ⟨p.y, 7, none⟩ = some (.bool s.gone) := h.map.cell 7
  cases hg : s.gone
  · rw [hg] at c7 hb
    have e1 : ((key.size : Int) != (p.key : Int)) = true := by
      rcases hb with hb | hb
      · cases hb
      · simp; omega
    clear h hb
    go_enter Try.func30, Try.ntmps30
    go_wp2_with fail
    go_ret
    exact ⟨rfl, rfl⟩
  · rw [hg] at c7
    clear h hb
    go_enter Try.func30, Try.ntmps30
    go_wp2_with fail
    go_ret
    exact ⟨rfl, rfl⟩
theorem YS.del_none (h : YS p w0 Q0 s T V w) (hl : s.es.length ≤ 4096) (hg : s.gone = false) (key : ByteArray) (hk : key.size = p.key) (hf : findE s.es key = none) :
    Calls Try.prog 30 #[tp p.y, .string key] w fun e w' => e = .returned (.int .i64 4) ∧ w = w' := by
  have c2 : w.cell? ⟨p.y, 2, none⟩ = some (.int .i64 p.key) := h.map.cell 2
  have c7 : w.cell? ⟨p.y, 7, none⟩ = some (.bool s.gone) := h.map.cell 7
  rw [hg] at c7
  have e1 : ((key.size : Int) != (p.key : Int)) = false := by simp; omega
  have CF := Lib.hid (h.find hl key)
  rw [find_none hf] at CF
  clear h hl hf hk hg
  go_enter Try.func30, Try.ntmps30
  go_wp2_with (go_at_call 49; refine CF.out.mono ?_; rintro e w1 ⟨rfl, rfl⟩)
  go_ret
  exact ⟨rfl, rfl⟩
theorem YS.del_some (h : YS p w0 Q0 s T V w) (hl : s.es.length ≤ 4096) (hg : s.gone = false) (key : ByteArray) (hk : key.size = p.key) (i : Nat) (hf : findE s.es key = some i) (e : Ent) (he : s.es[i]? = some e) (q : RV) (hq : s.m.vs e.n = some q) (hr : q.2.2 = false) :
    Calls Try.prog 30 #[tp p.y, .string key] w fun e' w' => e' = .returned (.int .i64 0) ∧ ∃ T' V', YS p w0 Q0 (s.cut i e q) T' V' w' := by
  have c2 : w.cell? ⟨p.y, 2, none⟩ = some (.int .i64 p.key) := h.map.cell 2
  have c7 : w.cell? ⟨p.y, 7, none⟩ = some (.bool s.gone) := h.map.cell 7
  rw [hg] at c7
  have e1 : ((key.size : Int) != (p.key : Int)) = false := by simp; omega
  have CF := Lib.hid (h.find hl key)
  rw [find_some hf] at CF
  have CR := Lib.hid (h.remove i hl e he q hq hr)
  have g1 : decide ((i : Int) < 0) = false := decide_eq_false (by omega)
  clear h hl hf hk hg he hq hr
  go_enter Try.func30, Try.ntmps30
  go_wp2_with (first
    | (go_at_call 49; refine CF.out.mono ?_; rintro e w1 ⟨rfl, rfl⟩)
    | (go_at_call 53; refine CR.out.mono ?_; rintro e' w2 ⟨rfl, T1, V1, h2⟩; have H2 := Lib.hid h2; clear h2))
  go_ret
  exact ⟨rfl, _, _, H2.out⟩
/-- What Update reads of a table. -/
structure UC (p : HPar) (s : HSt) (key value : ByteArray) (fl : Int) (w : World) : Prop where
  c1 : w.cell? ⟨p.y, 1, none⟩ = some (.int .i64 p.k)
  c2 : w.cell? ⟨p.y, 2, none⟩ = some (.int .i64 p.key)
  c3 : w.cell? ⟨p.y, 3, none⟩ = some (.int .i64 p.v)
  c4 : w.cell? ⟨p.y, 4, none⟩ = some (.int .i64 p.mx)
  c7 : w.cell? ⟨p.y, 7, none⟩ = some (.bool s.gone)
theorem YS.uc (h : YS p w0 Q0 s T V w) (key value : ByteArray) (fl : Int) : UC p s key value fl w := ⟨h.map.cell 1, h.map.cell 2, h.map.cell 3, h.map.cell 4, h.map.cell 7⟩
theorem YS.upd_bad (h : YS p w0 Q0 s T V w) (key value : ByteArray) (fl : Int) (hb : s.gone = true ∨ key.size ≠ p.key ∨ value.size ≠ p.v ∨ fl < 0 ∨ 2 < fl) :
    Calls Try.prog 29 #[tp p.y, .string key, .string value, .int .i64 fl] w fun e w' => e = .returned (.int .i64 1) ∧ w = w' := by
  obtain ⟨c1, c2, c3, c4, c7⟩ := h.uc key value fl
  cases hg : s.gone
  · rw [hg] at c7 hb
    cases e1 : ((key.size : Int) != (p.key : Int))
    · cases e2 : ((value.size : Int) != (p.v : Int))
      · cases e3 : decide (fl < 0)
        · cases e4 : decide (2 < fl)
          · exfalso
            simp at e1 e2 e3 e4
            rcases hb with hb | hb | hb | hb | hb
            · cases hb
            all_goals omega
          · clear h hb
            go_enter Try.func29, Try.ntmps29
            go_wp2_with fail
            go_ret
            exact ⟨rfl, rfl⟩
        · clear h hb
          go_enter Try.func29, Try.ntmps29
          go_wp2_with fail
          go_ret
          exact ⟨rfl, rfl⟩
      · clear h hb
        go_enter Try.func29, Try.ntmps29
        go_wp2_with fail
        go_ret
        exact ⟨rfl, rfl⟩
    · clear h hb
      go_enter Try.func29, Try.ntmps29
      go_wp2_with fail
      go_ret
      exact ⟨rfl, rfl⟩
  · rw [hg] at c7
    clear h hb
    go_enter Try.func29, Try.ntmps29
    go_wp2_with fail
    go_ret
    exact ⟨rfl, rfl⟩
theorem YS.upd_exists (h : YS p w0 Q0 s T V w) (hl : s.es.length ≤ 4096) (hg : s.gone = false) (key value : ByteArray) (fl : Int) (hk : key.size = p.key) (hv : value.size = p.v) (h0 : 0 ≤ fl) (h2 : fl ≤ 2) (i : Nat) (hf : findE s.es key = some i) (hfl : fl = 1) :
    Calls Try.prog 29 #[tp p.y, .string key, .string value, .int .i64 fl] w fun e w' => e = .returned (.int .i64 5) ∧ w = w' := by
  obtain ⟨c1, c2, c3, c4, c7⟩ := h.uc key value fl
  rw [hg] at c7
  have e1 : ((key.size : Int) != (p.key : Int)) = false := by simp; omega
  have e2 : ((value.size : Int) != (p.v : Int)) = false := by simp; omega
  have e3 : decide (fl < 0) = false := decide_eq_false (by omega)
  have e4 : decide (2 < fl) = false := decide_eq_false (by omega)
  have CF := Lib.hid (h.find hl key)
  rw [find_some hf] at CF
  have g1 : decide (0 ≤ (i : Int)) = true := decide_eq_true (by omega)
  subst hfl
  clear h hl hf hk hv hg h0 h2
  go_enter Try.func29, Try.ntmps29
  go_wp2_with (go_at_call 49; refine CF.out.mono ?_; rintro e w1 ⟨rfl, rfl⟩)
  go_ret
  exact ⟨rfl, rfl⟩
theorem YS.upd_noneE (h : YS p w0 Q0 s T V w) (hl : s.es.length ≤ 4096) (hg : s.gone = false) (key value : ByteArray) (fl : Int) (hk : key.size = p.key) (hv : value.size = p.v) (h0 : 0 ≤ fl) (h2 : fl ≤ 2) (hf : findE s.es key = none) (hfl : fl = 2) :
    Calls Try.prog 29 #[tp p.y, .string key, .string value, .int .i64 fl] w fun e w' => e = .returned (.int .i64 4) ∧ w = w' := by
  obtain ⟨c1, c2, c3, c4, c7⟩ := h.uc key value fl
  rw [hg] at c7
  have e1 : ((key.size : Int) != (p.key : Int)) = false := by simp; omega
  have e2 : ((value.size : Int) != (p.v : Int)) = false := by simp; omega
  have e3 : decide (fl < 0) = false := decide_eq_false (by omega)
  have e4 : decide (2 < fl) = false := decide_eq_false (by omega)
  have CF := Lib.hid (h.find hl key)
  rw [find_none hf] at CF
  subst hfl
  clear h hl hf hk hv hg h0 h2
  go_enter Try.func29, Try.ntmps29
  go_wp2_with (go_at_call 49; refine CF.out.mono ?_; rintro e w1 ⟨rfl, rfl⟩)
  go_ret
  exact ⟨rfl, rfl⟩
theorem YS.upd_put (h : YS p w0 Q0 s T V w) (hl : s.es.length ≤ 4096) (hg : s.gone = false) (key value : ByteArray) (fl : Int) (hk : key.size = p.key) (hv : value.size = p.v) (h0 : 0 ≤ fl) (h2 : fl ≤ 2) (hc : s.clock < 1000000) (i : Nat) (hf : findE s.es key = some i) (hfl : fl ≠ 1) (e : Ent) (he : s.es[i]? = some e) (q : RV) (hq : s.m.vs e.n = some q) (hql : q.2.1.length = p.v) (hn : e.n ≤ 4294967295) (hvm : p.v ≤ 4096) (l : List UInt8) (hvl : value = bstr l) :
    Calls Try.prog 29 #[tp p.y, .string key, .string value, .int .i64 fl] w fun e' w' => e' = .returned (.int .i64 0) ∧ ∃ T' V', YS p w0 Q0 ((s.put e q l).use i) T' V' w' := by
  obtain ⟨c1, c2, c3, c4, c7⟩ := h.uc key value fl
  rw [hg] at c7
  have e1 : ((key.size : Int) != (p.key : Int)) = false := by simp; omega
  have e2 : ((value.size : Int) != (p.v : Int)) = false := by simp; omega
  have e3 : decide (fl < 0) = false := decide_eq_false (by omega)
  have e4 : decide (2 < fl) = false := decide_eq_false (by omega)
  have CF := Lib.hid (h.find hl key)
  rw [find_some hf] at CF
  have hi := find_lt hf
  subst hvl
  have hll : l.length = p.v := by rw [← bstr_size]; exact hv
  have CP := Lib.hid (fun w1 T1 V1 (h1 : YS p w0 Q0 s T1 V1 w1) => h1.call (x_put p.bx s.m e.n hn q hq l (by omega) (by omega)))
  have CU := Lib.hid (fun w1 T1 V1 (h1 : YS p w0 Q0 (s.put e q l) T1 V1 w1) => h1.use i hi hc)
  obtain ⟨g, c, rfl, h1, h3⟩ := h.row (by intro e; rw [e] at hi; simp at hi)
  have c0 : w.cell? ⟨p.y, 0, none⟩ = some (tp p.bx) := h.map.cell 0
  have c5 : w.cell? ⟨p.y, 5, none⟩ = some (.slice (some ⟨g, 0, none⟩) s.es.length c) := h.map.cell 5
  have d1 := (ents_cells h.ents he).2.1
  have HE := Lib.hid he
  have H := Lib.hid h
  have g1 : decide (0 ≤ (i : Int)) = true := decide_eq_true (by omega)
  have g2 : (fl == 1) = false := by simpa using hfl
  have i1 : (i : Int) < (s.es.length : Int) := by omega
  obtain ⟨n, hnn⟩ : ∃ n, s.es.length = n := ⟨_, rfl⟩
  have HNN := Lib.hid hnn
  rw [hnn] at c5 i1
  clear h hl hf hk hv hg h0 h2 hc he hq hql hn hvm hll hi h1 h3 hnn hfl
  go_enter Try.func29, Try.ntmps29
  go_upto_region 7 with (go_at_call 49; refine CF.out.mono ?_; rintro e w1 ⟨rfl, rfl⟩)
  have S0 : Hid (w.cell? ⟨p.y, 0, none⟩ = some (tp p.bx) ∧ w.cell? ⟨p.y, 5, none⟩ = some (.slice (some ⟨g, 0, none⟩) n c) ∧ w.cell? ⟨g, i * 3 + 1, none⟩ = some (.int .u64 (addr e.n 0))) := ⟨c0, c5, d1⟩
  have HD : Hid (YS p w0 Q0 s T (.slice (some ⟨g, 0, none⟩) n c) w.drew) := by rw [← HNN.out]; exact H.out.drew
  go_region_held3 (fun W => W.cell? ⟨p.y, 0, none⟩ = some (tp p.bx) ∧ W.cell? ⟨p.y, 5, none⟩ = some (.slice (some ⟨g, 0, none⟩) n c) ∧ W.cell? ⟨g, i * 3 + 1, none⟩ = some (.int .u64 (addr e.n 0)))
    (first | exact S0.out | exact S1.out)
    (first
      | (go_at_call 51; refine (CP.out _ _ _ HD.out).mono ?_; rintro e' w1 ⟨rfl, T1, h1⟩; have H1 := Lib.hid h1; have HE1 : Hid (Ents w1 (.slice (some ⟨g, 0, none⟩) s.es.length c) s.es) := (by rw [HNN.out]; have := h1.ents; unfold Ents at this ⊢; exact this); have S1 : Hid (w1.cell? ⟨p.y, 0, none⟩ = some (tp p.bx) ∧ w1.cell? ⟨p.y, 5, none⟩ = some (.slice (some ⟨g, 0, none⟩) n c) ∧ w1.cell? ⟨g, i * 3 + 1, none⟩ = some (.int .u64 (addr e.n 0))) := ⟨h1.map.cell 0, h1.map.cell 5, (ents_cells HE1.out HE.out).2.1⟩; clear h1))
  go_wp2_with (go_at_call 50; refine (CU.out _ _ _ H1.out).mono ?_; rintro e' w2 ⟨rfl, h2⟩; have H2 := Lib.hid h2; clear h2)
  go_ret
  exact ⟨rfl, _, _, H2.out⟩
end
end Go.Proofs.Ytmopflcaeecgcaa
