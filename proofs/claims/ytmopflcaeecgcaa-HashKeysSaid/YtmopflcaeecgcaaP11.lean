/-
  The reference of layer 10: Update of a key that isn't there. The reference of layer 10: Update of a key that isn't there, where there is room, or the one used longest ago goes. The reference of layer 10: Update of a key that isn't there, where the one used longest ago goes.
-/
import Derived.Test.YtmopflcaeecgcaaP10
namespace Go.Proofs.Ytmopflcaeecgcaa
open Go Go.RowKit Go.Maps
set_option linter.unusedVariables false
set_option linter.unusedSimpArgs false
set_option maxRecDepth 100000
theorem wpList_append_run' {P : Program} {ops : Array Oper} {rest : List Oper} {o : Oper} {a : Act} {w : World} {Q : Exit → Act → World → Prop} (hgd : o.guard = none) (s x : Operand) (t : TypeId)
    (ho : o.op = .call { callee := .builtin .append, args := #[s, x], argTypes := #[t, t] }) (v xv v' : Value) (w' : World) (hs : a.eval s = v) (hx : a.eval x = xv) (hrun : ∀ ty, (Builtin.append_ #[t, t] ty #[v, xv]).run P w = .ok v' w')
    (h : wpList P ops Q rest (a.put o.dst v') w') : wpList P ops Q (o :: rest) a w := by
  refine wpList_plain hgd fun K hK => ?_
  unfold Oper.wp execOp
  simp only [ho, resolve, invoke, builtin, Sem.run_bind, Sem.run_pure, Result.andThen_ok, List.map_toArray, List.map_cons, List.map_nil, hs, hx, hrun]
  exact hK _ _ h
def usedAt (es : List Ent) (i : Nat) : Nat := (es[i]?).elim 0 (·.used)
/-- The place of the one that was used longest ago, of the first j. -/
def oldTo (es : List Ent) : Nat → Nat
  | 0 => 0
  | j + 1 => if usedAt es j < usedAt es (oldTo es j) then j else oldTo es j
theorem oldTo_lt (es : List Ent) : ∀ j, 0 < j → oldTo es j < j
  | 0, h => by omega
  | 1, _ => by unfold oldTo; split <;> simp [oldTo]
  | j + 2, _ => by
    have := oldTo_lt es (j + 1) (by omega)
    unfold oldTo
    split <;> omega
def HSt.alloc (s : HSt) (v : Nat) : HSt := { s with m := s.m.grown v }
def HSt.push (s : HSt) (e : Ent) : HSt := { s with es := s.es ++ [e] }
section
variable {p : HPar} {w0 w w' : World} {Q Q0 U T T' : Nat → Prop} {s s' : HSt} {V V' : Value}
/-- An entry comes. -/
theorem YS.app (h : YS p w0 Q0 s T V w) (hl : s.es.length ≤ 4096) (e : Ent) :
    ∃ A c w2, (∀ ty, (Builtin.append_ #[entsT, entsT] ty #[V, .slice (some ⟨w.heap.size, 0, none⟩) 1 1]).run Try.prog (w.alloc (.cells #[.string e.key, .int .u64 (addr e.n 0), .int .i64 e.used] entT)) = .ok (.slice A (s.es.length + 1) c) w2) ∧
      Blk w2 p.y rT (rowC p s V) ∧ YS p w0 Q0 (s.push e) T (.slice A (s.es.length + 1) c) (w2.setCell ⟨p.y, 5, none⟩ (.slice A (s.es.length + 1) c)) := by
  have ka : Keeps (fun _ => False) w (w.alloc (.cells #[.string e.key, .int .u64 (addr e.n 0), .int .i64 e.used] entT)) := (Keeps.refl _ w).alloc _
  have h1 := h.quiet ka
  have hb := Blk.new w entT #[.string e.key, .int .u64 (addr e.n 0), .int .i64 e.used]
  obtain ⟨V', w2, r, o, g, b⟩ := ents_append (M := [e]) (A := some ⟨w.heap.size, 0, none⟩) (c := 1) h1.ents (fun i u hi => ⟨w.heap.size, 0, rfl, by
    rw [Nat.zero_add]
    refine (hb.cell i).trans ?_
    have : (#[Value.string e.key, .int .u64 (addr e.n 0), .int .i64 e.used] : Array Value)[i]? = (entC e)[i]? := by rw [← Array.getElem?_toList]; rfl
    rw [this]
    simpa [entsC] using hi⟩) (fun h => by cases h) (fun a h => by cases h; exact ⟨_, _, rfl⟩) (by simp; omega)
  have hl1 : (s.es ++ [e]).length = s.es.length + 1 := by simp
  obtain ⟨A, c, rfl⟩ := ents_shape o
  rw [hl1] at r b
  have k2 : Keeps (ownY p V) (w.alloc (.cells #[.string e.key, .int .u64 (addr e.n 0), .int .i64 e.used] entT)) w2 := Keeps.grown (Keeps.refl _ _) g (fun k ek => .inl (.inr ek))
  have hyV : ¬ V.ownBlock = some p.y := fun e => (h1.own _ e).2.2 rfl
  have m2 : Blk w2 p.y rT (rowC p s V) := by
    have k3 : Keeps (fun b => V.ownBlock = some b) (w.alloc (.cells #[.string e.key, .int .u64 (addr e.n 0), .int .i64 e.used] entT)) w2 := Keeps.grown (Keeps.refl _ _) g (fun k ek => .inl ek)
    exact h1.map.keeps k3 hyV
  have own' : ∀ g', (Value.slice A (s.es.length + 1) c).ownBlock = some g' → V.ownBlock = some g' ∨ w.heap.size ≤ g' := fun g' hg' => by
    rcases b with eb | eb
    · exact .inl (eb ▸ hg')
    · rw [eb] at hg'
      cases hg'
      exact .inr (by simp)
  have hny : ∀ g', (Value.slice A (s.es.length + 1) c).ownBlock = some g' → g' ≠ p.y := fun g' hg' e => by
    subst e
    rcases own' _ hg' with h3 | h3
    · exact hyV h3
    · have := h.map.lt; omega
  refine ⟨A, c, w2, r, m2, h.local_ (s' := s.push e) rfl ?_ (m2.set_ 5 _) ?_ own'⟩
  · exact (((ka.mono fun _ hf => hf.elim).trans (k2.mono fun b hb => .inl hb))).setCell (p := ⟨p.y, 5, none⟩) (.inl (.inl rfl)) _
  · have : Ents w2 (.slice A (s.es.length + 1) c) (s.es ++ [e]) := by
      have := o
      rw [hl1] at this
      exact this
    exact ents_keeps this ((Keeps.refl (fun b => b = p.y) w2).setCell (p := ⟨p.y, 5, none⟩) (.inl rfl) _) hny
theorem YS.upd_full (h : YS p w0 Q0 s T V w) (hl : s.es.length ≤ 4096) (hg : s.gone = false) (key value : ByteArray) (fl : Int) (hk : key.size = p.key) (hv : value.size = p.v) (h0 : 0 ≤ fl) (h2 : fl ≤ 2) (hf : findE s.es key = none) (hfl : fl ≠ 2) (hn : s.es.length = p.mx) (hk1 : p.k = 1) :
    Calls Try.prog 29 #[tp p.y, .string key, .string value, .int .i64 fl] w fun e w' => e = .returned (.int .i64 3) ∧ ∃ n, w' = w.drewN n := by
  obtain ⟨c1, c2, c3, c4, c7⟩ := h.uc key value fl
  rw [hg] at c7
  have e1 : ((key.size : Int) != (p.key : Int)) = false := by simp; omega
  have e2 : ((value.size : Int) != (p.v : Int)) = false := by simp; omega
  have e3 : decide (fl < 0) = false := decide_eq_false (by omega)
  have e4 : decide (2 < fl) = false := decide_eq_false (by omega)
  have e5 : (fl == 2) = false := by simpa using hfl
  have CF := Lib.hid (h.find hl key)
  rw [find_none hf] at CF
  obtain ⟨A, c, rfl⟩ := h.shape
  have c5 : w.cell? ⟨p.y, 5, none⟩ = some (.slice A s.es.length c) := h.map.cell 5
  have g1 : ((s.es.length : Int) == (p.mx : Int)) = true := by simp; omega
  rw [hk1] at c1
  clear h hl hf hk hv hg h0 h2 hn hk1 hfl
  go_enter Try.func29, Try.ntmps29
  go_upto_region 12 with (go_at_call 49; refine CF.out.mono ?_; rintro e w1 ⟨rfl, rfl⟩)
  go_quiet (fail)
  go_wp2_with fail
  go_ret
  exact ⟨rfl, _, rfl⟩
theorem YS.upd_mem1 (h : YS p w0 Q0 s T V w) (hl : s.es.length ≤ 4096) (hg : s.gone = false) (key value : ByteArray) (fl : Int) (hk : key.size = p.key) (hv : value.size = p.v) (h0 : 0 ≤ fl) (h2 : fl ≤ 2) (hf : findE s.es key = none) (hfl : fl ≠ 2) (hn : s.es.length ≠ p.mx) (hfail : s.m.fail = 1) (hv1 : 1 ≤ p.v) (hv2 : p.v ≤ 4096) :
    Calls Try.prog 29 #[tp p.y, .string key, .string value, .int .i64 fl] w fun e w' => e = .returned (.int .i64 2) ∧ ∃ T', YS p w0 Q0 { s with m := { s.m with fail := 0 } } T' V w' := by
  obtain ⟨c1, c2, c3, c4, c7⟩ := h.uc key value fl
  rw [hg] at c7
  have e1 : ((key.size : Int) != (p.key : Int)) = false := by simp; omega
  have e2 : ((value.size : Int) != (p.v : Int)) = false := by simp; omega
  have e3 : decide (fl < 0) = false := decide_eq_false (by omega)
  have e4 : decide (2 < fl) = false := decide_eq_false (by omega)
  have e5 : (fl == 2) = false := by simpa using hfl
  have CF := Lib.hid (h.find hl key)
  rw [find_none hf] at CF
  have CA := Lib.hid (fun w1 T1 V1 (h1 : YS p w0 Q0 s T1 V1 w1) => h1.call (x_alloc_no p.bx s.m hfail p.v hv1 (by omega)))
  obtain ⟨A, c, rfl⟩ := h.shape
  have c5 : w.cell? ⟨p.y, 5, none⟩ = some (.slice A s.es.length c) := h.map.cell 5
  have g1 : ((s.es.length : Int) == (p.mx : Int)) = false := by simp; omega
  have H := Lib.hid h
  clear h hl hf hk hv hg h0 h2 hfl hfail hv1 hv2
  go_enter Try.func29, Try.ntmps29
  go_upto_region 12 with (go_at_call 49; refine CF.out.mono ?_; rintro e w1 ⟨rfl, rfl⟩)
  go_quiet (fail)
  go_upto_region 14 with fail
  have HD : Hid (YS p w0 Q0 s T (.slice A s.es.length c) (w.drewN nq)) := H.out.drewN nq
  have S0 : Hid ((w.drewN nq).cell? ⟨p.y, 0, none⟩ = some (tp p.bx) ∧ (w.drewN nq).cell? ⟨p.y, 3, none⟩ = some (.int .i64 p.v)) := ⟨H.out.map.cell 0, H.out.map.cell 3⟩
  generalize w.drewN nq = w1 at *
  go_region_held3 (fun W => W.cell? ⟨p.y, 0, none⟩ = some (tp p.bx) ∧ W.cell? ⟨p.y, 3, none⟩ = some (.int .i64 p.v))
    (first | exact S0.out | exact S1.out)
    (first
      | (go_at_call 52; refine (CA.out _ _ _ HD.out.drew).mono ?_; rintro e' w2 ⟨rfl, T1, h1⟩; have H1 := Lib.hid h1; have S1 : Hid (w2.cell? ⟨p.y, 0, none⟩ = some (tp p.bx) ∧ w2.cell? ⟨p.y, 3, none⟩ = some (.int .i64 p.v)) := ⟨h1.map.cell 0, h1.map.cell 3⟩; clear h1))
  go_wp2_with fail
  go_ret
  exact ⟨rfl, _, H1.out⟩
theorem YS.upd_mem2 (h : YS p w0 Q0 s T V w) (hl : s.es.length ≤ 4096) (hg : s.gone = false) (key value : ByteArray) (fl : Int) (hk : key.size = p.key) (hv : value.size = p.v) (h0 : 0 ≤ fl) (h2 : fl ≤ 2) (hf : findE s.es key = none) (hfl : fl ≠ 2) (hn : s.es.length = p.mx) (hk1 : p.k ≠ 1) (hfail : s.m.fail = 1) (hv1 : 1 ≤ p.v) (hv2 : p.v ≤ 4096) :
    Calls Try.prog 29 #[tp p.y, .string key, .string value, .int .i64 fl] w fun e w' => e = .returned (.int .i64 2) ∧ ∃ T', YS p w0 Q0 { s with m := { s.m with fail := 0 } } T' V w' := by
  obtain ⟨c1, c2, c3, c4, c7⟩ := h.uc key value fl
  rw [hg] at c7
  have e1 : ((key.size : Int) != (p.key : Int)) = false := by simp; omega
  have e2 : ((value.size : Int) != (p.v : Int)) = false := by simp; omega
  have e3 : decide (fl < 0) = false := decide_eq_false (by omega)
  have e4 : decide (2 < fl) = false := decide_eq_false (by omega)
  have e5 : (fl == 2) = false := by simpa using hfl
  have CF := Lib.hid (h.find hl key)
  rw [find_none hf] at CF
  have CA := Lib.hid (fun w1 T1 V1 (h1 : YS p w0 Q0 s T1 V1 w1) => h1.call (x_alloc_no p.bx s.m hfail p.v hv1 (by omega)))
  obtain ⟨A, c, rfl⟩ := h.shape
  have c5 : w.cell? ⟨p.y, 5, none⟩ = some (.slice A s.es.length c) := h.map.cell 5
  have g1 : ((s.es.length : Int) == (p.mx : Int)) = true := by simp; omega
  have g2 : (p.k == 1) = false := by simpa using hk1
  have H := Lib.hid h
  clear h hl hf hk hv hg h0 h2 hfl hfail hv1 hv2
  go_enter Try.func29, Try.ntmps29
  go_upto_region 12 with (go_at_call 49; refine CF.out.mono ?_; rintro e w1 ⟨rfl, rfl⟩)
  go_quiet (fail)
  go_upto_region 14 with fail
  have HD : Hid (YS p w0 Q0 s T (.slice A s.es.length c) (w.drewN nq)) := H.out.drewN nq
  have S0 : Hid ((w.drewN nq).cell? ⟨p.y, 0, none⟩ = some (tp p.bx) ∧ (w.drewN nq).cell? ⟨p.y, 3, none⟩ = some (.int .i64 p.v)) := ⟨H.out.map.cell 0, H.out.map.cell 3⟩
  generalize w.drewN nq = w1 at *
  go_region_held3 (fun W => W.cell? ⟨p.y, 0, none⟩ = some (tp p.bx) ∧ W.cell? ⟨p.y, 3, none⟩ = some (.int .i64 p.v))
    (first | exact S0.out | exact S1.out)
    (first
      | (go_at_call 52; refine (CA.out _ _ _ HD.out.drew).mono ?_; rintro e' w2 ⟨rfl, T1, h1⟩; have H1 := Lib.hid h1; have S1 : Hid (w2.cell? ⟨p.y, 0, none⟩ = some (tp p.bx) ∧ w2.cell? ⟨p.y, 3, none⟩ = some (.int .i64 p.v)) := ⟨h1.map.cell 0, h1.map.cell 3⟩; clear h1))
  go_wp2_with fail
  go_ret
  exact ⟨rfl, _, H1.out⟩
end
end Go.Proofs.Ytmopflcaeecgcaa
namespace Go.Proofs.Ytmopflcaeecgcaa
open Go Go.RowKit Go.Maps
set_option linter.unusedVariables false
set_option linter.unusedSimpArgs false
set_option maxRecDepth 100000
/-- A new entry, with its region's bytes. -/
def HSt.fresh (s : HSt) (n : Nat) (key : ByteArray) (l : List UInt8) (v : Nat) : HSt :=
  { s with m := s.m.set n (some (3, setAt (List.replicate v 0) 0 l, false)), es := s.es ++ [⟨key, n, 0⟩] }
theorem grown_new (m : PS) (v : Nat) : (m.grown v).vs (m.made + 1) = some (3, List.replicate v 0, false) := by
  unfold PS.grown updv
  exact if_pos rfl
section
variable {p : HPar} {w0 w w' : World} {Q Q0 U T T' : Nat → Prop} {s s' : HSt} {V V' : Value}
set_option maxHeartbeats 2000000 in
theorem YS.upd_new (h : YS p w0 Q0 s T V w) (hl : s.es.length ≤ 4096) (hg : s.gone = false) (key value : ByteArray) (fl : Int) (hk : key.size = p.key) (hv : value.size = p.v) (h0 : 0 ≤ fl) (h2 : fl ≤ 2) (hf : findE s.es key = none) (hfl : fl ≠ 2) (hc : s.clock < 1000000) (hn : s.es.length ≠ p.mx) (hfail : s.m.fail ≠ 1) (hmade : s.m.made < 4095) (hv1 : 1 ≤ p.v) (hv2 : p.v ≤ 4096) (hl2 : s.es.length < 4096) (l : List UInt8) (hvl : value = bstr l) :
    Calls Try.prog 29 #[tp p.y, .string key, .string value, .int .i64 fl] w fun e w' => e = .returned (.int .i64 0) ∧ ∃ T' V', YS p w0 Q0 (((s.alloc p.v).fresh (s.m.made + 1) key l p.v).use s.es.length) T' V' w' := by
  obtain ⟨c1, c2, c3, c4, c7⟩ := h.uc key value fl
  rw [hg] at c7
  have e1 : ((key.size : Int) != (p.key : Int)) = false := by simp; omega
  have e2 : ((value.size : Int) != (p.v : Int)) = false := by simp; omega
  have e3 : decide (fl < 0) = false := decide_eq_false (by omega)
  have e4 : decide (2 < fl) = false := decide_eq_false (by omega)
  have e5 : (fl == 2) = false := by simpa using hfl
  have CF := Lib.hid (h.find hl key)
  rw [find_none hf] at CF
  subst hvl
  have hll : l.length = p.v := by rw [← bstr_size]; exact hv
  have CA := Lib.hid (fun w1 T1 V1 (h1 : YS p w0 Q0 s T1 V1 w1) => h1.call (x_alloc p.bx s.m hfail hmade p.v hv1 (by omega)))
  have CP := Lib.hid (fun w1 T1 V1 (h1 : YS p w0 Q0 (s.alloc p.v) T1 V1 w1) => h1.call (x_put p.bx (s.alloc p.v).m (s.m.made + 1) (by omega) _ (grown_new s.m p.v) l (by omega) (by rw [List.length_replicate]; omega)))
  obtain ⟨A, c, rfl⟩ := h.shape
  have c5 : w.cell? ⟨p.y, 5, none⟩ = some (.slice A s.es.length c) := h.map.cell 5
  have g1 : ((s.es.length : Int) == (p.mx : Int)) = false := by simp; omega
  have H := Lib.hid h
  clear h hl hf hk hv hg h0 h2 hfl hfail hv1 hv2 hll hn hmade
  go_enter Try.func29, Try.ntmps29
  go_upto_region 12 with (go_at_call 49; refine CF.out.mono ?_; rintro e w1 ⟨rfl, rfl⟩)
  go_quiet (fail)
  go_upto_region 14 with fail
  have HD : Hid (YS p w0 Q0 s T (.slice A s.es.length c) (w.drewN nq)) := H.out.drewN nq
  have S0 : Hid ((w.drewN nq).cell? ⟨p.y, 0, none⟩ = some (tp p.bx) ∧ (w.drewN nq).cell? ⟨p.y, 3, none⟩ = some (.int .i64 p.v)) := ⟨H.out.map.cell 0, H.out.map.cell 3⟩
  generalize w.drewN nq = w1 at *
  go_region_held3 (fun W => W.cell? ⟨p.y, 0, none⟩ = some (tp p.bx) ∧ W.cell? ⟨p.y, 3, none⟩ = some (.int .i64 p.v))
    (first | exact S0.out | exact S1.out)
    (first
      | (go_at_call 52; refine (CA.out _ _ _ HD.out.drew).mono ?_; rintro e' w2 ⟨rfl, T1, h1⟩; have H1 := Lib.hid h1; have S1 : Hid (w2.cell? ⟨p.y, 0, none⟩ = some (tp p.bx) ∧ w2.cell? ⟨p.y, 3, none⟩ = some (.int .i64 p.v)) := ⟨h1.map.cell 0, h1.map.cell 3⟩; clear h1))
  have x4 : w2.cell? ⟨p.y, 4, none⟩ = some (.int .i64 p.mx) := H1.out.map.cell 4
  have x5 : w2.cell? ⟨p.y, 5, none⟩ = some (.slice A s.es.length c) := H1.out.map.cell 5
  go_upto_region 17 with fail
  go_quiet (fail)
  have H3 : Hid (YS p w0 Q0 (s.alloc p.v) T1 (.slice A s.es.length c) (w2.drewN nq)) := H1.out.drewN nq
  generalize w2.drewN nq = w3 at *
  go_upto_region 25 with fail
  have y0 : w3.cell? ⟨p.y, 0, none⟩ = some (tp p.bx) := H3.out.map.cell 0
  go_upto_region 26 with (go_at_call 51; refine (CP.out _ _ _ H3.out).mono ?_; rintro e' w4 ⟨rfl, T4, h4⟩; have H4 := Lib.hid h4; clear h4)
  obtain ⟨A5, c5', w5, hr, m5, h6⟩ := H4.out.app (show s.es.length ≤ 4096 by omega) ⟨key, s.m.made + 1, 0⟩
  have R5 := Lib.hid hr
  have H6 : Hid (YS p w0 Q0 ((s.alloc p.v).fresh (s.m.made + 1) key l p.v) T4 (.slice A5 (s.es.length + 1) c5') (w5.setCell ⟨p.y, 5, none⟩ (.slice A5 (s.es.length + 1) c5'))) := h6
  have CU := Lib.hid (fun w1 (h1 : YS p w0 Q0 ((s.alloc p.v).fresh (s.m.made + 1) key l p.v) T4 (.slice A5 (s.es.length + 1) c5') w1) => h1.use s.es.length (by simp [HSt.fresh, HSt.alloc]) hc)
  have y5 : w4.cell? ⟨p.y, 5, none⟩ = some (.slice A s.es.length c) := H4.out.map.cell 5
  have y6 : w5.cell? ⟨p.y, 5, none⟩ = some (.slice A s.es.length c) := m5.cell 5
  have y7 : w5.frozen? ⟨p.y, 5, none⟩ = false := m5.frozen 5
  have y8 : IntKind.i64.wrap (((s.es.length + 1 : Nat) : Int) - 1) = (s.es.length : Int) := by rw [IntWalk.i64_in _ (by omega)]; omega
  have y9 : IntKind.i64.wrap (s.es.length : Int) = (s.es.length : Int) := IntWalk.i64_in _ (by omega)
  clear hr m5 h6
  go_upto_region 27 with (at_builtin; refine wpList_append_run' rfl _ _ entsT rfl (.slice A s.es.length c) (.slice (some ⟨w4.heap.size, 0, none⟩) 1 1) (.slice A5 (s.es.length + 1) c5') w5 rfl rfl R5.out ?_)
  have z5 : (w5.setCell ⟨p.y, 5, none⟩ (.slice A5 (s.es.length + 1) c5')).cell? ⟨p.y, 5, none⟩ = some (.slice A5 (s.es.length + 1) c5') := H6.out.map.cell 5
  generalize w5.setCell ⟨p.y, 5, none⟩ (.slice A5 (s.es.length + 1) c5') = w6 at *
  go_wp2_with (go_at_call 50; refine (CU.out _ H6.out).mono ?_; rintro e' w7 ⟨rfl, h7⟩; have H7 := Lib.hid h7; clear h7)
  go_ret
  exact ⟨rfl, _, _, H7.out⟩
end
end Go.Proofs.Ytmopflcaeecgcaa
namespace Go.Proofs.Ytmopflcaeecgcaa
open Go Go.RowKit Go.Maps
set_option linter.unusedVariables false
set_option linter.unusedSimpArgs false
set_option maxRecDepth 100000
section
variable {p : HPar} {w0 w w' : World} {Q Q0 U T T' : Nat → Prop} {s s' : HSt} {V V' : Value}
theorem used_get {es : List Ent} {i : Nat} {e : Ent} (h : es[i]? = some e) : usedAt es i = e.used := by unfold usedAt; rw [h]; rfl
set_option maxHeartbeats 4000000 in
theorem YS.upd_lru (h : YS p w0 Q0 s T V w) (hl : s.es.length ≤ 4096) (hg : s.gone = false) (key value : ByteArray) (fl : Int) (hk : key.size = p.key) (hv : value.size = p.v) (h0 : 0 ≤ fl) (h2 : fl ≤ 2) (hf : findE s.es key = none) (hfl : fl ≠ 2) (hc : s.clock < 1000000) (hn : s.es.length = p.mx) (hk1 : p.k ≠ 1) (hm1 : 1 ≤ p.mx) (hfail : s.m.fail ≠ 1) (hmade : s.m.made < 4095) (hv1 : 1 ≤ p.v) (hv2 : p.v ≤ 4096) (l : List UInt8) (hvl : value = bstr l)
    (eo : Ent) (heo : s.es[oldTo s.es s.es.length]? = some eo) (qo : RV) (hqo : (s.alloc p.v).m.vs eo.n = some qo) (hro : qo.2.2 = false) (hB : ((s.alloc p.v).cut (oldTo s.es s.es.length) eo qo).m.vs (s.m.made + 1) = some (3, List.replicate p.v 0, false)) :
    Calls Try.prog 29 #[tp p.y, .string key, .string value, .int .i64 fl] w fun e w' => e = .returned (.int .i64 0) ∧ ∃ T' V', YS p w0 Q0 ((((s.alloc p.v).cut (oldTo s.es s.es.length) eo qo).fresh (s.m.made + 1) key l p.v).use (s.es.length - 1)) T' V' w' := by
  obtain ⟨c1, c2, c3, c4, c7⟩ := h.uc key value fl
  rw [hg] at c7
  have e1 : ((key.size : Int) != (p.key : Int)) = false := by simp; omega
  have e2 : ((value.size : Int) != (p.v : Int)) = false := by simp; omega
  have e3 : decide (fl < 0) = false := decide_eq_false (by omega)
  have e4 : decide (2 < fl) = false := decide_eq_false (by omega)
  have e5 : (fl == 2) = false := by simpa using hfl
  have CF := Lib.hid (h.find hl key)
  rw [find_none hf] at CF
  subst hvl
  have hll : l.length = p.v := by rw [← bstr_size]; exact hv
  have CA := Lib.hid (fun w1 T1 V1 (h1 : YS p w0 Q0 s T1 V1 w1) => h1.call (x_alloc p.bx s.m hfail hmade p.v hv1 (by omega)))
  have CP := Lib.hid (fun w1 T1 V1 (h1 : YS p w0 Q0 ((s.alloc p.v).cut (oldTo s.es s.es.length) eo qo) T1 V1 w1) => h1.call (x_put p.bx ((s.alloc p.v).cut (oldTo s.es s.es.length) eo qo).m (s.m.made + 1) (by omega) _ hB l (by omega) (by rw [List.length_replicate]; omega)))
  have CR := Lib.hid (fun w1 T1 V1 (h1 : YS p w0 Q0 (s.alloc p.v) T1 V1 w1) => h1.remove (oldTo s.es s.es.length) hl eo heo qo hqo hro)
  obtain ⟨g, c, rfl, hh1, hh2⟩ := h.row (by intro e; rw [e] at hn; simp at hn; omega)
  have c5 : w.cell? ⟨p.y, 5, none⟩ = some (.slice (some ⟨g, 0, none⟩) s.es.length c) := h.map.cell 5
  have g1 : ((s.es.length : Int) == (p.mx : Int)) = true := by simp; omega
  have g2 : (p.k == 1) = false := by simpa using hk1
  have H := Lib.hid h
  have hn1 : 1 ≤ s.es.length := by omega
  have HEL : Hid ((s.es.eraseIdx (oldTo s.es s.es.length)).length = s.es.length - 1) := by
    have := oldTo_lt s.es s.es.length (by omega)
    unfold Hid
    rw [List.length_eraseIdx, if_pos this]
  clear h hf hk hv hg h0 h2 hfl hfail hv1 hv2 hll hn hmade hh1 hh2 hm1 hk1 hB heo hqo hro
  obtain ⟨A, hA⟩ : ∃ A : Option Addr, A = some ⟨g, 0, none⟩ := ⟨_, rfl⟩
  have HA := Lib.hid hA
  rw [← hA] at c5 H
  clear hA
  go_enter Try.func29, Try.ntmps29
  go_upto_region 12 with (go_at_call 49; refine CF.out.mono ?_; rintro e w1 ⟨rfl, rfl⟩)
  go_quiet (fail)
  go_upto_region 14 with fail
  have HD : Hid (YS p w0 Q0 s T (.slice A s.es.length c) (w.drewN nq)) := H.out.drewN nq
  have S0 : Hid ((w.drewN nq).cell? ⟨p.y, 0, none⟩ = some (tp p.bx) ∧ (w.drewN nq).cell? ⟨p.y, 3, none⟩ = some (.int .i64 p.v)) := ⟨H.out.map.cell 0, H.out.map.cell 3⟩
  generalize w.drewN nq = w1 at *
  go_region_held3 (fun W => W.cell? ⟨p.y, 0, none⟩ = some (tp p.bx) ∧ W.cell? ⟨p.y, 3, none⟩ = some (.int .i64 p.v))
    (first | exact S0.out | exact S1.out)
    (first
      | (go_at_call 52; refine (CA.out _ _ _ HD.out.drew).mono ?_; rintro e' w2 ⟨rfl, T1, h1⟩; have H1 := Lib.hid h1; have S1 : Hid (w2.cell? ⟨p.y, 0, none⟩ = some (tp p.bx) ∧ w2.cell? ⟨p.y, 3, none⟩ = some (.int .i64 p.v)) := ⟨h1.map.cell 0, h1.map.cell 3⟩; clear h1))
  have x4 : w2.cell? ⟨p.y, 4, none⟩ = some (.int .i64 p.mx) := H1.out.map.cell 4
  have x5 : w2.cell? ⟨p.y, 5, none⟩ = some (.slice A s.es.length c) := H1.out.map.cell 5
  go_upto_region 17 with fail
  go_quiet (fail)
  have H3 : Hid (YS p w0 Q0 (s.alloc p.v) T1 (.slice A s.es.length c) (w2.drewN nq)) := H1.out.drewN nq
  generalize w2.drewN nq = w3 at *
  go_wp2_with fail
  clear CF CA S0 S1 HD H1 c5 x4 x5 c1 c2 c3 c4 c7 H e1 e2 e3 e4 e5 g2
  go_loopw [12, 13] (fun o i wr => ∃ j : Nat, 1 ≤ j ∧ j ≤ s.es.length ∧ i = .int .i64 j ∧ o = .int .i64 (oldTo s.es j : Nat) ∧ YS p w0 Q0 (s.alloc p.v) T1 (.slice A s.es.length c) wr) (fun _ i _ => s.es.length - (intOf i).toNat)
  case atStart => exact ⟨1, Nat.le_refl _, hn1, rfl, by simp [oldTo], H3.out⟩
  case round =>
    clear H3
    obtain ⟨j, hj1, hj2, rfl, rfl, hJ⟩ := hrel
    have HJ := Lib.hid hJ; clear hJ
    by_cases hlt : j < s.es.length
    · have ho := oldTo_lt s.es j (by omega)
      obtain ⟨ej, hej⟩ : ∃ e, s.es[j]? = some e := ⟨_, List.getElem?_eq_getElem hlt⟩
      obtain ⟨ek, hek⟩ : ∃ e, s.es[oldTo s.es j]? = some e := ⟨_, List.getElem?_eq_getElem (by omega)⟩
      have hA := HA.out
      subst hA
      have dj := (ents_cells (es := s.es) HJ.out.ents hej).2.2
      have dk := (ents_cells (es := s.es) HJ.out.ents hek).2.2
      have x5 : wr.cell? ⟨p.y, 5, none⟩ = some (.slice (some ⟨g, 0, none⟩) s.es.length c) := HJ.out.map.cell 5
      have HO : Hid (oldTo s.es (j + 1) = if ej.used < ek.used then j else oldTo s.es j) := by
        unfold Hid
        rw [oldTo, used_get hej, used_get hek]
      have g3 : decide (j < s.es.length) = true := by simpa using hlt
      have i1 : (j : Int) < (s.es.length : Int) := by omega
      have i2 : (oldTo s.es j : Int) < (s.es.length : Int) := by omega
      have f3 : IntKind.i64.wrap ((j : Int) + 1) = (j : Int) + 1 := IntWalk.i64_in _ (by omega)
      clear hej hek ho
      generalize oldTo s.es j = o at *
      by_cases hu : ej.used < ek.used
      · have g4 : decide (ej.used < ek.used) = true := by simpa using hu
        rw [if_pos hu] at HO
        clear hu
        go_upto_region 22 with fail
        go_quiet (fail)
        go_wp2_with fail
        go_roundw
        case rel => exact ⟨j + 1, by omega, by omega, by go_num, by rw [HO.out], HJ.out.drewN _⟩
        case measure => simp [intOf]; omega
      · have g4 : decide (ej.used < ek.used) = false := by simpa using hu
        rw [if_neg hu] at HO
        clear hu
        go_upto_region 22 with fail
        go_quiet (fail)
        go_wp2_with fail
        go_roundw
        case rel => exact ⟨j + 1, by omega, by omega, by go_num, by rw [HO.out], HJ.out.drewN _⟩
        case measure => simp [intOf]; omega
    · obtain rfl : j = s.es.length := by omega
      have x5 : wr.cell? ⟨p.y, 5, none⟩ = some (.slice A s.es.length c) := HJ.out.map.cell 5
      have g3 : decide (s.es.length < s.es.length) = false := by simp
      go_upto_region 25 with (go_at_call 53; refine (CR.out _ _ _ HJ.out).mono ?_; rintro e' w8 ⟨rfl, T8, V8, h8⟩; have H8' := Lib.hid h8; clear h8)
      obtain ⟨A8, c8, hV8⟩ := H8'.out.shape
      obtain ⟨nb, hnb⟩ : ∃ nb, s.es.length - 1 = nb := ⟨_, rfl⟩
      have H8 : Hid (YS p w0 Q0 ((s.alloc p.v).cut (oldTo s.es s.es.length) eo qo) T8 (.slice A8 nb c8) w8) := by
        have h := H8'.out
        rw [hV8] at h
        have e : ((s.alloc p.v).cut (oldTo s.es s.es.length) eo qo).es.length = nb := HEL.out.trans hnb
        rw [e] at h
        exact h
      rw [hnb] at HEL
      have HNB := Lib.hid hnb
      have hnb2 : nb ≤ 4095 := by omega
      clear H8' hV8 V8 hnb x5 g3 HJ
      have y0 : w8.cell? ⟨p.y, 0, none⟩ = some (tp p.bx) := H8.out.map.cell 0
      go_upto_region 26 with (go_at_call 51; refine (CP.out _ _ _ H8.out).mono ?_; rintro e' w4 ⟨rfl, T4, h4⟩; have H4 := Lib.hid h4; clear h4)
      obtain ⟨A5, c5', w5, hr, m5, h6⟩ := H4.out.app (by show (s.es.eraseIdx _).length ≤ 4096; rw [HEL.out]; omega) ⟨key, s.m.made + 1, 0⟩
      have el : ((s.alloc p.v).cut (oldTo s.es s.es.length) eo qo).es.length = nb := HEL.out
      dsimp only at hr h6
      rw [el] at hr h6
      clear el
      have R5 := Lib.hid hr
      have H6 : Hid (YS p w0 Q0 (((s.alloc p.v).cut (oldTo s.es s.es.length) eo qo).fresh (s.m.made + 1) key l p.v) T4 (.slice A5 (nb + 1) c5') (w5.setCell ⟨p.y, 5, none⟩ (.slice A5 (nb + 1) c5'))) := h6
      have CU := Lib.hid (fun w1 (h1 : YS p w0 Q0 (((s.alloc p.v).cut (oldTo s.es s.es.length) eo qo).fresh (s.m.made + 1) key l p.v) T4 (.slice A5 (nb + 1) c5') w1) => h1.use nb (by show nb < (s.es.eraseIdx _ ++ [_]).length; rw [List.length_append, HEL.out]; simp) hc)
      have y5 : w4.cell? ⟨p.y, 5, none⟩ = some (.slice A8 nb c8) := H4.out.map.cell 5
      have y6 : w5.cell? ⟨p.y, 5, none⟩ = some (.slice A8 nb c8) := m5.cell 5
      have y7 : w5.frozen? ⟨p.y, 5, none⟩ = false := m5.frozen 5
      have y8 : IntKind.i64.wrap (((nb + 1 : Nat) : Int) - 1) = (nb : Int) := by rw [IntWalk.i64_in _ (by omega)]; omega
      have y9 : IntKind.i64.wrap (nb : Int) = (nb : Int) := IntWalk.i64_in _ (by omega)
      clear hr m5 h6
      go_upto_region 27 with (at_builtin; refine wpList_append_run' rfl _ _ entsT rfl (.slice A8 nb c8) (.slice (some ⟨w4.heap.size, 0, none⟩) 1 1) (.slice A5 (nb + 1) c5') w5 rfl rfl R5.out ?_)
      have z5 : (w5.setCell ⟨p.y, 5, none⟩ (.slice A5 (nb + 1) c5')).cell? ⟨p.y, 5, none⟩ = some (.slice A5 (nb + 1) c5') := H6.out.map.cell 5
      generalize w5.setCell ⟨p.y, 5, none⟩ (.slice A5 (nb + 1) c5') = w6 at *
      go_wp2_with (go_at_call 50; refine (CU.out _ H6.out).mono ?_; rintro e' w7 ⟨rfl, h7⟩; have H7 := Lib.hid h7; clear h7)
      go_ret
      rw [HNB.out]
      exact ⟨rfl, _, _, H7.out⟩
end
end Go.Proofs.Ytmopflcaeecgcaa
