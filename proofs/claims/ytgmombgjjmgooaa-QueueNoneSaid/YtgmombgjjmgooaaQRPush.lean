/-
  The reference's queue: Push.
-/
import Derived.Test.YtgmombgjjmgooaaQRef
namespace Go.Proofs.Ytgmombgjjmgooaa
open Go Go.RowKit Go.Maps
set_option linter.unusedVariables false
set_option linter.unusedSimpArgs false
set_option maxRecDepth 100000
theorem wpList_append_run {P : Program} {ops : Array Oper} {rest : List Oper} {o : Oper} {a : Act} {w : World} {Q : Exit → Act → World → Prop} (hgd : o.guard = none) (s x : Operand) (t : TypeId)
    (ho : o.op = .call { callee := .builtin .append, args := #[s, x], argTypes := #[t, t] }) (v xv v' : Value) (w' : World) (hs : a.eval s = v) (hx : a.eval x = xv) (hrun : ∀ ty, (Builtin.append_ #[t, t] ty #[v, xv]).run P w = .ok v' w')
    (h : wpList P ops Q rest (a.put o.dst v') w') : wpList P ops Q (o :: rest) a w := by
  refine wpList_plain hgd fun K hK => ?_
  unfold Oper.wp execOp
  simp only [ho, resolve, invoke, builtin, Sem.run_bind, Sem.run_pure, Result.andThen_ok, List.map_toArray, List.map_cons, List.map_nil, hs, hx, hrun]
  exact hK _ _ h
theorem strs_shape {w : World} {base : Nat} {V : Value} {L : List ByteArray} (h : Strs w base V L) : ∃ A c, V = .slice A L.length c := by
  rcases strs_form h with ⟨rfl, rfl⟩ | ⟨g, c, rfl, _⟩
  · exact ⟨none, 0, rfl⟩
  · exact ⟨_, c, rfl⟩
/-- A map of the reference between two of a call's statements: its texts lie behind A. -/
structure Half (w : World) (y : Nat) (k : Int) (v mx : Nat) (A : Option Addr) (c : Nat) (M : List ByteArray) : Prop where
  map : Blk w y refT (refC k v mx (.slice A M.length c))
  strs : StrsAt w A M
  nil : A = none → M = [] ∧ c = 0
  spot : ∀ a, A = some a → ∃ b o, a = ⟨b, o, none⟩
theorem RQ.half {w : World} {base y v mx : Nat} {k : Int} {L : List ByteArray} (h : RQ w base y k v mx L) : ∃ A c, Half w y k v mx A c L := by
  obtain ⟨⟨V, h1, h2⟩, _⟩ := h
  rcases strs_form h2 with ⟨rfl, rfl⟩ | ⟨g, c, rfl, hb, hl, hc, hg, hs⟩
  · exact ⟨none, 0, h1, fun i s hi => by simp at hi, fun _ => ⟨rfl, rfl⟩, fun a h => by cases h⟩
  · exact ⟨_, c, h1, fun i s hi => ⟨g, 0, rfl, hg, by rw [Nat.zero_add]; exact hs i s hi⟩, (fun h => by cases h), (fun a h => by cases h; exact ⟨g, 0, rfl⟩)⟩
/-- The two appends of Push, in any world that makes no difference. -/
theorem push_runs {w : World} {y v mx c : Nat} {k : Int} {A : Option Addr} {M : List ByteArray} (h : Half w y k v mx A c M) (hm : M.length ≤ 4096) (s : ByteArray) :
    ∃ A1 c1 w2 A2 c2 w4, (∀ ty, (Builtin.append_ #[strsT, strsT] ty #[.slice none 0 0, .slice A M.length c]).run Try.prog w = .ok (.slice A1 M.length c1) w2) ∧
      (∀ ty, (Builtin.append_ #[strsT, strsT] ty #[.slice A1 M.length c1, .slice (some ⟨w2.heap.size, 0, none⟩) 1 1]).run Try.prog (w2.alloc (.cells #[.string s] strT)) = .ok (.slice A2 (M.length + 1) c2) w4) ∧
      Strs w4 w.heap.size (.slice A2 (M.length + 1) c2) (M ++ [s]) ∧ Below w.heap.size w w2 ∧ Below w.heap.size w w4 := by
  obtain ⟨V1, w2, r1, o1, b1⟩ := append_strs (N := []) (V := .slice none 0 0) (Below.refl _ w) (World.ownsRow_nil _ _ _ _) h.strs h.nil h.spot (by simp only [List.length_nil]; omega)
  rw [List.nil_append] at o1
  have hb : Below w.heap.size w (w2.alloc (.cells #[.string s] strT)) := b1.alloc b1.size _
  obtain ⟨V2, w4, r2, o2, b2⟩ := append_strs (M := [s]) (A := some ⟨w2.heap.size, 0, none⟩) (c := 1) hb (ownsRow_keeps o1 (Keeps.alloc (Keeps.refl (fun _ => False) w2) (.cells #[.string s] strT)) (fun _ h => h.elim)) (fun i u hi => by
    obtain ⟨rfl, rfl⟩ : i = 0 ∧ u = s := by
      cases i with
      | zero => simp at hi; exact ⟨rfl, hi.symm⟩
      | succ i => simp at hi
    exact ⟨w2.heap.size, 0, rfl, by simp, (Blk.new w2 strT #[.string u]).cell 0⟩) (fun h => by cases h) (fun a h => by cases h; exact ⟨_, _, rfl⟩) (by simp only [List.length_cons, List.length_nil]; omega)
  obtain ⟨A1, c1, rfl⟩ := strs_shape o1
  obtain ⟨A2, c2, rfl⟩ := strs_shape o2
  have hl : (M ++ [s]).length = M.length + 1 := by simp
  rw [hl] at r2 o2
  exact ⟨A1, c1, w2, A2, c2, w4, r1, r2, o2, b1, b2⟩
section
variable {w : World} {base y v mx : Nat} {k : Int} {L : List ByteArray}
theorem xpush_len (h : RQ w base y k v mx L) (s : ByteArray) (hs : s.size ≠ v) (fl : Int) : Calls Try.prog 10 #[rp y, .string s, .int .i64 fl] w fun e w' => e = .returned (.int .i64 1) ∧ w = w' := by
  obtain ⟨⟨V, h1, _⟩, _⟩ := h
  have c2 : w.cell? ⟨y, 2, none⟩ = some (.int .i64 v) := h1.cell 2
  have e1 : ((s.size : Int) != (v : Int)) = true := by simp; omega
  clear h1 hs
  go_enter Try.func10, Try.ntmps10
  go_wp2_with fail
  go_ret
  exact ⟨rfl, rfl⟩
theorem xpush_flag (h : RQ w base y k v mx L) (s : ByteArray) (hs : s.size = v) (fl : Int) (h0 : fl ≠ 0) (h2 : fl ≠ 2) : Calls Try.prog 10 #[rp y, .string s, .int .i64 fl] w fun e w' => e = .returned (.int .i64 1) ∧ w = w' := by
  obtain ⟨⟨V, h1, _⟩, _⟩ := h
  have c2 : w.cell? ⟨y, 2, none⟩ = some (.int .i64 v) := h1.cell 2
  have e1 : ((s.size : Int) != (v : Int)) = false := by simp; omega
  have e2 : (fl != 0) = true := by simpa using h0
  have e3 : (fl != 2) = true := by simpa using h2
  clear h1 hs h0 h2
  go_enter Try.func10, Try.ntmps10
  go_wp2_with fail
  go_ret
  exact ⟨rfl, rfl⟩
theorem xpush_full {A : Option Addr} {c : Nat} (h : Half w y k v mx A c L) (s : ByteArray) (hs : s.size = v) (hl : L.length = mx) : Calls Try.prog 10 #[rp y, .string s, .int .i64 0] w fun e w' => e = .returned (.int .i64 3) ∧ Below w.heap.size w w' := by
  have c2 : w.cell? ⟨y, 2, none⟩ = some (.int .i64 v) := h.map.cell 2
  have c3 : w.cell? ⟨y, 3, none⟩ = some (.int .i64 mx) := h.map.cell 3
  have c4 : w.cell? ⟨y, 4, none⟩ = some (.slice A L.length c) := h.map.cell 4
  have e1 : ((s.size : Int) != (v : Int)) = false := by simp; omega
  have e2 : ((L.length : Int) == (mx : Int)) = true := by simp; omega
  clear h hs hl
  go_enter Try.func10, Try.ntmps10
  go_upto_region 3 with fail
  go_quiet (fail)
  go_wp2_with fail
  go_ret
  exact ⟨rfl, below_drewN _ _⟩
theorem Half.below {w' : World} {A : Option Addr} {c : Nat} (h : Half w y k v mx A c L) (hb : Below w.heap.size w w') : Half w' y k v mx A c L := ⟨blk_below h.map hb, h.strs.below hb, h.nil, h.spot⟩
set_option maxHeartbeats 1000000 in
theorem xpush_room {A : Option Addr} {c : Nat} (h : Half w y k v mx A c L) (s : ByteArray) (hs : s.size = v) (fl : Int) (hf : fl = 0 ∨ fl = 2) (hl : L.length < mx) (hm : mx ≤ 4096) :
    Calls Try.prog 10 #[rp y, .string s, .int .i64 fl] w fun e w' => e = .returned (.int .i64 0) ∧ (∃ V, Blk w' y refT (refC k v mx V) ∧ Strs w' w.heap.size V (L ++ [s])) ∧ Keeps (isY y) w w' := by
  have c2 : w.cell? ⟨y, 2, none⟩ = some (.int .i64 v) := h.map.cell 2
  have c3 : w.cell? ⟨y, 3, none⟩ = some (.int .i64 mx) := h.map.cell 3
  have c4 : w.cell? ⟨y, 4, none⟩ = some (.slice A L.length c) := h.map.cell 4
  have e1 : ((s.size : Int) != (v : Int)) = false := by simp; omega
  have e2 : ((L.length : Int) == (mx : Int)) = false := by simp; omega
  have hf' : ((fl != 0) = false) ∨ ((fl != 0) = true ∧ (fl != 2) = false) := by rcases hf with rfl | rfl <;> simp
  have HR := Lib.hid (fun nq => push_runs (h.below (below_drewN w nq)) (by omega) s)
  have H := Lib.hid h.map
  clear h hs hf hl hm
  generalize L.length = n at *
  rcases hf' with e3 | ⟨e3, e4⟩
  · go_enter Try.func10, Try.ntmps10
    go_upto_region 3 with fail
    go_quiet (fail)
    have HB1 : Hid (Blk (w.drewN nq) y refT (refC k v mx (.slice A n c))) := blk_below H.out (below_drewN w nq)
    obtain ⟨A1, c1, w2, A2, c2', w4, hr1, hr2, ho, hb2, hb4⟩ := HR.out nq
    have R1 := Lib.hid hr1; have R2 := Lib.hid hr2; have HO := Lib.hid ho
    have B2 := Lib.hid hb2; have B4 := Lib.hid hb4
    have HB4 := Lib.hid (blk_below HB1.out hb4)
    clear hr1 hr2 ho hb2 hb4 HR
    have BD : Hid (Below w.heap.size w (w.drewN nq)) := below_drewN w nq
    generalize w.drewN nq = w1 at *
    have d4 : w1.cell? ⟨y, 4, none⟩ = some (.slice A n c) := HB1.out.cell 4
    have d5 : w4.cell? ⟨y, 4, none⟩ = some (.slice A n c) := HB4.out.cell 4
    have d6 : w4.frozen? ⟨y, 4, none⟩ = false := HB4.out.frozen 4
    go_wp2_with (first
      | (at_builtin; refine wpList_append_run rfl _ _ strsT rfl (.slice none 0 0) (.slice A n c) (.slice A1 n c1) w2 rfl rfl R1.out ?_)
      | (at_builtin; refine wpList_append_run rfl _ _ strsT rfl (.slice A1 n c1) (.slice (some ⟨w2.heap.size, 0, none⟩) 1 1) (.slice A2 (n + 1) c2') w4 rfl rfl R2.out ?_))
    go_ret
    have hy := H.out.lt
    have hk : Keeps (isY y) w4 (w4.setCell ⟨y, 4, none⟩ (.slice A2 (n + 1) c2')) := (Keeps.refl (isY y) w4).setCell (p := ⟨y, 4, none⟩) (.inl (show isY y y from rfl)) _
    exact ⟨rfl, ⟨_, HB4.out.set_ 4 _, ownsRow_keeps (ownsRow_base HO.out BD.out.size) hk (fun b hb => by have e : b = y := hb; omega)⟩, ((keeps_grow (below_then BD.out B4.out)).mono fun _ h => h.elim).trans (hk.mono fun _ h => .inl h)⟩
  · go_enter Try.func10, Try.ntmps10
    go_upto_region 3 with fail
    go_quiet (fail)
    have HB1 : Hid (Blk (w.drewN nq) y refT (refC k v mx (.slice A n c))) := blk_below H.out (below_drewN w nq)
    obtain ⟨A1, c1, w2, A2, c2', w4, hr1, hr2, ho, hb2, hb4⟩ := HR.out nq
    have R1 := Lib.hid hr1; have R2 := Lib.hid hr2; have HO := Lib.hid ho
    have B2 := Lib.hid hb2; have B4 := Lib.hid hb4
    have HB4 := Lib.hid (blk_below HB1.out hb4)
    clear hr1 hr2 ho hb2 hb4 HR
    have BD : Hid (Below w.heap.size w (w.drewN nq)) := below_drewN w nq
    generalize w.drewN nq = w1 at *
    have d4 : w1.cell? ⟨y, 4, none⟩ = some (.slice A n c) := HB1.out.cell 4
    have d5 : w4.cell? ⟨y, 4, none⟩ = some (.slice A n c) := HB4.out.cell 4
    have d6 : w4.frozen? ⟨y, 4, none⟩ = false := HB4.out.frozen 4
    go_wp2_with (first
      | (at_builtin; refine wpList_append_run rfl _ _ strsT rfl (.slice none 0 0) (.slice A n c) (.slice A1 n c1) w2 rfl rfl R1.out ?_)
      | (at_builtin; refine wpList_append_run rfl _ _ strsT rfl (.slice A1 n c1) (.slice (some ⟨w2.heap.size, 0, none⟩) 1 1) (.slice A2 (n + 1) c2') w4 rfl rfl R2.out ?_))
    go_ret
    have hy := H.out.lt
    have hk : Keeps (isY y) w4 (w4.setCell ⟨y, 4, none⟩ (.slice A2 (n + 1) c2')) := (Keeps.refl (isY y) w4).setCell (p := ⟨y, 4, none⟩) (.inl (show isY y y from rfl)) _
    exact ⟨rfl, ⟨_, HB4.out.set_ 4 _, ownsRow_keeps (ownsRow_base HO.out BD.out.size) hk (fun b hb => by have e : b = y := hb; omega)⟩, ((keeps_grow (below_then BD.out B4.out)).mono fun _ h => h.elim).trans (hk.mono fun _ h => .inl h)⟩
theorem xpush_over {A : Option Addr} {c : Nat} {a : ByteArray} {A' : Option Addr} {c' : Nat} (h : Half w y k v mx A c (a :: L)) (s : ByteArray) (hs : s.size = v) (hl : L.length + 1 = mx) (hm : mx ≤ 4096)
    (hw : ∀ w', Blk w' y refT (refC k v mx (.slice A' L.length c')) → Keeps (isY y) w w' → Half w' y k v mx A' c' L)
    (hsl : ∀ w', (Instr.slice strsT (.slice A (L.length + 1) c) (some (.int .i64 1)) none none).run Try.prog w' = .ok (.slice A' L.length c') w') :
    Calls Try.prog 10 #[rp y, .string s, .int .i64 2] w fun e w' => e = .returned (.int .i64 0) ∧ (∃ V, Blk w' y refT (refC k v mx V) ∧ Strs w' w.heap.size V (L ++ [s])) ∧ Keeps (isY y) w w' := by
  have c2 : w.cell? ⟨y, 2, none⟩ = some (.int .i64 v) := h.map.cell 2
  have c3 : w.cell? ⟨y, 3, none⟩ = some (.int .i64 mx) := h.map.cell 3
  have c4 : w.cell? ⟨y, 4, none⟩ = some (.slice A (L.length + 1) c) := h.map.cell 4
  have f4 : w.frozen? ⟨y, 4, none⟩ = false := h.map.frozen 4
  have e1 : ((s.size : Int) != (v : Int)) = false := by simp; omega
  have e2 : (((L.length + 1 : Nat) : Int) == (mx : Int)) = true := by simp; omega
  have HR := Lib.hid (fun w' (h : Half w' y k v mx A' c' L) => push_runs h (by omega) s)
  have H0 := Lib.hid h.map
  have HW := Lib.hid hw
  clear h hs hl hm hw
  obtain ⟨n1, hn1⟩ : ∃ n1, L.length + 1 = n1 := ⟨_, rfl⟩
  rw [hn1] at c4 e2 hsl
  have H : Hid (Blk w y refT (refC k v mx (.slice A n1 c))) := by rw [← hn1]; exact H0
  clear hn1 H0
  generalize L.length = n at *
  go_enter Try.func10, Try.ntmps10
  go_upto_region 3 with fail
  go_quiet (fail)
  go_upto_region 7 with fail
  have HB0 : Hid (Blk (w.drewN nq) y refT (refC k v mx (.slice A n1 c))) := H.out.drewN nq
  have K1 : Hid (Keeps (isY y) w ((w.drewN nq).setCell ⟨y, 4, none⟩ (.slice A' n c'))) := ((Keeps.refl (isY y) w).drewN nq).setCell (p := ⟨y, 4, none⟩) (.inl (show isY y y from rfl)) _
  have HB1 : Hid (Blk ((w.drewN nq).setCell ⟨y, 4, none⟩ (.slice A' n c')) y refT (refC k v mx (.slice A' n c'))) := HB0.out.set_ 4 _
  obtain ⟨A1, c1, w2, A2, c2', w4, hr1, hr2, ho, hb2, hb4⟩ := HR.out _ (HW.out _ HB1.out K1.out)
  have R1 := Lib.hid hr1; have R2 := Lib.hid hr2; have HO := Lib.hid ho
  have B2 := Lib.hid hb2; have B4 := Lib.hid hb4
  have HB4 := Lib.hid (blk_below HB1.out hb4)
  clear hr1 hr2 ho hb2 hb4 HR HW HB0 f4 hsl
  generalize (w.drewN nq).setCell ⟨y, 4, none⟩ (.slice A' n c') = w1 at *
  have d4 : w1.cell? ⟨y, 4, none⟩ = some (.slice A' n c') := HB1.out.cell 4
  have d5 : w4.cell? ⟨y, 4, none⟩ = some (.slice A' n c') := HB4.out.cell 4
  have d6 : w4.frozen? ⟨y, 4, none⟩ = false := HB4.out.frozen 4
  go_wp2_with (first
    | (at_builtin; refine wpList_append_run rfl _ _ strsT rfl (.slice none 0 0) (.slice A' n c') (.slice A1 n c1) w2 rfl rfl R1.out ?_)
    | (at_builtin; refine wpList_append_run rfl _ _ strsT rfl (.slice A1 n c1) (.slice (some ⟨w2.heap.size, 0, none⟩) 1 1) (.slice A2 (n + 1) c2') w4 rfl rfl R2.out ?_))
  go_ret
  have hy := H.out.lt
  have hk : Keeps (isY y) w4 (w4.setCell ⟨y, 4, none⟩ (.slice A2 (n + 1) c2')) := (Keeps.refl (isY y) w4).setCell (p := ⟨y, 4, none⟩) (.inl (show isY y y from rfl)) _
  exact ⟨rfl, ⟨_, HB4.out.set_ 4 _, ownsRow_keeps (ownsRow_base HO.out K1.out.size) hk (fun b hb => by have e : b = y := hb; omega)⟩, (K1.out.trans ((keeps_grow B4.out).mono fun _ h => h.elim)).trans (hk.mono fun _ h => .inl h)⟩
end
end Go.Proofs.Ytgmombgjjmgooaa
