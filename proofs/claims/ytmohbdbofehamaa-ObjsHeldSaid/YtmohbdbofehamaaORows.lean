/-
  The reference of layer 14: rows of objects and of pins, of the table's own.
-/
import Derived.Test.YtmohbdbofehamaaOPin2
import Derived.Maps.AppendAt
import Derived.Laws.OwnMore
import Derived.OwnWalk
namespace Go.Proofs.Ytmohbdbofehamaa
open Go Go.RowKit Go.Maps OSt
set_option linter.unusedVariables false
set_option linter.unusedSimpArgs false
set_option maxRecDepth 100000
theorem wpList_append_run {P : Program} {ops : Array Oper} {rest : List Oper} {o : Oper} {a : Act} {w : World} {Q : Exit → Act → World → Prop} (hgd : o.guard = none) (s x : Operand) (t : TypeId)
    (ho : o.op = .call { callee := .builtin .append, args := #[s, x], argTypes := #[t, t] }) (v xv v' : Value) (w' : World) (hs : a.eval s = v) (hx : a.eval x = xv) (hrun : ∀ ty, (Builtin.append_ #[t, t] ty #[v, xv]).run P w = .ok v' w')
    (h : wpList P ops Q rest (a.put o.dst v') w') : wpList P ops Q (o :: rest) a w := by
  refine wpList_plain hgd fun K hK => ?_
  unfold Oper.wp execOp
  simp only [ho, resolve, invoke, builtin, Sem.run_bind, Sem.run_pure, Result.andThen_ok, List.map_toArray, List.map_cons, List.map_nil, hs, hx, hrun]
  exact hK _ _ h
theorem ownsRow_block {w w' : World} {base : Nat} {e : TypeId} {size : Nat} {v : Value} {n : Nat} {xs : List Value} (h : w.ownsRow base e size v n xs) (hb : ∀ g, v.ownBlock = some g → w'.heap[g]? = w.heap[g]?) : w'.ownsRow base e size v n xs := by
  refine ⟨h.1, ?_⟩
  rcases h.2 with hn | ⟨g, cap, cur, rfl, h1, h2, rest⟩
  · exact .inl hn
  · exact .inr ⟨g, cap, cur, rfl, h1, (hb g rfl).trans h2, rest⟩
/-! ### yo -/
def yoC (e : Ob) : List Value := [.int .i64 e.kind, .int .i64 (e.holds : Int), .bool e.there]
def yosC (es : List (Ob)) : List Value := es.flatMap yoC
theorem yosC_length (es : List (Ob)) : (yosC es).length = es.length * 3 := by
  induction es with
  | nil => rfl
  | cons e es ih => rw [yosC, List.flatMap_cons, List.length_append, ← yosC, ih]; simp [yoC]; omega
theorem yosC_get : ∀ {es : List (Ob)} {i : Nat} {e : Ob} (j : Nat), es[i]? = some e → j < 3 → (yosC es)[i * 3 + j]? = (yoC e)[j]?
  | [], i, e, j, h, _ => by simp at h
  | e' :: es, 0, e, j, h, hj => by
    simp at h
    subst h
    rw [yosC, List.flatMap_cons, List.getElem?_append_left (by simp [yoC]; omega), Nat.zero_mul, Nat.zero_add]
  | e' :: es, i + 1, e, j, h, hj => by
    rw [yosC, List.flatMap_cons, List.getElem?_append_right (by simp [yoC]; omega), ← yosC, ← yosC_get (es := es) (i := i) (e := e) j (by simpa using h) hj]
    congr 1
    simp [yoC] <;> omega
theorem yosC_append (a b : List (Ob)) : yosC (a ++ b) = yosC a ++ yosC b := List.flatMap_append
theorem yosC_one (es : List (Ob)) (u : Value) (h : u ∈ yosC es) : u.oneCell' = true := by
  simp only [yosC, List.mem_flatMap, yoC, List.mem_cons, List.not_mem_nil, or_false] at h
  obtain ⟨e, _, rfl | rfl | rfl⟩ := h <;> rfl
theorem yosC_set : ∀ {es : List (Ob)} {i j : Nat} {e e' : Ob} {v : Value}, es[i]? = some e → j < 3 → yoC e' = (yoC e).set j v → yosC (es.set i e') = (yosC es).set (i * 3 + j) v
  | [], i, j, e, e', v, h, _, _ => by simp at h
  | a :: es, 0, j, e, e', v, h, hj, hc => by
    simp at h
    subst h
    rw [List.set_cons_zero, yosC, yosC, List.flatMap_cons, List.flatMap_cons, hc, List.set_append_left _ _ (by simp [yoC]; omega), Nat.zero_mul, Nat.zero_add]
  | a :: es, i + 1, j, e, e', v, h, hj, hc => by
    have ih := yosC_set (es := es) (i := i) (j := j) (e := e) (e' := e') (v := v) (by simpa using h) hj hc
    have e2 : ∀ l : List (Ob), yosC (a :: l) = yoC a ++ yosC l := fun l => by rw [yosC, List.flatMap_cons]; rfl
    rw [List.set_cons_succ, e2, e2, ih, List.set_append_right _ _ (by simp [yoC]; omega)]
    congr 2
    simp [yoC] <;> omega
abbrev yoT : TypeId := 72
abbrev yosT : TypeId := 26
abbrev yoR (w : World) (V : Value) (es : List (Ob)) : Prop := w.ownsRow 0 yoT 3 V es.length (yosC es)
theorem info_yo : (Try.prog.info? yoT).map (fun i => (i.zero, i.size, i.bytes)) = some (some (.agg #[.int .i64 0, .int .i64 0, .bool false]), 3, 24) := by kernel_rfl
theorem yoR_form {w : World} {V : Value} {es : List (Ob)} (h : yoR w V es) :
    (V = .slice none 0 0 ∧ es = []) ∨ ∃ g c cur, V = .slice (some ⟨g, 0, none⟩) es.length c ∧ es.length ≤ c ∧ c ≤ maxLen ∧ Blk w g yoT cur ∧ ∀ i u, (yosC es)[i]? = some u → w.cell? ⟨g, i, none⟩ = some u := by
  rcases h.2 with ⟨h1, h2⟩ | ⟨g, cap, cur, rfl, hb, hg, h1, h2, h3, h4⟩
  · exact .inl ⟨h1, List.length_eq_zero_iff.1 h2⟩
  · refine .inr ⟨g, cap, cur, rfl, h1, h2, hg, fun i u hi => ?_⟩
    have := h.cells (g := g) rfl i u hi
    rwa [show (⟨g, 0, none⟩ : Addr).add i = ⟨g, i, none⟩ by unfold Addr.add; split <;> simp_all] at this
theorem yoR_set {w : World} {g c i j : Nat} {es : List (Ob)} {e e' : Ob} {v : Value} (h : yoR w (.slice (some ⟨g, 0, none⟩) es.length c) es) (he : es[i]? = some e) (hj : j < 3) (hc : yoC e' = (yoC e).set j v) : yoR (w.setCell ⟨g, i * 3 + j, none⟩ v) (.slice (some ⟨g, 0, none⟩) es.length c) (es.set i e') := by
  rcases h.2 with ⟨h1, h2⟩ | ⟨g', cap, cur, e1, hb, hg, h1, h2, h3, h4⟩
  · cases h1
  · cases e1
    refine ⟨yosC_length _, .inr ⟨g, c, cur.setIfInBounds (i * 3 + j) v, by rw [List.length_set], Nat.zero_le _, Blk.set_ hg _ _, by rw [List.length_set]; exact h1, h2, by simpa using h3, ?_⟩⟩
    rw [List.length_set, yosC_set he hj hc, ← h4, Array.toList_setIfInBounds, List.take_set]
theorem yoR_keeps {S : Nat → Prop} {w w' : World} {V : Value} {es : List (Ob)} (h : yoR w V es) (hk : Keeps S w w') (hS : ∀ g, V.ownBlock = some g → ¬ S g) : yoR w' V es := by
  refine ⟨h.1, h.2.imp (fun h => h) ?_⟩
  rintro ⟨g, cap, cur, rfl, h1, h2, rest⟩
  exact ⟨g, cap, cur, rfl, h1, Blk.keeps h2 hk (hS g rfl), rest⟩
theorem yoR_append {w : World} {V : Value} {c : Nat} {N M : List (Ob)} {A : Option Addr} (ho : yoR w V N) (hY : ∀ i u, (yosC M)[i]? = some u → ∃ b o, A = some ⟨b, o, none⟩ ∧ w.cell? ⟨b, o + i, none⟩ = some u) (hA : A = none → M = [] ∧ c = 0) (hsp : ∀ a, A = some a → ∃ b o, a = ⟨b, o, none⟩) (hnm : N.length + M.length ≤ 1048576) :
    ∃ V' w', (∀ ty, (Builtin.append_ #[yosT, yosT] ty #[V, .slice A M.length c]).run Try.prog w = .ok V' w') ∧ yoR w' V' (N ++ M) ∧ w.grownBy w' V.ownBlock ∧ (V'.ownBlock = V.ownBlock ∨ V'.ownBlock = some w.heap.size) := by
  obtain ⟨i0, hi, hz0, hz1, hz2⟩ := info_parts info_yo
  rcases A with _ | ad
  · obtain ⟨rfl, rfl⟩ := hA rfl
    refine ⟨V, w, fun ty => run_append_owned_none w 0 _ _ _ i0 3 Try.underlying26 hi V _ _ ho, ?_, ⟨rfl, rfl, rfl, Nat.le_refl _, fun _ _ _ => rfl⟩, .inl rfl⟩
    rw [List.append_nil]
    exact ho
  · obtain ⟨b, o, rfl⟩ := hsp ad rfl
    obtain ⟨V', w', hr, h1, h2, _, h4⟩ := run_append_own_at (P := Try.prog) w 0 yosT yosT yoT i0 (.agg #[.int .i64 0, .int .i64 0, .bool false]) 3 24 Try.underlying26 hi hz0 hz1 hz2 rfl (by decide) V _ _ ho ⟨b, o, none⟩ M.length c (yosC M) (yosC_length M) (fun j u hj => by
      obtain ⟨b', o', e, hc⟩ := hY j u hj
      cases e
      rw [Go.WideShapes.add_plain]
      exact hc) (yosC_one M) (by unfold maxLen; omega) (by omega) (Nat.zero_le _)
    refine ⟨V', w', fun ty => by rw [← hr]; rfl, ?_, h2, h4⟩
    unfold yoR
    rw [yosC_append, List.length_append]
    exact h1
theorem yoR_shape {w : World} {V : Value} {es : List (Ob)} (h : yoR w V es) : ∃ A c, V = .slice A es.length c := by
  rcases yoR_form h with ⟨h1, h2⟩ | ⟨g, c, cur, rfl, _⟩
  · exact ⟨none, 0, by rw [h1, h2]; rfl⟩
  · exact ⟨_, c, rfl⟩
theorem yoR_lt {w : World} {V : Value} {es : List (Ob)} (h : yoR w V es) {g : Nat} (hg : V.ownBlock = some g) : g < w.heap.size := by
  rcases yoR_form h with ⟨rfl, _⟩ | ⟨g', c, cur, rfl, _, _, hb, _⟩
  · cases hg
  · cases hg; exact hb.lt
theorem yoR_ne {w : World} {V : Value} {es : List (Ob)} (h : yoR w V es) {g y : Nat} {t : TypeId} {cs : Array Value} (hg : V.ownBlock = some g) (hy : Blk w y t cs) (ht : t ≠ yoT) : g ≠ y := by
  rcases yoR_form h with ⟨rfl, _⟩ | ⟨g', c, cur, rfl, _, _, hb, _⟩
  · cases hg
  · cases hg; exact (hy.ne_ hb ht).symm
/-- The row's cells, at an entry. -/
theorem yoR_at {w : World} {g c i j : Nat} {es : List (Ob)} {e : Ob} {v : Value} (h : yoR w (.slice (some ⟨g, 0, none⟩) es.length c) es) (he : es[i]? = some e) (hj : j < 3) (hv : (yoC e)[j]? = some v) : w.cell? ⟨g, i * 3 + j, none⟩ = some v := by
  rcases yoR_form h with ⟨h1, _⟩ | ⟨g', c', cur, e1, _, _, _, hc⟩
  · cases h1
  · cases e1
    exact hc _ v ((yosC_get j he hj).trans hv)
theorem yoR_frozen {w : World} {g c i : Nat} {es : List (Ob)} {A : Nat} (h : yoR w (.slice (some ⟨g, 0, none⟩) A c) es) : w.frozen? ⟨g, i, none⟩ = false := by
  rcases yoR_form h with ⟨h1, _⟩ | ⟨g', c', cur, e1, _, _, hb, _⟩
  · cases h1
  · cases e1; exact hb.frozen _
theorem yoR_row {w : World} {V : Value} {es : List (Ob)} (h : yoR w V es) (h0 : es ≠ []) : ∃ g c, V = .slice (some ⟨g, 0, none⟩) es.length c ∧ es.length ≤ c ∧ c ≤ maxLen := by
  rcases yoR_form h with ⟨_, h1⟩ | ⟨g, c, cur, rfl, h1, h2, _⟩
  · exact absurd h1 h0
  · exact ⟨g, c, rfl, h1, h2⟩
/-- One entry comes, out of a row of its own. -/
theorem yoR_one {w : World} {V : Value} {N : List (Ob)} (e : Ob) (ho : yoR w V N) (hn : N.length ≤ 1000000) :
    ∃ V' w', (∀ ty, (Builtin.append_ #[yosT, yosT] ty #[V, .slice (some ⟨w.heap.size, 0, none⟩) 1 1]).run Try.prog (w.alloc (.cells (yoC e).toArray yoT)) = .ok V' w') ∧ yoR w' V' (N ++ [e]) ∧ Keeps (fun b => V.ownBlock = some b) w w' ∧ (∀ g, V'.ownBlock = some g → V.ownBlock = some g ∨ w.heap.size ≤ g) := by
  have hb := Blk.new w yoT (yoC e).toArray
  obtain ⟨V', w', h1, h2, h3, h4⟩ := yoR_append (M := [e]) (A := some ⟨w.heap.size, 0, none⟩) (c := 1) (yoR_keeps ho ((Keeps.refl (fun _ => False) w).alloc _) (fun _ _ hf => hf)) (fun i u hi => ⟨_, 0, rfl, by
    rw [Nat.zero_add, hb.cell, List.getElem?_toArray, ← hi]
    simp [yosC]⟩) (fun h => by cases h) (fun a h => by cases h; exact ⟨_, _, rfl⟩) (by simp; omega)
  refine ⟨V', w', h1, h2, ((Keeps.refl _ w).alloc _).grown h3 (fun b hb => .inl hb), fun g hg => ?_⟩
  rcases h4 with e1 | e1
  · exact .inl (e1 ▸ hg)
  · rw [e1] at hg; cases hg
    exact .inr (by simp)
/-! ### yp -/
def ypC (e : ByteArray × Nat) : List Value := [.string e.1, .int .i64 (e.2 : Int)]
def ypsC (es : List (ByteArray × Nat)) : List Value := es.flatMap ypC
theorem ypsC_length (es : List (ByteArray × Nat)) : (ypsC es).length = es.length * 2 := by
  induction es with
  | nil => rfl
  | cons e es ih => rw [ypsC, List.flatMap_cons, List.length_append, ← ypsC, ih]; simp [ypC]; omega
theorem ypsC_get : ∀ {es : List (ByteArray × Nat)} {i : Nat} {e : ByteArray × Nat} (j : Nat), es[i]? = some e → j < 2 → (ypsC es)[i * 2 + j]? = (ypC e)[j]?
  | [], i, e, j, h, _ => by simp at h
  | e' :: es, 0, e, j, h, hj => by
    simp at h
    subst h
    rw [ypsC, List.flatMap_cons, List.getElem?_append_left (by simp [ypC]; omega), Nat.zero_mul, Nat.zero_add]
  | e' :: es, i + 1, e, j, h, hj => by
    rw [ypsC, List.flatMap_cons, List.getElem?_append_right (by simp [ypC]; omega), ← ypsC, ← ypsC_get (es := es) (i := i) (e := e) j (by simpa using h) hj]
    congr 1
    simp [ypC] <;> omega
theorem ypsC_append (a b : List (ByteArray × Nat)) : ypsC (a ++ b) = ypsC a ++ ypsC b := List.flatMap_append
theorem ypsC_one (es : List (ByteArray × Nat)) (u : Value) (h : u ∈ ypsC es) : u.oneCell' = true := by
  simp only [ypsC, List.mem_flatMap, ypC, List.mem_cons, List.not_mem_nil, or_false] at h
  obtain ⟨e, _, rfl | rfl⟩ := h <;> rfl
theorem ypsC_set : ∀ {es : List (ByteArray × Nat)} {i j : Nat} {e e' : ByteArray × Nat} {v : Value}, es[i]? = some e → j < 2 → ypC e' = (ypC e).set j v → ypsC (es.set i e') = (ypsC es).set (i * 2 + j) v
  | [], i, j, e, e', v, h, _, _ => by simp at h
  | a :: es, 0, j, e, e', v, h, hj, hc => by
    simp at h
    subst h
    rw [List.set_cons_zero, ypsC, ypsC, List.flatMap_cons, List.flatMap_cons, hc, List.set_append_left _ _ (by simp [ypC]; omega), Nat.zero_mul, Nat.zero_add]
  | a :: es, i + 1, j, e, e', v, h, hj, hc => by
    have ih := ypsC_set (es := es) (i := i) (j := j) (e := e) (e' := e') (v := v) (by simpa using h) hj hc
    have e2 : ∀ l : List (ByteArray × Nat), ypsC (a :: l) = ypC a ++ ypsC l := fun l => by rw [ypsC, List.flatMap_cons]; rfl
    rw [List.set_cons_succ, e2, e2, ih, List.set_append_right _ _ (by simp [ypC]; omega)]
    congr 2
    simp [ypC] <;> omega
abbrev ypT : TypeId := 82
abbrev ypsT : TypeId := 28
abbrev ypR (w : World) (V : Value) (es : List (ByteArray × Nat)) : Prop := w.ownsRow 0 ypT 2 V es.length (ypsC es)
theorem info_yp : (Try.prog.info? ypT).map (fun i => (i.zero, i.size, i.bytes)) = some (some (.agg #[.string ⟨#[]⟩, .int .i64 0]), 2, 24) := by kernel_rfl
theorem ypR_form {w : World} {V : Value} {es : List (ByteArray × Nat)} (h : ypR w V es) :
    (V = .slice none 0 0 ∧ es = []) ∨ ∃ g c cur, V = .slice (some ⟨g, 0, none⟩) es.length c ∧ es.length ≤ c ∧ c ≤ maxLen ∧ Blk w g ypT cur ∧ ∀ i u, (ypsC es)[i]? = some u → w.cell? ⟨g, i, none⟩ = some u := by
  rcases h.2 with ⟨h1, h2⟩ | ⟨g, cap, cur, rfl, hb, hg, h1, h2, h3, h4⟩
  · exact .inl ⟨h1, List.length_eq_zero_iff.1 h2⟩
  · refine .inr ⟨g, cap, cur, rfl, h1, h2, hg, fun i u hi => ?_⟩
    have := h.cells (g := g) rfl i u hi
    rwa [show (⟨g, 0, none⟩ : Addr).add i = ⟨g, i, none⟩ by unfold Addr.add; split <;> simp_all] at this
theorem ypR_set {w : World} {g c i j : Nat} {es : List (ByteArray × Nat)} {e e' : ByteArray × Nat} {v : Value} (h : ypR w (.slice (some ⟨g, 0, none⟩) es.length c) es) (he : es[i]? = some e) (hj : j < 2) (hc : ypC e' = (ypC e).set j v) : ypR (w.setCell ⟨g, i * 2 + j, none⟩ v) (.slice (some ⟨g, 0, none⟩) es.length c) (es.set i e') := by
  rcases h.2 with ⟨h1, h2⟩ | ⟨g', cap, cur, e1, hb, hg, h1, h2, h3, h4⟩
  · cases h1
  · cases e1
    refine ⟨ypsC_length _, .inr ⟨g, c, cur.setIfInBounds (i * 2 + j) v, by rw [List.length_set], Nat.zero_le _, Blk.set_ hg _ _, by rw [List.length_set]; exact h1, h2, by simpa using h3, ?_⟩⟩
    rw [List.length_set, ypsC_set he hj hc, ← h4, Array.toList_setIfInBounds, List.take_set]
theorem ypR_keeps {S : Nat → Prop} {w w' : World} {V : Value} {es : List (ByteArray × Nat)} (h : ypR w V es) (hk : Keeps S w w') (hS : ∀ g, V.ownBlock = some g → ¬ S g) : ypR w' V es := by
  refine ⟨h.1, h.2.imp (fun h => h) ?_⟩
  rintro ⟨g, cap, cur, rfl, h1, h2, rest⟩
  exact ⟨g, cap, cur, rfl, h1, Blk.keeps h2 hk (hS g rfl), rest⟩
theorem ypR_append {w : World} {V : Value} {c : Nat} {N M : List (ByteArray × Nat)} {A : Option Addr} (ho : ypR w V N) (hY : ∀ i u, (ypsC M)[i]? = some u → ∃ b o, A = some ⟨b, o, none⟩ ∧ w.cell? ⟨b, o + i, none⟩ = some u) (hA : A = none → M = [] ∧ c = 0) (hsp : ∀ a, A = some a → ∃ b o, a = ⟨b, o, none⟩) (hnm : N.length + M.length ≤ 1048576) :
    ∃ V' w', (∀ ty, (Builtin.append_ #[ypsT, ypsT] ty #[V, .slice A M.length c]).run Try.prog w = .ok V' w') ∧ ypR w' V' (N ++ M) ∧ w.grownBy w' V.ownBlock ∧ (V'.ownBlock = V.ownBlock ∨ V'.ownBlock = some w.heap.size) := by
  obtain ⟨i0, hi, hz0, hz1, hz2⟩ := info_parts info_yp
  rcases A with _ | ad
  · obtain ⟨rfl, rfl⟩ := hA rfl
    refine ⟨V, w, fun ty => run_append_owned_none w 0 _ _ _ i0 2 Try.underlying28 hi V _ _ ho, ?_, ⟨rfl, rfl, rfl, Nat.le_refl _, fun _ _ _ => rfl⟩, .inl rfl⟩
    rw [List.append_nil]
    exact ho
  · obtain ⟨b, o, rfl⟩ := hsp ad rfl
    obtain ⟨V', w', hr, h1, h2, _, h4⟩ := run_append_own_at (P := Try.prog) w 0 ypsT ypsT ypT i0 (.agg #[.string ⟨#[]⟩, .int .i64 0]) 2 24 Try.underlying28 hi hz0 hz1 hz2 rfl (by decide) V _ _ ho ⟨b, o, none⟩ M.length c (ypsC M) (ypsC_length M) (fun j u hj => by
      obtain ⟨b', o', e, hc⟩ := hY j u hj
      cases e
      rw [Go.WideShapes.add_plain]
      exact hc) (ypsC_one M) (by unfold maxLen; omega) (by omega) (Nat.zero_le _)
    refine ⟨V', w', fun ty => by rw [← hr]; rfl, ?_, h2, h4⟩
    unfold ypR
    rw [ypsC_append, List.length_append]
    exact h1
theorem ypR_shape {w : World} {V : Value} {es : List (ByteArray × Nat)} (h : ypR w V es) : ∃ A c, V = .slice A es.length c := by
  rcases ypR_form h with ⟨h1, h2⟩ | ⟨g, c, cur, rfl, _⟩
  · exact ⟨none, 0, by rw [h1, h2]; rfl⟩
  · exact ⟨_, c, rfl⟩
theorem ypR_lt {w : World} {V : Value} {es : List (ByteArray × Nat)} (h : ypR w V es) {g : Nat} (hg : V.ownBlock = some g) : g < w.heap.size := by
  rcases ypR_form h with ⟨rfl, _⟩ | ⟨g', c, cur, rfl, _, _, hb, _⟩
  · cases hg
  · cases hg; exact hb.lt
theorem ypR_ne {w : World} {V : Value} {es : List (ByteArray × Nat)} (h : ypR w V es) {g y : Nat} {t : TypeId} {cs : Array Value} (hg : V.ownBlock = some g) (hy : Blk w y t cs) (ht : t ≠ ypT) : g ≠ y := by
  rcases ypR_form h with ⟨rfl, _⟩ | ⟨g', c, cur, rfl, _, _, hb, _⟩
  · cases hg
  · cases hg; exact (hy.ne_ hb ht).symm
/-- The row's cells, at an entry. -/
theorem ypR_at {w : World} {g c i j : Nat} {es : List (ByteArray × Nat)} {e : ByteArray × Nat} {v : Value} (h : ypR w (.slice (some ⟨g, 0, none⟩) es.length c) es) (he : es[i]? = some e) (hj : j < 2) (hv : (ypC e)[j]? = some v) : w.cell? ⟨g, i * 2 + j, none⟩ = some v := by
  rcases ypR_form h with ⟨h1, _⟩ | ⟨g', c', cur, e1, _, _, _, hc⟩
  · cases h1
  · cases e1
    exact hc _ v ((ypsC_get j he hj).trans hv)
theorem ypR_frozen {w : World} {g c i : Nat} {es : List (ByteArray × Nat)} {A : Nat} (h : ypR w (.slice (some ⟨g, 0, none⟩) A c) es) : w.frozen? ⟨g, i, none⟩ = false := by
  rcases ypR_form h with ⟨h1, _⟩ | ⟨g', c', cur, e1, _, _, hb, _⟩
  · cases h1
  · cases e1; exact hb.frozen _
theorem ypR_row {w : World} {V : Value} {es : List (ByteArray × Nat)} (h : ypR w V es) (h0 : es ≠ []) : ∃ g c, V = .slice (some ⟨g, 0, none⟩) es.length c ∧ es.length ≤ c ∧ c ≤ maxLen := by
  rcases ypR_form h with ⟨_, h1⟩ | ⟨g, c, cur, rfl, h1, h2, _⟩
  · exact absurd h1 h0
  · exact ⟨g, c, rfl, h1, h2⟩
/-- One entry comes, out of a row of its own. -/
theorem ypR_one {w : World} {V : Value} {N : List (ByteArray × Nat)} (e : ByteArray × Nat) (ho : ypR w V N) (hn : N.length ≤ 1000000) :
    ∃ V' w', (∀ ty, (Builtin.append_ #[ypsT, ypsT] ty #[V, .slice (some ⟨w.heap.size, 0, none⟩) 1 1]).run Try.prog (w.alloc (.cells (ypC e).toArray ypT)) = .ok V' w') ∧ ypR w' V' (N ++ [e]) ∧ Keeps (fun b => V.ownBlock = some b) w w' ∧ (∀ g, V'.ownBlock = some g → V.ownBlock = some g ∨ w.heap.size ≤ g) := by
  have hb := Blk.new w ypT (ypC e).toArray
  obtain ⟨V', w', h1, h2, h3, h4⟩ := ypR_append (M := [e]) (A := some ⟨w.heap.size, 0, none⟩) (c := 1) (ypR_keeps ho ((Keeps.refl (fun _ => False) w).alloc _) (fun _ _ hf => hf)) (fun i u hi => ⟨_, 0, rfl, by
    rw [Nat.zero_add, hb.cell, List.getElem?_toArray, ← hi]
    simp [ypsC]⟩) (fun h => by cases h) (fun a h => by cases h; exact ⟨_, _, rfl⟩) (by simp; omega)
  refine ⟨V', w', h1, h2, ((Keeps.refl _ w).alloc _).grown h3 (fun b hb => .inl hb), fun g hg => ?_⟩
  rcases h4 with e1 | e1
  · exact .inl (e1 ▸ hg)
  · rw [e1] at hg; cases hg
    exact .inr (by simp)
/-! ### yi -/
def yiC (e : Nat) : List Value := [.int .i64 (e : Int)]
def yisC (es : List (Nat)) : List Value := es.flatMap yiC
theorem yisC_length (es : List (Nat)) : (yisC es).length = es.length * 1 := by
  induction es with
  | nil => rfl
  | cons e es ih => rw [yisC, List.flatMap_cons, List.length_append, ← yisC, ih]; simp [yiC]; omega
theorem yisC_get : ∀ {es : List (Nat)} {i : Nat} {e : Nat} (j : Nat), es[i]? = some e → j < 1 → (yisC es)[i * 1 + j]? = (yiC e)[j]?
  | [], i, e, j, h, _ => by simp at h
  | e' :: es, 0, e, j, h, hj => by
    simp at h
    subst h
    rw [yisC, List.flatMap_cons, List.getElem?_append_left (by simp [yiC]; omega), Nat.zero_mul, Nat.zero_add]
  | e' :: es, i + 1, e, j, h, hj => by
    rw [yisC, List.flatMap_cons, List.getElem?_append_right (by simp [yiC]; omega), ← yisC, ← yisC_get (es := es) (i := i) (e := e) j (by simpa using h) hj]
    congr 1
    simp [yiC] <;> omega
theorem yisC_append (a b : List (Nat)) : yisC (a ++ b) = yisC a ++ yisC b := List.flatMap_append
theorem yisC_one (es : List (Nat)) (u : Value) (h : u ∈ yisC es) : u.oneCell' = true := by
  simp only [yisC, List.mem_flatMap, yiC, List.mem_cons, List.not_mem_nil, or_false] at h
  obtain ⟨e, _, rfl⟩ := h <;> rfl
theorem yisC_set : ∀ {es : List (Nat)} {i j : Nat} {e e' : Nat} {v : Value}, es[i]? = some e → j < 1 → yiC e' = (yiC e).set j v → yisC (es.set i e') = (yisC es).set (i * 1 + j) v
  | [], i, j, e, e', v, h, _, _ => by simp at h
  | a :: es, 0, j, e, e', v, h, hj, hc => by
    simp at h
    subst h
    rw [List.set_cons_zero, yisC, yisC, List.flatMap_cons, List.flatMap_cons, hc, List.set_append_left _ _ (by simp [yiC]; omega), Nat.zero_mul, Nat.zero_add]
  | a :: es, i + 1, j, e, e', v, h, hj, hc => by
    have ih := yisC_set (es := es) (i := i) (j := j) (e := e) (e' := e') (v := v) (by simpa using h) hj hc
    have e2 : ∀ l : List (Nat), yisC (a :: l) = yiC a ++ yisC l := fun l => by rw [yisC, List.flatMap_cons]; rfl
    rw [List.set_cons_succ, e2, e2, ih, List.set_append_right _ _ (by simp [yiC]; omega)]
    congr 2
    simp [yiC] <;> omega
abbrev yiT : TypeId := 3
abbrev yisT : TypeId := 35
abbrev yiR (w : World) (V : Value) (es : List (Nat)) : Prop := w.ownsRow 0 yiT 1 V es.length (yisC es)
theorem info_yi : (Try.prog.info? yiT).map (fun i => (i.zero, i.size, i.bytes)) = some (some (.int .i64 0), 1, 8) := by kernel_rfl
theorem yiR_form {w : World} {V : Value} {es : List (Nat)} (h : yiR w V es) :
    (V = .slice none 0 0 ∧ es = []) ∨ ∃ g c cur, V = .slice (some ⟨g, 0, none⟩) es.length c ∧ es.length ≤ c ∧ c ≤ maxLen ∧ Blk w g yiT cur ∧ ∀ i u, (yisC es)[i]? = some u → w.cell? ⟨g, i, none⟩ = some u := by
  rcases h.2 with ⟨h1, h2⟩ | ⟨g, cap, cur, rfl, hb, hg, h1, h2, h3, h4⟩
  · exact .inl ⟨h1, List.length_eq_zero_iff.1 h2⟩
  · refine .inr ⟨g, cap, cur, rfl, h1, h2, hg, fun i u hi => ?_⟩
    have := h.cells (g := g) rfl i u hi
    rwa [show (⟨g, 0, none⟩ : Addr).add i = ⟨g, i, none⟩ by unfold Addr.add; split <;> simp_all] at this
theorem yiR_set {w : World} {g c i j : Nat} {es : List (Nat)} {e e' : Nat} {v : Value} (h : yiR w (.slice (some ⟨g, 0, none⟩) es.length c) es) (he : es[i]? = some e) (hj : j < 1) (hc : yiC e' = (yiC e).set j v) : yiR (w.setCell ⟨g, i * 1 + j, none⟩ v) (.slice (some ⟨g, 0, none⟩) es.length c) (es.set i e') := by
  rcases h.2 with ⟨h1, h2⟩ | ⟨g', cap, cur, e1, hb, hg, h1, h2, h3, h4⟩
  · cases h1
  · cases e1
    refine ⟨yisC_length _, .inr ⟨g, c, cur.setIfInBounds (i * 1 + j) v, by rw [List.length_set], Nat.zero_le _, Blk.set_ hg _ _, by rw [List.length_set]; exact h1, h2, by simpa using h3, ?_⟩⟩
    rw [List.length_set, yisC_set he hj hc, ← h4, Array.toList_setIfInBounds, List.take_set]
theorem yiR_keeps {S : Nat → Prop} {w w' : World} {V : Value} {es : List (Nat)} (h : yiR w V es) (hk : Keeps S w w') (hS : ∀ g, V.ownBlock = some g → ¬ S g) : yiR w' V es := by
  refine ⟨h.1, h.2.imp (fun h => h) ?_⟩
  rintro ⟨g, cap, cur, rfl, h1, h2, rest⟩
  exact ⟨g, cap, cur, rfl, h1, Blk.keeps h2 hk (hS g rfl), rest⟩
theorem yiR_append {w : World} {V : Value} {c : Nat} {N M : List (Nat)} {A : Option Addr} (ho : yiR w V N) (hY : ∀ i u, (yisC M)[i]? = some u → ∃ b o, A = some ⟨b, o, none⟩ ∧ w.cell? ⟨b, o + i, none⟩ = some u) (hA : A = none → M = [] ∧ c = 0) (hsp : ∀ a, A = some a → ∃ b o, a = ⟨b, o, none⟩) (hnm : N.length + M.length ≤ 1048576) :
    ∃ V' w', (∀ ty, (Builtin.append_ #[yisT, yisT] ty #[V, .slice A M.length c]).run Try.prog w = .ok V' w') ∧ yiR w' V' (N ++ M) ∧ w.grownBy w' V.ownBlock ∧ (V'.ownBlock = V.ownBlock ∨ V'.ownBlock = some w.heap.size) := by
  obtain ⟨i0, hi, hz0, hz1, hz2⟩ := info_parts info_yi
  rcases A with _ | ad
  · obtain ⟨rfl, rfl⟩ := hA rfl
    refine ⟨V, w, fun ty => run_append_owned_none w 0 _ _ _ i0 1 Try.underlying35 hi V _ _ ho, ?_, ⟨rfl, rfl, rfl, Nat.le_refl _, fun _ _ _ => rfl⟩, .inl rfl⟩
    rw [List.append_nil]
    exact ho
  · obtain ⟨b, o, rfl⟩ := hsp ad rfl
    obtain ⟨V', w', hr, h1, h2, _, h4⟩ := run_append_own_at (P := Try.prog) w 0 yisT yisT yiT i0 (.int .i64 0) 1 8 Try.underlying35 hi hz0 hz1 hz2 rfl (by decide) V _ _ ho ⟨b, o, none⟩ M.length c (yisC M) (yisC_length M) (fun j u hj => by
      obtain ⟨b', o', e, hc⟩ := hY j u hj
      cases e
      rw [Go.WideShapes.add_plain]
      exact hc) (yisC_one M) (by unfold maxLen; omega) (by omega) (Nat.zero_le _)
    refine ⟨V', w', fun ty => by rw [← hr]; rfl, ?_, h2, h4⟩
    unfold yiR
    rw [yisC_append, List.length_append]
    exact h1
theorem yiR_shape {w : World} {V : Value} {es : List (Nat)} (h : yiR w V es) : ∃ A c, V = .slice A es.length c := by
  rcases yiR_form h with ⟨h1, h2⟩ | ⟨g, c, cur, rfl, _⟩
  · exact ⟨none, 0, by rw [h1, h2]; rfl⟩
  · exact ⟨_, c, rfl⟩
theorem yiR_lt {w : World} {V : Value} {es : List (Nat)} (h : yiR w V es) {g : Nat} (hg : V.ownBlock = some g) : g < w.heap.size := by
  rcases yiR_form h with ⟨rfl, _⟩ | ⟨g', c, cur, rfl, _, _, hb, _⟩
  · cases hg
  · cases hg; exact hb.lt
theorem yiR_ne {w : World} {V : Value} {es : List (Nat)} (h : yiR w V es) {g y : Nat} {t : TypeId} {cs : Array Value} (hg : V.ownBlock = some g) (hy : Blk w y t cs) (ht : t ≠ yiT) : g ≠ y := by
  rcases yiR_form h with ⟨rfl, _⟩ | ⟨g', c, cur, rfl, _, _, hb, _⟩
  · cases hg
  · cases hg; exact (hy.ne_ hb ht).symm
/-- The row's cells, at an entry. -/
theorem yiR_at {w : World} {g c i j : Nat} {es : List (Nat)} {e : Nat} {v : Value} (h : yiR w (.slice (some ⟨g, 0, none⟩) es.length c) es) (he : es[i]? = some e) (hj : j < 1) (hv : (yiC e)[j]? = some v) : w.cell? ⟨g, i * 1 + j, none⟩ = some v := by
  rcases yiR_form h with ⟨h1, _⟩ | ⟨g', c', cur, e1, _, _, _, hc⟩
  · cases h1
  · cases e1
    exact hc _ v ((yisC_get j he hj).trans hv)
theorem yiR_frozen {w : World} {g c i : Nat} {es : List (Nat)} {A : Nat} (h : yiR w (.slice (some ⟨g, 0, none⟩) A c) es) : w.frozen? ⟨g, i, none⟩ = false := by
  rcases yiR_form h with ⟨h1, _⟩ | ⟨g', c', cur, e1, _, _, hb, _⟩
  · cases h1
  · cases e1; exact hb.frozen _
theorem yiR_row {w : World} {V : Value} {es : List (Nat)} (h : yiR w V es) (h0 : es ≠ []) : ∃ g c, V = .slice (some ⟨g, 0, none⟩) es.length c ∧ es.length ≤ c ∧ c ≤ maxLen := by
  rcases yiR_form h with ⟨_, h1⟩ | ⟨g, c, cur, rfl, h1, h2, _⟩
  · exact absurd h1 h0
  · exact ⟨g, c, rfl, h1, h2⟩
/-- One entry comes, out of a row of its own. -/
theorem yiR_one {w : World} {V : Value} {N : List (Nat)} (e : Nat) (ho : yiR w V N) (hn : N.length ≤ 1000000) :
    ∃ V' w', (∀ ty, (Builtin.append_ #[yisT, yisT] ty #[V, .slice (some ⟨w.heap.size, 0, none⟩) 1 1]).run Try.prog (w.alloc (.cells (yiC e).toArray yiT)) = .ok V' w') ∧ yiR w' V' (N ++ [e]) ∧ Keeps (fun b => V.ownBlock = some b) w w' ∧ (∀ g, V'.ownBlock = some g → V.ownBlock = some g ∨ w.heap.size ≤ g) := by
  have hb := Blk.new w yiT (yiC e).toArray
  obtain ⟨V', w', h1, h2, h3, h4⟩ := yiR_append (M := [e]) (A := some ⟨w.heap.size, 0, none⟩) (c := 1) (yiR_keeps ho ((Keeps.refl (fun _ => False) w).alloc _) (fun _ _ hf => hf)) (fun i u hi => ⟨_, 0, rfl, by
    rw [Nat.zero_add, hb.cell, List.getElem?_toArray, ← hi]
    simp [yisC]⟩) (fun h => by cases h) (fun a h => by cases h; exact ⟨_, _, rfl⟩) (by simp; omega)
  refine ⟨V', w', h1, h2, ((Keeps.refl _ w).alloc _).grown h3 (fun b hb => .inl hb), fun g hg => ?_⟩
  rcases h4 with e1 | e1
  · exact .inl (e1 ▸ hg)
  · rw [e1] at hg; cases hg
    exact .inr (by simp)
end Go.Proofs.Ytmohbdbofehamaa
