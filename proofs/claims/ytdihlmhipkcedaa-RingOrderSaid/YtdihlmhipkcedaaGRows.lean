/-
  Rows of texts of a call's own, whose world otherwise turns.
-/
import Derived.Test.YtdihlmhipkcedaaGOut
import Derived.Maps.AppendAt
import Derived.Laws.OwnMore
import Derived.Deep.AppendLies
namespace Go.Proofs.Ytdihlmhipkcedaa
open Go Go.RowKit Go.Maps
set_option linter.unusedVariables false
set_option linter.unusedSimpArgs false
set_option maxRecDepth 100000
abbrev strT : TypeId := 9
abbrev strsT : TypeId := 22
theorem infoS : (Try.prog.info? 9).map (fun i => (i.zero, i.size, i.bytes)) = some (some (.string ⟨#[]⟩), 1, 16) := by kernel_rfl
theorem ownsRow_keeps {S : Nat → Prop} {w w' : World} {base : Nat} {e : TypeId} {size : Nat} {v : Value} {n : Nat} {xs : List Value} (h : w.ownsRow base e size v n xs) (hk : Keeps S w w') (hS : ∀ b, S b → b < base) : w'.ownsRow base e size v n xs := by
  refine ⟨h.1, h.2.imp id ?_⟩
  rintro ⟨g, cap, cur, rfl, h1, h2, rest⟩
  have hlt : g < w.heap.size := by
    rcases Nat.lt_or_ge g w.heap.size with hlt | hge
    · exact hlt
    · rw [Array.getElem?_eq_none hge] at h2; cases h2
  exact ⟨g, cap, cur, rfl, h1, (hk.block g hlt (fun hs => by have := hS g hs; omega)).trans h2, rest⟩
theorem ownsRow_base {w : World} {base base' : Nat} {e : TypeId} {s : Nat} {v : Value} {n : Nat} {xs : List Value} (h : w.ownsRow base e s v n xs) (hb : base' ≤ base) : w.ownsRow base' e s v n xs :=
  ⟨h.1, h.2.imp id fun ⟨g, cap, cur, e1, h1, h2⟩ => ⟨g, cap, cur, e1, Nat.le_trans hb h1, h2⟩⟩
abbrev Strs (w : World) (base : Nat) (V : Value) (L : List ByteArray) : Prop := w.ownsRow base strT 1 V L.length (L.map Value.string)
theorem strs_form {w : World} {base : Nat} {V : Value} {L : List ByteArray} (h : Strs w base V L) :
    (V = .slice none 0 0 ∧ L = []) ∨ ∃ g c, V = .slice (some ⟨g, 0, none⟩) L.length c ∧ base ≤ g ∧ L.length ≤ c ∧ c ≤ maxLen ∧ g < w.heap.size ∧ ∀ i s, L[i]? = some s → w.cell? ⟨g, i, none⟩ = some (.string s) := by
  rcases h.2 with ⟨h1, h2⟩ | ⟨g, cap, cur, rfl, hb, hg, h1, h2, h3, h4⟩
  · exact .inl ⟨h1, List.length_eq_zero_iff.1 h2⟩
  · refine .inr ⟨g, cap, rfl, hb, h1, h2, ?_, fun i s hi => ?_⟩
    · rcases Nat.lt_or_ge g w.heap.size with hlt | hge
      · exact hlt
      · rw [Array.getElem?_eq_none hge] at hg; cases hg
    · have := h.cells (g := g) rfl i (.string s) (by rw [List.getElem?_map, hi]; rfl)
      rwa [show (⟨g, 0, none⟩ : Addr).add i = ⟨g, i, none⟩ by unfold Addr.add; split <;> simp_all] at this
/-- The block of a row of texts: from the base on, and none of another type's. -/
theorem strs_own {w : World} {base : Nat} {V : Value} {L : List ByteArray} (h : Strs w base V L) {b : Nat} (hb : V.ownBlock = some b) : base ≤ b ∧ ∃ cs, Blk w b strT cs := by
  rcases h.2 with ⟨h1, h2⟩ | ⟨g, cap, cur, rfl, hg, _, _, h2, _⟩
  · rw [h1] at hb; cases hb
  · have e : g = b := by simpa [Value.ownBlock] using hb
    subst e
    exact ⟨hg, cur, by assumption⟩
theorem strs_shape {w : World} {base : Nat} {V : Value} {L : List ByteArray} (h : Strs w base V L) : ∃ A c, V = .slice A L.length c := by
  rcases strs_form h with ⟨rfl, rfl⟩ | ⟨g, c, rfl, _⟩
  · exact ⟨none, 0, rfl⟩
  · exact ⟨_, c, rfl⟩
/-- An append of one text: a row of one is made for it; nothing below the base turns. -/
theorem append_one {w : World} {B : Nat} {V : Value} {N : List ByteArray} (s : ByteArray) (hB : B ≤ w.heap.size) (ho : Strs w B V N) (hn : N.length ≤ 65536) :
    ∃ V' w', (∀ ty, (Builtin.append_ #[strsT, strsT] ty #[V, .slice (some ⟨w.heap.size, 0, none⟩) 1 1]).run Try.prog (w.alloc (.cells #[.string s] strT)) = .ok V' w') ∧ Strs w' B V' (N ++ [s]) ∧ Keeps (fun b => V.ownBlock = some b) w w' ∧ ∀ b, V'.ownBlock = some b → V.ownBlock = some b ∨ w.heap.size ≤ b := by
  obtain ⟨i0, hi, hz0, hz1, hz2⟩ := info_parts infoS
  have ho' := ownsRow_keeps ho (Keeps.alloc (Keeps.refl (fun _ => False) w) (.cells #[.string s] strT)) (fun _ h => h.elim)
  have key : ∀ ty, ∃ V' w', (Builtin.append_ #[strsT, strsT] ty #[V, .slice (some ⟨w.heap.size, 0, none⟩) 1 1]).run Try.prog (w.alloc (.cells #[.string s] strT)) = .ok V' w' ∧ Strs w' B V' (N ++ [s]) ∧ Keeps (fun b => V.ownBlock = some b) w w' ∧ (∀ b, V'.ownBlock = some b → V.ownBlock = some b ∨ w.heap.size ≤ b) := fun ty => by
    obtain ⟨V', w', hr, h1, h2, _, h5⟩ := run_append_own_at (P := Try.prog) (w.alloc (.cells #[.string s] strT)) B strsT ty strT i0 (.string ⟨#[]⟩) 1 16 Try.underlying22 hi hz0 hz1 hz2 rfl (by decide) V _ _ ho' ⟨w.heap.size, 0, none⟩ 1 1 [.string s] (by simp) (fun j u hj => by
      obtain ⟨rfl, rfl⟩ : j = 0 ∧ u = .string s := by
        cases j with
        | zero => simp at hj; exact ⟨rfl, hj.symm⟩
        | succ j => simp at hj
      exact (Blk.new w strT #[.string s]).cell 0) (fun u hu => by
      obtain rfl : u = .string s := by simpa using hu
      rfl) (by unfold maxLen; omega) (by omega) (by simp; omega)
    refine ⟨V', w', hr, ?_, ?_, fun b hb => ?_⟩
    · unfold Strs
      rw [List.map_append, List.length_append]
      exact h1
    · exact (Keeps.alloc (Keeps.refl _ w) _).grown h2 (fun k e => .inl e)
    · rcases h5 with h5 | h5
      · exact .inl (h5 ▸ hb)
      · rw [h5] at hb
        have e : (w.alloc (.cells #[.string s] strT)).heap.size = b := by simpa using hb
        have e2 : (w.alloc (.cells #[.string s] strT)).heap.size = w.heap.size + 1 := by simp
        exact .inr (by omega)
  obtain ⟨V', w', hr, h1, h2⟩ := key strsT
  refine ⟨V', w', fun ty => ?_, h1, h2⟩
  obtain ⟨V2, w2, hr2, _⟩ := key ty
  rw [← hr]
  rfl
theorem step_append_run {P : Program} {ops : Array Oper} {o : Oper} {a : Act} {w : World} {K : Act → World → Prop} {Q : Exit → Act → World → Prop} {E : Prop} (hg : o.guard = none) (s x : Operand) (t : TypeId)
    (hop : o.op = Op.call { callee := Callee.builtin Builtin.append, args := #[s, x], argTypes := #[t, t] }) (v xv v' : Value) (w' : World) (hs : a.eval s = v) (hx : a.eval x = xv) (hrun : ∀ ty, (Builtin.append_ #[t, t] ty #[v, xv]).run P w = .ok v' w') (hK : K (a.put o.dst v') w') :
    if Region.wanted o (yielded ops a.tmps) = true then Oper.wp P o a w K Q else E := by
  have hw : Region.wanted o (yielded ops a.tmps) = true := by simp [Region.wanted, hg]
  rw [if_pos hw]
  unfold Oper.wp
  simp [execOp, hop, resolve, invoke, builtin, hs, hx, hrun, Result.andThen]
  exact hK
theorem wpList_append_run {P : Program} {ops : Array Oper} {rest : List Oper} {o : Oper} {a : Act} {w : World} {Q : Exit → Act → World → Prop} (hgd : o.guard = none) (s x : Operand) (t : TypeId)
    (ho : o.op = .call { callee := .builtin .append, args := #[s, x], argTypes := #[t, t] }) (v xv v' : Value) (w' : World) (hs : a.eval s = v) (hx : a.eval x = xv) (hrun : ∀ ty, (Builtin.append_ #[t, t] ty #[v, xv]).run P w = .ok v' w')
    (h : wpList P ops Q rest (a.put o.dst v') w') : wpList P ops Q (o :: rest) a w := by
  refine wpList_plain hgd fun K hK => ?_
  unfold Oper.wp execOp
  simp only [ho, resolve, invoke, builtin, Sem.run_bind, Sem.run_pure, Result.andThen_ok, List.map_toArray, List.map_cons, List.map_nil, hs, hx, hrun]
  exact hK _ _ h
end Go.Proofs.Ytdihlmhipkcedaa
