/-
  Rows of texts that a call makes for itself, and an append of one to them; a step of a range over a string keeps them. Package asm: the words of a line, exact. Package asm: what the reader makes of one word. strings.HasPrefix, strings.CutPrefix; the reader's words that have a sign or a letter ahead. The reader's words that have a sign or a letter ahead: imm, further, register. The reader's register and further. The reader's second; letters, sizes of numbers and of bytes. Small functions of package asm: letterOf, extends, locked.
-/
import Derived.Test.YtpjfnnlopcccaaaDoorQP2
import Derived.Test.YtpjfnnlopcccaaaDoorQP1
import Derived.Laws.Rows
import Derived.OwnWalk
import Derived.Maps.AppendAt
import Derived.Laws.OwnMore
import Derived.Laws.MakeOwn
import Derived.Deep.AppendLies
namespace Go.Proofs.YtpjfnnlopcccaaaDoor
open Go Go.RowKit Go.Maps
set_option linter.unusedVariables false
set_option linter.unusedSimpArgs false
set_option maxRecDepth 100000
theorem infoS : (Tryd.prog.info? 9).map (fun i => (i.zero, i.size, i.bytes)) = some (some (.string ⟨#[]⟩), 1, 16) := by kernel_rfl
abbrev strT : TypeId := 9
abbrev strsT : TypeId := 54
/-- The texts of L lie behind A. -/
def StrsAt (w : World) (A : Option Addr) (L : List ByteArray) : Prop := ∀ i s, L[i]? = some s → ∃ b o, A = some ⟨b, o, none⟩ ∧ b < w.heap.size ∧ w.cell? ⟨b, o + i, none⟩ = some (.string s)
theorem StrsAt.below {w w' : World} {A : Option Addr} {L : List ByteArray} (h : StrsAt w A L) (hb : Below w.heap.size w w') : StrsAt w' A L := by
  intro i s hi
  obtain ⟨b, o, rfl, h1, h2⟩ := h i s hi
  exact ⟨b, o, rfl, Nat.lt_of_lt_of_le h1 hb.size, (hb.cell (p := ⟨b, o + i, none⟩) h1).trans h2⟩
theorem ownsRow_keeps {S : Nat → Prop} {w w' : World} {base : Nat} {e : TypeId} {size : Nat} {v : Value} {n : Nat} {xs : List Value} (h : w.ownsRow base e size v n xs) (hk : Keeps S w w') (hS : ∀ b, S b → b < base) : w'.ownsRow base e size v n xs := by
  refine ⟨h.1, h.2.imp id ?_⟩
  rintro ⟨g, cap, cur, rfl, h1, h2, rest⟩
  have hlt : g < w.heap.size := by
    rcases Nat.lt_or_ge g w.heap.size with hlt | hge
    · exact hlt
    · rw [Array.getElem?_eq_none hge] at h2; cases h2
  exact ⟨g, cap, cur, rfl, h1, (hk.block g hlt (fun hs => by have := hS g hs; omega)).trans h2, rest⟩
theorem ownsRow_base {w : World} {base base' : Nat} {e : TypeId} {s : Nat} {v : Value} {n : Nat} {xs : List Value} (h : w.ownsRow base e s v n xs) (hb : base' ≤ base) : w.ownsRow base' e s v n xs :=
  ⟨h.1, h.2.imp id fun ⟨g, cap, cur, e1, h1, h2⟩ => ⟨g, cap, cur, e1, Nat.le_trans hb h1, h2⟩⟩
abbrev Strs (w : World) (base : Nat) (V : Value) (L : List ByteArray) : Prop := w.ownsRow base strT 1 V L.length (L.map Value.string)
/-- A row of the reference's own: where it lies. -/
theorem strs_form {w : World} {base : Nat} {V : Value} {L : List ByteArray} (h : Strs w base V L) :
    (V = .slice none 0 0 ∧ L = []) ∨ ∃ g c, V = .slice (some ⟨g, 0, none⟩) L.length c ∧ base ≤ g ∧ L.length ≤ c ∧ c ≤ maxLen ∧ g < w.heap.size ∧ ∀ i s, L[i]? = some s → w.cell? ⟨g, i, none⟩ = some (.string s) := by
  rcases h.2 with ⟨h1, h2⟩ | ⟨g, cap, cur, rfl, hb, hg, h1, h2, h3, h4⟩
  · exact .inl ⟨h1, List.length_eq_zero_iff.1 h2⟩
  · refine .inr ⟨g, cap, rfl, hb, h1, h2, ?_, fun i s hi => ?_⟩
    · rcases Nat.lt_or_ge g w.heap.size with hlt | hge
      · exact hlt
      · rw [Array.getElem?_eq_none hge] at hg; cases hg
    · have := h.cells (g := g) rfl i (.string s) (by rw [List.getElem?_map, hi]; rfl)
      rwa [show (⟨g, 0, none⟩ : Addr).add i = ⟨g, i, none⟩ by unfold Addr.add; split <;> simp_all] at this
/-- An append of texts, of none too, to a row of the call's own. -/
theorem append_strs {w0 w : World} {V : Value} {c : Nat} {N M : List ByteArray} {A : Option Addr} (hb : Below w0.heap.size w0 w) (ho : Strs w w0.heap.size V N) (hY : StrsAt w A M) (hA : A = none → M = [] ∧ c = 0) (hsp : ∀ a, A = some a → ∃ b o, a = ⟨b, o, none⟩) (hnm : N.length + M.length ≤ 2097152) :
    ∃ V' w', (∀ ty, (Builtin.append_ #[strsT, strsT] ty #[V, .slice A M.length c]).run Tryd.prog w = .ok V' w') ∧ Strs w' w0.heap.size V' (N ++ M) ∧ Below w0.heap.size w0 w' := by
  obtain ⟨i0, hi, hz0, hz1, hz2⟩ := info_parts infoS
  rcases A with _ | ad
  · obtain ⟨rfl, rfl⟩ := hA rfl
    refine ⟨V, w, fun ty => run_append_owned_none w w0.heap.size _ _ _ i0 1 Tryd.underlying54 hi V _ _ ho, ?_, hb⟩
    rw [List.append_nil]
    exact ho
  · obtain ⟨b, o, rfl⟩ := hsp ad rfl
    have key : ∀ ty, ∃ V' w', (Builtin.append_ #[strsT, strsT] ty #[V, .slice (some ⟨b, o, none⟩) M.length c]).run Tryd.prog w = .ok V' w' ∧ Strs w' w0.heap.size V' (N ++ M) ∧ Below w0.heap.size w0 w' := fun ty => by
      obtain ⟨V', w', hr, h1, h2, _, _⟩ := run_append_own_at (P := Tryd.prog) w w0.heap.size strsT ty strT i0 (.string ⟨#[]⟩) 1 16 Tryd.underlying54 hi hz0 hz1 hz2 rfl (by decide) V _ _ ho ⟨b, o, none⟩ M.length c (M.map Value.string) (by simp) (fun j u hj => by
        rw [List.getElem?_map, Option.map_eq_some_iff] at hj
        obtain ⟨s, hs, rfl⟩ := hj
        obtain ⟨b', o', e, _, hc⟩ := hY j s hs
        cases e
        rw [Go.WideShapes.add_plain]
        exact hc) (fun u hu => by
        obtain ⟨s, _, rfl⟩ := List.mem_map.1 hu
        rfl) (by unfold maxLen; omega) (by omega) hb.size
      refine ⟨V', w', hr, ?_, hb.grown h2 hb.size (fun k e => (ho.lt k e).1)⟩
      unfold Strs
      rw [List.map_append, List.length_append]
      exact h1
    obtain ⟨V', w', hr, h1, h2⟩ := key strsT
    refine ⟨V', w', fun ty => ?_, h1, h2⟩
    obtain ⟨V2, w2, hr2, _⟩ := key ty
    rw [← hr]
    rfl
theorem wpList_append_run {P : Program} {ops : Array Oper} {rest : List Oper} {o : Oper} {a : Act} {w : World} {Q : Exit → Act → World → Prop} (hgd : o.guard = none) (s x : Operand) (t : TypeId)
    (ho : o.op = .call { callee := .builtin .append, args := #[s, x], argTypes := #[t, t] }) (v xv v' : Value) (w' : World) (hs : a.eval s = v) (hx : a.eval x = xv) (hrun : ∀ ty, (Builtin.append_ #[t, t] ty #[v, xv]).run P w = .ok v' w')
    (h : wpList P ops Q rest (a.put o.dst v') w') : wpList P ops Q (o :: rest) a w := by
  refine wpList_plain hgd fun K hK => ?_
  unfold Oper.wp execOp
  simp only [ho, resolve, invoke, builtin, Sem.run_bind, Sem.run_pure, Result.andThen_ok, List.map_toArray, List.map_cons, List.map_nil, hs, hx, hrun]
  exact hK _ _ h
theorem strs_shape {w : World} {base : Nat} {V : Value} {L : List ByteArray} (h : Strs w base V L) : ∃ A c, V = .slice A L.length c := by
  rcases strs_form h with ⟨rfl, rfl⟩ | ⟨g, c, rfl, _⟩
  · exact ⟨none, 0, rfl⟩
  · exact ⟨_, c, rfl⟩
/-- An append of one text, as the dump writes it: a row of one is made for it. -/
theorem append_one {w0 w : World} {V : Value} {N : List ByteArray} (s : ByteArray) (hb : Below w0.heap.size w0 w) (ho : Strs w w0.heap.size V N) (hn : N.length ≤ 4096) :
    ∃ V' w', (∀ ty, (Builtin.append_ #[strsT, strsT] ty #[V, .slice (some ⟨w.heap.size, 0, none⟩) 1 1]).run Tryd.prog (w.alloc (.cells #[.string s] strT)) = .ok V' w') ∧ Strs w' w0.heap.size V' (N ++ [s]) ∧ Below w0.heap.size w0 w' :=
  append_strs (M := [s]) (A := some ⟨w.heap.size, 0, none⟩) (c := 1) (hb.alloc hb.size _) (ownsRow_keeps ho (Keeps.alloc (Keeps.refl (fun _ => False) w) (.cells #[.string s] strT)) (fun _ h => h.elim)) (fun i u hi => by
    obtain ⟨rfl, rfl⟩ : i = 0 ∧ u = s := by
      cases i with
      | zero => simp at hi; exact ⟨rfl, hi.symm⟩
      | succ i => simp at hi
    exact ⟨w.heap.size, 0, rfl, by simp, (Blk.new w strT #[.string u]).cell 0⟩) (fun h => by cases h) (fun a h => by cases h; exact ⟨_, _, rfl⟩) (by simp only [List.length_cons, List.length_nil]; omega)
/-- Between two rounds: the iterator stands at pos, the words so far lie in a row of the call's own. -/
structure Mid (w : World) (s : ByteArray) (pos : Nat) (V : Value) (L : List ByteArray) (w' : World) : Prop where
  below : Below (w.iter s pos).heap.size (w.iter s pos) w'
  row : Strs w' (w.iter s pos).heap.size V L
theorem iter_size (w : World) (s : ByteArray) (pos : Nat) : (w.iter s pos).heap.size = w.heap.size + 1 := by
  unfold World.iter
  simp
theorem Mid.start (w : World) (s : ByteArray) : Mid w s 0 (.slice none 0 0) [] (w.iter s 0) := ⟨Below.refl _ _, World.ownsRow_nil _ _ _ _⟩
theorem Mid.at {w w' : World} {s : ByteArray} {pos : Nat} {V : Value} {L : List ByteArray} (h : Mid w s pos V L w') : w'.heap[w.heap.size]? = some (.stringIter s pos) := by
  rw [h.below.block _ (by rw [iter_size]; omega)]
  exact World.iter_heap w s pos
theorem Mid.step {w w' : World} {s : ByteArray} {pos : Nat} {V : Value} {L : List ByteArray} (h : Mid w s pos V L w') (pos' : Nat) : Mid w s pos' V L (stepTo w' w.heap.size s pos') := by
  have hs := h.below.size
  rw [iter_size] at hs
  refine ⟨⟨h.below.os, h.below.tape, h.below.output, by rw [iter_size, stepTo_size]; exact hs, fun k hk => ?_⟩, ?_⟩
  · rw [iter_size] at hk
    by_cases e : k = w.heap.size
    · subst e
      rw [stepTo_at (by omega), World.iter_heap]
    · rw [stepTo_other e, h.below.block k (by rw [iter_size]; exact hk)]
      unfold World.iter
      rw [Below.heap_alloc _ _ _ (by omega), Below.heap_alloc _ _ _ (by omega)]
  · rw [iter_size]
    have hr := h.row
    rw [iter_size] at hr
    refine ⟨hr.1, hr.2.imp id ?_⟩
    rintro ⟨g, cap, cur, rfl, h1, h2, rest⟩
    exact ⟨g, cap, cur, rfl, h1, (stepTo_other (by omega)).trans h2, rest⟩
theorem Mid.app {w w' : World} {s : ByteArray} {pos : Nat} {V : Value} {L : List ByteArray} (h : Mid w s pos V L w') (hn : L.length ≤ 4096) (u : ByteArray) :
    ∃ V' w2, (∀ ty, (Builtin.append_ #[strsT, strsT] ty #[V, .slice (some ⟨w'.heap.size, 0, none⟩) 1 1]).run Tryd.prog (w'.alloc (.cells #[.string u] strT)) = .ok V' w2) ∧ Mid w s pos V' (L ++ [u]) w2 := by
  obtain ⟨V', w2, h1, h2, h3⟩ := append_one u h.below h.row hn
  exact ⟨V', w2, h1, h3, h2⟩
theorem Mid.pos {w w' : World} {s : ByteArray} {pos : Nat} {V : Value} {L : List ByteArray} (h : Mid w s pos V L w') : w'.iterPos w.heap.size = pos := by
  unfold World.iterPos
  rw [h.at]
theorem Mid.shape {w w' : World} {s : ByteArray} {pos : Nat} {V : Value} {L : List ByteArray} (h : Mid w s pos V L w') : ∃ A c, V = .slice A L.length c := strs_shape h.row
end Go.Proofs.YtpjfnnlopcccaaaDoor
namespace Go.Proofs.YtpjfnnlopcccaaaDoor
open Go Go.RowKit Go.Maps
set_option linter.unusedVariables false
set_option linter.unusedSimpArgs false
set_option maxRecDepth 100000
/-- What a round reads: a blank, or a rune that is none, of one byte or of several. -/
theorem rune_ways {s : ByteArray} {pos : Nat} (h : pos < s.size) :
    ((Utf8.decode s pos).1 = 32 ∧ (Utf8.decode s pos).2 = 1 ∧
      (∀ ws f gap, wordsAt s pos ws (some f) gap = wordsAt s (pos + 1) (ws ++ [s.extract f pos]) none 1) ∧
      (∀ ws gap, wordsAt s pos ws none gap = wordsAt s (pos + 1) ws none (gap + 1))) ∨
    ((Utf8.decode s pos).1 ≠ 32 ∧ 1 ≤ (Utf8.decode s pos).2 ∧ pos + (Utf8.decode s pos).2 ≤ s.size ∧
      (∀ ws f gap, wordsAt s pos ws (some f) gap = wordsAt s (pos + (Utf8.decode s pos).2) ws (some f) gap) ∧
      (∀ ws gap, ¬ (ws.length = 8 ∨ (0 < ws.length ∧ 1 < gap)) → wordsAt s pos ws none gap = wordsAt s (pos + (Utf8.decode s pos).2) ws (some pos) gap) ∧
      (∀ ws gap, (ws.length = 8 ∨ (0 < ws.length ∧ 1 < gap)) → wordsAt s pos ws none gap = none)) := by
  by_cases ha : 128 ≤ (s[pos]'h).toNat
  · have h1 := decode_high s pos h ha
    exact .inr ⟨by omega, h1.2, wordsAt_rune_le h, fun ws f gap => wordsAt_rune_in h ha, fun ws gap hm => wordsAt_rune_new h ha hm, fun ws gap hm => wordsAt_no h (by omega) hm⟩
  · rw [decode_ascii s pos h (by omega)]
    by_cases hb : (s[pos]'h).toNat = 32
    · exact .inl ⟨hb, rfl, fun ws f gap => wordsAt_blank_in h hb, fun ws gap => wordsAt_blank h hb⟩
    · exact .inr ⟨hb, Nat.le_refl _, h, fun ws f gap => wordsAt_in h hb, fun ws gap hm => wordsAt_new h hb hm, fun ws gap hm => wordsAt_no h hb hm⟩
def fromV (f : Option Nat) : Value := match f with | none => .int .i64 (-1) | some f => .int .i64 f
theorem Mid.all {w w' : World} {s : ByteArray} {pos : Nat} {V : Value} {L : List ByteArray} (h : Mid w s pos V L w') : Below w.heap.size w w' ∧ Strs w' w.heap.size V L := by
  refine ⟨((Below.refl _ w).alloc (Nat.le_refl _) (.stringIter s pos)).trans (h.below.mono (by rw [iter_size]; omega)), ?_⟩
  exact ownsRow_base h.row (by rw [iter_size]; omega)
set_option maxHeartbeats 2000000 in
theorem words_any (s : ByteArray) (hz : s.size < 4611686018427387904) (w : World) :
    Calls Tryd.prog 19 #[.string s] w fun e w' => ∃ V, e = .returned (.tuple #[V, .bool (wordsS s).isSome]) ∧ Below w.heap.size w w' ∧ Strs w' w.heap.size V ((wordsS s).getD []) := by
  go_enter Tryd.func19, Tryd.ntmps19
  go_wp2
  go_loopw [4, 5, 6, 7, 8] (fun l fr gp _ _ wr => ∃ (pos g : Nat) (L : List ByteArray) (f : Option Nat), Mid w s pos l L wr ∧ fr = fromV f ∧ gp = .int .i64 g ∧ pos ≤ s.size ∧ g ≤ pos ∧ (∀ x, f = some x → x < pos) ∧ L.length + (if f.isSome then 1 else 0) ≤ 8 ∧ wordsAt s pos L f g = wordsS s) (fun _ _ _ _ _ wr => s.size - wr.iterPos w.heap.size)
  case atStart => exact ⟨0, 0, [], none, Mid.start w s, rfl, rfl, Nat.zero_le _, Nat.le_refl _, (fun x h => by cases h), by decide, rfl⟩
  case round =>
    obtain ⟨pos, g, L, f, hM, rfl, rfl, hp0, hg, hf, hl, hd⟩ := hrel
    obtain ⟨A, c, rfl⟩ := hM.shape
    have HD := Lib.hid hd
    have HM := Lib.hid hM
    have hat := hM.at
    have hps := hM.pos
    clear hd hM
    by_cases hp : pos < s.size
    · have hnx : ∀ ty, (Instr.next (.pointer (some ⟨w.heap.size, 0, none⟩)) true ty).run Tryd.prog _ = _ := fun ty => run_next_at hat ty hp
      have HW := rune_ways hp
      have HN := Lib.hid (And.intro hps (And.intro hp0 (And.intro hg (And.intro hf (And.intro hl hp)))))
      clear hat hps hp0 hg hf hl hp
      generalize Utf8.decode s pos = dc at *
      obtain ⟨rn, wd⟩ := dc
      rcases HW with ⟨q1, q2, q3, q4⟩ | ⟨q1, q2, q3, q4, q5, q6⟩
      · have q1' : rn = 32 := q1
        have q2' : wd = 1 := q2
        clear q1 q2
        subst q1' q2'
        rcases f with _ | f
        · have e1 : IntKind.i64.wrap ((g : Int) + 1) = ((g + 1 : Nat) : Int) := by
            have := HN.out
            rw [IntWalk.i64_in _ (by omega)]; omega
          have HE := Lib.hid ((q4 L g).symm.trans HD.out)
          clear q3 q4 HD
          simp only [fromV]
          go_wp2_with fail
          go_roundw
          case rel => exact ⟨pos + 1, g + 1, L, none, HM.out.step _, rfl, rfl, HN.out.2.2.2.2.2, by have := HN.out; omega, (fun x h => by cases h), HN.out.2.2.2.2.1, HE.out⟩
          case measure =>
            rw [HN.out.1, (HM.out.step (pos + 1)).pos]
            have := HN.out
            omega
        · have i1 : (0 : Int) ≤ (f : Int) := by omega
          have b2 : decide ((0 : Int) ≤ (f : Int)) = true := decide_eq_true i1
          have HE := Lib.hid ((q3 L f g).symm.trans HD.out)
          clear q3 q4 HD
          simp only [fromV]
          obtain ⟨V2, w2, hr, hM2⟩ := (HM.out.step (pos + 1)).app (by have := HN.out; omega) (s.extract f pos)
          have HR := Lib.hid hr
          have HM2 := Lib.hid hM2
          have ib : pos ≤ s.size := HN.out.2.1
          have ic : f ≤ pos := by have := HN.out.2.2.2.1 f rfl; omega
          clear hr hM2
          go_wp2_with (at_builtin; refine wpList_append_run rfl (.tmp 22) (.tmp 27) 54 rfl _ (.slice (some ⟨_, 0, none⟩) 1 1) V2 w2 rfl rfl HR.out ?_)
          go_roundw
          case rel => exact ⟨pos + 1, 1, _, none, HM2.out, rfl, rfl, HN.out.2.2.2.2.2, by omega, (fun x h => by cases h), by rw [List.length_append]; exact HN.out.2.2.2.2.1, HE.out⟩
          case measure =>
            rw [HN.out.1, HM2.out.pos]
            have := HN.out
            omega
      · have c0 : (rn == 32) = false := by simpa using q1
        have c1 : ((rn : Int) == 32) = false := by
          have : rn ≠ 32 := q1
          simp; omega
        have q2' : 1 ≤ wd := q2
        have q3' : pos + wd ≤ s.size := q3
        have HQ := Lib.hid (And.intro q2' q3')
        clear q1 q2 q3 q2' q3'
        have HMS := Lib.hid (HM.out.step (pos + wd))
        rcases f with _ | f
        · by_cases hm : L.length = 8 ∨ (0 < L.length ∧ 1 < g)
          · have HE : Hid (wordsS s = none) := HD.out.symm.trans (q6 L g hm)
            clear q4 q5 q6 HD
            have HP : Hid (∃ V, Ending.returned (.tuple #[.slice none 0 0, .bool false]) = .returned (.tuple #[V, .bool (wordsS s).isSome]) ∧ Below w.heap.size w (stepTo wr w.heap.size s (pos + wd)) ∧ Strs (stepTo wr w.heap.size s (pos + wd)) w.heap.size V ((wordsS s).getD [])) := by
              refine ⟨.slice none 0 0, by rw [HE.out]; rfl, HMS.out.all.1, ?_⟩
              rw [HE.out]
              exact World.ownsRow_nil _ _ _ _
            have hw : ((L.length : Int) == 8) = true ∨ (((L.length : Int) == 8) = false ∧ (0 : Int) < (L.length : Int) ∧ (1 : Int) < (g : Int)) := by
              by_cases h8 : L.length = 8
              · exact .inl (by simp; omega)
              · exact .inr ⟨by simp; omega, by omega, by omega⟩
            clear hm
            simp only [fromV]
            rcases hw with d1 | ⟨d1, d2, d3⟩
            · go_wp2_with fail
              go_ret2
              exact HP.out
            · have d4 : decide ((0 : Int) < (L.length : Int)) = true := decide_eq_true d2
              have d5 : decide ((1 : Int) < (g : Int)) = true := decide_eq_true d3
              go_wp2_with fail
              go_ret2
              exact HP.out
          · have HE : Hid (wordsAt s (pos + wd) L (some pos) g = wordsS s) := (q5 L g hm).symm.trans HD.out
            clear q4 q5 q6 HD
            have d1 : ((L.length : Int) == 8) = false := by simp; omega
            have hw : ¬ (0 : Int) < (L.length : Int) ∨ ((0 : Int) < (L.length : Int) ∧ ¬ (1 : Int) < (g : Int)) := by omega
            have HL : Hid (L.length ≠ 8) := fun h => hm (.inl h)
            clear hm
            simp only [fromV]
            have HREL : Hid (∃ pos' g' L' f', Mid w s pos' (.slice A L.length c) L' (stepTo wr w.heap.size s (pos + wd)) ∧ Value.int .i64 (pos : Int) = fromV f' ∧ Value.int .i64 (g : Int) = .int .i64 (g' : Nat) ∧ pos' ≤ s.size ∧ g' ≤ pos' ∧ (∀ x, f' = some x → x < pos') ∧ L'.length + (if f'.isSome then 1 else 0) ≤ 8 ∧ wordsAt s pos' L' f' g' = wordsS s) := by
              have h1 := HN.out
              have h2 := HQ.out
              have h3 := HL.out
              refine ⟨pos + wd, g, L, some pos, HMS.out, rfl, rfl, h2.2, by omega, fun x h => by cases h; omega, ?_, HE.out⟩
              have h4 := h1.2.2.2.2.1
              simp at h4 ⊢
              omega
            rcases hw with d2 | ⟨d2, d3⟩
            · have d4 : decide ((0 : Int) < (L.length : Int)) = false := decide_eq_false d2
              go_wp2_with fail
              go_roundw
              case rel => exact HREL.out
              case measure =>
                rw [HN.out.1, HMS.out.pos]
                have := HN.out; have := HQ.out
                omega
            · have d4 : decide ((0 : Int) < (L.length : Int)) = true := decide_eq_true d2
              have d5 : decide ((1 : Int) < (g : Int)) = false := decide_eq_false d3
              go_wp2_with fail
              go_roundw
              case rel => exact HREL.out
              case measure =>
                rw [HN.out.1, HMS.out.pos]
                have := HN.out; have := HQ.out
                omega
        · have HE : Hid (wordsAt s (pos + wd) L (some f) g = wordsS s) := (q4 L f g).symm.trans HD.out
          clear q4 q5 q6 HD
          have d1 : ¬ (f : Int) < 0 := by omega
          have d2 : decide ((f : Int) < 0) = false := decide_eq_false d1
          simp only [fromV]
          go_wp2_with fail
          go_roundw
          case rel =>
            have h1 := HN.out
            have h2 := HQ.out
            exact ⟨pos + wd, g, L, some f, HMS.out, rfl, rfl, h2.2, by omega, fun x h => by have := h1.2.2.2.1 x h; omega, h1.2.2.2.2.1, HE.out⟩
          case measure =>
            rw [HN.out.1, HMS.out.pos]
            have := HN.out; have := HQ.out
            omega
    · have hnx : ∀ ty, (Instr.next (.pointer (some ⟨w.heap.size, 0, none⟩)) true ty).run Tryd.prog _ = _ := fun ty => run_next_over hat ty hp
      have HE0 := Lib.hid ((wordsAt_end (s := s) (ws := L) (from' := f) (gap := g) (by omega : s.size ≤ pos)).symm.trans HD.out)
      have HN := Lib.hid (And.intro hps (And.intro hp0 (And.intro hg (And.intro hf hl))))
      clear hat hps hp0 hg hf hl hp HD
      rcases f with _ | f
      · have HE : Hid (wordsS s = some L) := HE0.out.symm
        have HP : Hid (∃ V, Ending.returned (.tuple #[.slice A L.length c, .bool true]) = .returned (.tuple #[V, .bool (wordsS s).isSome]) ∧ Below w.heap.size w wr ∧ Strs wr w.heap.size V ((wordsS s).getD [])) := by
          refine ⟨.slice A L.length c, by rw [HE.out]; rfl, HM.out.all.1, ?_⟩
          rw [HE.out]
          exact HM.out.all.2
        clear HE0
        simp only [fromV]
        go_wp2_with fail
        go_ret2
        exact HP.out
      · have HE : Hid (wordsS s = some (L ++ [s.extract f s.size])) := HE0.out.symm
        obtain ⟨V2, w2, hr, hM2⟩ := HM.out.app (by have := HN.out; omega) (s.extract f s.size)
        have HR := Lib.hid hr
        have HP : Hid (∃ V, Ending.returned (.tuple #[V2, .bool true]) = .returned (.tuple #[V, .bool (wordsS s).isSome]) ∧ Below w.heap.size w w2 ∧ Strs w2 w.heap.size V ((wordsS s).getD [])) := by
          refine ⟨V2, by rw [HE.out]; rfl, hM2.all.1, ?_⟩
          rw [HE.out]
          exact hM2.all.2
        have i1 : (0 : Int) ≤ (f : Int) := by omega
        have b2 : decide ((0 : Int) ≤ (f : Int)) = true := decide_eq_true i1
        have ic : f ≤ s.size := by have := HN.out.2.2.2.1 f rfl; have := HN.out; omega
        clear HE0 hr hM2
        simp only [fromV]
        go_wp2_with (at_builtin; refine wpList_append_run rfl (.tmp 52) (.tmp 56) 54 rfl _ (.slice (some ⟨_, 0, none⟩) 1 1) V2 w2 rfl rfl HR.out ?_)
        go_ret2
        exact HP.out
end Go.Proofs.YtpjfnnlopcccaaaDoor
namespace Go.Proofs.YtpjfnnlopcccaaaDoor
open Go Go.RowKit Go.Maps
set_option linter.unusedVariables false
set_option linter.unusedSimpArgs false
set_option maxRecDepth 100000
abbrev rp (r : Nat) : Value := .pointer (some ⟨r, 0, none⟩)
abbrev rdT : TypeId := 59
def isY (y : Nat) (b : Nat) : Prop := b = y
/-- The reader's mark is b; all else is as it was. -/
structure RD (w0 w : World) (y : Nat) (b : Bool) : Prop where
  blk : Blk w y rdT #[.bool b]
  keeps : Keeps (isY y) w0 w
theorem Keeps.iter {S : Nat → Prop} (w : World) (s : ByteArray) (pos : Nat) : Keeps S w (w.iter s pos) := (Keeps.refl S w).alloc _
theorem want_any {w : World} {y : Nat} {b : Bool} (h : Blk w y rdT #[.bool b]) (ok : Bool) :
    Calls Tryd.prog 54 #[rp y, .bool ok] w fun e w' => e = .returned (.tuple #[]) ∧ RD w w' y (b || !ok) := by
  have hc : w.cell? ⟨y, 0, none⟩ = some (.bool b) := h.cell 0
  have hz : w.frozen? ⟨y, 0, none⟩ = false := h.frozen 0
  have H := Lib.hid h
  clear h
  cases ok
  · have HP : Hid (RD w (w.setCell ⟨y, 0, none⟩ (.bool true)) y (b || !false)) := ⟨by have := H.out.set_ 0 (.bool true); simpa using this, Keeps.setCell (S := isY y) (p := ⟨y, 0, none⟩) (Keeps.refl (isY y) w) (.inl rfl) (.bool true)⟩
    go_enter Tryd.func54, Tryd.ntmps54
    go_wp2
    first
      | (go_end0; exact ⟨rfl, HP.out⟩)
      | exact bodyPost_ret (results_none rfl _ _ _) rfl ⟨rfl, HP.out⟩
  · have HP : Hid (RD w w y (b || !true)) := ⟨by have := H.out; simpa using this, Keeps.refl _ w⟩
    go_enter Tryd.func54, Tryd.ntmps54
    go_wp2
    first
      | (go_end0; exact ⟨rfl, HP.out⟩)
      | exact bodyPost_ret (results_none rfl _ _ _) rfl ⟨rfl, HP.out⟩
theorem RD.after {w w1 w2 : World} {y : Nat} {b : Bool} (h1 : Keeps (isY y) w w1) (hy : y < w.heap.size) (h : RD w1 w2 y b) : RD w w2 y b :=
  ⟨h.blk, h1.trans (h.keeps.mono fun _ hb => .inl hb)⟩
theorem number_any {w : World} {y : Nat} {b : Bool} (h : Blk w y rdT #[.bool b]) (below : Bool) (s : ByteArray) (bits : Nat) (hb : bits = 16 ∨ bits = 32) :
    Calls Tryd.prog 75 #[rp y, .bool below, .string s, .int .i64 bits] w fun e w' => e = .returned (.int .i64 ((signS below s bits).getD 0)) ∧ RD w w' y (b || !(signS below s bits).isSome) := by
  have C1 := Lib.hid (signed_any below s bits hb w)
  have HL : Hid (y < w.heap.size) := h.lt
  have C2 : Hid (∀ pos ok, Calls Tryd.prog 54 #[rp y, .bool ok] (w.iter s pos) fun e w' => e = .returned (.tuple #[]) ∧ RD (w.iter s pos) w' y (b || !ok)) := fun pos ok => want_any (h.alloc _) ok
  clear h hb
  generalize signS below s bits = o at *
  go_enter Tryd.func75, Tryd.ntmps75
  go_wp2_with (first
    | (go_at_call 90; refine C1.out.mono ?_; rintro e w1 ⟨he, pos, rfl⟩; simp only [signA] at he; subst he)
    | (go_at_call 54; refine (C2.out _ _).mono ?_; rintro e w2 ⟨rfl, hr⟩; have HR := Lib.hid hr; clear hr))
  go_ret
  exact ⟨rfl, HR.out.after (Keeps.iter w s _) HL.out⟩
end Go.Proofs.YtpjfnnlopcccaaaDoor
namespace Go.Proofs.YtpjfnnlopcccaaaDoor
open Go Go.RowKit Go.Maps
set_option linter.unusedVariables false
set_option linter.unusedSimpArgs false
set_option maxRecDepth 100000
theorem toList_data (s : ByteArray) : s.toList = s.data.toList := Lib.toList_data s
theorem size_list (s : ByteArray) : s.data.toList.length = s.size := (Lib.size_eq s).symm
theorem list_beq (a b : ByteArray) : (a.toList == b.toList) = decide (a.data.toList = b.data.toList) := by
  rw [toList_data, toList_data, Bool.eq_iff_iff]; simp
/-- Whether l begins with p. -/
def beginsB (l p : List UInt8) : Bool := decide (p.length ≤ l.length) && decide (l.take p.length = p)
set_option maxHeartbeats 1000000 in
theorem hasPrefixL_any (s p : ByteArray) (hs : s.size ≤ 4611686018427387904) (hp : p.size ≤ 4611686018427387904) (w : World) :
    Calls Tryd.prog 91 #[.string s, .string p] w fun e w' => e = .returned (.bool (beginsB s.data.toList p.data.toList)) ∧ w = w' := by
  by_cases h : p.size ≤ s.size
  · have g1 : decide (p.size ≤ s.size) = true := by simpa using h
    have hh : (p.size : Int) ≤ (s.size : Int) := by omega
    have e : ((s.extract 0 p.size).toList == p.toList) = beginsB s.data.toList p.data.toList := by
      rw [list_beq]
      unfold beginsB
      rw [size_list, size_list, g1]
      simp [ByteArray.data_extract, Array.toList_extract, List.extract, size_list]
    cases hB : beginsB s.data.toList p.data.toList
    all_goals
      rw [hB] at e
      go_enter Tryd.func91, Tryd.ntmps91
      go_wp2_with fail
      go_ret
      exact ⟨rfl, rfl⟩
  · have g1 : decide (p.size ≤ s.size) = false := by simpa using h
    have e : beginsB s.data.toList p.data.toList = false := by unfold beginsB; rw [size_list, size_list, g1]; rfl
    rw [e]
    clear e
    go_enter Tryd.func91, Tryd.ntmps91
    go_wp2_with fail
    go_ret
    exact ⟨rfl, rfl⟩
set_option maxHeartbeats 1000000 in
theorem hasPrefix_any (s p : ByteArray) (hs : s.size ≤ 4611686018427387904) (hp : p.size ≤ 4611686018427387904) (w : World) :
    Calls Tryd.prog 76 #[.string s, .string p] w fun e w' => e = .returned (.bool (beginsB s.data.toList p.data.toList)) ∧ w = w' := by
  have C0 := Lib.hid (fun w => hasPrefixL_any s p hs hp w)
  go_enter Tryd.func76, Tryd.ntmps76
  go_wp2_with (go_at_call 91; refine (C0.out _).mono ?_; rintro e w1 ⟨rfl, rfl⟩)
  go_ret
  exact ⟨rfl, rfl⟩
/-- A text behind its prefix. -/
def begins (s p : ByteArray) : Bool := beginsB s.data.toList p.data.toList
def behind (s p : ByteArray) : ByteArray := if begins s p = true then s.extract p.size s.size else s
theorem begins_le {s p : ByteArray} (h : begins s p = true) : p.size ≤ s.size := by
  unfold begins beginsB at h
  rw [Bool.and_eq_true, decide_eq_true_eq, size_list, size_list] at h
  exact h.1
set_option maxHeartbeats 1000000 in
theorem cutPrefixL_any (s p : ByteArray) (hs : s.size ≤ 4611686018427387904) (hp : p.size ≤ 4611686018427387904) (w : World) :
    Calls Tryd.prog 89 #[.string s, .string p] w fun e w' => e = .returned (.tuple #[.string (behind s p), .bool (begins s p)]) ∧ w = w' := by
  have C0 := Lib.hid (fun w => hasPrefixL_any s p hs hp w)
  have HB : Hid (behind s p = if begins s p = true then s.extract p.size s.size else s) := rfl
  have hle : begins s p = true → p.size ≤ s.size := begins_le
  change Hid (∀ w, Calls Tryd.prog 91 #[.string s, .string p] w fun e w' => e = .returned (.bool (begins s p)) ∧ w = w') at C0
  generalize begins s p = b at *
  cases b
  · rw [if_neg (by decide)] at HB
    clear hle hs hp
    go_enter Tryd.func89, Tryd.ntmps89
    go_wp2_with (go_at_call 91; refine (C0.out _).mono ?_; rintro e w1 ⟨rfl, rfl⟩)
    go_ret2
    exact ⟨by rw [HB.out]; rfl, rfl⟩
  · rw [if_pos rfl] at HB
    have hle' : p.size ≤ s.size := hle rfl
    clear hle hs hp
    go_enter Tryd.func89, Tryd.ntmps89
    go_wp2_with (go_at_call 91; refine (C0.out _).mono ?_; rintro e w1 ⟨rfl, rfl⟩)
    go_ret2
    exact ⟨by rw [HB.out]; rfl, rfl⟩
theorem cutPrefix_any (s p : ByteArray) (hs : s.size ≤ 4611686018427387904) (hp : p.size ≤ 4611686018427387904) (w : World) :
    Calls Tryd.prog 74 #[.string s, .string p] w fun e w' => e = .returned (.tuple #[.string (behind s p), .bool (begins s p)]) ∧ w = w' := by
  have C0 := Lib.hid (fun w => cutPrefixL_any s p hs hp w)
  go_enter Tryd.func74, Tryd.ntmps74
  go_wp2_with (go_at_call 89; refine (C0.out _).mono ?_; rintro e w1 ⟨rfl, rfl⟩)
  go_ret2
  exact ⟨rfl, rfl⟩
end Go.Proofs.YtpjfnnlopcccaaaDoor
namespace Go.Proofs.YtpjfnnlopcccaaaDoor
open Go Go.RowKit Go.Maps
set_option linter.unusedVariables false
set_option linter.unusedSimpArgs false
set_option maxRecDepth 100000
abbrev minusT : ByteArray := ⟨#[45]⟩
abbrev plusT : ByteArray := ⟨#[43]⟩
/-- The number with its sign that a word is; none: it is none of so many bits. -/
def immS (s : ByteArray) : Option Int := signS (begins s minusT) (behind s minusT) 32
theorem behind_le (s p : ByteArray) : (behind s p).size ≤ s.size := by
  unfold behind
  split
  · rw [ByteArray.size_extract]; omega
  · exact Nat.le_refl _
section
variable {w : World} {y : Nat} {b : Bool}
theorem immR_any (h : Blk w y rdT #[.bool b]) (s : ByteArray) (hs : s.size ≤ 4611686018427387904) :
    Calls Tryd.prog 56 #[rp y, .string s] w fun e w' => e = .returned (.int .i64 ((immS s).getD 0)) ∧ RD w w' y (b || !(immS s).isSome) := by
  have C0 := Lib.hid (cutPrefix_any s minusT hs (by decide) w)
  have C1 := Lib.hid (number_any h (begins s minusT) (behind s minusT) 32 (.inr rfl))
  change Hid (Calls Tryd.prog 75 _ _ fun e w' => e = .returned (.int .i64 ((immS s).getD 0)) ∧ RD w w' y (b || !(immS s).isSome)) at C1
  clear h hs
  generalize immS s = o at *
  generalize begins s minusT = bl at *
  generalize behind s minusT = u at *
  go_enter Tryd.func56, Tryd.ntmps56
  go_wp2_with (first
    | (go_at_call 74; refine C0.out.mono ?_; rintro e w1 ⟨rfl, rfl⟩)
    | (go_at_call 75; refine C1.out.mono ?_; rintro e w2 ⟨rfl, hr⟩; have HR := Lib.hid hr; clear hr))
  go_ret
  exact ⟨rfl, HR.out⟩
/-- How far a jump goes, with its sign. -/
def furtherS (s : ByteArray) : Option Int := if begins s minusT = true then signS true (behind s minusT) 16 else if begins s plusT = true then signS false (behind s plusT) 16 else none
/-- The register that a word with this letter ahead is. -/
def regS (s p : ByteArray) : Option Nat := if begins s p = true then digN 10 (behind s p) else none
end
end Go.Proofs.YtpjfnnlopcccaaaDoor
namespace Go.Proofs.YtpjfnnlopcccaaaDoor
open Go Go.RowKit Go.Maps
set_option linter.unusedVariables false
set_option linter.unusedSimpArgs false
set_option maxRecDepth 100000
theorem RD.then {w w1 w2 : World} {y : Nat} {b b' : Bool} (h1 : RD w w1 y b) (h : RD w1 w2 y b') : RD w w2 y b' :=
  ⟨h.blk, h1.keeps.trans (h.keeps.mono fun _ hb => .inl hb)⟩
theorem digS_le {most m : Nat} {s : ByteArray} (h9 : 9 ≤ most) : (digS most s).getD 0 ≤ most := by
  rcases h : digS most s with _ | n
  · exact Nat.zero_le _
  · exact digL_le h9 (Nat.zero_le _) h
/-- What register answers, whether or not it marks. -/
def regV (s p : ByteArray) : Nat := (digS 10 (behind s p)).getD 0
section
variable {w : World} {y : Nat} {b : Bool}
theorem register_any (h : Blk w y rdT #[.bool b]) (s p : ByteArray) (hs : s.size ≤ 4611686018427387904) (hp : p.size ≤ 4611686018427387904) :
    Calls Tryd.prog 52 #[rp y, .string p, .string s] w fun e w' => e = .returned (.int .i64 (regV s p)) ∧ RD w w' y (b || !(regS s p).isSome) := by
  have C0 := Lib.hid (cutPrefix_any s p hs hp w)
  have D := digits_any (behind s p) 10 (by decide) (by decide) w
  have hD : digA (behind s p) (digS 10 (behind s p)) = .returned (.tuple #[.int .u64 (regV s p : Int), .bool (digN 10 (behind s p)).isSome]) := by
    obtain ⟨n, h1, h2⟩ := digA_eq 10 (behind s p)
    unfold digA digN regV
    rw [isEmpty_size]
    by_cases h : (behind s p).size = 0
    · rw [if_pos h, decide_eq_true h]; simp
    · rw [if_neg h, decide_eq_false h]; simp
  rw [hD] at D
  have C1 := Lib.hid D
  have HL : Hid (y < w.heap.size) := h.lt
  have C2 : Hid (∀ pos ok, Calls Tryd.prog 54 #[rp y, .bool ok] (w.iter (behind s p) pos) fun e w' => e = .returned (.tuple #[]) ∧ RD (w.iter (behind s p) pos) w' y (b || !ok)) := fun pos ok => want_any (h.alloc _) ok
  have hv : regV s p ≤ 10 := digS_le (m := 0) (by decide)
  have e1 : IntKind.i64.wrap (regV s p : Int) = (regV s p : Int) := IntWalk.i64_in _ (by omega)
  have HR0 : Hid ((regS s p).isSome = (begins s p && (digN 10 (behind s p)).isSome)) := by
    unfold Hid regS
    cases begins s p <;> simp
  clear h hs hp D hD hv
  generalize (digN 10 (behind s p)).isSome = k at *
  generalize regV s p = v at *
  generalize behind s p = u at *
  generalize begins s p = bl at *
  generalize (regS s p).isSome = rs at *
  have hrs : rs = (bl && k) := HR0
  subst hrs
  clear HR0
  cases bl
  all_goals
    go_enter Tryd.func52, Tryd.ntmps52
    go_wp2_with (first
      | (go_at_call 74; refine C0.out.mono ?_; rintro e w1 ⟨rfl, rfl⟩)
      | (go_at_call 53; refine C1.out.mono ?_; rintro e w1 ⟨rfl, pos, rfl⟩)
      | (go_at_call 54; refine (C2.out _ _).mono ?_; rintro e w2 ⟨rfl, hr⟩; have HR := Lib.hid hr; clear hr))
    go_ret
    exact ⟨rfl, HR.out.after (Keeps.iter w u _) HL.out⟩
/-- What further answers, whether or not it marks. -/
def furtherV (s : ByteArray) : Int := if begins s minusT = true then (signS true (behind s minusT) 16).getD 0 else (signS false (behind s plusT) 16).getD 0
theorem further_any (h : Blk w y rdT #[.bool b]) (s : ByteArray) (hs : s.size ≤ 4611686018427387904) :
    Calls Tryd.prog 57 #[rp y, .string s] w fun e w' => e = .returned (.int .i64 (furtherV s)) ∧ RD w w' y (b || !(furtherS s).isSome) := by
  have C0 := Lib.hid (cutPrefix_any s minusT hs (by decide) w)
  have C1 := Lib.hid (cutPrefix_any s plusT hs (by decide) w)
  by_cases hm : begins s minusT = true
  · have C2 := Lib.hid (number_any h true (behind s minusT) 16 (.inl rfl))
    have e1 : furtherV s = (signS true (behind s minusT) 16).getD 0 := by unfold furtherV; rw [if_pos hm]
    have e2 : furtherS s = signS true (behind s minusT) 16 := by unfold furtherS; rw [if_pos hm]
    rw [e1, e2]
    rw [hm] at C0
    clear e1 e2 h hs hm C1
    generalize signS true (behind s minusT) 16 = o at *
    generalize behind s minusT = u at *
    go_enter Tryd.func57, Tryd.ntmps57
    go_wp2_with (first
      | (go_at_call 74; refine C0.out.mono ?_; rintro e w1 ⟨rfl, rfl⟩)
      | (go_at_call 75; refine C2.out.mono ?_; rintro e w2 ⟨rfl, hr⟩; have HR := Lib.hid hr; clear hr))
    go_ret
    exact ⟨rfl, HR.out⟩
  · have hm' : begins s minusT = false := by simpa using hm
    have C2 := Lib.hid (fun b w (h : Blk w y rdT #[.bool b]) => number_any h false (behind s plusT) 16 (.inl rfl))
    have C3 := Lib.hid (want_any h (begins s plusT))
    have e1 : furtherV s = (signS false (behind s plusT) 16).getD 0 := by unfold furtherV; rw [if_neg hm]
    have e2 : (furtherS s).isSome = (begins s plusT && (signS false (behind s plusT) 16).isSome) := by unfold furtherS; rw [if_neg hm]; cases begins s plusT <;> simp
    rw [e1, e2]
    rw [hm'] at C0
    clear e1 e2 h hs hm hm'
    generalize signS false (behind s plusT) 16 = o at *
    generalize behind s plusT = u at *
    generalize begins s plusT = bl at *
    generalize behind s minusT = u2 at *
    go_enter Tryd.func57, Tryd.ntmps57
    go_wp2_with (first
      | (go_at_call 74; first
        | (refine C0.out.mono ?_; clear C0; rintro e w1 ⟨rfl, rfl⟩)
        | (refine C1.out.mono ?_; rintro e w1 ⟨rfl, rfl⟩))
      | (go_at_call 54; refine C3.out.mono ?_; rintro e w1 ⟨rfl, hr⟩; have HR1 := Lib.hid hr; clear hr)
      | (go_at_call 75; refine (C2.out _ _ HR1.out.blk).mono ?_; rintro e w2 ⟨rfl, hr⟩; have HR := Lib.hid hr; clear hr))
    go_ret
    refine ⟨rfl, ?_⟩
    have := HR1.out.then HR.out
    cases b <;> cases bl <;> simpa using this
end
end Go.Proofs.YtpjfnnlopcccaaaDoor
namespace Go.Proofs.YtpjfnnlopcccaaaDoor
open Go Go.RowKit Go.Maps
set_option linter.unusedVariables false
set_option linter.unusedSimpArgs false
set_option maxRecDepth 100000
abbrev inT : TypeId := 44
abbrev inC (op dst src off imm : Int) : Array Value := #[.int .i64 op, .int .i64 dst, .int .i64 src, .int .i64 off, .int .i64 imm]
/-- What one of the words says of a slot: a register of this letter, or a number. -/
structure Sec where
  reg : Bool
  src : Int
  imm : Int
  ok : Bool
def secS (s p : ByteArray) (src imm : Int) : Sec :=
  if begins s p = true then ⟨true, regV s p, imm, (regS s p).isSome⟩ else ⟨false, src, (immS s).getD 0, (immS s).isSome⟩
/-- The reader's mark, a slot of its own; all else is as it was. -/
structure RI (w0 w : World) (y z : Nat) (b : Bool) (op dst src off imm : Int) : Prop where
  blk : Blk w y rdT #[.bool b]
  slot : Blk w z inT (inC op dst src off imm)
  keeps : Keeps (fun k => k = y ∨ k = z) w0 w
theorem second_any {w : World} {y z : Nat} {b : Bool} {op dst src off imm : Int} (h : Blk w y rdT #[.bool b]) (hi : Blk w z inT (inC op dst src off imm)) (s p : ByteArray) (hs : s.size ≤ 4611686018427387904) (hp : p.size ≤ 4611686018427387904) :
    Calls Tryd.prog 77 #[rp y, rp z, .string p, .string s] w fun e w' => e = .returned (.bool (secS s p src imm).reg) ∧ RI w w' y z (b || !(secS s p src imm).ok) op dst (secS s p src imm).src off (secS s p src imm).imm := by
  have hne : y ≠ z := h.ne_ hi (by decide)
  have C0 : Hid (Calls Tryd.prog 76 #[.string s, .string p] w fun e w' => e = .returned (.bool (begins s p)) ∧ w = w') := hasPrefix_any s p hs hp w
  have HZ := Lib.hid hi
  have hc2 : w.cell? ⟨z, 2, none⟩ = some (.int .i64 src) := hi.cell 2
  have hc4 : w.cell? ⟨z, 4, none⟩ = some (.int .i64 imm) := hi.cell 4
  by_cases hb : begins s p = true
  · have C1 := Lib.hid (register_any h s p hs hp)
    have e1 : secS s p src imm = ⟨true, regV s p, imm, (regS s p).isSome⟩ := by unfold secS; rw [if_pos hb]
    rw [e1]
    rw [hb] at C0
    simp only
    clear e1 h hi hs hp hb
    generalize (regS s p).isSome = k at *
    generalize regV s p = v at *
    have HN := Lib.hid hne
    clear hne hc2 hc4
    have step : ∀ w2, RD w w2 y (b || !k) → RI w (w2.setCell ⟨z, 2, none⟩ (.int .i64 v)) y z (b || !k) op dst v off imm ∧ w2.cell? ⟨z, 2, none⟩ = some (.int .i64 src) ∧ w2.frozen? ⟨z, 2, none⟩ = false := by
      intro w2 h2
      have hz : Blk w2 z inT (inC op dst src off imm) := HZ.out.keeps h2.keeps (fun e => HN.out e.symm)
      refine ⟨⟨h2.blk.far (p := ⟨z, 2, none⟩) HN.out _, ?_, ?_⟩, hz.cell 2, hz.frozen 2⟩
      · have := hz.set_ 2 (.int .i64 v)
        simpa [inC] using this
      · exact (h2.keeps.mono fun _ hb => .inl hb).setCell (p := ⟨z, 2, none⟩) (.inl (.inr rfl)) _
    have HS := Lib.hid step
    clear step
    go_enter Tryd.func77, Tryd.ntmps77
    go_wp2_with (first
      | (go_at_call 76; refine C0.out.mono ?_; rintro e w1 ⟨rfl, rfl⟩)
      | (go_at_call 52; refine C1.out.mono ?_; rintro e w2 ⟨rfl, hr⟩; obtain ⟨h1, h2, h3⟩ := HS.out _ hr; have HR := Lib.hid h1; clear hr h1))
    go_ret
    exact ⟨rfl, HR.out⟩
  · have hb' : begins s p = false := by simpa using hb
    have C1 := Lib.hid (immR_any h s hs)
    have e1 : secS s p src imm = ⟨false, src, (immS s).getD 0, (immS s).isSome⟩ := by unfold secS; rw [if_neg hb]
    rw [e1]
    rw [hb'] at C0
    simp only
    clear e1 h hi hs hp hb hb'
    generalize (immS s).isSome = k at *
    generalize (immS s).getD 0 = v at *
    have HN := Lib.hid hne
    clear hne hc2 hc4
    have step : ∀ w2, RD w w2 y (b || !k) → RI w (w2.setCell ⟨z, 4, none⟩ (.int .i64 v)) y z (b || !k) op dst src off v ∧ w2.cell? ⟨z, 4, none⟩ = some (.int .i64 imm) ∧ w2.frozen? ⟨z, 4, none⟩ = false := by
      intro w2 h2
      have hz : Blk w2 z inT (inC op dst src off imm) := HZ.out.keeps h2.keeps (fun e => HN.out e.symm)
      refine ⟨⟨h2.blk.far (p := ⟨z, 4, none⟩) HN.out _, ?_, ?_⟩, hz.cell 4, hz.frozen 4⟩
      · have := hz.set_ 4 (.int .i64 v)
        simpa [inC] using this
      · exact (h2.keeps.mono fun _ hb => .inl hb).setCell (p := ⟨z, 4, none⟩) (.inl (.inr rfl)) _
    have HS := Lib.hid step
    clear step
    go_enter Tryd.func77, Tryd.ntmps77
    go_wp2_with (first
      | (go_at_call 76; refine C0.out.mono ?_; rintro e w1 ⟨rfl, rfl⟩)
      | (go_at_call 56; refine C1.out.mono ?_; rintro e w2 ⟨rfl, hr⟩; obtain ⟨h1, h2, h3⟩ := HS.out _ hr; have HR := Lib.hid h1; clear hr h1))
    go_ret
    exact ⟨rfl, HR.out⟩
end Go.Proofs.YtpjfnnlopcccaaaDoor
namespace Go.Proofs.YtpjfnnlopcccaaaDoor
open Go Go.RowKit Go.Maps
set_option linter.unusedVariables false
set_option linter.unusedSimpArgs false
set_option maxRecDepth 100000
abbrev wholeT : ByteArray := ⟨#[114]⟩
abbrev lowerT : ByteArray := ⟨#[119]⟩
def letterS (class_ : Int) : ByteArray := if class_ = 4 ∨ class_ = 6 then lowerT else wholeT
def extendsS (class_ off : Int) : Bool := decide (off = 8 ∨ off = 16 ∨ (off = 32 ∧ class_ = 7))
def lockedS (size : Int) : Bool := decide (size = 0 ∨ size = 24)
theorem letterOf_any (class_ : Int) (w : World) : Calls Tryd.prog 45 #[.int .i64 class_] w fun e w' => e = .returned (.string (letterS class_)) ∧ w = w' := by
  by_cases h4 : class_ = 4
  · subst h4
    go_enter Tryd.func45, Tryd.ntmps45
    go_wp2_with fail
    go_ret
    exact ⟨rfl, rfl⟩
  by_cases h6 : class_ = 6
  · subst h6
    go_enter Tryd.func45, Tryd.ntmps45
    go_wp2_with fail
    go_ret
    exact ⟨rfl, rfl⟩
  have e : letterS class_ = wholeT := by unfold letterS; rw [if_neg]; rintro (h | h) <;> contradiction
  have b4 : (class_ == 4) = false := by simpa using h4
  have b6 : (class_ == 6) = false := by simpa using h6
  rw [e]
  clear e h4 h6
  go_enter Tryd.func45, Tryd.ntmps45
  go_wp2_with fail
  go_ret
  exact ⟨rfl, rfl⟩
theorem locked_any (size : Int) (w : World) : Calls Tryd.prog 42 #[.int .i64 size] w fun e w' => e = .returned (.bool (lockedS size)) ∧ w = w' := by
  by_cases h4 : size = 0
  · subst h4
    go_enter Tryd.func42, Tryd.ntmps42
    go_wp2_with fail
    go_ret
    exact ⟨rfl, rfl⟩
  by_cases h6 : size = 24
  · subst h6
    go_enter Tryd.func42, Tryd.ntmps42
    go_wp2_with fail
    go_ret
    exact ⟨rfl, rfl⟩
  have e : lockedS size = false := by unfold lockedS; rw [decide_eq_false]; rintro (h | h) <;> contradiction
  have b4 : (size == 0) = false := by simpa using h4
  have b6 : (size == 24) = false := by simpa using h6
  rw [e]
  clear e h4 h6
  go_enter Tryd.func42, Tryd.ntmps42
  go_wp2_with fail
  go_ret
  exact ⟨rfl, rfl⟩
theorem extends_any (class_ off : Int) (w : World) : Calls Tryd.prog 46 #[.int .i64 class_, .int .i64 off] w fun e w' => e = .returned (.bool (extendsS class_ off)) ∧ w = w' := by
  by_cases h8 : off = 8
  · subst h8
    have e : extendsS class_ 8 = true := by unfold extendsS; simp
    rw [e]
    clear e
    go_enter Tryd.func46, Tryd.ntmps46
    go_wp2_with fail
    go_ret
    exact ⟨rfl, rfl⟩
  by_cases h16 : off = 16
  · subst h16
    have e : extendsS class_ 16 = true := by unfold extendsS; simp
    rw [e]
    clear e
    go_enter Tryd.func46, Tryd.ntmps46
    go_wp2_with fail
    go_ret
    exact ⟨rfl, rfl⟩
  have b8 : (off == 8) = false := by simpa using h8
  have b16 : (off == 16) = false := by simpa using h16
  by_cases h32 : off = 32
  · subst h32
    have e : extendsS class_ 32 = (class_ == 7) := by unfold extendsS; simp; rfl
    rw [e]
    clear e b8 b16 h8 h16
    generalize hc : (class_ == 7) = k at *
    cases k
    all_goals
      go_enter Tryd.func46, Tryd.ntmps46
      go_wp2_with fail
      go_ret
      exact ⟨rfl, rfl⟩
  have b32 : (off == 32) = false := by simpa using h32
  have e : extendsS class_ off = false := by unfold extendsS; rw [decide_eq_false]; rintro (h | h | h) <;> simp_all
  rw [e]
  clear e h8 h16 h32
  go_enter Tryd.func46, Tryd.ntmps46
  go_wp2_with fail
  go_ret
  exact ⟨rfl, rfl⟩
end Go.Proofs.YtpjfnnlopcccaaaDoor
