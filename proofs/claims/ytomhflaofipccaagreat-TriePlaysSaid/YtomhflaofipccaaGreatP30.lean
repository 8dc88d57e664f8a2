/-
  The reference of layer 11: a row of entries. The reference of layer 11: find. The reference of layer 11: a table and its memory, from a world on. The reference of layer 11: a row without an entry. A row of bytes that was made out of a text: it may have room behind, and a mark past its end.
-/
import Derived.Test.YtomhflaofipccaaGreatP26
import Derived.Test.YtomhflaofipccaaGreatP22
import Derived.Test.YtomhflaofipccaaGreatP21
import Derived.Maps.AppendAt
import Derived.Laws.OwnMore
import Derived.Lib.Hide
import Derived.IntWalk
import Derived.WalkSpells
import Derived.BigQuiet
import Derived.Deep.QuietTactic
import Derived.Deep.Cut
import Derived.Deep.RegionHeld3
import Derived.Deep.RegionLaw
import Derived.Outline
import Derived.Laws.IdiomStrings
import Derived.Laws.AppendOwn
namespace Go.Proofs.YtomhflaofipccaaGreat
open Go Go.RowKit Go.Maps
set_option linter.unusedVariables false
set_option linter.unusedSimpArgs false
/-- An entry's cells. -/
def entC (e : Ent) : List Value := [.string e.key, .int .u64 (addr e.n 0)]
def entsC (es : List Ent) : List Value := es.flatMap entC
theorem entsC_length (es : List Ent) : (entsC es).length = es.length * 2 := by
  induction es with
  | nil => rfl
  | cons e es ih => rw [entsC, List.flatMap_cons, List.length_append, ← entsC, ih]; simp [entC]; omega
theorem entsC_get : ∀ {es : List Ent} {i : Nat} {e : Ent} (j : Nat), es[i]? = some e → j < 2 → (entsC es)[i * 2 + j]? = (entC e)[j]?
  | [], i, e, j, h, _ => by simp at h
  | e' :: es, 0, e, j, h, hj => by
    simp at h
    subst h
    rw [entsC, List.flatMap_cons, List.getElem?_append_left (by simp [entC]; omega), Nat.zero_mul, Nat.zero_add]
  | e' :: es, i + 1, e, j, h, hj => by
    rw [entsC, List.flatMap_cons, List.getElem?_append_right (by simp [entC]; omega), ← entsC, ← entsC_get (es := es) (i := i) (e := e) j (by simpa using h) hj]
    congr 1
    simp [entC]
    omega
theorem entsC_append (a b : List Ent) : entsC (a ++ b) = entsC a ++ entsC b := List.flatMap_append
theorem entsC_one (es : List Ent) (u : Value) (h : u ∈ entsC es) : u.oneCell' = true := by
  simp only [entsC, List.mem_flatMap, entC, List.mem_cons, List.not_mem_nil, or_false] at h
  obtain ⟨e, _, rfl | rfl⟩ := h <;> rfl
/-- A row of entries, of a call's own. -/
abbrev entT : TypeId := 82
abbrev entsT : TypeId := 54
abbrev rT : TypeId := 56
abbrev rC (bx : Nat) (k key v mx : Int) (V : Value) (gone : Bool) : Array Value := #[.pointer (some ⟨bx, 0, none⟩), .int .i64 k, .int .i64 key, .int .i64 v, .int .i64 mx, V, .bool gone]
abbrev Ents (w : World) (V : Value) (es : List Ent) : Prop := w.ownsRow 0 entT 2 V es.length (entsC es)
theorem infoE : (Tryz.prog.info? entT).map (fun i => (i.zero, i.size, i.bytes)) = some (some (.agg #[.string ⟨#[]⟩, .int .u64 0]), 2, 24) := by kernel_rfl
theorem ents_form {w : World} {V : Value} {es : List Ent} (h : Ents w V es) :
    (V = .slice none 0 0 ∧ es = []) ∨ ∃ g c cur, V = .slice (some ⟨g, 0, none⟩) es.length c ∧ es.length ≤ c ∧ c ≤ maxLen ∧ Blk w g entT cur ∧ ∀ i u, (entsC es)[i]? = some u → w.cell? ⟨g, i, none⟩ = some u := by
  rcases h.2 with ⟨h1, h2⟩ | ⟨g, cap, cur, rfl, hb, hg, h1, h2, h3, h4⟩
  · exact .inl ⟨h1, List.length_eq_zero_iff.1 h2⟩
  · refine .inr ⟨g, cap, cur, rfl, h1, h2, hg, fun i u hi => ?_⟩
    have := h.cells (g := g) rfl i u hi
    rwa [show (⟨g, 0, none⟩ : Addr).add i = ⟨g, i, none⟩ by unfold Addr.add; split <;> simp_all] at this
theorem ents_keeps {S : Nat → Prop} {w w' : World} {V : Value} {es : List Ent} (h : Ents w V es) (hk : Keeps S w w') (hS : ∀ g, V.ownBlock = some g → ¬ S g) : Ents w' V es := by
  refine ⟨h.1, h.2.imp id ?_⟩
  rintro ⟨g, cap, cur, rfl, h1, h2, rest⟩
  exact ⟨g, cap, cur, rfl, h1, Blk.keeps h2 hk (hS g rfl), rest⟩
theorem ents_append {w : World} {V : Value} {c : Nat} {N M : List Ent} {A : Option Addr} (ho : Ents w V N) (hY : ∀ i u, (entsC M)[i]? = some u → ∃ b o, A = some ⟨b, o, none⟩ ∧ w.cell? ⟨b, o + i, none⟩ = some u) (hA : A = none → M = [] ∧ c = 0) (hsp : ∀ a, A = some a → ∃ b o, a = ⟨b, o, none⟩) (hnm : N.length + M.length ≤ 1048576) :
    ∃ V' w', (∀ ty, (Builtin.append_ #[entsT, entsT] ty #[V, .slice A M.length c]).run Tryz.prog w = .ok V' w') ∧ Ents w' V' (N ++ M) ∧ w.grownBy w' V.ownBlock ∧ (V'.ownBlock = V.ownBlock ∨ V'.ownBlock = some w.heap.size) := by
  obtain ⟨i0, hi, hz0, hz1, hz2⟩ := info_parts infoE
  rcases A with _ | ad
  · obtain ⟨rfl, rfl⟩ := hA rfl
    refine ⟨V, w, fun ty => run_append_owned_none w 0 _ _ _ i0 2 Tryz.underlying54 hi V _ _ ho, ?_, ⟨rfl, rfl, rfl, Nat.le_refl _, fun _ _ _ => rfl⟩, .inl rfl⟩
    rw [List.append_nil]
    exact ho
  · obtain ⟨b, o, rfl⟩ := hsp ad rfl
    obtain ⟨V', w', hr, h1, h2, _, h4⟩ := run_append_own_at (P := Tryz.prog) w 0 entsT entsT entT i0 (.agg #[.string ⟨#[]⟩, .int .u64 0]) 2 24 Tryz.underlying54 hi hz0 hz1 hz2 rfl (by decide) V _ _ ho ⟨b, o, none⟩ M.length c (entsC M) (entsC_length M) (fun j u hj => by
      obtain ⟨b', o', e, hc⟩ := hY j u hj
      cases e
      rw [Go.WideShapes.add_plain]
      exact hc) (entsC_one M) (by unfold maxLen; omega) (by omega) (Nat.zero_le _)
    refine ⟨V', w', fun ty => by rw [← hr]; rfl, ?_, h2, h4⟩
    unfold Ents
    rw [entsC_append, List.length_append]
    exact h1
end Go.Proofs.YtomhflaofipccaaGreat
namespace Go.Proofs.YtomhflaofipccaaGreat
open Go Go.RowKit Go.Maps
set_option linter.unusedVariables false
set_option linter.unusedSimpArgs false
set_option maxRecDepth 100000
theorem ret_i {k : IntKind} {a b : Int} (h : a = b) : Ending.returned (.int k a) = .returned (.int k b) := by rw [h]
theorem below_drewNh (w : World) (n : Nat) : Below w.heap.size w (w.drewN n) := ⟨rfl, rfl, rfl, Nat.le_refl _, fun _ _ => rfl⟩
section
variable {w : World} {y g c : Nat} {bx : Nat} {k key v mx : Int} {gone : Bool} {es : List Ent}
/-- Entry i's cells. -/
theorem ents_cells {i : Nat} {e : Ent} (h : Ents w (.slice (some ⟨g, 0, none⟩) es.length c) es) (he : es[i]? = some e) :
    w.cell? ⟨g, i * 2, none⟩ = some (.string e.key) ∧ w.cell? ⟨g, i * 2 + 1, none⟩ = some (.int .u64 (addr e.n 0)) := by
  rcases ents_form h with ⟨h1, _⟩ | ⟨g', c', cur, e1, _, _, _, hc⟩
  · cases h1
  · cases e1
    exact ⟨hc (i * 2) _ (entsC_get 0 he (by decide)), hc (i * 2 + 1) _ (entsC_get 1 he (by decide))⟩
set_option maxHeartbeats 1000000 in
theorem xfind_any {V : Value} (hy : Blk w y rT (rC bx k key v mx V gone)) (h : Ents w V es) (hl : es.length ≤ 1048576) (s : ByteArray) :
    Calls Tryz.prog 36 #[tp y, .string s] w fun e w' => e = .returned (.int .i64 (findI es s)) ∧ w = w' := by
  rcases ents_form h with ⟨rfl, rfl⟩ | ⟨g, c, cur, rfl, hlc, hcm, hg, hcells⟩
  · have c5 : w.cell? ⟨y, 5, none⟩ = some (.slice none 0 0) := hy.cell 5
    clear hy h hl
    go_enter Tryz.func36, Tryz.ntmps36
    go_wp2_with fail
    go_loopw [5] (fun i wr => i = .int .i64 0 ∧ wr = w) (fun _ _ => 0)
    case atStart => exact ⟨rfl, rfl⟩
    case round =>
      obtain ⟨rfl, rfl⟩ := hrel
      go_wp2_with fail
      go_ret
      exact ⟨rfl, rfl⟩
  · have H := Lib.hid h
    have c5 : w.cell? ⟨y, 5, none⟩ = some (.slice (some ⟨g, 0, none⟩) es.length c) := hy.cell 5
    obtain ⟨n, hn⟩ : ∃ n, es.length = n := ⟨_, rfl⟩
    have HN := Lib.hid hn
    rw [hn] at c5 hl
    clear hy h hcells hlc hcm hn hg
    go_enter Tryz.func36, Tryz.ntmps36
    go_wp2_with fail
    go_loopw [5] (fun i wr => ∃ j : Nat, j ≤ n ∧ i = .int .i64 j ∧ wr = w ∧ findE (es.take j) s = none) (fun i _ => n - (intOf i).toNat)
    case atStart => exact ⟨0, by omega, rfl, rfl, rfl⟩
    case round =>
      obtain ⟨j, hj, rfl, hw, hf⟩ := hrel
      obtain rfl : w = wr := hw.symm
      have HF := Lib.hid hf; clear hf
      by_cases hjn : j < n
      · obtain ⟨e, he⟩ : ∃ e, es[j]? = some e := ⟨_, List.getElem?_eq_getElem (by rw [HN.out]; exact hjn)⟩
        have HE := Lib.hid he
        have d0 : w.cell? ⟨g, j * 2, none⟩ = some (.string e.key) := (ents_cells H.out he).1
        clear he
        have g1 : decide (j < n) = true := by simpa using hjn
        have i1 : (j : Int) < (n : Int) := by omega
        cases hk : (e.key.toList == s.toList)
        · have HK := Lib.hid hk
          go_wp2_with fail
          go_roundw
          case rel => exact ⟨j + 1, by omega, by go_num, trivial, find_step HF.out HE.out HK.out⟩
          case measure => simp [intOf]; omega
        · have HK := Lib.hid hk
          have HA : Hid (findI es s = (j : Int)) := by unfold findI; rw [find_at HF.out HE.out HK.out]; rfl
          go_wp2_with fail
          go_ret
          exact ⟨ret_i HA.out.symm, rfl⟩
      · obtain rfl : j = n := by omega
        have HA : Hid (findI es s = -1) := by
          have := HF.out
          rw [List.take_of_length_le (by rw [HN.out]; exact Nat.le_refl _)] at this
          unfold findI; rw [this]; rfl
        go_wp2_with fail
        go_ret
        exact ⟨ret_i HA.out.symm, rfl⟩
end
end Go.Proofs.YtomhflaofipccaaGreat
namespace Go.Proofs.YtomhflaofipccaaGreat
open Go Go.RowKit Go.Maps
set_option linter.unusedVariables false
set_option linter.unusedSimpArgs false
set_option maxRecDepth 100000
abbrev rowC (p : HPar) (s : HSt) (V : Value) : Array Value := rC p.bx p.k p.key p.v p.mx V s.gone
/-- A table of the reference lies in the blocks of Q, its memory's and its own. -/
structure YAt (p : HPar) (s : HSt) (Q T : Nat → Prop) (V : Value) (w : World) : Prop where
  ql : ∀ b, Q b → b < w.heap.size
  qy : Q p.y
  side : XSide w T p.bx s.m
  tq : ∀ b, T b → Q b
  ty : ¬ T p.y
  map : Blk w p.y rT (rowC p s V)
  ents : Ents w V s.es
  own : ∀ g, V.ownBlock = some g → Q g ∧ ¬ T g ∧ g ≠ p.y
def YH (p : HPar) (s : HSt) (Q : Nat → Prop) (w : World) : Prop := ∃ T V, YAt p s Q T V w
/-- .. from world w0 and its blocks Q0 on. -/
structure YS (p : HPar) (w0 : World) (Q0 : Nat → Prop) (s : HSt) (T : Nat → Prop) (V : Value) (w : World) : Prop where
  keeps : Keeps Q0 w0 w
  ql : ∀ b, Q0 b → b < w0.heap.size
  qy : Q0 p.y
  side : XSide w T p.bx s.m
  tq : ∀ b, T b → Q0 b ∨ w0.heap.size ≤ b
  ty : ¬ T p.y
  map : Blk w p.y rT (rowC p s V)
  ents : Ents w V s.es
  own : ∀ g, V.ownBlock = some g → (Q0 g ∨ w0.heap.size ≤ g) ∧ ¬ T g ∧ g ≠ p.y
section
variable {p : HPar} {w0 w w' : World} {Q Q0 U T T' : Nat → Prop} {s s' : HSt} {V V' : Value}
theorem YAt.start (h : YAt p s Q T V w) : YS p w Q s T V w := ⟨Keeps.refl _ _, h.ql, h.qy, h.side, fun b hb => .inl (h.tq b hb), h.ty, h.map, h.ents, fun g hg => ⟨.inl (h.own g hg).1, (h.own g hg).2⟩⟩
theorem own_lt {es : List Ent} (h : Ents w V es) {g : Nat} (hg : V.ownBlock = some g) : g < w.heap.size := by
  rcases ents_form h with ⟨rfl, _⟩ | ⟨g', c, cur, rfl, _, _, hb, _⟩
  · cases hg
  · cases hg; exact hb.lt
theorem YS.done (h : YS p w0 Q0 s T V w) : YH p s (more Q0 w0 w) w ∧ Keeps Q0 w0 w := by
  refine ⟨⟨T, V, ?_, .inl h.qy, h.side, fun b hb => (h.tq b hb).imp id fun hz => ⟨hz, h.side.lt' b hb⟩, h.ty, h.map, h.ents, fun g hg => ⟨(h.own g hg).1.imp id fun hz => ⟨hz, own_lt h.ents hg⟩, (h.own g hg).2⟩⟩, h.keeps⟩
  rintro b (hb | ⟨_, hb⟩)
  · exact Nat.lt_of_lt_of_le (h.ql b hb) h.keeps.size
  · exact hb
/-- Whom a table's own statements write. -/
def ownY (p : HPar) (V : Value) (b : Nat) : Prop := b = p.y ∨ V.ownBlock = some b
theorem YS.local_ (h : YS p w0 Q0 s T V w) (hm : s'.m = s.m) (k : Keeps (ownY p V) w w') (map' : Blk w' p.y rT (rowC p s' V')) (ents' : Ents w' V' s'.es) (own' : ∀ g, V'.ownBlock = some g → V.ownBlock = some g ∨ w.heap.size ≤ g) : YS p w0 Q0 s' T V' w' := by
  have hT : ∀ b, T b → ¬ ownY p V b := fun b hb hu => by
    rcases hu with rfl | hu
    · exact h.ty hb
    · exact (h.own b hu).2.1 hb
  refine ⟨h.keeps.trans (k.mono ?_), h.ql, h.qy, by rw [hm]; exact h.side.keeps' k hT, h.tq, h.ty, map', ents', fun g hg => ?_⟩
  · rintro b (rfl | hu)
    · exact .inl h.qy
    · exact (h.own b hu).1.imp id fun hz => ⟨hz, own_lt h.ents hu⟩
  · rcases own' g hg with hu | hz
    · exact h.own g hu
    · refine ⟨.inr (Nat.le_trans h.keeps.size hz), fun ht => ?_, fun e => ?_⟩
      · have := h.side.lt' g ht; omega
      · have := h.map.lt; omega
theorem YS.mem_ {m' : PS} (h : YS p w0 Q0 s T V w) (hk : XSide w' (more T w w') p.bx m') (kk : Keeps T w w') : YS p w0 Q0 { s with m := m' } (more T w w') V w' := by
  have hz := h.keeps.size
  refine ⟨h.keeps.trans (kk.mono fun b hb => (h.tq b hb).imp id fun hz => ⟨hz, h.side.lt' b hb⟩), h.ql, h.qy, hk, ?_, ?_, h.map.keeps kk h.ty, ents_keeps h.ents kk (fun g hg => (h.own g hg).2.1), fun g hg => ⟨(h.own g hg).1, ?_, (h.own g hg).2.2⟩⟩
  · rintro b (hb | ⟨hb, _⟩)
    · exact h.tq b hb
    · exact .inr (by omega)
  · rintro (hb | ⟨hb, _⟩)
    · exact h.ty hb
    · have := h.map.lt; omega
  · rintro (hb | ⟨hb, _⟩)
    · exact (h.own g hg).2.1 hb
    · have := own_lt h.ents hg; omega
theorem YS.quiet (h : YS p w0 Q0 s T V w) (hb : Keeps (fun _ => False) w w') : YS p w0 Q0 s T V w' :=
  h.local_ rfl (hb.mono fun _ hf => hf.elim) (h.map.keeps hb (fun hf => hf)) (ents_keeps h.ents hb (fun _ _ hf => hf)) (fun g hg => .inl hg)
theorem YS.drewN (h : YS p w0 Q0 s T V w) (n : Nat) : YS p w0 Q0 s T V (w.drewN n) := h.quiet ⟨rfl, rfl, rfl, Nat.le_refl _, fun _ _ _ => rfl⟩
theorem YS.drew (h : YS p w0 Q0 s T V w) : YS p w0 Q0 s T V w.drew := h.quiet ⟨rfl, rfl, rfl, Nat.le_refl _, fun _ _ _ => rfl⟩
theorem YS.call {m' : PS} {f : FuncId} {args : Array Value} {e0 : Ending} (h : YS p w0 Q0 s T V w) (c : XCall f args p.bx s.m m' e0) :
    Calls Tryz.prog f args w fun e w' => e = e0 ∧ ∃ T', YS p w0 Q0 { s with m := m' } T' V w' := by
  refine (c w T h.side).mono ?_
  rintro e w' ⟨rfl, hk, kk⟩
  exact ⟨rfl, _, h.mem_ hk kk⟩
/-- A row that holds entries. -/
theorem YS.row (h : YS p w0 Q0 s T V w) (h0 : s.es ≠ []) : ∃ g c, V = .slice (some ⟨g, 0, none⟩) s.es.length c ∧ s.es.length ≤ c ∧ c ≤ maxLen := by
  rcases ents_form h.ents with ⟨_, h1⟩ | ⟨g, c, cur, rfl, h1, h2, _⟩
  · exact absurd h1 h0
  · exact ⟨g, c, rfl, h1, h2⟩
theorem YS.shape (h : YS p w0 Q0 s T V w) : ∃ A c, V = .slice A s.es.length c := by
  rcases ents_form h.ents with ⟨h1, h2⟩ | ⟨g, c, cur, rfl, _⟩
  · exact ⟨none, 0, by rw [h1, h2]; rfl⟩
  · exact ⟨_, c, rfl⟩
theorem YS.find (h : YS p w0 Q0 s T V w) (hl : s.es.length ≤ 4096) (key : ByteArray) :
    Calls Tryz.prog 36 #[tp p.y, .string key] w fun e w' => e = .returned (.int .i64 (findI s.es key)) ∧ w = w' := xfind_any h.map h.ents (by omega) key
end
end Go.Proofs.YtomhflaofipccaaGreat
namespace Go.Proofs.YtomhflaofipccaaGreat
open Go Go.RowKit Go.Maps
set_option linter.unusedVariables false
set_option linter.unusedSimpArgs false
set_option maxRecDepth 100000
theorem step_append_run' {P : Program} {ops : Array Oper} {o : Oper} {a : Act} {w : World} {K : Act → World → Prop} {Q : Exit → Act → World → Prop} {E : Prop} (hg : o.guard = none) (s x : Operand) (t : TypeId)
    (hop : o.op = Op.call { callee := Callee.builtin Builtin.append, args := #[s, x], argTypes := #[t, t] }) (v xv v' : Value) (w' : World) (hs : a.eval s = v) (hx : a.eval x = xv) (hrun : ∀ ty, (Builtin.append_ #[t, t] ty #[v, xv]).run P w = .ok v' w') (hK : K (a.put o.dst v') w') :
    if Region.wanted o (yielded ops a.tmps) = true then Oper.wp P o a w K Q else E := by
  have hw : Region.wanted o (yielded ops a.tmps) = true := by simp [Region.wanted, hg]
  rw [if_pos hw]
  unfold Oper.wp
  simp [execOp, hop, resolve, invoke, builtin, hs, hx, hrun, Result.andThen]
  exact hK
theorem sizeE (w : World) : (sizeOf (Tryz.prog.elem entsT)).run Tryz.prog w = .ok 2 w := by kernel_rfl
theorem elemE : Tryz.prog.underlying entsT = some (.slice (Tryz.prog.elem entsT)) := by kernel_rfl
theorem slice_headE (g n c q : Nat) (hq : q ≤ c) (w : World) : (Instr.slice entsT (.slice (some ⟨g, 0, none⟩) n c) none (some (.int .i64 (q : Int))) none).run Tryz.prog w = .ok (.slice (some ⟨g, 0, none⟩) q c) w := by
  rw [run_slice_h (ht := elemE) (h0 := by omega) (h2 := by omega), sizeE]
  simp [Result.andThen, sliced, Addr.add]
theorem slice_tailE (g n c q : Nat) (hq : q ≤ n) (w : World) : (Instr.slice entsT (.slice (some ⟨g, 0, none⟩) n c) (some (.int .i64 (q : Int))) none none).run Tryz.prog w = .ok (.slice (some ⟨g, if c = q then 0 else q * 2, none⟩) (n - q) (c - q)) w := by
  rw [run_slice_l (ht := elemE) (h0 := by omega) (h1 := by omega), sizeE]
  by_cases h : c = q
  · simp [Result.andThen, sliced, Addr.add, h]
  · simp [Result.andThen, sliced, Addr.add, h]
    exact fun e => e.symm
theorem ents_shape {w : World} {V : Value} {es : List Ent} (h : Ents w V es) : ∃ A c, V = .slice A es.length c := by
  rcases ents_form h with ⟨h1, h2⟩ | ⟨g, c, cur, rfl, _⟩
  · exact ⟨none, 0, by rw [h1, h2]; rfl⟩
  · exact ⟨_, c, rfl⟩
/-- The row without entry i, made anew. -/
theorem ents_cut {w : World} {g c i : Nat} {es : List Ent} (h : Ents w (.slice (some ⟨g, 0, none⟩) es.length c) es) (hi : i < es.length) (hl : es.length ≤ 4096) :
    ∃ A1 c1 w2 A2 c2 w4, (∀ ty, (Builtin.append_ #[entsT, entsT] ty #[.slice none 0 0, .slice (some ⟨g, 0, none⟩) i c]).run Tryz.prog w = .ok (.slice A1 i c1) w2) ∧
      (∀ ty, (Builtin.append_ #[entsT, entsT] ty #[.slice A1 i c1, .slice (some ⟨g, if c = i + 1 then 0 else (i + 1) * 2, none⟩) (es.length - (i + 1)) (c - (i + 1))]).run Tryz.prog w2 = .ok (.slice A2 (es.length - 1) c2) w4) ∧
      Ents w4 (.slice A2 (es.length - 1) c2) (es.eraseIdx i) ∧ Keeps (fun _ => False) w w2 ∧ Keeps (fun _ => False) w w4 ∧ ∀ b, (Value.slice A2 (es.length - 1) c2).ownBlock = some b → w.heap.size ≤ b := by
  obtain ⟨hlc, hcells⟩ : es.length ≤ c ∧ ∀ j u, (entsC es)[j]? = some u → w.cell? ⟨g, j, none⟩ = some u := by
    rcases ents_form h with ⟨e, _⟩ | ⟨g', c', cur, e, h1, _, _, h2⟩
    · cases e
    · cases e; exact ⟨h1, h2⟩
  have l1 : (es.take i).length = i := by rw [List.length_take]; omega
  have l2 : (es.drop (i + 1)).length = es.length - (i + 1) := List.length_drop
  have s1 : entsC es = entsC (es.take i) ++ entsC (es.drop i) := by rw [← entsC_append, List.take_append_drop]
  have s2 : entsC es = entsC (es.take (i + 1)) ++ entsC (es.drop (i + 1)) := by rw [← entsC_append, List.take_append_drop]
  have l3 : (entsC (es.take (i + 1))).length = (i + 1) * 2 := by rw [entsC_length, List.length_take]; congr 1; omega
  obtain ⟨V1, w2, r1, o1, g1, b1⟩ := ents_append (w := w) (V := .slice none 0 0) (N := []) (M := es.take i) (A := some ⟨g, 0, none⟩) (c := c) (World.ownsRow_nil _ _ _ _) (fun j u hj => ⟨g, 0, rfl, by
    rw [Nat.zero_add]
    refine hcells j u ?_
    rw [s1, List.getElem?_append_left (List.getElem?_eq_some_iff.1 hj).1]
    exact hj⟩) (fun h => by cases h) (fun a h => by cases h; exact ⟨_, _, rfl⟩) (by rw [l1]; simp; omega)
  rw [List.nil_append] at o1
  have k1 : Keeps (fun _ => False) w w2 := Keeps.grown (Keeps.refl _ _) g1 (fun k e => by cases e)
  have b1' : ∀ b, V1.ownBlock = some b → w.heap.size ≤ b := fun b hb => by
    rcases b1 with e | e
    · rw [e] at hb; cases hb
    · rw [e] at hb; cases hb; exact Nat.le_refl _
  have hlt1 := (Keeps.refl (fun _ => False) w).size
  obtain ⟨V2, w4, r2, o2, g2, b2⟩ := ents_append (w := w2) (V := V1) (N := es.take i) (M := es.drop (i + 1)) (A := some ⟨g, if c = i + 1 then 0 else (i + 1) * 2, none⟩) (c := c - (i + 1)) o1 (fun j u hj => by
    have hj' := (List.getElem?_eq_some_iff.1 hj).1
    rw [entsC_length, l2] at hj'
    have hne : ¬ c = i + 1 := by omega
    refine ⟨g, _, rfl, ?_⟩
    rw [if_neg hne]
    have hc : w.cell? ⟨g, (i + 1) * 2 + j, none⟩ = some u := by
      refine hcells _ u ?_
      rw [s2, List.getElem?_append_right (by omega), l3, Nat.add_sub_cancel_left]
      exact hj
    rw [World.cell?_of_block (k1.block g (World.block_lt_of_cell? w _ hc) (fun h => h))]
    exact hc) (fun h => by cases h) (fun a h => by cases h; exact ⟨_, _, rfl⟩) (by rw [l1, l2]; omega)
  have k2 : Keeps (fun _ => False) w w4 := by
    have k := Keeps.grown k1 g2 (fun k e => .inr (b1' k e))
    exact k
  have b2' : ∀ b, V2.ownBlock = some b → w.heap.size ≤ b := fun b hb => by
    rcases b2 with e | e
    · exact b1' b (e ▸ hb)
    · rw [e] at hb; cases hb; exact k1.size
  rw [← List.eraseIdx_eq_take_drop_succ] at o2
  have l4 : (es.eraseIdx i).length = es.length - 1 := by rw [List.length_eraseIdx, if_pos hi]
  obtain ⟨A1, c1, rfl⟩ := ents_shape o1
  obtain ⟨A2, c2, rfl⟩ := ents_shape o2
  rw [l1] at r1 r2 o1
  rw [l2] at r2
  have o2' := o2
  rw [l4] at r2 o2' b2'
  exact ⟨A1, c1, w2, A2, c2, w4, r1, r2, o2', k1, k2, b2'⟩
end Go.Proofs.YtomhflaofipccaaGreat
namespace Go.Proofs.YtomhflaofipccaaGreat
open Go Go.RowKit Go.Maps
set_option linter.unusedVariables false
set_option linter.unusedSimpArgs false
/-- Block g begins with the bytes l; none of them is frozen. -/
def Row8 (w : World) (g : Nat) (l : List UInt8) : Prop := ∃ (cs : Array Value) (fz : Nat × Nat), w.heap[g]? = some (.cells cs 5 fz) ∧ l.length ≤ cs.size ∧ cs.size ≤ fz.1 ∧ ∀ i (h : i < l.length), cs[i]? = some (byteV l[i])
section
variable {w w' : World} {g : Nat} {l : List UInt8}
theorem Row8.lt (h : Row8 w g l) : g < w.heap.size := by
  obtain ⟨cs, fz, h1, _⟩ := h
  rcases Nat.lt_or_ge g w.heap.size with hlt | hge
  · exact hlt
  · rw [Array.getElem?_eq_none hge] at h1; cases h1
theorem Row8.cell (h : Row8 w g l) {i : Nat} (hi : i < l.length) : w.cell? ⟨g, i, none⟩ = some (byteV l[i]) := by
  obtain ⟨cs, fz, h1, h2, h3, h4⟩ := h
  rw [cell_of_row w g i cs _ _ h1]
  exact h4 i hi
theorem Row8.frozen (h : Row8 w g l) {i : Nat} (hi : i < l.length) : w.frozen? ⟨g, i, none⟩ = false := by
  obtain ⟨cs, fz, h1, h2, h3, h4⟩ := h
  simp only [World.frozen?, h1]
  have : ¬ fz.1 ≤ i := by omega
  simp [this]
theorem Row8.keeps {S : Nat → Prop} (h : Row8 w g l) (k : Keeps S w w') (hs : ¬ S g) : Row8 w' g l := by
  have hlt := h.lt
  obtain ⟨cs, fz, h1, h2⟩ := h
  exact ⟨cs, fz, (k.block g hlt hs).trans h1, h2⟩
theorem Row8.quiet (h : Row8 w g l) (k : Qt w w') : Row8 w' g l := h.keeps k fun h => h
theorem Row8.set_ (h : Row8 w g l) (i : Nat) (b : UInt8) : Row8 (w.setCell ⟨g, i, none⟩ (byteV b)) g (l.set i b) := by
  obtain ⟨cs, fz, h1, h2, h3, h4⟩ := h
  refine ⟨cs.setIfInBounds i (byteV b), fz, ?_, by simpa using h2, by simpa using h3, fun j hj => ?_⟩
  · simp [World.setCell, Array.getElem?_modify, h1]
  · rw [List.length_set] at hj
    rw [Array.getElem?_setIfInBounds, List.getElem_set]
    by_cases e : i = j
    · subst e
      rw [if_pos rfl, if_pos (by omega), if_pos rfl]
    · rw [if_neg e, if_neg e]
      exact h4 j hj
theorem Row8.back (h : Row8 w g l) (c : Nat) : (convert 97 9 (.slice (some ⟨g, 0, none⟩) l.length c)).run Tryz.prog w = .ok (.string (bstr l)) w :=
  run_convert_bytes_back (P := Tryz.prog) w 97 9 5 ⟨g, 0, none⟩ c l Tryz.underlying97 Tryz.underlying5 Tryz.underlying9 (fun j hj => by
    rw [show (⟨g, 0, none⟩ : Addr).add j = ⟨g, j, none⟩ by unfold Addr.add; split <;> simp_all]
    exact h.cell hj)
end
/-- '[]byte(s)'. -/
theorem conv8 (w : World) (s : ByteArray) : ∃ c w', (convert 9 97 (.string s)).run Tryz.prog w = .ok (.slice (some ⟨w.heap.size, 0, none⟩) s.size c) w' ∧ s.size ≤ c ∧ Row8 w' w.heap.size s.data.toList ∧ Qt w w' := by
  have hr := run_bytes_of_string (P := Tryz.prog) w 9 97 5 s Tryz.underlying9 Tryz.underlying97 Tryz.underlying5
  have hc := grownCap_ge w s.size 0 5
  generalize grownCap w s.size 0 5 = c at *
  have hsz : (bytesRow s c).size = s.size + (c - s.size) := by unfold bytesRow; simp
  have hkl := kl_length s
  refine ⟨c, _, hr, hc, ⟨bytesRow s c, ((bytesRow s c).size, (bytesRow s c).size + 1), ?_, by rw [hsz]; omega, Nat.le_refl _, fun i hi => ?_⟩, ?_⟩
  · exact heap_alloc_new w.drew _
  · unfold bytesRow
    rw [Array.getElem?_append_left (by simpa using hi)]
    simp only [Array.getElem?_map]
    have : s.data[i]? = some (s.data.toList[i]) := by
      rw [← Array.getElem?_toList, List.getElem?_eq_getElem hi]
    rw [this]; rfl
  · exact (Keeps.refl _ w).drew.alloc _
end Go.Proofs.YtomhflaofipccaaGreat
