/-
  The reference of layer 10: a table and its memory, from a world on. The reference of layer 10: remove. The reference of layer 10: Lookup, Delete, Update of what is there, Update refused. The reference of layer 10: Update of a key that isn't there. The reference of layer 10: Update of a key that isn't there, where there is room, or the one used longest ago goes. The reference of layer 10: Update of a key that isn't there, where the one used longest ago goes. The reference of layer 10: Next. Layer 10: which specs may be, in the reference. The reference of layer 10: New, Free. A table's plain state, what holds of it, and what each deed does to it.
-/
import Derived.Test.YtbikofedppgblaaGreatQ12
namespace Go.Proofs.YtbikofedppgblaaGreat
open Go Go.RowKit Go.Maps
set_option linter.unusedVariables false
set_option linter.unusedSimpArgs false
set_option maxRecDepth 100000
abbrev rowC (p : HPar) (s : HSt) (V : Value) : Array Value := rC p.bx p.k p.key p.v p.mx V s.clock s.gone
section
variable {p : HPar} {w0 w w' : World} {Q Q0 U T T' : Nat → Prop} {s s' : HSt} {V V' : Value}
/-- Whom a table's own statements write. -/
def ownY (p : HPar) (V : Value) (b : Nat) : Prop := b = p.y ∨ V.ownBlock = some b
end
end Go.Proofs.YtbikofedppgblaaGreat
namespace Go.Proofs.YtbikofedppgblaaGreat
open Go Go.RowKit Go.Maps
set_option linter.unusedVariables false
set_option linter.unusedSimpArgs false
set_option maxRecDepth 100000
theorem step_append_run' {P : Program} {ops : Array Oper} {o : Oper} {a : Act} {w : World} {K : Act → World → Prop} {Q : Exit → Act → World → Prop} {E : Prop} (hg : o.guard = none) (s x : Operand) (t : TypeId)
    (hop : o.op = Op.call { callee := Callee.builtin Builtin.append, args := #[s, x], argTypes := #[t, t] }) (v xv v' : Value) (w' : World) (hs : a.eval s = v) (hx : a.eval x = xv) (hrun : ∀ ty, (Builtin.append_ #[t, t] ty #[v, xv]).run P w = .ok v' w') (hK : K (a.put o.dst v') w') :
    if Region.wanted o (yielded ops a.tmps) = true then Oper.wp P o a w K Q else E := by
  have hw : Region.wanted o (yielded ops a.tmps) = true := by simp [Region.wanted, hg]
  rw [if_pos hw]
  unfold Oper.wp
  simp [execOp, hop, resolve, invoke, builtin, hs, hx, hrun, Result.andThen]
  exact hK
section
variable {p : HPar} {w0 w w' : World} {Q Q0 U T T' : Nat → Prop} {s s' : HSt} {V V' : Value}
/-- Entry i goes: its region is retired. -/
def HSt.cut (s : HSt) (i : Nat) (e : Ent) (q : RV) : HSt := { s with m := s.m.set e.n (some (q.1, q.2.1, true)), es := s.es.eraseIdx i }
end
end Go.Proofs.YtbikofedppgblaaGreat
namespace Go.Proofs.YtbikofedppgblaaGreat
open Go Go.RowKit Go.Maps
set_option linter.unusedVariables false
set_option linter.unusedSimpArgs false
set_option maxRecDepth 100000
def HSt.put (s : HSt) (e : Ent) (q : RV) (l : List UInt8) : HSt := { s with m := s.m.set e.n (some (q.1, setAt q.2.1 0 l, q.2.2)) }
theorem find_none {es : List Ent} {k : ByteArray} (h : findE es k = none) : findI es k = -1 := by unfold findI; rw [h]; rfl
theorem find_some {es : List Ent} {k : ByteArray} {i : Nat} (h : findE es k = some i) : findI es k = (i : Int) := by unfold findI; rw [h]; rfl
theorem setUsed_get {es : List Ent} {i u : Nat} {e : Ent} (h : es[i]? = some e) : (setUsed es i u)[i]? = some { e with used := u } := by
  unfold setUsed
  rw [List.getElem?_modify_eq, h]; rfl
section
variable {p : HPar} {w0 w w' : World} {Q Q0 U T T' : Nat → Prop} {s s' : HSt} {V V' : Value}
/-- What Update reads of a table. -/
structure UC (p : HPar) (s : HSt) (key value : ByteArray) (fl : Int) (w : World) : Prop where
  c1 : w.cell? ⟨p.y, 1, none⟩ = some (.int .i64 p.k)
  c2 : w.cell? ⟨p.y, 2, none⟩ = some (.int .i64 p.key)
  c3 : w.cell? ⟨p.y, 3, none⟩ = some (.int .i64 p.v)
  c4 : w.cell? ⟨p.y, 4, none⟩ = some (.int .i64 p.mx)
  c7 : w.cell? ⟨p.y, 7, none⟩ = some (.bool s.gone)
end
end Go.Proofs.YtbikofedppgblaaGreat
namespace Go.Proofs.YtbikofedppgblaaGreat
open Go Go.RowKit Go.Maps
set_option linter.unusedVariables false
set_option linter.unusedSimpArgs false
set_option maxRecDepth 100000
theorem wpList_append_run' {P : Program} {ops : Array Oper} {rest : List Oper} {o : Oper} {a : Act} {w : World} {Q : Exit → Act → World → Prop} (hgd : o.guard = none) (s x : Operand) (t : TypeId)
    (ho : o.op = .call { callee := .builtin .append, args := #[s, x], argTypes := #[t, t] }) (v xv v' : Value) (w' : World) (hs : a.eval s = v) (hx : a.eval x = xv) (hrun : ∀ ty, (Builtin.append_ #[t, t] ty #[v, xv]).run P w = .ok v' w')
    (h : wpList P ops Q rest (a.put o.dst v') w') : wpList P ops Q (o :: rest) a w := by
  refine wpList_plain hgd fun K hK => ?_
  unfold Oper.wp execOp
  simp only [ho, resolve, invoke, builtin, Sem.run_bind, Sem.run_pure, Result.andThen_ok, List.map_toArray, List.map_cons, List.map_nil, hs, hx, hrun]
  exact hK _ _ h
def usedAt (es : List Ent) (i : Nat) : Nat := (es[i]?).elim 0 (·.used)
/-- The place of the one that was used longest ago, of the first j. -/
def oldTo (es : List Ent) : Nat → Nat
  | 0 => 0
  | j + 1 => if usedAt es j < usedAt es (oldTo es j) then j else oldTo es j
theorem oldTo_lt (es : List Ent) : ∀ j, 0 < j → oldTo es j < j
  | 0, h => by omega
  | 1, _ => by unfold oldTo; split <;> simp [oldTo]
  | j + 2, _ => by
    have := oldTo_lt es (j + 1) (by omega)
    unfold oldTo
    split <;> omega
def HSt.alloc (s : HSt) (v : Nat) : HSt := { s with m := s.m.grown v }
def HSt.push (s : HSt) (e : Ent) : HSt := { s with es := s.es ++ [e] }
section
variable {p : HPar} {w0 w w' : World} {Q Q0 U T T' : Nat → Prop} {s s' : HSt} {V V' : Value}
end
end Go.Proofs.YtbikofedppgblaaGreat
namespace Go.Proofs.YtbikofedppgblaaGreat
open Go Go.RowKit Go.Maps
set_option linter.unusedVariables false
set_option linter.unusedSimpArgs false
set_option maxRecDepth 100000
/-- A new entry, with its region's bytes. -/
def HSt.fresh (s : HSt) (n : Nat) (key : ByteArray) (l : List UInt8) (v : Nat) : HSt :=
  { s with m := s.m.set n (some (3, setAt (List.replicate v 0) 0 l, false)), es := s.es ++ [⟨key, n, 0⟩] }
theorem grown_new (m : PS) (v : Nat) : (m.grown v).vs (m.made + 1) = some (3, List.replicate v 0, false) := by
  unfold PS.grown updv
  exact if_pos rfl
section
variable {p : HPar} {w0 w w' : World} {Q Q0 U T T' : Nat → Prop} {s s' : HSt} {V V' : Value}
end
end Go.Proofs.YtbikofedppgblaaGreat
namespace Go.Proofs.YtbikofedppgblaaGreat
open Go Go.RowKit Go.Maps
set_option linter.unusedVariables false
set_option linter.unusedSimpArgs false
set_option maxRecDepth 100000
section
variable {p : HPar} {w0 w w' : World} {Q Q0 U T T' : Nat → Prop} {s s' : HSt} {V V' : Value}
theorem used_get {es : List Ent} {i : Nat} {e : Ent} (h : es[i]? = some e) : usedAt es i = e.used := by unfold usedAt; rw [h]; rfl
end
end Go.Proofs.YtbikofedppgblaaGreat
namespace Go.Proofs.YtbikofedppgblaaGreat
open Go Go.RowKit Go.Maps
set_option linter.unusedVariables false
set_option linter.unusedSimpArgs false
set_option maxRecDepth 100000
def ltS (a b : ByteArray) : Bool := Op.bytesLess a.toList b.toList
def gtS (a b : ByteArray) : Bool := !(Op.bytesLess a.toList b.toList || a.toList == b.toList)
theorem gt_run (t : TypeId) (a b : ByteArray) : binOp .gtr t (.string a) (.string b) = pure (.bool (gtS a b)) := by simp [binOp, Op.stringOp, gtS]
/-- The least key above key (klen bytes; else of all) of the first j. -/
def nextTo (klen : Nat) (es : List Ent) (key : ByteArray) : Nat → Option ByteArray
  | 0 => none
  | j + 1 => (es[j]?).elim (nextTo klen es key j) fun e =>
    if (key.size ≠ klen ∨ gtS e.key key = true) ∧ (nextTo klen es key j = none ∨ ltS e.key ((nextTo klen es key j).getD ⟨#[]⟩) = true) then some e.key else nextTo klen es key j
theorem nextTo_step {klen : Nat} {es : List Ent} {key : ByteArray} {j : Nat} {e : Ent} (he : es[j]? = some e) :
    nextTo klen es key (j + 1) = if (key.size ≠ klen ∨ gtS e.key key = true) ∧ (nextTo klen es key j = none ∨ ltS e.key ((nextTo klen es key j).getD ⟨#[]⟩) = true) then some e.key else nextTo klen es key j := by
  rw [nextTo, he]; rfl
theorem no_lt {A : Prop} {e bst : ByteArray} (h : Op.bytesLess e.toList bst.toList = false) : ¬ (A ∧ (some bst = none ∨ ltS e ((some bst).getD ⟨#[]⟩) = true)) := by
  rintro ⟨_, hh | hh⟩
  · cases hh
  · have h2 : Op.bytesLess e.toList bst.toList = true := hh
    rw [h] at h2; cases h2
theorem no_gt {B : Prop} {key k : ByteArray} {klen : Nat} (h1 : key.size = klen) (h2 : gtS k key = false) : ¬ ((key.size ≠ klen ∨ gtS k key = true) ∧ B) := by
  rintro ⟨h | h, _⟩
  · exact h h1
  · rw [h2] at h; cases h
def nextA (o : Option ByteArray) : Ending := .returned (.tuple #[.string (o.getD ⟨#[]⟩), .int .i64 (o.elim 4 fun _ => 0)])
section
variable {p : HPar} {w0 w w' : World} {Q Q0 U T T' : Nat → Prop} {s s' : HSt} {V V' : Value}
end
end Go.Proofs.YtbikofedppgblaaGreat
namespace Go.Proofs.YtbikofedppgblaaGreat
open Go Go.RowKit Go.Maps
set_option linter.unusedVariables false
set_option linter.unusedSimpArgs false
set_option maxRecDepth 100000
abbrev specV (k key v mx : Int) : Value := .agg #[.int .i64 k, .int .i64 key, .int .i64 v, .int .i64 mx]
abbrev specC (k key v mx : Int) : Array Value := #[.int .i64 k, .int .i64 key, .int .i64 v, .int .i64 mx]
theorem below_alloc (w : World) (o : Obj) : Below w.heap.size w (w.alloc o) := (Below.refl _ w).alloc (Nat.le_refl _) o
theorem below_then {w w1 w2 : World} (h : Below w.heap.size w w1) (k : Below w1.heap.size w1 w2) : Below w.heap.size w w2 := h.trans (k.mono h.size)
theorem blk_below {w w' : World} {g : Nat} {t : TypeId} {cs : Array Value} (h : Blk w g t cs) (hb : Below w.heap.size w w') : Blk w' g t cs := (hb.block g h.lt).trans h
theorem keeps_grow {w w' : World} (hb : Below w.heap.size w w') : Keeps (fun _ => False) w w' := Below.keeps hb fun b h1 h2 => by omega
def fitsH (k key v mx : Int) : Bool := (k == 1 || k == 9) && (decide (1 ≤ key) && (decide (key ≤ 512) && (decide (1 ≤ v) && (decide (v ≤ 4096) && (decide (1 ≤ mx) && decide (mx ≤ 4096))))))
theorem fitsH_true {k key v mx : Int} (h : fitsH k key v mx = true) : (k = 1 ∨ k = 9) ∧ (1 ≤ key ∧ key ≤ 512) ∧ (1 ≤ v ∧ v ≤ 4096) ∧ 1 ≤ mx ∧ mx ≤ 4096 := by
  simp [fitsH] at h; omega
end Go.Proofs.YtbikofedppgblaaGreat
namespace Go.Proofs.YtbikofedppgblaaGreat
open Go Go.RowKit Go.Maps
set_option linter.unusedVariables false
set_option linter.unusedSimpArgs false
set_option maxRecDepth 100000
section
variable {p : HPar} {w0 w w' : World} {Q Q0 U T T' : Nat → Prop} {s s' : HSt} {V V' : Value}
def freeTo (m : PS) (es : List Ent) : Nat → PS
  | 0 => m
  | j + 1 => (es[j]?).elim (freeTo m es j) fun e => (freeTo m es j).set e.n none
theorem freeTo_step {m : PS} {es : List Ent} {j : Nat} {e : Ent} (he : es[j]? = some e) : freeTo m es (j + 1) = (freeTo m es j).set e.n none := by rw [freeTo, he]; rfl
end
end Go.Proofs.YtbikofedppgblaaGreat
namespace Go.Proofs.YtbikofedppgblaaGreat
open Go Go.RowKit Go.Maps
set_option linter.unusedVariables false
set_option linter.unusedSimpArgs false
structure HPar.Ok (p : HPar) : Prop where
  kind : p.k = 1 ∨ p.k = 9
  k1 : 1 ≤ p.key
  k2 : p.key ≤ 512
  v1 : 1 ≤ p.v
  v2 : p.v ≤ 4096
  m1 : 1 ≤ p.mx
  m2 : p.mx ≤ 4096
/-- What always holds of a table. -/
structure HOk (p : HPar) (s : HSt) : Prop where
  par : p.Ok
  len : s.es.length ≤ p.mx
  ent : ∀ (i : Nat) (e : Ent), s.es[i]? = some e → (1 ≤ e.n ∧ e.n ≤ s.m.made) ∧ e.key.size = p.key ∧ (1 ≤ e.used ∧ e.used ≤ s.clock) ∧ ∃ b, s.m.vs e.n = some (3, b, false) ∧ b.length = p.v
  apart : ∀ (i j : Nat) (a b : Ent), s.es[i]? = some a → s.es[j]? = some b → i ≠ j → a.n ≠ b.n ∧ keyB a.key b.key = false ∧ a.used ≠ b.used
  gone : s.gone = true → s.es = []
section
variable {p : HPar} {s s' : HSt}
theorem HOk.mem (h : HOk p s) {m' : PS} (hm : s.m.made ≤ m'.made) (hv : ∀ (i : Nat) (e : Ent) (b : List UInt8), s.es[i]? = some e → s.m.vs e.n = some (3, b, false) → b.length = p.v → ∃ b', m'.vs e.n = some (3, b', false) ∧ b'.length = p.v) : HOk p { s with m := m' } :=
  ⟨h.par, h.len, fun i e he => by
    obtain ⟨h1, h2, h3, b, h4, h5⟩ := h.ent i e he
    exact ⟨⟨h1.1, Nat.le_trans h1.2 hm⟩, h2, h3, hv i e b he h4 h5⟩, h.apart, h.gone⟩
theorem setUsed_at {es : List Ent} {i u j : Nat} {e : Ent} (h : (setUsed es i u)[j]? = some e) : ∃ e', es[j]? = some e' ∧ ((j = i ∧ e = { e' with used := u }) ∨ (j ≠ i ∧ e = e')) := by
  unfold setUsed at h
  by_cases hj : j = i
  · subst hj
    rw [List.getElem?_modify_eq] at h
    rcases he : es[j]? with _ | e'
    · rw [he] at h; cases h
    · rw [he] at h
      simp at h
      exact ⟨e', rfl, .inl ⟨rfl, h.symm⟩⟩
  · have hij : i ≠ j := fun x => hj x.symm
    have h2 := h
    rw [List.getElem?_modify] at h2
    simp only [hij, if_false] at h2
    refine ⟨e, ?_, .inr ⟨hj, rfl⟩⟩
    simpa using h2
theorem HOk.use (h : HOk p s) (i : Nat) : HOk p (s.use i) := by
  refine ⟨h.par, by show (setUsed _ _ _).length ≤ _; rw [setUsed_length]; exact h.len, fun j e he => ?_, fun j k a b ha hb hjk => ?_, fun hg => ?_⟩
  · obtain ⟨e', he', hh⟩ := setUsed_at he
    obtain ⟨h1, h2, h3, h4⟩ := h.ent j e' he'
    rcases hh with ⟨_, rfl⟩ | ⟨_, rfl⟩
    · exact ⟨h1, h2, ⟨by show 1 ≤ s.clock + 1; omega, Nat.le_refl _⟩, h4⟩
    · exact ⟨h1, h2, ⟨h3.1, by have := h3.2; show _ ≤ s.clock + 1; omega⟩, h4⟩
  · obtain ⟨a', ha', hha⟩ := setUsed_at ha
    obtain ⟨b', hb', hhb⟩ := setUsed_at hb
    obtain ⟨h1, h2, h3⟩ := h.apart j k a' b' ha' hb' hjk
    have ua := (h.ent j a' ha').2.2.1.2
    have ub := (h.ent k b' hb').2.2.1.2
    rcases hha with ⟨e1, rfl⟩ | ⟨e1, rfl⟩ <;> rcases hhb with ⟨e2, rfl⟩ | ⟨e2, rfl⟩
    · omega
    · exact ⟨h1, h2, by show s.clock + 1 ≠ _; omega⟩
    · exact ⟨h1, h2, by show _ ≠ s.clock + 1; omega⟩
    · exact ⟨h1, h2, h3⟩
  · have : s.es = [] := h.gone hg
    show setUsed s.es i (s.clock + 1) = []
    rw [this]; simp [setUsed]
theorem HOk.put (h : HOk p s) {i : Nat} {e : Ent} (he : s.es[i]? = some e) {b l : List UInt8} (hb : s.m.vs e.n = some (3, b, false)) (hl : l.length ≤ p.v) : HOk p (s.put e (3, b, false) l) := by
  refine h.mem (m' := s.m.set e.n (some (3, setAt b 0 l, false))) (Nat.le_refl _) fun j e' b' he' hb' hl' => ?_
  by_cases hn : e'.n = e.n
  · rw [hn] at hb' ⊢
    rw [hb] at hb'
    cases hb'
    exact ⟨_, updv_same _ _ _, by rw [setAt_length _ _ _ (by omega)]; exact hl'⟩
  · exact ⟨b', (updv_other _ _ hn).trans hb', hl'⟩
theorem HOk.alloc (h : HOk p s) (v : Nat) : HOk p (s.alloc v) := by
  refine h.mem (m' := s.m.grown v) (Nat.le_succ _) fun j e b he hb hl => ⟨b, ?_, hl⟩
  have := (h.ent j e he).1.2
  exact (updv_other _ _ (by omega)).trans hb
theorem HOk.grace (h : HOk p s) : HOk p { s with m := s.m.graced } := by
  refine h.mem (m' := s.m.graced) (Nat.le_refl _) fun j e b he hb hl => ⟨b, ?_, hl⟩
  show gracev s.m.vs s.m.made e.n = _
  unfold gracev
  rw [if_pos (h.ent j e he).1.2, hb]
  rfl
theorem HOk.failing (h : HOk p s) (n : Nat) : HOk p { s with m := { s.m with fail := n } } :=
  h.mem (m' := { s.m with fail := n }) (Nat.le_refl _) fun j e b he hb hl => ⟨b, hb, hl⟩
theorem erase_at {es : List Ent} {i j : Nat} {e : Ent} (h : (es.eraseIdx i)[j]? = some e) : es[if j < i then j else j + 1]? = some e := by
  rw [List.getElem?_eraseIdx] at h
  split at h
  · rw [if_pos (by assumption)]; exact h
  · rw [if_neg (by assumption)]; exact h
theorem HOk.cut (h : HOk p s) {i : Nat} {e : Ent} (he : s.es[i]? = some e) (q : RV) : HOk p (s.cut i e q) := by
  have hi := (List.getElem?_eq_some_iff.1 he).1
  refine ⟨h.par, ?_, fun j e' he' => ?_, fun j k a b ha hb hjk => ?_, fun hg => ?_⟩
  · show (s.es.eraseIdx i).length ≤ _
    have := h.len
    rw [List.length_eraseIdx, if_pos hi]; omega
  · have h0 := erase_at he'
    obtain ⟨h1, h2, h3, b, h4, h5⟩ := h.ent _ e' h0
    have hne : e'.n ≠ e.n := (h.apart _ i e' e h0 he (by split <;> omega)).1
    exact ⟨h1, h2, h3, b, (updv_other _ _ hne).trans h4, h5⟩
  · exact h.apart _ _ a b (erase_at ha) (erase_at hb) (by split <;> split <;> omega)
  · have : s.es = [] := h.gone hg
    rw [this] at hi; simp at hi
theorem findE_none_key : ∀ {es : List Ent} {k : ByteArray} {i : Nat} {e : Ent}, findE es k = none → es[i]? = some e → keyB e.key k = false
  | [], _, _, _, _, h => by simp at h
  | e' :: es, k, i, e, hf, he => by
    unfold findE at hf
    split at hf
    · cases hf
    · rename_i hn
      cases i with
      | zero => simp at he; subst he; simpa using hn
      | succ i => exact findE_none_key (Option.map_eq_none_iff.1 hf) (by simpa using he)
theorem keyB_symm (a b : ByteArray) : keyB a b = keyB b a := by
  unfold keyB
  rw [Bool.eq_iff_iff]
  simp only [beq_iff_eq]
  exact eq_comm
/-- A new entry, used. -/
theorem HOk.fresh (h : HOk p s) (hg : s.gone = false) (hl : s.es.length < p.mx) (n : Nat) (key : ByteArray) (l : List UInt8) (hk : key.size = p.key) (hll : l.length = p.v) (hn : 1 ≤ n ∧ n ≤ s.m.made) (hnew : ∀ (i : Nat) (e : Ent), s.es[i]? = some e → e.n ≠ n) (hf : ∀ (i : Nat) (e : Ent), s.es[i]? = some e → keyB e.key key = false) :
    HOk p ((s.fresh n key l p.v).use s.es.length) := by
  have hbl : (setAt (List.replicate p.v (0 : UInt8)) 0 l).length = p.v := by rw [setAt_length _ _ _ (by rw [List.length_replicate]; omega), List.length_replicate]
  have at_ : ∀ {j e}, ((s.fresh n key l p.v).use s.es.length).es[j]? = some e → (j < s.es.length ∧ s.es[j]? = some e) ∨ (j = s.es.length ∧ e = ⟨key, n, s.clock + 1⟩) := by
    intro j e he
    obtain ⟨e', he', hh⟩ := setUsed_at he
    have he2 : (s.es ++ [⟨key, n, 0⟩])[j]? = some e' := he'
    rcases Nat.lt_or_ge j s.es.length with hj | hj
    · rw [List.getElem?_append_left hj] at he2
      rcases hh with ⟨e1, _⟩ | ⟨_, rfl⟩
      · omega
      · exact .inl ⟨hj, he2⟩
    · have hj2 := (List.getElem?_eq_some_iff.1 he').1
      have : j = s.es.length := by
        have : (s.fresh n key l p.v).es.length = s.es.length + 1 := by simp [HSt.fresh]
        omega
      subst this
      simp at he2
      subst he2
      rcases hh with ⟨_, rfl⟩ | ⟨e1, _⟩
      · exact .inr ⟨rfl, rfl⟩
      · exact absurd rfl e1
  have vsn : ((s.fresh n key l p.v).use s.es.length).m.vs n = some (3, setAt (List.replicate p.v 0) 0 l, false) := updv_same _ _ _
  refine ⟨h.par, ?_, fun j e he => ?_, fun j k a b ha hb hjk => ?_, fun hg' => ?_⟩
  · show (setUsed (s.es ++ [_]) _ _).length ≤ _
    rw [setUsed_length, List.length_append]
    simp; omega
  · rcases at_ he with ⟨hj, he'⟩ | ⟨_, rfl⟩
    · obtain ⟨h1, h2, h3, b, h4, h5⟩ := h.ent j e he'
      exact ⟨h1, h2, ⟨h3.1, by have := h3.2; show _ ≤ s.clock + 1; omega⟩, b, (updv_other _ _ (hnew j e he')).trans h4, h5⟩
    · exact ⟨hn, hk, ⟨by show 1 ≤ s.clock + 1; omega, Nat.le_refl _⟩, _, vsn, hbl⟩
  · rcases at_ ha with ⟨hj, ha'⟩ | ⟨e1, rfl⟩ <;> rcases at_ hb with ⟨hk', hb'⟩ | ⟨e2, rfl⟩
    · exact h.apart j k a b ha' hb' hjk
    · refine ⟨hnew j a ha', hf j a ha', ?_⟩
      have := (h.ent j a ha').2.2.1.2
      show _ ≠ s.clock + 1; omega
    · refine ⟨fun e => hnew k b hb' e.symm, by rw [keyB_symm]; exact hf k b hb', ?_⟩
      have := (h.ent k b hb').2.2.1.2
      show s.clock + 1 ≠ _; omega
    · omega
  · have : s.gone = true := hg'
    rw [hg] at this; cases this
/-- Each region is there when its turn comes. -/
theorem freeTo_vs (m : PS) (es : List Ent) (n : Nat) : ∀ j, (∀ (i : Nat) (e : Ent), i < j → es[i]? = some e → e.n ≠ n) → (freeTo m es j).vs n = m.vs n
  | 0, _ => rfl
  | j + 1, h => by
    have ih := freeTo_vs m es n j fun i e hi he => h i e (by omega) he
    rcases he : es[j]? with _ | e
    · rw [freeTo, he]; exact ih
    · rw [freeTo_step he]
      show updv _ _ _ n = _
      rw [updv_other _ _ (fun x => h j e (by omega) he x.symm)]
      exact ih
theorem HOk.frees (h : HOk p s) : ∀ (j : Nat) (e : Ent), s.es[j]? = some e → ∃ q, (freeTo s.m s.es j).vs e.n = some q := by
  intro j e he
  obtain ⟨_, _, _, b, h4, _⟩ := h.ent j e he
  refine ⟨_, (freeTo_vs s.m s.es e.n j fun i e' hi he' => ?_).trans h4⟩
  exact (h.apart i j e' e he' he (by omega)).1
theorem freeTo_made (m : PS) (es : List Ent) : ∀ j, (freeTo m es j).made = m.made ∧ (freeTo m es j).fail = m.fail
  | 0 => ⟨rfl, rfl⟩
  | j + 1 => by
    have ih := freeTo_made m es j
    rcases he : es[j]? with _ | e
    · rw [freeTo, he]; exact ih
    · rw [freeTo_step he]; exact ih
theorem HOk.freed (h : HOk p s) (m' : PS) : HOk p { s with m := m', es := [], gone := true } :=
  ⟨h.par, Nat.zero_le _, fun i e he => by simp at he, fun i j a b ha => by simp at ha, fun _ => rfl⟩
end
end Go.Proofs.YtbikofedppgblaaGreat
