/-
  Layer 6, the reference: where its writer lays a name.
-/
import Derived.Test.YtmfdojmecpdikaaCWNum2
namespace Go.Proofs.Ytmfdojmecpdikaa
open Go Go.RowKit Go.Maps Go.Lib
set_option linter.unusedVariables false
set_option linter.unusedSimpArgs false
set_option maxRecDepth 100000
structure QS where
  ts : List UInt8
  ns : List UInt8
  es : List (ByteArray × Int)
def qsame (s : ByteArray) (p : ByteArray × Int) : Bool := p.1.toList == s.toList
def qfind (es : List (ByteArray × Int)) (s : ByteArray) : Option Int := (es.find? (qsame s)).map (·.2)
def qname (q : QS) (s : ByteArray) : QS :=
  match qfind q.es s with
  | some p => ⟨q.ts ++ le4 p, q.ns, q.es⟩
  | none => ⟨q.ts ++ le4 q.ns.length, q.ns ++ s.data.toList ++ [0], q.es ++ [(s, (q.ns.length : Int))]⟩
def nameC (es : List (ByteArray × Int)) : List Value := es.map fun p => .string p.1
def atC (es : List (ByteArray × Int)) : List Value := es.map fun p => .int .i64 p.2
/-- The reference's writer that lies in block g. -/
structure WQ (w : World) (g base : Nat) (q : QS) (av tv bv : Value) : Prop where
  blk : Blk w g 47 #[.string (bstr q.ns), av, tv, bv]
  all : w.ownsRow base 9 1 av q.es.length (nameC q.es)
  at_ : w.ownsRow base 3 1 tv q.es.length (atC q.es)
  b : w.ownsRow base 5 1 bv q.ts.length (q.ts.map byteV)
  hg : base ≤ g
  hbase : base ≤ w.heap.size
/-- Every block that holds types is as it was. -/
def KeepT (w w' : World) : Prop := ∀ (b : Nat) (cur : Array Value) (fr : Nat × Nat), w.heap[b]? = some (.cells cur 36 fr) → w'.heap[b]? = w.heap[b]?
theorem KeepT.refl (w : World) : KeepT w w := fun _ _ _ _ => rfl
theorem KeepT.trans {a b c : World} (h : KeepT a b) (k : KeepT b c) : KeepT a c := fun x cur fr hx => (k x cur fr ((h x cur fr hx).trans hx)).trans (h x cur fr hx)
theorem heap_lt {w : World} {b : Nat} {o : Obj} (h : w.heap[b]? = some o) : b < w.heap.size := by
  rcases Nat.lt_or_ge b w.heap.size with hlt | hge
  · exact hlt
  · rw [Array.getElem?_eq_none hge] at h; cases h
theorem KeepT.of_keeps {S : Nat → Prop} {w w' : World} (hk : Keeps S w w') (hS : ∀ (b : Nat) (cur : Array Value) (fr : Nat × Nat), w.heap[b]? = some (.cells cur 36 fr) → ¬ S b) : KeepT w w' :=
  fun b cur fr hb => hk.block b (heap_lt hb) (hS b cur fr hb)
theorem KeepT.alloc {a w : World} (h : KeepT a w) (o : Obj) : KeepT a (w.alloc o) := h.trans fun b cur fr hb => Below.heap_alloc w o b (heap_lt hb)
theorem KeepT.grown {a w w' : World} {row : Option Nat} (h : KeepT a w) (hg : w.grownBy w' row) (hr : ∀ b, row = some b → ∃ cur e, w.heap[b]? = some (.cells cur e (0, 0)) ∧ e ≠ 36) : KeepT a w' :=
  h.trans fun b cur fr hb => hg.block b (heap_lt hb) (fun e => by
    obtain ⟨cur2, e2, h2, hne⟩ := hr b e.symm
    rw [hb] at h2
    cases h2
    exact hne rfl)
theorem KeepT.blk {w w' : World} {b : Nat} {cs : Array Value} (h : KeepT w w') (hb : Blk w b 36 cs) : Blk w' b 36 cs := (h b cs (0, 0) hb).trans hb
theorem KeepT.set_ {w : World} {g i : Nat} {t : TypeId} {cs : Array Value} (hb : Blk w g t cs) (hne : t ≠ 36) (u : Value) : KeepT w (w.setCell ⟨g, i, none⟩ u) :=
  KeepT.of_keeps (keeps_set w g i u) fun b cur fr h e => by
    subst e
    unfold Blk at hb
    rw [hb] at h
    cases h
    exact hne rfl
def PostWQ (w : World) (g base : Nat) (q : QS) (e : Ending) (w' : World) : Prop :=
  e = .returned (.tuple #[]) ∧ ∃ av tv bv, WQ w' g base q av tv bv ∧ Keeps (fun b => b = g ∨ base ≤ b) w w' ∧ KeepT w w'
theorem own_block {w w' : World} {base : Nat} {e : TypeId} {size : Nat} {v : Value} {n : Nat} {xs : List Value} (h : w.ownsRow base e size v n xs) (hk : ∀ b, v.ownBlock = some b → w'.heap[b]? = w.heap[b]?) : w'.ownsRow base e size v n xs := by
  refine ⟨h.1, ?_⟩
  rcases h.2 with hn | ⟨g, cap, cur, rfl, h1, h2, rest⟩
  · exact .inl hn
  · exact .inr ⟨g, cap, cur, rfl, h1, (hk g rfl).trans h2, rest⟩
theorem own_lt {w : World} {base : Nat} {e : TypeId} {size : Nat} {v : Value} {n : Nat} {xs : List Value} (h : w.ownsRow base e size v n xs) (b : Nat) (hb : v.ownBlock = some b) : b < w.heap.size := by
  obtain ⟨_, cur, hc⟩ := row_tag h b hb
  rcases Nat.lt_or_ge b w.heap.size with hlt | hge
  · exact hlt
  · rw [Array.getElem?_eq_none hge] at hc; cases hc
/-- Two rows of different kinds lie in different blocks. -/
theorem own_ne {w : World} {base : Nat} {e1 e2 : TypeId} {s1 s2 : Nat} {v1 v2 : Value} {n1 n2 : Nat} {x1 x2 : List Value} (h1 : w.ownsRow base e1 s1 v1 n1 x1) (h2 : w.ownsRow base e2 s2 v2 n2 x2) (hne : e1 ≠ e2) (b : Nat) (hb : v1.ownBlock = some b) : v2.ownBlock ≠ some b := by
  intro hb2
  obtain ⟨_, c1, k1⟩ := row_tag h1 b hb
  obtain ⟨_, c2, k2⟩ := row_tag h2 b hb2
  rw [k1] at k2
  cases k2
  exact hne rfl
theorem WQ.num {w w' : World} {g base : Nat} {q : QS} {av tv bv : Value} (h : WQ w g base q av tv bv) (n : Int) (e : Ending) (hp : PostWN w g base (.string (bstr q.ns)) av tv bv (q.ts ++ le4 n) e w') :
    PostWQ w g base ⟨q.ts ++ le4 n, q.ns, q.es⟩ e w' := by
  obtain ⟨he, bv', hb, ho, hn, hk⟩ := hp
  have hgb := h.hg
  refine ⟨he, av, tv, bv', ⟨hb, ?_, ?_, ho, h.hg, Nat.le_trans h.hbase hk.size⟩, hk.mono fun b hb => hb.imp id fun e => (row_tag h.b b e).1, KeepT.of_keeps hk fun b cur fr hx hS => ?_⟩
  · refine own_block h.all fun b hx => hk.block b (own_lt h.all b hx) (fun hS => ?_)
    rcases hS with e | hS
    · exact row_ne_blk h.all h.blk (by decide) b hx e
    · exact own_ne h.all h.b (by decide) b hx hS
  · refine own_block h.at_ fun b hx => hk.block b (own_lt h.at_ b hx) (fun hS => ?_)
    rcases hS with e | hS
    · exact row_ne_blk h.at_ h.blk (by decide) b hx e
    · exact own_ne h.at_ h.b (by decide) b hx hS
  · rcases hS with e | e
    · subst e
      have hb := h.blk
      unfold Blk at hb
      rw [hb] at hx
      cases hx
    · obtain ⟨_, c2, h2⟩ := row_tag h.b b e
      rw [h2] at hx
      cases hx
theorem qfind_at (es : List (ByteArray × Int)) (s : ByteArray) (k : Nat) (p : ByteArray × Int) (hp : es[k]? = some p) (h : ∀ x ∈ es.take k, qsame s x = false) (hs : qsame s p = true) : qfind es s = some p.2 := by
  obtain ⟨a, b, e, ha⟩ : ∃ a b, es = a ++ p :: b ∧ es.take k = a := by
    obtain ⟨hk, rfl⟩ := List.getElem?_eq_some_iff.1 hp
    exact ⟨es.take k, es.drop (k + 1), by rw [List.getElem_cons_drop, List.take_append_drop], rfl⟩
  rw [ha] at h
  unfold qfind
  rw [e, List.find?_append, List.find?_eq_none.2 (fun x hx => by rw [h x hx]; decide)]
  simp [hs]
theorem qfind_no (es : List (ByteArray × Int)) (s : ByteArray) (h : ∀ x ∈ es, qsame s x = false) : qfind es s = none := by
  unfold qfind
  rw [List.find?_eq_none.2 (fun x hx => by rw [h x hx]; decide)]
  rfl
theorem qtake (es : List (ByteArray × Int)) (s : ByteArray) (k : Nat) (p : ByteArray × Int) (hp : es[k]? = some p) (h : ∀ x ∈ es.take k, qsame s x = false) (hs : qsame s p = false) : ∀ x ∈ es.take (k + 1), qsame s x = false := by
  intro x hx
  rw [List.take_add_one, hp] at hx
  simp only [Option.toList_some, List.mem_append, List.mem_singleton] at hx
  rcases hx with hx | rfl
  · exact h x hx
  · exact hs
end Go.Proofs.Ytmfdojmecpdikaa
