/-
  Both memories, call by call, each with its plain effect on any plain memory: what tables that make, retire and free regions want. A table, plainly: entries in the order of their coming; what each call answers, and what is left. The reference of layer 10: find, use, Lookup. The reference of layer 10: a table and its memory, from a world on.
-/
import Derived.Test.YtmopflcaeecgcaaP8
import Derived.Maps.AppendAt
import Derived.Laws.OwnMore
import Derived.Lib.Hide
import Derived.IntWalk
import Derived.WalkSpells
import Derived.BigQuiet
import Derived.Deep.QuietTactic
import Derived.Deep.Cut
import Derived.Deep.RegionHeld3
import Derived.Deep.RegionLaw
import Derived.Outline
namespace Go.Proofs.Ytmopflcaeecgcaa
open Go Go.RowKit Go.Maps
set_option linter.unusedVariables false
/-- Region n is q from now on. -/
def PS.set (m : PS) (n : Nat) (q : Option RV) : PS := { m with vs := updv m.vs n q }
def PS.grown (m : PS) (k : Nat) : PS := ⟨m.made + 1, m.fail - 1, updv m.vs (m.made + 1) (some (3, List.replicate k 0, false))⟩
def PS.graced (m : PS) : PS := { m with vs := gracev m.vs m.made }
section
variable (bm bx : Nat) (m : PS)
theorem k_alloc (hf : m.fail ≠ 1) (hm : m.made < 4095) (k : Nat) (h1 : 1 ≤ k) (h2 : k ≤ 1048576) :
    KCall 61 #[.pointer (some ⟨bm, 0, none⟩), .int .i64 k, .int .i64 3] bm m (m.grown k) (.returned (.tuple #[.int .u64 (addr (m.made + 1) 0), .int .i64 0])) := by
  rintro w S ⟨st, rl, mv, rv, hk, hv⟩
  refine (alloc_ok hk hf hm k 3 (by omega) (by omega) (by omega) (by omega)).mono ?_
  rintro e w' ⟨rfl, r, mv', hk', kk, e1, e2, e3, e4⟩
  exact ⟨rfl, ⟨_, _, _, _, hk', upd_v hv _ _ (by simp [RG.v, e1, e2, e3])⟩, kk⟩
theorem x_alloc (hf : m.fail ≠ 1) (hm : m.made < 4095) (k : Nat) (h1 : 1 ≤ k) (h2 : k ≤ 1048576) :
    XCall 52 #[.pointer (some ⟨bx, 0, none⟩), .int .i64 k, .int .i64 3] bx m (m.grown k) (.returned (.tuple #[.int .u64 (addr (m.made + 1) 0), .int .i64 0])) := by
  rintro w T ⟨rb, gb, lv, hr⟩
  obtain ⟨made, fail, vs⟩ := m
  have fin : ∀ (fl : Nat) (e : Ending) (w' : World), fl = fail - 1 → (e = .returned (.tuple #[.int .u64 (addr (made + 1) 0), .int .i64 0]) ∧ XAllocPost w T bx made fl vs k 3 w') →
      e = .returned (.tuple #[.int .u64 (addr (made + 1) 0), .int .i64 0]) ∧ XSide w' (more T w w') bx (PS.grown ⟨made, fail, vs⟩ k) ∧ Keeps T w w' := by
    rintro fl e w' rfl ⟨rfl, rb', gb', lv', hr', kk⟩
    exact ⟨rfl, ⟨rb', gb', lv', hr'⟩, kk⟩
  rcases fail with _ | _ | f
  · exact (xalloc_zero hr hm k 3 (by omega) (by omega) (by decide) (by decide)).mono (fun e w' h => fin 0 e w' rfl h)
  · exact absurd rfl hf
  · exact (xalloc_more hr hm k 3 (by omega) (by omega) (by decide) (by decide)).mono (fun e w' h => fin (f + 1) e w' rfl h)
theorem k_alloc_no (hf : m.fail = 1) (k : Nat) (h1 : 1 ≤ k) (h2 : k ≤ 1048576) :
    KCall 61 #[.pointer (some ⟨bm, 0, none⟩), .int .i64 k, .int .i64 3] bm m { m with fail := 0 } (.returned (.tuple #[.int .u64 0, .int .i64 2])) := by
  obtain ⟨made, fail, vs⟩ := m
  subst hf
  exact kalloc_no bm made vs k h1 h2
theorem x_alloc_no (hf : m.fail = 1) (k : Nat) (h1 : 1 ≤ k) (h2 : k ≤ 1048576) :
    XCall 52 #[.pointer (some ⟨bx, 0, none⟩), .int .i64 k, .int .i64 3] bx m { m with fail := 0 } (.returned (.tuple #[.int .u64 0, .int .i64 2])) := by
  obtain ⟨made, fail, vs⟩ := m
  subst hf
  exact xalloc_no bx made vs k h1 h2
theorem k_put (n : Nat) (hn : n ≤ 4294967295) (q : RV) (hs : m.vs n = some q) (l : List UInt8) (hl : l.length ≤ 1048576) (hb : l.length ≤ q.2.1.length) :
    KCall 60 #[.pointer (some ⟨bm, 0, none⟩), .int .u64 (addr n 0), .string (bstr l)] bm m (m.set n (some (q.1, setAt q.2.1 0 l, q.2.2))) (.returned (.int .i64 0)) := by
  rintro w S ⟨st, rl, mv, rv, hk, hv⟩
  obtain ⟨r, hr, rfl⟩ := st_some hv hs
  refine (put_ok hk n 0 hn (by decide) l hl hr (by rw [Nat.zero_add]; exact hb)).mono ?_
  rintro e w' ⟨rfl, g, hk', kk⟩
  exact ⟨rfl, ⟨_, _, _, _, hk', upd_v hv n _ rfl⟩, kk⟩
theorem x_put (n : Nat) (hn : n ≤ 4294967295) (q : RV) (hs : m.vs n = some q) (l : List UInt8) (hl : l.length ≤ 1048576) (hb : l.length ≤ q.2.1.length) :
    XCall 51 #[.pointer (some ⟨bx, 0, none⟩), .int .u64 (addr n 0), .string (bstr l)] bx m (m.set n (some (q.1, setAt q.2.1 0 l, q.2.2))) (.returned (.int .i64 0)) :=
  XCall.step fun w _ _ _ _ hr => xput_ok hr n 0 (by decide) l hl hs (by rw [Nat.zero_add]; exact hb)
theorem k_free (n : Nat) (hn : n ≤ 4294967295) (q : RV) (hs : m.vs n = some q) :
    KCall 48 #[.pointer (some ⟨bm, 0, none⟩), .int .u64 (addr n 0)] bm m (m.set n none) (.returned (.int .i64 0)) := by
  rintro w S ⟨st, rl, mv, rv, hk, hv⟩
  obtain ⟨r, hr, hq⟩ := st_some hv hs
  rcases hret : r.ret with _ | _
  · refine (free_ok hk n hr hret).mono ?_
    rintro e w' ⟨rfl, hk', kk⟩
    exact ⟨rfl, ⟨_, _, _, _, hk', upd_v hv n none rfl⟩, kk⟩
  · refine (free_ret hk n hr hret).mono ?_
    rintro e w' ⟨rfl, rl', rv', hk', kk⟩
    exact ⟨rfl, ⟨_, _, _, _, hk', upd_v hv n none rfl⟩, kk⟩
theorem x_free (n : Nat) (q : RV) (hs : m.vs n = some q) :
    XCall 57 #[.pointer (some ⟨bx, 0, none⟩), .int .u64 (addr n 0)] bx m (m.set n none) (.returned (.int .i64 0)) :=
  XCall.step fun w _ _ _ _ hr => xfree_ok hr n hs
theorem k_retire (n : Nat) (q : RV) (hs : m.vs n = some q) (hq : q.2.2 = false) :
    KCall 66 #[.pointer (some ⟨bm, 0, none⟩), .int .u64 (addr n 0)] bm m (m.set n (some (q.1, q.2.1, true))) (.returned (.int .i64 0)) := by
  rintro w S ⟨st, rl, mv, rv, hk, hv⟩
  obtain ⟨r, hr, hq'⟩ := st_some hv hs
  subst hq'
  refine (retire_ok hk n hr hq).mono ?_
  rintro e w' ⟨rfl, v', hk', kk⟩
  exact ⟨rfl, ⟨_, _, _, _, hk', upd_v hv n _ rfl⟩, kk⟩
theorem x_retire (n : Nat) (q : RV) (hs : m.vs n = some q) (hq : q.2.2 = false) :
    XCall 72 #[.pointer (some ⟨bx, 0, none⟩), .int .u64 (addr n 0)] bx m (m.set n (some (q.1, q.2.1, true))) (.returned (.int .i64 0)) :=
  XCall.step fun w _ _ _ _ hr => xretire_ok hr n hs hq
theorem k_grace : KCall 24 #[.pointer (some ⟨bm, 0, none⟩)] bm m m.graced (.returned (.tuple #[])) := by
  rintro w S ⟨st, rl, mv, rv, hk, hv⟩
  refine (grace_any hk).mono ?_
  rintro e w' ⟨rfl, hk', kk⟩
  refine ⟨rfl, ⟨_, _, _, _, hk', fun n => ?_⟩, kk⟩
  have hM := hk.retM n
  simp only [PS.graced, gracev, dels, ← hv n]
  rcases hs : st n with _ | r
  · simp [keepv]
  · have hrg := hk.range n r hs
    rw [if_pos hrg.2]
    by_cases hn : n ∈ rl
    · obtain ⟨r', h1, h2⟩ := hM.1 hn
      rw [hs] at h1
      cases h1
      simp [hn, keepv, RG.v, h2]
    · have h2 : r.ret = false := by
        rcases h : r.ret with _ | _
        · rfl
        · exact absurd (hM.2 ⟨r, hs, h⟩) hn
      simp [hn, keepv, RG.v, h2]
theorem x_grace : XCall 34 #[.pointer (some ⟨bx, 0, none⟩)] bx m m.graced (.returned (.tuple #[])) :=
  XCall.step fun w _ _ _ _ hr => xgrace_any hr
/-- A write of one byte at a region's first place. -/
theorem k_write1 (n : Nat) (hn : n ≤ 4294967295) (b : List UInt8) (hs : m.vs n = some (3, b, false)) (hb : 1 ≤ b.length) (u : Nat) (hu : u ≤ 18446744073709551615) :
    KCall 32 #[.pointer (some ⟨bm, 0, none⟩), .int .u64 (addr n 0), .int .i64 1, .int .u64 u] bm m (m.set n (some (3, setAt b 0 (wb u 1), false))) (.returned (.int .i64 0)) := by
  rintro w S ⟨st, rl, mv, rv, hk, hv⟩
  obtain ⟨r, hr, hq'⟩ := st_some hv hs
  have e1 : r.perm = 3 := congrArg (fun q : RV => q.1) hq'
  have e2 : r.bytes = b := congrArg (fun q : RV => q.2.1) hq'
  have e3 : r.ret = false := congrArg (fun q : RV => q.2.2) hq'
  refine (write_ok hk n 0 hn (by decide) 1 (by decide) u hu hr (by rw [e1]; decide) (by rw [e2]; exact hb)).mono ?_
  rintro e w' ⟨rfl, g, hk', kk⟩
  exact ⟨rfl, ⟨_, _, _, _, hk', upd_v hv _ _ (by simp [RG.v, e1, e2, e3])⟩, kk⟩
theorem k_write0 (u : Nat) (hu : u ≤ 18446744073709551615) :
    KCall 32 #[.pointer (some ⟨bm, 0, none⟩), .int .u64 0, .int .i64 1, .int .u64 u] bm m m (.returned (.int .i64 20)) :=
  KCall.same fun w S st rl mv rv hk hv => write_fault _ _ _ _ 20 (by decide) w (find_null hk 0 0 (by decide) (by decide) 1 2 (.inl rfl))
end
end Go.Proofs.Ytmopflcaeecgcaa
namespace Go.Proofs.Ytmopflcaeecgcaa
open Go Go.RowKit Go.Maps
set_option linter.unusedVariables false
set_option linter.unusedSimpArgs false
/-- An entry: its key, its region's number, when it was used last. -/
structure Ent where
  key : ByteArray
  n : Nat
  used : Nat
def keyB (a b : ByteArray) : Bool := a.toList == b.toList
def findE : List Ent → ByteArray → Option Nat
  | [], _ => none
  | e :: es, k => if keyB e.key k = true then some 0 else (findE es k).map (· + 1)
def findI (es : List Ent) (k : ByteArray) : Int := (findE es k).elim (-1) fun i => (i : Int)
theorem find_lt : ∀ {es : List Ent} {k : ByteArray} {i : Nat}, findE es k = some i → i < es.length
  | [], _, _, h => by cases h
  | e :: es, k, i, h => by
    unfold findE at h
    split at h
    · cases h; simp
    · obtain ⟨j, hj, rfl⟩ := Option.map_eq_some_iff.1 h
      have := find_lt hj
      simp; omega
theorem find_key : ∀ {es : List Ent} {k : ByteArray} {i : Nat} {e : Ent}, findE es k = some i → es[i]? = some e → keyB e.key k = true
  | [], _, _, _, h, _ => by cases h
  | e' :: es, k, i, e, h, he => by
    unfold findE at h
    split at h
    · rename_i hk
      cases h
      simp at he
      rw [← he]; exact hk
    · obtain ⟨j, hj, rfl⟩ := Option.map_eq_some_iff.1 h
      exact find_key hj (by simpa using he)
theorem find_at : ∀ {es : List Ent} {k : ByteArray} {j : Nat} {e : Ent}, findE (es.take j) k = none → es[j]? = some e → keyB e.key k = true → findE es k = some j
  | [], _, _, _, _, h, _ => by simp at h
  | e' :: es, k, 0, e, _, h, hk => by
    simp at h
    subst h
    unfold findE
    rw [if_pos hk]
  | e' :: es, k, j + 1, e, h0, h, hk => by
    rw [List.take_succ_cons] at h0
    unfold findE at h0 ⊢
    split at h0
    · cases h0
    · rename_i hn
      rw [if_neg hn, find_at (Option.map_eq_none_iff.1 h0) (by simpa using h) hk]
      rfl
theorem find_step : ∀ {es : List Ent} {k : ByteArray} {j : Nat} {e : Ent}, findE (es.take j) k = none → es[j]? = some e → keyB e.key k = false → findE (es.take (j + 1)) k = none
  | [], _, _, _, _, h, _ => by simp at h
  | e' :: es, k, 0, e, _, h, hk => by
    simp at h
    subst h
    simp [findE, hk]
  | e' :: es, k, j + 1, e, h0, h, hk => by
    rw [List.take_succ_cons] at h0 ⊢
    unfold findE at h0 ⊢
    split at h0
    · cases h0
    · rename_i hn
      rw [if_neg hn, find_step (Option.map_eq_none_iff.1 h0) (by simpa using h) hk]
      rfl
/-- An entry's cells. -/
def entC (e : Ent) : List Value := [.string e.key, .int .u64 (addr e.n 0), .int .i64 e.used]
def entsC (es : List Ent) : List Value := es.flatMap entC
theorem entsC_length (es : List Ent) : (entsC es).length = es.length * 3 := by
  induction es with
  | nil => rfl
  | cons e es ih => rw [entsC, List.flatMap_cons, List.length_append, ← entsC, ih]; simp [entC]; omega
theorem entsC_get : ∀ {es : List Ent} {i : Nat} {e : Ent} (j : Nat), es[i]? = some e → j < 3 → (entsC es)[i * 3 + j]? = (entC e)[j]?
  | [], i, e, j, h, _ => by simp at h
  | e' :: es, 0, e, j, h, hj => by
    simp at h
    subst h
    rw [entsC, List.flatMap_cons, List.getElem?_append_left (by simp [entC]; omega), Nat.zero_mul, Nat.zero_add]
  | e' :: es, i + 1, e, j, h, hj => by
    rw [entsC, List.flatMap_cons, List.getElem?_append_right (by simp [entC]; omega), ← entsC, ← entsC_get (es := es) (i := i) (e := e) j (by simpa using h) hj]
    congr 1
    simp [entC]
    omega
theorem entsC_append (a b : List Ent) : entsC (a ++ b) = entsC a ++ entsC b := List.flatMap_append
theorem entsC_one (es : List Ent) (u : Value) (h : u ∈ entsC es) : u.oneCell' = true := by
  simp only [entsC, List.mem_flatMap, entC, List.mem_cons, List.not_mem_nil, or_false] at h
  obtain ⟨e, _, rfl | rfl | rfl⟩ := h <;> rfl
/-- Entry i is used at u. -/
def setUsed (es : List Ent) (i u : Nat) : List Ent := es.modify i fun e => { e with used := u }
theorem setUsed_length (es : List Ent) (i u : Nat) : (setUsed es i u).length = es.length := by simp [setUsed]
theorem entsC_used : ∀ (es : List Ent) (i u : Nat), i < es.length → entsC (setUsed es i u) = (entsC es).set (i * 3 + 2) (.int .i64 u)
  | [], i, u, h => by simp at h
  | e :: es, 0, u, _ => by simp [setUsed, entsC, entC]
  | e :: es, i + 1, u, h => by
    have ih := entsC_used es i u (by simpa using h)
    have e1 : setUsed (e :: es) (i + 1) u = e :: setUsed es i u := by rw [setUsed, List.modify_succ_cons]; rfl
    have e2 : ∀ l : List Ent, entsC (e :: l) = entC e ++ entsC l := fun l => by rw [entsC, List.flatMap_cons]; rfl
    rw [e1, e2, e2, ih, List.set_append_right _ _ (by simp [entC]; omega)]
    congr 2
    simp [entC]
    omega
/-- The plain state of a table. -/
structure HSt where
  m : PS
  es : List Ent
  clock : Nat
  gone : Bool
structure HPar where
  bm : Nat
  bx : Nat
  x : Nat
  y : Nat
  k : Int
  key : Nat
  v : Nat
  mx : Nat
def HSt.use (s : HSt) (i : Nat) : HSt := { s with es := setUsed s.es i (s.clock + 1), clock := s.clock + 1 }
/-- Entry i goes. -/
def HSt.drop (s : HSt) (i : Nat) : HSt := { s with m := (s.es[i]?).elim s.m fun e => (s.m.vs e.n).elim s.m fun q => s.m.set e.n (some (q.1, q.2.1, true)), es := s.es.eraseIdx i }
/-- A row of entries, of a call's own. -/
abbrev entT : TypeId := 111
abbrev entsT : TypeId := 45
abbrev rT : TypeId := 47
abbrev rC (bx : Nat) (k key v mx : Int) (V : Value) (clock : Int) (gone : Bool) : Array Value := #[.pointer (some ⟨bx, 0, none⟩), .int .i64 k, .int .i64 key, .int .i64 v, .int .i64 mx, V, .int .i64 clock, .bool gone]
abbrev Ents (w : World) (V : Value) (es : List Ent) : Prop := w.ownsRow 0 entT 3 V es.length (entsC es)
theorem infoE : (Try.prog.info? entT).map (fun i => (i.zero, i.size, i.bytes)) = some (some (.agg #[.string ⟨#[]⟩, .int .u64 0, .int .i64 0]), 3, 32) := by kernel_rfl
theorem ents_form {w : World} {V : Value} {es : List Ent} (h : Ents w V es) :
    (V = .slice none 0 0 ∧ es = []) ∨ ∃ g c cur, V = .slice (some ⟨g, 0, none⟩) es.length c ∧ es.length ≤ c ∧ c ≤ maxLen ∧ Blk w g entT cur ∧ ∀ i u, (entsC es)[i]? = some u → w.cell? ⟨g, i, none⟩ = some u := by
  rcases h.2 with ⟨h1, h2⟩ | ⟨g, cap, cur, rfl, hb, hg, h1, h2, h3, h4⟩
  · exact .inl ⟨h1, List.length_eq_zero_iff.1 h2⟩
  · refine .inr ⟨g, cap, cur, rfl, h1, h2, hg, fun i u hi => ?_⟩
    have := h.cells (g := g) rfl i u hi
    rwa [show (⟨g, 0, none⟩ : Addr).add i = ⟨g, i, none⟩ by unfold Addr.add; split <;> simp_all] at this
/-- A cell of the row is written. -/
theorem ents_set {w : World} {g c i u : Nat} {es : List Ent} (h : Ents w (.slice (some ⟨g, 0, none⟩) es.length c) es) (hi : i < es.length) : Ents (w.setCell ⟨g, i * 3 + 2, none⟩ (.int .i64 u)) (.slice (some ⟨g, 0, none⟩) (setUsed es i u).length c) (setUsed es i u) := by
  rcases h.2 with ⟨h1, h2⟩ | ⟨g', cap, cur, e, hb, hg, h1, h2, h3, h4⟩
  · cases h1
  · cases e
    refine ⟨entsC_length _, .inr ⟨g, c, cur.setIfInBounds (i * 3 + 2) (.int .i64 u), rfl, Nat.zero_le _, Blk.set_ hg _ _, by rw [setUsed_length]; exact h1, h2, by simpa using h3, ?_⟩⟩
    rw [setUsed_length, entsC_used es i u hi, ← h4, Array.toList_setIfInBounds, List.take_set]
theorem ents_keeps {S : Nat → Prop} {w w' : World} {V : Value} {es : List Ent} (h : Ents w V es) (hk : Keeps S w w') (hS : ∀ g, V.ownBlock = some g → ¬ S g) : Ents w' V es := by
  refine ⟨h.1, h.2.imp id ?_⟩
  rintro ⟨g, cap, cur, rfl, h1, h2, rest⟩
  exact ⟨g, cap, cur, rfl, h1, Blk.keeps h2 hk (hS g rfl), rest⟩
theorem ents_append {w : World} {V : Value} {c : Nat} {N M : List Ent} {A : Option Addr} (ho : Ents w V N) (hY : ∀ i u, (entsC M)[i]? = some u → ∃ b o, A = some ⟨b, o, none⟩ ∧ w.cell? ⟨b, o + i, none⟩ = some u) (hA : A = none → M = [] ∧ c = 0) (hsp : ∀ a, A = some a → ∃ b o, a = ⟨b, o, none⟩) (hnm : N.length + M.length ≤ 1048576) :
    ∃ V' w', (∀ ty, (Builtin.append_ #[entsT, entsT] ty #[V, .slice A M.length c]).run Try.prog w = .ok V' w') ∧ Ents w' V' (N ++ M) ∧ w.grownBy w' V.ownBlock ∧ (V'.ownBlock = V.ownBlock ∨ V'.ownBlock = some w.heap.size) := by
  obtain ⟨i0, hi, hz0, hz1, hz2⟩ := info_parts infoE
  rcases A with _ | ad
  · obtain ⟨rfl, rfl⟩ := hA rfl
    refine ⟨V, w, fun ty => run_append_owned_none w 0 _ _ _ i0 3 Try.underlying45 hi V _ _ ho, ?_, ⟨rfl, rfl, rfl, Nat.le_refl _, fun _ _ _ => rfl⟩, .inl rfl⟩
    rw [List.append_nil]
    exact ho
  · obtain ⟨b, o, rfl⟩ := hsp ad rfl
    obtain ⟨V', w', hr, h1, h2, _, h4⟩ := run_append_own_at (P := Try.prog) w 0 entsT entsT entT i0 (.agg #[.string ⟨#[]⟩, .int .u64 0, .int .i64 0]) 3 32 Try.underlying45 hi hz0 hz1 hz2 rfl (by decide) V _ _ ho ⟨b, o, none⟩ M.length c (entsC M) (entsC_length M) (fun j u hj => by
      obtain ⟨b', o', e, hc⟩ := hY j u hj
      cases e
      rw [Go.WideShapes.add_plain]
      exact hc) (entsC_one M) (by unfold maxLen; omega) (by omega) (Nat.zero_le _)
    refine ⟨V', w', fun ty => by rw [← hr]; rfl, ?_, h2, h4⟩
    unfold Ents
    rw [entsC_append, List.length_append]
    exact h1
end Go.Proofs.Ytmopflcaeecgcaa
namespace Go.Proofs.Ytmopflcaeecgcaa
open Go Go.RowKit Go.Maps
set_option linter.unusedVariables false
set_option linter.unusedSimpArgs false
set_option maxRecDepth 100000
abbrev tp (b : Nat) : Value := .pointer (some ⟨b, 0, none⟩)
theorem ret_i {k : IntKind} {a b : Int} (h : a = b) : Ending.returned (.int k a) = .returned (.int k b) := by rw [h]
theorem below_drewNh (w : World) (n : Nat) : Below w.heap.size w (w.drewN n) := ⟨rfl, rfl, rfl, Nat.le_refl _, fun _ _ => rfl⟩
theorem Blk.drewN {w : World} {g : Nat} {t : TypeId} {cs : Array Value} (h : Blk w g t cs) (n : Nat) : Blk (w.drewN n) g t cs := h
theorem Keeps.drewN' {S : Nat → Prop} {a w : World} (h : Keeps S a w) (n : Nat) : Keeps S a (w.drewN n) := ⟨h.os, h.tape, h.output, h.size, h.block⟩
theorem Blk.drew {w : World} {g : Nat} {t : TypeId} {cs : Array Value} (h : Blk w g t cs) : Blk w.drew g t cs := h
section
variable {w : World} {y g c : Nat} {bx : Nat} {k key v mx clock : Int} {gone : Bool} {es : List Ent}
/-- Entry i's cells. -/
theorem ents_cells {i : Nat} {e : Ent} (h : Ents w (.slice (some ⟨g, 0, none⟩) es.length c) es) (he : es[i]? = some e) :
    w.cell? ⟨g, i * 3, none⟩ = some (.string e.key) ∧ w.cell? ⟨g, i * 3 + 1, none⟩ = some (.int .u64 (addr e.n 0)) ∧ w.cell? ⟨g, i * 3 + 2, none⟩ = some (.int .i64 e.used) := by
  rcases ents_form h with ⟨h1, _⟩ | ⟨g', c', cur, e1, _, _, _, hc⟩
  · cases h1
  · cases e1
    exact ⟨hc (i * 3) _ (entsC_get 0 he (by decide)), hc (i * 3 + 1) _ (entsC_get 1 he (by decide)), hc (i * 3 + 2) _ (entsC_get 2 he (by decide))⟩
set_option maxHeartbeats 1000000 in
theorem xfind_any {V : Value} (hy : Blk w y rT (rC bx k key v mx V clock gone)) (h : Ents w V es) (hl : es.length ≤ 1048576) (s : ByteArray) :
    Calls Try.prog 49 #[tp y, .string s] w fun e w' => e = .returned (.int .i64 (findI es s)) ∧ w = w' := by
  rcases ents_form h with ⟨rfl, rfl⟩ | ⟨g, c, cur, rfl, hlc, hcm, hg, hcells⟩
  · have c5 : w.cell? ⟨y, 5, none⟩ = some (.slice none 0 0) := hy.cell 5
    clear hy h hl
    go_enter Try.func49, Try.ntmps49
    go_wp2_with fail
    go_loopw [5] (fun i wr => i = .int .i64 0 ∧ wr = w) (fun _ _ => 0)
    case atStart => exact ⟨rfl, rfl⟩
    case round =>
      obtain ⟨rfl, rfl⟩ := hrel
      go_wp2_with fail
      go_ret
      exact ⟨rfl, rfl⟩
  · have H := Lib.hid h
    have c5 : w.cell? ⟨y, 5, none⟩ = some (.slice (some ⟨g, 0, none⟩) es.length c) := hy.cell 5
    obtain ⟨n, hn⟩ : ∃ n, es.length = n := ⟨_, rfl⟩
    have HN := Lib.hid hn
    rw [hn] at c5 hl
    clear hy h hcells hlc hcm hn hg
    go_enter Try.func49, Try.ntmps49
    go_wp2_with fail
    go_loopw [5] (fun i wr => ∃ j : Nat, j ≤ n ∧ i = .int .i64 j ∧ wr = w ∧ findE (es.take j) s = none) (fun i _ => n - (intOf i).toNat)
    case atStart => exact ⟨0, by omega, rfl, rfl, rfl⟩
    case round =>
      obtain ⟨j, hj, rfl, hw, hf⟩ := hrel
      obtain rfl : w = wr := hw.symm
      have HF := Lib.hid hf; clear hf
      by_cases hjn : j < n
      · obtain ⟨e, he⟩ : ∃ e, es[j]? = some e := ⟨_, List.getElem?_eq_getElem (by rw [HN.out]; exact hjn)⟩
        have HE := Lib.hid he
        have d0 : w.cell? ⟨g, j * 3, none⟩ = some (.string e.key) := (ents_cells H.out he).1
        clear he
        have g1 : decide (j < n) = true := by simpa using hjn
        have i1 : (j : Int) < (n : Int) := by omega
        cases hk : (e.key.toList == s.toList)
        · have HK := Lib.hid hk
          go_wp2_with fail
          go_roundw
          case rel => exact ⟨j + 1, by omega, by go_num, trivial, find_step HF.out HE.out HK.out⟩
          case measure => simp [intOf]; omega
        · have HK := Lib.hid hk
          have HA : Hid (findI es s = (j : Int)) := by unfold findI; rw [find_at HF.out HE.out HK.out]; rfl
          go_wp2_with fail
          go_ret
          exact ⟨ret_i HA.out.symm, rfl⟩
      · obtain rfl : j = n := by omega
        have HA : Hid (findI es s = -1) := by
          have := HF.out
          rw [List.take_of_length_le (by rw [HN.out]; exact Nat.le_refl _)] at this
          unfold findI; rw [this]; rfl
        go_wp2_with fail
        go_ret
        exact ⟨ret_i HA.out.symm, rfl⟩
end
end Go.Proofs.Ytmopflcaeecgcaa
namespace Go.Proofs.Ytmopflcaeecgcaa
open Go Go.RowKit Go.Maps
set_option linter.unusedVariables false
set_option linter.unusedSimpArgs false
set_option maxRecDepth 100000
abbrev rowC (p : HPar) (s : HSt) (V : Value) : Array Value := rC p.bx p.k p.key p.v p.mx V s.clock s.gone
/-- A table of the reference lies in the blocks of Q, its memory's and its own. -/
structure YAt (p : HPar) (s : HSt) (Q T : Nat → Prop) (V : Value) (w : World) : Prop where
  ql : ∀ b, Q b → b < w.heap.size
  qy : Q p.y
  side : XSide w T p.bx s.m
  tq : ∀ b, T b → Q b
  ty : ¬ T p.y
  map : Blk w p.y rT (rowC p s V)
  ents : Ents w V s.es
  own : ∀ g, V.ownBlock = some g → Q g ∧ ¬ T g ∧ g ≠ p.y
def YH (p : HPar) (s : HSt) (Q : Nat → Prop) (w : World) : Prop := ∃ T V, YAt p s Q T V w
/-- .. from world w0 and its blocks Q0 on. -/
structure YS (p : HPar) (w0 : World) (Q0 : Nat → Prop) (s : HSt) (T : Nat → Prop) (V : Value) (w : World) : Prop where
  keeps : Keeps Q0 w0 w
  ql : ∀ b, Q0 b → b < w0.heap.size
  qy : Q0 p.y
  side : XSide w T p.bx s.m
  tq : ∀ b, T b → Q0 b ∨ w0.heap.size ≤ b
  ty : ¬ T p.y
  map : Blk w p.y rT (rowC p s V)
  ents : Ents w V s.es
  own : ∀ g, V.ownBlock = some g → (Q0 g ∨ w0.heap.size ≤ g) ∧ ¬ T g ∧ g ≠ p.y
section
variable {p : HPar} {w0 w w' : World} {Q Q0 U T T' : Nat → Prop} {s s' : HSt} {V V' : Value}
theorem YAt.start (h : YAt p s Q T V w) : YS p w Q s T V w := ⟨Keeps.refl _ _, h.ql, h.qy, h.side, fun b hb => .inl (h.tq b hb), h.ty, h.map, h.ents, fun g hg => ⟨.inl (h.own g hg).1, (h.own g hg).2⟩⟩
theorem own_lt {es : List Ent} (h : Ents w V es) {g : Nat} (hg : V.ownBlock = some g) : g < w.heap.size := by
  rcases ents_form h with ⟨rfl, _⟩ | ⟨g', c, cur, rfl, _, _, hb, _⟩
  · cases hg
  · cases hg; exact hb.lt
theorem YS.done (h : YS p w0 Q0 s T V w) : YH p s (more Q0 w0 w) w ∧ Keeps Q0 w0 w := by
  refine ⟨⟨T, V, ?_, .inl h.qy, h.side, fun b hb => (h.tq b hb).imp id fun hz => ⟨hz, h.side.lt' b hb⟩, h.ty, h.map, h.ents, fun g hg => ⟨(h.own g hg).1.imp id fun hz => ⟨hz, own_lt h.ents hg⟩, (h.own g hg).2⟩⟩, h.keeps⟩
  rintro b (hb | ⟨_, hb⟩)
  · exact Nat.lt_of_lt_of_le (h.ql b hb) h.keeps.size
  · exact hb
/-- Whom a table's own statements write. -/
def ownY (p : HPar) (V : Value) (b : Nat) : Prop := b = p.y ∨ V.ownBlock = some b
theorem YS.local_ (h : YS p w0 Q0 s T V w) (hm : s'.m = s.m) (k : Keeps (ownY p V) w w') (map' : Blk w' p.y rT (rowC p s' V')) (ents' : Ents w' V' s'.es) (own' : ∀ g, V'.ownBlock = some g → V.ownBlock = some g ∨ w.heap.size ≤ g) : YS p w0 Q0 s' T V' w' := by
  have hT : ∀ b, T b → ¬ ownY p V b := fun b hb hu => by
    rcases hu with rfl | hu
    · exact h.ty hb
    · exact (h.own b hu).2.1 hb
  refine ⟨h.keeps.trans (k.mono ?_), h.ql, h.qy, by rw [hm]; exact h.side.keeps' k hT, h.tq, h.ty, map', ents', fun g hg => ?_⟩
  · rintro b (rfl | hu)
    · exact .inl h.qy
    · exact (h.own b hu).1.imp id fun hz => ⟨hz, own_lt h.ents hu⟩
  · rcases own' g hg with hu | hz
    · exact h.own g hu
    · refine ⟨.inr (Nat.le_trans h.keeps.size hz), fun ht => ?_, fun e => ?_⟩
      · have := h.side.lt' g ht; omega
      · have := h.map.lt; omega
theorem YS.mem_ {m' : PS} (h : YS p w0 Q0 s T V w) (hk : XSide w' (more T w w') p.bx m') (kk : Keeps T w w') : YS p w0 Q0 { s with m := m' } (more T w w') V w' := by
  have hz := h.keeps.size
  refine ⟨h.keeps.trans (kk.mono fun b hb => (h.tq b hb).imp id fun hz => ⟨hz, h.side.lt' b hb⟩), h.ql, h.qy, hk, ?_, ?_, h.map.keeps kk h.ty, ents_keeps h.ents kk (fun g hg => (h.own g hg).2.1), fun g hg => ⟨(h.own g hg).1, ?_, (h.own g hg).2.2⟩⟩
  · rintro b (hb | ⟨hb, _⟩)
    · exact h.tq b hb
    · exact .inr (by omega)
  · rintro (hb | ⟨hb, _⟩)
    · exact h.ty hb
    · have := h.map.lt; omega
  · rintro (hb | ⟨hb, _⟩)
    · exact (h.own g hg).2.1 hb
    · have := own_lt h.ents hg; omega
theorem YS.quiet (h : YS p w0 Q0 s T V w) (hb : Keeps (fun _ => False) w w') : YS p w0 Q0 s T V w' :=
  h.local_ rfl (hb.mono fun _ hf => hf.elim) (h.map.keeps hb (fun hf => hf)) (ents_keeps h.ents hb (fun _ _ hf => hf)) (fun g hg => .inl hg)
theorem YS.drewN (h : YS p w0 Q0 s T V w) (n : Nat) : YS p w0 Q0 s T V (w.drewN n) := h.quiet ⟨rfl, rfl, rfl, Nat.le_refl _, fun _ _ _ => rfl⟩
theorem YS.drew (h : YS p w0 Q0 s T V w) : YS p w0 Q0 s T V w.drew := h.quiet ⟨rfl, rfl, rfl, Nat.le_refl _, fun _ _ _ => rfl⟩
theorem YS.call {m' : PS} {f : FuncId} {args : Array Value} {e0 : Ending} (h : YS p w0 Q0 s T V w) (c : XCall f args p.bx s.m m' e0) :
    Calls Try.prog f args w fun e w' => e = e0 ∧ ∃ T', YS p w0 Q0 { s with m := m' } T' V w' := by
  refine (c w T h.side).mono ?_
  rintro e w' ⟨rfl, hk, kk⟩
  exact ⟨rfl, _, h.mem_ hk kk⟩
/-- A row that holds entries. -/
theorem YS.row (h : YS p w0 Q0 s T V w) (h0 : s.es ≠ []) : ∃ g c, V = .slice (some ⟨g, 0, none⟩) s.es.length c ∧ s.es.length ≤ c ∧ c ≤ maxLen := by
  rcases ents_form h.ents with ⟨_, h1⟩ | ⟨g, c, cur, rfl, h1, h2, _⟩
  · exact absurd h1 h0
  · exact ⟨g, c, rfl, h1, h2⟩
theorem YS.shape (h : YS p w0 Q0 s T V w) : ∃ A c, V = .slice A s.es.length c := by
  rcases ents_form h.ents with ⟨h1, h2⟩ | ⟨g, c, cur, rfl, _⟩
  · exact ⟨none, 0, by rw [h1, h2]; rfl⟩
  · exact ⟨_, c, rfl⟩
theorem YS.find (h : YS p w0 Q0 s T V w) (hl : s.es.length ≤ 4096) (key : ByteArray) :
    Calls Try.prog 49 #[tp p.y, .string key] w fun e w' => e = .returned (.int .i64 (findI s.es key)) ∧ w = w' := xfind_any h.map h.ents (by omega) key
set_option maxHeartbeats 1000000 in
theorem YS.use (h : YS p w0 Q0 s T V w) (i : Nat) (hi : i < s.es.length) (hc : s.clock < 1000000) :
    Calls Try.prog 50 #[tp p.y, .int .i64 i] w fun e w' => e = .returned (.tuple #[]) ∧ YS p w0 Q0 (s.use i) T V w' := by
  obtain ⟨g, c, rfl, h1, h2⟩ := h.row (by intro e; rw [e] at hi; simp at hi)
  obtain ⟨e, he⟩ : ∃ e, s.es[i]? = some e := ⟨_, List.getElem?_eq_getElem hi⟩
  have d2 := (ents_cells h.ents he).2.2
  have hgy : g ≠ p.y := (h.own g rfl).2.2
  have c5 : w.cell? ⟨p.y, 5, none⟩ = some (.slice (some ⟨g, 0, none⟩) s.es.length c) := h.map.cell 5
  have c6 : w.cell? ⟨p.y, 6, none⟩ = some (.int .i64 s.clock) := h.map.cell 6
  have f6 : w.frozen? ⟨p.y, 6, none⟩ = false := h.map.frozen 6
  have fg : w.frozen? ⟨g, i * 3 + 2, none⟩ = false := by
    rcases ents_form h.ents with ⟨e1, _⟩ | ⟨g', c', cur, e1, _, _, hb, _⟩
    · cases e1
    · cases e1; exact hb.frozen _
  have e1 : IntKind.i64.wrap ((s.clock : Int) + 1) = ((s.clock + 1 : Nat) : Int) := by rw [IntWalk.i64_in _ (by omega)]; omega
  have i1 : (i : Int) < (s.es.length : Int) := by omega
  have HI := Lib.hid hi
  have H := Lib.hid h
  have HGY := Lib.hid hgy
  have hyg : p.y ≠ g := hgy.symm
  clear h hc h1 h2 he hi
  have HN : Hid (s.es.length = s.es.length) := rfl
  obtain ⟨n, hn⟩ : ∃ n, s.es.length = n := ⟨_, rfl⟩
  have HNN := Lib.hid hn
  rw [hn] at c5 i1
  obtain ⟨ck, hck⟩ : ∃ ck, s.clock + 1 = ck := ⟨_, rfl⟩
  have HCK := Lib.hid hck
  rw [hck] at e1
  have HF : Hid (∀ N : Nat, YS p w0 Q0 (s.use i) T (.slice (some ⟨g, 0, none⟩) s.es.length c) (((w.setCell ⟨p.y, 6, none⟩ (.int .i64 (ck : Int))).drewN N).setCell ⟨g, i * 3 + 2, none⟩ (.int .i64 (ck : Int)))) := fun N => by
    subst hck
    have k1 : Keeps (ownY p (.slice (some ⟨g, 0, none⟩) s.es.length c)) w ((w.setCell ⟨p.y, 6, none⟩ (.int .i64 ((s.clock + 1 : Nat) : Int))).drewN N) := ((Keeps.refl (ownY p (.slice (some ⟨g, 0, none⟩) s.es.length c)) w).setCell (p := ⟨p.y, 6, none⟩) (.inl (.inl rfl)) _).drewN' N
    refine H.out.local_ (s' := s.use i) rfl (k1.setCell (p := ⟨g, i * 3 + 2, none⟩) (.inl (.inr rfl)) _) ?_ ?_ (fun g' hg' => .inl hg')
    · exact ((H.out.map.set_ 6 _).drewN N).far HGY.out.symm _
    · have he' : Ents ((w.setCell ⟨p.y, 6, none⟩ (.int .i64 ((s.clock + 1 : Nat) : Int))).drewN N) (.slice (some ⟨g, 0, none⟩) s.es.length c) s.es :=
        ents_keeps H.out.ents (((Keeps.refl (fun b => b = p.y) w).setCell (p := ⟨p.y, 6, none⟩) (.inl rfl) _).drewN' N) (fun g' hg' => by cases hg'; exact HGY.out)
      have := ents_set (u := s.clock + 1) he' HI.out
      rw [setUsed_length] at this
      exact this
  clear hn hck
  go_enter Try.func50, Try.ntmps50
  go_upto_region 1 with fail
  have m1 : Hid (Blk (w.setCell ⟨p.y, 6, none⟩ (.int .i64 (ck : Int))) p.y rT (rC p.bx p.k p.key p.v p.mx (.slice (some ⟨g, 0, none⟩) n c) ck s.gone)) := by
    have := H.out.map.set_ 6 (.int .i64 (ck : Int))
    rw [← HNN.out]; exact this
  have S0 : Hid ((w.setCell ⟨p.y, 6, none⟩ (.int .i64 (ck : Int))).cell? ⟨p.y, 5, none⟩ = some (.slice (some ⟨g, 0, none⟩) n c) ∧ (w.setCell ⟨p.y, 6, none⟩ (.int .i64 (ck : Int))).cell? ⟨p.y, 6, none⟩ = some (.int .i64 (ck : Int))) := ⟨m1.out.cell 5, m1.out.cell 6⟩
  have S1 : Hid (∀ N : Nat, (((w.setCell ⟨p.y, 6, none⟩ (.int .i64 (ck : Int))).drewN N).setCell ⟨g, i * 3 + 2, none⟩ (.int .i64 (ck : Int))).cell? ⟨p.y, 5, none⟩ = some (.slice (some ⟨g, 0, none⟩) n c) ∧ (((w.setCell ⟨p.y, 6, none⟩ (.int .i64 (ck : Int))).drewN N).setCell ⟨g, i * 3 + 2, none⟩ (.int .i64 (ck : Int))).cell? ⟨p.y, 6, none⟩ = some (.int .i64 (ck : Int))) := fun N => ⟨((m1.out.drewN N).far HGY.out.symm _).cell 5, ((m1.out.drewN N).far HGY.out.symm _).cell 6⟩
  go_region_held3 (fun W => W.cell? ⟨p.y, 5, none⟩ = some (.slice (some ⟨g, 0, none⟩) n c) ∧ W.cell? ⟨p.y, 6, none⟩ = some (.int .i64 (ck : Int)))
    (first | exact S0.out | exact S1.out _)
    (first | fail)
  go_wp2_with fail
  go_end0
  exact ⟨rfl, HF.out _⟩
end
end Go.Proofs.Ytmopflcaeecgcaa
