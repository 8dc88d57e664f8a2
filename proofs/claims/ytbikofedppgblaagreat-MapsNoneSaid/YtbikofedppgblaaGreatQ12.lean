/-
  Package flat: a map's regions, plainly: the numbers a + 1 to b, their bytes; what each call on either memory does to them. Both memories, call by call, each with its plain effect on any plain memory: what tables that make, retire and free regions want. A table, plainly: entries in the order of their coming; what each call answers, and what is left. The reference of layer 10: find, use, Lookup.
-/
import Derived.Test.YtbikofedppgblaaGreatQ11
import Derived.Maps.AppendAt
import Derived.Laws.OwnMore
import Derived.Lib.Hide
import Derived.IntWalk
import Derived.WalkSpells
import Derived.BigQuiet
import Derived.Deep.QuietTactic
import Derived.Deep.Cut
import Derived.Deep.RegionHeld3
import Derived.Deep.RegionLaw
import Derived.Outline
namespace Go.Proofs.YtbikofedppgblaaGreat
open Go Go.RowKit Go.Maps
set_option linter.unusedVariables false
def rng (a b : Nat) (z : Nat → List UInt8) : Nat → Option RV := fun i => if a < i ∧ i ≤ b then some (3, z i, false) else none
def upz (z : Nat → List UInt8) (c : Nat) (l : List UInt8) : Nat → List UInt8 := fun i => if i = c then l else z i
section
variable {a b c i j : Nat} {z : Nat → List UInt8} {l : List UInt8}
theorem rng_in (h : a < i ∧ i ≤ b) : rng a b z i = some (3, z i, false) := if_pos h
theorem rng_out (h : ¬ (a < i ∧ i ≤ b)) : rng a b z i = none := if_neg h
theorem rng_nil : rng b b z = fun _ => none := by
  funext i
  exact rng_out (by omega)
theorem rng_add : updv (rng a b z) (b + 1) (some (3, z (b + 1), false)) = rng (min a b) (b + 1) z ∨ a ≠ 0 := by
  rcases Nat.eq_zero_or_pos a with rfl | h
  · left
    funext i
    unfold updv rng
    by_cases h1 : i = b + 1
    · subst h1; rw [if_pos rfl, if_pos (by omega)]
    · rw [if_neg h1]
      by_cases h2 : 0 < i ∧ i ≤ b
      · rw [if_pos h2, if_pos (by omega)]
      · rw [if_neg h2, if_neg (by omega)]
  · right; omega
theorem rng_add0 : updv (rng 0 b z) (b + 1) (some (3, z (b + 1), false)) = rng 0 (b + 1) z := by
  rcases rng_add (a := 0) (b := b) (z := z) with h | h
  · rw [h, Nat.zero_min]
  · exact absurd rfl h
theorem rng_sub (h : a < b) : updv (rng a b z) (a + 1) none = rng (a + 1) b z := by
  funext i
  unfold updv rng
  by_cases h1 : i = a + 1
  · subst h1; rw [if_pos rfl, if_neg (by omega)]
  · rw [if_neg h1]
    by_cases h2 : a < i ∧ i ≤ b
    · rw [if_pos h2, if_pos (by omega)]
    · rw [if_neg h2, if_neg (by omega)]
theorem rng_upd (h : a < c ∧ c ≤ b) : updv (rng a b z) c (some (3, l, false)) = rng a b (upz z c l) := by
  funext i
  unfold updv rng upz
  by_cases h1 : i = c
  · subst h1; rw [if_pos rfl, if_pos h, if_pos rfl]
  · rw [if_neg h1, if_neg h1]
end
/-- The one memory: from a world and its blocks on. -/
def KS (w0 : World) (S0 : Nat → Prop) (bm : Nat) (m : PS) (S : Nat → Prop) (w : World) : Prop := KSide w S bm m ∧ Keeps S0 w0 w ∧ ∀ b, S b → S0 b ∨ w0.heap.size ≤ b
section
variable {w0 w w' : World} {S0 S : Nat → Prop} {bm bx : Nat} {m m' : PS} {f : FuncId} {args : Array Value} {e0 : Ending}
theorem KSide.lt' (h : KSide w S bm m) : ∀ b, S b → b < w.heap.size := by
  obtain ⟨st, rl, mv, rv, hk, hv⟩ := h
  exact hk.lt
theorem KSide.keeps' {U : Nat → Prop} (h : KSide w S bm m) (k : Keeps U w w') (hd : ∀ b, S b → ¬ U b) : KSide w' S bm m := by
  obtain ⟨st, rl, mv, rv, hk, hv⟩ := h
  exact ⟨st, rl, mv, rv, hk.keeps k hd, hv⟩
theorem KS.start (h : KSide w S bm m) : KS w S bm m S w := ⟨h, Keeps.refl _ _, fun b hb => .inl hb⟩
theorem more_lt {w1 w2 : World} {S : Nat → Prop} (h : ∀ b, S b → S0 b ∨ w0.heap.size ≤ b) (hz : w0.heap.size ≤ w1.heap.size) : ∀ b, more S w1 w2 b → S0 b ∨ w0.heap.size ≤ b := by
  rintro b (hb | ⟨hb, _⟩)
  · exact h b hb
  · exact .inr (by omega)
theorem KS.then (h : KS w0 S0 bm m S w) (h2 : KSide w' (more S w w') bm m') (k : Keeps S w w') : KS w0 S0 bm m' (more S w w') w' :=
  ⟨h2, h.2.1.trans (k.mono fun b hb => (h.2.2 b hb).imp id fun hz => ⟨hz, h.1.lt' b hb⟩), more_lt h.2.2 h.2.1.size⟩
theorem KS.call (h : KS w0 S0 bm m S w) (c : KCall f args bm m m' e0) : Calls Tryz.prog f args w fun e w' => e = e0 ∧ KS w0 S0 bm m' (more S w w') w' ∧ Keeps S w w' := by
  refine (c w S h.1).mono ?_
  rintro e w' ⟨rfl, hk, kk⟩
  exact ⟨rfl, h.then hk kk, kk⟩
/-- What only adds to the world. -/
theorem KS.grow (h : KS w0 S0 bm m S w) (hb : Keeps (fun _ => False) w w') : KS w0 S0 bm m S w' :=
  ⟨h.1.keeps' hb (fun _ _ hf => hf), h.2.1.trans (hb.mono fun _ hf => hf.elim), h.2.2⟩
/-- Writes of new blocks, that are none of the memory's. -/
theorem KS.wrote {U : Nat → Prop} (h : KS w0 S0 bm m S w) (hb : Keeps U w w') (hU : ∀ b, U b → w0.heap.size ≤ b ∧ ¬ S b) : KS w0 S0 bm m S w' :=
  ⟨h.1.keeps' hb (fun b hs hu => (hU b hu).2 hs), h.2.1.trans ⟨hb.os, hb.tape, hb.output, hb.size, fun k hk hn => hb.block k hk fun hu => hn (.inr ⟨(hU k hu).1, hk⟩)⟩, h.2.2⟩
end
section
variable (bm bx : Nat) (made fail a b : Nat) (z : Nat → List UInt8)
theorem kalloc_yes (hf : fail ≠ 1) (hm : made < 4095) (k : Nat) (h1 : 1 ≤ k) (h2 : k ≤ 1048576) (hz : z (made + 1) = List.replicate k 0) :
    KCall 70 #[.pointer (some ⟨bm, 0, none⟩), .int .i64 k, .int .i64 3] bm ⟨made, fail, rng 0 made z⟩ ⟨made + 1, fail - 1, rng 0 (made + 1) z⟩ (.returned (.tuple #[.int .u64 (addr (made + 1) 0), .int .i64 0])) := by
  rintro w S ⟨st, rl, mv, rv, hk, hv⟩
  refine (alloc_ok hk hf hm k 3 (by omega) (by omega) (by omega) (by omega)).mono ?_
  rintro e w' ⟨rfl, r, mv', hk', kk, e1, e2, e3, e4⟩
  refine ⟨rfl, ⟨_, _, _, _, hk', ?_⟩, kk⟩
  show ∀ n, (upd st (made + 1) (some r) n).map RG.v = rng 0 (made + 1) z n
  rw [← rng_add0, hz]
  exact upd_v hv _ _ (by simp [RG.v, e1, e2, e3])
theorem kalloc_no (vs : Nat → Option RV) (k : Nat) (h1 : 1 ≤ k) (h2 : k ≤ 1048576) :
    KCall 70 #[.pointer (some ⟨bm, 0, none⟩), .int .i64 k, .int .i64 3] bm ⟨made, 1, vs⟩ ⟨made, 0, vs⟩ (.returned (.tuple #[.int .u64 0, .int .i64 2])) := by
  rintro w S ⟨st, rl, mv, rv, hk, hv⟩
  refine (alloc_mem hk k 3 (by omega) (by omega) (by omega) (by omega)).mono ?_
  rintro e w' ⟨rfl, hk', kk⟩
  exact ⟨rfl, ⟨_, _, _, _, hk', hv⟩, kk⟩
theorem kfree (h : a < b) : KCall 129 #[.pointer (some ⟨bm, 0, none⟩), .int .u64 (addr (a + 1) 0)] bm ⟨made, fail, rng a b z⟩ ⟨made, fail, rng (a + 1) b z⟩ (.returned (.int .i64 0)) := by
  rintro w S ⟨st, rl, mv, rv, hk, hv⟩
  obtain ⟨r, hr, hq⟩ := st_some hv (rng_in (a := a) (b := b) (z := z) (i := a + 1) (by omega))
  have hret : r.ret = false := congrArg (fun q : RV => q.2.2) hq
  refine (free_ok hk (a + 1) hr hret).mono ?_
  rintro e w' ⟨rfl, hk', kk⟩
  refine ⟨rfl, ⟨_, _, _, _, hk', ?_⟩, kk⟩
  show ∀ n, (upd st (a + 1) none n).map RG.v = rng (a + 1) b z n
  rw [← rng_sub h]
  exact upd_v hv _ none rfl
theorem kput (c q : Nat) (hc : 0 < c ∧ c ≤ b) (hb : b ≤ 8) (l : List UInt8) (hl : l.length ≤ 4096) (hq : q ≤ 4294967295) (hz : q + l.length ≤ (z c).length) :
    KCall 84 #[.pointer (some ⟨bm, 0, none⟩), .int .u64 (addr c q), .string (bstr l)] bm ⟨made, fail, rng 0 b z⟩ ⟨made, fail, rng 0 b (upz z c (setAt (z c) q l))⟩ (.returned (.int .i64 0)) := by
  rintro w S ⟨st, rl, mv, rv, hk, hv⟩
  obtain ⟨r, hr, hq'⟩ := st_some hv (rng_in (a := 0) (b := b) (z := z) (i := c) hc)
  have e1 : r.perm = 3 := congrArg (fun q : RV => q.1) hq'
  have e2 : r.bytes = z c := congrArg (fun q : RV => q.2.1) hq'
  have e3 : r.ret = false := congrArg (fun q : RV => q.2.2) hq'
  refine (put_ok hk c q (by omega) hq l (by omega) hr (by rw [e2]; exact hz)).mono ?_
  rintro e w' ⟨rfl, g, hk', kk⟩
  refine ⟨rfl, ⟨_, _, _, _, hk', ?_⟩, kk⟩
  show ∀ n, (upd st c (some { r with row := some g, bytes := setAt r.bytes q l }) n).map RG.v = rng 0 b (upz z c (setAt (z c) q l)) n
  rw [← rng_upd hc]
  exact upd_v hv _ _ (by simp [RG.v, e1, e2, e3])
theorem ksize (c q : Nat) (hc : 0 < c ∧ c ≤ b) (hb : b ≤ 8) (hq : q ≤ 4294967295) (hz : q < (z c).length) {w : World} {S : Nat → Prop} (h : KSide w S bm ⟨made, fail, rng 0 b z⟩) :
    Calls Tryz.prog 134 #[.pointer (some ⟨bm, 0, none⟩), .int .u64 (addr c q)] w fun e w' => ∃ n : Int, e = .returned (.tuple #[.int .i64 n, .int .i64 0]) ∧ w = w' := by
  obtain ⟨st, rl, mv, rv, hk, hv⟩ := h
  obtain ⟨r, hr, hq'⟩ := st_some hv (rng_in (a := 0) (b := b) (z := z) (i := c) hc)
  have e2 : r.bytes = z c := congrArg (fun q : RV => q.2.1) hq'
  refine (size_ok hk c q (by omega) hq hr (by rw [e2]; exact hz)).mono ?_
  rintro e w' ⟨rfl, rfl⟩
  exact ⟨_, rfl, rfl⟩
end
end Go.Proofs.YtbikofedppgblaaGreat
namespace Go.Proofs.YtbikofedppgblaaGreat
open Go Go.RowKit Go.Maps
set_option linter.unusedVariables false
/-- Region n is q from now on. -/
def PS.set (m : PS) (n : Nat) (q : Option RV) : PS := { m with vs := updv m.vs n q }
def PS.grown (m : PS) (k : Nat) : PS := ⟨m.made + 1, m.fail - 1, updv m.vs (m.made + 1) (some (3, List.replicate k 0, false))⟩
def PS.graced (m : PS) : PS := { m with vs := gracev m.vs m.made }
section
variable (bm bx : Nat) (m : PS)
theorem k_alloc (hf : m.fail ≠ 1) (hm : m.made < 4095) (k : Nat) (h1 : 1 ≤ k) (h2 : k ≤ 1048576) :
    KCall 70 #[.pointer (some ⟨bm, 0, none⟩), .int .i64 k, .int .i64 3] bm m (m.grown k) (.returned (.tuple #[.int .u64 (addr (m.made + 1) 0), .int .i64 0])) := by
  rintro w S ⟨st, rl, mv, rv, hk, hv⟩
  refine (alloc_ok hk hf hm k 3 (by omega) (by omega) (by omega) (by omega)).mono ?_
  rintro e w' ⟨rfl, r, mv', hk', kk, e1, e2, e3, e4⟩
  exact ⟨rfl, ⟨_, _, _, _, hk', upd_v hv _ _ (by simp [RG.v, e1, e2, e3])⟩, kk⟩
theorem k_alloc_no (hf : m.fail = 1) (k : Nat) (h1 : 1 ≤ k) (h2 : k ≤ 1048576) :
    KCall 70 #[.pointer (some ⟨bm, 0, none⟩), .int .i64 k, .int .i64 3] bm m { m with fail := 0 } (.returned (.tuple #[.int .u64 0, .int .i64 2])) := by
  obtain ⟨made, fail, vs⟩ := m
  subst hf
  exact kalloc_no bm made vs k h1 h2
theorem k_put (n : Nat) (hn : n ≤ 4294967295) (q : RV) (hs : m.vs n = some q) (l : List UInt8) (hl : l.length ≤ 1048576) (hb : l.length ≤ q.2.1.length) :
    KCall 84 #[.pointer (some ⟨bm, 0, none⟩), .int .u64 (addr n 0), .string (bstr l)] bm m (m.set n (some (q.1, setAt q.2.1 0 l, q.2.2))) (.returned (.int .i64 0)) := by
  rintro w S ⟨st, rl, mv, rv, hk, hv⟩
  obtain ⟨r, hr, rfl⟩ := st_some hv hs
  refine (put_ok hk n 0 hn (by decide) l hl hr (by rw [Nat.zero_add]; exact hb)).mono ?_
  rintro e w' ⟨rfl, g, hk', kk⟩
  exact ⟨rfl, ⟨_, _, _, _, hk', upd_v hv n _ rfl⟩, kk⟩
theorem k_free (n : Nat) (hn : n ≤ 4294967295) (q : RV) (hs : m.vs n = some q) :
    KCall 129 #[.pointer (some ⟨bm, 0, none⟩), .int .u64 (addr n 0)] bm m (m.set n none) (.returned (.int .i64 0)) := by
  rintro w S ⟨st, rl, mv, rv, hk, hv⟩
  obtain ⟨r, hr, hq⟩ := st_some hv hs
  rcases hret : r.ret with _ | _
  · refine (free_ok hk n hr hret).mono ?_
    rintro e w' ⟨rfl, hk', kk⟩
    exact ⟨rfl, ⟨_, _, _, _, hk', upd_v hv n none rfl⟩, kk⟩
  · refine (free_ret hk n hr hret).mono ?_
    rintro e w' ⟨rfl, rl', rv', hk', kk⟩
    exact ⟨rfl, ⟨_, _, _, _, hk', upd_v hv n none rfl⟩, kk⟩
theorem k_retire (n : Nat) (q : RV) (hs : m.vs n = some q) (hq : q.2.2 = false) :
    KCall 113 #[.pointer (some ⟨bm, 0, none⟩), .int .u64 (addr n 0)] bm m (m.set n (some (q.1, q.2.1, true))) (.returned (.int .i64 0)) := by
  rintro w S ⟨st, rl, mv, rv, hk, hv⟩
  obtain ⟨r, hr, hq'⟩ := st_some hv hs
  subst hq'
  refine (retire_ok hk n hr hq).mono ?_
  rintro e w' ⟨rfl, v', hk', kk⟩
  exact ⟨rfl, ⟨_, _, _, _, hk', upd_v hv n _ rfl⟩, kk⟩
end
end Go.Proofs.YtbikofedppgblaaGreat
namespace Go.Proofs.YtbikofedppgblaaGreat
open Go Go.RowKit Go.Maps
set_option linter.unusedVariables false
set_option linter.unusedSimpArgs false
/-- An entry: its key, its region's number, when it was used last. -/
structure Ent where
  key : ByteArray
  n : Nat
  used : Nat
def keyB (a b : ByteArray) : Bool := a.toList == b.toList
def findE : List Ent → ByteArray → Option Nat
  | [], _ => none
  | e :: es, k => if keyB e.key k = true then some 0 else (findE es k).map (· + 1)
def findI (es : List Ent) (k : ByteArray) : Int := (findE es k).elim (-1) fun i => (i : Int)
theorem find_lt : ∀ {es : List Ent} {k : ByteArray} {i : Nat}, findE es k = some i → i < es.length
  | [], _, _, h => by cases h
  | e :: es, k, i, h => by
    unfold findE at h
    split at h
    · cases h; simp
    · obtain ⟨j, hj, rfl⟩ := Option.map_eq_some_iff.1 h
      have := find_lt hj
      simp; omega
theorem find_key : ∀ {es : List Ent} {k : ByteArray} {i : Nat} {e : Ent}, findE es k = some i → es[i]? = some e → keyB e.key k = true
  | [], _, _, _, h, _ => by cases h
  | e' :: es, k, i, e, h, he => by
    unfold findE at h
    split at h
    · rename_i hk
      cases h
      simp at he
      rw [← he]; exact hk
    · obtain ⟨j, hj, rfl⟩ := Option.map_eq_some_iff.1 h
      exact find_key hj (by simpa using he)
theorem find_at : ∀ {es : List Ent} {k : ByteArray} {j : Nat} {e : Ent}, findE (es.take j) k = none → es[j]? = some e → keyB e.key k = true → findE es k = some j
  | [], _, _, _, _, h, _ => by simp at h
  | e' :: es, k, 0, e, _, h, hk => by
    simp at h
    subst h
    unfold findE
    rw [if_pos hk]
  | e' :: es, k, j + 1, e, h0, h, hk => by
    rw [List.take_succ_cons] at h0
    unfold findE at h0 ⊢
    split at h0
    · cases h0
    · rename_i hn
      rw [if_neg hn, find_at (Option.map_eq_none_iff.1 h0) (by simpa using h) hk]
      rfl
theorem find_step : ∀ {es : List Ent} {k : ByteArray} {j : Nat} {e : Ent}, findE (es.take j) k = none → es[j]? = some e → keyB e.key k = false → findE (es.take (j + 1)) k = none
  | [], _, _, _, _, h, _ => by simp at h
  | e' :: es, k, 0, e, _, h, hk => by
    simp at h
    subst h
    simp [findE, hk]
  | e' :: es, k, j + 1, e, h0, h, hk => by
    rw [List.take_succ_cons] at h0 ⊢
    unfold findE at h0 ⊢
    split at h0
    · cases h0
    · rename_i hn
      rw [if_neg hn, find_step (Option.map_eq_none_iff.1 h0) (by simpa using h) hk]
      rfl
/-- An entry's cells. -/
def entC (e : Ent) : List Value := [.string e.key, .int .u64 (addr e.n 0), .int .i64 e.used]
def entsC (es : List Ent) : List Value := es.flatMap entC
theorem entsC_length (es : List Ent) : (entsC es).length = es.length * 3 := by
  induction es with
  | nil => rfl
  | cons e es ih => rw [entsC, List.flatMap_cons, List.length_append, ← entsC, ih]; simp [entC]; omega
theorem entsC_get : ∀ {es : List Ent} {i : Nat} {e : Ent} (j : Nat), es[i]? = some e → j < 3 → (entsC es)[i * 3 + j]? = (entC e)[j]?
  | [], i, e, j, h, _ => by simp at h
  | e' :: es, 0, e, j, h, hj => by
    simp at h
    subst h
    rw [entsC, List.flatMap_cons, List.getElem?_append_left (by simp [entC]; omega), Nat.zero_mul, Nat.zero_add]
  | e' :: es, i + 1, e, j, h, hj => by
    rw [entsC, List.flatMap_cons, List.getElem?_append_right (by simp [entC]; omega), ← entsC, ← entsC_get (es := es) (i := i) (e := e) j (by simpa using h) hj]
    congr 1
    simp [entC]
    omega
theorem entsC_append (a b : List Ent) : entsC (a ++ b) = entsC a ++ entsC b := List.flatMap_append
theorem entsC_one (es : List Ent) (u : Value) (h : u ∈ entsC es) : u.oneCell' = true := by
  simp only [entsC, List.mem_flatMap, entC, List.mem_cons, List.not_mem_nil, or_false] at h
  obtain ⟨e, _, rfl | rfl | rfl⟩ := h <;> rfl
/-- Entry i is used at u. -/
def setUsed (es : List Ent) (i u : Nat) : List Ent := es.modify i fun e => { e with used := u }
theorem setUsed_length (es : List Ent) (i u : Nat) : (setUsed es i u).length = es.length := by simp [setUsed]
theorem entsC_used : ∀ (es : List Ent) (i u : Nat), i < es.length → entsC (setUsed es i u) = (entsC es).set (i * 3 + 2) (.int .i64 u)
  | [], i, u, h => by simp at h
  | e :: es, 0, u, _ => by simp [setUsed, entsC, entC]
  | e :: es, i + 1, u, h => by
    have ih := entsC_used es i u (by simpa using h)
    have e1 : setUsed (e :: es) (i + 1) u = e :: setUsed es i u := by rw [setUsed, List.modify_succ_cons]; rfl
    have e2 : ∀ l : List Ent, entsC (e :: l) = entC e ++ entsC l := fun l => by rw [entsC, List.flatMap_cons]; rfl
    rw [e1, e2, e2, ih, List.set_append_right _ _ (by simp [entC]; omega)]
    congr 2
    simp [entC]
    omega
/-- The plain state of a table. -/
structure HSt where
  m : PS
  es : List Ent
  clock : Nat
  gone : Bool
structure HPar where
  bm : Nat
  bx : Nat
  x : Nat
  y : Nat
  k : Int
  key : Nat
  v : Nat
  mx : Nat
def HSt.use (s : HSt) (i : Nat) : HSt := { s with es := setUsed s.es i (s.clock + 1), clock := s.clock + 1 }
/-- Entry i goes. -/
def HSt.drop (s : HSt) (i : Nat) : HSt := { s with m := (s.es[i]?).elim s.m fun e => (s.m.vs e.n).elim s.m fun q => s.m.set e.n (some (q.1, q.2.1, true)), es := s.es.eraseIdx i }
abbrev rC (bx : Nat) (k key v mx : Int) (V : Value) (clock : Int) (gone : Bool) : Array Value := #[.pointer (some ⟨bx, 0, none⟩), .int .i64 k, .int .i64 key, .int .i64 v, .int .i64 mx, V, .int .i64 clock, .bool gone]
end Go.Proofs.YtbikofedppgblaaGreat
namespace Go.Proofs.YtbikofedppgblaaGreat
open Go Go.RowKit Go.Maps
set_option linter.unusedVariables false
set_option linter.unusedSimpArgs false
set_option maxRecDepth 100000
abbrev tp (b : Nat) : Value := .pointer (some ⟨b, 0, none⟩)
theorem ret_i {k : IntKind} {a b : Int} (h : a = b) : Ending.returned (.int k a) = .returned (.int k b) := by rw [h]
theorem below_drewNh (w : World) (n : Nat) : Below w.heap.size w (w.drewN n) := ⟨rfl, rfl, rfl, Nat.le_refl _, fun _ _ => rfl⟩
theorem Blk.drewN {w : World} {g : Nat} {t : TypeId} {cs : Array Value} (h : Blk w g t cs) (n : Nat) : Blk (w.drewN n) g t cs := h
theorem Keeps.drewN' {S : Nat → Prop} {a w : World} (h : Keeps S a w) (n : Nat) : Keeps S a (w.drewN n) := ⟨h.os, h.tape, h.output, h.size, h.block⟩
theorem Blk.drew {w : World} {g : Nat} {t : TypeId} {cs : Array Value} (h : Blk w g t cs) : Blk w.drew g t cs := h
section
variable {w : World} {y g c : Nat} {bx : Nat} {k key v mx clock : Int} {gone : Bool} {es : List Ent}
end
end Go.Proofs.YtbikofedppgblaaGreat
