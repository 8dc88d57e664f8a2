/-
  The reference's Regions. Both memories side by side, deed by deed: each deed has one answer, and leads both to the same plain state. Package flat: a map's regions, plainly: the numbers a + 1 to b, their bytes; what each call on either memory does to them. Both memories, call by call, each with its plain effect on any plain memory: what tables that make, retire and free regions want.
-/
import Derived.Test.YtomhflaofipccaaRmAlloc
import Derived.Test.YtomhflaofipccaaP6
import Derived.Deep.RegionHeld3
namespace Go.Proofs.Ytomhflaofipccaa
open Go Go.RowKit Go.Maps
set_option linter.unusedVariables false
/-- The live ones up to number k, rising. -/
def lives (vs : Nat → Option RV) (k : Nat) : List Nat := ((List.range k).map (· + 1)).filter fun n => (vs n).isSome
theorem lives_yes {vs : Nat → Option RV} {k : Nat} (h : (vs (k + 1)).isSome = true) : lives vs (k + 1) = lives vs k ++ [k + 1] := by
  unfold lives; rw [List.range_succ, List.map_append, List.filter_append]; simp [h]
theorem lives_no {vs : Nat → Option RV} {k : Nat} (h : (vs (k + 1)).isSome = false) : lives vs (k + 1) = lives vs k := by
  unfold lives; rw [List.range_succ, List.map_append, List.filter_append]; simp [h]
theorem cellsR_app (vs : Nat → Option RV) (ss : List Nat) (n : Nat) : cellsR vs (ss ++ [n]) = cellsR vs ss ++ regC n ((vs n).getD (0, [], false)) := by simp [cellsR]
theorem lives_len (vs : Nat → Option RV) (k : Nat) : (lives vs k).length ≤ k := Nat.le_trans (List.length_filter_le _ _) (by simp)
theorem Below.kept {w w' : World} (h : Below w.heap.size w w') : Keeps (fun _ => False) w w' := ⟨h.os, h.tape, h.output, h.size, fun k hk _ => h.block k hk⟩
section
variable {w w1 w2 : World} {T : Nat → Prop} {bx made fail : Nat} {vs : Nat → Option RV} {rb gb : Nat → Nat} {lv : Value}
end
end Go.Proofs.Ytomhflaofipccaa
namespace Go.Proofs.Ytomhflaofipccaa
open Go Go.RowKit Go.Maps
set_option linter.unusedVariables false
/-- What a memory holds, plainly. -/
structure PS where
  made : Nat
  fail : Nat
  vs : Nat → Option RV
def KSide (w : World) (S : Nat → Prop) (bm : Nat) (m : PS) : Prop := ∃ st rl mv rv, KM w S bm m.made m.fail st rl mv rv ∧ ∀ n, (st n).map RG.v = m.vs n
/-- From plain state m the call answers e0 and leads to m'. -/
def KCall (f : FuncId) (args : Array Value) (bm : Nat) (m m' : PS) (e0 : Ending) : Prop := ∀ w S, KSide w S bm m → Calls Try.prog f args w fun e w' => e = e0 ∧ KSide w' (more S w w') bm m' ∧ Keeps S w w'
section
variable {f g : FuncId} {args : Array Value} {bm bx : Nat} {m m' : PS} {e0 : Ending}
theorem KCall.same (h : ∀ w S st rl mv rv, KM w S bm m.made m.fail st rl mv rv → (∀ n, (st n).map RG.v = m.vs n) → Calls Try.prog f args w fun e w' => e = e0 ∧ w = w') : KCall f args bm m m e0 := by
  rintro w S ⟨st, rl, mv, rv, hk, hv⟩
  refine (h w S st rl mv rv hk hv).mono ?_
  rintro e w' ⟨rfl, rfl⟩
  exact ⟨rfl, ⟨st, rl, mv, rv, hk.same, hv⟩, Keeps.refl _ _⟩
theorem upd_v {st : Nat → Option RG} {vs : Nat → Option RV} (h : ∀ n, (st n).map RG.v = vs n) (n : Nat) (r : Option RG) {q : Option RV} (hq : r.map RG.v = q) : ∀ k, (upd st n r k).map RG.v = updv vs n q k := by
  intro k
  unfold upd updv
  split
  · exact hq
  · exact h k
theorem updv_id {vs : Nat → Option RV} {n : Nat} {q : Option RV} (h : vs n = q) : updv vs n q = vs := by
  funext k
  unfold updv
  split
  · rename_i e; subst e; exact h.symm
  · rfl
theorem st_none {st : Nat → Option RG} {vs : Nat → Option RV} (h : ∀ n, (st n).map RG.v = vs n) {n : Nat} (hn : vs n = none) : st n = none := by
  have := h n
  rw [hn] at this
  rcases hs : st n with _ | r
  · rfl
  · rw [hs] at this; cases this
theorem st_some {st : Nat → Option RG} {vs : Nat → Option RV} (h : ∀ n, (st n).map RG.v = vs n) {n : Nat} {q : RV} (hn : vs n = some q) : ∃ r, st n = some r ∧ r.v = q := by
  have := h n
  rw [hn] at this
  rcases hs : st n with _ | r
  · rw [hs] at this; cases this
  · rw [hs] at this; exact ⟨r, rfl, Option.some.inj this⟩
/-- The three ways of a number. -/
theorem ways (m : PS) (n : Nat) : (n = 0 ∨ m.made < n) ∨ (1 ≤ n ∧ n ≤ m.made ∧ m.vs n = none) ∨ ∃ q, m.vs n = some q := by
  rcases hs : m.vs n with _ | q
  · by_cases h : n = 0 ∨ m.made < n
    · exact .inl h
    · exact .inr (.inl ⟨by omega, by omega, rfl⟩)
  · exact .inr (.inr ⟨q, rfl⟩)
theorem km_out {w : World} {S : Nat → Prop} {made fail : Nat} {st : Nat → Option RG} {rl : List Nat} {mv rv : Value} (h : KM w S bm made fail st rl mv rv) {n : Nat} (hn : n = 0 ∨ made < n) : st n = none := by
  rcases hs : st n with _ | r
  · rfl
  · have := h.range n r hs; omega
def isU64 (v : Value) : Prop := ∃ x : Int, v = .int .u64 x
def isI64 (v : Value) : Prop := ∃ x : Int, v = .int .i64 x
def isStr (v : Value) : Prop := ∃ x : ByteArray, v = .string x
end
section
variable (bm bx : Nat) (m : PS)
/-- What may be done, asked in two ways. -/
theorem perm_x (p d : Int) (h1 : 1 ≤ p) (h3 : p ≤ 3) (hd : d = 1 ∨ d = 2) : (bits .and .i64 p d == 0) = (bits .and .i64 p d != d) := by
  rcases (show p = 1 ∨ p = 2 ∨ p = 3 by omega) with rfl | rfl | rfl <;> rcases hd with rfl | rfl <;> decide
end
end Go.Proofs.Ytomhflaofipccaa
namespace Go.Proofs.Ytomhflaofipccaa
open Go Go.RowKit Go.Maps
set_option linter.unusedVariables false
def rng (a b : Nat) (z : Nat → List UInt8) : Nat → Option RV := fun i => if a < i ∧ i ≤ b then some (3, z i, false) else none
def upz (z : Nat → List UInt8) (c : Nat) (l : List UInt8) : Nat → List UInt8 := fun i => if i = c then l else z i
section
variable {a b c i j : Nat} {z : Nat → List UInt8} {l : List UInt8}
theorem rng_in (h : a < i ∧ i ≤ b) : rng a b z i = some (3, z i, false) := if_pos h
theorem rng_out (h : ¬ (a < i ∧ i ≤ b)) : rng a b z i = none := if_neg h
theorem rng_nil : rng b b z = fun _ => none := by
  funext i
  exact rng_out (by omega)
theorem rng_add : updv (rng a b z) (b + 1) (some (3, z (b + 1), false)) = rng (min a b) (b + 1) z ∨ a ≠ 0 := by
  rcases Nat.eq_zero_or_pos a with rfl | h
  · left
    funext i
    unfold updv rng
    by_cases h1 : i = b + 1
    · subst h1; rw [if_pos rfl, if_pos (by omega)]
    · rw [if_neg h1]
      by_cases h2 : 0 < i ∧ i ≤ b
      · rw [if_pos h2, if_pos (by omega)]
      · rw [if_neg h2, if_neg (by omega)]
  · right; omega
theorem rng_add0 : updv (rng 0 b z) (b + 1) (some (3, z (b + 1), false)) = rng 0 (b + 1) z := by
  rcases rng_add (a := 0) (b := b) (z := z) with h | h
  · rw [h, Nat.zero_min]
  · exact absurd rfl h
theorem rng_sub (h : a < b) : updv (rng a b z) (a + 1) none = rng (a + 1) b z := by
  funext i
  unfold updv rng
  by_cases h1 : i = a + 1
  · subst h1; rw [if_pos rfl, if_neg (by omega)]
  · rw [if_neg h1]
    by_cases h2 : a < i ∧ i ≤ b
    · rw [if_pos h2, if_pos (by omega)]
    · rw [if_neg h2, if_neg (by omega)]
theorem rng_upd (h : a < c ∧ c ≤ b) : updv (rng a b z) c (some (3, l, false)) = rng a b (upz z c l) := by
  funext i
  unfold updv rng upz
  by_cases h1 : i = c
  · subst h1; rw [if_pos rfl, if_pos h, if_pos rfl]
  · rw [if_neg h1, if_neg h1]
end
/-- The one memory: from a world and its blocks on. -/
def KS (w0 : World) (S0 : Nat → Prop) (bm : Nat) (m : PS) (S : Nat → Prop) (w : World) : Prop := KSide w S bm m ∧ Keeps S0 w0 w ∧ ∀ b, S b → S0 b ∨ w0.heap.size ≤ b
section
variable {w0 w w' : World} {S0 S : Nat → Prop} {bm bx : Nat} {m m' : PS} {f : FuncId} {args : Array Value} {e0 : Ending}
theorem KSide.lt' (h : KSide w S bm m) : ∀ b, S b → b < w.heap.size := by
  obtain ⟨st, rl, mv, rv, hk, hv⟩ := h
  exact hk.lt
theorem KSide.keeps' {U : Nat → Prop} (h : KSide w S bm m) (k : Keeps U w w') (hd : ∀ b, S b → ¬ U b) : KSide w' S bm m := by
  obtain ⟨st, rl, mv, rv, hk, hv⟩ := h
  exact ⟨st, rl, mv, rv, hk.keeps k hd, hv⟩
theorem KS.start (h : KSide w S bm m) : KS w S bm m S w := ⟨h, Keeps.refl _ _, fun b hb => .inl hb⟩
theorem more_lt {w1 w2 : World} {S : Nat → Prop} (h : ∀ b, S b → S0 b ∨ w0.heap.size ≤ b) (hz : w0.heap.size ≤ w1.heap.size) : ∀ b, more S w1 w2 b → S0 b ∨ w0.heap.size ≤ b := by
  rintro b (hb | ⟨hb, _⟩)
  · exact h b hb
  · exact .inr (by omega)
theorem KS.then (h : KS w0 S0 bm m S w) (h2 : KSide w' (more S w w') bm m') (k : Keeps S w w') : KS w0 S0 bm m' (more S w w') w' :=
  ⟨h2, h.2.1.trans (k.mono fun b hb => (h.2.2 b hb).imp id fun hz => ⟨hz, h.1.lt' b hb⟩), more_lt h.2.2 h.2.1.size⟩
theorem KS.call (h : KS w0 S0 bm m S w) (c : KCall f args bm m m' e0) : Calls Try.prog f args w fun e w' => e = e0 ∧ KS w0 S0 bm m' (more S w w') w' ∧ Keeps S w w' := by
  refine (c w S h.1).mono ?_
  rintro e w' ⟨rfl, hk, kk⟩
  exact ⟨rfl, h.then hk kk, kk⟩
/-- What only adds to the world. -/
theorem KS.grow (h : KS w0 S0 bm m S w) (hb : Keeps (fun _ => False) w w') : KS w0 S0 bm m S w' :=
  ⟨h.1.keeps' hb (fun _ _ hf => hf), h.2.1.trans (hb.mono fun _ hf => hf.elim), h.2.2⟩
/-- Writes of new blocks, that are none of the memory's. -/
theorem KS.wrote {U : Nat → Prop} (h : KS w0 S0 bm m S w) (hb : Keeps U w w') (hU : ∀ b, U b → w0.heap.size ≤ b ∧ ¬ S b) : KS w0 S0 bm m S w' :=
  ⟨h.1.keeps' hb (fun b hs hu => (hU b hu).2 hs), h.2.1.trans ⟨hb.os, hb.tape, hb.output, hb.size, fun k hk hn => hb.block k hk fun hu => hn (.inr ⟨(hU k hu).1, hk⟩)⟩, h.2.2⟩
end
section
variable (bm bx : Nat) (made fail a b : Nat) (z : Nat → List UInt8)
theorem kalloc_yes (hf : fail ≠ 1) (hm : made < 4095) (k : Nat) (h1 : 1 ≤ k) (h2 : k ≤ 1048576) (hz : z (made + 1) = List.replicate k 0) :
    KCall 35 #[.pointer (some ⟨bm, 0, none⟩), .int .i64 k, .int .i64 3] bm ⟨made, fail, rng 0 made z⟩ ⟨made + 1, fail - 1, rng 0 (made + 1) z⟩ (.returned (.tuple #[.int .u64 (addr (made + 1) 0), .int .i64 0])) := by
  rintro w S ⟨st, rl, mv, rv, hk, hv⟩
  refine (alloc_ok hk hf hm k 3 (by omega) (by omega) (by omega) (by omega)).mono ?_
  rintro e w' ⟨rfl, r, mv', hk', kk, e1, e2, e3, e4⟩
  refine ⟨rfl, ⟨_, _, _, _, hk', ?_⟩, kk⟩
  show ∀ n, (upd st (made + 1) (some r) n).map RG.v = rng 0 (made + 1) z n
  rw [← rng_add0, hz]
  exact upd_v hv _ _ (by simp [RG.v, e1, e2, e3])
theorem kalloc_no (vs : Nat → Option RV) (k : Nat) (h1 : 1 ≤ k) (h2 : k ≤ 1048576) :
    KCall 35 #[.pointer (some ⟨bm, 0, none⟩), .int .i64 k, .int .i64 3] bm ⟨made, 1, vs⟩ ⟨made, 0, vs⟩ (.returned (.tuple #[.int .u64 0, .int .i64 2])) := by
  rintro w S ⟨st, rl, mv, rv, hk, hv⟩
  refine (alloc_mem hk k 3 (by omega) (by omega) (by omega) (by omega)).mono ?_
  rintro e w' ⟨rfl, hk', kk⟩
  exact ⟨rfl, ⟨_, _, _, _, hk', hv⟩, kk⟩
theorem kfree (h : a < b) : KCall 33 #[.pointer (some ⟨bm, 0, none⟩), .int .u64 (addr (a + 1) 0)] bm ⟨made, fail, rng a b z⟩ ⟨made, fail, rng (a + 1) b z⟩ (.returned (.int .i64 0)) := by
  rintro w S ⟨st, rl, mv, rv, hk, hv⟩
  obtain ⟨r, hr, hq⟩ := st_some hv (rng_in (a := a) (b := b) (z := z) (i := a + 1) (by omega))
  have hret : r.ret = false := congrArg (fun q : RV => q.2.2) hq
  refine (free_ok hk (a + 1) hr hret).mono ?_
  rintro e w' ⟨rfl, hk', kk⟩
  refine ⟨rfl, ⟨_, _, _, _, hk', ?_⟩, kk⟩
  show ∀ n, (upd st (a + 1) none n).map RG.v = rng (a + 1) b z n
  rw [← rng_sub h]
  exact upd_v hv _ none rfl
theorem kput (c q : Nat) (hc : 0 < c ∧ c ≤ b) (hb : b ≤ 8) (l : List UInt8) (hl : l.length ≤ 4096) (hq : q ≤ 4294967295) (hz : q + l.length ≤ (z c).length) :
    KCall 21 #[.pointer (some ⟨bm, 0, none⟩), .int .u64 (addr c q), .string (bstr l)] bm ⟨made, fail, rng 0 b z⟩ ⟨made, fail, rng 0 b (upz z c (setAt (z c) q l))⟩ (.returned (.int .i64 0)) := by
  rintro w S ⟨st, rl, mv, rv, hk, hv⟩
  obtain ⟨r, hr, hq'⟩ := st_some hv (rng_in (a := 0) (b := b) (z := z) (i := c) hc)
  have e1 : r.perm = 3 := congrArg (fun q : RV => q.1) hq'
  have e2 : r.bytes = z c := congrArg (fun q : RV => q.2.1) hq'
  have e3 : r.ret = false := congrArg (fun q : RV => q.2.2) hq'
  refine (put_ok hk c q (by omega) hq l (by omega) hr (by rw [e2]; exact hz)).mono ?_
  rintro e w' ⟨rfl, g, hk', kk⟩
  refine ⟨rfl, ⟨_, _, _, _, hk', ?_⟩, kk⟩
  show ∀ n, (upd st c (some { r with row := some g, bytes := setAt r.bytes q l }) n).map RG.v = rng 0 b (upz z c (setAt (z c) q l)) n
  rw [← rng_upd hc]
  exact upd_v hv _ _ (by simp [RG.v, e1, e2, e3])
end
end Go.Proofs.Ytomhflaofipccaa
namespace Go.Proofs.Ytomhflaofipccaa
open Go Go.RowKit Go.Maps
set_option linter.unusedVariables false
/-- Region n is q from now on. -/
def PS.set (m : PS) (n : Nat) (q : Option RV) : PS := { m with vs := updv m.vs n q }
def PS.grown (m : PS) (k : Nat) : PS := ⟨m.made + 1, m.fail - 1, updv m.vs (m.made + 1) (some (3, List.replicate k 0, false))⟩
def PS.graced (m : PS) : PS := { m with vs := gracev m.vs m.made }
section
variable (bm bx : Nat) (m : PS)
theorem k_alloc (hf : m.fail ≠ 1) (hm : m.made < 4095) (k : Nat) (h1 : 1 ≤ k) (h2 : k ≤ 1048576) :
    KCall 35 #[.pointer (some ⟨bm, 0, none⟩), .int .i64 k, .int .i64 3] bm m (m.grown k) (.returned (.tuple #[.int .u64 (addr (m.made + 1) 0), .int .i64 0])) := by
  rintro w S ⟨st, rl, mv, rv, hk, hv⟩
  refine (alloc_ok hk hf hm k 3 (by omega) (by omega) (by omega) (by omega)).mono ?_
  rintro e w' ⟨rfl, r, mv', hk', kk, e1, e2, e3, e4⟩
  exact ⟨rfl, ⟨_, _, _, _, hk', upd_v hv _ _ (by simp [RG.v, e1, e2, e3])⟩, kk⟩
theorem k_alloc_no (hf : m.fail = 1) (k : Nat) (h1 : 1 ≤ k) (h2 : k ≤ 1048576) :
    KCall 35 #[.pointer (some ⟨bm, 0, none⟩), .int .i64 k, .int .i64 3] bm m { m with fail := 0 } (.returned (.tuple #[.int .u64 0, .int .i64 2])) := by
  obtain ⟨made, fail, vs⟩ := m
  subst hf
  exact kalloc_no bm made vs k h1 h2
theorem k_put (n : Nat) (hn : n ≤ 4294967295) (q : RV) (hs : m.vs n = some q) (l : List UInt8) (hl : l.length ≤ 1048576) (hb : l.length ≤ q.2.1.length) :
    KCall 21 #[.pointer (some ⟨bm, 0, none⟩), .int .u64 (addr n 0), .string (bstr l)] bm m (m.set n (some (q.1, setAt q.2.1 0 l, q.2.2))) (.returned (.int .i64 0)) := by
  rintro w S ⟨st, rl, mv, rv, hk, hv⟩
  obtain ⟨r, hr, rfl⟩ := st_some hv hs
  refine (put_ok hk n 0 hn (by decide) l hl hr (by rw [Nat.zero_add]; exact hb)).mono ?_
  rintro e w' ⟨rfl, g, hk', kk⟩
  exact ⟨rfl, ⟨_, _, _, _, hk', upd_v hv n _ rfl⟩, kk⟩
theorem k_free (n : Nat) (hn : n ≤ 4294967295) (q : RV) (hs : m.vs n = some q) :
    KCall 33 #[.pointer (some ⟨bm, 0, none⟩), .int .u64 (addr n 0)] bm m (m.set n none) (.returned (.int .i64 0)) := by
  rintro w S ⟨st, rl, mv, rv, hk, hv⟩
  obtain ⟨r, hr, hq⟩ := st_some hv hs
  rcases hret : r.ret with _ | _
  · refine (free_ok hk n hr hret).mono ?_
    rintro e w' ⟨rfl, hk', kk⟩
    exact ⟨rfl, ⟨_, _, _, _, hk', upd_v hv n none rfl⟩, kk⟩
  · refine (free_ret hk n hr hret).mono ?_
    rintro e w' ⟨rfl, rl', rv', hk', kk⟩
    exact ⟨rfl, ⟨_, _, _, _, hk', upd_v hv n none rfl⟩, kk⟩
theorem k_retire (n : Nat) (q : RV) (hs : m.vs n = some q) (hq : q.2.2 = false) :
    KCall 26 #[.pointer (some ⟨bm, 0, none⟩), .int .u64 (addr n 0)] bm m (m.set n (some (q.1, q.2.1, true))) (.returned (.int .i64 0)) := by
  rintro w S ⟨st, rl, mv, rv, hk, hv⟩
  obtain ⟨r, hr, hq'⟩ := st_some hv hs
  subst hq'
  refine (retire_ok hk n hr hq).mono ?_
  rintro e w' ⟨rfl, v', hk', kk⟩
  exact ⟨rfl, ⟨_, _, _, _, hk', upd_v hv n _ rfl⟩, kk⟩
end
end Go.Proofs.Ytomhflaofipccaa
