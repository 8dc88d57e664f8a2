/-
  Regions: the live ones, by rising numbers. The reference's memory as it lies in the heap ('RM'); its first, at, wide. The reference's first and at where there is a region; wide. The reference's Read, Size, SetFail; where Write, Bytes and Put only answer. The reference's Bytes, Put, Write. The reference's Put, Free, Retire. The reference's Grace. The reference's Alloc. The reference's Regions. Both memories side by side, deed by deed: each deed has one answer, and leads both to the same plain state.
-/
import Derived.Test.YtbikofedppgblaaGreatQ10
import Derived.Deep.RegionLaw
import Derived.Laws.Bits64b
import Derived.OwnWalk
import Derived.Laws.Bits64
import Derived.Lib.LazyBuf
import Derived.Deep.RegionHeld3
namespace Go.Proofs.YtbikofedppgblaaGreat
open Go Go.RowKit Go.Maps
set_option linter.unusedVariables false

/-- An append of which is known what it gives, as one step of a region that draws its order. -/
theorem step_append_run {P : Program} {ops : Array Oper} {o : Oper} {a : Act} {w : World} {K : Act → World → Prop} {Q : Exit → Act → World → Prop} {E : Prop} (hg : o.guard = none) (s x : Operand) (t : TypeId)
    (hop : o.op = Op.call { callee := Callee.builtin Builtin.append, args := #[s, x], argTypes := #[t, t] }) (v xv v' : Value) (w' : World) (hs : a.eval s = v) (hx : a.eval x = xv) (hrun : ∀ ty, (Builtin.append_ #[t, t] ty #[v, xv]).run P w = .ok v' w') (hK : K (a.put o.dst v') w') :
    if Region.wanted o (yielded ops a.tmps) = true then Oper.wp P o a w K Q else E := by
  have hw : Region.wanted o (yielded ops a.tmps) = true := by simp [Region.wanted, hg]
  rw [if_pos hw]
  unfold Oper.wp
  simp [execOp, hop, resolve, invoke, builtin, hs, hx, hrun, Result.andThen]
  exact hK
abbrev RV := Int × List UInt8 × Bool
/-- A region as Regions tells it. -/
def regC (n : Nat) (q : RV) : List Value := [.int .i64 (n : Int), .int .i64 q.1, .string (bstr q.2.1)]
def cellsR (vs : Nat → Option RV) (ss : List Nat) : List Value := (ss.map fun n => regC n ((vs n).getD (0, [], false))).flatten
theorem cellsR_len (vs : Nat → Option RV) (ss : List Nat) : (cellsR vs ss).length = ss.length * 3 := by
  induction ss with
  | nil => rfl
  | cons x r ih =>
    have : (cellsR vs (x :: r)) = regC x ((vs x).getD (0, [], false)) ++ cellsR vs r := by simp [cellsR]
    rw [this, List.length_append, ih]
    simp [regC]
    omega
theorem cellsR_snoc (vs : Nat → Option RV) (ss : List Nat) (k : Nat) (hk : k < ss.length) : cellsR vs (ss.take (k + 1)) = cellsR vs (ss.take k) ++ regC ss[k] ((vs ss[k]).getD (0, [], false)) := by
  rw [List.take_succ_eq_append_getElem hk]
  unfold cellsR
  rw [List.map_append, List.flatten_append]
  congr 1
theorem ownsRow_ne {w : World} {B B' : Nat} {e e' : TypeId} {s s' n n' : Nat} {v v' : Value} {xs xs' : List Value} (h : w.ownsRow B e s v n xs) (h' : w.ownsRow B' e' s' v' n' xs') (hne : e ≠ e') (g : Nat) (hg : v.ownBlock = some g) : v'.ownBlock ≠ some g := by
  intro hg'
  rcases h.2 with ⟨rfl, _⟩ | ⟨g1, _, cur, rfl, _, h1, _⟩
  · cases hg
  · rcases h'.2 with ⟨rfl, _⟩ | ⟨g2, _, cur', rfl, _, h2, _⟩
    · cases hg'
    · have e1 : g1 = g := by simpa [Value.ownBlock] using hg
      have e2 : g2 = g := by simpa [Value.ownBlock] using hg'
      subst e1; subst e2
      exact Blk.ne_ (show Blk w g2 e cur from h1) (show Blk w g2 e' cur' from h2) hne rfl
theorem ownsRow_base {w : World} {base base' : Nat} {e : TypeId} {size : Nat} {v : Value} {n : Nat} {xs : List Value} (h : w.ownsRow base e size v n xs) (hb : base' ≤ base) : w.ownsRow base' e size v n xs := by
  refine ⟨h.1, ?_⟩
  rcases h.2 with h1 | ⟨g, cap, cur, h1, h2, h3⟩
  · exact .inl h1
  · exact .inr ⟨g, cap, cur, h1, Nat.le_trans hb h2, h3⟩
theorem ownsRow_drew {w : World} {base : Nat} {e : TypeId} {size : Nat} {v : Value} {n : Nat} {xs : List Value} (h : w.ownsRow base e size v n xs) : w.drew.ownsRow base e size v n xs := ownsRow_block h (fun _ _ => rfl)
section
variable {w : World} {S : Nat → Prop} {bm made fail : Nat} {st : Nat → Option RG} {rl : List Nat} {mv rv : Value}
end
end Go.Proofs.YtbikofedppgblaaGreat
namespace Go.Proofs.YtbikofedppgblaaGreat
open Go Go.RowKit Go.Maps
set_option linter.unusedVariables false

/-- How many regions are live. -/
def cnt (vs : Nat → Option RV) (made : Nat) : Nat := ((List.range made).filter fun i => (vs (i + 1)).isSome).length
section
variable {w w' : World} {T U : Nat → Prop} {bx made fail : Nat} {vs : Nat → Option RV} {rb gb : Nat → Nat} {lv : Value}
end
theorem and_off (n o : Nat) (hn : n ≤ 4294967295) (ho : o ≤ 4294967295) : bits .and .u64 (addr n o) 4294967295 = (o : Int) := by
  obtain ⟨h0, h1, h2, h3⟩ := addr_bd hn ho
  obtain ⟨a, ha⟩ := Int.eq_ofNat_of_zero_le h0
  rw [ha] at h1 h3 ⊢
  have := bits_and_u64_nat a 4294967295 (by omega) (by decide)
  rw [show ((4294967295 : Nat) : Int) = 4294967295 from rfl] at this
  rw [this]
  have e : a &&& 4294967295 = a % 4294967296 := Nat.and_two_pow_sub_one_eq_mod a 32
  rw [e]
  omega
section
variable {w : World} {T : Nat → Prop} {bx made fail : Nat} {vs : Nat → Option RV} {rb gb : Nat → Nat} {lv : Value}
end
end Go.Proofs.YtbikofedppgblaaGreat
namespace Go.Proofs.YtbikofedppgblaaGreat
open Go Go.RowKit Go.Maps
set_option linter.unusedVariables false
section
variable {w : World} {T : Nat → Prop} {bx made fail : Nat} {vs : Nat → Option RV} {rb gb : Nat → Nat} {lv : Value}
def AtPost (w : World) (v : Value) (o z : Int) (e : Ending) (w' : World) : Prop := e = .returned (.tuple #[v, .int .i64 o, .int .i64 z]) ∧ w = w'
end
end Go.Proofs.YtbikofedppgblaaGreat
namespace Go.Proofs.YtbikofedppgblaaGreat
open Go Go.RowKit Go.Maps
set_option linter.unusedVariables false
section
variable {w : World} {T : Nat → Prop} {bx made fail : Nat} {vs : Nat → Option RV} {rb gb : Nat → Nat} {lv : Value}
theorem or_step (N b : Nat) (hN : N < 72057594037927936) (hb : b < 256) : bits .or .u64 ((N : Int) * 256) (b : Int) = ((b + 256 * N : Nat) : Int) := by
  have h1 : N * 256 < 18446744073709551616 := by omega
  have h2 : b < 18446744073709551616 := by omega
  have h3 := bits_or_u64_nat (N * 256) b h1 h2
  have e : (N * 256) ||| b = N * 256 + b := by
    have := Nat.shiftLeft_add_eq_or_of_lt (show b < 2 ^ 8 from hb) N
    rw [Nat.shiftLeft_eq] at this
    exact this.symm
  rw [e] at h3
  rw [show ((N : Int) * 256) = ((N * 256 : Nat) : Int) from rfl, h3, show N * 256 + b = b + 256 * N by omega]
end
end Go.Proofs.YtbikofedppgblaaGreat
namespace Go.Proofs.YtbikofedppgblaaGreat
open Go Go.RowKit Go.Maps
set_option linter.unusedVariables false
def updv (vs : Nat → Option RV) (n : Nat) (r : Option RV) : Nat → Option RV := fun k => if k = n then r else vs k
theorem updv_same (vs : Nat → Option RV) (n : Nat) (r : Option RV) : updv vs n r n = r := by simp [updv]
theorem updv_other (vs : Nat → Option RV) {n k : Nat} (r : Option RV) (h : k ≠ n) : updv vs n r k = vs k := by simp [updv, h]
theorem cnt_congr {vs vs' : Nat → Option RV} {made : Nat} (h : ∀ n, 1 ≤ n → n ≤ made → (vs n).isSome = (vs' n).isSome) : cnt vs made = cnt vs' made := by
  unfold cnt
  congr 1
  apply List.filter_congr
  intro i hi
  exact h (i + 1) (by omega) (by have := List.mem_range.1 hi; omega)
section
variable {w w1 w2 : World} {T : Nat → Prop} {bx made fail : Nat} {vs : Nat → Option RV} {rb gb : Nat → Nat} {lv : Value}
theorem conv_win (w' : World) (g o k : Nat) (xs : List UInt8) (hb : o + k ≤ xs.length) (A : Addr) (hA : 0 < k → A = ⟨g, o, none⟩) (hc : ∀ j, w'.cell? ⟨g, j, none⟩ = (xs.map byteV)[j]?) (k' : Nat) (hk' : k' = k) (c : Nat) (hcc : c = xs.length - o) :
      (convert 67 9 (.slice (some A) k' c)).run Tryz.prog w' = .ok (.string (bstr ((xs.drop o).take k))) w' := by
  subst hk'
  subst hcc
  rcases Nat.eq_zero_or_pos k' with h0 | h0
  · subst h0
    have := run_convert_bytes_zero (P := Tryz.prog) w' 67 5 Tryz.underlying67 Tryz.underlying5 (some A) (xs.length - o) 9 Tryz.underlying9
    rw [this]; rfl
  · obtain rfl := hA h0
    have := Lib.run_convert_window (P := Tryz.prog) w' 67 5 9 Tryz.underlying67 Tryz.underlying5 Tryz.underlying9 g 0 (bstr xs) (fun i hi => by
      have hi' : i < xs.length := by rw [← bstr_size]; exact hi
      rw [hc, List.getElem?_map, Nat.zero_add, List.getElem?_eq_getElem hi']
      rfl) o k' (xs.length - o) (by rw [bstr_size]; exact hb)
    rw [Nat.zero_add, bstr_extract] at this
    exact this
end
end Go.Proofs.YtbikofedppgblaaGreat
namespace Go.Proofs.YtbikofedppgblaaGreat
open Go Go.RowKit Go.Maps
set_option linter.unusedVariables false
theorem cnt_succ (vs : Nat → Option RV) (m : Nat) : cnt vs (m + 1) = cnt vs m + (if (vs (m + 1)).isSome then 1 else 0) := by
  unfold cnt
  rw [List.range_succ, List.filter_append, List.length_append]
  congr 1
  by_cases h : (vs (m + 1)).isSome <;> simp [h]
theorem cnt_none {vs : Nat → Option RV} {n : Nat} (h1 : 1 ≤ n) (hs : (vs n).isSome = true) : ∀ made, n ≤ made → cnt (updv vs n none) made + 1 = cnt vs made
  | 0, h => by omega
  | m + 1, h => by
    rw [cnt_succ, cnt_succ]
    by_cases e : n = m + 1
    · subst e
      rw [updv_same, hs, cnt_congr (vs := updv vs (m + 1) none) (vs' := vs) (fun k _ hk => by rw [updv_other _ _ (by omega)])]
      rfl
    · rw [updv_other _ _ (fun e' => e e'.symm)]
      have := cnt_none h1 hs m (by omega)
      omega
theorem cnt_le (vs : Nat → Option RV) (made : Nat) : cnt vs made ≤ made := by
  unfold cnt
  exact Nat.le_trans (List.length_filter_le _ _) (by simp)
section
variable {w w1 w2 : World} {T : Nat → Prop} {bx made fail : Nat} {vs : Nat → Option RV} {rb gb : Nat → Nat} {lv : Value}
end
end Go.Proofs.YtbikofedppgblaaGreat
namespace Go.Proofs.YtbikofedppgblaaGreat
open Go Go.RowKit Go.Maps
set_option linter.unusedVariables false
/-- What Grace leaves of a region. -/
def keepv : Option RV → Option RV
  | some q => if q.2.2 then none else some q
  | none => none
def gracev (vs : Nat → Option RV) (i : Nat) : Nat → Option RV := fun n => if n ≤ i then keepv (vs n) else vs n
theorem gracev_zero {vs : Nat → Option RV} (h : vs 0 = none) : gracev vs 0 = vs := by
  funext n
  unfold gracev
  split
  · have : n = 0 := by omega
    subst this; rw [h]; rfl
  · rfl
theorem gracev_at (vs : Nat → Option RV) (i : Nat) : gracev vs i (i + 1) = vs (i + 1) := by unfold gracev; rw [if_neg (by omega)]
theorem gracev_succ (vs : Nat → Option RV) (i : Nat) : updv (gracev vs i) (i + 1) (keepv (vs (i + 1))) = gracev vs (i + 1) := by
  funext n
  unfold updv gracev
  by_cases h : n = i + 1
  · subst h; rw [if_pos rfl, if_pos (Nat.le_refl _)]
  · rw [if_neg h]
    by_cases h2 : n ≤ i
    · rw [if_pos h2, if_pos (by omega)]
    · rw [if_neg h2, if_neg (by omega)]
theorem gracev_stay {vs : Nat → Option RV} {i : Nat} (h : keepv (vs (i + 1)) = vs (i + 1)) : gracev vs (i + 1) = gracev vs i := by
  rw [← gracev_succ, h]
  funext n
  unfold updv
  split
  · rename_i e; subst e; exact (gracev_at vs i).symm
  · rfl
section
variable {w w1 w2 : World} {T : Nat → Prop} {bx made fail : Nat} {vs : Nat → Option RV} {rb gb : Nat → Nat} {lv : Value}
end
end Go.Proofs.YtbikofedppgblaaGreat
namespace Go.Proofs.YtbikofedppgblaaGreat
open Go Go.RowKit Go.Maps
set_option linter.unusedVariables false
section
variable {w w1 w2 : World} {T : Nat → Prop} {bx made fail : Nat} {vs : Nat → Option RV} {rb gb : Nat → Nat} {lv : Value}
def putn (f : Nat → Nat) (n x : Nat) : Nat → Nat := fun m => if m = n then x else f m
theorem putn_same (f : Nat → Nat) (n x : Nat) : putn f n x n = x := by simp [putn]
theorem putn_other (f : Nat → Nat) {n m : Nat} (x : Nat) (h : m ≠ n) : putn f n x m = f m := by simp [putn, h]
/-- Where Alloc's new blocks stand. -/
abbrev A1 (w : World) (size : Nat) : World := w.alloc (.cells (Array.replicate size (Value.int .u8 0)) 5)
theorem rt2_u64' {a b c : Int} (h : a = b) : Ending.returned (.tuple #[.int .u64 a, .int .i64 c]) = .returned (.tuple #[.int .u64 b, .int .i64 c]) := by rw [h]
end
end Go.Proofs.YtbikofedppgblaaGreat
namespace Go.Proofs.YtbikofedppgblaaGreat
open Go Go.RowKit Go.Maps
set_option linter.unusedVariables false
/-- The live ones up to number k, rising. -/
def lives (vs : Nat → Option RV) (k : Nat) : List Nat := ((List.range k).map (· + 1)).filter fun n => (vs n).isSome
theorem lives_yes {vs : Nat → Option RV} {k : Nat} (h : (vs (k + 1)).isSome = true) : lives vs (k + 1) = lives vs k ++ [k + 1] := by
  unfold lives; rw [List.range_succ, List.map_append, List.filter_append]; simp [h]
theorem lives_no {vs : Nat → Option RV} {k : Nat} (h : (vs (k + 1)).isSome = false) : lives vs (k + 1) = lives vs k := by
  unfold lives; rw [List.range_succ, List.map_append, List.filter_append]; simp [h]
theorem cellsR_app (vs : Nat → Option RV) (ss : List Nat) (n : Nat) : cellsR vs (ss ++ [n]) = cellsR vs ss ++ regC n ((vs n).getD (0, [], false)) := by simp [cellsR]
theorem lives_len (vs : Nat → Option RV) (k : Nat) : (lives vs k).length ≤ k := Nat.le_trans (List.length_filter_le _ _) (by simp)
theorem Below.kept {w w' : World} (h : Below w.heap.size w w') : Keeps (fun _ => False) w w' := ⟨h.os, h.tape, h.output, h.size, fun k hk _ => h.block k hk⟩
section
variable {w w1 w2 : World} {T : Nat → Prop} {bx made fail : Nat} {vs : Nat → Option RV} {rb gb : Nat → Nat} {lv : Value}
end
end Go.Proofs.YtbikofedppgblaaGreat
namespace Go.Proofs.YtbikofedppgblaaGreat
open Go Go.RowKit Go.Maps
set_option linter.unusedVariables false
/-- What a memory holds, plainly. -/
structure PS where
  made : Nat
  fail : Nat
  vs : Nat → Option RV
def KSide (w : World) (S : Nat → Prop) (bm : Nat) (m : PS) : Prop := ∃ st rl mv rv, KM w S bm m.made m.fail st rl mv rv ∧ ∀ n, (st n).map RG.v = m.vs n
/-- From plain state m the call answers e0 and leads to m'. -/
def KCall (f : FuncId) (args : Array Value) (bm : Nat) (m m' : PS) (e0 : Ending) : Prop := ∀ w S, KSide w S bm m → Calls Tryz.prog f args w fun e w' => e = e0 ∧ KSide w' (more S w w') bm m' ∧ Keeps S w w'
section
variable {f g : FuncId} {args : Array Value} {bm bx : Nat} {m m' : PS} {e0 : Ending}
theorem KCall.same (h : ∀ w S st rl mv rv, KM w S bm m.made m.fail st rl mv rv → (∀ n, (st n).map RG.v = m.vs n) → Calls Tryz.prog f args w fun e w' => e = e0 ∧ w = w') : KCall f args bm m m e0 := by
  rintro w S ⟨st, rl, mv, rv, hk, hv⟩
  refine (h w S st rl mv rv hk hv).mono ?_
  rintro e w' ⟨rfl, rfl⟩
  exact ⟨rfl, ⟨st, rl, mv, rv, hk.same, hv⟩, Keeps.refl _ _⟩
theorem upd_v {st : Nat → Option RG} {vs : Nat → Option RV} (h : ∀ n, (st n).map RG.v = vs n) (n : Nat) (r : Option RG) {q : Option RV} (hq : r.map RG.v = q) : ∀ k, (upd st n r k).map RG.v = updv vs n q k := by
  intro k
  unfold upd updv
  split
  · exact hq
  · exact h k
theorem updv_id {vs : Nat → Option RV} {n : Nat} {q : Option RV} (h : vs n = q) : updv vs n q = vs := by
  funext k
  unfold updv
  split
  · rename_i e; subst e; exact h.symm
  · rfl
theorem st_none {st : Nat → Option RG} {vs : Nat → Option RV} (h : ∀ n, (st n).map RG.v = vs n) {n : Nat} (hn : vs n = none) : st n = none := by
  have := h n
  rw [hn] at this
  rcases hs : st n with _ | r
  · rfl
  · rw [hs] at this; cases this
theorem st_some {st : Nat → Option RG} {vs : Nat → Option RV} (h : ∀ n, (st n).map RG.v = vs n) {n : Nat} {q : RV} (hn : vs n = some q) : ∃ r, st n = some r ∧ r.v = q := by
  have := h n
  rw [hn] at this
  rcases hs : st n with _ | r
  · rw [hs] at this; cases this
  · rw [hs] at this; exact ⟨r, rfl, Option.some.inj this⟩
/-- The three ways of a number. -/
theorem ways (m : PS) (n : Nat) : (n = 0 ∨ m.made < n) ∨ (1 ≤ n ∧ n ≤ m.made ∧ m.vs n = none) ∨ ∃ q, m.vs n = some q := by
  rcases hs : m.vs n with _ | q
  · by_cases h : n = 0 ∨ m.made < n
    · exact .inl h
    · exact .inr (.inl ⟨by omega, by omega, rfl⟩)
  · exact .inr (.inr ⟨q, rfl⟩)
theorem km_out {w : World} {S : Nat → Prop} {made fail : Nat} {st : Nat → Option RG} {rl : List Nat} {mv rv : Value} (h : KM w S bm made fail st rl mv rv) {n : Nat} (hn : n = 0 ∨ made < n) : st n = none := by
  rcases hs : st n with _ | r
  · rfl
  · have := h.range n r hs; omega
def isU64 (v : Value) : Prop := ∃ x : Int, v = .int .u64 x
def isI64 (v : Value) : Prop := ∃ x : Int, v = .int .i64 x
def isStr (v : Value) : Prop := ∃ x : ByteArray, v = .string x
end
section
variable (bm bx : Nat) (m : PS)
/-- What may be done, asked in two ways. -/
theorem perm_x (p d : Int) (h1 : 1 ≤ p) (h3 : p ≤ 3) (hd : d = 1 ∨ d = 2) : (bits .and .i64 p d == 0) = (bits .and .i64 p d != d) := by
  rcases (show p = 1 ∨ p = 2 ∨ p = 3 by omega) with rfl | rfl | rfl <;> rcases hd with rfl | rfl <;> decide
end
end Go.Proofs.YtbikofedppgblaaGreat
