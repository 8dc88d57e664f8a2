/-
  Alloc: a new region, or why there is none.
-/
import Derived.Test.YtbikofedppgblaaGreatQ02
import Derived.Deep.RegionHeld3
import Derived.Deep.RegionLaw
namespace Go.Proofs.YtbikofedppgblaaGreat
open Go Go.RowKit Go.Maps
set_option linter.unusedVariables false

/-- A store into a map, as a step of a region that draws its order. -/
theorem step_mapUpdate {H : Type} {P : Program} {ops : Array Oper} {o : Oper} {a : Act} {w : World} {K : Act → World → Prop} {Q : Exit → Act → World → Prop} {E : Prop} (hgd : o.guard = none) (m x v : Operand) (t : TypeId) (hop : o.op = Op.mapUpdate t m x v)
    (k e : TypeId) (Kk : Keyed P k) (ht : P.underlying t = some (.map k e)) (R : Value → Option (DataW H × List MemPlace)) (b n : Nat) (D : DataW H)
    (hm : a.eval m = .map (some b)) (hown : w.ownsMap P k R b n D) (hn : n < maxLen) (key val : Value) (kl : Lit) (hx : a.eval x = key) (hv : a.eval v = val) (hkey : keyOf P k key = some kl)
    (d : DataW H) (ps : List MemPlace) (hval : R val = some (d, ps))
    (hK : ∀ w', w'.ownsMap P k R b (n + 1) (D.put kl d) → w.grownBy w' (some b) → K (a.put o.dst undef) w') :
    if Region.wanted o (yielded ops a.tmps) = true then Oper.wp P o a w K Q else E := by
  have hw : Region.wanted o (yielded ops a.tmps) = true := by simp [Region.wanted, hgd]
  rw [if_pos hw]
  obtain ⟨w', hrun, r1, r2⟩ := hown.update Kk ht hn hkey hval
  unfold Oper.wp
  simp [execOp, hop, hm, hx, hv, hrun, Result.andThen]
  exact hK w' r1 r2

section
variable {w w' : World} {S : Nat → Prop} {bm made fail : Nat} {st : Nat → Option RG} {rl : List Nat} {mv rv : Value}
theorem isKey32 (n : Nat) : WideAt.IsKeyLit (.int .u32 (n : Int)) := by simp [WideAt.IsKeyLit]
theorem lit32_ne {m n : Nat} (h : m ≠ n) : (Lit.int .u32 (m : Int)) ≠ .int .u32 (n : Int) := by intro e; injection e with _ e; exact h (by omega)
theorem MapOf.put {D : DataW Value} (h : MapOf D st) (n : Nat) (r : RG) : MapOf (D.put (.int .u32 (n : Int)) (.held (.pointer (some ⟨r.blk, 0, none⟩)))) (upd st n (some r)) where
  isMap := h.isMap.put _ _
  at_ m := by
    by_cases hm : m = n
    · subst hm; rw [atKey_put_same h.isMap (isKey32 _), upd_same]; rfl
    · rw [atKey_put_other (lit32_ne hm), upd_other _ _ hm]; exact h.at_ m
  has_ m := by
    by_cases hm : m = n
    · subst hm; rw [has_put_same h.isMap (isKey32 _), upd_same]; rfl
    · rw [has_put_other (lit32_ne hm), upd_other _ _ hm]; exact h.has_ m
theorem MapOf.empty (h : ∀ n, st n = none) : MapOf (.map []) st where
  isMap := isMap_empty
  at_ n := by rw [h n]; rfl
  has_ n := by rw [h n]; rfl
theorem MapOf.del {D : DataW Value} (h : MapOf D st) (n : Nat) : MapOf (D.del (.int .u32 (n : Int))) (upd st n none) where
  isMap := h.isMap.del _
  at_ m := by
    by_cases hm : m = n
    · subst hm; rw [atKey_del_same, upd_same]; rfl
    · rw [atKey_del_other (lit32_ne hm), upd_other _ _ hm]; exact h.at_ m
  has_ m := by
    by_cases hm : m = n
    · subst hm; rw [has_del_same, upd_same]; rfl
    · rw [has_del_other (lit32_ne hm), upd_other _ _ hm]; exact h.has_ m

/-- The memory's own struct has turned (its count, its failing Alloc), nothing else. -/
theorem KM.head (h : KM w S bm made fail st rl mv rv) (k : Keeps (fun b => b = bm) w w') {fail' : Nat} (hb : Blk w' bm 59 #[mv, .int .u32 made, rv, .int .i64 fail']) (hf : fail' ≤ 1048576) :
    KM w' (more S w w') bm made fail' st rl mv rv where
  mem := hb
  map := by
    rcases h.map with h1 | ⟨b, D, e, hb', ho, hm⟩
    · exact .inl h1
    · refine .inr ⟨b, D, e, .inl hb', ownsMap_block ho (k.block b (h.lt b hb') ?_), hm⟩
      rintro rfl
      obtain ⟨es, clock, h1, _⟩ := ho
      have h2 := h.mem; unfold Blk at h2; rw [h2] at h1; cases h1
  range := h.range
  regs n r hr := (h.regs n r hr).keeps k (fun e => Blk.ne_ (h.regs n r hr).head h.mem (by decide) e) (fun g hg e => Blk.ne_ ((h.regs n r hr).rows g hg) h.mem (by decide) e)
  inj := h.inj
  injr := h.injr
  ret := ownsRow_block h.ret (fun g hg => k.block g (h.lt g (h.srv g hg)) (by
    rintro rfl
    rcases h.ret.2 with ⟨hn, _⟩ | ⟨g', cap, cur, hv, _, hgg, _⟩
    · rw [hn] at hg; cases hg
    · have : g' = g := by rw [hv] at hg; simpa [Value.ownBlock] using hg
      subst this
      exact Blk.ne_ (t := 56) (cs := cur) hgg h.mem (by decide) rfl))
  retM := h.retM
  retN := h.retN
  sbm := .inl h.sbm
  sreg n r hr := ⟨.inl (h.sreg n r hr).1, fun g hg => .inl ((h.sreg n r hr).2 g hg)⟩
  srv g hg := .inl (h.srv g hg)
  lt b hb := by
    rcases hb with h1 | h1
    · exact Nat.lt_of_lt_of_le (h.lt b h1) k.size
    · exact h1.2
  made_le := h.made_le
  fail_le := hf

/-- A new region has come in. -/
theorem KM.add (h : KM w S bm made fail st rl mv rv) {b : Nat} {D : DataW Value} {r : RG} {fail' : Nat} (k : Keeps (fun x => x = bm ∨ mv = .map (some x)) w w')
    (hmem : Blk w' bm 59 #[.map (some b), .int .u32 ((made : Int) + 1), rv, .int .i64 fail']) (hown : w'.ownsMap Tryz.prog 56 heldV b (made + 1) D) (hm : MapOf D (upd st (made + 1) (some r)))
    (hb : S b ∨ (w.heap.size ≤ b ∧ b < w'.heap.size)) (hr : r.At w') (hrow : r.row = none) (hret : r.ret = false) (h1 : w.heap.size ≤ r.blk) (hf : fail' ≤ 1048576) (hmade : made < 4096) :
    KM w' (more S w w') bm (made + 1) fail' (upd st (made + 1) (some r)) rl (.map (some b)) rv ∧ Keeps S w w' := by
  have hno : st (made + 1) = none := by
    rcases hq : st (made + 1) with _ | q
    · rfl
    · have := (h.range _ _ hq).2; omega
  have nomap : ∀ x t cs, Blk w x t cs → mv ≠ .map (some x) := by
    rintro x t cs hx rfl
    rcases h.map with ⟨e, _⟩ | ⟨b', D', e, _, ho, _⟩
    · cases e
    · cases e
      obtain ⟨es, clock, h2, _⟩ := ho
      unfold Blk at hx; rw [hx] at h2; cases h2
  have hS : ∀ x, (x = bm ∨ mv = .map (some x)) → S x := by
    rintro x (rfl | e)
    · exact h.sbm
    · rcases h.map with ⟨e', _⟩ | ⟨b', D', e', hb', _⟩
      · rw [e'] at e; cases e
      · rw [e'] at e; cases e; exact hb'
  have old : ∀ n q, st n = some q → q.At w' := fun n q hq => (h.regs n q hq).keeps k
    (by
      rintro (e | e)
      · exact Blk.ne_ (h.regs n q hq).head h.mem (by decide) e
      · exact nomap _ _ _ (h.regs n q hq).head e)
    (by
      rintro g hg (e | e)
      · exact Blk.ne_ ((h.regs n q hq).rows g hg) h.mem (by decide) e
      · exact nomap _ _ _ ((h.regs n q hq).rows g hg) e)
  refine ⟨⟨by simpa using hmem, .inr ⟨b, D, rfl, hb, hown, hm⟩, ?_, ?_, ?_, ?_, ?_, ?_, h.retN, .inl h.sbm, ?_, fun g hg => .inl (h.srv g hg), ?_, by omega, hf⟩, k.mono hS⟩
  · intro n q hq
    by_cases hn : n = made + 1
    · omega
    · rw [upd_other _ _ hn] at hq; have := h.range n q hq; omega
  · intro n q hq
    by_cases hn : n = made + 1
    · subst hn; rw [upd_same] at hq; cases hq; exact hr
    · rw [upd_other _ _ hn] at hq; exact old n q hq
  · intro n n' q q' hq hq' e
    by_cases hn : n = made + 1 <;> by_cases hn' : n' = made + 1
    · omega
    · subst hn; rw [upd_same] at hq; rw [upd_other _ _ hn'] at hq'; cases hq
      have := (h.regs n' q' hq').head.lt; omega
    · subst hn'; rw [upd_same] at hq'; rw [upd_other _ _ hn] at hq; cases hq'
      have := (h.regs n q hq).head.lt; omega
    · rw [upd_other _ _ hn] at hq; rw [upd_other _ _ hn'] at hq'; exact h.inj n n' q q' hq hq' e
  · intro n n' q q' g hq hq' e e'
    by_cases hn : n = made + 1 <;> by_cases hn' : n' = made + 1
    · omega
    · subst hn; rw [upd_same] at hq; cases hq; rw [hrow] at e; cases e
    · subst hn'; rw [upd_same] at hq'; cases hq'; rw [hrow] at e'; cases e'
    · rw [upd_other _ _ hn] at hq; rw [upd_other _ _ hn'] at hq'; exact h.injr n n' q q' g hq hq' e e'
  · refine ownsRow_block h.ret (fun g hg => k.block g (h.lt g (h.srv g hg)) ?_)
    rcases h.ret.2 with ⟨hn, _⟩ | ⟨g', cap, cur, hv, _, hgg, _⟩
    · rw [hn] at hg; cases hg
    · have : g' = g := by rw [hv] at hg; simpa [Value.ownBlock] using hg
      subst this
      rintro (e | e)
      · exact Blk.ne_ (t := 56) (cs := cur) hgg h.mem (by decide) e
      · exact nomap _ _ _ hgg e
  · intro n
    rw [h.retM]
    by_cases hn : n = made + 1
    · subst hn; rw [upd_same]; simp [hno, hret]
    · rw [upd_other _ _ hn]
  · intro n q hq
    by_cases hn : n = made + 1
    · subst hn; rw [upd_same] at hq; cases hq
      exact ⟨.inr ⟨h1, hr.head.lt⟩, fun g hg => by rw [hrow] at hg; cases hg⟩
    · rw [upd_other _ _ hn] at hq
      exact ⟨.inl (h.sreg n q hq).1, fun g hg => .inl ((h.sreg n q hq).2 g hg)⟩
  · rintro x (h2 | h2)
    · exact Nat.lt_of_lt_of_le (h.lt x h2) k.size
    · exact h2.2
end

theorem alloc_arg (p : Option Addr) (size perm : Int) (h : p = none ∨ size < 1 ∨ 1048576 < size ∨ perm < 1 ∨ 3 < perm) (w : World) :
    Calls Tryz.prog 70 #[.pointer p, .int .i64 size, .int .i64 perm] w fun e w' => e = .returned (.tuple #[.int .u64 0, .int .i64 1]) ∧ w = w' := by
  rcases p with _ | p
  · clear h
    go_enter Tryz.func70, Tryz.ntmps70
    go_wp2_with fail
    go_ret2
    exact ⟨rfl, rfl⟩
  · by_cases h1 : size < 1
    · clear h
      go_enter Tryz.func70, Tryz.ntmps70
      go_wp2_with fail
      go_ret2
      exact ⟨rfl, rfl⟩
    · by_cases h2 : 1048576 < size
      · clear h
        go_enter Tryz.func70, Tryz.ntmps70
        go_wp2_with fail
        go_ret2
        exact ⟨rfl, rfl⟩
      · by_cases h3 : perm < 1
        · clear h
          go_enter Tryz.func70, Tryz.ntmps70
          go_wp2_with fail
          go_ret2
          exact ⟨rfl, rfl⟩
        · have h4 : 3 < perm := by
            rcases h with h | h | h | h | h
            · cases h
            · omega
            · omega
            · omega
            · omega
          clear h
          go_enter Tryz.func70, Tryz.ntmps70
          go_wp2_with fail
          go_ret2
          exact ⟨rfl, rfl⟩
end Go.Proofs.YtbikofedppgblaaGreat
