/-
  Alloc: a new region, or why there is none. Alloc: where it makes a region, and where Fail lets it fail.
-/
import Derived.Test.YtomhflaofipccaaP1
import Derived.Deep.RegionHeld3
import Derived.Deep.RegionLaw
namespace Go.Proofs.Ytomhflaofipccaa
open Go Go.RowKit Go.Maps
set_option linter.unusedVariables false

/-- A store into a map, as a step of a region that draws its order. -/
theorem step_mapUpdate {H : Type} {P : Program} {ops : Array Oper} {o : Oper} {a : Act} {w : World} {K : Act → World → Prop} {Q : Exit → Act → World → Prop} {E : Prop} (hgd : o.guard = none) (m x v : Operand) (t : TypeId) (hop : o.op = Op.mapUpdate t m x v)
    (k e : TypeId) (Kk : Keyed P k) (ht : P.underlying t = some (.map k e)) (R : Value → Option (DataW H × List MemPlace)) (b n : Nat) (D : DataW H)
    (hm : a.eval m = .map (some b)) (hown : w.ownsMap P k R b n D) (hn : n < maxLen) (key val : Value) (kl : Lit) (hx : a.eval x = key) (hv : a.eval v = val) (hkey : keyOf P k key = some kl)
    (d : DataW H) (ps : List MemPlace) (hval : R val = some (d, ps))
    (hK : ∀ w', w'.ownsMap P k R b (n + 1) (D.put kl d) → w.grownBy w' (some b) → K (a.put o.dst undef) w') :
    if Region.wanted o (yielded ops a.tmps) = true then Oper.wp P o a w K Q else E := by
  have hw : Region.wanted o (yielded ops a.tmps) = true := by simp [Region.wanted, hgd]
  rw [if_pos hw]
  obtain ⟨w', hrun, r1, r2⟩ := hown.update Kk ht hn hkey hval
  unfold Oper.wp
  simp [execOp, hop, hm, hx, hv, hrun, Result.andThen]
  exact hK w' r1 r2

section
variable {w w' : World} {S : Nat → Prop} {bm made fail : Nat} {st : Nat → Option RG} {rl : List Nat} {mv rv : Value}
theorem isKey32 (n : Nat) : WideAt.IsKeyLit (.int .u32 (n : Int)) := by simp [WideAt.IsKeyLit]
theorem lit32_ne {m n : Nat} (h : m ≠ n) : (Lit.int .u32 (m : Int)) ≠ .int .u32 (n : Int) := by intro e; injection e with _ e; exact h (by omega)
theorem MapOf.put {D : DataW Value} (h : MapOf D st) (n : Nat) (r : RG) : MapOf (D.put (.int .u32 (n : Int)) (.held (.pointer (some ⟨r.blk, 0, none⟩)))) (upd st n (some r)) where
  isMap := h.isMap.put _ _
  at_ m := by
    by_cases hm : m = n
    · subst hm; rw [atKey_put_same h.isMap (isKey32 _), upd_same]; rfl
    · rw [atKey_put_other (lit32_ne hm), upd_other _ _ hm]; exact h.at_ m
  has_ m := by
    by_cases hm : m = n
    · subst hm; rw [has_put_same h.isMap (isKey32 _), upd_same]; rfl
    · rw [has_put_other (lit32_ne hm), upd_other _ _ hm]; exact h.has_ m
theorem MapOf.empty (h : ∀ n, st n = none) : MapOf (.map []) st where
  isMap := isMap_empty
  at_ n := by rw [h n]; rfl
  has_ n := by rw [h n]; rfl
theorem MapOf.del {D : DataW Value} (h : MapOf D st) (n : Nat) : MapOf (D.del (.int .u32 (n : Int))) (upd st n none) where
  isMap := h.isMap.del _
  at_ m := by
    by_cases hm : m = n
    · subst hm; rw [atKey_del_same, upd_same]; rfl
    · rw [atKey_del_other (lit32_ne hm), upd_other _ _ hm]; exact h.at_ m
  has_ m := by
    by_cases hm : m = n
    · subst hm; rw [has_del_same, upd_same]; rfl
    · rw [has_del_other (lit32_ne hm), upd_other _ _ hm]; exact h.has_ m

/-- The memory's own struct has turned (its count, its failing Alloc), nothing else. -/
theorem KM.head (h : KM w S bm made fail st rl mv rv) (k : Keeps (fun b => b = bm) w w') {fail' : Nat} (hb : Blk w' bm 56 #[mv, .int .u32 made, rv, .int .i64 fail']) (hf : fail' ≤ 1048576) :
    KM w' (more S w w') bm made fail' st rl mv rv where
  mem := hb
  map := by
    rcases h.map with h1 | ⟨b, D, e, hb', ho, hm⟩
    · exact .inl h1
    · refine .inr ⟨b, D, e, .inl hb', ownsMap_block ho (k.block b (h.lt b hb') ?_), hm⟩
      rintro rfl
      obtain ⟨es, clock, h1, _⟩ := ho
      have h2 := h.mem; unfold Blk at h2; rw [h2] at h1; cases h1
  range := h.range
  regs n r hr := (h.regs n r hr).keeps k (fun e => Blk.ne_ (h.regs n r hr).head h.mem (by decide) e) (fun g hg e => Blk.ne_ ((h.regs n r hr).rows g hg) h.mem (by decide) e)
  inj := h.inj
  injr := h.injr
  ret := ownsRow_block h.ret (fun g hg => k.block g (h.lt g (h.srv g hg)) (by
    rintro rfl
    rcases h.ret.2 with ⟨hn, _⟩ | ⟨g', cap, cur, hv, _, hgg, _⟩
    · rw [hn] at hg; cases hg
    · have : g' = g := by rw [hv] at hg; simpa [Value.ownBlock] using hg
      subst this
      exact Blk.ne_ (t := 53) (cs := cur) hgg h.mem (by decide) rfl))
  retM := h.retM
  retN := h.retN
  sbm := .inl h.sbm
  sreg n r hr := ⟨.inl (h.sreg n r hr).1, fun g hg => .inl ((h.sreg n r hr).2 g hg)⟩
  srv g hg := .inl (h.srv g hg)
  lt b hb := by
    rcases hb with h1 | h1
    · exact Nat.lt_of_lt_of_le (h.lt b h1) k.size
    · exact h1.2
  made_le := h.made_le
  fail_le := hf

/-- A new region has come in. -/
theorem KM.add (h : KM w S bm made fail st rl mv rv) {b : Nat} {D : DataW Value} {r : RG} {fail' : Nat} (k : Keeps (fun x => x = bm ∨ mv = .map (some x)) w w')
    (hmem : Blk w' bm 56 #[.map (some b), .int .u32 ((made : Int) + 1), rv, .int .i64 fail']) (hown : w'.ownsMap Try.prog 53 heldV b (made + 1) D) (hm : MapOf D (upd st (made + 1) (some r)))
    (hb : S b ∨ (w.heap.size ≤ b ∧ b < w'.heap.size)) (hr : r.At w') (hrow : r.row = none) (hret : r.ret = false) (h1 : w.heap.size ≤ r.blk) (hf : fail' ≤ 1048576) (hmade : made < 4096) :
    KM w' (more S w w') bm (made + 1) fail' (upd st (made + 1) (some r)) rl (.map (some b)) rv ∧ Keeps S w w' := by
  have hno : st (made + 1) = none := by
    rcases hq : st (made + 1) with _ | q
    · rfl
    · have := (h.range _ _ hq).2; omega
  have nomap : ∀ x t cs, Blk w x t cs → mv ≠ .map (some x) := by
    rintro x t cs hx rfl
    rcases h.map with ⟨e, _⟩ | ⟨b', D', e, _, ho, _⟩
    · cases e
    · cases e
      obtain ⟨es, clock, h2, _⟩ := ho
      unfold Blk at hx; rw [hx] at h2; cases h2
  have hS : ∀ x, (x = bm ∨ mv = .map (some x)) → S x := by
    rintro x (rfl | e)
    · exact h.sbm
    · rcases h.map with ⟨e', _⟩ | ⟨b', D', e', hb', _⟩
      · rw [e'] at e; cases e
      · rw [e'] at e; cases e; exact hb'
  have old : ∀ n q, st n = some q → q.At w' := fun n q hq => (h.regs n q hq).keeps k
    (by
      rintro (e | e)
      · exact Blk.ne_ (h.regs n q hq).head h.mem (by decide) e
      · exact nomap _ _ _ (h.regs n q hq).head e)
    (by
      rintro g hg (e | e)
      · exact Blk.ne_ ((h.regs n q hq).rows g hg) h.mem (by decide) e
      · exact nomap _ _ _ ((h.regs n q hq).rows g hg) e)
  refine ⟨⟨by simpa using hmem, .inr ⟨b, D, rfl, hb, hown, hm⟩, ?_, ?_, ?_, ?_, ?_, ?_, h.retN, .inl h.sbm, ?_, fun g hg => .inl (h.srv g hg), ?_, by omega, hf⟩, k.mono hS⟩
  · intro n q hq
    by_cases hn : n = made + 1
    · omega
    · rw [upd_other _ _ hn] at hq; have := h.range n q hq; omega
  · intro n q hq
    by_cases hn : n = made + 1
    · subst hn; rw [upd_same] at hq; cases hq; exact hr
    · rw [upd_other _ _ hn] at hq; exact old n q hq
  · intro n n' q q' hq hq' e
    by_cases hn : n = made + 1 <;> by_cases hn' : n' = made + 1
    · omega
    · subst hn; rw [upd_same] at hq; rw [upd_other _ _ hn'] at hq'; cases hq
      have := (h.regs n' q' hq').head.lt; omega
    · subst hn'; rw [upd_same] at hq'; rw [upd_other _ _ hn] at hq; cases hq'
      have := (h.regs n q hq).head.lt; omega
    · rw [upd_other _ _ hn] at hq; rw [upd_other _ _ hn'] at hq'; exact h.inj n n' q q' hq hq' e
  · intro n n' q q' g hq hq' e e'
    by_cases hn : n = made + 1 <;> by_cases hn' : n' = made + 1
    · omega
    · subst hn; rw [upd_same] at hq; cases hq; rw [hrow] at e; cases e
    · subst hn'; rw [upd_same] at hq'; cases hq'; rw [hrow] at e'; cases e'
    · rw [upd_other _ _ hn] at hq; rw [upd_other _ _ hn'] at hq'; exact h.injr n n' q q' g hq hq' e e'
  · refine ownsRow_block h.ret (fun g hg => k.block g (h.lt g (h.srv g hg)) ?_)
    rcases h.ret.2 with ⟨hn, _⟩ | ⟨g', cap, cur, hv, _, hgg, _⟩
    · rw [hn] at hg; cases hg
    · have : g' = g := by rw [hv] at hg; simpa [Value.ownBlock] using hg
      subst this
      rintro (e | e)
      · exact Blk.ne_ (t := 53) (cs := cur) hgg h.mem (by decide) e
      · exact nomap _ _ _ hgg e
  · intro n
    rw [h.retM]
    by_cases hn : n = made + 1
    · subst hn; rw [upd_same]; simp [hno, hret]
    · rw [upd_other _ _ hn]
  · intro n q hq
    by_cases hn : n = made + 1
    · subst hn; rw [upd_same] at hq; cases hq
      exact ⟨.inr ⟨h1, hr.head.lt⟩, fun g hg => by rw [hrow] at hg; cases hg⟩
    · rw [upd_other _ _ hn] at hq
      exact ⟨.inl (h.sreg n q hq).1, fun g hg => .inl ((h.sreg n q hq).2 g hg)⟩
  · rintro x (h2 | h2)
    · exact Nat.lt_of_lt_of_le (h.lt x h2) k.size
    · exact h2.2
end

theorem alloc_arg (p : Option Addr) (size perm : Int) (h : p = none ∨ size < 1 ∨ 1048576 < size ∨ perm < 1 ∨ 3 < perm) (w : World) :
    Calls Try.prog 35 #[.pointer p, .int .i64 size, .int .i64 perm] w fun e w' => e = .returned (.tuple #[.int .u64 0, .int .i64 1]) ∧ w = w' := by
  rcases p with _ | p
  · clear h
    go_enter Try.func35, Try.ntmps35
    go_wp2_with fail
    go_ret2
    exact ⟨rfl, rfl⟩
  · by_cases h1 : size < 1
    · clear h
      go_enter Try.func35, Try.ntmps35
      go_wp2_with fail
      go_ret2
      exact ⟨rfl, rfl⟩
    · by_cases h2 : 1048576 < size
      · clear h
        go_enter Try.func35, Try.ntmps35
        go_wp2_with fail
        go_ret2
        exact ⟨rfl, rfl⟩
      · by_cases h3 : perm < 1
        · clear h
          go_enter Try.func35, Try.ntmps35
          go_wp2_with fail
          go_ret2
          exact ⟨rfl, rfl⟩
        · have h4 : 3 < perm := by
            rcases h with h | h | h | h | h
            · cases h
            · omega
            · omega
            · omega
            · omega
          clear h
          go_enter Try.func35, Try.ntmps35
          go_wp2_with fail
          go_ret2
          exact ⟨rfl, rfl⟩
end Go.Proofs.Ytomhflaofipccaa
namespace Go.Proofs.Ytomhflaofipccaa
open Go Go.RowKit Go.Maps
set_option linter.unusedVariables false

section
variable {w w1 w2 w' : World} {S : Nat → Prop} {bm made fail : Nat} {st : Nat → Option RG} {rl : List Nat} {mv rv : Value}
theorem more_sub {b : Nat} (k1 : Keeps S w w1) (k2 : Keeps (more S w w1) w1 w2) (h : more (more S w w1) w1 w2 b) : more S w w2 b := by
  have := k1.size
  have := k2.size
  rcases h with (h | ⟨h, h'⟩) | ⟨h, h'⟩
  · exact .inl h
  · exact .inr ⟨h, by omega⟩
  · exact .inr ⟨by omega, h'⟩
/-- Two steps are one. -/
theorem KM.chain (k1 : Keeps S w w1) (k2 : Keeps (more S w w1) w1 w2) (h : KM w2 (more (more S w w1) w1 w2) bm made fail st rl mv rv) : KM w2 (more S w w2) bm made fail st rl mv rv ∧ Keeps S w w2 :=
  ⟨h.mono (fun b hb => more_sub k1 k2 hb) (fun b hb => by
    have h1 := k1.size
    have h2 := k2.size
    rcases hb with hb | hb
    · exact h.lt b (.inl (.inl hb))
    · exact hb.2), k1.trans k2⟩
theorem KM.own (h : KM w S bm made fail st rl mv rv) {b : Nat} (e : mv = .map (some b)) : S b ∧ ∃ D, w.ownsMap Try.prog 53 heldV b made D ∧ MapOf D st := by
  rcases h.map with ⟨e', _⟩ | ⟨b', D, e', hb, ho, hm⟩
  · rw [e'] at e; cases e
  · rw [e'] at e; cases e; exact ⟨hb, D, ho, hm⟩
theorem KM.len (h : KM w S bm made fail st rl mv rv) : ∃ L : Nat, L ≤ made ∧ ∀ ty, (Builtin.len_ #[52] ty #[mv]).run Try.prog w = .ok (.int .i64 (L : Int)) w := by
  rcases h.map with ⟨rfl, _⟩ | ⟨b, D, rfl, hb, ho, hm⟩
  · exact ⟨0, by omega, fun ty => len_nil Try.underlying52 ty⟩
  · exact ⟨Maps.size D, ho.size_le, fun ty => ho.len Try.underlying52 ty⟩

def NowPost (w : World) (S : Nat → Prop) (bm made fail : Nat) (st : Nat → Option RG) (rl : List Nat) (mv rv : Value) (w' : World) : Prop :=
  KM w' (more S w w') bm made (fail - 1) st rl mv rv ∧ Keeps S w w'
theorem failsNow_any (h : KM w S bm made fail st rl mv rv) :
    Calls Try.prog 52 #[.pointer (some ⟨bm, 0, none⟩)] w fun e w' => e = .returned (.bool (fail == 1)) ∧ NowPost w S bm made fail st rl mv rv w' := by
  rcases fail with _ | k
  · exact (failsNow_no bm _ _ _ w h.mem).mono (by rintro e w' ⟨rfl, rfl⟩; exact ⟨rfl, h.same, Keeps.refl _ _⟩)
  · have hb : Blk w bm 56 #[mv, .int .u32 made, rv, .int .i64 ((k : Int) + 1)] := by have := h.mem; simpa using this
    have hf := h.fail_le
    refine (failsNow_yes bm _ _ _ k (by omega) w hb).mono ?_
    rintro e w' ⟨rfl, rfl⟩
    have k0 : Keeps (fun b => b = bm) w (w.setCell ⟨bm, 3, none⟩ (.int .i64 k)) := Keeps.setCell (S := fun b => b = bm) (p := ⟨bm, 3, none⟩) (Keeps.refl _ w) (.inl rfl) _
    refine ⟨?_, ?_, k0.mono (fun b e => e ▸ h.sbm)⟩
    · rcases k with _ | k
      · rfl
      · have h1 : (((k + 1 : Nat) : Int) == 0) = false := by simp; omega
        have h2 : (k + 1 + 1 == 1) = false := by simp
        rw [h1, h2]
    · exact h.head k0 (by have := h.mem.set_ 3 (.int .i64 k); simpa using this) (by omega)

theorem alloc_mem (h : KM w S bm made 1 st rl mv rv) (size perm : Nat) (h1 : 1 ≤ size) (h2 : size ≤ 1048576) (h3 : 1 ≤ perm) (h4 : perm ≤ 3) :
    Calls Try.prog 35 #[.pointer (some ⟨bm, 0, none⟩), .int .i64 size, .int .i64 perm] w fun e w' => e = .returned (.tuple #[.int .u64 0, .int .i64 2]) ∧ NowPost w S bm made 1 st rl mv rv w' := by
  have c := failsNow_any h
  clear h
  have a1 : decide ((size : Int) < 1) = false := by simp; omega
  have a2 : decide (1048576 < (size : Int)) = false := by simp; omega
  have a3 : decide ((perm : Int) < 1) = false := by simp; omega
  have a4 : decide (3 < (perm : Int)) = false := by simp; omega
  generalize NowPost w S bm made 1 st rl mv rv = post at c ⊢
  go_enter Try.func35, Try.ntmps35
  go_wp2_with (go_at_call 52; refine c.mono ?_; rintro e w1 ⟨rfl, hp⟩)
  go_ret2
  exact ⟨rfl, hp⟩

def AllocPost (w : World) (S : Nat → Prop) (bm made fail : Nat) (st : Nat → Option RG) (rl : List Nat) (rv : Value) (size perm : Nat) (w' : World) : Prop :=
  ∃ (r : RG) (mv' : Value), KM w' (more S w w') bm (made + 1) (fail - 1) (upd st (made + 1) (some r)) rl mv' rv ∧ Keeps S w w' ∧ r.perm = perm ∧ r.bytes = List.replicate size 0 ∧ r.ret = false ∧ r.row = none
/-- All that happens behind failsNow, put together. -/
theorem alloc_end {fail0 : Nat} {T : Nat → Prop} (k1 : Keeps T w w1) (h : KM w1 (more T w w1) bm made fail st rl mv rv) {b size perm : Nat} {D : DataW Value} (h1 : 1 ≤ size) (h2 : size ≤ 1048576) (h3 : 1 ≤ perm) (h4 : perm ≤ 3) (hfail : fail = fail0 - 1) {g : Nat}
    (hk : Keeps (fun x => x = bm ∨ mv = .map (some x)) w1 w') (hmem : Blk w' bm 56 #[.map (some b), .int .u32 ((made : Int) + 1), rv, .int .i64 fail])
    (hown : w'.ownsMap Try.prog 53 heldV b (made + 1) (D.put (.int .u32 ((made : Int) + 1)) (.held (.pointer (some ⟨g, 0, none⟩))))) (hm : MapOf D st)
    (hb : more T w w1 b ∨ (w1.heap.size ≤ b ∧ b < w'.heap.size)) (hg : Blk w' g 95 #[.int .i64 size, .int .i64 perm, .slice none 0 0, .bool false]) (hg1 : w1.heap.size ≤ g) (hmade : made < 4096) :
    AllocPost w T bm made fail0 st rl rv size perm w' := by
  subst hfail
  have := h.add (r := ⟨g, perm, none, List.replicate size 0, false⟩) (b := b) (D := D.put (.int .u32 ((made : Int) + 1)) (.held (.pointer (some ⟨g, 0, none⟩)))) hk hmem hown
    (by have := hm.put (made + 1) ⟨g, perm, none, List.replicate size 0, false⟩; simpa using this) hb ⟨by simpa [RG.sl] using hg, by simp, by simp, by simp; omega, by simpa using h2, by show (1 : Int) ≤ (perm : Int); omega, by show (perm : Int) ≤ 3; omega⟩ rfl rfl hg1 h.fail_le hmade
  have hc := KM.chain k1 this.2 this.1
  exact ⟨_, _, hc.1, hc.2, rfl, rfl, rfl, rfl⟩
set_option maxRecDepth 100000 in
set_option maxHeartbeats 1000000 in
theorem alloc_some (h : KM w S bm made fail st rl mv rv) (hf : fail ≠ 1) (hmade : made < 4095) {b : Nat} (hmv : mv = .map (some b)) (size perm : Nat) (h1 : 1 ≤ size) (h2 : size ≤ 1048576) (h3 : 1 ≤ perm) (h4 : perm ≤ 3) :
    Calls Try.prog 35 #[.pointer (some ⟨bm, 0, none⟩), .int .i64 size, .int .i64 perm] w fun e w' => e = .returned (.tuple #[.int .u64 (addr (made + 1) 0), .int .i64 0]) ∧ AllocPost w S bm made fail st rl rv size perm w' := by
  have c := failsNow_any h
  subst hmv
  clear h
  have hff : (fail == 1) = false := by simpa using hf
  rw [hff] at c
  have a1 : decide ((size : Int) < 1) = false := by simp; omega
  have a2 : decide (1048576 < (size : Int)) = false := by simp; omega
  have a3 : decide ((perm : Int) < 1) = false := by simp; omega
  have a4 : decide (3 < (perm : Int)) = false := by simp; omega
  have ca : ∀ w : World, Calls Try.prog 53 #[.int .u32 ((made : Int) + 1)] w fun e w' => e = .returned (.int .u64 (addr (made + 1) 0)) ∧ w = w' := fun w => by
    have := address_any (made + 1) (by omega) w
    rwa [show ((made + 1 : Nat) : Int) = (made : Int) + 1 from by omega] at this
  have HE : Hid (∀ (fail' : Nat) (w1 w' : World) (D : DataW Value) (g : Nat), Keeps S w w1 → KM w1 (more S w w1) bm made fail' st rl (.map (some b)) rv → fail' = fail - 1 → Keeps (fun x => x = bm ∨ Value.map (some b) = .map (some x)) w1 w' →
      Blk w' bm 56 #[.map (some b), .int .u32 ((made : Int) + 1), rv, .int .i64 fail'] → w'.ownsMap Try.prog 53 heldV b (made + 1) (D.put (.int .u32 ((made : Int) + 1)) (.held (.pointer (some ⟨g, 0, none⟩)))) → MapOf D st →
      Blk w' g 95 #[.int .i64 size, .int .i64 perm, .slice none 0 0, .bool false] → w1.heap.size ≤ g → AllocPost w S bm made fail st rl rv size perm w') :=
    fun fail' w1 w' D g k1 hk e kk hmem hown hm hg hg1 => alloc_end k1 hk h1 h2 h3 h4 e kk hmem hown hm (.inl (hk.own rfl).1) hg hg1 (by omega)
  generalize AllocPost w S bm made fail st rl rv size perm = post at HE ⊢
  have hq := fun (w : World) r => run_eql_map_nil (P := Try.prog) w 52 53 91 r Try.underlying52
  have HA := Lib.hid ca; clear ca
  go_enter Try.func35, Try.ntmps35
  go_wp2_with (go_at_call 52; refine c.mono ?_; rintro e w1 ⟨rfl, hk, hkk⟩; obtain ⟨L, hL, hlen⟩ := hk.len; have c0 : w1.cell? ⟨bm, 0, none⟩ = some (.map (some b)) := hk.mem.cell 0; have c1 : w1.cell? ⟨bm, 1, none⟩ = some (.int .u32 made) := hk.mem.cell 1; have f1 : w1.frozen? ⟨bm, 1, none⟩ = false := hk.mem.frozen 1; have HK := Lib.hid hk; clear hk; have HKK := Lib.hid hkk; clear hkk)
  obtain ⟨hSb, D, ho, hm⟩ := HK.out.own rfl
  have hbb : b ≠ bm := by
    rintro rfl
    obtain ⟨es, clock, h1, _⟩ := ho
    have h2 := HK.out.mem; unfold Blk at h2; rw [h2] at h1; cases h1
  have B3 : Blk (w1.setCell ⟨bm, 1, none⟩ (.int .u32 ((made : Int) + 1))) bm 56 #[.map (some b), .int .u32 ((made : Int) + 1), rv, .int .i64 ((fail - 1 : Nat) : Int)] := by
    have := HK.out.mem.set_ 1 (.int .u32 ((made : Int) + 1)); simpa using this
  have k3 : Keeps (fun x => x = bm ∨ Value.map (some b) = .map (some x)) w1 (w1.setCell ⟨bm, 1, none⟩ (.int .u32 ((made : Int) + 1))) := Keeps.setCell (S := fun x => x = bm ∨ Value.map (some b) = .map (some x)) (p := ⟨bm, 1, none⟩) (Keeps.refl _ w1) (.inl (.inl rfl)) _
  have ho3 := ho.setCell (a := ⟨bm, 1, none⟩) hbb (.int .u32 ((made : Int) + 1))
  clear ho c0 c1 f1 hlen c
  generalize w1.setCell ⟨bm, 1, none⟩ (.int .u32 ((made : Int) + 1)) = w3 at *
  have c0 : w3.cell? ⟨bm, 0, none⟩ = some (.map (some b)) := B3.cell 0
  have c1 : w3.cell? ⟨bm, 1, none⟩ = some (.int .u32 ((made : Int) + 1)) := B3.cell 1
  have hbl := B3.lt
  have hsl := ho3.lt
  have HB3 := Lib.hid B3; clear B3
  have HK3 := Lib.hid k3; clear k3
  have HO := Lib.hid ho3; clear ho3
  have HM := Lib.hid hm; clear hm
  obtain ⟨w5, hrun5, hown5, hgrow5⟩ := ((HO.out.alloc (.cells #[.int .i64 size, .int .i64 perm, .slice none 0 0, .bool false] 95)).drew).update law32 Try.underlying52 (by unfold maxLen; omega) (kl := .int .u32 ((made : Int) + 1)) (key := .int .u32 ((made : Int) + 1)) (val := .pointer (some ⟨w3.heap.size, 0, none⟩)) (d := .held (.pointer (some ⟨w3.heap.size, 0, none⟩))) (ps := []) (by have := key32 (n := made + 1) (by omega); simpa using this) rfl
  have B5 : Blk w5 bm 56 #[.map (some b), .int .u32 ((made : Int) + 1), rv, .int .i64 ((fail - 1 : Nat) : Int)] :=
    (hgrow5.block bm (by simp; omega) (by simp; omega)).trans (HB3.out.alloc _)
  have G5 : Blk w5 w3.heap.size 95 #[.int .i64 size, .int .i64 perm, .slice none 0 0, .bool false] :=
    (hgrow5.block w3.heap.size (by simp) (by simp; omega)).trans (Blk.new w3 _ _)
  have k5 : Keeps (fun x => x = bm ∨ Value.map (some b) = .map (some x)) w1 w5 := ((HK3.out.alloc _).drew).grown hgrow5 (fun k e => .inl (.inr (by simpa using e)))
  have hz3 : w1.heap.size ≤ w3.heap.size := HK3.out.size
  have HEND := Lib.hid (HE.out _ w1 w5 D w3.heap.size HKK.out HK.out rfl k5 B5 hown5 HM.out G5 hz3)
  have d1 : w5.cell? ⟨bm, 1, none⟩ = some (.int .u32 ((made : Int) + 1)) := B5.cell 1
  have d0 : w5.cell? ⟨bm, 0, none⟩ = some (.map (some b)) := B5.cell 0
  have ca5 := HA.out w5
  clear B5 G5 k5 hown5 hgrow5
  go_region_held3 (fun w' => w'.cell? ⟨bm, 0, none⟩ = some (.map (some b)) ∧ w'.cell? ⟨bm, 1, none⟩ = some (.int .u32 ((made : Int) + 1)))
    (first | go_keep)
    (fail)
  go_wp2_with (go_at_call 53; refine ca5.mono ?_; rintro e w' ⟨rfl, rfl⟩)
  go_ret2
  exact ⟨rfl, HEND.out⟩
set_option maxRecDepth 100000 in
set_option maxHeartbeats 1000000 in
theorem alloc_nil (h : KM w S bm made fail st rl mv rv) (hf : fail ≠ 1) (hmade : made < 4095) (hmv : mv = .map none) (size perm : Nat) (h1 : 1 ≤ size) (h2 : size ≤ 1048576) (h3 : 1 ≤ perm) (h4 : perm ≤ 3) :
    Calls Try.prog 35 #[.pointer (some ⟨bm, 0, none⟩), .int .i64 size, .int .i64 perm] w fun e w' => e = .returned (.tuple #[.int .u64 (addr (made + 1) 0), .int .i64 0]) ∧ AllocPost w S bm made fail st rl rv size perm w' := by
  have c := failsNow_any h
  subst hmv
  clear h
  have hff : (fail == 1) = false := by simpa using hf
  rw [hff] at c
  have a1 : decide ((size : Int) < 1) = false := by simp; omega
  have a2 : decide (1048576 < (size : Int)) = false := by simp; omega
  have a3 : decide ((perm : Int) < 1) = false := by simp; omega
  have a4 : decide (3 < (perm : Int)) = false := by simp; omega
  have ca : ∀ w : World, Calls Try.prog 53 #[.int .u32 ((made : Int) + 1)] w fun e w' => e = .returned (.int .u64 (addr (made + 1) 0)) ∧ w = w' := fun w => by
    have := address_any (made + 1) (by omega) w
    rwa [show ((made + 1 : Nat) : Int) = (made : Int) + 1 from by omega] at this
  have HE : Hid (∀ (fail' : Nat) (w1 w' : World) (D : DataW Value) (g b : Nat), Keeps S w w1 → KM w1 (more S w w1) bm made fail' st rl (.map none) rv → fail' = fail - 1 → w1.heap.size ≤ b ∧ b < w'.heap.size → Keeps (fun x => x = bm ∨ Value.map none = .map (some x)) w1 w' →
      Blk w' bm 56 #[.map (some b), .int .u32 ((made : Int) + 1), rv, .int .i64 fail'] → w'.ownsMap Try.prog 53 heldV b (made + 1) (D.put (.int .u32 ((made : Int) + 1)) (.held (.pointer (some ⟨g, 0, none⟩)))) → MapOf D st →
      Blk w' g 95 #[.int .i64 size, .int .i64 perm, .slice none 0 0, .bool false] → w1.heap.size ≤ g → AllocPost w S bm made fail st rl rv size perm w') :=
    fun fail' w1 w' D g b k1 hk e hb kk hmem hown hm hg hg1 => alloc_end k1 hk h1 h2 h3 h4 e kk hmem hown hm (.inr hb) hg hg1 (by omega)
  generalize AllocPost w S bm made fail st rl rv size perm = post at HE ⊢
  have hq := fun (w : World) r => run_eql_map_nil (P := Try.prog) w 52 53 91 r Try.underlying52
  have HA := Lib.hid ca; clear ca
  have hmm := @run_makeMap Try.prog
  go_enter Try.func35, Try.ntmps35
  go_wp2_with (go_at_call 52; refine c.mono ?_; rintro e w1 ⟨rfl, hk, hkk⟩; obtain ⟨L, hL, hlen⟩ := hk.len; have c0 : w1.cell? ⟨bm, 0, none⟩ = some (.map none) := hk.mem.cell 0; have f0 : w1.frozen? ⟨bm, 0, none⟩ = false := hk.mem.frozen 0; have hlt := hk.mem.lt; have hne : bm ≠ w1.heap.size := (by omega); have c1 : w1.cell? ⟨bm, 1, none⟩ = some (.int .u32 made) := hk.mem.cell 1; have f1 : w1.frozen? ⟨bm, 1, none⟩ = false := hk.mem.frozen 1; have HK := Lib.hid hk; clear hk; have HKK := Lib.hid hkk; clear hkk)
  have hem : MapOf (.map []) st := MapOf.empty (fun n => by
    rcases HK.out.map with ⟨_, h⟩ | ⟨_, _, e, _⟩
    · exact h n
    · cases e)
  have hsz : ((w1.setCell ⟨bm, 0, none⟩ (.map (some w1.heap.size))).setCell ⟨bm, 1, none⟩ (.int .u32 ((made : Int) + 1))).heap.size = w1.heap.size := by simp [World.setCell]
  have B3 : Blk (((w1.setCell ⟨bm, 0, none⟩ (.map (some w1.heap.size))).setCell ⟨bm, 1, none⟩ (.int .u32 ((made : Int) + 1))).alloc (.map #[] 0)) bm 56 #[.map (some w1.heap.size), .int .u32 ((made : Int) + 1), rv, .int .i64 ((fail - 1 : Nat) : Int)] := by
    have := ((HK.out.mem.set_ 0 (.map (some w1.heap.size))).set_ 1 (.int .u32 ((made : Int) + 1))).alloc (.map #[] 0); simpa using this
  have k3 : Keeps (fun x => x = bm ∨ Value.map none = .map (some x)) w1 (((w1.setCell ⟨bm, 0, none⟩ (.map (some w1.heap.size))).setCell ⟨bm, 1, none⟩ (.int .u32 ((made : Int) + 1))).alloc (.map #[] 0)) :=
    (Keeps.setCell (S := fun x => x = bm ∨ Value.map none = .map (some x)) (p := ⟨bm, 1, none⟩) (Keeps.setCell (S := fun x => x = bm ∨ Value.map none = .map (some x)) (p := ⟨bm, 0, none⟩) (Keeps.refl _ w1) (.inl (.inl rfl)) _) (.inl (.inl rfl)) _).alloc _
  have ho3 := (World.ownsMap_made ((w1.setCell ⟨bm, 0, none⟩ (.map (some w1.heap.size))).setCell ⟨bm, 1, none⟩ (.int .u32 ((made : Int) + 1))) Try.prog 53 heldV).mono (Nat.zero_le made)
  rw [hsz] at ho3
  have hbn : w1.heap.size < (((w1.setCell ⟨bm, 0, none⟩ (.map (some w1.heap.size))).setCell ⟨bm, 1, none⟩ (.int .u32 ((made : Int) + 1))).alloc (.map #[] 0)).heap.size := by simp [World.setCell]
  have hm := hem
  obtain ⟨D, hD⟩ : ∃ D : DataW Value, D = .map [] := ⟨_, rfl⟩
  rw [← hD] at hm ho3
  have hbb : w1.heap.size ≠ bm := by omega
  have hb1 : w1.heap.size ≤ w1.heap.size := Nat.le_refl _
  clear hem hD hsz c0 c1 f0 f1 hlen c hq hmm hne
  generalize ((w1.setCell ⟨bm, 0, none⟩ (.map (some w1.heap.size))).setCell ⟨bm, 1, none⟩ (.int .u32 ((made : Int) + 1))).alloc (.map #[] 0) = w3 at *
  obtain ⟨b, hbe⟩ : ∃ b, b = w1.heap.size := ⟨_, rfl⟩
  have HB1 : Hid (w1.heap.size ≤ b) := by unfold Hid; omega
  rw [← hbe] at ho3 hbn hbb ⊢
  rw [← hbe] at B3
  clear hbe
  have c0 : w3.cell? ⟨bm, 0, none⟩ = some (.map (some b)) := B3.cell 0
  have c1 : w3.cell? ⟨bm, 1, none⟩ = some (.int .u32 ((made : Int) + 1)) := B3.cell 1
  have hbl := B3.lt
  have hsl := ho3.lt
  have HB3 := Lib.hid B3; clear B3
  have HK3 := Lib.hid k3; clear k3
  have HO := Lib.hid ho3; clear ho3
  have HM := Lib.hid hm; clear hm
  obtain ⟨w5, hrun5, hown5, hgrow5⟩ := ((HO.out.alloc (.cells #[.int .i64 size, .int .i64 perm, .slice none 0 0, .bool false] 95)).drew).update law32 Try.underlying52 (by unfold maxLen; omega) (kl := .int .u32 ((made : Int) + 1)) (key := .int .u32 ((made : Int) + 1)) (val := .pointer (some ⟨w3.heap.size, 0, none⟩)) (d := .held (.pointer (some ⟨w3.heap.size, 0, none⟩))) (ps := []) (by have := key32 (n := made + 1) (by omega); simpa using this) rfl
  have B5 : Blk w5 bm 56 #[.map (some b), .int .u32 ((made : Int) + 1), rv, .int .i64 ((fail - 1 : Nat) : Int)] :=
    (hgrow5.block bm (by simp; omega) (by simp; omega)).trans (HB3.out.alloc _)
  have G5 : Blk w5 w3.heap.size 95 #[.int .i64 size, .int .i64 perm, .slice none 0 0, .bool false] :=
    (hgrow5.block w3.heap.size (by simp) (by simp; omega)).trans (Blk.new w3 _ _)
  have k5 : Keeps (fun x => x = bm ∨ Value.map none = .map (some x)) w1 w5 := ((HK3.out.alloc _).drew).grown hgrow5 (fun k e => .inr (by have := HB1.out; have : b = k := (by simpa using e); omega))
  have hz3 : w1.heap.size ≤ w3.heap.size := HK3.out.size
  have HEND := Lib.hid (HE.out _ w1 w5 D w3.heap.size b HKK.out HK.out rfl ⟨HB1.out, hown5.lt⟩ k5 B5 hown5 HM.out G5 hz3)
  have d1 : w5.cell? ⟨bm, 1, none⟩ = some (.int .u32 ((made : Int) + 1)) := B5.cell 1
  have d0 : w5.cell? ⟨bm, 0, none⟩ = some (.map (some b)) := B5.cell 0
  have ca5 := HA.out w5
  clear B5 G5 k5 hown5 hgrow5
  go_region_held3 (fun w' => w'.cell? ⟨bm, 0, none⟩ = some (.map (some b)) ∧ w'.cell? ⟨bm, 1, none⟩ = some (.int .u32 ((made : Int) + 1)))
    (first | go_keep)
    (fail)
  go_wp2_with (go_at_call 53; refine ca5.mono ?_; rintro e w' ⟨rfl, rfl⟩)
  go_ret2
  exact ⟨rfl, HEND.out⟩
/-- Alloc makes region number made + 1. -/
theorem alloc_ok (h : KM w S bm made fail st rl mv rv) (hf : fail ≠ 1) (hmade : made < 4095) (size perm : Nat) (h1 : 1 ≤ size) (h2 : size ≤ 1048576) (h3 : 1 ≤ perm) (h4 : perm ≤ 3) :
    Calls Try.prog 35 #[.pointer (some ⟨bm, 0, none⟩), .int .i64 size, .int .i64 perm] w fun e w' => e = .returned (.tuple #[.int .u64 (addr (made + 1) 0), .int .i64 0]) ∧ AllocPost w S bm made fail st rl rv size perm w' := by
  rcases h.map with ⟨e, _⟩ | ⟨b, D, e, _⟩
  · exact alloc_nil h hf hmade e size perm h1 h2 h3 h4
  · exact alloc_some h hf hmade e size perm h1 h2 h3 h4
end
end Go.Proofs.Ytomhflaofipccaa
