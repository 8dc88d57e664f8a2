/-
  Retire: the region lives on until the next Grace.
-/
import Derived.Test.YtdihlmhipkcedaaKeys
namespace Go.Proofs.Ytdihlmhipkcedaa
open Go Go.RowKit Go.Maps
set_option linter.unusedVariables false
section
variable {w w1 w' : World} {S : Nat → Prop} {bm made fail : Nat} {st : Nat → Option RG} {rl : List Nat} {mv rv : Value}
theorem KM.retBlk (h : KM w S bm made fail st rl mv rv) {g : Nat} (hg : rv.ownBlock = some g) : ∃ cur, Blk w g 48 cur := by
  rcases h.ret.2 with ⟨hn, _⟩ | ⟨g', cap, cur, hv, _, hgg, _⟩
  · rw [hn] at hg; cases hg
  · have : g' = g := by rw [hv] at hg; simpa [Value.ownBlock] using hg
    subst this
    exact ⟨cur, hgg⟩
theorem KM.notMap (h : KM w S bm made fail st rl mv rv) {b x : Nat} {t : TypeId} {cs : Array Value} (e : mv = .map (some b)) (hx : Blk w x t cs) : x ≠ b := by
  rintro rfl
  obtain ⟨_, D', ho, _⟩ := h.own e
  obtain ⟨es, clock, h2, _⟩ := ho
  unfold Blk at hx; rw [hx] at h2; cases h2
theorem KM.retire (h : KM w S bm made fail st rl mv rv) {n : Nat} {r : RG} {v' : Value} (hs : st n = some r) (hret : r.ret = false) (k : Keeps (fun b => b = bm ∨ b = r.blk ∨ rv.ownBlock = some b) w w')
    (hm : Blk w' bm 51 #[mv, .int .u32 made, v', .int .i64 fail]) (hr : Blk w' r.blk 80 #[.int .i64 r.bytes.length, .int .i64 r.perm, r.sl, .bool true])
    (ho : w'.ownsRow 0 48 1 v' (rl.length + 1) ((rl.map fun n : Nat => Value.int .u32 (n : Int)) ++ [.int .u32 (n : Int)])) (hat : ∀ g, v'.ownBlock = some g → rv.ownBlock = some g ∨ (w.heap.size ≤ g ∧ g < w'.heap.size)) :
    KM w' (more S w w') bm made fail (upd st n (some { r with ret := true })) (rl ++ [n]) mv v' ∧ Keeps S w w' := by
  have hnrl : n ∉ rl := by
    rw [h.retM]; rintro ⟨r', e1, e2⟩
    rw [hs] at e1; cases e1; rw [hret] at e2; cases e2
  have hR := h.regs n r hs
  have rowok : ∀ m q, st m = some q → ∀ g, q.row = some g → ¬ (g = bm ∨ g = r.blk ∨ rv.ownBlock = some g) := by
    rintro m q hq g hg (e | e | e)
    · exact Blk.ne_ ((h.regs m q hq).rows g hg) h.mem (by decide) e
    · exact Blk.ne_ ((h.regs m q hq).rows g hg) hR.head (by decide) e
    · obtain ⟨cur, hc⟩ := h.retBlk e
      exact Blk.ne_ ((h.regs m q hq).rows g hg) hc (by decide) rfl
  refine ⟨⟨hm, ?_, ?_, ?_, ?_, ?_, by simpa using ho, ?_, ?_, .inl h.sbm, ?_, ?_, ?_, h.made_le, h.fail_le⟩, k.mono ?_⟩
  · rcases h.map with ⟨e, h1⟩ | ⟨b, D, e, hb', ho', hm'⟩
    · rw [h1 n] at hs; cases hs
    · refine .inr ⟨b, D, e, .inl hb', ownsMap_block ho' (k.block b (h.lt b hb') ?_), KM.isMap_upd (b := 0) hm' hs rfl⟩
      rintro (e' | e' | e')
      · exact h.notMap e h.mem e'.symm
      · exact h.notMap e hR.head e'.symm
      · obtain ⟨cur, hc⟩ := h.retBlk e'; exact h.notMap e hc rfl
  · intro m q hq
    by_cases hmn : m = n
    · subst hmn; exact h.range m r hs
    · rw [upd_other _ _ hmn] at hq; exact h.range m q hq
  · intro m q hq
    by_cases hmn : m = n
    · subst hmn; rw [upd_same] at hq; cases hq
      exact ⟨hr, fun g hg => (hR.rows g hg).keeps k (rowok _ r hs g hg), hR.zero, hR.pos, hR.le, hR.p1, hR.p3⟩
    · rw [upd_other _ _ hmn] at hq
      refine (h.regs m q hq).keeps k ?_ (fun g hg => rowok m q hq g hg)
      rintro (e | e | e)
      · exact Blk.ne_ (h.regs m q hq).head h.mem (by decide) e
      · exact hmn (h.inj m n q r hq hs e)
      · obtain ⟨cur, hc⟩ := h.retBlk e
        exact Blk.ne_ (h.regs m q hq).head hc (by decide) rfl
  · intro m m' q q' hq hq' e
    by_cases hmn : m = n <;> by_cases hmn' : m' = n
    · omega
    · subst hmn; rw [upd_same] at hq; rw [upd_other _ _ hmn'] at hq'; cases hq; exact h.inj _ _ r q' hs hq' e
    · subst hmn'; rw [upd_same] at hq'; rw [upd_other _ _ hmn] at hq; cases hq'; exact h.inj _ _ q r hq hs e
    · rw [upd_other _ _ hmn] at hq; rw [upd_other _ _ hmn'] at hq'; exact h.inj _ _ q q' hq hq' e
  · intro m m' q q' g hq hq' e e'
    by_cases hmn : m = n <;> by_cases hmn' : m' = n
    · omega
    · subst hmn; rw [upd_same] at hq; rw [upd_other _ _ hmn'] at hq'; cases hq; exact h.injr _ _ r q' g hs hq' e e'
    · subst hmn'; rw [upd_same] at hq'; rw [upd_other _ _ hmn] at hq; cases hq'; exact h.injr _ _ q r g hq hs e e'
    · rw [upd_other _ _ hmn] at hq; rw [upd_other _ _ hmn'] at hq'; exact h.injr _ _ q q' g hq hq' e e'
  · intro m
    by_cases hmn : m = n
    · subst hmn; rw [upd_same]; simp
    · rw [upd_other _ _ hmn, List.mem_append, h.retM]; simp [hmn]
  · rw [List.nodup_append]
    exact ⟨h.retN, by simp, fun p hp q hq => by simp at hq; subst hq; rintro rfl; exact hnrl hp⟩
  · intro m q hq
    by_cases hmn : m = n
    · subst hmn; rw [upd_same] at hq; cases hq
      exact ⟨.inl (h.sreg _ r hs).1, fun g hg => .inl ((h.sreg _ r hs).2 g hg)⟩
    · rw [upd_other _ _ hmn] at hq
      exact ⟨.inl (h.sreg m q hq).1, fun g hg => .inl ((h.sreg m q hq).2 g hg)⟩
  · intro g hg
    rcases hat g hg with e | e
    · exact .inl (h.srv g e)
    · exact .inr e
  · rintro x (h2 | h2)
    · exact Nat.lt_of_lt_of_le (h.lt x h2) k.size
    · exact h2.2
  · rintro b (e | e | e)
    · subst e; exact h.sbm
    · subst e; exact (h.sreg n r hs).1
    · exact h.srv b e
theorem nodup_le : ∀ (m : Nat) (l : List Nat), l.Nodup → (∀ x ∈ l, 1 ≤ x ∧ x ≤ m) → l.length ≤ m
  | 0, l, _, h => by
    rcases l with _ | ⟨x, r⟩
    · exact Nat.le_refl _
    · have := h x (by simp); omega
  | m + 1, l, hn, h => by
    have h1 := nodup_le m (l.erase (m + 1)) (hn.erase _) (fun x hx => by
      have := h x (List.mem_of_mem_erase hx)
      have hne : x ≠ m + 1 := fun e => by subst e; exact (hn.mem_erase_iff.1 hx).1 rfl
      omega)
    rw [List.length_erase] at h1
    split at h1 <;> omega
theorem KM.retLen (h : KM w S bm made fail st rl mv rv) : rl.length ≤ made :=
  nodup_le made rl h.retN (fun x hx => by obtain ⟨r, hr, _⟩ := (h.retM x).1 hx; exact h.range x r hr)
set_option maxRecDepth 100000 in
set_option maxHeartbeats 1000000 in
theorem retire_ok (h : KM w S bm made fail st rl mv rv) (n : Nat) {r : RG} (hs : st n = some r) (hret : r.ret = false) :
    Calls Try.prog 39 #[.pointer (some ⟨bm, 0, none⟩), .int .u64 (addr n 0)] w fun e w' => e = .returned (.int .i64 0) ∧ ∃ v', KM w' (more S w w') bm made fail (upd st n (some { r with ret := true })) (rl ++ [n]) mv v' ∧ Keeps S w w' := by
  obtain ⟨h0, hm⟩ := h.range n r hs
  have hle := h.made_le
  have hn : n ≤ 4294967295 := by omega
  have hrl := h.retLen
  obtain ⟨i0, hi, hz0, hz1, hz2⟩ := info_parts info32
  have c := beginsAt_at h n hn
  rw [hs] at c
  change Calls _ _ _ _ (fun e w' => e = Ending.returned (Value.pointer (some ⟨r.blk, 0, none⟩)) ∧ w = w') at c
  have cs := split_any n 0 hn (by omega) w
  have d3 : w.cell? ⟨r.blk, 3, none⟩ = some (.bool r.ret) := (h.regs n r hs).head.cell 3
  rw [hret] at d3
  have f3 := (h.regs n r hs).head.frozen 3
  have hrbl := (h.regs n r hs).head.lt
  have hbl := h.mem.lt
  have hrb : r.blk ≠ bm := Blk.ne_ (h.regs n r hs).head h.mem (by decide)
  have c2 : w.cell? ⟨bm, 2, none⟩ = some rv := h.mem.cell 2
  -- what the writes leave
  have R1 : Blk (w.setCell ⟨r.blk, 3, none⟩ (.bool true)) r.blk 80 #[.int .i64 r.bytes.length, .int .i64 r.perm, r.sl, .bool true] := by
    have := (h.regs n r hs).head.set_ 3 (.bool true); simpa using this
  have M1 : Blk (w.setCell ⟨r.blk, 3, none⟩ (.bool true)) bm 51 #[mv, .int .u32 made, rv, .int .i64 fail] := h.mem.far (p := ⟨r.blk, 3, none⟩) (Ne.symm hrb) _
  have O1 : (w.setCell ⟨r.blk, 3, none⟩ (.bool true)).ownsRow 0 48 1 rv rl.length (rl.map fun n : Nat => Value.int .u32 (n : Int)) := ownsRow_block h.ret (fun g hg => Below.heap_setCell w _ _ g (by
    obtain ⟨cur, hc⟩ := h.retBlk hg
    exact Blk.ne_ hc (h.regs n r hs).head (by decide)))
  have K1 : Keeps (fun b => b = bm ∨ b = r.blk ∨ rv.ownBlock = some b) w (w.setCell ⟨r.blk, 3, none⟩ (.bool true)) := Keeps.setCell (S := fun b => b = bm ∨ b = r.blk ∨ rv.ownBlock = some b) (p := ⟨r.blk, 3, none⟩) (Keeps.refl _ w) (.inl (.inr (.inl rfl))) _
  have hz : (w.setCell ⟨r.blk, 3, none⟩ (.bool true)).heap.size = w.heap.size := by simp [World.setCell]
  have hrt : ∀ x y, rv.ownBlock = some x → Blk w x 48 y → True := fun _ _ _ _ => trivial
  have END : Hid (∀ (w4 : World) (v' : Value), w4.ownsRow 0 48 1 v' (rl.length + 1) ((rl.map fun n : Nat => Value.int .u32 (n : Int)) ++ [.int .u32 (n : Int)]) → ((w.setCell ⟨r.blk, 3, none⟩ (.bool true)).alloc (.cells #[.int .u32 (n : Int)] 48)).grownBy w4 rv.ownBlock →
      (v'.ownBlock = rv.ownBlock ∨ v'.ownBlock = some ((w.setCell ⟨r.blk, 3, none⟩ (.bool true)).alloc (.cells #[.int .u32 (n : Int)] 48)).heap.size) →
      (w4.cell? ⟨bm, 2, none⟩ = some rv ∧ w4.frozen? ⟨bm, 2, none⟩ = false) ∧ KM (w4.setCell ⟨bm, 2, none⟩ v') (more S w (w4.setCell ⟨bm, 2, none⟩ v')) bm made fail (upd st n (some { r with ret := true })) (rl ++ [n]) mv v' ∧ Keeps S w (w4.setCell ⟨bm, 2, none⟩ v')) := by
    intro w4 v' ho hg hat
    have nb : ∀ x t cs, t ≠ 48 → Blk w x t cs → some x ≠ rv.ownBlock := by
      intro x t cs ht hx e
      obtain ⟨cur, hc⟩ := h.retBlk e.symm
      exact Blk.ne_ hx hc ht rfl
    have M4 : Blk w4 bm 51 #[mv, .int .u32 made, rv, .int .i64 fail] := (hg.block bm (by simp; omega) (nb bm _ _ (by decide) h.mem)).trans (M1.alloc _)
    have R4 : Blk w4 r.blk 80 #[.int .i64 r.bytes.length, .int .i64 r.perm, r.sl, .bool true] := (hg.block r.blk (by simp; omega) (nb r.blk _ _ (by decide) (h.regs n r hs).head)).trans (R1.alloc _)
    have K4 : Keeps (fun b => b = bm ∨ b = r.blk ∨ rv.ownBlock = some b) w w4 := (K1.alloc _).grown hg (fun k e => .inl (.inr (.inr e)))
    have hlt4 : ∀ g, v'.ownBlock = some g → g < w4.heap.size := fun g hg' => (ho.lt g hg').2
    have nbm : ∀ g, v'.ownBlock = some g → g ≠ bm := by
      rintro g hg' rfl
      rcases ho.2 with ⟨e, _⟩ | ⟨g', cap, cur, e, _, hb', _⟩
      · rw [e] at hg'; cases hg'
      · have : g' = g := by rw [e] at hg'; simpa [Value.ownBlock] using hg'
        subst this
        exact Blk.ne_ (t := 48) (cs := cur) hb' M4 (by decide) rfl
    have K5 : Keeps (fun b => b = bm ∨ b = r.blk ∨ rv.ownBlock = some b) w (w4.setCell ⟨bm, 2, none⟩ v') := K4.setCell (p := ⟨bm, 2, none⟩) (.inl (.inl rfl)) _
    refine ⟨⟨M4.cell 2, M4.frozen 2⟩, h.retire hs hret K5 (by have := M4.set_ 2 v'; simpa using this) (R4.far (p := ⟨bm, 2, none⟩) hrb _) (ownsRow_block ho (fun g hg' => Below.heap_setCell w4 _ _ g (nbm g hg'))) (fun g hg' => ?_)⟩
    rcases hat with e | e
    · exact .inl (by rw [← e]; exact hg')
    · rw [e] at hg'
      have h5 : g < w4.heap.size := hlt4 g (by rw [e]; exact hg')
      simp at hg'
      refine .inr ⟨by omega, by simp [World.setCell]; omega⟩
  have HO := Lib.hid O1
  have hnew : ∀ j u, [Value.int .u32 (n : Int)][j]? = some u → ((w.setCell ⟨r.blk, 3, none⟩ (.bool true)).alloc (.cells #[.int .u32 (n : Int)] 48)).cell? ((⟨w.heap.size, 0, none⟩ : Addr).add j) = some u := by rw [← hz]; exact cell_one_new _ _ _
  have HNW := Lib.hid hnew
  have HI := Lib.hid (And.intro hi (And.intro hz0 (And.intro hz1 hz2)))
  clear hnew R1 M1 O1 K1 hz hi hz0 hz1 hz2 h hs hret hrt
  generalize r.blk = rb at *
  generalize addr n 0 = a at *
  have hne1 : ¬ bm = rb := fun e => hrb e.symm
  go_enter Try.func39, Try.ntmps39
  go_wp2_with (first
    | (go_at_call 40; refine c.mono ?_; rintro e w' ⟨rfl, rfl⟩)
    | (go_at_call 36; refine cs.mono ?_; rintro e w' ⟨rfl, rfl⟩)
    | (at_builtin; refine wpList_append_own_at _ rfl _ _ 49 rfl 0 48 i0 (.int .u32 0) 1 4 Try.underlying49 HI.out.1 HI.out.2.1 HI.out.2.2.1 HI.out.2.2.2 rfl (by decide) _ _ _ rfl (HO.out.alloc _) ⟨w.heap.size, 0, none⟩ 1 1 [.int .u32 (n : Int)] rfl rfl HNW.out (by simp [Value.oneCell']) (by unfold maxLen; omega) (by omega) (by omega) ?_; intro v' w4 hown4 hgrow4 _ hat4; obtain ⟨⟨k2, k3⟩, hfin⟩ := END.out w4 v' hown4 hgrow4 hat4; obtain ⟨g', cap', rfl⟩ := ownsRow_succ hown4; have HF := Lib.hid hfin; clear hown4 hgrow4 hat4 hfin))
  go_ret
  exact ⟨rfl, _, HF.out⟩
end
end Go.Proofs.Ytdihlmhipkcedaa
