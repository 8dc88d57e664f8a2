/-
  Retire: the region lives on until the next Grace. The library's sort of a row that rises already and has fewer than 50 elements: it stays as it is. Grace, where the numbers of the retired regions rise already and are fewer than fifty: these regions are gone.
-/
import Derived.Test.YtbikofedppgblaaGreatQ07
import Derived.Test.YtbikofedppgblaaGreatQ06
import Derived.Outline
namespace Go.Proofs.YtbikofedppgblaaGreat
open Go Go.RowKit Go.Maps
set_option linter.unusedVariables false
section
variable {w w1 w' : World} {S : Nat → Prop} {bm made fail : Nat} {st : Nat → Option RG} {rl : List Nat} {mv rv : Value}
theorem KM.retBlk (h : KM w S bm made fail st rl mv rv) {g : Nat} (hg : rv.ownBlock = some g) : ∃ cur, Blk w g 56 cur := by
  rcases h.ret.2 with ⟨hn, _⟩ | ⟨g', cap, cur, hv, _, hgg, _⟩
  · rw [hn] at hg; cases hg
  · have : g' = g := by rw [hv] at hg; simpa [Value.ownBlock] using hg
    subst this
    exact ⟨cur, hgg⟩
theorem KM.notMap (h : KM w S bm made fail st rl mv rv) {b x : Nat} {t : TypeId} {cs : Array Value} (e : mv = .map (some b)) (hx : Blk w x t cs) : x ≠ b := by
  rintro rfl
  obtain ⟨_, D', ho, _⟩ := h.own e
  obtain ⟨es, clock, h2, _⟩ := ho
  unfold Blk at hx; rw [hx] at h2; cases h2
theorem KM.retire (h : KM w S bm made fail st rl mv rv) {n : Nat} {r : RG} {v' : Value} (hs : st n = some r) (hret : r.ret = false) (k : Keeps (fun b => b = bm ∨ b = r.blk ∨ rv.ownBlock = some b) w w')
    (hm : Blk w' bm 59 #[mv, .int .u32 made, v', .int .i64 fail]) (hr : Blk w' r.blk 175 #[.int .i64 r.bytes.length, .int .i64 r.perm, r.sl, .bool true])
    (ho : w'.ownsRow 0 56 1 v' (rl.length + 1) ((rl.map fun n : Nat => Value.int .u32 (n : Int)) ++ [.int .u32 (n : Int)])) (hat : ∀ g, v'.ownBlock = some g → rv.ownBlock = some g ∨ (w.heap.size ≤ g ∧ g < w'.heap.size)) :
    KM w' (more S w w') bm made fail (upd st n (some { r with ret := true })) (rl ++ [n]) mv v' ∧ Keeps S w w' := by
  have hnrl : n ∉ rl := by
    rw [h.retM]; rintro ⟨r', e1, e2⟩
    rw [hs] at e1; cases e1; rw [hret] at e2; cases e2
  have hR := h.regs n r hs
  have rowok : ∀ m q, st m = some q → ∀ g, q.row = some g → ¬ (g = bm ∨ g = r.blk ∨ rv.ownBlock = some g) := by
    rintro m q hq g hg (e | e | e)
    · exact Blk.ne_ ((h.regs m q hq).rows g hg) h.mem (by decide) e
    · exact Blk.ne_ ((h.regs m q hq).rows g hg) hR.head (by decide) e
    · obtain ⟨cur, hc⟩ := h.retBlk e
      exact Blk.ne_ ((h.regs m q hq).rows g hg) hc (by decide) rfl
  refine ⟨⟨hm, ?_, ?_, ?_, ?_, ?_, by simpa using ho, ?_, ?_, .inl h.sbm, ?_, ?_, ?_, h.made_le, h.fail_le⟩, k.mono ?_⟩
  · rcases h.map with ⟨e, h1⟩ | ⟨b, D, e, hb', ho', hm'⟩
    · rw [h1 n] at hs; cases hs
    · refine .inr ⟨b, D, e, .inl hb', ownsMap_block ho' (k.block b (h.lt b hb') ?_), KM.isMap_upd (b := 0) hm' hs rfl⟩
      rintro (e' | e' | e')
      · exact h.notMap e h.mem e'.symm
      · exact h.notMap e hR.head e'.symm
      · obtain ⟨cur, hc⟩ := h.retBlk e'; exact h.notMap e hc rfl
  · intro m q hq
    by_cases hmn : m = n
    · subst hmn; exact h.range m r hs
    · rw [upd_other _ _ hmn] at hq; exact h.range m q hq
  · intro m q hq
    by_cases hmn : m = n
    · subst hmn; rw [upd_same] at hq; cases hq
      exact ⟨hr, fun g hg => (hR.rows g hg).keeps k (rowok _ r hs g hg), hR.zero, hR.pos, hR.le, hR.p1, hR.p3⟩
    · rw [upd_other _ _ hmn] at hq
      refine (h.regs m q hq).keeps k ?_ (fun g hg => rowok m q hq g hg)
      rintro (e | e | e)
      · exact Blk.ne_ (h.regs m q hq).head h.mem (by decide) e
      · exact hmn (h.inj m n q r hq hs e)
      · obtain ⟨cur, hc⟩ := h.retBlk e
        exact Blk.ne_ (h.regs m q hq).head hc (by decide) rfl
  · intro m m' q q' hq hq' e
    by_cases hmn : m = n <;> by_cases hmn' : m' = n
    · omega
    · subst hmn; rw [upd_same] at hq; rw [upd_other _ _ hmn'] at hq'; cases hq; exact h.inj _ _ r q' hs hq' e
    · subst hmn'; rw [upd_same] at hq'; rw [upd_other _ _ hmn] at hq; cases hq'; exact h.inj _ _ q r hq hs e
    · rw [upd_other _ _ hmn] at hq; rw [upd_other _ _ hmn'] at hq'; exact h.inj _ _ q q' hq hq' e
  · intro m m' q q' g hq hq' e e'
    by_cases hmn : m = n <;> by_cases hmn' : m' = n
    · omega
    · subst hmn; rw [upd_same] at hq; rw [upd_other _ _ hmn'] at hq'; cases hq; exact h.injr _ _ r q' g hs hq' e e'
    · subst hmn'; rw [upd_same] at hq'; rw [upd_other _ _ hmn] at hq; cases hq'; exact h.injr _ _ q r g hq hs e e'
    · rw [upd_other _ _ hmn] at hq; rw [upd_other _ _ hmn'] at hq'; exact h.injr _ _ q q' g hq hq' e e'
  · intro m
    by_cases hmn : m = n
    · subst hmn; rw [upd_same]; simp
    · rw [upd_other _ _ hmn, List.mem_append, h.retM]; simp [hmn]
  · rw [List.nodup_append]
    exact ⟨h.retN, by simp, fun p hp q hq => by simp at hq; subst hq; rintro rfl; exact hnrl hp⟩
  · intro m q hq
    by_cases hmn : m = n
    · subst hmn; rw [upd_same] at hq; cases hq
      exact ⟨.inl (h.sreg _ r hs).1, fun g hg => .inl ((h.sreg _ r hs).2 g hg)⟩
    · rw [upd_other _ _ hmn] at hq
      exact ⟨.inl (h.sreg m q hq).1, fun g hg => .inl ((h.sreg m q hq).2 g hg)⟩
  · intro g hg
    rcases hat g hg with e | e
    · exact .inl (h.srv g e)
    · exact .inr e
  · rintro x (h2 | h2)
    · exact Nat.lt_of_lt_of_le (h.lt x h2) k.size
    · exact h2.2
  · rintro b (e | e | e)
    · subst e; exact h.sbm
    · subst e; exact (h.sreg n r hs).1
    · exact h.srv b e
theorem nodup_le : ∀ (m : Nat) (l : List Nat), l.Nodup → (∀ x ∈ l, 1 ≤ x ∧ x ≤ m) → l.length ≤ m
  | 0, l, _, h => by
    rcases l with _ | ⟨x, r⟩
    · exact Nat.le_refl _
    · have := h x (by simp); omega
  | m + 1, l, hn, h => by
    have h1 := nodup_le m (l.erase (m + 1)) (hn.erase _) (fun x hx => by
      have := h x (List.mem_of_mem_erase hx)
      have hne : x ≠ m + 1 := fun e => by subst e; exact (hn.mem_erase_iff.1 hx).1 rfl
      omega)
    rw [List.length_erase] at h1
    split at h1 <;> omega
theorem KM.retLen (h : KM w S bm made fail st rl mv rv) : rl.length ≤ made :=
  nodup_le made rl h.retN (fun x hx => by obtain ⟨r, hr, _⟩ := (h.retM x).1 hx; exact h.range x r hr)
set_option maxRecDepth 100000 in
set_option maxHeartbeats 1000000 in
theorem retire_ok (h : KM w S bm made fail st rl mv rv) (n : Nat) {r : RG} (hs : st n = some r) (hret : r.ret = false) :
    Calls Tryz.prog 113 #[.pointer (some ⟨bm, 0, none⟩), .int .u64 (addr n 0)] w fun e w' => e = .returned (.int .i64 0) ∧ ∃ v', KM w' (more S w w') bm made fail (upd st n (some { r with ret := true })) (rl ++ [n]) mv v' ∧ Keeps S w w' := by
  obtain ⟨h0, hm⟩ := h.range n r hs
  have hle := h.made_le
  have hn : n ≤ 4294967295 := by omega
  have hrl := h.retLen
  obtain ⟨i0, hi, hz0, hz1, hz2⟩ := info_parts info32
  have c := beginsAt_at h n hn
  rw [hs] at c
  change Calls _ _ _ _ (fun e w' => e = Ending.returned (Value.pointer (some ⟨r.blk, 0, none⟩)) ∧ w = w') at c
  have cs := split_any n 0 hn (by omega) w
  have d3 : w.cell? ⟨r.blk, 3, none⟩ = some (.bool r.ret) := (h.regs n r hs).head.cell 3
  rw [hret] at d3
  have f3 := (h.regs n r hs).head.frozen 3
  have hrbl := (h.regs n r hs).head.lt
  have hbl := h.mem.lt
  have hrb : r.blk ≠ bm := Blk.ne_ (h.regs n r hs).head h.mem (by decide)
  have c2 : w.cell? ⟨bm, 2, none⟩ = some rv := h.mem.cell 2
  -- what the writes leave
  have R1 : Blk (w.setCell ⟨r.blk, 3, none⟩ (.bool true)) r.blk 175 #[.int .i64 r.bytes.length, .int .i64 r.perm, r.sl, .bool true] := by
    have := (h.regs n r hs).head.set_ 3 (.bool true); simpa using this
  have M1 : Blk (w.setCell ⟨r.blk, 3, none⟩ (.bool true)) bm 59 #[mv, .int .u32 made, rv, .int .i64 fail] := h.mem.far (p := ⟨r.blk, 3, none⟩) (Ne.symm hrb) _
  have O1 : (w.setCell ⟨r.blk, 3, none⟩ (.bool true)).ownsRow 0 56 1 rv rl.length (rl.map fun n : Nat => Value.int .u32 (n : Int)) := ownsRow_block h.ret (fun g hg => Below.heap_setCell w _ _ g (by
    obtain ⟨cur, hc⟩ := h.retBlk hg
    exact Blk.ne_ hc (h.regs n r hs).head (by decide)))
  have K1 : Keeps (fun b => b = bm ∨ b = r.blk ∨ rv.ownBlock = some b) w (w.setCell ⟨r.blk, 3, none⟩ (.bool true)) := Keeps.setCell (S := fun b => b = bm ∨ b = r.blk ∨ rv.ownBlock = some b) (p := ⟨r.blk, 3, none⟩) (Keeps.refl _ w) (.inl (.inr (.inl rfl))) _
  have hz : (w.setCell ⟨r.blk, 3, none⟩ (.bool true)).heap.size = w.heap.size := by simp [World.setCell]
  have hrt : ∀ x y, rv.ownBlock = some x → Blk w x 56 y → True := fun _ _ _ _ => trivial
  have END : Hid (∀ (w4 : World) (v' : Value), w4.ownsRow 0 56 1 v' (rl.length + 1) ((rl.map fun n : Nat => Value.int .u32 (n : Int)) ++ [.int .u32 (n : Int)]) → ((w.setCell ⟨r.blk, 3, none⟩ (.bool true)).alloc (.cells #[.int .u32 (n : Int)] 56)).grownBy w4 rv.ownBlock →
      (v'.ownBlock = rv.ownBlock ∨ v'.ownBlock = some ((w.setCell ⟨r.blk, 3, none⟩ (.bool true)).alloc (.cells #[.int .u32 (n : Int)] 56)).heap.size) →
      (w4.cell? ⟨bm, 2, none⟩ = some rv ∧ w4.frozen? ⟨bm, 2, none⟩ = false) ∧ KM (w4.setCell ⟨bm, 2, none⟩ v') (more S w (w4.setCell ⟨bm, 2, none⟩ v')) bm made fail (upd st n (some { r with ret := true })) (rl ++ [n]) mv v' ∧ Keeps S w (w4.setCell ⟨bm, 2, none⟩ v')) := by
    intro w4 v' ho hg hat
    have nb : ∀ x t cs, t ≠ 56 → Blk w x t cs → some x ≠ rv.ownBlock := by
      intro x t cs ht hx e
      obtain ⟨cur, hc⟩ := h.retBlk e.symm
      exact Blk.ne_ hx hc ht rfl
    have M4 : Blk w4 bm 59 #[mv, .int .u32 made, rv, .int .i64 fail] := (hg.block bm (by simp; omega) (nb bm _ _ (by decide) h.mem)).trans (M1.alloc _)
    have R4 : Blk w4 r.blk 175 #[.int .i64 r.bytes.length, .int .i64 r.perm, r.sl, .bool true] := (hg.block r.blk (by simp; omega) (nb r.blk _ _ (by decide) (h.regs n r hs).head)).trans (R1.alloc _)
    have K4 : Keeps (fun b => b = bm ∨ b = r.blk ∨ rv.ownBlock = some b) w w4 := (K1.alloc _).grown hg (fun k e => .inl (.inr (.inr e)))
    have hlt4 : ∀ g, v'.ownBlock = some g → g < w4.heap.size := fun g hg' => (ho.lt g hg').2
    have nbm : ∀ g, v'.ownBlock = some g → g ≠ bm := by
      rintro g hg' rfl
      rcases ho.2 with ⟨e, _⟩ | ⟨g', cap, cur, e, _, hb', _⟩
      · rw [e] at hg'; cases hg'
      · have : g' = g := by rw [e] at hg'; simpa [Value.ownBlock] using hg'
        subst this
        exact Blk.ne_ (t := 56) (cs := cur) hb' M4 (by decide) rfl
    have K5 : Keeps (fun b => b = bm ∨ b = r.blk ∨ rv.ownBlock = some b) w (w4.setCell ⟨bm, 2, none⟩ v') := K4.setCell (p := ⟨bm, 2, none⟩) (.inl (.inl rfl)) _
    refine ⟨⟨M4.cell 2, M4.frozen 2⟩, h.retire hs hret K5 (by have := M4.set_ 2 v'; simpa using this) (R4.far (p := ⟨bm, 2, none⟩) hrb _) (ownsRow_block ho (fun g hg' => Below.heap_setCell w4 _ _ g (nbm g hg'))) (fun g hg' => ?_)⟩
    rcases hat with e | e
    · exact .inl (by rw [← e]; exact hg')
    · rw [e] at hg'
      have h5 : g < w4.heap.size := hlt4 g (by rw [e]; exact hg')
      simp at hg'
      refine .inr ⟨by omega, by simp [World.setCell]; omega⟩
  have HO := Lib.hid O1
  have hnew : ∀ j u, [Value.int .u32 (n : Int)][j]? = some u → ((w.setCell ⟨r.blk, 3, none⟩ (.bool true)).alloc (.cells #[.int .u32 (n : Int)] 56)).cell? ((⟨w.heap.size, 0, none⟩ : Addr).add j) = some u := by rw [← hz]; exact cell_one_new _ _ _
  have HNW := Lib.hid hnew
  have HI := Lib.hid (And.intro hi (And.intro hz0 (And.intro hz1 hz2)))
  clear hnew R1 M1 O1 K1 hz hi hz0 hz1 hz2 h hs hret hrt
  generalize r.blk = rb at *
  generalize addr n 0 = a at *
  have hne1 : ¬ bm = rb := fun e => hrb e.symm
  go_enter Tryz.func113, Tryz.ntmps113
  go_wp2_with (first
    | (go_at_call 138; refine c.mono ?_; rintro e w' ⟨rfl, rfl⟩)
    | (go_at_call 139; refine cs.mono ?_; rintro e w' ⟨rfl, rfl⟩)
    | (at_builtin; refine wpList_append_own_at _ rfl _ _ 57 rfl 0 56 i0 (.int .u32 0) 1 4 Tryz.underlying57 HI.out.1 HI.out.2.1 HI.out.2.2.1 HI.out.2.2.2 rfl (by decide) _ _ _ rfl (HO.out.alloc _) ⟨w.heap.size, 0, none⟩ 1 1 [.int .u32 (n : Int)] rfl rfl HNW.out (by simp [Value.oneCell']) (by unfold maxLen; omega) (by omega) (by omega) ?_; intro v' w4 hown4 hgrow4 _ hat4; obtain ⟨⟨k2, k3⟩, hfin⟩ := END.out w4 v' hown4 hgrow4 hat4; obtain ⟨g', cap', rfl⟩ := ownsRow_succ hown4; have HF := Lib.hid hfin; clear hown4 hgrow4 hat4 hfin))
  go_ret
  exact ⟨rfl, _, HF.out⟩
end
end Go.Proofs.YtbikofedppgblaaGreat
namespace Go.Proofs.YtbikofedppgblaaGreat
open Go Go.RowKit Go.Maps
set_option linter.unusedVariables false

/-- d rises. -/
def Rises (d : Array Nat) : Prop := ∀ i j, i ≤ j → j < d.size → ¬ d[j]! < d[i]!
theorem insInner_asc {d : Array Nat} (h : Rises d) (a k : Nat) (hk : k < d.size) : Sort.insInner ltN a k d = d :=
  insInner_stop a k d (.inr (.inr (h (k - 1) k (by omega) hk)))
theorem insOuter_asc {d : Array Nat} (h : Rises d) (a b : Nat) (hb : b ≤ d.size) : ∀ (m i : Nat), b - i ≤ m → Sort.insOuter ltN a b i d = d
  | 0, i, hm => by rw [Sort.insOuter, if_neg (by omega)]
  | m + 1, i, hm => by
    rw [Sort.insOuter]
    split
    · rw [insInner_asc h a i (by omega)]; exact insOuter_asc h a b hb m (i + 1) (by omega)
    · rfl
theorem order2_asc {d : Array Nat} (h : Rises d) (a b c : Nat) (hab : a ≤ b) (hb : b < d.size) : Sort.order2 ltN d a b c = (a, b, c) := by
  rw [Sort.order2, if_neg (by simpa [ltN] using h a b hab hb)]
theorem choosePivot_asc {d : Array Nat} (h : Rises d) (a b : Nat) (hab : a + 12 < b) (hb : b ≤ d.size) (h50 : b - a < 50) : (Sort.choosePivot ltN d a b).2 = .increasing := by
  have hp := choosePivot_eq d a b _ rfl
  rw [if_pos (by omega), if_neg (by omega)] at hp
  have hm : (Sort.median ltN d (a + (b - a) / 4 * 1) (a + (b - a) / 4 * 2) (a + (b - a) / 4 * 3) 0).2 = 0 := by
    unfold Sort.median
    have o1 := order2_asc h (a + (b - a) / 4 * 1) (a + (b - a) / 4 * 2) 0 (by omega) (by omega)
    have o2 := order2_asc h (a + (b - a) / 4 * 2) (a + (b - a) / 4 * 3) 0 (by omega) (by omega)
    simp only [o1, o2]
  rw [hp, hm]
  rfl
theorem bitLen_bd (n : Nat) (h0 : 0 < n) (h : n < 50) : 0 < Lib.bitLen n ∧ Lib.bitLen n ≤ 64 := by
  have : ∀ k : Fin 50, 0 < k.val → 0 < Lib.bitLen k.val ∧ Lib.bitLen k.val ≤ 64 := by decide
  exact this ⟨n, h⟩ h0
end Go.Proofs.YtbikofedppgblaaGreat
namespace Go.Proofs.YtbikofedppgblaaGreat
open Go Go.RowKit Go.Maps
set_option linter.unusedVariables false
def dels (st : Nat → Option RG) (l : List Nat) : Nat → Option RG := fun n => if n ∈ l then none else st n
theorem dels_nil (st : Nat → Option RG) : dels st [] = st := by funext n; simp [dels]
theorem dels_succ (st : Nat → Option RG) (l : List Nat) (j : Nat) (hj : j < l.length) : upd (dels st (l.take j)) l[j] none = dels st (l.take (j + 1)) := by
  funext n
  have hm : n ∈ l.take (j + 1) ↔ (n ∈ l.take j ∨ n = l[j]) := by
    rw [List.take_succ_eq_append_getElem hj, List.mem_append, List.mem_singleton]
  unfold upd dels
  by_cases h : n = l[j]
  · rw [if_pos h, if_pos (hm.2 (.inr h))]
  · rw [if_neg h]
    by_cases h2 : n ∈ l.take j
    · rw [if_pos h2, if_pos (hm.2 (.inl h2))]
    · rw [if_neg h2, if_neg (fun hh => (hm.1 hh).elim h2 h)]
section
variable {w w1 w2 : World} {S : Nat → Prop} {bm made fail : Nat} {st : Nat → Option RG} {rl : List Nat} {mv rv : Value}
theorem KM.graced (h : KM w S bm made fail st rl mv rv) {b : Nat} {D : DataW Value} (hmv : mv = .map (some b)) (k : Keeps (fun x => x = b ∨ x = bm ∨ rv.ownBlock = some x) w w2)
    (hm : Blk w2 bm 59 #[mv, .int .u32 made, .slice none 0 0, .int .i64 fail]) (hown : w2.ownsMap Tryz.prog 56 heldV b made D) (hd : MapOf D (dels st rl)) :
    KM w2 (more S w w2) bm made fail (dels st rl) [] mv (.slice none 0 0) ∧ Keeps S w w2 := by
  have hb : S b := (h.own hmv).1
  have sub : ∀ m q, dels st rl m = some q → m ∉ rl ∧ st m = some q := by
    intro m q hq
    unfold dels at hq
    split at hq
    · cases hq
    · exact ⟨‹_›, hq⟩
  refine ⟨⟨hm, .inr ⟨b, D, hmv, .inl hb, hown, hd⟩, fun m q hq => h.range m q (sub m q hq).2, fun m q hq => ?_, fun m m' q q' hq hq' e => h.inj m m' q q' (sub m q hq).2 (sub m' q' hq').2 e,
    fun m m' q q' g hq hq' e e' => h.injr m m' q q' g (sub m q hq).2 (sub m' q' hq').2 e e', World.ownsRow_nil _ _ _ _, fun m => ?_, List.nodup_nil, .inl h.sbm, fun m q hq => ⟨.inl (h.sreg m q (sub m q hq).2).1, fun g hg => .inl ((h.sreg m q (sub m q hq).2).2 g hg)⟩,
    fun g hg => (by cases hg), ?_, h.made_le, h.fail_le⟩, k.mono ?_⟩
  · have hr := h.regs m q (sub m q hq).2
    refine hr.keeps k ?_ (fun g hg => ?_)
    · rintro (e | e | e)
      · exact h.notMap hmv hr.head e
      · exact Blk.ne_ hr.head h.mem (by decide) e
      · obtain ⟨cur, hc⟩ := h.retBlk e
        exact Blk.ne_ hr.head hc (by decide) rfl
    · rintro (e | e | e)
      · exact h.notMap hmv (hr.rows g hg) e
      · exact Blk.ne_ (hr.rows g hg) h.mem (by decide) e
      · obtain ⟨cur, hc⟩ := h.retBlk e
        exact Blk.ne_ (hr.rows g hg) hc (by decide) rfl
  · constructor
    · intro h0; cases h0
    · rintro ⟨r, hr, ht⟩
      obtain ⟨h1, h2⟩ := sub m r hr
      exact absurd ((h.retM m).2 ⟨r, h2, ht⟩) h1
  · rintro x (h2 | h2)
    · exact Nat.lt_of_lt_of_le (h.lt x h2) k.size
    · exact h2.2
  · rintro x (e | e | e)
    · exact e ▸ hb
    · exact e ▸ h.sbm
    · exact h.srv x e
/-- Behind the sort, j numbers deleted. -/
structure GAt (w : World) (g b bm made fail : Nat) (cap : Nat) (rl : List Nat) (st : Nat → Option RG) (j : Nat) (wr : World) : Prop where
  keep : Keeps (fun x => x = b ∨ x = g) w wr
  mem : Blk wr bm 59 #[.map (some b), .int .u32 made, .slice (some ⟨g, 0, none⟩) rl.length cap, .int .i64 fail]
  own : ∃ D, wr.ownsMap Tryz.prog 56 heldV b made D ∧ MapOf D (dels st (rl.take j))
  cells : ∀ i, (hi : i < rl.length) → wr.cell? ⟨g, i, none⟩ = some (.int .u32 (rl[i] : Int))
theorem GAt.drew {g b cap j : Nat} {wr : World} (h : GAt w g b bm made fail cap rl st j wr) : GAt w g b bm made fail cap rl st j wr.drew := ⟨h.keep.drew, h.mem, by obtain ⟨D, ho, hd⟩ := h.own; exact ⟨D, ho.drew, hd⟩, h.cells⟩
theorem GAt.del {g b cap j : Nat} {wr : World} (h : GAt w g b bm made fail cap rl st j wr) (hgb : g ≠ b) (hmb : bm ≠ b) (hgl : g < wr.heap.size) (hml : bm < wr.heap.size) (hj : j < rl.length) (hn : rl[j] ≤ 4294967295) :
    ∃ w2, (∀ ty, (Builtin.delete_ #[55, 56] ty #[.map (some b), .int .u32 (rl[j] : Int)]).run Tryz.prog wr = .ok (.tuple #[]) w2) ∧ GAt w g b bm made fail cap rl st (j + 1) w2 := by
  obtain ⟨D, ho, hd⟩ := h.own
  obtain ⟨w2, hrun, hown, hturn⟩ := ho.drop law32 Tryz.underlying55 (key32 hn) 0
  have hG := hturn.grown
  refine ⟨w2, fun ty => hrun, ⟨h.keep.grown hG (fun k e => .inl (.inl (by simpa using e.symm))), (hG.block bm hml (by simpa using hmb)).trans h.mem, ⟨D.del _, hown, ?_⟩, fun i hi => ?_⟩⟩
  · rw [← dels_succ st rl j hj]; exact hd.del _
  · exact (World.cell?_of_block (w := wr) (a := ⟨g, i, none⟩) (hG.block g hgl (by simpa using hgb))).trans (h.cells i hi)
end
end Go.Proofs.YtbikofedppgblaaGreat
