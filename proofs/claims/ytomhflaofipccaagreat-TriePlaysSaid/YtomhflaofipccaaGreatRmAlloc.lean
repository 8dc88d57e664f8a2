/-
  The reference's Alloc.
-/
import Derived.Test.YtomhflaofipccaaGreatP7
namespace Go.Proofs.YtomhflaofipccaaGreat
open Go Go.RowKit Go.Maps
set_option linter.unusedVariables false
theorem infoPR : (Tryz.prog.info? 100).map (fun i => (i.zero, i.size, i.bytes)) = some (some (.pointer none), 1, 8) := by kernel_rfl
section
variable {w w1 w2 : World} {T : Nat → Prop} {bx made fail : Nat} {vs : Nat → Option RV} {rb gb : Nat → Nat} {lv : Value}
theorem RM.refail (h : RM w T bx made fail vs rb gb lv) (n : Nat) (hn : n ≤ 1048576) : RM (w.setCell ⟨bx, 2, none⟩ (.int .i64 (n : Int))) T bx made n vs rb gb lv ∧ Keeps T w (w.setCell ⟨bx, 2, none⟩ (.int .i64 (n : Int))) := by
  have K : Keeps (fun b => b = bx) w (w.setCell ⟨bx, 2, none⟩ (.int .i64 (n : Int))) := Keeps.setCell (S := fun b => b = bx) (p := ⟨bx, 2, none⟩) (Keeps.refl _ w) (.inl rfl) _
  exact ⟨{ head := by have := h.head.set_ 2 (.int .i64 (n : Int)); simpa using this
           row := ownsRow_block h.row (fun g hg => Below.heap_setCell w _ _ g (fun e => h.lv_ne h.head (by decide) (by rw [hg]; exact congrArg some e)))
           range := h.range
           live := fun m q hq => (h.live m q hq).far (p := ⟨bx, 2, none⟩) (Blk.ne_ (h.live m q hq) h.head (by decide)) _
           bytes := fun m q hq => (h.bytes m q hq).far (p := ⟨bx, 2, none⟩) (Blk.ne_ (h.bytes m q hq) h.head (by decide)) _
           sized := h.sized
           dead := fun m h1 h2 h3 => by
             obtain ⟨p, ret, hb⟩ := h.dead m h1 h2 h3
             exact ⟨p, ret, hb.far (p := ⟨bx, 2, none⟩) (Blk.ne_ hb h.head (by decide)) _⟩
           injr := h.injr
           injg := h.injg
           tbx := h.tbx
           trb := h.trb
           tgb := h.tgb
           tlv := h.tlv
           lt := fun b hb => Nat.lt_of_lt_of_le (h.lt b hb) K.size
           made_le := h.made_le
           fail_le := hn }, K.mono (fun b e => e ▸ h.tbx)⟩
theorem xalloc_arg (p : Addr) (size perm : Int) (hb : ¬ (1 ≤ size ∧ size ≤ 1048576 ∧ 1 ≤ perm ∧ perm ≤ 3)) (w : World) :
    Calls Tryz.prog 38 #[.pointer (some p), .int .i64 size, .int .i64 perm] w fun e w' => e = .returned (.tuple #[.int .u64 0, .int .i64 1]) ∧ w = w' := by
  have hc : size < 1 ∨ (1 ≤ size ∧ 1048576 < size) ∨ (1 ≤ size ∧ size ≤ 1048576 ∧ perm < 1) ∨ (1 ≤ size ∧ size ≤ 1048576 ∧ 1 ≤ perm ∧ 3 < perm) := by omega
  clear hb
  rcases hc with h1 | ⟨h1, h2⟩ | ⟨h1, h2, h3⟩ | ⟨h1, h2, h3, h4⟩
  all_goals
    go_enter Tryz.func38, Tryz.ntmps38
    go_wp2
    go_ret2
    exact ⟨rfl, rfl⟩
theorem xalloc_mem (h : RM w T bx made 1 vs rb gb lv) (size perm : Int) (h1 : 1 ≤ size) (h2 : size ≤ 1048576) (h3 : 1 ≤ perm) (h4 : perm ≤ 3) :
    Calls Tryz.prog 38 #[.pointer (some ⟨bx, 0, none⟩), .int .i64 size, .int .i64 perm] w fun e w' => e = .returned (.tuple #[.int .u64 0, .int .i64 2]) ∧ RM w' T bx made 0 vs rb gb lv ∧ Keeps T w w' := by
  have HE := Lib.hid (h.refail 0 (by omega))
  have c2 : w.cell? ⟨bx, 2, none⟩ = some (.int .i64 1) := h.head.cell 2
  have f2 : w.frozen? ⟨bx, 2, none⟩ = false := h.head.frozen 2
  clear h
  go_enter Tryz.func38, Tryz.ntmps38
  go_wp2
  go_ret2
  exact ⟨rfl, HE.out⟩
def putn (f : Nat → Nat) (n x : Nat) : Nat → Nat := fun m => if m = n then x else f m
theorem putn_same (f : Nat → Nat) (n x : Nat) : putn f n x n = x := by simp [putn]
theorem putn_other (f : Nat → Nat) {n m : Nat} (x : Nat) (h : m ≠ n) : putn f n x m = f m := by simp [putn, h]
/-- Where Alloc's new blocks stand. -/
abbrev A1 (w : World) (size : Nat) : World := w.alloc (.cells (Array.replicate size (Value.int .u8 0)) 5)
abbrev A2 (w : World) (size : Nat) (perm : Int) : World := (A1 w size).alloc (.cells #[.slice (some ⟨w.heap.size, 0, none⟩) size size, .int .i64 perm, .bool false] 99)
abbrev A3 (w : World) (size : Nat) (perm : Int) : World := (A2 w size perm).alloc (.cells #[.pointer (some ⟨w.heap.size + 1, 0, none⟩)] 100)
def XAllocPost (w : World) (T : Nat → Prop) (bx made fail : Nat) (vs : Nat → Option RV) (size : Nat) (perm : Int) (w' : World) : Prop :=
  ∃ rb' gb' lv', RM w' (more T w w') bx (made + 1) fail (updv vs (made + 1) (some (perm, List.replicate size 0, false))) rb' gb' lv' ∧ Keeps T w w'
set_option maxRecDepth 100000 in
set_option maxHeartbeats 1000000 in
theorem xalloc_tail (h : RM w T bx made fail vs rb gb lv) (hmade : made < 4095) (size : Nat) (perm : Int) (h1 : 1 ≤ size) (h2 : size ≤ 1048576) (h3 : 1 ≤ perm) (h4 : perm ≤ 3) :
    ∃ g c w4, (∀ ty, (Builtin.append_ #[28, 28] ty #[lv, .slice (some ⟨w.heap.size + 1 + 1, 0, none⟩) 1 1]).run Tryz.prog (A3 w size perm) = .ok (.slice (some ⟨g, 0, none⟩) (made + 1) c) w4) ∧
      w4.cell? ⟨bx, 0, none⟩ = some lv ∧ w4.frozen? ⟨bx, 0, none⟩ = false ∧
      (w4.setCell ⟨bx, 0, none⟩ (.slice (some ⟨g, 0, none⟩) (made + 1) c)).cell? ⟨bx, 1, none⟩ = some (.int .i64 (cnt vs made)) ∧ (w4.setCell ⟨bx, 0, none⟩ (.slice (some ⟨g, 0, none⟩) (made + 1) c)).frozen? ⟨bx, 1, none⟩ = false ∧
      ((w4.setCell ⟨bx, 0, none⟩ (.slice (some ⟨g, 0, none⟩) (made + 1) c)).setCell ⟨bx, 1, none⟩ (.int .i64 ((cnt vs made : Nat) + 1 : Int))).cell? ⟨bx, 0, none⟩ = some (.slice (some ⟨g, 0, none⟩) (made + 1) c) ∧
      XAllocPost w T bx made fail vs size perm ((w4.setCell ⟨bx, 0, none⟩ (.slice (some ⟨g, 0, none⟩) (made + 1) c)).setCell ⟨bx, 1, none⟩ (.int .i64 ((cnt vs made : Nat) + 1 : Int))) := by
  obtain ⟨i0, hi0, hz0, hz1, hz2⟩ := info_parts infoPR
  have O3 : (A3 w size perm).ownsRow 0 100 1 lv made ((List.range made).map fun i => .pointer (some ⟨rb (i + 1), 0, none⟩)) := ((h.row.alloc _).alloc _).alloc _
  obtain ⟨v', w4, hrun, a2, a3, _, a5⟩ := run_append_own_at (P := Tryz.prog) (A3 w size perm) 0 28 0 100 i0 _ 1 8 Tryz.underlying28 hi0 hz0 hz1 hz2 rfl (by decide) lv made _ O3 ⟨w.heap.size + 1 + 1, 0, none⟩ 1 1
    [.pointer (some ⟨w.heap.size + 1, 0, none⟩)] rfl (fun j u hj => by
      have hb := (Blk.new (A2 w size perm) 100 #[.pointer (some ⟨w.heap.size + 1, 0, none⟩)]).cell j
      have e : (A2 w size perm).heap.size = w.heap.size + 1 + 1 := by simp
      rw [e] at hb
      rw [show (⟨w.heap.size + 1 + 1, 0, none⟩ : Addr).add j = ⟨w.heap.size + 1 + 1, j, none⟩ by unfold Addr.add; split <;> simp_all]
      rw [hb]
      simpa using hj) (by intro u hu; simp at hu; subst hu; rfl) (by unfold maxLen; omega) (by omega) (Nat.zero_le _)
  obtain ⟨g, c, rfl⟩ := ownsRow_succ a2
  have sz : (A3 w size perm).heap.size = w.heap.size + 3 := by simp
  have K3 : Keeps (fun _ => False) w (A3 w size perm) := ((Keeps.refl _ w).alloc _).alloc _ |>.alloc _
  have K4 : Keeps (fun b => lv.ownBlock = some b) w w4 := (K3.mono (fun _ h => h.elim)).grown a3 (fun k e => .inl e)
  have M4 : Blk w4 bx 30 #[lv, .int .i64 (cnt vs made), .int .i64 fail] := h.head.keeps K4 (fun e => h.lv_ne h.head (by decide) e)
  have hbx := h.head.lt
  have hsz4 : w.heap.size + 3 ≤ w4.heap.size := by rw [← sz]; exact a3.size
  obtain ⟨v5, hv5⟩ : ∃ v5, v5 = Value.slice (some ⟨g, 0, none⟩) (made + 1) c := ⟨_, rfl⟩
  have hg5 : v5.ownBlock = some g := by rw [hv5]; rfl
  rw [← hv5] at a2 a5 hrun
  have hgb : g ≠ bx := by
    rintro rfl
    rcases a5 with e | e
    · rw [hg5] at e; exact h.lv_ne h.head (by decide) e.symm
    · rw [hg5, sz] at e; cases e; omega
  have M5 : Blk (w4.setCell ⟨bx, 0, none⟩ v5) bx 30 #[v5, .int .i64 (cnt vs made), .int .i64 fail] := by have := M4.set_ 0 v5; simpa using this
  obtain ⟨w6, hw6⟩ : ∃ w6, w6 = (w4.setCell ⟨bx, 0, none⟩ v5).setCell ⟨bx, 1, none⟩ (.int .i64 ((cnt vs made : Nat) + 1 : Int)) := ⟨_, rfl⟩
  have M6 : Blk w6 bx 30 #[v5, .int .i64 ((cnt vs made : Nat) + 1 : Int), .int .i64 fail] := by rw [hw6]; have := M5.set_ 1 (.int .i64 ((cnt vs made : Nat) + 1 : Int)); simpa using this
  have K46 : Keeps (fun b => b = bx) w4 w6 := by rw [hw6]; exact Keeps.setCell (p := ⟨bx, 1, none⟩) (Keeps.setCell (S := fun b => b = bx) (p := ⟨bx, 0, none⟩) (Keeps.refl _ w4) (.inl rfl) _) (.inl rfl) _
  have hsz6 : w4.heap.size ≤ w6.heap.size := K46.size
  have K6 : Keeps (fun b => b = bx ∨ lv.ownBlock = some b) w w6 := (K4.mono (fun b e => .inr e)).trans (K46.mono (fun b e => .inl (.inl e)))
  have hlvlt : ∀ b, lv.ownBlock = some b → b < w.heap.size := fun b e => h.lt b (h.tlv b e)
  have Z3 : Blk (A3 w size perm) w.heap.size 5 (Array.replicate size (Value.int .u8 0)) := ((Blk.new w _ _).alloc _).alloc _
  have R3 : Blk (A3 w size perm) (w.heap.size + 1) 99 #[.slice (some ⟨w.heap.size, 0, none⟩) size size, .int .i64 perm, .bool false] := by
    have := (Blk.new (A1 w size) 99 #[.slice (some ⟨w.heap.size, 0, none⟩) size size, .int .i64 perm, .bool false])
    have e : (A1 w size).heap.size = w.heap.size + 1 := by simp
    rw [e] at this
    exact this.alloc _
  have Z6 : Blk w6 w.heap.size 5 (Array.replicate size (Value.int .u8 0)) := (K46.block _ (by omega) (by omega)).trans ((a3.block _ Z3.lt (fun e => by have := hlvlt _ e.symm; omega)).trans Z3)
  have R6 : Blk w6 (w.heap.size + 1) 99 #[.slice (some ⟨w.heap.size, 0, none⟩) size size, .int .i64 perm, .bool false] := (K46.block _ (by omega) (by omega)).trans ((a3.block _ R3.lt (fun e => by have := hlvlt _ e.symm; omega)).trans R3)
  have O6 : w6.ownsRow 0 100 1 v5 (made + 1) ((List.range made).map (fun i => Value.pointer (some ⟨rb (i + 1), 0, none⟩)) ++ [.pointer (some ⟨w.heap.size + 1, 0, none⟩)]) :=
    ownsRow_block a2 (fun g' hg' => K46.block g' (a2.lt g' hg').2 (fun e => by rw [hg5] at hg'; cases hg'; exact hgb e))
  refine ⟨g, c, w4, fun ty => by rw [← hv5]; exact hrun, M4.cell 0, M4.frozen 0, by rw [← hv5]; exact M5.cell 1, by rw [← hv5]; exact M5.frozen 1, by rw [← hv5, ← hw6]; exact M6.cell 0, ?_⟩
  rw [← hv5, ← hw6]
  have ec : cnt (updv vs (made + 1) (some (perm, List.replicate size 0, false))) (made + 1) = cnt vs made + 1 := by
    rw [cnt_succ, updv_same, cnt_congr (vs := updv vs (made + 1) (some (perm, List.replicate size 0, false))) (vs' := vs) (fun k _ hk => by rw [updv_other _ _ (by omega)])]
    rfl
  have ob : ∀ m p, m ≠ made + 1 → updv vs (made + 1) (some (perm, List.replicate size 0, false)) m = some p → vs m = some p := fun m p hm hp => by rwa [updv_other _ _ hm] at hp
  have notK : ∀ {x : Nat} {t : TypeId} {cs : Array Value}, Blk w x t cs → t ≠ 30 → t ≠ 100 → ¬ (x = bx ∨ lv.ownBlock = some x) := by
    rintro x t cs hx ht1 ht2 (e | e)
    · exact Blk.ne_ hx h.head ht1 e
    · exact h.lv_ne hx ht2 e
  refine ⟨putn rb (made + 1) (w.heap.size + 1), putn gb (made + 1) w.heap.size, v5,
    { head := by rw [ec]; exact M6
      row := by
        have e : (List.range (made + 1)).map (fun i => Value.pointer (some ⟨putn rb (made + 1) (w.heap.size + 1) (i + 1), 0, none⟩)) = (List.range made).map (fun i => Value.pointer (some ⟨rb (i + 1), 0, none⟩)) ++ [.pointer (some ⟨w.heap.size + 1, 0, none⟩)] := by
          rw [List.range_succ, List.map_append]
          congr 1
          · apply List.map_congr_left
            intro i hi
            have := List.mem_range.1 hi
            rw [putn_other _ _ (by omega)]
          · simp [putn_same]
        rw [e]; exact O6
      range := fun m p hp => by
        by_cases hm : m = made + 1
        · omega
        · have := h.range m p (ob m p hm hp); omega
      live := fun m p hp => by
        by_cases hm : m = made + 1
        · subst hm
          rw [updv_same] at hp; cases hp
          rw [putn_same, putn_same]
          simpa using R6
        · rw [putn_other _ _ hm, putn_other _ _ hm]
          exact (h.live m p (ob m p hm hp)).keeps K6 (notK (h.live m p (ob m p hm hp)) (by decide) (by decide))
      bytes := fun m p hp => by
        by_cases hm : m = made + 1
        · subst hm
          rw [updv_same] at hp; cases hp
          rw [putn_same]
          have e : ((List.replicate size (0 : UInt8)).map byteV).toArray = Array.replicate size (Value.int .u8 0) := by
            rw [List.map_replicate]
            apply Array.ext'
            simp [byteV]
          rw [e]; exact Z6
        · rw [putn_other _ _ hm]
          exact (h.bytes m p (ob m p hm hp)).keeps K6 (notK (h.bytes m p (ob m p hm hp)) (by decide) (by decide))
      sized := fun m p hp => by
        by_cases hm : m = made + 1
        · subst hm
          rw [updv_same] at hp; cases hp
          simp only [List.length_replicate]
          exact ⟨by omega, h2, h3, h4⟩
        · exact h.sized m p (ob m p hm hp)
      dead := fun m b1 b2 b3 => by
        by_cases hm : m = made + 1
        · subst hm; rw [updv_same] at b3; cases b3
        · rw [updv_other _ _ hm] at b3
          obtain ⟨p, ret, hd⟩ := h.dead m b1 (by omega) b3
          rw [putn_other _ _ hm]
          exact ⟨p, ret, hd.keeps K6 (notK hd (by decide) (by decide))⟩
      injr := fun m m' b1 b2 b3 b4 e => by
        by_cases hm : m = made + 1 <;> by_cases hm' : m' = made + 1
        · omega
        · subst hm; rw [putn_same, putn_other _ _ hm'] at e
          have := h.lt _ (h.trb m' b3 (by omega)); omega
        · subst hm'; rw [putn_same, putn_other _ _ hm] at e
          have := h.lt _ (h.trb m b1 (by omega)); omega
        · rw [putn_other _ _ hm, putn_other _ _ hm'] at e
          exact h.injr m m' b1 (by omega) b3 (by omega) e
      injg := fun m m' p p' hp hp' e => by
        by_cases hm : m = made + 1 <;> by_cases hm' : m' = made + 1
        · omega
        · subst hm; rw [putn_same, putn_other _ _ hm'] at e
          have := h.lt _ (h.tgb m' p' (ob m' p' hm' hp')); omega
        · subst hm'; rw [putn_same, putn_other _ _ hm] at e
          have := h.lt _ (h.tgb m p (ob m p hm hp)); omega
        · rw [putn_other _ _ hm, putn_other _ _ hm'] at e
          exact h.injg m m' p p' (ob m p hm hp) (ob m' p' hm' hp') e
      tbx := .inl h.tbx
      trb := fun m b1 b2 => by
        by_cases hm : m = made + 1
        · subst hm; rw [putn_same]; exact .inr ⟨by omega, by omega⟩
        · rw [putn_other _ _ hm]; exact .inl (h.trb m b1 (by omega))
      tgb := fun m p hp => by
        by_cases hm : m = made + 1
        · subst hm; rw [putn_same]; exact .inr ⟨by omega, by omega⟩
        · rw [putn_other _ _ hm]; exact .inl (h.tgb m p (ob m p hm hp))
      tlv := fun g' hg' => by
        rcases a5 with e | e
        · rw [e] at hg'; exact .inl (h.tlv g' hg')
        · have hlt := (O6.lt g' hg').2
          rw [e, sz] at hg'; cases hg'
          exact .inr ⟨by omega, hlt⟩
      lt := by
        rintro b (hb | ⟨_, hb⟩)
        · exact Nat.lt_of_lt_of_le (h.lt b hb) K6.size
        · exact hb
      made_le := by omega
      fail_le := h.fail_le }, K6.mono (by
        rintro b (e | e)
        · exact e ▸ h.tbx
        · exact h.tlv b e)⟩
theorem rt2_u64' {a b c : Int} (h : a = b) : Ending.returned (.tuple #[.int .u64 a, .int .i64 c]) = .returned (.tuple #[.int .u64 b, .int .i64 c]) := by rw [h]
theorem RM.drew (h : RM w T bx made fail vs rb gb lv) : RM w.drew T bx made fail vs rb gb lv := h.keeps (U := fun _ => False) (Keeps.refl _ w).drew (fun _ _ h => h)
theorem XAllocPost.from_ {w0 w' : World} {size : Nat} {perm : Int} (h : XAllocPost w0 T bx made fail vs size perm w') (k : Keeps T w w0) (hz : w0.heap.size = w.heap.size) : XAllocPost w T bx made fail vs size perm w' := by
  obtain ⟨rb', gb', lv', hr, kk⟩ := h
  have e : more T w0 w' = more T w w' := by unfold more; rw [hz]
  rw [e] at hr
  exact ⟨rb', gb', lv', hr, k.trans (kk.mono (fun b hb => .inl hb))⟩
set_option maxRecDepth 100000 in
set_option maxHeartbeats 2000000 in
theorem xalloc_zero (h : RM w T bx made 0 vs rb gb lv) (hmade : made < 4095) (size : Nat) (perm : Int) (h1 : 1 ≤ size) (h2 : size ≤ 1048576) (h3 : 1 ≤ perm) (h4 : perm ≤ 3) :
    Calls Tryz.prog 38 #[.pointer (some ⟨bx, 0, none⟩), .int .i64 (size : Int), .int .i64 perm] w fun e w' => e = .returned (.tuple #[.int .u64 (addr (made + 1) 0), .int .i64 0]) ∧ XAllocPost w T bx made 0 vs size perm w' := by
  obtain ⟨g, c, w4, hrun, t1, t2, t3, t4, t5, t6⟩ := xalloc_tail h.drew hmade size perm h1 h2 h3 h4
  have hcl := cnt_le vs made
  have c2 : w.cell? ⟨bx, 2, none⟩ = some (.int .i64 0) := h.head.cell 2
  have c1 : w.cell? ⟨bx, 1, none⟩ = some (.int .i64 (cnt vs made)) := h.head.cell 1
  have c0 : w.cell? ⟨bx, 0, none⟩ = some lv := h.head.cell 0
  have hmk := make_run size h2
  have hlt := h.head.lt
  have HE := Lib.hid (t6.from_ (Keeps.refl T w).drew rfl)
  have hrun' : ∀ ty, (Builtin.append_ #[28, 28] ty #[lv, .slice (some ⟨w.heap.size + 1 + 1, 0, none⟩) 1 1]).run Tryz.prog (A3 w size perm).drew = .ok (.slice (some ⟨g, 0, none⟩) (made + 1) c) w4 := hrun
  have HRUN := Lib.hid hrun'
  clear hrun'
  have k0 := h.head
  have k1 : (w.alloc (.cells (Array.replicate size (Value.int .u8 0)) 5)).cell? ⟨bx, 0, none⟩ = some lv := (k0.alloc _).cell 0
  have k2 : ((w.alloc (.cells (Array.replicate size (Value.int .u8 0)) 5)).alloc (.cells #[.slice (some ⟨w.heap.size, 0, none⟩) size size, .int .i64 perm, .bool false] 99)).cell? ⟨bx, 0, none⟩ = some lv := ((k0.alloc _).alloc _).cell 0
  have k3 : (((w.alloc (.cells (Array.replicate size (Value.int .u8 0)) 5)).alloc (.cells #[.slice (some ⟨w.heap.size, 0, none⟩) size size, .int .i64 perm, .bool false] 99)).alloc (.cells #[.pointer (some ⟨w.heap.size + 1, 0, none⟩)] 100)).cell? ⟨bx, 0, none⟩ = some lv := (((k0.alloc _).alloc _).alloc _).cell 0
  clear k0
  have hneA : bx ≠ w.heap.size := by omega
  have hneB : bx ≠ w.heap.size + 1 := by omega
  have hneC : bx ≠ w.heap.size + 1 + 1 := by omega
  have ha : addr (made + 1) 0 = ((made : Int) + 1) * 4294967296 := by unfold addr; omega
  have HA := Lib.hid ha
  have hne : ((cnt vs made : Nat) : Int) ≠ 4096 := by omega
  generalize cnt vs made = D at *
  clear h hrun t6 ha
  go_enter Tryz.func38, Tryz.ntmps38
  go_wp2_with fail
  go_region_law (refine step_append_run rfl (.tmp 52) (.tmp 58) 28 rfl _ _ (.slice (some ⟨g, 0, none⟩) (made + 1) c) w4 rfl rfl HRUN.out ?_)
  all_goals go_wp2_with fail
  all_goals go_ret2
  all_goals exact ⟨rt2_u64' HA.out.symm, HE.out⟩
set_option maxRecDepth 100000 in
set_option maxHeartbeats 2000000 in
theorem xalloc_more (h : RM w T bx made (fail + 2) vs rb gb lv) (hmade : made < 4095) (size : Nat) (perm : Int) (h1 : 1 ≤ size) (h2 : size ≤ 1048576) (h3 : 1 ≤ perm) (h4 : perm ≤ 3) :
    Calls Tryz.prog 38 #[.pointer (some ⟨bx, 0, none⟩), .int .i64 (size : Int), .int .i64 perm] w fun e w' => e = .returned (.tuple #[.int .u64 (addr (made + 1) 0), .int .i64 0]) ∧ XAllocPost w T bx made (fail + 1) vs size perm w' := by
  have hfl := h.fail_le
  obtain ⟨hr0, k0'⟩ := h.refail (fail + 1) (by omega)
  have d2 : w.cell? ⟨bx, 2, none⟩ = some (.int .i64 ((fail + 2 : Nat) : Int)) := h.head.cell 2
  have df2 : w.frozen? ⟨bx, 2, none⟩ = false := h.head.frozen 2
  have cw1 : w.cell? ⟨bx, 1, none⟩ = some (.int .i64 (cnt vs made)) := h.head.cell 1
  have hsz0 : (w.setCell ⟨bx, 2, none⟩ (.int .i64 ((fail + 1 : Nat) : Int))).heap.size = w.heap.size := by simp [World.setCell]
  obtain ⟨F, hF⟩ : ∃ F : Int, F = ((fail + 2 : Nat) : Int) ∧ 1 < F ∧ F ≤ 1048576 := ⟨_, rfl, by omega, by omega⟩
  obtain ⟨hF0, hF1, hF2⟩ := hF
  have hF3 : F - 1 = ((fail + 1 : Nat) : Int) := by omega
  rw [← hF0] at d2
  have gF : (F == 1) = false := by simp; omega
  have gF2 : decide (0 < F) = true := by simp; omega
  clear hF0
  obtain ⟨w0, hw0⟩ : ∃ w0, w0 = w.setCell ⟨bx, 2, none⟩ (.int .i64 (F - 1)) := ⟨_, rfl⟩
  rw [← hF3, ← hw0] at hr0 k0' hsz0
  have HW0 := Lib.hid hw0
  clear hw0 h
  obtain ⟨FN, hFN⟩ : ∃ FN, FN = fail + 1 := ⟨_, rfl⟩
  rw [← hFN] at hr0 ⊢
  clear hFN hF3
  obtain ⟨g, c, w4, hrun, t1, t2, t3, t4, t5, t6⟩ := xalloc_tail hr0.drew hmade size perm h1 h2 h3 h4
  have H := Lib.hid t6
  have hcl := cnt_le vs made
  have c1 : w0.cell? ⟨bx, 1, none⟩ = some (.int .i64 (cnt vs made)) := hr0.head.cell 1
  have c0 : w0.cell? ⟨bx, 0, none⟩ = some lv := hr0.head.cell 0
  have hmk := make_run size h2
  have hlt := hr0.head.lt
  have HE := Lib.hid (t6.from_ (w := w) k0'.drew hsz0)
  have hrun' : ∀ ty, (Builtin.append_ #[28, 28] ty #[lv, .slice (some ⟨w0.heap.size + 1 + 1, 0, none⟩) 1 1]).run Tryz.prog (A3 w0 size perm).drew = .ok (.slice (some ⟨g, 0, none⟩) (made + 1) c) w4 := hrun
  have HRUN := Lib.hid hrun'
  clear hrun'
  have k0 := hr0.head
  have k1 : (w0.alloc (.cells (Array.replicate size (Value.int .u8 0)) 5)).cell? ⟨bx, 0, none⟩ = some lv := (k0.alloc _).cell 0
  have k2 : ((w0.alloc (.cells (Array.replicate size (Value.int .u8 0)) 5)).alloc (.cells #[.slice (some ⟨w0.heap.size, 0, none⟩) size size, .int .i64 perm, .bool false] 99)).cell? ⟨bx, 0, none⟩ = some lv := ((k0.alloc _).alloc _).cell 0
  have k3 : (((w0.alloc (.cells (Array.replicate size (Value.int .u8 0)) 5)).alloc (.cells #[.slice (some ⟨w0.heap.size, 0, none⟩) size size, .int .i64 perm, .bool false] 99)).alloc (.cells #[.pointer (some ⟨w0.heap.size + 1, 0, none⟩)] 100)).cell? ⟨bx, 0, none⟩ = some lv := (((k0.alloc _).alloc _).alloc _).cell 0
  clear k0
  have hneA : bx ≠ w0.heap.size := by omega
  have hneB : bx ≠ w0.heap.size + 1 := by omega
  have hneC : bx ≠ w0.heap.size + 1 + 1 := by omega
  have ha : addr (made + 1) 0 = ((made : Int) + 1) * 4294967296 := by unfold addr; omega
  have HA := Lib.hid ha
  have hne : ((cnt vs made : Nat) : Int) ≠ 4096 := by omega
  generalize cnt vs made = D at *
  clear hrun t6 ha H hr0 k0' hsz0
  go_enter Tryz.func38, Tryz.ntmps38
  go_wp2_with fail
  rw [← HW0.out]
  go_region_law (refine step_append_run rfl (.tmp 52) (.tmp 58) 28 rfl _ _ (.slice (some ⟨g, 0, none⟩) (made + 1) c) w4 rfl rfl HRUN.out ?_)
  all_goals go_wp2_with fail
  all_goals go_ret2
  all_goals exact ⟨rt2_u64' HA.out.symm, HE.out⟩
end
end Go.Proofs.YtomhflaofipccaaGreat
