/-
  The functions that lead to a region's bytes (all, find), and the ones that make regions (Alloc). find: the bytes at an address, or the fault.
-/
import Derived.Test.YtbikofedppgblaaGreatQ01
import Derived.Lib.SliceRun
namespace Go.Proofs.YtbikofedppgblaaGreat
open Go Go.RowKit Go.Maps
set_option linter.unusedVariables false

theorem info8 : (Tryz.prog.info? 5).map (fun i => (i.zero, i.size, i.bytes)) = some (some (.int .u8 0), 1, 1) := by kernel_rfl
theorem make_run (n : Nat) (hn : n ≤ 1048576) (w : World) :
    (Instr.makeSlice 67 (.int .i64 (n : Int)) (.int .i64 (n : Int))).run Tryz.prog w = .ok (.slice (some ⟨w.heap.size, 0, none⟩) n n) (w.alloc (.cells (Array.replicate n (Value.int .u8 0)) 5)) := by
  obtain ⟨i, hi, hz, hsz, hby⟩ := info_parts info8
  have h := run_make (P := Tryz.prog) w 67 5 i (.int .u8 0) Tryz.underlying67 hi hz .i64 .i64 n n (by omega) (Int.le_refl _) (by rw [hby]; omega) (by omega)
  have e : (madeCells (Value.int .u8 0).cells n) = (Array.replicate n (Value.int .u8 0)) := by
    rw [← Array.toList_inj]
    have := toList_madeCells_one (.int .u8 0) n
    simpa [Value.cells] using this
  simpa [hsz, e] using h

section
variable {w : World} {S : Nat → Prop} {bm made fail : Nat} {st : Nat → Option RG} {rl : List Nat} {mv rv : Value}
theorem KM.isMap_upd {b n : Nat} {D : DataW Value} {r r' : RG} (hm : MapOf D st) (hs : st n = some r) (hb : r'.blk = r.blk) : MapOf D (upd st n (some r')) where
  isMap := hm.isMap
  at_ k := by
    by_cases hk : k = n
    · subst hk; rw [hm.at_, hs, upd_same]; simp [ptrOf, hb]
    · rw [hm.at_, upd_other _ _ hk]
  has_ k := by
    by_cases hk : k = n
    · subst hk; rw [hm.has_, hs, upd_same]; rfl
    · rw [hm.has_, upd_other _ _ hk]

/-- One region, which keeps its struct's block, holds something else; nothing else has turned. -/
theorem KM.region (h : KM w S bm made fail st rl mv rv) {n : Nat} {r r' : RG} (hs : st n = some r) {w' : World} {T : Nat → Prop} (k : Keeps T w w')
    (hb : r'.blk = r.blk) (hret : r'.ret = r.ret) (hT : ∀ b, S b → T b → b = r.blk ∨ r.row = some b) (hat : r'.At w')
    (hrow : ∀ g, r'.row = some g → r.row = some g ∨ (w.heap.size ≤ g ∧ g < w'.heap.size)) :
    KM w' (more S w w') bm made fail (upd st n (some r')) rl mv rv where
  mem := h.mem.keeps k (fun ht => by
    rcases hT bm h.sbm ht with e | e
    · exact Blk.ne_ h.mem (h.regs n r hs).head (by decide) e
    · exact Blk.ne_ h.mem ((h.regs n r hs).rows _ e) (by decide) rfl)
  map := by
    rcases h.map with ⟨e, h1⟩ | ⟨b, D, e, hb', ho, hm⟩
    · rw [h1 n] at hs; cases hs
    · refine .inr ⟨b, D, e, .inl hb', ownsMap_block ho (k.block b (h.lt b hb') (fun ht => ?_)), KM.isMap_upd (b := 0) hm hs hb⟩
      obtain ⟨es, clock, h1, _⟩ := ho
      rcases hT b hb' ht with e | e
      · subst e; have h2 := (h.regs n r hs).head; unfold Blk at h2; rw [h2] at h1; cases h1
      · have h2 := (h.regs n r hs).rows _ e; unfold Blk at h2; rw [h2] at h1; cases h1
  range m q hq := by
    by_cases hm : m = n
    · subst hm; exact h.range m r hs
    · rw [upd_other _ _ hm] at hq; exact h.range m q hq
  regs m q hq := by
    by_cases hm : m = n
    · subst hm; rw [upd_same] at hq; cases hq; exact hat
    · rw [upd_other _ _ hm] at hq
      refine (h.regs m q hq).keeps k (fun ht => ?_) (fun g hg ht => ?_)
      · rcases hT _ (h.sreg m q hq).1 ht with e | e
        · exact hm (h.inj m n q r hq hs e)
        · exact Blk.ne_ (h.regs m q hq).head ((h.regs n r hs).rows _ e) (by decide) rfl
      · rcases hT _ ((h.sreg m q hq).2 g hg) ht with e | e
        · exact Blk.ne_ ((h.regs m q hq).rows g hg) (h.regs n r hs).head (by decide) e
        · exact hm (h.injr m n q r g hq hs hg e)
  inj m m' q q' hq hq' e := by
    by_cases hm : m = n <;> by_cases hm' : m' = n
    · omega
    · subst hm; rw [upd_same] at hq; rw [upd_other _ _ hm'] at hq'; cases hq; exact h.inj _ _ r q' hs hq' (by rw [← hb]; exact e)
    · subst hm'; rw [upd_same] at hq'; rw [upd_other _ _ hm] at hq; cases hq'; exact h.inj _ _ q r hq hs (by rw [← hb]; exact e)
    · rw [upd_other _ _ hm] at hq; rw [upd_other _ _ hm'] at hq'; exact h.inj _ _ q q' hq hq' e
  injr m m' q q' g hq hq' e e' := by
    by_cases hm : m = n <;> by_cases hm' : m' = n
    · omega
    · subst hm; rw [upd_same] at hq; rw [upd_other _ _ hm'] at hq'; cases hq
      rcases hrow g e with h1 | ⟨h1, _⟩
      · exact h.injr _ _ r q' g hs hq' h1 e'
      · have := h.lt g ((h.sreg _ _ hq').2 g e'); omega
    · subst hm'; rw [upd_same] at hq'; rw [upd_other _ _ hm] at hq; cases hq'
      rcases hrow g e' with h1 | ⟨h1, _⟩
      · exact h.injr _ _ q r g hq hs e h1
      · have := h.lt g ((h.sreg _ _ hq).2 g e); omega
    · rw [upd_other _ _ hm] at hq; rw [upd_other _ _ hm'] at hq'; exact h.injr _ _ q q' g hq hq' e e'
  ret := ownsRow_block h.ret (fun g hg => k.block g (h.lt g (h.srv g hg)) (fun ht => by
    rcases h.ret.2 with ⟨hn, _⟩ | ⟨g', cap, cur, hv, _, hgg, _⟩
    · rw [hn] at hg; cases hg
    · have : g' = g := by rw [hv] at hg; simpa [Value.ownBlock] using hg
      subst this
      rcases hT _ (h.srv _ hg) ht with e | e
      · exact Blk.ne_ (t := 56) (cs := cur) hgg (h.regs n r hs).head (by decide) e
      · exact Blk.ne_ (t := 56) (cs := cur) hgg ((h.regs n r hs).rows _ e) (by decide) rfl))
  retM m := by
    rw [h.retM]
    by_cases hm : m = n
    · subst hm; rw [upd_same]; simp [hs, hret]
    · rw [upd_other _ _ hm]
  retN := h.retN
  sbm := .inl h.sbm
  sreg m q hq := by
    by_cases hm : m = n
    · subst hm; rw [upd_same] at hq; cases hq
      refine ⟨.inl (by rw [hb]; exact (h.sreg _ r hs).1), fun g hg => ?_⟩
      rcases hrow g hg with h1 | h1
      · exact .inl ((h.sreg _ r hs).2 g h1)
      · exact .inr h1
    · rw [upd_other _ _ hm] at hq
      exact ⟨.inl (h.sreg m q hq).1, fun g hg => .inl ((h.sreg m q hq).2 g hg)⟩
  srv g hg := .inl (h.srv g hg)
  lt b hb := by
    rcases hb with h1 | h1
    · exact Nat.lt_of_lt_of_le (h.lt b h1) k.size
    · exact h1.2
  made_le := h.made_le
  fail_le := h.fail_le

/-- What 'all' leaves: the region's row g is there. -/
def AllPost (w : World) (S : Nat → Prop) (bm made fail : Nat) (st : Nat → Option RG) (rl : List Nat) (mv rv : Value) (n : Nat) (r : RG) (w' : World) (g : Nat) : Prop :=
  KM w' (more S w w') bm made fail (upd st n (some { r with row := some g })) rl mv rv ∧ Keeps S w w' ∧ S r.blk
theorem upd_id (n : Nat) {r : RG} (hs : st n = some r) : upd st n (some r) = st := by
  funext k
  by_cases hk : k = n
  · subst hk; rw [upd_same, hs]
  · rw [upd_other _ _ hk]
theorem all_any (h : KM w S bm made fail st rl mv rv) (n : Nat) {r : RG} (hs : st n = some r) :
    Calls Tryz.prog 147 #[.pointer (some ⟨r.blk, 0, none⟩)] w fun e w' =>
      ∃ g : Nat, e = .returned (.slice (some ⟨g, 0, none⟩) r.bytes.length r.bytes.length) ∧ AllPost w S bm made fail st rl mv rv n r w' g := by
  have hr := h.regs n r hs
  rcases hrow : r.row with _ | g
  · have c2 : w.cell? ⟨r.blk, 2, none⟩ = some (.slice none 0 0) := by have := hr.head.cell 2; simpa [RG.sl, hrow] using this
    have c0 : w.cell? ⟨r.blk, 0, none⟩ = some (.int .i64 r.bytes.length) := hr.head.cell 0
    have f2 : w.frozen? ⟨r.blk, 2, none⟩ = false := hr.head.frozen 2
    have hlt := hr.head.lt
    have hm := make_run r.bytes.length hr.le
    have key : ∀ w', w' = (w.setCell ⟨r.blk, 2, none⟩ (.slice (some ⟨w.heap.size, 0, none⟩) r.bytes.length r.bytes.length)).alloc (.cells (Array.replicate r.bytes.length (Value.int .u8 0)) 5) →
        AllPost w S bm made fail st rl mv rv n r w' w.heap.size := by
      rintro w' hw
      have k0 : Keeps (fun b => b = r.blk) w w' := by rw [hw]; exact (Keeps.setCell (S := fun b => b = r.blk) (p := ⟨r.blk, 2, none⟩) (Keeps.refl _ w) (.inl rfl) _).alloc _
      refine ⟨h.region hs k0 rfl rfl (fun b _ hb => .inl hb) ⟨?_, ?_, ?_, hr.pos, hr.le, hr.p1, hr.p3⟩ ?_, k0.mono (fun b hb => by subst hb; exact (h.sreg n r hs).1), (h.sreg n r hs).1⟩
      · have := (hr.head.set_ 2 (.slice (some ⟨w.heap.size, 0, none⟩) r.bytes.length r.bytes.length)).alloc (.cells (Array.replicate r.bytes.length (Value.int .u8 0)) 5)
        rw [hw]
        simpa [RG.sl] using this
      · intro g hg
        simp at hg
        subst hg
        have := Blk.new (w.setCell ⟨r.blk, 2, none⟩ (.slice (some ⟨w.heap.size, 0, none⟩) r.bytes.length r.bytes.length)) 5 (Array.replicate r.bytes.length (Value.int .u8 0))
        have e : r.bytes.map byteV = List.replicate r.bytes.length (Value.int .u8 0) := by rw [hr.zero hrow]; simp [byteV]
        rw [hw]
        simpa [e, World.setCell] using this
      · intro h0; simp at h0
      · intro g hg
        simp at hg
        subst hg
        exact .inr ⟨Nat.le_refl _, by rw [hw]; simp [World.setCell]⟩
    clear h hr
    have hsz : r.blk ≠ w.heap.size := by omega
    generalize r.blk = rb at c0 c2 f2 hlt hsz key ⊢
    generalize r.bytes.length = len at c0 c2 f2 hlt key hm ⊢
    have K := Lib.hid key; clear key
    have HN := Lib.hid hs; clear hs
    have HR := Lib.hid hrow; clear hrow
    have hq := fun (w : World) a n c => Lib.run_eql_slice_nil (P := Tryz.prog) w 67 5 a n c 0 0 Tryz.underlying67
    go_enter Tryz.func147, Tryz.ntmps147
    go_wp2
    go_ret
    exact ⟨_, rfl, K.out _ rfl⟩
  · have c2 : w.cell? ⟨r.blk, 2, none⟩ = some (.slice (some ⟨g, 0, none⟩) r.bytes.length r.bytes.length) := by have := hr.head.cell 2; simpa [RG.sl, hrow] using this
    have key : AllPost w S bm made fail st rl mv rv n r w g := by
      refine ⟨?_, Keeps.refl _ _, (h.sreg n r hs).1⟩
      have : ({ r with row := some g } : RG) = r := by rw [← hrow]
      rw [this, upd_id n hs]
      exact h.same
    clear h hr
    generalize r.blk = rb at c2 ⊢
    generalize r.bytes.length = len at c2 ⊢
    have K := Lib.hid key; clear key
    have HN := Lib.hid hs; clear hs
    have HR := Lib.hid hrow; clear hrow
    have hq := fun (w : World) a n c => Lib.run_eql_slice_nil (P := Tryz.prog) w 67 5 a n c 0 0 Tryz.underlying67
    go_enter Tryz.func147, Tryz.ntmps147
    go_wp2
    go_ret
    exact ⟨g, rfl, K.out⟩
end
end Go.Proofs.YtbikofedppgblaaGreat
namespace Go.Proofs.YtbikofedppgblaaGreat
open Go Go.RowKit Go.Maps
set_option linter.unusedVariables false
theorem ret_sl {A : Option Addr} {n c n' c' : Nat} {z : Int} (h : n = n') (h' : c = c') : Ending.returned (.tuple #[.slice A n c, .int .i64 z]) = .returned (.tuple #[.slice A n' c', .int .i64 z]) := by rw [h, h']
section
variable {w : World} {S : Nat → Prop} {bm made fail : Nat} {st : Nat → Option RG} {rl : List Nat} {mv rv : Value}
theorem find_null (h : KM w S bm made fail st rl mv rv) (n o : Nat) (hn : n ≤ 4294967295) (ho : o ≤ 4294967295) (k p : Int) (hm : n = 0 ∨ made < n) :
    Calls Tryz.prog 127 #[.pointer (some ⟨bm, 0, none⟩), .int .u64 (addr n o), .int .i64 k, .int .i64 p] w fun e w' => e = .returned (.tuple #[.slice none 0 0, .int .i64 20]) ∧ w = w' := by
  have c1 := split_any n o hn ho w
  have c2 := live_null h n hn hm
  generalize addr n o = a at *
  clear h hm
  go_enter Tryz.func127, Tryz.ntmps127
  go_wp2_with (first
    | (go_at_call 139; refine c1.mono ?_; rintro e w' ⟨rfl, rfl⟩)
    | (go_at_call 146; refine c2.mono ?_; rintro e w' ⟨rfl, rfl⟩))
  go_ret2
  exact ⟨rfl, rfl⟩
theorem find_freed (h : KM w S bm made fail st rl mv rv) (n o : Nat) (hn : n ≤ 4294967295) (ho : o ≤ 4294967295) (k p : Int) (h0 : 0 < n) (hm : n ≤ made) (hs : st n = none) :
    Calls Tryz.prog 127 #[.pointer (some ⟨bm, 0, none⟩), .int .u64 (addr n o), .int .i64 k, .int .i64 p] w fun e w' => e = .returned (.tuple #[.slice none 0 0, .int .i64 21]) ∧ w = w' := by
  have c1 := split_any n o hn ho w
  have c2 := live_freed h n h0 hm hs
  generalize addr n o = a at *
  clear h hm hs
  go_enter Tryz.func127, Tryz.ntmps127
  go_wp2_with (first
    | (go_at_call 139; refine c1.mono ?_; rintro e w' ⟨rfl, rfl⟩)
    | (go_at_call 146; refine c2.mono ?_; rintro e w' ⟨rfl, rfl⟩))
  go_ret2
  exact ⟨rfl, rfl⟩
theorem find_perm (h : KM w S bm made fail st rl mv rv) (n o : Nat) (hn : n ≤ 4294967295) (ho : o ≤ 4294967295) (k p : Int) {r : RG} (hs : st n = some r) (hp : (bits .and .i64 r.perm p != p) = true) :
    Calls Tryz.prog 127 #[.pointer (some ⟨bm, 0, none⟩), .int .u64 (addr n o), .int .i64 k, .int .i64 p] w fun e w' => e = .returned (.tuple #[.slice none 0 0, .int .i64 23]) ∧ w = w' := by
  have c1 := split_any n o hn ho w
  have c2 := live_yes h n hs
  have d1 : w.cell? ⟨r.blk, 1, none⟩ = some (.int .i64 r.perm) := (h.regs n r hs).head.cell 1
  generalize addr n o = a at *
  generalize r.blk = rb at c2 d1
  generalize r.perm = rp at hp d1
  clear h hs
  go_enter Tryz.func127, Tryz.ntmps127
  go_wp2_with (first
    | (go_at_call 139; refine c1.mono ?_; rintro e w' ⟨rfl, rfl⟩)
    | (go_at_call 146; refine c2.mono ?_; rintro e w' ⟨rfl, rfl⟩))
  go_ret2
  exact ⟨rfl, rfl⟩
theorem find_bound (h : KM w S bm made fail st rl mv rv) (n o : Nat) (hn : n ≤ 4294967295) (ho : o ≤ 4294967295) (k : Nat) (hk : k ≤ 1048576) (p : Int) {r : RG} (hs : st n = some r) (hp : (bits .and .i64 r.perm p != p) = false) (hb : r.bytes.length < o + k) :
    Calls Tryz.prog 127 #[.pointer (some ⟨bm, 0, none⟩), .int .u64 (addr n o), .int .i64 (k : Int), .int .i64 p] w fun e w' => e = .returned (.tuple #[.slice none 0 0, .int .i64 22]) ∧ w = w' := by
  have c1 := split_any n o hn ho w
  have c2 := live_yes h n hs
  have d1 : w.cell? ⟨r.blk, 1, none⟩ = some (.int .i64 r.perm) := (h.regs n r hs).head.cell 1
  have d0 : w.cell? ⟨r.blk, 0, none⟩ = some (.int .i64 r.bytes.length) := (h.regs n r hs).head.cell 0
  have hle := (h.regs n r hs).le
  generalize addr n o = a at *
  generalize r.blk = rb at c2 d1 d0
  generalize r.perm = rp at hp d1
  generalize r.bytes.length = len at hb d0 hle
  clear h hs
  have h9 : decide ((len : Int) < (o : Int) + (k : Int)) = true := by simp; omega
  go_enter Tryz.func127, Tryz.ntmps127
  go_wp2_with (first
    | (go_at_call 139; refine c1.mono ?_; rintro e w' ⟨rfl, rfl⟩)
    | (go_at_call 146; refine c2.mono ?_; rintro e w' ⟨rfl, rfl⟩))
  go_ret2
  exact ⟨rfl, rfl⟩
def FindPost (w : World) (S : Nat → Prop) (bm made fail : Nat) (st : Nat → Option RG) (rl : List Nat) (mv rv : Value) (n o k : Nat) (r : RG) (e : Ending) (w' : World) : Prop :=
  ∃ (g : Nat) (A : Addr), e = .returned (.tuple #[.slice (some A) k (r.bytes.length - o), .int .i64 0]) ∧ (0 < k → A = ⟨g, o, none⟩) ∧ AllPost w S bm made fail st rl mv rv n r w' g
theorem find_ok (h : KM w S bm made fail st rl mv rv) (n o : Nat) (hn : n ≤ 4294967295) (ho : o ≤ 4294967295) (k : Nat) (hk : k ≤ 1048576) (p : Int) {r : RG} (hs : st n = some r) (hp : (bits .and .i64 r.perm p != p) = false) (hb : o + k ≤ r.bytes.length) :
    Calls Tryz.prog 127 #[.pointer (some ⟨bm, 0, none⟩), .int .u64 (addr n o), .int .i64 (k : Int), .int .i64 p] w (FindPost w S bm made fail st rl mv rv n o k r) := by
  have c1 := split_any n o hn ho w
  have c2 := live_yes h n hs
  have c3 := all_any h n hs
  have d1 : w.cell? ⟨r.blk, 1, none⟩ = some (.int .i64 r.perm) := (h.regs n r hs).head.cell 1
  have d0 : w.cell? ⟨r.blk, 0, none⟩ = some (.int .i64 r.bytes.length) := (h.regs n r hs).head.cell 0
  have hle := (h.regs n r hs).le
  have HF : Hid (∀ (e : Ending) (w' : World) (g : Nat) (A : Addr), e = .returned (.tuple #[.slice (some A) k (r.bytes.length - o), .int .i64 0]) → (0 < k → A = ⟨g, o, none⟩) → AllPost w S bm made fail st rl mv rv n r w' g → FindPost w S bm made fail st rl mv rv n o k r e w') :=
    fun e w' g A h1 h2 h3 => ⟨g, A, h1, h2, h3⟩
  generalize FindPost w S bm made fail st rl mv rv n o k r = post at HF ⊢
  generalize AllPost w S bm made fail st rl mv rv n r = apost at HF c3
  generalize addr n o = a at *
  generalize r.blk = rb at c2 c3 d1 d0
  generalize r.perm = rp at hp d1
  generalize r.bytes.length = len at hb d0 hle c3 HF
  clear h hs
  have h9 : decide ((len : Int) < (o : Int) + (k : Int)) = false := by simp; omega
  rcases Nat.lt_or_ge o len with hol | hol
  · have hne : ¬ len = o := by omega
    have hne2 : ¬ o = len := by omega
    go_enter Tryz.func127, Tryz.ntmps127
    go_wp2_with (first
      | (go_at_call 139; refine c1.mono ?_; rintro e w' ⟨rfl, rfl⟩)
      | (go_at_call 146; refine c2.mono ?_; rintro e w' ⟨rfl, rfl⟩)
      | (go_at_call 147; refine c3.mono ?_; rintro e w' ⟨g, rfl, ha⟩; have HA := Lib.hid ha; clear ha))
    refine HF.out _ _ g ⟨g, o, none⟩ ?_ (fun _ => rfl) HA.out
    exact ret_sl (by omega) (by omega)
  · have e1 : len = o := by omega
    have e2 : k = 0 := by omega
    subst e1
    subst e2
    go_enter Tryz.func127, Tryz.ntmps127
    go_wp2_with (first
      | (go_at_call 139; refine c1.mono ?_; rintro e w' ⟨rfl, rfl⟩)
      | (go_at_call 146; refine c2.mono ?_; rintro e w' ⟨rfl, rfl⟩)
      | (go_at_call 147; refine c3.mono ?_; rintro e w' ⟨g, rfl, ha⟩; have HA := Lib.hid ha; clear ha))
    refine HF.out _ _ g ⟨g, 0, none⟩ ?_ (fun h => absurd h (by omega)) HA.out
    exact ret_sl (by omega) (by omega)
end
end Go.Proofs.YtbikofedppgblaaGreat
