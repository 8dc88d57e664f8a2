/-
  Put; Free of a region that was not retired; Retire and Grace where they only answer. Free of a region that was not retired. The functions once more, for a memory whose blocks all lie from block B on: what the laws want.
-/
import Derived.Test.YtbikofedppgblaaGreatQ05
import Derived.StillTailTactics
import Derived.Outline
namespace Go.Proofs.YtbikofedppgblaaGreat
open Go Go.RowKit Go.Maps
set_option linter.unusedVariables false

theorem size8 : (Tryz.prog.info? 5).map (·.size) = some 1 := by kernel_rfl
theorem copy_nil (w : World) (s : ByteArray) (ty : TypeId) :
    (Builtin.copy_ #[67, 9] ty #[.slice none 0 0, .string s]).run Tryz.prog w = .ok (goInt 0) w := by
  obtain ⟨i, hi, hz, hsz, hby⟩ := info_parts info8
  simp [Builtin.copy_, run_underlying Tryz.underlying67, Builtin.lenOf, Builtin.firstCells, sizeOf, typeInfo, hi]
section
variable {w w1 w2 : World} {S : Nat → Prop} {bm made fail : Nat} {st : Nat → Option RG} {rl : List Nat} {mv rv : Value}
theorem put_nil (a : Int) (s : ByteArray) (w : World) :
    Calls Tryz.prog 84 #[.pointer none, .int .u64 a, .string s] w fun e w' => e = .returned (.int .i64 1) ∧ w = w' := by
  go_enter Tryz.func84, Tryz.ntmps84
  go_wp2_with fail
  go_ret
  exact ⟨rfl, rfl⟩
theorem put_arg (p : Addr) (a : Int) (s : ByteArray) (hs : 1048576 < s.size) (hm : s.size ≤ maxLen) (w : World) :
    Calls Tryz.prog 84 #[.pointer (some p), .int .u64 a, .string s] w fun e w' => e = .returned (.int .i64 1) ∧ w = w' := by
  unfold maxLen at hm
  have h1 : decide (1048576 < (s.size : Int)) = true := by simp; omega
  go_enter Tryz.func84, Tryz.ntmps84
  go_wp2_with fail
  go_ret
  exact ⟨rfl, rfl⟩
theorem put_fault (p : Addr) (a z : Int) (s : ByteArray) (hs : s.size ≤ 1048576) (w : World)
    (hf : Calls Tryz.prog 127 #[.pointer (some p), .int .u64 a, .int .i64 (s.size : Int), .int .i64 0] w fun e w' => e = .returned (.tuple #[.slice none 0 0, .int .i64 z]) ∧ w = w') :
    Calls Tryz.prog 84 #[.pointer (some p), .int .u64 a, .string s] w fun e w' => e = .returned (.int .i64 z) ∧ w = w' := by
  have h1 : decide (1048576 < (s.size : Int)) = false := by simp; omega
  have hc := copy_nil w s
  go_enter Tryz.func84, Tryz.ntmps84
  go_wp2_with (go_at_call 127; refine hf.mono ?_; rintro e w' ⟨rfl, rfl⟩)
  go_ret
  exact ⟨rfl, rfl⟩
theorem setRow_keeps (w : World) (g : Nat) (cs : Array Value) : Keeps (fun b => b = g) w (w.setRow g cs) :=
  ⟨rfl, rfl, rfl, by simp [World.setRow], fun k hk hs => setRow_other w g k cs hs⟩
theorem put_copied (l ys xs : List UInt8) (o : Nat) (post : List UInt8 → World → Prop) (hb : o + l.length ≤ xs.length) (w1 : World) (g : Nat) (A : Addr) (hA : 0 < (bstr l).size → A = ⟨g, o, none⟩)
    (hblk : Blk w1 g 5 (xs.map byteV).toArray) (hend : ∀ w2 ys, Keeps (fun b => b = g) w1 w2 → Blk w2 g 5 (ys.map byteV).toArray → ys.length = xs.length → post ys w2) :
    ∃ w2, (∀ ty, (Builtin.copy_ #[67, 9] ty #[.slice (some A) (bstr l).size (xs.length - o), .string (bstr l)]).run Tryz.prog w1 = .ok (goInt ((bstr l).size : Int)) w2) ∧ post (setAt xs o l) w2 := by
  have hsz : (bstr l).size = l.length := bstr_size l
  rcases Nat.eq_zero_or_pos l.length with h0 | h0
  · obtain rfl : l = [] := List.eq_nil_of_length_eq_zero h0
    refine ⟨w1, fun ty => ?_, hend w1 _ (Keeps.refl _ _) (by rw [setAt_nil]; exact hblk) (by rw [setAt_nil])⟩
    exact Lib.run_copy_empty_string w1 _ _ ty _ _ _ _ _ Tryz.underlying67 (by obtain ⟨i, hi, _⟩ := info_parts info8; rw [hi]; rfl) rfl
  · obtain rfl := hA (by omega)
    have hr := fun ty => Lib.run_copy_row_string (P := Tryz.prog) w1 67 9 ty 5 g o (bstr l).size (xs.length - o) (bstr l) (xs.map byteV).toArray 5 Tryz.underlying67 size8 hblk (Nat.le_refl _) (by rw [hsz]; simpa using hb)
    have e : (setAt xs o l).map byteV = ((xs.map byteV).toArray.toList.take o ++ Lib.byteCells (bstr l).data.toList ++ (xs.map byteV).toArray.toList.drop (o + (bstr l).size)) := by
      rw [hsz]
      simp only [setAt, List.map_append, List.map_take, List.map_drop]
      rfl
    refine ⟨_, hr, hend _ _ (setRow_keeps _ _ _) ?_ (setAt_length _ _ _ hb)⟩
    rw [e]
    exact setRow_heap w1 g _ _ _ _ hblk
theorem put_ok (h : KM w S bm made fail st rl mv rv) (n o : Nat) (hn : n ≤ 4294967295) (ho : o ≤ 4294967295) (l : List UInt8) (hk : l.length ≤ 1048576) {r : RG} (hs : st n = some r) (hb : o + l.length ≤ r.bytes.length) :
    Calls Tryz.prog 84 #[.pointer (some ⟨bm, 0, none⟩), .int .u64 (addr n o), .string (bstr l)] w fun e w' =>
      e = .returned (.int .i64 0) ∧ WritePost w S bm made fail st rl mv rv n r (setAt r.bytes o l) w' := by
  have hr := h.regs n r hs
  have hsz : (bstr l).size = l.length := bstr_size l
  have cf := find_ok h n o hn ho (bstr l).size (by omega) 0 hs hr.whatever (by omega)
  have h1 : decide (1048576 < ((bstr l).size : Int)) = false := by simp; omega
  have copied : Hid (∀ (w1 : World) (g : Nat) (A : Addr), (0 < (bstr l).size → A = ⟨g, o, none⟩) → AllPost w S bm made fail st rl mv rv n r w1 g →
      ∃ w2, (∀ ty, (Builtin.copy_ #[67, 9] ty #[.slice (some A) (bstr l).size (r.bytes.length - o), .string (bstr l)]).run Tryz.prog w1 = .ok (goInt ((bstr l).size : Int)) w2) ∧ WritePost w S bm made fail st rl mv rv n r (setAt r.bytes o l) w2) :=
    fun w1 g A hA h => put_copied l [] r.bytes o _ hb w1 g A hA ((h.1.regs n _ (upd_same st n _)).rows g rfl) (fun w2 ys k hb hl => ⟨g, h.write k hb hl⟩)
  have hsm : (bstr l).size ≤ 1048576 := by omega
  clear h hs hr hsz
  generalize WritePost w S bm made fail st rl mv rv n r (setAt r.bytes o l) = post at copied ⊢
  unfold FindPost at cf
  generalize AllPost w S bm made fail st rl mv rv n r = apost at copied cf
  generalize addr n o = a at *
  generalize bstr l = sl at *
  generalize r.bytes.length - o = cap at *
  go_enter Tryz.func84, Tryz.ntmps84
  go_wp2_with (go_at_call 127; refine cf.mono ?_; rintro e w1 ⟨g, A, rfl, hA, ha⟩; obtain ⟨w2, hcp, hpo⟩ := copied.out w1 g A hA ha; have HC := Lib.hid hpo; clear ha hA hpo)
  go_ret
  exact ⟨rfl, HC.out⟩

theorem KM.delmap (h : KM w S bm made fail st rl mv rv) {n : Nat} {b : Nat} {D : DataW Value} {r : RG} (hs : st n = some r) (hret : r.ret = false) (hmv : mv = .map (some b)) (k : Keeps (fun x => x = b) w w2)
    (hown : w2.ownsMap Tryz.prog 56 heldV b made D) (hm : MapOf D (upd st n none)) : KM w2 (more S w w2) bm made fail (upd st n none) rl mv rv ∧ Keeps S w w2 := by
  subst hmv
  have hb : S b := (h.own rfl).1
  have nob : ∀ x t cs, Blk w x t cs → x ≠ b := by
    rintro x t cs hx rfl
    obtain ⟨_, D', ho, _⟩ := h.own rfl
    obtain ⟨es, clock, h2, _⟩ := ho
    unfold Blk at hx; rw [hx] at h2; cases h2
  have sub : ∀ m q, upd st n none m = some q → st m = some q := by
    intro m q hq
    by_cases hmn : m = n
    · subst hmn; rw [upd_same] at hq; cases hq
    · rwa [upd_other _ _ hmn] at hq
  refine ⟨⟨h.mem.keeps k (nob _ _ _ h.mem), .inr ⟨b, D, rfl, .inl hb, hown, hm⟩, fun m q hq => h.range m q (sub m q hq), fun m q hq => ?_, fun m m' q q' hq hq' e => h.inj m m' q q' (sub m q hq) (sub m' q' hq') e,
    fun m m' q q' g hq hq' e e' => h.injr m m' q q' g (sub m q hq) (sub m' q' hq') e e', ?_, fun m => ?_, h.retN, .inl h.sbm, fun m q hq => ⟨.inl (h.sreg m q (sub m q hq)).1, fun g hg => .inl ((h.sreg m q (sub m q hq)).2 g hg)⟩,
    fun g hg => .inl (h.srv g hg), ?_, h.made_le, h.fail_le⟩, k.mono (fun x e => e ▸ hb)⟩
  · have hr := h.regs m q (sub m q hq)
    exact hr.keeps k (nob _ _ _ hr.head) (fun g hg => nob _ _ _ (hr.rows g hg))
  · refine ownsRow_block h.ret (fun g hg => k.block g (h.lt g (h.srv g hg)) ?_)
    rcases h.ret.2 with ⟨hn, _⟩ | ⟨g', cap, cur, hv, _, hgg, _⟩
    · rw [hn] at hg; cases hg
    · have : g' = g := by rw [hv] at hg; simpa [Value.ownBlock] using hg
      subst this
      exact nob _ 56 cur hgg
  · rw [h.retM]
    by_cases hmn : m = n
    · subst hmn; rw [upd_same]; simp [hs, hret]
    · rw [upd_other _ _ hmn]
  · rintro x (h2 | h2)
    · exact Nat.lt_of_lt_of_le (h.lt x h2) k.size
    · exact h2.2
theorem free_arg (p : Option Addr) (a : Int) (w : World)
    (hb : Calls Tryz.prog 138 #[.pointer p, .int .u64 a] w fun e w' => e = .returned (.pointer none) ∧ w = w') :
    Calls Tryz.prog 129 #[.pointer p, .int .u64 a] w fun e w' => e = .returned (.int .i64 1) ∧ w = w' := by
  go_enter Tryz.func129, Tryz.ntmps129
  go_wp2_with (go_at_call 138; refine hb.mono ?_; rintro e w' ⟨rfl, rfl⟩)
  go_ret
  exact ⟨rfl, rfl⟩
theorem retire_arg (p : Option Addr) (a : Int) (w : World)
    (hb : Calls Tryz.prog 138 #[.pointer p, .int .u64 a] w fun e w' => e = .returned (.pointer none) ∧ w = w') :
    Calls Tryz.prog 113 #[.pointer p, .int .u64 a] w fun e w' => e = .returned (.int .i64 1) ∧ w = w' := by
  go_enter Tryz.func113, Tryz.ntmps113
  go_wp2_with (go_at_call 138; refine hb.mono ?_; rintro e w' ⟨rfl, rfl⟩)
  go_ret
  exact ⟨rfl, rfl⟩
theorem retire_again (h : KM w S bm made fail st rl mv rv) (n : Nat) (hn : n ≤ 4294967295) {r : RG} (hs : st n = some r) (hr : r.ret = true) :
    Calls Tryz.prog 113 #[.pointer (some ⟨bm, 0, none⟩), .int .u64 (addr n 0)] w fun e w' => e = .returned (.int .i64 1) ∧ w = w' := by
  have c := beginsAt_at h n hn
  rw [hs] at c
  change Calls _ _ _ _ (fun e w' => e = Ending.returned (Value.pointer (some ⟨r.blk, 0, none⟩)) ∧ w = w') at c
  have d3 : w.cell? ⟨r.blk, 3, none⟩ = some (.bool r.ret) := (h.regs n r hs).head.cell 3
  rw [hr] at d3
  clear h hs hr
  generalize r.blk = rb at c d3
  generalize addr n 0 = a at *
  go_enter Tryz.func113, Tryz.ntmps113
  go_wp2_with (go_at_call 138; refine c.mono ?_; rintro e w' ⟨rfl, rfl⟩)
  go_ret
  exact ⟨rfl, rfl⟩
end
end Go.Proofs.YtbikofedppgblaaGreat
namespace Go.Proofs.YtbikofedppgblaaGreat
open Go Go.RowKit Go.Maps
set_option linter.unusedVariables false
section
variable {w w1 w2 : World} {S : Nat → Prop} {bm made fail : Nat} {st : Nat → Option RG} {rl : List Nat} {mv rv : Value}
theorem turned_grown {w w' : World} {b : Nat} (h : w.mapTurned w' b) : w.grownBy w' (some b) := h.grown
set_option maxRecDepth 100000 in
theorem free_ok (h : KM w S bm made fail st rl mv rv) (n : Nat) {r : RG} (hs : st n = some r) (hret : r.ret = false) :
    Calls Tryz.prog 129 #[.pointer (some ⟨bm, 0, none⟩), .int .u64 (addr n 0)] w fun e w' => e = .returned (.int .i64 0) ∧ KM w' (more S w w') bm made fail (upd st n none) rl mv rv ∧ Keeps S w w' := by
  obtain ⟨h0, hm⟩ := h.range n r hs
  have hle := h.made_le
  have hn : n ≤ 4294967295 := by omega
  have c := beginsAt_at h n hn
  rw [hs] at c
  change Calls _ _ _ _ (fun e w' => e = Ending.returned (Value.pointer (some ⟨r.blk, 0, none⟩)) ∧ w = w') at c
  have cs := split_any n 0 hn (by omega) w
  have d3 : w.cell? ⟨r.blk, 3, none⟩ = some (.bool r.ret) := (h.regs n r hs).head.cell 3
  rw [hret] at d3
  have hrl := (h.regs n r hs).head.lt
  have hbl := h.mem.lt
  obtain ⟨b, D, rfl, hSb, ho, hmo⟩ : ∃ b D, mv = .map (some b) ∧ S b ∧ w.ownsMap Tryz.prog 56 heldV b made D ∧ MapOf D st := by
    rcases h.map with ⟨_, h1⟩ | h1
    · rw [h1 n] at hs; cases hs
    · exact h1
  have c0 : w.cell? ⟨bm, 0, none⟩ = some (.map (some b)) := h.mem.cell 0
  obtain ⟨w2, hrun, hown, hturn⟩ := ((ho.alloc (.cells #[.int .u32 (n : Int)] 56)).drew).drop law32 Tryz.underlying55 (key32 hn) 0
  have hrun' : ∀ ty, (Builtin.delete_ #[55, 56] ty #[.map (some b), .int .u32 (n : Int)]).run Tryz.prog (w.alloc (.cells #[.int .u32 (n : Int)] 56)).drew = .ok (.tuple #[]) w2 := fun ty => hrun
  have hbs : b < w.heap.size := ho.lt
  have kk : Keeps (fun x => x = b) w w2 := ((Keeps.refl _ w).alloc (.cells #[.int .u32 (n : Int)] 56)).drew.grown hturn.grown (fun k e => .inl (by simpa using e.symm))
  have H := Lib.hid (h.delmap hs hret rfl kk hown (hmo.del n))
  have E0 : w2.cell? ⟨bm, 0, none⟩ = some (.map (some b)) := H.out.1.mem.cell 0
  have E6 : w2.cell? ⟨w.heap.size, 0, none⟩ = some (.int .u32 (n : Int)) := Blk.cell (t := 56) (cs := #[.int .u32 (n : Int)]) ((hturn.grown.block w.heap.size (by simp) (by simp; omega)).trans (Blk.new w _ _)) 0
  clear h hs hret ho hown hturn hmo kk hrun
  generalize r.blk = rb at c d3 hrl
  generalize addr n 0 = a at *
  have hne : bm ≠ w.heap.size := by omega
  have hne2 : rb ≠ w.heap.size := by omega
  go_enter Tryz.func129, Tryz.ntmps129
  go_wp2_with (first
    | (go_at_call 138; refine c.mono ?_; rintro e w' ⟨rfl, rfl⟩)
    | (go_at_call 139; refine cs.mono ?_; rintro e w' ⟨rfl, rfl⟩))
  go_region_held3 (fun w' => w'.cell? ⟨bm, 0, none⟩ = some (.map (some b)) ∧ w'.cell? ⟨w.heap.size, 0, none⟩ = some (.int .u32 (n : Int)))
    (first | go_keep | exact ⟨E0, E6⟩)
    (fail)
  go_wp2
  go_ret
  exact ⟨rfl, H.out⟩
end
end Go.Proofs.YtbikofedppgblaaGreat
namespace Go.Proofs.YtbikofedppgblaaGreat
open Go Go.RowKit Go.Maps
set_option linter.unusedVariables false

/-- What a region holds for whoever asks. -/
def RG.v (r : RG) : Int × List UInt8 × Bool := (r.perm, r.bytes, r.ret)
/-- From w0 on only blocks from B on have turned, and there the memory lies. -/
def KF (B : Nat) (w0 w : World) (bm made fail : Nat) (st : Nat → Option RG) (rl : List Nat) : Prop :=
  Below B w0 w ∧ B ≤ w.heap.size ∧ ∃ S mv rv, KM w S bm made fail st rl mv rv ∧ ∀ b, S b → B ≤ b
/-- .. and region n is what v says. -/
def KFr (B : Nat) (w0 : World) (bm made fail : Nat) (st : Nat → Option RG) (rl : List Nat) (n : Nat) (v : Int × List UInt8 × Bool) (w : World) : Prop :=
  ∃ r, KF B w0 w bm made fail (upd st n (some r)) rl ∧ r.v = v
section
variable {B : Nat} {w0 w w1 : World} {S : Nat → Prop} {bm made fail : Nat} {st : Nat → Option RG} {rl : List Nat} {mv rv : Value}
theorem KF.next {bm' made' fail' : Nat} {st' : Nat → Option RG} {rl' : List Nat} {mv' rv' : Value} (hb : Below B w0 w) (hB : B ≤ w.heap.size) (hS : ∀ b, S b → B ≤ b) (hk : KM w1 (more S w w1) bm' made' fail' st' rl' mv' rv') (k : Keeps S w w1) : KF B w0 w1 bm' made' fail' st' rl' :=
  ⟨hb.trans (k.below hS hB), Nat.le_trans hB k.size, _, _, _, hk, fun b hb => by
    rcases hb with h | ⟨h, _⟩
    · exact hS b h
    · omega⟩
theorem KF.start (w : World) : KF w.heap.size w (w.alloc (.cells #[.map none, .int .u32 0, .slice none 0 0, .int .i64 0] 59)) w.heap.size 0 0 (fun _ => none) [] := by
  refine ⟨(Below.refl _ _).alloc (Nat.le_refl _) _, by simp, (fun b => b = w.heap.size), .map none, .slice none 0 0, ?_, fun b h => by omega⟩
  exact {
    mem := by have := Blk.new w 59 #[.map none, .int .u32 0, .slice none 0 0, .int .i64 0]; simpa using this
    map := .inl ⟨rfl, fun _ => rfl⟩
    range := fun n r h => by cases h
    regs := fun n r h => by cases h
    inj := fun n n' r r' h => by cases h
    injr := fun n n' r r' g h => by cases h
    ret := World.ownsRow_nil _ _ _ _
    retM := fun n => by simp
    retN := List.nodup_nil
    sbm := rfl
    sreg := fun n r h => by cases h
    srv := fun g h => by cases h
    lt := fun b h => by simp; omega
    made_le := by omega
    fail_le := by omega }
theorem kf_alloc (h : KF B w0 w bm made fail st rl) (hf : fail ≠ 1) (hmade : made < 4095) (size perm : Nat) (h1 : 1 ≤ size) (h2 : size ≤ 1048576) (h3 : 1 ≤ perm) (h4 : perm ≤ 3) :
    Calls Tryz.prog 70 #[.pointer (some ⟨bm, 0, none⟩), .int .i64 size, .int .i64 perm] w fun e w' => e = .returned (.tuple #[.int .u64 (addr (made + 1) 0), .int .i64 0]) ∧ KFr B w0 bm (made + 1) (fail - 1) st rl (made + 1) ((perm : Int), List.replicate size 0, false) w' := by
  obtain ⟨hb, hB, S, mv, rv, hk, hS⟩ := h
  refine (alloc_ok hk hf hmade size perm h1 h2 h3 h4).mono ?_
  rintro e w' ⟨rfl, r, mv', hk', kk, e1, e2, e3, e4⟩
  exact ⟨rfl, r, KF.next hb hB hS hk' kk, by simp [RG.v, e1, e2, e3]⟩
theorem kf_bytes (h : KF B w0 w bm made fail st rl) (n o : Nat) (hn : n ≤ 4294967295) (ho : o ≤ 4294967295) (k : Nat) (hk : k ≤ 1048576) {r : RG} (hs : st n = some r) (hb : o + k ≤ r.bytes.length) :
    Calls Tryz.prog 80 #[.pointer (some ⟨bm, 0, none⟩), .int .u64 (addr n o), .int .i64 (k : Int)] w fun e w' => e = .returned (.tuple #[.string (bstr ((r.bytes.drop o).take k)), .int .i64 0]) ∧ KFr B w0 bm made fail st rl n r.v w' := by
  obtain ⟨hb', hB, S, mv, rv, hkm, hS⟩ := h
  refine (bytes_ok hkm n o hn ho k hk hs hb).mono ?_
  rintro e w' ⟨rfl, g, hk', kk, _⟩
  exact ⟨rfl, _, KF.next hb' hB hS hk' kk, rfl⟩
theorem kf_free (h : KF B w0 w bm made fail st rl) (n : Nat) {r : RG} (hs : st n = some r) (hret : r.ret = false) :
    Calls Tryz.prog 129 #[.pointer (some ⟨bm, 0, none⟩), .int .u64 (addr n 0)] w fun e w' => e = .returned (.int .i64 0) ∧ KF B w0 w' bm made fail (upd st n none) rl := by
  obtain ⟨hb', hB, S, mv, rv, hkm, hS⟩ := h
  refine (free_ok hkm n hs hret).mono ?_
  rintro e w' ⟨rfl, hk', kk⟩
  exact ⟨rfl, KF.next hb' hB hS hk' kk⟩
end
end Go.Proofs.YtbikofedppgblaaGreat
