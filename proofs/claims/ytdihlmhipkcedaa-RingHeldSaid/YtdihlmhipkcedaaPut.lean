/-
  Put; Free of a region that was not retired; Retire and Grace where they only answer.
-/
import Derived.Test.YtdihlmhipkcedaaBytes
import Derived.StillTailTactics
namespace Go.Proofs.Ytdihlmhipkcedaa
open Go Go.RowKit Go.Maps
set_option linter.unusedVariables false

theorem size8 : (Try.prog.info? 5).map (·.size) = some 1 := by kernel_rfl
theorem copy_nil (w : World) (s : ByteArray) (ty : TypeId) :
    (Builtin.copy_ #[53, 9] ty #[.slice none 0 0, .string s]).run Try.prog w = .ok (goInt 0) w := by
  obtain ⟨i, hi, hz, hsz, hby⟩ := info_parts info8
  simp [Builtin.copy_, run_underlying Try.underlying53, Builtin.lenOf, Builtin.firstCells, sizeOf, typeInfo, hi]
section
variable {w w1 w2 : World} {S : Nat → Prop} {bm made fail : Nat} {st : Nat → Option RG} {rl : List Nat} {mv rv : Value}
theorem put_nil (a : Int) (s : ByteArray) (w : World) :
    Calls Try.prog 14 #[.pointer none, .int .u64 a, .string s] w fun e w' => e = .returned (.int .i64 1) ∧ w = w' := by
  go_enter Try.func14, Try.ntmps14
  go_wp2_with fail
  go_ret
  exact ⟨rfl, rfl⟩
theorem put_arg (p : Addr) (a : Int) (s : ByteArray) (hs : 1048576 < s.size) (hm : s.size ≤ maxLen) (w : World) :
    Calls Try.prog 14 #[.pointer (some p), .int .u64 a, .string s] w fun e w' => e = .returned (.int .i64 1) ∧ w = w' := by
  unfold maxLen at hm
  have h1 : decide (1048576 < (s.size : Int)) = true := by simp; omega
  go_enter Try.func14, Try.ntmps14
  go_wp2_with fail
  go_ret
  exact ⟨rfl, rfl⟩
theorem put_fault (p : Addr) (a z : Int) (s : ByteArray) (hs : s.size ≤ 1048576) (w : World)
    (hf : Calls Try.prog 26 #[.pointer (some p), .int .u64 a, .int .i64 (s.size : Int), .int .i64 0] w fun e w' => e = .returned (.tuple #[.slice none 0 0, .int .i64 z]) ∧ w = w') :
    Calls Try.prog 14 #[.pointer (some p), .int .u64 a, .string s] w fun e w' => e = .returned (.int .i64 z) ∧ w = w' := by
  have h1 : decide (1048576 < (s.size : Int)) = false := by simp; omega
  have hc := copy_nil w s
  go_enter Try.func14, Try.ntmps14
  go_wp2_with (go_at_call 26; refine hf.mono ?_; rintro e w' ⟨rfl, rfl⟩)
  go_ret
  exact ⟨rfl, rfl⟩
theorem setRow_keeps (w : World) (g : Nat) (cs : Array Value) : Keeps (fun b => b = g) w (w.setRow g cs) :=
  ⟨rfl, rfl, rfl, by simp [World.setRow], fun k hk hs => setRow_other w g k cs hs⟩
theorem put_copied (l ys xs : List UInt8) (o : Nat) (post : List UInt8 → World → Prop) (hb : o + l.length ≤ xs.length) (w1 : World) (g : Nat) (A : Addr) (hA : 0 < (bstr l).size → A = ⟨g, o, none⟩)
    (hblk : Blk w1 g 5 (xs.map byteV).toArray) (hend : ∀ w2 ys, Keeps (fun b => b = g) w1 w2 → Blk w2 g 5 (ys.map byteV).toArray → ys.length = xs.length → post ys w2) :
    ∃ w2, (∀ ty, (Builtin.copy_ #[53, 9] ty #[.slice (some A) (bstr l).size (xs.length - o), .string (bstr l)]).run Try.prog w1 = .ok (goInt ((bstr l).size : Int)) w2) ∧ post (setAt xs o l) w2 := by
  have hsz : (bstr l).size = l.length := bstr_size l
  rcases Nat.eq_zero_or_pos l.length with h0 | h0
  · obtain rfl : l = [] := List.eq_nil_of_length_eq_zero h0
    refine ⟨w1, fun ty => ?_, hend w1 _ (Keeps.refl _ _) (by rw [setAt_nil]; exact hblk) (by rw [setAt_nil])⟩
    exact Lib.run_copy_empty_string w1 _ _ ty _ _ _ _ _ Try.underlying53 (by obtain ⟨i, hi, _⟩ := info_parts info8; rw [hi]; rfl) rfl
  · obtain rfl := hA (by omega)
    have hr := fun ty => Lib.run_copy_row_string (P := Try.prog) w1 53 9 ty 5 g o (bstr l).size (xs.length - o) (bstr l) (xs.map byteV).toArray 5 Try.underlying53 size8 hblk (Nat.le_refl _) (by rw [hsz]; simpa using hb)
    have e : (setAt xs o l).map byteV = ((xs.map byteV).toArray.toList.take o ++ Lib.byteCells (bstr l).data.toList ++ (xs.map byteV).toArray.toList.drop (o + (bstr l).size)) := by
      rw [hsz]
      simp only [setAt, List.map_append, List.map_take, List.map_drop]
      rfl
    refine ⟨_, hr, hend _ _ (setRow_keeps _ _ _) ?_ (setAt_length _ _ _ hb)⟩
    rw [e]
    exact setRow_heap w1 g _ _ _ _ hblk
theorem put_ok (h : KM w S bm made fail st rl mv rv) (n o : Nat) (hn : n ≤ 4294967295) (ho : o ≤ 4294967295) (l : List UInt8) (hk : l.length ≤ 1048576) {r : RG} (hs : st n = some r) (hb : o + l.length ≤ r.bytes.length) :
    Calls Try.prog 14 #[.pointer (some ⟨bm, 0, none⟩), .int .u64 (addr n o), .string (bstr l)] w fun e w' =>
      e = .returned (.int .i64 0) ∧ WritePost w S bm made fail st rl mv rv n r (setAt r.bytes o l) w' := by
  have hr := h.regs n r hs
  have hsz : (bstr l).size = l.length := bstr_size l
  have cf := find_ok h n o hn ho (bstr l).size (by omega) 0 hs hr.whatever (by omega)
  have h1 : decide (1048576 < ((bstr l).size : Int)) = false := by simp; omega
  have copied : Hid (∀ (w1 : World) (g : Nat) (A : Addr), (0 < (bstr l).size → A = ⟨g, o, none⟩) → AllPost w S bm made fail st rl mv rv n r w1 g →
      ∃ w2, (∀ ty, (Builtin.copy_ #[53, 9] ty #[.slice (some A) (bstr l).size (r.bytes.length - o), .string (bstr l)]).run Try.prog w1 = .ok (goInt ((bstr l).size : Int)) w2) ∧ WritePost w S bm made fail st rl mv rv n r (setAt r.bytes o l) w2) :=
    fun w1 g A hA h => put_copied l [] r.bytes o _ hb w1 g A hA ((h.1.regs n _ (upd_same st n _)).rows g rfl) (fun w2 ys k hb hl => ⟨g, h.write k hb hl⟩)
  have hsm : (bstr l).size ≤ 1048576 := by omega
  clear h hs hr hsz
  generalize WritePost w S bm made fail st rl mv rv n r (setAt r.bytes o l) = post at copied ⊢
  unfold FindPost at cf
  generalize AllPost w S bm made fail st rl mv rv n r = apost at copied cf
  generalize addr n o = a at *
  generalize bstr l = sl at *
  generalize r.bytes.length - o = cap at *
  go_enter Try.func14, Try.ntmps14
  go_wp2_with (go_at_call 26; refine cf.mono ?_; rintro e w1 ⟨g, A, rfl, hA, ha⟩; obtain ⟨w2, hcp, hpo⟩ := copied.out w1 g A hA ha; have HC := Lib.hid hpo; clear ha hA hpo)
  go_ret
  exact ⟨rfl, HC.out⟩

theorem KM.delmap (h : KM w S bm made fail st rl mv rv) {n : Nat} {b : Nat} {D : DataW Value} {r : RG} (hs : st n = some r) (hret : r.ret = false) (hmv : mv = .map (some b)) (k : Keeps (fun x => x = b) w w2)
    (hown : w2.ownsMap Try.prog 48 heldV b made D) (hm : MapOf D (upd st n none)) : KM w2 (more S w w2) bm made fail (upd st n none) rl mv rv ∧ Keeps S w w2 := by
  subst hmv
  have hb : S b := (h.own rfl).1
  have nob : ∀ x t cs, Blk w x t cs → x ≠ b := by
    rintro x t cs hx rfl
    obtain ⟨_, D', ho, _⟩ := h.own rfl
    obtain ⟨es, clock, h2, _⟩ := ho
    unfold Blk at hx; rw [hx] at h2; cases h2
  have sub : ∀ m q, upd st n none m = some q → st m = some q := by
    intro m q hq
    by_cases hmn : m = n
    · subst hmn; rw [upd_same] at hq; cases hq
    · rwa [upd_other _ _ hmn] at hq
  refine ⟨⟨h.mem.keeps k (nob _ _ _ h.mem), .inr ⟨b, D, rfl, .inl hb, hown, hm⟩, fun m q hq => h.range m q (sub m q hq), fun m q hq => ?_, fun m m' q q' hq hq' e => h.inj m m' q q' (sub m q hq) (sub m' q' hq') e,
    fun m m' q q' g hq hq' e e' => h.injr m m' q q' g (sub m q hq) (sub m' q' hq') e e', ?_, fun m => ?_, h.retN, .inl h.sbm, fun m q hq => ⟨.inl (h.sreg m q (sub m q hq)).1, fun g hg => .inl ((h.sreg m q (sub m q hq)).2 g hg)⟩,
    fun g hg => .inl (h.srv g hg), ?_, h.made_le, h.fail_le⟩, k.mono (fun x e => e ▸ hb)⟩
  · have hr := h.regs m q (sub m q hq)
    exact hr.keeps k (nob _ _ _ hr.head) (fun g hg => nob _ _ _ (hr.rows g hg))
  · refine ownsRow_block h.ret (fun g hg => k.block g (h.lt g (h.srv g hg)) ?_)
    rcases h.ret.2 with ⟨hn, _⟩ | ⟨g', cap, cur, hv, _, hgg, _⟩
    · rw [hn] at hg; cases hg
    · have : g' = g := by rw [hv] at hg; simpa [Value.ownBlock] using hg
      subst this
      exact nob _ 48 cur hgg
  · rw [h.retM]
    by_cases hmn : m = n
    · subst hmn; rw [upd_same]; simp [hs, hret]
    · rw [upd_other _ _ hmn]
  · rintro x (h2 | h2)
    · exact Nat.lt_of_lt_of_le (h.lt x h2) k.size
    · exact h2.2
theorem free_arg (p : Option Addr) (a : Int) (w : World)
    (hb : Calls Try.prog 40 #[.pointer p, .int .u64 a] w fun e w' => e = .returned (.pointer none) ∧ w = w') :
    Calls Try.prog 31 #[.pointer p, .int .u64 a] w fun e w' => e = .returned (.int .i64 1) ∧ w = w' := by
  go_enter Try.func31, Try.ntmps31
  go_wp2_with (go_at_call 40; refine hb.mono ?_; rintro e w' ⟨rfl, rfl⟩)
  go_ret
  exact ⟨rfl, rfl⟩
theorem retire_arg (p : Option Addr) (a : Int) (w : World)
    (hb : Calls Try.prog 40 #[.pointer p, .int .u64 a] w fun e w' => e = .returned (.pointer none) ∧ w = w') :
    Calls Try.prog 39 #[.pointer p, .int .u64 a] w fun e w' => e = .returned (.int .i64 1) ∧ w = w' := by
  go_enter Try.func39, Try.ntmps39
  go_wp2_with (go_at_call 40; refine hb.mono ?_; rintro e w' ⟨rfl, rfl⟩)
  go_ret
  exact ⟨rfl, rfl⟩
theorem retire_again (h : KM w S bm made fail st rl mv rv) (n : Nat) (hn : n ≤ 4294967295) {r : RG} (hs : st n = some r) (hr : r.ret = true) :
    Calls Try.prog 39 #[.pointer (some ⟨bm, 0, none⟩), .int .u64 (addr n 0)] w fun e w' => e = .returned (.int .i64 1) ∧ w = w' := by
  have c := beginsAt_at h n hn
  rw [hs] at c
  change Calls _ _ _ _ (fun e w' => e = Ending.returned (Value.pointer (some ⟨r.blk, 0, none⟩)) ∧ w = w') at c
  have d3 : w.cell? ⟨r.blk, 3, none⟩ = some (.bool r.ret) := (h.regs n r hs).head.cell 3
  rw [hr] at d3
  clear h hs hr
  generalize r.blk = rb at c d3
  generalize addr n 0 = a at *
  go_enter Try.func39, Try.ntmps39
  go_wp2_with (go_at_call 40; refine c.mono ?_; rintro e w' ⟨rfl, rfl⟩)
  go_ret
  exact ⟨rfl, rfl⟩
end
end Go.Proofs.Ytdihlmhipkcedaa
