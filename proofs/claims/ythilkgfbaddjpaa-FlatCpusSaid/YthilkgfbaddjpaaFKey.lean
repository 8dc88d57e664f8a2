/-
  Package flat: keyOf; alloc of regions.
-/
import Derived.Test.YthilkgfbaddjpaaFNew
import Derived.Lib.SlBytesRow
import Derived.Maps.AppendAt
namespace Go.Proofs.Ythilkgfbaddjpaa
open Go Go.RowKit
set_option linter.unusedVariables false
set_option linter.unusedSimpArgs false
set_option maxRecDepth 100000
theorem wb4 (n : Nat) (hn : n ≤ 4294967295) : (wb n 4).map byteV = [.int .u8 ((n : Int) % 256), .int .u8 ((n : Int) / 256 % 256), .int .u8 ((n : Int) / 65536 % 256), .int .u8 ((n : Int) / 16777216)] := by
  have e : wb n 4 = [UInt8.ofNat (n / 1), UInt8.ofNat (n / 256), UInt8.ofNat (n / 65536), UInt8.ofNat (n / 16777216)] := rfl
  rw [e]
  simp only [List.map_cons, List.map_nil, byteV_ofNat]
  have h : n / 16777216 % 256 = n / 16777216 := Nat.mod_eq_of_lt (by omega)
  rw [h]
  simp
theorem keyOf_any (n : Nat) (hn : n ≤ 4294967295) (w : World) : Calls Try.prog 48 #[.int .u32 n] w fun e w' => e = .returned (.string (bstr (wb n 4))) ∧ Below w.heap.size w w' := by
  have B := Lib.hid (below_alloc w (.cells #[.int .u8 ((n : Int) % 256), .int .u8 ((n : Int) / 256 % 256), .int .u8 ((n : Int) / 65536 % 256), .int .u8 ((n : Int) / 16777216)] 5))
  have hb := Blk.new w 5 #[.int .u8 ((n : Int) % 256), .int .u8 ((n : Int) / 256 % 256), .int .u8 ((n : Int) / 65536 % 256), .int .u8 ((n : Int) / 16777216)]
  have hc := Lib.run_convert_whole (P := Try.prog) (w.alloc (.cells #[.int .u8 ((n : Int) % 256), .int .u8 ((n : Int) / 256 % 256), .int .u8 ((n : Int) / 65536 % 256), .int .u8 ((n : Int) / 16777216)] 5)) 55 5 9 Try.underlying55 Try.underlying5 Try.underlying9 w.heap.size 0 (bstr (wb n 4)) (fun i hi => by
    have hi' : i < (wb n 4).length := by rw [← bstr_size]; exact hi
    have h1 := hb.cell i
    have h2 := congrArg (fun l => l[i]?) (wb4 n hn)
    simp only [List.getElem?_map, List.getElem?_eq_getElem hi'] at h2
    rw [Nat.zero_add, h1, List.getElem?_toArray]
    exact h2.symm) 4
  rw [bstr_size, wb_length] at hc
  have HC := Lib.hid hc
  clear hc hb
  go_enter Try.func48, Try.ntmps48
  go_wp2_with fail
  rw [HC.out]
  go_wp2_with fail
  go_ret
  exact ⟨rfl, B.out⟩
theorem info64 : (Try.prog.info? 43).map (fun i => (i.zero, i.size, i.bytes)) = some (some (.int .u64 0), 1, 8) := by kernel_rfl
theorem wpList_append_runA {P : Program} {ops : Array Oper} {rest : List Oper} {o : Oper} {a : Act} {w : World} {Q : Exit → Act → World → Prop} (hgd : o.guard = none) (s x : Operand) (t : TypeId)
    (ho : o.op = .call { callee := .builtin .append, args := #[s, x], argTypes := #[t, t] }) (v xv v' : Value) (w' : World) (hs : a.eval s = v) (hx : a.eval x = xv) (ty : TypeId) (hty : o.type = ty) (hrun : (Builtin.append_ #[t, t] ty #[v, xv]).run P w = .ok v' w')
    (h : wpList P ops Q rest (a.put o.dst v') w') : wpList P ops Q (o :: rest) a w := by
  refine wpList_plain hgd fun K hK => ?_
  subst hty
  unfold Oper.wp execOp
  simp only [ho, resolve, invoke, builtin, Sem.run_bind, Sem.run_pure, Result.andThen_ok, List.map_toArray, List.map_cons, List.map_nil, hs, hx, hrun]
  exact hK _ _ h
def firstsC (made n : Nat) : List Value := (List.range n).map fun i => .int .u64 (addr (made + 1 + i) 0)
theorem firstsC_succ (made n : Nat) : firstsC made (n + 1) = firstsC made n ++ [.int .u64 (addr (made + n + 1) 0)] := by
  unfold firstsC
  rw [List.range_succ, List.map_append, show made + n + 1 = made + 1 + n by omega]
  rfl
section
variable {w w1 : World} {S : Nat → Prop} {bm made fail : Nat} {st : Nat → Option RG} {rl : List Nat} {mv rv : Value}
/-- j regions of size bytes have been made, and v holds where they begin. -/
structure AN (w : World) (S : Nat → Prop) (bm made fail : Nat) (st : Nat → Option RG) (rl : List Nat) (rv : Value) (size j : Nat) (wr : World) (v : Value) (S' : Nat → Prop) (st' : Nat → Option RG) (mv' : Value) : Prop where
  km : KM wr S' bm (made + j) (fail - j) st' rl mv' rv
  keeps : Keeps S w wr
  sub : ∀ b, S' b → S b ∨ w.heap.size ≤ b
  row : wr.ownsRow w.heap.size 43 1 v j (firstsC made j)
  apart : ∀ g, v.ownBlock = some g → ¬ S' g
  old : ∀ m, (m ≤ made ∨ made + j < m) → st' m = st m
  new : ∀ i, i < j → ∃ r, st' (made + 1 + i) = some r ∧ r.perm = 3 ∧ r.bytes = List.replicate size 0 ∧ r.ret = false ∧ r.row = none
theorem AN.start (h : KM w S bm made fail st rl mv rv) (size : Nat) : AN w S bm made fail st rl rv size 0 w (.slice none 0 0) S st mv :=
  ⟨h, Keeps.refl _ _, fun b hb => .inl hb, World.ownsRow_nil _ _ _ _, (fun g hg => by cases hg), fun m _ => rfl, fun i hi => by omega⟩
theorem AN.step {size j : Nat} {wr : World} {v : Value} {S' : Nat → Prop} {st' : Nat → Option RG} {mv' : Value} (h : AN w S bm made fail st rl rv size j wr v S' st' mv') (hj : j ≤ 4096) (ha : AllocPost wr S' bm (made + j) (fail - j) st' rl rv size 3 w1) :
    ∃ v2 w3, (Builtin.append_ #[68, 68] 68 #[v, .slice (some ⟨w1.heap.size, 0, none⟩) 1 1]).run Try.prog (w1.alloc (.cells #[.int .u64 (addr (made + j + 1) 0)] 43)) = .ok v2 w3 ∧ ∃ S2 st2 mv2, AN w S bm made fail st rl rv size (j + 1) w3 v2 S2 st2 mv2 := by
  obtain ⟨i0, hi, hz0, hz1, hz2⟩ := info_parts info64
  obtain ⟨r, mv2, hk, kk, e1, e2, e3, e4⟩ := ha
  have hb0 : w.heap.size ≤ wr.heap.size := h.keeps.size
  have hb1 : wr.heap.size ≤ w1.heap.size := kk.size
  have row1 : w1.ownsRow w.heap.size 43 1 v j (firstsC made j) := ownsRow_block h.row fun g hg => kk.block g (h.row.lt g hg).2 (h.apart g hg)
  have row2 := row1.alloc (.cells #[.int .u64 (addr (made + j + 1) 0)] 43)
  have hB := Blk.new w1 43 #[.int .u64 (addr (made + j + 1) 0)]
  obtain ⟨v2, w3, hr, h1, h2, _, h5⟩ := run_append_own_at (P := Try.prog) (w1.alloc (.cells #[.int .u64 (addr (made + j + 1) 0)] 43)) w.heap.size 68 68 43 i0 (.int .u64 0) 1 8 Try.underlying68 hi hz0 hz1 hz2 rfl (by decide) v j (firstsC made j) row2 ⟨w1.heap.size, 0, none⟩ 1 1 [.int .u64 (addr (made + j + 1) 0)] rfl (fun k u hu => by
      rw [Go.WideShapes.add_plain, Nat.zero_add, hB.cell k]
      simpa using hu) (fun u hu => by simp only [List.mem_singleton] at hu; subst hu; rfl) (by unfold maxLen; omega) (by omega) (by simp; omega)
  refine ⟨v2, w3, hr, more S' wr w1, upd st' (made + j + 1) (some r), mv2, ?_⟩
  have k2 : Keeps (fun _ => False) w1 (w1.alloc (.cells #[.int .u64 (addr (made + j + 1) 0)] 43)) := (Keeps.refl _ _).alloc _
  have km2 := hk.keeps k2 (fun b _ hf => hf)
  have k3 : Keeps (fun b => v.ownBlock = some b) (w1.alloc (.cells #[.int .u64 (addr (made + j + 1) 0)] 43)) w3 := (Keeps.refl _ _).grown h2 (fun k e => .inl e)
  have apart2 : ∀ b, more S' wr w1 b → ¬ v.ownBlock = some b := fun b hb e => by
    rcases hb with hb | ⟨hb, _⟩
    · exact h.apart b e hb
    · have := (h.row.lt b e).2; omega
  have km3 := km2.keeps k3 apart2
  refine ⟨by rw [show made + (j + 1) = made + j + 1 by omega, show fail - (j + 1) = fail - j - 1 by omega]; exact km3, ?_, ?_, ?_, ?_, ?_, ?_⟩
  · refine h.keeps.trans ((kk.mono fun b hb => ?_).trans ?_)
    · rcases h.sub b hb with hs | hs
      · exact .inl hs
      · exact .inr ⟨hs, h.km.lt b hb⟩
    · refine Keeps.trans (k2.mono fun b hf => hf.elim) (k3.mono fun b hb => ?_)
      have := (h.row.lt b hb)
      exact .inl (.inl (.inr this))
  · intro b hb
    rcases hb with hb | ⟨hb, _⟩
    · exact h.sub b hb
    · exact .inr (by omega)
  · rw [firstsC_succ]; exact h1
  · intro g hg hs
    rcases h5 with e | e
    · exact apart2 g hs (by rw [← e]; exact hg)
    · rw [hg] at e
      have e := Option.some.inj e
      have := hk.lt g hs
      simp at e
      omega
  · intro m hm
    show upd st' (made + j + 1) (some r) m = st m
    rw [upd_other _ _ (by omega)]
    exact h.old m (by omega)
  · intro i hi2
    by_cases hij : i = j
    · subst hij
      exact ⟨r, by rw [show made + 1 + i = made + i + 1 by omega, upd_same], e1, e2, e3, e4⟩
    · obtain ⟨r', q1, q2⟩ := h.new i (by omega)
      exact ⟨r', by rw [upd_other _ _ (by omega)]; exact q1, q2⟩
set_option maxHeartbeats 1000000 in
theorem allocs_ok (h : KM w S bm made fail st rl mv rv) (n : Nat) (hf : fail = 0 ∨ n < fail) (hmade : made + n ≤ 4095) (size : Nat) (h1 : 1 ≤ size) (h2 : size ≤ 1048576) :
    Calls Try.prog 26 #[.pointer (some ⟨bm, 0, none⟩), .int .i64 n, .int .i64 size] w fun e w' => ∃ v S' st' mv', e = .returned (.tuple #[v, .int .i64 0]) ∧ AN w S bm made fail st rl rv size n w' v S' st' mv' := by
  have H := Lib.hid h
  have HF := Lib.hid hf
  have HM := Lib.hid hmade
  have H1 := Lib.hid h1
  have H2 := Lib.hid h2
  clear h hf hmade h1 h2
  go_enter Try.func26, Try.ntmps26
  go_wp2_with fail
  go_loopw [8, 12] (fun v i wr => ∃ (j : Nat) (S' : Nat → Prop) (st' : Nat → Option RG) (mv' : Value), j ≤ n ∧ i = .int .i64 j ∧ AN w S bm made fail st rl rv size j wr v S' st' mv') (fun _ i _ => n - (intOf i).toNat)
  case atStart => exact ⟨0, S, st, mv, by omega, rfl, AN.start H.out size⟩
  case round =>
    obtain ⟨j, S', st', mv', hj, rfl, hA⟩ := hrel
    have HA := Lib.hid hA
    clear hA
    by_cases hlt : j < n
    · have HJ := Lib.hid hlt
      have HW : Hid (wrap64 ((j : Int) + 1) = (j : Int) + 1) := by unfold Hid wrap64; have := HM.out; omega
      have CA := Lib.hid (alloc_ok HA.out.km (by have := HF.out; omega) (by have := HM.out; omega) size 3 H1.out H2.out (by decide) (by decide))
      go_wp2_with (first
        | (go_at_call 50; refine CA.out.mono ?_; rintro e w1 ⟨rfl, ha⟩; obtain ⟨v2, w3, hr, S2, st2, mv2, hA2⟩ := HA.out.step (by have := HM.out; have := HJ.out; omega) ha; have HR := Lib.hid hr; have HA2 := Lib.hid hA2; clear ha hr hA2)
        | (at_builtin; refine wpList_append_runA rfl (.tmp 26) (.tmp 28) 68 rfl _ (.slice (some ⟨w1.heap.size, 0, none⟩) 1 1) v2 w3 rfl rfl 68 rfl HR.out ?_))
      exact ⟨⟨j + 1, S2, st2, mv2, by omega, by rw [HW.out]; go_num, HA2.out⟩, by rw [HW.out]; simp [intOf]; omega⟩
    · have : j = n := by omega
      subst this
      go_wp2_with fail
      go_ret2
      exact ⟨_, S', st', mv', rfl, HA.out⟩
end
end Go.Proofs.Ythilkgfbaddjpaa
