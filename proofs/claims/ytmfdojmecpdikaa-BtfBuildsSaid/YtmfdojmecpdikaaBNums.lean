/-
  Layer 6: numbers laid behind bytes.
-/
import Derived.Test.YtmfdojmecpdikaaBWrite
namespace Go.Proofs.Ytmfdojmecpdikaa
open Go Go.RowKit Go.Maps
set_option linter.unusedVariables false
set_option linter.unusedSimpArgs false
set_option maxRecDepth 100000
/-- An append of which is known what it gives, as a step of a plain list. -/
theorem wpList_append_run {P : Program} {ops : Array Oper} {rest : List Oper} {o : Oper} {a : Act} {w : World} {Q : Exit → Act → World → Prop} (hgd : o.guard = none) (s x : Operand) (t u : TypeId)
    (ho : o.op = .call { callee := .builtin .append, args := #[s, x], argTypes := #[t, u] }) (v xv v' : Value) (w' : World) (hs : a.eval s = v) (hx : a.eval x = xv) (ty : TypeId) (hty : o.type = ty) (hrun : (Builtin.append_ #[t, u] ty #[v, xv]).run P w = .ok v' w')
    (h : wpList P ops Q rest (a.put o.dst v') w') : wpList P ops Q (o :: rest) a w := by
  refine wpList_plain hgd fun _ hK => ?_
  subst hty
  unfold Oper.wp execOp
  simp only [ho, resolve, invoke, builtin, Sem.run_bind, Sem.run_pure, Result.andThen_ok, List.map_toArray, List.map_cons, List.map_nil, hs, hx, hrun]
  exact hK _ _ h
def newPlace (w : World) (v v' : Value) : Prop := v'.ownBlock = v.ownBlock ∨ ∃ g, v'.ownBlock = some g ∧ w.heap.size ≤ g
def PostNums (w : World) (base : Nat) (v : Value) (l : List UInt8) (e : Ending) (w' : World) : Prop :=
  ∃ v', e = .returned v' ∧ RowB w' base v' l ∧ w.grownBy w' v.ownBlock ∧ newPlace w v v'
theorem le4_cells (n : Int) : (le4 n).map byteV = [.int .u8 (n % 256), .int .u8 (n / 256 % 256), .int .u8 (n / 65536 % 256), .int .u8 (n / 16777216 % 256)] := by
  simp [le4, byteV_u8]
theorem le4s_snoc (l : List Int) (n : Int) : le4s (l ++ [n]) = le4s l ++ le4 n := by simp [le4s]
theorem RowB.own {w : World} {base : Nat} {v : Value} {l : List UInt8} (h : w.ownsRow base 5 1 v l.length (l.map byteV)) : RowB w base v l := .inl h
theorem RowB.alloc {w : World} {base : Nat} {v : Value} {l : List UInt8} (h : RowB w base v l) (o : Obj) : RowB (w.alloc o) base v l := h.block fun b hb => Below.heap_alloc w o b (h.tag b hb).2.1
theorem new_cells_b (w : World) (cs : Array Value) (t : TypeId) (j : Nat) (u : Value) (h : cs.toList[j]? = some u) : (w.alloc (.cells cs t)).cell? ((⟨w.heap.size, 0, none⟩ : Addr).add j) = some u := by
  rw [show (⟨w.heap.size, 0, none⟩ : Addr).add j = ⟨w.heap.size, j, none⟩ by unfold Addr.add; split <;> simp_all, (Blk.new w t cs).cell j]
  simpa using h
theorem grownBy_refl (w : World) (row : Option Nat) : w.grownBy w row := ⟨rfl, rfl, rfl, Nat.le_refl _, fun _ _ _ => rfl⟩
theorem grownBy_alloc {w w' : World} {row : Option Nat} (h : w.grownBy w' row) (o : Obj) : w.grownBy (w'.alloc o) row := h.trans (World.grownBy_alloc w' o row)
/-- Two steps: the second one writes what the first one left, or what it made. -/
theorem grownBy_then {w w1 w2 : World} {v v1 : Value} (h : w.grownBy w1 v.ownBlock) (hp : newPlace w v v1) (k : w1.grownBy w2 v1.ownBlock) : w.grownBy w2 v.ownBlock :=
  ⟨k.os.trans h.os, k.tape.trans h.tape, k.output.trans h.output, Nat.le_trans h.size k.size, fun i hi hne => (k.block i (Nat.lt_of_lt_of_le hi h.size) (by
    rcases hp with hp | ⟨g, hp, hg⟩
    · rw [hp]; exact hne
    · rw [hp]; intro e; cases e; omega)).trans (h.block i hi hne)⟩
theorem newPlace_then {w w1 : World} {v v1 v2 : Value} (h : w.grownBy w1 v.ownBlock) (hp : newPlace w v v1) (hq : v2.ownBlock = v1.ownBlock ∨ v2.ownBlock = some w1.heap.size) : newPlace w v v2 := by
  rcases hq with hq | hq
  · rcases hp with hp | ⟨g, hp, hg⟩
    · exact .inl (hq.trans hp)
    · exact .inr ⟨g, hq.trans hp, hg⟩
  · exact .inr ⟨_, hq, h.size⟩
set_option maxHeartbeats 2000000 in
theorem appendNumbers_any {w : World} {base : Nat} {v : Value} {l : List UInt8} (h : RowB w base v l) (A : Option Addr) (c : Nat) (ns : List Int) (hI : IntsAt w A ns) (hA : ∀ a, A = some a → v.ownBlock ≠ some a.block) (hbase : base ≤ w.heap.size)
    (hl : l.length + 4 * ns.length ≤ 140737488355328) :
    Calls Try.prog 29 #[v, .slice A ns.length c] w (PostNums w base v (l ++ le4s ns)) := by
  have H := Lib.hid h
  have HI := Lib.hid hI
  have HA := Lib.hid hA
  have i0 : (ns.length : Int) ≤ 140737488355328 := by omega
  clear h hI hA
  go_enter Try.func29, Try.ntmps29
  go_wp2_with fail
  go_loopw [0, 9] (fun u i wr => ∃ k : Nat, k ≤ ns.length ∧ i = .int .i64 k ∧ RowB wr base u (l ++ le4s (ns.take k)) ∧ w.grownBy wr v.ownBlock ∧ newPlace w v u) (fun _ i _ => ns.length - (intOf i).toNat)
  case atStart => exact ⟨0, by omega, rfl, by simpa [le4s] using H.out, grownBy_refl _ _, .inl rfl⟩
  case round =>
    obtain ⟨k, hk, rfl, hr, hg, hp⟩ := hrel
    have HR := Lib.hid hr
    have HG := Lib.hid hg
    have HP := Lib.hid hp
    clear hr hg hp
    by_cases hkn : k < ns.length
    · obtain ⟨n, hn⟩ : ∃ n, ns[k]? = some n := ⟨_, List.getElem?_eq_getElem hkn⟩
      obtain ⟨b, off, rfl, hlt, c0⟩ := HI.out k n hn
      have c1 : wr.cell? ⟨b, off + k, none⟩ = some (.int .i64 n) := by
        rw [← c0]
        exact World.cell?_of_block (HG.out.block b hlt (fun e => HA.out _ rfl e.symm))
      clear c0
      have g1 : decide (k < ns.length) = true := by simpa using hkn
      have i2 : (k : Int) < (ns.length : Int) := by omega
      have hlen : (l ++ le4s (ns.take k)).length + (le4 n).length ≤ 140737488355328 := by
        rw [List.length_append, le4s_length, le4_length, List.length_take]; omega
      obtain ⟨v', w', hrun, ho, hgr, hat⟩ := run_append_b (HR.out.alloc (.cells #[.int .u8 (n % 256), .int .u8 (n / 256 % 256), .int .u8 (n / 65536 % 256), .int .u8 (n / 16777216 % 256)] 5)) 45 ⟨wr.heap.size, 0, none⟩ 4 (le4 n) (by rw [le4_length]; decide) (by rw [le4_cells]; exact new_cells_b wr _ _) hlen (by have := HG.out.size; simp; omega)
      have HRUN := Lib.hid hrun
      have HO := Lib.hid ho
      have HGR := Lib.hid hgr
      have HAT := Lib.hid hat
      have HN : Hid (ns.take (k + 1) = ns.take k ++ [n]) := by rw [List.take_add_one, hn]; rfl
      clear hrun ho hgr hat hn hlt
      go_wp2_with (at_builtin; refine wpList_append_run rfl (.tmp 13) (.tmp 25) 45 45 rfl u0 (.slice (some ⟨wr.heap.size, 0, none⟩) 4 4) v' w' rfl rfl 45 rfl HRUN.out ?_)
      go_roundw
      case rel =>
        refine ⟨k + 1, by omega, by go_num, ?_, grownBy_then HG.out HP.out ((World.grownBy_alloc wr _ _).trans HGR.out), ?_⟩
        · rw [HN.out, le4s_snoc, ← List.append_assoc]
          exact .inl HO.out
        · rcases HAT.out with e | e
          · exact newPlace_then HG.out HP.out (.inl e)
          · refine .inr ⟨_, e, ?_⟩
            have := HG.out.size
            simp; omega
      case measure => simp [intOf]; omega
    · have : k = ns.length := by omega
      subst this
      have g1 : decide (ns.length < ns.length) = false := by simp
      go_wp2_with fail
      go_ret
      refine ⟨u0, rfl, ?_, HG.out, HP.out⟩
      have := HR.out
      rwa [List.take_length] at this
end Go.Proofs.Ytmfdojmecpdikaa
