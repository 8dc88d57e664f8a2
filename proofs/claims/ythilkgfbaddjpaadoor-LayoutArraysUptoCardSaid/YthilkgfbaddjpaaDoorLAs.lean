/-
  Layer 7: errors.As, as package layout asks it of a fault.
-/
import Derived.Test.YthilkgfbaddjpaaDoorLErr
import Derived.Test.YthilkgfbaddjpaaDoorBlk
import Derived.Deep.Cut
import Derived.Deep.RegionHeld
import Derived.Lib.Hide
namespace Go.Proofs.YthilkgfbaddjpaaDoor
open Go Go.RowKit Go.Extern.Stop Go.Stop Go.Extern Go.Extern.Rtype
set_option linter.unusedVariables false
set_option linter.unusedSimpArgs false
set_option maxRecDepth 100000
theorem valueOf_T (p : Addr) (w : World) : (Extern.ReflectliteValue.unpack (.iface 87 (.pointer (some p)))).run Tryd.prog w = .ok (.agg #[.pointer (some ⟨10, 87, none⟩), .pointer (some ⟨w.heap.size, 0, none⟩), .int .u64 150]) (w.alloc (.cells #[.pointer (some p)] 87)) := by kernel_rfl
theorem valueOf_F (p : Addr) (w : World) : (Extern.ReflectliteValue.unpack (.iface 72 (.pointer (some p)))).run Tryd.prog w = .ok (.agg #[.pointer (some ⟨10, 72, none⟩), .pointer (some ⟨w.heap.size, 0, none⟩), .int .u64 150]) (w.alloc (.cells #[.pointer (some p)] 72)) := by kernel_rfl
theorem type_T (a : Addr) (w : World) : ((ReflectliteValue.methodAny (ReflectliteValue.valueError "reflectlite.Value.Type" 0) fun t _ _ _ => ReflectliteType.toType t) #[.agg #[.pointer (some ⟨10, 87, none⟩), .pointer (some a), .int .u64 150]]).run Tryd.prog w = .ok (.iface 94 (.agg #[.pointer (some ⟨10, 87, none⟩)])) w := by kernel_rfl
theorem mKind (v : Value) (w : World) : (Go.method 252 94 (.agg #[v]) "Kind").run Tryd.prog w = .ok (62, v) w := by kernel_rfl
theorem mElem (v : Value) (w : World) : (Go.method 252 94 v "Elem").run Tryd.prog w = .ok (70, v) w := by kernel_rfl
theorem mAssign (v : Value) (w : World) : (Go.method 252 94 v "AssignableTo").run Tryd.prog w = .ok (68, v) w := by kernel_rfl
theorem kind_T (w : World) : ((ReflectliteType.abiMethod fun t => (fun a : Nat => Value.int .u8 a) <$> kind t) #[.pointer (some ⟨10, 87, none⟩)]).run Tryd.prog w = .ok (.int .u8 22) w := by kernel_rfl
theorem kind_F (w : World) : ((ReflectliteType.abiMethod fun t => (fun a : Nat => Value.int .u8 a) <$> kind t) #[.pointer (some ⟨10, 72, none⟩)]).run Tryd.prog w = .ok (.int .u8 22) w := by kernel_rfl
theorem elem_T (w : World) : ((ReflectliteType.method ReflectliteType.elem) #[.agg #[.pointer (some ⟨10, 87, none⟩)]]).run Tryd.prog w = .ok (.iface 94 (.agg #[.pointer (some ⟨10, 72, none⟩)])) w := by kernel_rfl
theorem typeOf_F (v : Value) (w : World) : (Extern.ReflectliteType.typeOf #[.iface 72 v]).run Tryd.prog w = .ok (.iface 94 (.agg #[.pointer (some ⟨10, 72, none⟩)])) w := by kernel_rfl
theorem assign_F (w : World) : ((ReflectliteType.relation "AssignableTo" ReflectliteType.assignableTo) #[.agg #[.pointer (some ⟨10, 72, none⟩)], .iface 94 (.agg #[.pointer (some ⟨10, 72, none⟩)])]).run Tryd.prog w = .ok (.bool true) w := by kernel_rfl
theorem mImpl (v : Value) (w : World) : (Go.method 252 94 v "Implements").run Tryd.prog w = .ok (71, v) w := by kernel_rfl
theorem impl_F (w : World) : ((ReflectliteType.relation "Implements" ReflectliteType.implements_) #[.agg #[.pointer (some ⟨10, 72, none⟩)], .iface 94 (.agg #[.pointer (some ⟨10, 38, none⟩)])]).run Tryd.prog w = .ok (.bool true) w := by kernel_rfl
theorem parts_T (a : Addr) (w : World) : (ReflectliteValue.parts (.agg #[.pointer (some ⟨10, 87, none⟩), .pointer (some a), .int .u64 150])).run Tryd.prog w = .ok (some (87, a, 150)) w := by kernel_rfl
theorem parts_F (a : Addr) (w : World) : (ReflectliteValue.parts (.agg #[.pointer (some ⟨10, 72, none⟩), .pointer (some a), .int .u64 150])).run Tryd.prog w = .ok (some (72, a, 150)) w := by kernel_rfl
theorem parts_E (a : Addr) (w : World) : (ReflectliteValue.parts (.agg #[.pointer (some ⟨10, 72, none⟩), .pointer (some a), .int .u64 406])).run Tryd.prog w = .ok (some (72, a, 406)) w := by kernel_rfl
theorem agg_T (w : World) : (isAgg 87).run Tryd.prog w = .ok false w := by kernel_rfl
theorem agg_F (w : World) : (isAgg 72).run Tryd.prog w = .ok false w := by kernel_rfl
theorem size_F (w : World) : (sizeOf 72).run Tryd.prog w = .ok 1 w := by kernel_rfl
theorem elem_of (w : World) : (Extern.Rtype.elem? 87).run Tryd.prog w = .ok (some 72) w := by kernel_rfl
theorem mk_E (a : Addr) (w : World) : (ReflectliteValue.mk 72 a 256).run Tryd.prog w = .ok (.agg #[.pointer (some ⟨10, 72, none⟩), .pointer (some a), .int .u64 406]) w := by kernel_rfl
theorem dir_F (w : World) : (directlyAssignable 72 72).run Tryd.prog w = .ok true w := by kernel_rfl
theorem method_one (z : Sem Value) (f : TypeId → Addr → Nat → Nat → Sem Value) (v : Value) (t : TypeId) (a : Addr) (fl : Nat) (w : World) (h : (ReflectliteValue.parts v).run Tryd.prog w = .ok (some (t, a, fl)) w) : (ReflectliteValue.method z f #[v]).run Tryd.prog w = (f t a fl (fl % 32)).run Tryd.prog w := by
  have e : ReflectliteValue.method z f #[v] = (ReflectliteValue.parts v >>= fun r => match r with | none => z | some (t, a, fl) => f t a fl (fl % 32)) := rfl
  rw [e, Sem.run_bind, h]
  rfl
theorem isNil_T (a T : Addr) (w : World) (h : w.cell? a = some (.pointer (some T))) : ((ReflectliteValue.method (ReflectliteValue.valueError "reflectlite.Value.IsNil" 0) ReflectliteValue.isNil) #[.agg #[.pointer (some ⟨10, 87, none⟩), .pointer (some a), .int .u64 150]]).run Tryd.prog w = .ok (.bool false) w := by
  rw [method_one _ _ _ _ _ _ w (parts_T a w)]
  simp [ReflectliteValue.isNil, loadVar, agg_T, h, go_sem]
theorem elem_TV (a T : Addr) (w : World) (h : w.cell? a = some (.pointer (some T))) : ((ReflectliteValue.method (ReflectliteValue.valueError "reflectlite.Value.Elem" 0) ReflectliteValue.elem) #[.agg #[.pointer (some ⟨10, 87, none⟩), .pointer (some a), .int .u64 150]]).run Tryd.prog w = .ok (.agg #[.pointer (some ⟨10, 72, none⟩), .pointer (some T), .int .u64 406]) w := by
  rw [method_one _ _ _ _ _ _ w (parts_T a w)]
  simp [ReflectliteValue.elem, loadVar, agg_T, h, elem_of, mk_E, ReflectliteValue.flagAddr, go_sem]
theorem set_TV (T b p : Addr) (u : Value) (w : World) (h : w.cell? b = some (.pointer (some p))) (hT : w.cell? T = some u) (hf : w.frozen? T = false) : (ReflectliteValue.set #[.agg #[.pointer (some ⟨10, 72, none⟩), .pointer (some T), .int .u64 406], .agg #[.pointer (some ⟨10, 72, none⟩), .pointer (some b), .int .u64 150]]).run Tryd.prog w = .ok (.tuple #[]) (w.setCell T (.pointer (some p))) := by
  have e : ReflectliteValue.set #[.agg #[.pointer (some ⟨10, 72, none⟩), .pointer (some T), .int .u64 406], .agg #[.pointer (some ⟨10, 72, none⟩), .pointer (some b), .int .u64 150]] = (ReflectliteValue.parts (.agg #[.pointer (some ⟨10, 72, none⟩), .pointer (some T), .int .u64 406]) >>= _) := rfl
  rw [e, Sem.run_bind, parts_E]
  have hg : ∀ (n : Nat) (x y : Value) (h1 : (#[x, y] : Array Value).size = n) (h2 : 1 < n), (#[x, y] : Array Value).getLit 1 h1 h2 = y := fun _ _ _ _ _ => rfl
  simp only [Result.andThen_ok, Sem.run_bind, hg, parts_F]
  simp [loadVar, agg_F, h, dir_F, storeVar, size_F, ReflectliteValue.flagAddr, hT, hf, storeCells, go_sem]
set_option maxHeartbeats 2000000 in
theorem as_fault (p T : Nat) (u : Value) (w : World) (hT : w.heap[T]? = some (.cells #[u] 72 (0, 0))) (hE : w.cell? ⟨9, 0, none⟩ = some (.iface 94 (.agg #[.pointer (some ⟨10, 38, none⟩)]))) :
    Calls Tryd.prog 36 #[.iface 72 (.pointer (some ⟨p, 0, none⟩)), .iface 87 (.pointer (some ⟨T, 0, none⟩))] w fun e w' => e = .returned (.bool true) ∧ Blk w' T 72 #[.pointer (some ⟨p, 0, none⟩)] ∧ Keeps (fun b => b = T) w w' := by
  have h42 := @run_callFunc_extern Tryd.prog 42 _ (fun args => ReflectliteValue.unpack (args.getD 0 (.tuple #[]))) Tryd.func42 (by kernel_rfl) (by kernel_rfl) (by kernel_rfl) (by kernel_rfl)
  have h43 := @run_callFunc_extern Tryd.prog 43 _ (ReflectliteValue.methodAny (ReflectliteValue.valueError "reflectlite.Value.Type" 0) fun t _ _ _ => ReflectliteType.toType t) Tryd.func43 (by kernel_rfl) (by kernel_rfl) (by kernel_rfl) (by kernel_rfl)
  have h44 := @run_callFunc_extern Tryd.prog 44 _ (ReflectliteValue.method (ReflectliteValue.valueError "reflectlite.Value.IsNil" 0) ReflectliteValue.isNil) Tryd.func44 (by kernel_rfl) (by kernel_rfl) (by kernel_rfl) (by kernel_rfl)
  have h46 := @run_callFunc_extern Tryd.prog 46 _ (ReflectliteValue.method (ReflectliteValue.valueError "reflectlite.Value.Elem" 0) ReflectliteValue.elem) Tryd.func46 (by kernel_rfl) (by kernel_rfl) (by kernel_rfl) (by kernel_rfl)
  have h47 := @run_callFunc_extern Tryd.prog 47 _ ReflectliteValue.set Tryd.func47 (by kernel_rfl) (by kernel_rfl) (by kernel_rfl) (by kernel_rfl)
  have h62 := @run_callFunc_extern Tryd.prog 62 _ (ReflectliteType.abiMethod fun t => do pure (.int .u8 (← kind t))) Tryd.func62 (by kernel_rfl) (by kernel_rfl) (by kernel_rfl) (by kernel_rfl)
  have h70 := @run_callFunc_extern Tryd.prog 70 _ (ReflectliteType.method ReflectliteType.elem) Tryd.func70 (by kernel_rfl) (by kernel_rfl) (by kernel_rfl) (by kernel_rfl)
  have h68 := @run_callFunc_extern Tryd.prog 68 _ (ReflectliteType.relation "AssignableTo" ReflectliteType.assignableTo) Tryd.func68 (by kernel_rfl) (by kernel_rfl) (by kernel_rfl) (by kernel_rfl)
  have h71 := @run_callFunc_extern Tryd.prog 71 _ (ReflectliteType.relation "Implements" ReflectliteType.implements_) Tryd.func71 (by kernel_rfl) (by kernel_rfl) (by kernel_rfl) (by kernel_rfl)
  have y3 := mImpl
  have y4 := impl_F
  have h33 := @run_callFunc_extern Tryd.prog 33 _ Extern.ReflectliteType.typeOf Tryd.func33 (by kernel_rfl) (by kernel_rfl) (by kernel_rfl) (by kernel_rfl)
  have x1 := valueOf_T
  have x2 := valueOf_F
  have x3 := type_T
  have x4 := mKind
  have x5 := mElem
  have x6 := mAssign
  have x7 := kind_T
  have x8 := kind_F
  have x9 := elem_T
  have y1 := typeOf_F
  have y2 := assign_F
  go_enter Tryd.func36, Tryd.ntmps36
  have hlt : T < w.heap.size := by
    rcases Nat.lt_or_ge T w.heap.size with h | h
    · exact h
    · rw [Array.getElem?_eq_none h] at hT; cases hT
  obtain ⟨W2, hW2⟩ : ∃ W2, (w.alloc (.cells #[.pointer (some ⟨T, 0, none⟩)] 87)).alloc (.cells #[.pointer (some ⟨10, 87, none⟩), .pointer (some ⟨w.heap.size, 0, none⟩), .int .u64 150] 106) = W2 := ⟨_, rfl⟩
  have c0 : W2.cell? ⟨w.heap.size, 0, none⟩ = some (.pointer (some ⟨T, 0, none⟩)) := by
    rw [← hW2]; exact ((Blk.new w 87 #[.pointer (some ⟨T, 0, none⟩)]).alloc _).cell 0
  have n1 := isNil_T ⟨w.heap.size, 0, none⟩ ⟨T, 0, none⟩ W2 c0
  have c1 : W2.cell? ⟨w.heap.size + 1, 0, none⟩ = some (.pointer (some ⟨10, 87, none⟩)) ∧ W2.cell? ⟨w.heap.size + 1, 1, none⟩ = some (.pointer (some ⟨w.heap.size, 0, none⟩)) ∧ W2.cell? ⟨w.heap.size + 1, 2, none⟩ = some (.int .u64 150) := by
    have := Blk.new (w.alloc (.cells #[.pointer (some ⟨T, 0, none⟩)] 87)) 106 #[.pointer (some ⟨10, 87, none⟩), .pointer (some ⟨w.heap.size, 0, none⟩), .int .u64 150]
    rw [hW2, show (w.alloc (.cells #[.pointer (some ⟨T, 0, none⟩)] 87)).heap.size = w.heap.size + 1 by simp] at this
    exact ⟨this.cell 0, this.cell 1, this.cell 2⟩
  have HT2 : Blk W2 T 72 #[u] := by rw [← hW2]; exact (Blk.alloc (show Blk w T 72 #[u] from hT) _).alloc _
  have hE2 : W2.cell? ⟨9, 0, none⟩ = some (.iface 94 (.agg #[.pointer (some ⟨10, 38, none⟩)])) := by
    rw [← hW2]; exact (World.cell?_alloc_some _ _ _ (by rw [World.cell?_alloc_some _ _ _ (by simp [hE]), hE]; rfl)).trans ((World.cell?_alloc_some _ _ _ (by simp [hE])).trans hE)
  clear hE
  have hs2 : W2.heap.size = w.heap.size + 2 := by rw [← hW2]; simp
  obtain ⟨c10, c11, c12⟩ := c1
  obtain ⟨W3, hW3⟩ : ∃ W3, W2.alloc (.cells #[.pointer (some ⟨10, 87, none⟩), .pointer (some ⟨w.heap.size, 0, none⟩), .int .u64 150] 106) = W3 := ⟨_, rfl⟩
  have d0 : W3.cell? ⟨w.heap.size, 0, none⟩ = some (.pointer (some ⟨T, 0, none⟩)) := by
    rw [← hW3, World.cell?_alloc_lt _ _ _ (by simp only; omega)]; exact c0
  have n2 := elem_TV ⟨w.heap.size, 0, none⟩ ⟨T, 0, none⟩ W3 d0
  have d1 : W3.cell? ⟨W2.heap.size, 0, none⟩ = some (.pointer (some ⟨10, 87, none⟩)) ∧ W3.cell? ⟨W2.heap.size, 1, none⟩ = some (.pointer (some ⟨w.heap.size, 0, none⟩)) ∧ W3.cell? ⟨W2.heap.size, 2, none⟩ = some (.int .u64 150) := by
    have := Blk.new W2 106 #[.pointer (some ⟨10, 87, none⟩), .pointer (some ⟨w.heap.size, 0, none⟩), .int .u64 150]
    rw [hW3] at this
    exact ⟨this.cell 0, this.cell 1, this.cell 2⟩
  have HT3 : Blk W3 T 72 #[u] := by rw [← hW3]; exact HT2.alloc _
  obtain ⟨W4, hW4⟩ : ∃ W4, W3.alloc (.cells #[.pointer (some ⟨p, 0, none⟩)] 72) = W4 := ⟨_, rfl⟩
  have HT4 : Blk W4 T 72 #[u] := by rw [← hW4]; exact HT3.alloc _
  have HS4 : Blk W4 W3.heap.size 72 #[.pointer (some ⟨p, 0, none⟩)] := by rw [← hW4]; exact Blk.new _ _ _
  have n3 := set_TV ⟨T, 0, none⟩ ⟨W3.heap.size, 0, none⟩ ⟨p, 0, none⟩ u W4 (HS4.cell 0) (HT4.cell 0) (HT4.frozen 0)
  have K4 : Keeps (fun _ => False) w W4 := by
    rw [← hW4, ← hW3, ← hW2]
    exact ((((Keeps.refl _ w).alloc _).alloc _).alloc _).alloc _
  have HX := Lib.hid (And.intro HT4 K4)
  obtain ⟨d10, d11, d12⟩ := d1
  clear HT2 HT3 HT4 HS4 K4 hs2 hT hlt
  go_wp2
  refine wp_loop_rounds 1 ?_
  rw [rounds_succ]
  go_wp2
  go_ret
  exact ⟨rfl, by simpa using HX.out.1.set_ 0 (.pointer (some ⟨p, 0, none⟩)), Keeps.setCell (S := fun b => b = T) (p := ⟨T, 0, none⟩) (HX.out.2.mono (fun b h => h.elim)) (Or.inl rfl) _⟩
end Go.Proofs.YthilkgfbaddjpaaDoor
