/-
  maps.Keys over the memory's map, its iterator, slices.Collect and slices.AppendSeq: the keys come once each, in some order, as a new slice.
-/
import Derived.Test.YtdihlmhipkcedaaKf
import Derived.RangeFuncFrom
import Derived.RangeFuncBox
import Derived.RangeFuncNested
import Derived.RangeFuncBound
import Derived.RangeFuncCalls
import Derived.RangeFuncLeaves
import Derived.Shelf.Abstract
import Derived.Shelf.RegionOpen
import Derived.OwnWalkIn
import Derived.TacticsInMore
import Derived.LoopNIn
import Derived.LoopIn
import Derived.Maps.AppendAt
import Derived.Maps.RangeWalk
import Derived.Sort.MapsRangeIn
import Derived.Laws.IdiomRangeMap
import Derived.CallsIn
namespace Go.Proofs.Ytdihlmhipkcedaa
open Go Go.RowKit Go.Maps Go.Shelf
set_option linter.unusedVariables false
attribute [local go_sem] Oper.semAt_some

abbrev encU (n : Nat) : Value := .int .u32 (n : Int)
/-- These are the map's keys, each once. -/
def KeysOf (D : DataW Value) (ss : List Nat) : Prop := ss.Nodup ∧ ∀ n : Nat, n ∈ ss ↔ Maps.has D (.int .u32 (n : Int)) = true
theorem key32_inv {key : Value} {kl : Lit} (h : keyOf Try.prog 48 key = some kl) : ∃ n : Nat, key = encU n ∧ kl = .int .u32 (n : Int) ∧ n ≤ 4294967295 := by
  obtain ⟨x, rfl, rfl, hw⟩ := Maps.keyOf_int_inv Try.underlying48 h
  have : 0 ≤ x ∧ x ≤ 4294967295 := by simp [Lit.wf, IntKind.min, IntKind.max, IntKind.bits, IntKind.signed] at hw; omega
  obtain ⟨n, rfl⟩ := Int.eq_ofNat_of_zero_le this.1
  exact ⟨n, rfl, rfl, by omega⟩
theorem encU_inj {m n : Nat} (h : encU m = encU n) : m = n := by
  unfold encU at h
  injection h with _ h
  omega

theorem info32 : (Try.prog.info? 48).map (fun i => (i.zero, i.size, i.bytes)) = some (some (.int .u32 0), 1, 4) := by kernel_rfl
/-- A new slice of what came, nil just where nothing came. -/
def NewRow (w : World) (S : List Nat → Prop) (e : Ending) (w' : World) : Prop :=
  ∃ (v : Value) (ss : List Nat), e = .returned v ∧ S ss ∧ w'.ownsRow w.heap.size 48 1 v ss.length (ss.map encU) ∧ (v = .slice none 0 0 ↔ ss = []) ∧ Below w.heap.size w w'
end Go.Proofs.Ytdihlmhipkcedaa
