/-
  The tables of package asm, as the program lays them. The laws' condition on the listed variables, opened: package asm's tables and the table of powers of ten lie as the program's text lays them; a world that meets it. The laws' arguments, opened: a list of slots, and how many.
-/
import Derived.Test.YtemiklbkfogjeaaGreatDoorQ03
import Derived.Test.YtemiklbkfogjeaaGreatDoorQ00
import Derived.Test.YtemiklbkfogjeaaGreatDoorQ01
import Derived.Deep.Cut
import Derived.Deep.RegionHeld3
import Derived.Deep.RegionLaw
import Derived.Test.YtemiklbkfogjeaaGreatDoorRows
import Derived.Deep.DeepHandedRow
import Derived.Lib.LaidTab
import Derived.ChangeMaps5
import Derived.ProofKit
import Derived.OpenShut
import Derived.LaidMore
import Derived.LaidOnce
import Derived.Stop.Joined
import Derived.Stop.LaidErr
namespace Go.Proofs.YtemiklbkfogjeaaGreatDoor
open Go Go.RowKit Go.Maps
set_option linter.unusedVariables false
set_option linter.unusedSimpArgs false
set_option maxRecDepth 100000
abbrev operatorsT : TypeId := 124
abbrev operatorsC : Array Value := #[.string ⟨#[43, 61]⟩, .int .i64 0, .int .i64 0, .string ⟨#[45, 61]⟩, .int .i64 16, .int .i64 0, .string ⟨#[42, 61]⟩, .int .i64 32, .int .i64 0, .string ⟨#[47, 61]⟩, .int .i64 48, .int .i64 0, .string ⟨#[115, 47, 61]⟩, .int .i64 48, .int .i64 1, .string ⟨#[124, 61]⟩, .int .i64 64, .int .i64 0, .string ⟨#[38, 61]⟩, .int .i64 80, .int .i64 0, .string ⟨#[60, 60, 61]⟩, .int .i64 96, .int .i64 0, .string ⟨#[62, 62, 61]⟩, .int .i64 112, .int .i64 0, .string ⟨#[37, 61]⟩, .int .i64 144, .int .i64 0, .string ⟨#[115, 37, 61]⟩, .int .i64 144, .int .i64 1, .string ⟨#[94, 61]⟩, .int .i64 160, .int .i64 0, .string ⟨#[61]⟩, .int .i64 176, .int .i64 0, .string ⟨#[115, 62, 62, 61]⟩, .int .i64 192, .int .i64 0]
abbrev operatorsV : Value := .agg operatorsC
abbrev testsT : TypeId := 111
abbrev testsC : Array Value := #[.string ⟨#[61, 61]⟩, .int .i64 16, .string ⟨#[62]⟩, .int .i64 32, .string ⟨#[62, 61]⟩, .int .i64 48, .string ⟨#[38]⟩, .int .i64 64, .string ⟨#[33, 61]⟩, .int .i64 80, .string ⟨#[115, 62]⟩, .int .i64 96, .string ⟨#[115, 62, 61]⟩, .int .i64 112, .string ⟨#[60]⟩, .int .i64 160, .string ⟨#[60, 61]⟩, .int .i64 176, .string ⟨#[115, 60]⟩, .int .i64 192, .string ⟨#[115, 60, 61]⟩, .int .i64 208]
abbrev testsV : Value := .agg testsC
abbrev turnsT : TypeId := 127
abbrev turnsC : Array Value := #[.string ⟨#[108, 101]⟩, .int .i64 212, .string ⟨#[98, 101]⟩, .int .i64 220, .string ⟨#[98, 115, 119, 97, 112]⟩, .int .i64 215]
abbrev turnsV : Value := .agg turnsC
abbrev locksT : TypeId := 120
abbrev locksC : Array Value := #[.string ⟨#[43, 61]⟩, .int .i64 0, .bool true, .string ⟨#[124, 61]⟩, .int .i64 64, .bool true, .string ⟨#[38, 61]⟩, .int .i64 80, .bool true, .string ⟨#[94, 61]⟩, .int .i64 160, .bool true, .string ⟨#[120, 99, 104, 103]⟩, .int .i64 225, .bool false, .string ⟨#[99, 109, 112, 120, 99, 104, 103]⟩, .int .i64 241, .bool false]
abbrev locksV : Value := .agg locksC
abbrev movesT : TypeId := 141
abbrev movesC : Array Value := #[.string ⟨#[117, 51, 50]⟩, .int .i64 96, .int .i64 0, .string ⟨#[117, 49, 54]⟩, .int .i64 96, .int .i64 8, .string ⟨#[117, 56]⟩, .int .i64 96, .int .i64 16, .string ⟨#[117, 54, 52]⟩, .int .i64 96, .int .i64 24, .string ⟨#[115, 51, 50]⟩, .int .i64 128, .int .i64 0, .string ⟨#[115, 49, 54]⟩, .int .i64 128, .int .i64 8, .string ⟨#[115, 56]⟩, .int .i64 128, .int .i64 16]
abbrev movesV : Value := .agg movesC
abbrev turnBitsT : TypeId := 128
abbrev turnBitsC : Array Value := #[.int .i64 16, .int .i64 32, .int .i64 64]
abbrev turnBitsV : Value := .agg #[.int .i64 16, .int .i64 32, .int .i64 64]
structure Tabs (w : World) : Prop where
 pow : Pow w
 operators : ∃ t, Blk w 5 t operatorsC
 tests : ∃ t, Blk w 3 t testsC
 turns : ∃ t, Blk w 6 t turnsC
 locks : ∃ t, Blk w 4 t locksC
 moves : ∃ t, Blk w 8 t movesC
 turnBits : ∃ t, Blk w 7 t turnBitsC
theorem Tabs.below {w w' : World} (h : Tabs w) (hb : Below w.heap.size w w') : Tabs w' :=
 ⟨h.pow.below hb, h.operators.imp fun t h => (hb.block _ (Blk.lt h)).trans h, h.tests.imp fun t h => (hb.block _ (Blk.lt h)).trans h, h.turns.imp fun t h => (hb.block _ (Blk.lt h)).trans h, h.locks.imp fun t h => (hb.block _ (Blk.lt h)).trans h, h.moves.imp fun t h => (hb.block _ (Blk.lt h)).trans h, h.turnBits.imp fun t h => (hb.block _ (Blk.lt h)).trans h⟩
theorem at_operators0 (w : World) : (Instr.index operatorsT operatorsV (.int .i64 0)).run Tryz.prog w = .ok (.agg #[.string ⟨#[43, 61]⟩, .int .i64 0, .int .i64 0]) w := by kernel_rfl
theorem at_operators1 (w : World) : (Instr.index operatorsT operatorsV (.int .i64 1)).run Tryz.prog w = .ok (.agg #[.string ⟨#[45, 61]⟩, .int .i64 16, .int .i64 0]) w := by kernel_rfl
theorem at_operators2 (w : World) : (Instr.index operatorsT operatorsV (.int .i64 2)).run Tryz.prog w = .ok (.agg #[.string ⟨#[42, 61]⟩, .int .i64 32, .int .i64 0]) w := by kernel_rfl
theorem at_operators3 (w : World) : (Instr.index operatorsT operatorsV (.int .i64 3)).run Tryz.prog w = .ok (.agg #[.string ⟨#[47, 61]⟩, .int .i64 48, .int .i64 0]) w := by kernel_rfl
theorem at_operators4 (w : World) : (Instr.index operatorsT operatorsV (.int .i64 4)).run Tryz.prog w = .ok (.agg #[.string ⟨#[115, 47, 61]⟩, .int .i64 48, .int .i64 1]) w := by kernel_rfl
theorem at_operators5 (w : World) : (Instr.index operatorsT operatorsV (.int .i64 5)).run Tryz.prog w = .ok (.agg #[.string ⟨#[124, 61]⟩, .int .i64 64, .int .i64 0]) w := by kernel_rfl
theorem at_operators6 (w : World) : (Instr.index operatorsT operatorsV (.int .i64 6)).run Tryz.prog w = .ok (.agg #[.string ⟨#[38, 61]⟩, .int .i64 80, .int .i64 0]) w := by kernel_rfl
theorem at_operators7 (w : World) : (Instr.index operatorsT operatorsV (.int .i64 7)).run Tryz.prog w = .ok (.agg #[.string ⟨#[60, 60, 61]⟩, .int .i64 96, .int .i64 0]) w := by kernel_rfl
theorem at_operators8 (w : World) : (Instr.index operatorsT operatorsV (.int .i64 8)).run Tryz.prog w = .ok (.agg #[.string ⟨#[62, 62, 61]⟩, .int .i64 112, .int .i64 0]) w := by kernel_rfl
theorem at_operators9 (w : World) : (Instr.index operatorsT operatorsV (.int .i64 9)).run Tryz.prog w = .ok (.agg #[.string ⟨#[37, 61]⟩, .int .i64 144, .int .i64 0]) w := by kernel_rfl
theorem at_operators10 (w : World) : (Instr.index operatorsT operatorsV (.int .i64 10)).run Tryz.prog w = .ok (.agg #[.string ⟨#[115, 37, 61]⟩, .int .i64 144, .int .i64 1]) w := by kernel_rfl
theorem at_operators11 (w : World) : (Instr.index operatorsT operatorsV (.int .i64 11)).run Tryz.prog w = .ok (.agg #[.string ⟨#[94, 61]⟩, .int .i64 160, .int .i64 0]) w := by kernel_rfl
theorem at_operators12 (w : World) : (Instr.index operatorsT operatorsV (.int .i64 12)).run Tryz.prog w = .ok (.agg #[.string ⟨#[61]⟩, .int .i64 176, .int .i64 0]) w := by kernel_rfl
theorem at_operators13 (w : World) : (Instr.index operatorsT operatorsV (.int .i64 13)).run Tryz.prog w = .ok (.agg #[.string ⟨#[115, 62, 62, 61]⟩, .int .i64 192, .int .i64 0]) w := by kernel_rfl
theorem at_tests0 (w : World) : (Instr.index testsT testsV (.int .i64 0)).run Tryz.prog w = .ok (.agg #[.string ⟨#[61, 61]⟩, .int .i64 16]) w := by kernel_rfl
theorem at_tests1 (w : World) : (Instr.index testsT testsV (.int .i64 1)).run Tryz.prog w = .ok (.agg #[.string ⟨#[62]⟩, .int .i64 32]) w := by kernel_rfl
theorem at_tests2 (w : World) : (Instr.index testsT testsV (.int .i64 2)).run Tryz.prog w = .ok (.agg #[.string ⟨#[62, 61]⟩, .int .i64 48]) w := by kernel_rfl
theorem at_tests3 (w : World) : (Instr.index testsT testsV (.int .i64 3)).run Tryz.prog w = .ok (.agg #[.string ⟨#[38]⟩, .int .i64 64]) w := by kernel_rfl
theorem at_tests4 (w : World) : (Instr.index testsT testsV (.int .i64 4)).run Tryz.prog w = .ok (.agg #[.string ⟨#[33, 61]⟩, .int .i64 80]) w := by kernel_rfl
theorem at_tests5 (w : World) : (Instr.index testsT testsV (.int .i64 5)).run Tryz.prog w = .ok (.agg #[.string ⟨#[115, 62]⟩, .int .i64 96]) w := by kernel_rfl
theorem at_tests6 (w : World) : (Instr.index testsT testsV (.int .i64 6)).run Tryz.prog w = .ok (.agg #[.string ⟨#[115, 62, 61]⟩, .int .i64 112]) w := by kernel_rfl
theorem at_tests7 (w : World) : (Instr.index testsT testsV (.int .i64 7)).run Tryz.prog w = .ok (.agg #[.string ⟨#[60]⟩, .int .i64 160]) w := by kernel_rfl
theorem at_tests8 (w : World) : (Instr.index testsT testsV (.int .i64 8)).run Tryz.prog w = .ok (.agg #[.string ⟨#[60, 61]⟩, .int .i64 176]) w := by kernel_rfl
theorem at_tests9 (w : World) : (Instr.index testsT testsV (.int .i64 9)).run Tryz.prog w = .ok (.agg #[.string ⟨#[115, 60]⟩, .int .i64 192]) w := by kernel_rfl
theorem at_tests10 (w : World) : (Instr.index testsT testsV (.int .i64 10)).run Tryz.prog w = .ok (.agg #[.string ⟨#[115, 60, 61]⟩, .int .i64 208]) w := by kernel_rfl
theorem at_turns0 (w : World) : (Instr.index turnsT turnsV (.int .i64 0)).run Tryz.prog w = .ok (.agg #[.string ⟨#[108, 101]⟩, .int .i64 212]) w := by kernel_rfl
theorem at_turns1 (w : World) : (Instr.index turnsT turnsV (.int .i64 1)).run Tryz.prog w = .ok (.agg #[.string ⟨#[98, 101]⟩, .int .i64 220]) w := by kernel_rfl
theorem at_turns2 (w : World) : (Instr.index turnsT turnsV (.int .i64 2)).run Tryz.prog w = .ok (.agg #[.string ⟨#[98, 115, 119, 97, 112]⟩, .int .i64 215]) w := by kernel_rfl
theorem at_locks0 (w : World) : (Instr.index locksT locksV (.int .i64 0)).run Tryz.prog w = .ok (.agg #[.string ⟨#[43, 61]⟩, .int .i64 0, .bool true]) w := by kernel_rfl
theorem at_locks1 (w : World) : (Instr.index locksT locksV (.int .i64 1)).run Tryz.prog w = .ok (.agg #[.string ⟨#[124, 61]⟩, .int .i64 64, .bool true]) w := by kernel_rfl
theorem at_locks2 (w : World) : (Instr.index locksT locksV (.int .i64 2)).run Tryz.prog w = .ok (.agg #[.string ⟨#[38, 61]⟩, .int .i64 80, .bool true]) w := by kernel_rfl
theorem at_locks3 (w : World) : (Instr.index locksT locksV (.int .i64 3)).run Tryz.prog w = .ok (.agg #[.string ⟨#[94, 61]⟩, .int .i64 160, .bool true]) w := by kernel_rfl
theorem at_locks4 (w : World) : (Instr.index locksT locksV (.int .i64 4)).run Tryz.prog w = .ok (.agg #[.string ⟨#[120, 99, 104, 103]⟩, .int .i64 225, .bool false]) w := by kernel_rfl
theorem at_locks5 (w : World) : (Instr.index locksT locksV (.int .i64 5)).run Tryz.prog w = .ok (.agg #[.string ⟨#[99, 109, 112, 120, 99, 104, 103]⟩, .int .i64 241, .bool false]) w := by kernel_rfl
theorem at_moves0 (w : World) : (Instr.index movesT movesV (.int .i64 0)).run Tryz.prog w = .ok (.agg #[.string ⟨#[117, 51, 50]⟩, .int .i64 96, .int .i64 0]) w := by kernel_rfl
theorem at_moves1 (w : World) : (Instr.index movesT movesV (.int .i64 1)).run Tryz.prog w = .ok (.agg #[.string ⟨#[117, 49, 54]⟩, .int .i64 96, .int .i64 8]) w := by kernel_rfl
theorem at_moves2 (w : World) : (Instr.index movesT movesV (.int .i64 2)).run Tryz.prog w = .ok (.agg #[.string ⟨#[117, 56]⟩, .int .i64 96, .int .i64 16]) w := by kernel_rfl
theorem at_moves3 (w : World) : (Instr.index movesT movesV (.int .i64 3)).run Tryz.prog w = .ok (.agg #[.string ⟨#[117, 54, 52]⟩, .int .i64 96, .int .i64 24]) w := by kernel_rfl
theorem at_moves4 (w : World) : (Instr.index movesT movesV (.int .i64 4)).run Tryz.prog w = .ok (.agg #[.string ⟨#[115, 51, 50]⟩, .int .i64 128, .int .i64 0]) w := by kernel_rfl
theorem at_moves5 (w : World) : (Instr.index movesT movesV (.int .i64 5)).run Tryz.prog w = .ok (.agg #[.string ⟨#[115, 49, 54]⟩, .int .i64 128, .int .i64 8]) w := by kernel_rfl
theorem at_moves6 (w : World) : (Instr.index movesT movesV (.int .i64 6)).run Tryz.prog w = .ok (.agg #[.string ⟨#[115, 56]⟩, .int .i64 128, .int .i64 16]) w := by kernel_rfl
theorem at_turnBits0 (w : World) : (Instr.index turnBitsT turnBitsV (.int .i64 0)).run Tryz.prog w = .ok (.int .i64 16) w := by kernel_rfl
theorem at_turnBits1 (w : World) : (Instr.index turnBitsT turnBitsV (.int .i64 1)).run Tryz.prog w = .ok (.int .i64 32) w := by kernel_rfl
theorem at_turnBits2 (w : World) : (Instr.index turnBitsT turnBitsV (.int .i64 2)).run Tryz.prog w = .ok (.int .i64 64) w := by kernel_rfl
def operL : List (ByteArray × Int × Int) := [(⟨#[43, 61]⟩, 0, 0), (⟨#[45, 61]⟩, 16, 0), (⟨#[42, 61]⟩, 32, 0), (⟨#[47, 61]⟩, 48, 0), (⟨#[115, 47, 61]⟩, 48, 1), (⟨#[124, 61]⟩, 64, 0), (⟨#[38, 61]⟩, 80, 0), (⟨#[60, 60, 61]⟩, 96, 0), (⟨#[62, 62, 61]⟩, 112, 0), (⟨#[37, 61]⟩, 144, 0), (⟨#[115, 37, 61]⟩, 144, 1), (⟨#[94, 61]⟩, 160, 0), (⟨#[61]⟩, 176, 0), (⟨#[115, 62, 62, 61]⟩, 192, 0)]
theorem at_operators : ∀ k : Nat, k < 14 → ∃ nm md sz, operL[k]? = some (nm, md, sz) ∧ (nm.size ≤ 4) ∧ ∀ w, (Instr.index operatorsT (.agg operatorsC) (.int .i64 (k : Int))).run Tryz.prog w = .ok (.agg #[.string nm, .int .i64 md, .int .i64 sz]) w
 | 0, _ => ⟨_, _, _, rfl, by decide, at_operators0⟩
 | 1, _ => ⟨_, _, _, rfl, by decide, at_operators1⟩
 | 2, _ => ⟨_, _, _, rfl, by decide, at_operators2⟩
 | 3, _ => ⟨_, _, _, rfl, by decide, at_operators3⟩
 | 4, _ => ⟨_, _, _, rfl, by decide, at_operators4⟩
 | 5, _ => ⟨_, _, _, rfl, by decide, at_operators5⟩
 | 6, _ => ⟨_, _, _, rfl, by decide, at_operators6⟩
 | 7, _ => ⟨_, _, _, rfl, by decide, at_operators7⟩
 | 8, _ => ⟨_, _, _, rfl, by decide, at_operators8⟩
 | 9, _ => ⟨_, _, _, rfl, by decide, at_operators9⟩
 | 10, _ => ⟨_, _, _, rfl, by decide, at_operators10⟩
 | 11, _ => ⟨_, _, _, rfl, by decide, at_operators11⟩
 | 12, _ => ⟨_, _, _, rfl, by decide, at_operators12⟩
 | 13, _ => ⟨_, _, _, rfl, by decide, at_operators13⟩
 | k + 14, h => absurd h (by omega)
theorem Tabs.operators_any {w : World} (h : Tabs w) : ∃ (t : TypeId) (cs : Array Value), Blk w 5 t cs ∧ (Tryz.prog.info? operatorsT).map (·.size) = some cs.size ∧ ∀ k : Nat, k < 14 → ∃ nm md sz, operL[k]? = some (nm, md, sz) ∧ (nm.size ≤ 4) ∧ ∀ w, (Instr.index operatorsT (.agg cs) (.int .i64 (k : Int))).run Tryz.prog w = .ok (.agg #[.string nm, .int .i64 md, .int .i64 sz]) w :=
 let ⟨t, hB⟩ := h.operators; ⟨t, operatorsC, hB, by kernel_rfl, at_operators⟩
def testL : List (ByteArray × Int) := [(⟨#[61, 61]⟩, 16), (⟨#[62]⟩, 32), (⟨#[62, 61]⟩, 48), (⟨#[38]⟩, 64), (⟨#[33, 61]⟩, 80), (⟨#[115, 62]⟩, 96), (⟨#[115, 62, 61]⟩, 112), (⟨#[60]⟩, 160), (⟨#[60, 61]⟩, 176), (⟨#[115, 60]⟩, 192), (⟨#[115, 60, 61]⟩, 208)]
theorem at_tests : ∀ k : Nat, k < 11 → ∃ nm md, testL[k]? = some (nm, md) ∧ (nm.size ≤ 3) ∧ ∀ w, (Instr.index testsT (.agg testsC) (.int .i64 (k : Int))).run Tryz.prog w = .ok (.agg #[.string nm, .int .i64 md]) w
 | 0, _ => ⟨_, _, rfl, by decide, at_tests0⟩
 | 1, _ => ⟨_, _, rfl, by decide, at_tests1⟩
 | 2, _ => ⟨_, _, rfl, by decide, at_tests2⟩
 | 3, _ => ⟨_, _, rfl, by decide, at_tests3⟩
 | 4, _ => ⟨_, _, rfl, by decide, at_tests4⟩
 | 5, _ => ⟨_, _, rfl, by decide, at_tests5⟩
 | 6, _ => ⟨_, _, rfl, by decide, at_tests6⟩
 | 7, _ => ⟨_, _, rfl, by decide, at_tests7⟩
 | 8, _ => ⟨_, _, rfl, by decide, at_tests8⟩
 | 9, _ => ⟨_, _, rfl, by decide, at_tests9⟩
 | 10, _ => ⟨_, _, rfl, by decide, at_tests10⟩
 | k + 11, h => absurd h (by omega)
theorem Tabs.tests_any {w : World} (h : Tabs w) : ∃ (t : TypeId) (cs : Array Value), Blk w 3 t cs ∧ (Tryz.prog.info? testsT).map (·.size) = some cs.size ∧ ∀ k : Nat, k < 11 → ∃ nm md, testL[k]? = some (nm, md) ∧ (nm.size ≤ 3) ∧ ∀ w, (Instr.index testsT (.agg cs) (.int .i64 (k : Int))).run Tryz.prog w = .ok (.agg #[.string nm, .int .i64 md]) w :=
 let ⟨t, hB⟩ := h.tests; ⟨t, testsC, hB, by kernel_rfl, at_tests⟩
def turnL : List (ByteArray × Int) := [(⟨#[108, 101]⟩, 212), (⟨#[98, 101]⟩, 220), (⟨#[98, 115, 119, 97, 112]⟩, 215)]
theorem at_turns : ∀ k : Nat, k < 3 → ∃ nm md, turnL[k]? = some (nm, md) ∧ (nm.size ≤ 5) ∧ ∀ w, (Instr.index turnsT (.agg turnsC) (.int .i64 (k : Int))).run Tryz.prog w = .ok (.agg #[.string nm, .int .i64 md]) w
 | 0, _ => ⟨_, _, rfl, by decide, at_turns0⟩
 | 1, _ => ⟨_, _, rfl, by decide, at_turns1⟩
 | 2, _ => ⟨_, _, rfl, by decide, at_turns2⟩
 | k + 3, h => absurd h (by omega)
theorem Tabs.turns_any {w : World} (h : Tabs w) : ∃ (t : TypeId) (cs : Array Value), Blk w 6 t cs ∧ (Tryz.prog.info? turnsT).map (·.size) = some cs.size ∧ ∀ k : Nat, k < 3 → ∃ nm md, turnL[k]? = some (nm, md) ∧ (nm.size ≤ 5) ∧ ∀ w, (Instr.index turnsT (.agg cs) (.int .i64 (k : Int))).run Tryz.prog w = .ok (.agg #[.string nm, .int .i64 md]) w :=
 let ⟨t, hB⟩ := h.turns; ⟨t, turnsC, hB, by kernel_rfl, at_turns⟩
def lockL : List (ByteArray × Int × Bool) := [(⟨#[43, 61]⟩, 0, true), (⟨#[124, 61]⟩, 64, true), (⟨#[38, 61]⟩, 80, true), (⟨#[94, 61]⟩, 160, true), (⟨#[120, 99, 104, 103]⟩, 225, false), (⟨#[99, 109, 112, 120, 99, 104, 103]⟩, 241, false)]
theorem at_locks : ∀ k : Nat, k < 6 → ∃ nm md sz, lockL[k]? = some (nm, md, sz) ∧ (nm.size ≤ 7 ∧ 0 ≤ md ∧ md ≤ 241) ∧ ∀ w, (Instr.index locksT (.agg locksC) (.int .i64 (k : Int))).run Tryz.prog w = .ok (.agg #[.string nm, .int .i64 md, .bool sz]) w
 | 0, _ => ⟨_, _, _, rfl, by decide, at_locks0⟩
 | 1, _ => ⟨_, _, _, rfl, by decide, at_locks1⟩
 | 2, _ => ⟨_, _, _, rfl, by decide, at_locks2⟩
 | 3, _ => ⟨_, _, _, rfl, by decide, at_locks3⟩
 | 4, _ => ⟨_, _, _, rfl, by decide, at_locks4⟩
 | 5, _ => ⟨_, _, _, rfl, by decide, at_locks5⟩
 | k + 6, h => absurd h (by omega)
theorem Tabs.locks_any {w : World} (h : Tabs w) : ∃ (t : TypeId) (cs : Array Value), Blk w 4 t cs ∧ (Tryz.prog.info? locksT).map (·.size) = some cs.size ∧ ∀ k : Nat, k < 6 → ∃ nm md sz, lockL[k]? = some (nm, md, sz) ∧ (nm.size ≤ 7 ∧ 0 ≤ md ∧ md ≤ 241) ∧ ∀ w, (Instr.index locksT (.agg cs) (.int .i64 (k : Int))).run Tryz.prog w = .ok (.agg #[.string nm, .int .i64 md, .bool sz]) w :=
 let ⟨t, hB⟩ := h.locks; ⟨t, locksC, hB, by kernel_rfl, at_locks⟩
def moveL : List (ByteArray × Int × Int) := [(⟨#[117, 51, 50]⟩, 96, 0), (⟨#[117, 49, 54]⟩, 96, 8), (⟨#[117, 56]⟩, 96, 16), (⟨#[117, 54, 52]⟩, 96, 24), (⟨#[115, 51, 50]⟩, 128, 0), (⟨#[115, 49, 54]⟩, 128, 8), (⟨#[115, 56]⟩, 128, 16)]
theorem at_moves : ∀ k : Nat, k < 7 → ∃ nm md sz, moveL[k]? = some (nm, md, sz) ∧ (nm.size ≤ 3) ∧ ∀ w, (Instr.index movesT (.agg movesC) (.int .i64 (k : Int))).run Tryz.prog w = .ok (.agg #[.string nm, .int .i64 md, .int .i64 sz]) w
 | 0, _ => ⟨_, _, _, rfl, by decide, at_moves0⟩
 | 1, _ => ⟨_, _, _, rfl, by decide, at_moves1⟩
 | 2, _ => ⟨_, _, _, rfl, by decide, at_moves2⟩
 | 3, _ => ⟨_, _, _, rfl, by decide, at_moves3⟩
 | 4, _ => ⟨_, _, _, rfl, by decide, at_moves4⟩
 | 5, _ => ⟨_, _, _, rfl, by decide, at_moves5⟩
 | 6, _ => ⟨_, _, _, rfl, by decide, at_moves6⟩
 | k + 7, h => absurd h (by omega)
theorem Tabs.moves_any {w : World} (h : Tabs w) : ∃ (t : TypeId) (cs : Array Value), Blk w 8 t cs ∧ (Tryz.prog.info? movesT).map (·.size) = some cs.size ∧ ∀ k : Nat, k < 7 → ∃ nm md sz, moveL[k]? = some (nm, md, sz) ∧ (nm.size ≤ 3) ∧ ∀ w, (Instr.index movesT (.agg cs) (.int .i64 (k : Int))).run Tryz.prog w = .ok (.agg #[.string nm, .int .i64 md, .int .i64 sz]) w :=
 let ⟨t, hB⟩ := h.moves; ⟨t, movesC, hB, by kernel_rfl, at_moves⟩
theorem at_turnBits : ∀ k : Nat, k < 3 → ∃ n : Int, [(16 : Int), 32, 64][k]? = some n ∧ ∀ w, (Instr.index turnBitsT (.agg turnBitsC) (.int .i64 (k : Int))).run Tryz.prog w = .ok (.int .i64 n) w
 | 0, _ => ⟨_, rfl, at_turnBits0⟩
 | 1, _ => ⟨_, rfl, at_turnBits1⟩
 | 2, _ => ⟨_, rfl, at_turnBits2⟩
 | k + 3, h => absurd h (by omega)
theorem Tabs.turnBits_any {w : World} (h : Tabs w) : ∃ (t : TypeId) (cs : Array Value), Blk w 7 t cs ∧ (Tryz.prog.info? turnBitsT).map (·.size) = some cs.size ∧ ∀ k : Nat, k < 3 → ∃ n : Int, [(16 : Int), 32, 64][k]? = some n ∧ ∀ w, (Instr.index turnBitsT (.agg cs) (.int .i64 (k : Int))).run Tryz.prog w = .ok (.int .i64 n) w :=
 let ⟨t, hB⟩ := h.turnBits; ⟨t, turnBitsC, hB, by kernel_rfl, at_turnBits⟩
end Go.Proofs.YtemiklbkfogjeaaGreatDoor
namespace Go.Proofs.YtemiklbkfogjeaaGreatDoor
open Go Go.RowKit Go.WideShapes Go.ChangeShapes Go.WideElems Go.Deep
set_option linter.unusedVariables false
set_option linter.unusedSimpArgs false
set_option maxRecDepth 100000
theorem own : ownKnob Tryz.prog.godebug = none := by kernel_rfl
theorem laidOut : laidOutB Tryz.prog = true := by kernel_rfl
abbrev laidA : List (String × DataW Unit) := [("math/bits.deBruijn32tab", Rows.laid_math_bits_deBruijn32tab), ("math/bits.deBruijn64tab", Rows.laid_math_bits_deBruijn64tab), ("internal/strconv.uint64pow10", Rows.laid_internal_strconv_uint64pow10), ("unicode/utf8.acceptRanges", Rows.laid_unicode_utf8_acceptRanges), ("portcullis/asm.operators", Rows.laid_portcullis_asm_operators), ("portcullis/asm.tests", Rows.laid_portcullis_asm_tests), ("portcullis/asm.turns", Rows.laid_portcullis_asm_turns), ("portcullis/asm.turnBits", Rows.laid_portcullis_asm_turnBits), ("portcullis/asm.locks", Rows.laid_portcullis_asm_locks), ("portcullis/asm.moves", Rows.laid_portcullis_asm_moves), ("unicode/utf8.first", Rows.laid_unicode_utf8_first)]
/-- A listed variable's block, where its datum tells its cells. -/
theorem laid_row {P : Program} {n : String} {d : DataW Unit} {r : List (String × DataW Unit)} {W : World} {g : Nat} {ti : TypeId} {fu : Nat} {l : List Value} (h : laidMet P ((n, d) :: r) W) (hg : P.globalNamed n = some g)
  (ht : (P.globals[g]?).map (·.type) = some ti) (hb : back P fu ti d = some l) (hne : 0 < l.length) : ∃ t, Blk W g t l.toArray := by
 obtain ⟨ps, ⟨g0, t0, cs, f, p, q, hg0, ht0, hv, hd, _, e0⟩, _, hrows⟩ := h
 obtain rfl := Option.some.inj (hg.symm.trans hg0)
 obtain rfl := Option.some.inj (ht.symm.trans ht0)
 have hcs : cs.toList = l := back_of_trod fu f _ _ _ _ hd hb
 have hsz : 0 < cs.size := by rw [← Array.length_toList, hcs]; exact hne
 have hmem : MemPlace.cell g 0 ∈ ps := by
  rw [e0]
  refine List.mem_append.2 (.inl (List.mem_append.2 (.inl ?_)))
  unfold MemPlace.row
  exact List.mem_map.2 ⟨0, List.mem_range.2 hsz, rfl⟩
 obtain ⟨⟨c, t, hc⟩, _⟩ := hrows g 0 hmem
 unfold World.var? at hv
 rw [hg] at hv
 simp only [Option.bind_some, hc, Option.some.injEq] at hv
 refine ⟨t, ?_⟩
 unfold Blk
 rw [hc, hv, ← hcs]
theorem tabs_of_laid {W : World} (h : laidMetH Tryz.prog laidA W) : Tabs W := by
 rw [MakeChecks.laidMetH_plain _ _ _ (by kernel_rfl)] at h
 have h2 := h.tail.tail
 have h4 := h2.tail.tail
 have T : Pow W := Lib.tabIs_of_head (rest := _) (show Tryz.prog.globalNamed "internal/strconv.uint64pow10" = some 9 by kernel_rfl) (show (Tryz.prog.globals[9]?).map (·.type) = some 155 by kernel_rfl) Tryz.underlying155 Tryz.underlying73 (by kernel_rfl) (by kernel_rfl) h2
 exact ⟨T, laid_row (fu := 4) h4 (show Tryz.prog.globalNamed "portcullis/asm.operators" = some 5 by kernel_rfl) (show (Tryz.prog.globals[5]?).map (·.type) = some operatorsT by kernel_rfl) (show back Tryz.prog 4 operatorsT Rows.laid_portcullis_asm_operators = some operatorsC.toList by kernel_rfl) (by decide),
  laid_row (fu := 4) h4.tail (show Tryz.prog.globalNamed "portcullis/asm.tests" = some 3 by kernel_rfl) (show (Tryz.prog.globals[3]?).map (·.type) = some testsT by kernel_rfl) (show back Tryz.prog 4 testsT Rows.laid_portcullis_asm_tests = some testsC.toList by kernel_rfl) (by decide),
  laid_row (fu := 4) h4.tail.tail (show Tryz.prog.globalNamed "portcullis/asm.turns" = some 6 by kernel_rfl) (show (Tryz.prog.globals[6]?).map (·.type) = some turnsT by kernel_rfl) (show back Tryz.prog 4 turnsT Rows.laid_portcullis_asm_turns = some turnsC.toList by kernel_rfl) (by decide),
  laid_row (fu := 4) h4.tail.tail.tail.tail (show Tryz.prog.globalNamed "portcullis/asm.locks" = some 4 by kernel_rfl) (show (Tryz.prog.globals[4]?).map (·.type) = some locksT by kernel_rfl) (show back Tryz.prog 4 locksT Rows.laid_portcullis_asm_locks = some locksC.toList by kernel_rfl) (by decide),
  laid_row (fu := 4) h4.tail.tail.tail.tail.tail (show Tryz.prog.globalNamed "portcullis/asm.moves" = some 8 by kernel_rfl) (show (Tryz.prog.globals[8]?).map (·.type) = some movesT by kernel_rfl) (show back Tryz.prog 4 movesT Rows.laid_portcullis_asm_moves = some movesC.toList by kernel_rfl) (by decide),
  laid_row (fu := 4) h4.tail.tail.tail (show Tryz.prog.globalNamed "portcullis/asm.turnBits" = some 7 by kernel_rfl) (show (Tryz.prog.globals[7]?).map (·.type) = some turnBitsT by kernel_rfl) (show back Tryz.prog 4 turnBitsT Rows.laid_portcullis_asm_turnBits = some turnBitsC.toList by kernel_rfl) (by decide)⟩
/-- A world for the witness: the program's own initialisers have run, and Go's own table holds what it holds. -/
noncomputable def laidWorld (os : Os) : World :=
 { World.doorLaid Tryz.prog 105 os with heap := (World.doorLaid Tryz.prog 105 os).heap.modify 0 fun
   | .cells _ t frozen => .cells ((back Tryz.prog 4 102 Rows.laid_unicode_utf8_first).getD []).toArray t frozen
   | o => o }
theorem laid_met (os : Os) (args : Array Value) : laidMetH Tryz.prog laidA ((laidWorld os).forCall (fun _ _ => 0) ⟨#[], args, []⟩).memory := by
 rw [MakeChecks.laidMetH_plain _ _ _ (by kernel_rfl)]
 exact laidMet_of_run' 8 (by kernel_rfl) (by kernel_rfl)
end Go.Proofs.YtemiklbkfogjeaaGreatDoor
namespace Go.Proofs.YtemiklbkfogjeaaGreatDoor
open Go Go.RowKit Go.WideShapes Go.ChangeShapes Go.WideElems Go.Deep
set_option linter.unusedVariables false
set_option linter.unusedSimpArgs false
section
variable {H : Type} {enc : TypeId × Value → H} {w : World} {base : Nat} {spare : Nat → Bool} {held : Bool}
theorem bulk_str (s : ByteArray) : Rows.uptoBulk (DataW.lit (H := H) (.string s.data.toList)) = s.size + 1 := by simp only [Rows.uptoBulk]; rw [Array.length_toList]; rfl
end
end Go.Proofs.YtemiklbkfogjeaaGreatDoor
