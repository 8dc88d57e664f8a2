/-
  Package asm, writing: words with a blank between each two. The tables of package asm, as the program lays them.
-/
import Derived.Test.YtpjfnnlopcccaaaDoorQP2
import Derived.Test.YtpjfnnlopcccaaaDoorQP3
import Derived.Deep.Cut
import Derived.Deep.RegionHeld3
import Derived.Deep.RegionLaw
namespace Go.Proofs.YtpjfnnlopcccaaaDoor
open Go Go.RowKit Go.Maps
set_option linter.unusedVariables false
set_option linter.unusedSimpArgs false
set_option maxRecDepth 100000
def emptyT : ByteArray := ⟨#[]⟩
/-- The words with a blank between each two; none, if one of the words is none. -/
def lacks (l : List ByteArray) : Bool := l.any fun x => decide (x.size = 0)
theorem size_zero {x : ByteArray} (h : x.size = 0) : x = emptyT := by
  obtain ⟨⟨l⟩⟩ := x
  have : l = [] := List.length_eq_zero_iff.1 h
  subst this
  rfl
theorem lacks_iff (l : List ByteArray) : lacks l = true ↔ emptyT ∈ l := by
  unfold lacks
  rw [List.any_eq_true]
  constructor
  · rintro ⟨x, hx, h⟩
    rw [← size_zero (of_decide_eq_true h)]
    exact hx
  · intro h
    exact ⟨_, h, rfl⟩
def saidT (l : List ByteArray) : ByteArray := if lacks l = true then emptyT else bstr (Lib.join (l.map (·.data.toList)) [32])
theorem join_size : ∀ (l : List (List UInt8)) (k : Nat), (∀ x ∈ l, x.length ≤ k) → (Lib.join l [32]).length ≤ l.length * (k + 1)
  | [], k, _ => by simp [Lib.join_nil]
  | [x], k, h => by rw [Lib.join_one]; have := h x (by simp); simp; omega
  | x :: y :: r, k, h => by
    have e : Lib.join (x :: y :: r) [32] = x ++ [32] ++ Lib.join (y :: r) [32] := by simp [Lib.join, List.intercalate]
    have h1 := join_size (y :: r) k (fun z hz => h z (by simp only [List.mem_cons] at hz ⊢; exact .inr hz))
    have h2 := h x (by simp)
    rw [e, List.length_append, List.length_append]
    simp only [List.length_cons, List.length_nil] at *
    rw [Nat.add_mul (r.length + 1) 1]
    omega
theorem saidT_size (l : List ByteArray) (k : Nat) (h : ∀ x ∈ l, x.size ≤ k) : (saidT l).size ≤ l.length * (k + 1) := by
  unfold saidT
  split
  · exact Nat.zero_le _
  · rw [bstr_size]
    have := join_size (l.map (·.data.toList)) k (fun x hx => by
      obtain ⟨s, hs, rfl⟩ := List.mem_map.1 hx
      have := h s hs
      rwa [Array.length_toList])
    rwa [List.length_map] at this
theorem row_at {w : World} {g : Nat} {l : List ByteArray} {t : TypeId} (h : Blk w g t (l.map Value.string).toArray) {j : Nat} {x : ByteArray} (hx : l[j]? = some x) : w.cell? ⟨g, 0 + j, none⟩ = some (.string x) := by
  rw [Nat.zero_add, h.cell j, List.getElem?_toArray, List.getElem?_map, hx]
  rfl
theorem said_any (w : World) (g : Nat) (t : TypeId) (l : List ByteArray) (h : Blk w g t (l.map Value.string).toArray) (hl : l.length ≤ 8) (k : Nat) (hk : k ≤ 100000) (hs : ∀ x ∈ l, x.size ≤ k) :
    Calls Tryd.prog 37 #[.slice (some ⟨g, 0, none⟩) l.length l.length] w (SaysT w (saidT l)) := by
  have C0 := Tryd.slices_Contains_string g 0 l.length l.length l emptyT w (Nat.le_refl _) (by omega) (fun j hj => by
    rw [row_at h (List.getElem?_eq_getElem hj)]
    rw [List.getD_eq_getElem?_getD, List.getElem?_eq_getElem hj]
    rfl)
  rw [List.take_length] at C0
  have hj : (Lib.join (l.map (·.data.toList)) (⟨#[32]⟩ : ByteArray).data.toList).length ≤ 140737488355328 := by
    have := join_size (l.map (·.data.toList)) k (fun x hx => by
      obtain ⟨s, hs', rfl⟩ := List.mem_map.1 hx
      have := hs s hs'
      rwa [Array.length_toList])
    rw [List.length_map] at this
    have h8 : l.length * (k + 1) ≤ 8 * 100001 := Nat.mul_le_mul hl (by omega)
    show (Lib.join _ [32]).length ≤ _
    omega
  have C1 := Tryd.strings_Join g 0 l.length l ⟨#[32]⟩ w (fun j x hx => row_at h hx) h.lt (by omega) (Nat.le_refl _) hj
  have e : Lib.containsS l emptyT = lacks l := by
    cases hc : lacks l
    · cases hd : Lib.containsS l emptyT
      · rfl
      · rw [(lacks_iff l).2 ((Lib.containsS_iff _ _).1 hd)] at hc; cases hc
    · exact (Lib.containsS_iff _ _).2 ((lacks_iff l).1 hc)
  rw [e] at C0
  unfold saidT
  have H0 : Hid (Calls Tryd.prog 65 #[.slice (some ⟨g, 0, none⟩) l.length l.length, .string ⟨#[]⟩] w fun e w' => e = .returned (.bool (lacks l)) ∧ w' = w) := C0
  have H1 : Hid (Calls Tryd.prog 66 #[.slice (some ⟨g, 0, none⟩) l.length l.length, .string ⟨#[32]⟩] w fun e w' => e = .returned (.string (bstr (Lib.join (l.map (·.data.toList)) [32]))) ∧ Below w.heap.size w w') := C1
  clear C0 C1 h hl hk hs hj e
  generalize bstr (Lib.join (l.map (·.data.toList)) [32]) = jn at *
  generalize lacks l = b at *
  cases b
  all_goals
    first | rw [if_pos rfl] | rw [if_neg (by decide)]
    generalize l.length = n at *
    go_enter Tryd.func37, Tryd.ntmps37
    go_wp2_with (first
      | (go_at_call 65; refine H0.out.mono ?_; rintro e w1 ⟨rfl, rfl⟩)
      | (go_at_call 66; refine H1.out.mono ?_; rintro e w1 ⟨rfl, hb⟩; have HB := Lib.hid hb; clear hb))
    go_ret
    first | exact ⟨rfl, Below.refl _ _⟩ | exact ⟨rfl, HB.out⟩
end Go.Proofs.YtpjfnnlopcccaaaDoor
namespace Go.Proofs.YtpjfnnlopcccaaaDoor
open Go Go.RowKit Go.Maps
set_option linter.unusedVariables false
set_option linter.unusedSimpArgs false
set_option maxRecDepth 100000
abbrev operatorsT : TypeId := 85
abbrev operatorsC : Array Value := #[.string ⟨#[43, 61]⟩, .int .i64 0, .int .i64 0, .string ⟨#[45, 61]⟩, .int .i64 16, .int .i64 0, .string ⟨#[42, 61]⟩, .int .i64 32, .int .i64 0, .string ⟨#[47, 61]⟩, .int .i64 48, .int .i64 0, .string ⟨#[115, 47, 61]⟩, .int .i64 48, .int .i64 1, .string ⟨#[124, 61]⟩, .int .i64 64, .int .i64 0, .string ⟨#[38, 61]⟩, .int .i64 80, .int .i64 0, .string ⟨#[60, 60, 61]⟩, .int .i64 96, .int .i64 0, .string ⟨#[62, 62, 61]⟩, .int .i64 112, .int .i64 0, .string ⟨#[37, 61]⟩, .int .i64 144, .int .i64 0, .string ⟨#[115, 37, 61]⟩, .int .i64 144, .int .i64 1, .string ⟨#[94, 61]⟩, .int .i64 160, .int .i64 0, .string ⟨#[61]⟩, .int .i64 176, .int .i64 0, .string ⟨#[115, 62, 62, 61]⟩, .int .i64 192, .int .i64 0]
abbrev operatorsV : Value := .agg operatorsC
abbrev testsT : TypeId := 88
abbrev testsC : Array Value := #[.string ⟨#[61, 61]⟩, .int .i64 16, .string ⟨#[62]⟩, .int .i64 32, .string ⟨#[62, 61]⟩, .int .i64 48, .string ⟨#[38]⟩, .int .i64 64, .string ⟨#[33, 61]⟩, .int .i64 80, .string ⟨#[115, 62]⟩, .int .i64 96, .string ⟨#[115, 62, 61]⟩, .int .i64 112, .string ⟨#[60]⟩, .int .i64 160, .string ⟨#[60, 61]⟩, .int .i64 176, .string ⟨#[115, 60]⟩, .int .i64 192, .string ⟨#[115, 60, 61]⟩, .int .i64 208]
abbrev testsV : Value := .agg testsC
abbrev turnsT : TypeId := 109
abbrev turnsC : Array Value := #[.string ⟨#[108, 101]⟩, .int .i64 212, .string ⟨#[98, 101]⟩, .int .i64 220, .string ⟨#[98, 115, 119, 97, 112]⟩, .int .i64 215]
abbrev turnsV : Value := .agg turnsC
abbrev locksT : TypeId := 106
abbrev locksC : Array Value := #[.string ⟨#[43, 61]⟩, .int .i64 0, .bool true, .string ⟨#[124, 61]⟩, .int .i64 64, .bool true, .string ⟨#[38, 61]⟩, .int .i64 80, .bool true, .string ⟨#[94, 61]⟩, .int .i64 160, .bool true, .string ⟨#[120, 99, 104, 103]⟩, .int .i64 225, .bool false, .string ⟨#[99, 109, 112, 120, 99, 104, 103]⟩, .int .i64 241, .bool false]
abbrev locksV : Value := .agg locksC
abbrev movesT : TypeId := 101
abbrev movesC : Array Value := #[.string ⟨#[117, 51, 50]⟩, .int .i64 96, .int .i64 0, .string ⟨#[117, 49, 54]⟩, .int .i64 96, .int .i64 8, .string ⟨#[117, 56]⟩, .int .i64 96, .int .i64 16, .string ⟨#[117, 54, 52]⟩, .int .i64 96, .int .i64 24, .string ⟨#[115, 51, 50]⟩, .int .i64 128, .int .i64 0, .string ⟨#[115, 49, 54]⟩, .int .i64 128, .int .i64 8, .string ⟨#[115, 56]⟩, .int .i64 128, .int .i64 16]
abbrev movesV : Value := .agg movesC
abbrev turnBitsT : TypeId := 110
abbrev turnBitsC : Array Value := #[.int .i64 16, .int .i64 32, .int .i64 64]
abbrev turnBitsV : Value := .agg #[.int .i64 16, .int .i64 32, .int .i64 64]
structure Tabs (w : World) : Prop where
  pow : Pow w
  operators : ∃ t, Blk w 0 t operatorsC
  tests : ∃ t, Blk w 1 t testsC
  turns : ∃ t, Blk w 4 t turnsC
  locks : ∃ t, Blk w 3 t locksC
  moves : ∃ t, Blk w 2 t movesC
  turnBits : ∃ t, Blk w 5 t turnBitsC
theorem Tabs.below {w w' : World} (h : Tabs w) (hb : Below w.heap.size w w') : Tabs w' :=
  ⟨h.pow.below hb, h.operators.imp fun t h => (hb.block _ (Blk.lt h)).trans h, h.tests.imp fun t h => (hb.block _ (Blk.lt h)).trans h, h.turns.imp fun t h => (hb.block _ (Blk.lt h)).trans h, h.locks.imp fun t h => (hb.block _ (Blk.lt h)).trans h, h.moves.imp fun t h => (hb.block _ (Blk.lt h)).trans h, h.turnBits.imp fun t h => (hb.block _ (Blk.lt h)).trans h⟩
theorem at_operators0 (w : World) : (Instr.index operatorsT operatorsV (.int .i64 0)).run Tryd.prog w = .ok (.agg #[.string ⟨#[43, 61]⟩, .int .i64 0, .int .i64 0]) w := by kernel_rfl
theorem at_operators1 (w : World) : (Instr.index operatorsT operatorsV (.int .i64 1)).run Tryd.prog w = .ok (.agg #[.string ⟨#[45, 61]⟩, .int .i64 16, .int .i64 0]) w := by kernel_rfl
theorem at_operators2 (w : World) : (Instr.index operatorsT operatorsV (.int .i64 2)).run Tryd.prog w = .ok (.agg #[.string ⟨#[42, 61]⟩, .int .i64 32, .int .i64 0]) w := by kernel_rfl
theorem at_operators3 (w : World) : (Instr.index operatorsT operatorsV (.int .i64 3)).run Tryd.prog w = .ok (.agg #[.string ⟨#[47, 61]⟩, .int .i64 48, .int .i64 0]) w := by kernel_rfl
theorem at_operators4 (w : World) : (Instr.index operatorsT operatorsV (.int .i64 4)).run Tryd.prog w = .ok (.agg #[.string ⟨#[115, 47, 61]⟩, .int .i64 48, .int .i64 1]) w := by kernel_rfl
theorem at_operators5 (w : World) : (Instr.index operatorsT operatorsV (.int .i64 5)).run Tryd.prog w = .ok (.agg #[.string ⟨#[124, 61]⟩, .int .i64 64, .int .i64 0]) w := by kernel_rfl
theorem at_operators6 (w : World) : (Instr.index operatorsT operatorsV (.int .i64 6)).run Tryd.prog w = .ok (.agg #[.string ⟨#[38, 61]⟩, .int .i64 80, .int .i64 0]) w := by kernel_rfl
theorem at_operators7 (w : World) : (Instr.index operatorsT operatorsV (.int .i64 7)).run Tryd.prog w = .ok (.agg #[.string ⟨#[60, 60, 61]⟩, .int .i64 96, .int .i64 0]) w := by kernel_rfl
theorem at_operators8 (w : World) : (Instr.index operatorsT operatorsV (.int .i64 8)).run Tryd.prog w = .ok (.agg #[.string ⟨#[62, 62, 61]⟩, .int .i64 112, .int .i64 0]) w := by kernel_rfl
theorem at_operators9 (w : World) : (Instr.index operatorsT operatorsV (.int .i64 9)).run Tryd.prog w = .ok (.agg #[.string ⟨#[37, 61]⟩, .int .i64 144, .int .i64 0]) w := by kernel_rfl
theorem at_operators10 (w : World) : (Instr.index operatorsT operatorsV (.int .i64 10)).run Tryd.prog w = .ok (.agg #[.string ⟨#[115, 37, 61]⟩, .int .i64 144, .int .i64 1]) w := by kernel_rfl
theorem at_operators11 (w : World) : (Instr.index operatorsT operatorsV (.int .i64 11)).run Tryd.prog w = .ok (.agg #[.string ⟨#[94, 61]⟩, .int .i64 160, .int .i64 0]) w := by kernel_rfl
theorem at_operators12 (w : World) : (Instr.index operatorsT operatorsV (.int .i64 12)).run Tryd.prog w = .ok (.agg #[.string ⟨#[61]⟩, .int .i64 176, .int .i64 0]) w := by kernel_rfl
theorem at_operators13 (w : World) : (Instr.index operatorsT operatorsV (.int .i64 13)).run Tryd.prog w = .ok (.agg #[.string ⟨#[115, 62, 62, 61]⟩, .int .i64 192, .int .i64 0]) w := by kernel_rfl
theorem at_tests0 (w : World) : (Instr.index testsT testsV (.int .i64 0)).run Tryd.prog w = .ok (.agg #[.string ⟨#[61, 61]⟩, .int .i64 16]) w := by kernel_rfl
theorem at_tests1 (w : World) : (Instr.index testsT testsV (.int .i64 1)).run Tryd.prog w = .ok (.agg #[.string ⟨#[62]⟩, .int .i64 32]) w := by kernel_rfl
theorem at_tests2 (w : World) : (Instr.index testsT testsV (.int .i64 2)).run Tryd.prog w = .ok (.agg #[.string ⟨#[62, 61]⟩, .int .i64 48]) w := by kernel_rfl
theorem at_tests3 (w : World) : (Instr.index testsT testsV (.int .i64 3)).run Tryd.prog w = .ok (.agg #[.string ⟨#[38]⟩, .int .i64 64]) w := by kernel_rfl
theorem at_tests4 (w : World) : (Instr.index testsT testsV (.int .i64 4)).run Tryd.prog w = .ok (.agg #[.string ⟨#[33, 61]⟩, .int .i64 80]) w := by kernel_rfl
theorem at_tests5 (w : World) : (Instr.index testsT testsV (.int .i64 5)).run Tryd.prog w = .ok (.agg #[.string ⟨#[115, 62]⟩, .int .i64 96]) w := by kernel_rfl
theorem at_tests6 (w : World) : (Instr.index testsT testsV (.int .i64 6)).run Tryd.prog w = .ok (.agg #[.string ⟨#[115, 62, 61]⟩, .int .i64 112]) w := by kernel_rfl
theorem at_tests7 (w : World) : (Instr.index testsT testsV (.int .i64 7)).run Tryd.prog w = .ok (.agg #[.string ⟨#[60]⟩, .int .i64 160]) w := by kernel_rfl
theorem at_tests8 (w : World) : (Instr.index testsT testsV (.int .i64 8)).run Tryd.prog w = .ok (.agg #[.string ⟨#[60, 61]⟩, .int .i64 176]) w := by kernel_rfl
theorem at_tests9 (w : World) : (Instr.index testsT testsV (.int .i64 9)).run Tryd.prog w = .ok (.agg #[.string ⟨#[115, 60]⟩, .int .i64 192]) w := by kernel_rfl
theorem at_tests10 (w : World) : (Instr.index testsT testsV (.int .i64 10)).run Tryd.prog w = .ok (.agg #[.string ⟨#[115, 60, 61]⟩, .int .i64 208]) w := by kernel_rfl
theorem at_turns0 (w : World) : (Instr.index turnsT turnsV (.int .i64 0)).run Tryd.prog w = .ok (.agg #[.string ⟨#[108, 101]⟩, .int .i64 212]) w := by kernel_rfl
theorem at_turns1 (w : World) : (Instr.index turnsT turnsV (.int .i64 1)).run Tryd.prog w = .ok (.agg #[.string ⟨#[98, 101]⟩, .int .i64 220]) w := by kernel_rfl
theorem at_turns2 (w : World) : (Instr.index turnsT turnsV (.int .i64 2)).run Tryd.prog w = .ok (.agg #[.string ⟨#[98, 115, 119, 97, 112]⟩, .int .i64 215]) w := by kernel_rfl
theorem at_locks0 (w : World) : (Instr.index locksT locksV (.int .i64 0)).run Tryd.prog w = .ok (.agg #[.string ⟨#[43, 61]⟩, .int .i64 0, .bool true]) w := by kernel_rfl
theorem at_locks1 (w : World) : (Instr.index locksT locksV (.int .i64 1)).run Tryd.prog w = .ok (.agg #[.string ⟨#[124, 61]⟩, .int .i64 64, .bool true]) w := by kernel_rfl
theorem at_locks2 (w : World) : (Instr.index locksT locksV (.int .i64 2)).run Tryd.prog w = .ok (.agg #[.string ⟨#[38, 61]⟩, .int .i64 80, .bool true]) w := by kernel_rfl
theorem at_locks3 (w : World) : (Instr.index locksT locksV (.int .i64 3)).run Tryd.prog w = .ok (.agg #[.string ⟨#[94, 61]⟩, .int .i64 160, .bool true]) w := by kernel_rfl
theorem at_locks4 (w : World) : (Instr.index locksT locksV (.int .i64 4)).run Tryd.prog w = .ok (.agg #[.string ⟨#[120, 99, 104, 103]⟩, .int .i64 225, .bool false]) w := by kernel_rfl
theorem at_locks5 (w : World) : (Instr.index locksT locksV (.int .i64 5)).run Tryd.prog w = .ok (.agg #[.string ⟨#[99, 109, 112, 120, 99, 104, 103]⟩, .int .i64 241, .bool false]) w := by kernel_rfl
theorem at_moves0 (w : World) : (Instr.index movesT movesV (.int .i64 0)).run Tryd.prog w = .ok (.agg #[.string ⟨#[117, 51, 50]⟩, .int .i64 96, .int .i64 0]) w := by kernel_rfl
theorem at_moves1 (w : World) : (Instr.index movesT movesV (.int .i64 1)).run Tryd.prog w = .ok (.agg #[.string ⟨#[117, 49, 54]⟩, .int .i64 96, .int .i64 8]) w := by kernel_rfl
theorem at_moves2 (w : World) : (Instr.index movesT movesV (.int .i64 2)).run Tryd.prog w = .ok (.agg #[.string ⟨#[117, 56]⟩, .int .i64 96, .int .i64 16]) w := by kernel_rfl
theorem at_moves3 (w : World) : (Instr.index movesT movesV (.int .i64 3)).run Tryd.prog w = .ok (.agg #[.string ⟨#[117, 54, 52]⟩, .int .i64 96, .int .i64 24]) w := by kernel_rfl
theorem at_moves4 (w : World) : (Instr.index movesT movesV (.int .i64 4)).run Tryd.prog w = .ok (.agg #[.string ⟨#[115, 51, 50]⟩, .int .i64 128, .int .i64 0]) w := by kernel_rfl
theorem at_moves5 (w : World) : (Instr.index movesT movesV (.int .i64 5)).run Tryd.prog w = .ok (.agg #[.string ⟨#[115, 49, 54]⟩, .int .i64 128, .int .i64 8]) w := by kernel_rfl
theorem at_moves6 (w : World) : (Instr.index movesT movesV (.int .i64 6)).run Tryd.prog w = .ok (.agg #[.string ⟨#[115, 56]⟩, .int .i64 128, .int .i64 16]) w := by kernel_rfl
theorem at_turnBits0 (w : World) : (Instr.index turnBitsT turnBitsV (.int .i64 0)).run Tryd.prog w = .ok (.int .i64 16) w := by kernel_rfl
theorem at_turnBits1 (w : World) : (Instr.index turnBitsT turnBitsV (.int .i64 1)).run Tryd.prog w = .ok (.int .i64 32) w := by kernel_rfl
theorem at_turnBits2 (w : World) : (Instr.index turnBitsT turnBitsV (.int .i64 2)).run Tryd.prog w = .ok (.int .i64 64) w := by kernel_rfl
def operL : List (ByteArray × Int × Int) := [(⟨#[43, 61]⟩, 0, 0), (⟨#[45, 61]⟩, 16, 0), (⟨#[42, 61]⟩, 32, 0), (⟨#[47, 61]⟩, 48, 0), (⟨#[115, 47, 61]⟩, 48, 1), (⟨#[124, 61]⟩, 64, 0), (⟨#[38, 61]⟩, 80, 0), (⟨#[60, 60, 61]⟩, 96, 0), (⟨#[62, 62, 61]⟩, 112, 0), (⟨#[37, 61]⟩, 144, 0), (⟨#[115, 37, 61]⟩, 144, 1), (⟨#[94, 61]⟩, 160, 0), (⟨#[61]⟩, 176, 0), (⟨#[115, 62, 62, 61]⟩, 192, 0)]
theorem at_operators : ∀ k : Nat, k < 14 → ∃ nm md sz, operL[k]? = some (nm, md, sz) ∧ (nm.size ≤ 4) ∧ ∀ w, (Instr.index operatorsT (.agg operatorsC) (.int .i64 (k : Int))).run Tryd.prog w = .ok (.agg #[.string nm, .int .i64 md, .int .i64 sz]) w
  | 0, _ => ⟨_, _, _, rfl, by decide, at_operators0⟩
  | 1, _ => ⟨_, _, _, rfl, by decide, at_operators1⟩
  | 2, _ => ⟨_, _, _, rfl, by decide, at_operators2⟩
  | 3, _ => ⟨_, _, _, rfl, by decide, at_operators3⟩
  | 4, _ => ⟨_, _, _, rfl, by decide, at_operators4⟩
  | 5, _ => ⟨_, _, _, rfl, by decide, at_operators5⟩
  | 6, _ => ⟨_, _, _, rfl, by decide, at_operators6⟩
  | 7, _ => ⟨_, _, _, rfl, by decide, at_operators7⟩
  | 8, _ => ⟨_, _, _, rfl, by decide, at_operators8⟩
  | 9, _ => ⟨_, _, _, rfl, by decide, at_operators9⟩
  | 10, _ => ⟨_, _, _, rfl, by decide, at_operators10⟩
  | 11, _ => ⟨_, _, _, rfl, by decide, at_operators11⟩
  | 12, _ => ⟨_, _, _, rfl, by decide, at_operators12⟩
  | 13, _ => ⟨_, _, _, rfl, by decide, at_operators13⟩
  | k + 14, h => absurd h (by omega)
theorem Tabs.operators_any {w : World} (h : Tabs w) : ∃ (t : TypeId) (cs : Array Value), Blk w 0 t cs ∧ (Tryd.prog.info? operatorsT).map (·.size) = some cs.size ∧ ∀ k : Nat, k < 14 → ∃ nm md sz, operL[k]? = some (nm, md, sz) ∧ (nm.size ≤ 4) ∧ ∀ w, (Instr.index operatorsT (.agg cs) (.int .i64 (k : Int))).run Tryd.prog w = .ok (.agg #[.string nm, .int .i64 md, .int .i64 sz]) w :=
  let ⟨t, hB⟩ := h.operators; ⟨t, operatorsC, hB, by kernel_rfl, at_operators⟩
def testL : List (ByteArray × Int) := [(⟨#[61, 61]⟩, 16), (⟨#[62]⟩, 32), (⟨#[62, 61]⟩, 48), (⟨#[38]⟩, 64), (⟨#[33, 61]⟩, 80), (⟨#[115, 62]⟩, 96), (⟨#[115, 62, 61]⟩, 112), (⟨#[60]⟩, 160), (⟨#[60, 61]⟩, 176), (⟨#[115, 60]⟩, 192), (⟨#[115, 60, 61]⟩, 208)]
theorem at_tests : ∀ k : Nat, k < 11 → ∃ nm md, testL[k]? = some (nm, md) ∧ (nm.size ≤ 3) ∧ ∀ w, (Instr.index testsT (.agg testsC) (.int .i64 (k : Int))).run Tryd.prog w = .ok (.agg #[.string nm, .int .i64 md]) w
  | 0, _ => ⟨_, _, rfl, by decide, at_tests0⟩
  | 1, _ => ⟨_, _, rfl, by decide, at_tests1⟩
  | 2, _ => ⟨_, _, rfl, by decide, at_tests2⟩
  | 3, _ => ⟨_, _, rfl, by decide, at_tests3⟩
  | 4, _ => ⟨_, _, rfl, by decide, at_tests4⟩
  | 5, _ => ⟨_, _, rfl, by decide, at_tests5⟩
  | 6, _ => ⟨_, _, rfl, by decide, at_tests6⟩
  | 7, _ => ⟨_, _, rfl, by decide, at_tests7⟩
  | 8, _ => ⟨_, _, rfl, by decide, at_tests8⟩
  | 9, _ => ⟨_, _, rfl, by decide, at_tests9⟩
  | 10, _ => ⟨_, _, rfl, by decide, at_tests10⟩
  | k + 11, h => absurd h (by omega)
theorem Tabs.tests_any {w : World} (h : Tabs w) : ∃ (t : TypeId) (cs : Array Value), Blk w 1 t cs ∧ (Tryd.prog.info? testsT).map (·.size) = some cs.size ∧ ∀ k : Nat, k < 11 → ∃ nm md, testL[k]? = some (nm, md) ∧ (nm.size ≤ 3) ∧ ∀ w, (Instr.index testsT (.agg cs) (.int .i64 (k : Int))).run Tryd.prog w = .ok (.agg #[.string nm, .int .i64 md]) w :=
  let ⟨t, hB⟩ := h.tests; ⟨t, testsC, hB, by kernel_rfl, at_tests⟩
def turnL : List (ByteArray × Int) := [(⟨#[108, 101]⟩, 212), (⟨#[98, 101]⟩, 220), (⟨#[98, 115, 119, 97, 112]⟩, 215)]
theorem at_turns : ∀ k : Nat, k < 3 → ∃ nm md, turnL[k]? = some (nm, md) ∧ (nm.size ≤ 5) ∧ ∀ w, (Instr.index turnsT (.agg turnsC) (.int .i64 (k : Int))).run Tryd.prog w = .ok (.agg #[.string nm, .int .i64 md]) w
  | 0, _ => ⟨_, _, rfl, by decide, at_turns0⟩
  | 1, _ => ⟨_, _, rfl, by decide, at_turns1⟩
  | 2, _ => ⟨_, _, rfl, by decide, at_turns2⟩
  | k + 3, h => absurd h (by omega)
theorem Tabs.turns_any {w : World} (h : Tabs w) : ∃ (t : TypeId) (cs : Array Value), Blk w 4 t cs ∧ (Tryd.prog.info? turnsT).map (·.size) = some cs.size ∧ ∀ k : Nat, k < 3 → ∃ nm md, turnL[k]? = some (nm, md) ∧ (nm.size ≤ 5) ∧ ∀ w, (Instr.index turnsT (.agg cs) (.int .i64 (k : Int))).run Tryd.prog w = .ok (.agg #[.string nm, .int .i64 md]) w :=
  let ⟨t, hB⟩ := h.turns; ⟨t, turnsC, hB, by kernel_rfl, at_turns⟩
def lockL : List (ByteArray × Int × Bool) := [(⟨#[43, 61]⟩, 0, true), (⟨#[124, 61]⟩, 64, true), (⟨#[38, 61]⟩, 80, true), (⟨#[94, 61]⟩, 160, true), (⟨#[120, 99, 104, 103]⟩, 225, false), (⟨#[99, 109, 112, 120, 99, 104, 103]⟩, 241, false)]
theorem at_locks : ∀ k : Nat, k < 6 → ∃ nm md sz, lockL[k]? = some (nm, md, sz) ∧ (nm.size ≤ 7 ∧ 0 ≤ md ∧ md ≤ 241) ∧ ∀ w, (Instr.index locksT (.agg locksC) (.int .i64 (k : Int))).run Tryd.prog w = .ok (.agg #[.string nm, .int .i64 md, .bool sz]) w
  | 0, _ => ⟨_, _, _, rfl, by decide, at_locks0⟩
  | 1, _ => ⟨_, _, _, rfl, by decide, at_locks1⟩
  | 2, _ => ⟨_, _, _, rfl, by decide, at_locks2⟩
  | 3, _ => ⟨_, _, _, rfl, by decide, at_locks3⟩
  | 4, _ => ⟨_, _, _, rfl, by decide, at_locks4⟩
  | 5, _ => ⟨_, _, _, rfl, by decide, at_locks5⟩
  | k + 6, h => absurd h (by omega)
theorem Tabs.locks_any {w : World} (h : Tabs w) : ∃ (t : TypeId) (cs : Array Value), Blk w 3 t cs ∧ (Tryd.prog.info? locksT).map (·.size) = some cs.size ∧ ∀ k : Nat, k < 6 → ∃ nm md sz, lockL[k]? = some (nm, md, sz) ∧ (nm.size ≤ 7 ∧ 0 ≤ md ∧ md ≤ 241) ∧ ∀ w, (Instr.index locksT (.agg cs) (.int .i64 (k : Int))).run Tryd.prog w = .ok (.agg #[.string nm, .int .i64 md, .bool sz]) w :=
  let ⟨t, hB⟩ := h.locks; ⟨t, locksC, hB, by kernel_rfl, at_locks⟩
def moveL : List (ByteArray × Int × Int) := [(⟨#[117, 51, 50]⟩, 96, 0), (⟨#[117, 49, 54]⟩, 96, 8), (⟨#[117, 56]⟩, 96, 16), (⟨#[117, 54, 52]⟩, 96, 24), (⟨#[115, 51, 50]⟩, 128, 0), (⟨#[115, 49, 54]⟩, 128, 8), (⟨#[115, 56]⟩, 128, 16)]
theorem at_moves : ∀ k : Nat, k < 7 → ∃ nm md sz, moveL[k]? = some (nm, md, sz) ∧ (nm.size ≤ 3) ∧ ∀ w, (Instr.index movesT (.agg movesC) (.int .i64 (k : Int))).run Tryd.prog w = .ok (.agg #[.string nm, .int .i64 md, .int .i64 sz]) w
  | 0, _ => ⟨_, _, _, rfl, by decide, at_moves0⟩
  | 1, _ => ⟨_, _, _, rfl, by decide, at_moves1⟩
  | 2, _ => ⟨_, _, _, rfl, by decide, at_moves2⟩
  | 3, _ => ⟨_, _, _, rfl, by decide, at_moves3⟩
  | 4, _ => ⟨_, _, _, rfl, by decide, at_moves4⟩
  | 5, _ => ⟨_, _, _, rfl, by decide, at_moves5⟩
  | 6, _ => ⟨_, _, _, rfl, by decide, at_moves6⟩
  | k + 7, h => absurd h (by omega)
theorem Tabs.moves_any {w : World} (h : Tabs w) : ∃ (t : TypeId) (cs : Array Value), Blk w 2 t cs ∧ (Tryd.prog.info? movesT).map (·.size) = some cs.size ∧ ∀ k : Nat, k < 7 → ∃ nm md sz, moveL[k]? = some (nm, md, sz) ∧ (nm.size ≤ 3) ∧ ∀ w, (Instr.index movesT (.agg cs) (.int .i64 (k : Int))).run Tryd.prog w = .ok (.agg #[.string nm, .int .i64 md, .int .i64 sz]) w :=
  let ⟨t, hB⟩ := h.moves; ⟨t, movesC, hB, by kernel_rfl, at_moves⟩
theorem at_turnBits : ∀ k : Nat, k < 3 → ∃ n : Int, [(16 : Int), 32, 64][k]? = some n ∧ ∀ w, (Instr.index turnBitsT (.agg turnBitsC) (.int .i64 (k : Int))).run Tryd.prog w = .ok (.int .i64 n) w
  | 0, _ => ⟨_, rfl, at_turnBits0⟩
  | 1, _ => ⟨_, rfl, at_turnBits1⟩
  | 2, _ => ⟨_, rfl, at_turnBits2⟩
  | k + 3, h => absurd h (by omega)
theorem Tabs.turnBits_any {w : World} (h : Tabs w) : ∃ (t : TypeId) (cs : Array Value), Blk w 5 t cs ∧ (Tryd.prog.info? turnBitsT).map (·.size) = some cs.size ∧ ∀ k : Nat, k < 3 → ∃ n : Int, [(16 : Int), 32, 64][k]? = some n ∧ ∀ w, (Instr.index turnBitsT (.agg cs) (.int .i64 (k : Int))).run Tryd.prog w = .ok (.int .i64 n) w :=
  let ⟨t, hB⟩ := h.turnBits; ⟨t, turnBitsC, hB, by kernel_rfl, at_turnBits⟩
end Go.Proofs.YtpjfnnlopcccaaaDoor
