/-
  The laws' condition on the listed variables, opened: package asm's tables and the table of powers of ten lie as the program's text lays them; a world that meets it. The laws' arguments, opened: a list of slots, and how many.
-/
import Derived.Test.YtpjfnnlopcccaaaDoorQP8
import Derived.Test.YtpjfnnlopcccaaaDoorQP1
import Derived.Test.YtpjfnnlopcccaaaDoorRows
import Derived.Deep.DeepHandedRow
import Derived.Lib.LaidTab
import Derived.ChangeMaps5
import Derived.ProofKit
import Derived.OpenShut
import Derived.LaidMore
import Derived.LaidOnce
import Derived.Stop.Joined
import Derived.Stop.LaidErr
namespace Go.Proofs.YtpjfnnlopcccaaaDoor
open Go Go.RowKit Go.WideShapes Go.ChangeShapes Go.WideElems Go.Deep
set_option linter.unusedVariables false
set_option linter.unusedSimpArgs false
set_option maxRecDepth 100000
theorem own : ownKnob Tryd.prog.godebug = none := by kernel_rfl
theorem laidOut : laidOutB Tryd.prog = true := by kernel_rfl
abbrev laidA : List (String × DataW Unit) := [("math/bits.deBruijn32tab", Rows.laid_math_bits_deBruijn32tab), ("math/bits.deBruijn64tab", Rows.laid_math_bits_deBruijn64tab), ("internal/strconv.uint64pow10", Rows.laid_internal_strconv_uint64pow10), ("unicode/utf8.acceptRanges", Rows.laid_unicode_utf8_acceptRanges), ("portcullis/asm.operators", Rows.laid_portcullis_asm_operators), ("portcullis/asm.tests", Rows.laid_portcullis_asm_tests), ("portcullis/asm.turns", Rows.laid_portcullis_asm_turns), ("portcullis/asm.turnBits", Rows.laid_portcullis_asm_turnBits), ("portcullis/asm.locks", Rows.laid_portcullis_asm_locks), ("portcullis/asm.moves", Rows.laid_portcullis_asm_moves), ("unicode/utf8.first", Rows.laid_unicode_utf8_first)]
/-- A listed variable's block, where its datum tells its cells. -/
theorem laid_row {P : Program} {n : String} {d : DataW Unit} {r : List (String × DataW Unit)} {W : World} {g : Nat} {ti : TypeId} {fu : Nat} {l : List Value} (h : laidMet P ((n, d) :: r) W) (hg : P.globalNamed n = some g)
    (ht : (P.globals[g]?).map (·.type) = some ti) (hb : back P fu ti d = some l) (hne : 0 < l.length) : ∃ t, Blk W g t l.toArray := by
  obtain ⟨ps, ⟨g0, t0, cs, f, p, q, hg0, ht0, hv, hd, _, e0⟩, _, hrows⟩ := h
  obtain rfl := Option.some.inj (hg.symm.trans hg0)
  obtain rfl := Option.some.inj (ht.symm.trans ht0)
  have hcs : cs.toList = l := back_of_trod fu f _ _ _ _ hd hb
  have hsz : 0 < cs.size := by rw [← Array.length_toList, hcs]; exact hne
  have hmem : MemPlace.cell g 0 ∈ ps := by
    rw [e0]
    refine List.mem_append.2 (.inl (List.mem_append.2 (.inl ?_)))
    unfold MemPlace.row
    exact List.mem_map.2 ⟨0, List.mem_range.2 hsz, rfl⟩
  obtain ⟨⟨c, t, hc⟩, _⟩ := hrows g 0 hmem
  unfold World.var? at hv
  rw [hg] at hv
  simp only [Option.bind_some, hc, Option.some.injEq] at hv
  refine ⟨t, ?_⟩
  unfold Blk
  rw [hc, hv, ← hcs]
theorem tabs_of_laid {W : World} (h : laidMetH Tryd.prog laidA W) : Tabs W := by
  rw [MakeChecks.laidMetH_plain _ _ _ (by kernel_rfl)] at h
  have h2 := h.tail.tail
  have h4 := h2.tail.tail
  have T : Pow W := Lib.tabIs_of_head (rest := _) (show Tryd.prog.globalNamed "internal/strconv.uint64pow10" = some 9 by kernel_rfl) (show (Tryd.prog.globals[9]?).map (·.type) = some 139 by kernel_rfl) Tryd.underlying139 Tryd.underlying76 (by kernel_rfl) (by kernel_rfl) h2
  exact ⟨T, laid_row (fu := 4) h4 (show Tryd.prog.globalNamed "portcullis/asm.operators" = some 0 by kernel_rfl) (show (Tryd.prog.globals[0]?).map (·.type) = some operatorsT by kernel_rfl) (show back Tryd.prog 4 operatorsT Rows.laid_portcullis_asm_operators = some operatorsC.toList by kernel_rfl) (by decide),
    laid_row (fu := 4) h4.tail (show Tryd.prog.globalNamed "portcullis/asm.tests" = some 1 by kernel_rfl) (show (Tryd.prog.globals[1]?).map (·.type) = some testsT by kernel_rfl) (show back Tryd.prog 4 testsT Rows.laid_portcullis_asm_tests = some testsC.toList by kernel_rfl) (by decide),
    laid_row (fu := 4) h4.tail.tail (show Tryd.prog.globalNamed "portcullis/asm.turns" = some 4 by kernel_rfl) (show (Tryd.prog.globals[4]?).map (·.type) = some turnsT by kernel_rfl) (show back Tryd.prog 4 turnsT Rows.laid_portcullis_asm_turns = some turnsC.toList by kernel_rfl) (by decide),
    laid_row (fu := 4) h4.tail.tail.tail.tail (show Tryd.prog.globalNamed "portcullis/asm.locks" = some 3 by kernel_rfl) (show (Tryd.prog.globals[3]?).map (·.type) = some locksT by kernel_rfl) (show back Tryd.prog 4 locksT Rows.laid_portcullis_asm_locks = some locksC.toList by kernel_rfl) (by decide),
    laid_row (fu := 4) h4.tail.tail.tail.tail.tail (show Tryd.prog.globalNamed "portcullis/asm.moves" = some 2 by kernel_rfl) (show (Tryd.prog.globals[2]?).map (·.type) = some movesT by kernel_rfl) (show back Tryd.prog 4 movesT Rows.laid_portcullis_asm_moves = some movesC.toList by kernel_rfl) (by decide),
    laid_row (fu := 4) h4.tail.tail.tail (show Tryd.prog.globalNamed "portcullis/asm.turnBits" = some 5 by kernel_rfl) (show (Tryd.prog.globals[5]?).map (·.type) = some turnBitsT by kernel_rfl) (show back Tryd.prog 4 turnBitsT Rows.laid_portcullis_asm_turnBits = some turnBitsC.toList by kernel_rfl) (by decide)⟩
/-- A world for the witness: the program's own initialisers have run, and Go's own table holds what it holds. -/
noncomputable def laidWorld (os : Os) : World :=
  { World.doorLaid Tryd.prog 105 os with heap := (World.doorLaid Tryd.prog 105 os).heap.modify 6 fun
      | .cells _ t frozen => .cells ((back Tryd.prog 4 111 Rows.laid_unicode_utf8_first).getD []).toArray t frozen
      | o => o }
theorem laid_met (os : Os) (args : Array Value) : laidMetH Tryd.prog laidA ((laidWorld os).forCall (fun _ _ => 0) ⟨#[], args, []⟩).memory := by
  rw [MakeChecks.laidMetH_plain _ _ _ (by kernel_rfl)]
  exact laidMet_of_run' 8 (by kernel_rfl) (by kernel_rfl)
end Go.Proofs.YtpjfnnlopcccaaaDoor
namespace Go.Proofs.YtpjfnnlopcccaaaDoor
open Go Go.RowKit Go.WideShapes Go.ChangeShapes Go.WideElems Go.Deep
set_option linter.unusedVariables false
set_option linter.unusedSimpArgs false
section
variable {H : Type} {enc : TypeId × Value → H} {w : World} {base : Nat} {spare : Nat → Bool} {held : Bool}
theorem one_le_bulk (d : DataW H) : 1 ≤ Rows.uptoBulk d := by
  cases d with
  | lit l => cases l <;> simp [Rows.uptoBulk]
  | nil => simp [Rows.uptoBulk]
  | ptr d => simp [Rows.uptoBulk]
  | slice elems spare => simp [Rows.uptoBulk]
  | agg parts => simp [Rows.uptoBulk]
  | iface t d => simp [Rows.uptoBulk]
  | map entries => simp [Rows.uptoBulk]
  | held h => simp [Rows.uptoBulk]
theorem length_le_bulk (l : List (DataW H)) : l.length ≤ Rows.uptoBulkAll l := by
  induction l with
  | nil => simp [Rows.uptoBulkAll]
  | cons x r ih => have := one_le_bulk x; simp only [Rows.uptoBulkAll, List.length_cons]; omega
theorem bulk_str (s : ByteArray) : Rows.uptoBulk (DataW.lit (H := H) (.string s.data.toList)) = s.size + 1 := by simp only [Rows.uptoBulk]; rw [Array.length_toList]; rfl
set_option maxRecDepth 100000 in
/-- A list of slots that comes in, nil let in; it is no longer than its datum's bulk. -/
theorem open_slots {b0 : Nat} {v : Value} {d : DataW H} {p : List MemPlace} (hv : Value.okWide Tryd.prog w .any b0 22 v) (h : DataW.Trod enc Tryd.prog w base spare held 22 v d p) :
    ∃ (A : Option Addr) (n c : Nat) (X : Nat → Slot), v = .slice A n c ∧ Slots w A n X ∧ n ≤ Rows.uptoBulk d ∧ (A = none → n = 0 ∧ c = 0) ∧ n ≤ c := by
  have h0 := h
  obtain ⟨A, n, c, rfl, hl, hm, hA, hf⟩ := open_structs_any Tryd.underlying22 Tryd.underlying44 (by kernel_rfl) (by kernel_rfl) (by decide) hv h
  have hlen : n ≤ Rows.uptoBulk d ∧ (A = none → n = 0 ∧ c = 0) := by
    obtain ⟨fu, hf'⟩ := h0
    rcases open_slice Tryd.underlying22 hf' with ⟨hcs, _⟩ | ⟨a, len', cap', m, n', D, Pl, hcs, _, _, _, _, hx, _⟩
    · simp [Value.cells] at hcs
      exact ⟨by omega, fun _ => ⟨hcs.2.1, hcs.2.2⟩⟩
    · simp [Value.cells] at hcs
      obtain ⟨e1, rfl, _⟩ := hcs
      simp only [Prod.mk.injEq] at hx
      refine ⟨?_, fun e => by rw [e1] at e; cases e⟩
      rw [hx.1]
      have := length_le_bulk ((List.range n).map D)
      simp only [Rows.uptoBulk, List.length_map, List.length_range] at this ⊢
      omega
  have each : ∀ i, i < n → ∃ x : Slot, ∃ b off, A = some ⟨b, off, none⟩ ∧ b < w.heap.size ∧ Cells5 w b (off + i * 5) x := by
    intro i hi
    obtain ⟨ad, rfl, hlt⟩ := hA (by omega)
    obtain ⟨c0, y0, n0, g0, t0⟩ := hf i hi ad rfl 0 _ rfl
    obtain ⟨c1, y1, n1, g1, t1⟩ := hf i hi ad rfl 1 _ rfl
    obtain ⟨c2, y2, n2, g2, t2⟩ := hf i hi ad rfl 2 _ rfl
    obtain ⟨c3, y3, n3, g3, t3⟩ := hf i hi ad rfl 3 _ rfl
    obtain ⟨c4, y4, n4, g4, t4⟩ := hf i hi ad rfl 4 _ rfl
    obtain ⟨o, e0, _, w0⟩ := DataW.trod_int Tryd.underlying3 t0
    obtain ⟨dd, e1, _, w1⟩ := DataW.trod_int Tryd.underlying3 t1
    obtain ⟨s, e2, _, w2⟩ := DataW.trod_int Tryd.underlying3 t2
    obtain ⟨f, e3, _, w3⟩ := DataW.trod_int Tryd.underlying3 t3
    obtain ⟨m, e4, _, w4⟩ := DataW.trod_int Tryd.underlying3 t4
    cases e0; cases e1; cases e2; cases e3; cases e4
    obtain ⟨b, off, spot⟩ := ad
    have hspot : spot = none := by
      obtain ⟨_, _, _, gz, _⟩ := hf 0 (by omega) ⟨b, off, spot⟩ rfl 0 _ rfl
      simpa [Addr.add] using World.cell?_spot gz
    subst hspot
    simp only [Go.WideShapes.add_plain] at g0 g1 g2 g3 g4
    exact ⟨⟨o, dd, s, f, m⟩, b, off, rfl, hlt, g0, g1, g2, g3, g4⟩
  have : Inhabited Slot := ⟨⟨0, 0, 0, 0, 0⟩⟩
  obtain ⟨X, hX⟩ := choose_lt each
  exact ⟨A, n, c, X, rfl, hX, hlen.1, hlen.2, hl⟩
end
end Go.Proofs.YtpjfnnlopcccaaaDoor
