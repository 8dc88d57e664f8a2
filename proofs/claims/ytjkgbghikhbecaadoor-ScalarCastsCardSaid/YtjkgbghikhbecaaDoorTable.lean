/-
  The package's table reads, where its listed datum is laid, as 'Edges' says; the heap that the program's own initialisers leave is such a one.
-/
import Derived.Test.YtjkgbghikhbecaaDoorKit
import Derived.Test.YtjkgbghikhbecaaDoorBinAll
import Derived.LaidMore
import Derived.LaidOnce
import Derived.Stop.Joined
namespace Go.Proofs.YtjkgbghikhbecaaDoor
open Go Go.RowKit Go.WideShapes Go.ChangeShapes
set_option linter.unusedVariables false

abbrev laid1 : List (String × DataW Unit) := [("portcullis/alu.edges", Rows.laid_portcullis_alu_edges)]
theorem own : ownKnob Tryd.prog.godebug = none := by kernel_rfl
theorem laidOut : laidOutB Tryd.prog = true := by kernel_rfl
theorem gEdges : Tryd.prog.globalNamed "portcullis/alu.edges" = some 0 := by kernel_rfl
theorem tEdges : (Tryd.prog.globals[0]?).map (·.type) = some 76 := by kernel_rfl
theorem door_met (os : Os) (args : Array Value) : laidMetH Tryd.prog laid1 ((World.doorLaid Tryd.prog 27 os).forCall (fun _ _ => 0) ⟨#[], args, []⟩).memory :=
  laidMetH_of_parts3 (fuel := 8) (laidMet_of_run' 8 (by kernel_rfl) (by kernel_rfl)) (by kernel_rfl) (by kernel_rfl)

def edgeRow (i : Nat) : List Value := [.int .i64 (16 * i), .bool (eSg i), .int .u64 (eP64 i), .int .u64 (eP32 i), .int .i64 (eZero i), .int .i64 (eOver i)]
def edgeCells : List Value := (List.range 13).flatMap edgeRow
theorem edges_back : back Tryd.prog 4 76 (Rows.laid_portcullis_alu_edges (H := Unit)) = some edgeCells := by kernel_rfl

theorem edges_of_laid {W : World} (h : laidMetH Tryd.prog laid1 W) : Edges W := by
  rw [MakeChecks.laidMetH_plain _ _ _ (by kernel_rfl)] at h
  obtain ⟨ps, ⟨g, t, cs, f, p, q, hg, ht, hv, hd, _, _⟩, _⟩ := h
  obtain rfl := Option.some.inj (gEdges.symm.trans hg)
  obtain rfl := Option.some.inj (tEdges.symm.trans ht)
  have hcs : cs.toList = edgeCells := back_of_trod 4 f _ _ _ _ hd edges_back
  have hcell : ∀ j, W.cell? ⟨0, j, none⟩ = edgeCells[j]? := fun j => by
    rw [World.var?_cell hg hv j, ← hcs, Array.getElem?_toList]
  have h0 : W.cell? ⟨0, 0, none⟩ = some (.int .i64 0) := (hcell 0).trans (by kernel_rfl)
  refine ⟨World.block_lt_of_cell? W _ h0, fun i hi => ?_⟩
  have hi' : i = 0 ∨ i = 1 ∨ i = 2 ∨ i = 3 ∨ i = 4 ∨ i = 5 ∨ i = 6 ∨ i = 7 ∨ i = 8 ∨ i = 9 ∨ i = 10 ∨ i = 11 ∨ i = 12 := by omega
  rcases hi' with rfl | rfl | rfl | rfl | rfl | rfl | rfl | rfl | rfl | rfl | rfl | rfl | rfl <;>
    exact ⟨(hcell _).trans (by kernel_rfl), (hcell _).trans (by kernel_rfl), (hcell _).trans (by kernel_rfl), (hcell _).trans (by kernel_rfl), (hcell _).trans (by kernel_rfl), (hcell _).trans (by kernel_rfl)⟩
end Go.Proofs.YtjkgbghikhbecaaDoor
