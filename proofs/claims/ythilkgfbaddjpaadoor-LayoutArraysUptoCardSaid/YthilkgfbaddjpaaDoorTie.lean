/-
  DERIVED. GIVEN WITH THE SEED: THE PROGRAM's TIES (one call each: nine closed facts by the kernel) AND EACH ROW's TIE, after the 31st guide's Derived/Test/Toyas{Tie, Card}.lean. No idea stands in it: it is a product of the set-up. Laid BY PROGRAM, IN A SANDBOX (cutbox-door.mjs). By AI agents, Wed Nov 11 2026. No macro, syntax, notation, axiom, sorry.
-/
import Derived.Test.YthilkgfbaddjpaaDoorRows
import Derived.LaidByTextLater
import Derived.SevenTiedAt
import Derived.LaidSub
import Derived.LaidOnce
namespace Go.Proofs.YthilkgfbaddjpaaDoor
open Go
set_option maxRecDepth 100000
theorem seatTie1 : Tryd.prog.laidByTextLater [("errors.errorType", Rows.laid_errors_errorType), ("portcullis/layout.errMany", Rows.laid_portcullis_layout_errMany), ("portcullis/layout.errAlone", Rows.laid_portcullis_layout_errAlone), ("portcullis/layout.errHolds", Rows.laid_portcullis_layout_errHolds), ("portcullis/layout.errLarge", Rows.laid_portcullis_layout_errLarge), ("portcullis/layout.errOut", Rows.laid_portcullis_layout_errOut), ("portcullis/layout.errVoid", Rows.laid_portcullis_layout_errVoid), ("portcullis/layout.errNumber", Rows.laid_portcullis_layout_errNumber), ("portcullis/layout.errField", Rows.laid_portcullis_layout_errField), ("portcullis/layout.errOther", Rows.laid_portcullis_layout_errOther)] [.handle, .sentinel, .sentinel, .sentinel, .sentinel, .sentinel, .sentinel, .sentinel, .sentinel, .sentinel] true :=
  Program.laidByTextLater_by_one 187 8 2 (by kernel_rfl) (by kernel_rfl) (by kernel_rfl) (by kernel_rfl) (by kernel_rfl) (by kernel_rfl) (fun _ _ => by kernel_rfl)
theorem noOwnUnsafe : Tryd.pinned.checked.prog.headLifts.contains "ownunsafe" = false := by kernel_rfl
theorem tie : Tryd.prog.laidByTextLater [("errors.errorType", Rows.laid_errors_errorType), ("portcullis/layout.errMany", Rows.laid_portcullis_layout_errMany), ("portcullis/layout.errAlone", Rows.laid_portcullis_layout_errAlone), ("portcullis/layout.errHolds", Rows.laid_portcullis_layout_errHolds), ("portcullis/layout.errLarge", Rows.laid_portcullis_layout_errLarge), ("portcullis/layout.errOut", Rows.laid_portcullis_layout_errOut), ("portcullis/layout.errVoid", Rows.laid_portcullis_layout_errVoid), ("portcullis/layout.errNumber", Rows.laid_portcullis_layout_errNumber), ("portcullis/layout.errField", Rows.laid_portcullis_layout_errField), ("portcullis/layout.errOther", Rows.laid_portcullis_layout_errOther)] [.handle, .sentinel, .sentinel, .sentinel, .sentinel, .sentinel, .sentinel, .sentinel, .sentinel, .sentinel] true :=
  Program.laidByTextLater.sub seatTie1 ["errors.errorType", "portcullis/layout.errMany", "portcullis/layout.errAlone", "portcullis/layout.errHolds", "portcullis/layout.errLarge", "portcullis/layout.errOut", "portcullis/layout.errVoid", "portcullis/layout.errNumber", "portcullis/layout.errField", "portcullis/layout.errOther"] (by kernel_rfl) (by kernel_rfl)
theorem layoutWithin_row_tie : Rows.layoutWithinRow.laidByTextAt .later Tryd.pinned [.handle, .sentinel, .sentinel, .sentinel, .sentinel, .sentinel, .sentinel, .sentinel, .sentinel, .sentinel] true :=
  OpenClaim.laidByTextAt_later rfl rfl tie noOwnUnsafe
theorem layoutArrays_row_tie : Rows.layoutArraysRow.laidByTextAt .later Tryd.pinned [.handle, .sentinel, .sentinel, .sentinel, .sentinel, .sentinel, .sentinel, .sentinel, .sentinel, .sentinel] true :=
  OpenClaim.laidByTextAt_later rfl rfl tie noOwnUnsafe
theorem layoutWithinUpto_row_tie : Rows.layoutWithinUptoRow.laidByTextAt .later Tryd.pinned [.handle, .sentinel, .sentinel, .sentinel, .sentinel, .sentinel, .sentinel, .sentinel, .sentinel, .sentinel] true :=
  OpenClaim.laidByTextAt_later rfl rfl tie noOwnUnsafe
theorem layoutArraysUpto_row_tie : Rows.layoutArraysUptoRow.laidByTextAt .later Tryd.pinned [.handle, .sentinel, .sentinel, .sentinel, .sentinel, .sentinel, .sentinel, .sentinel, .sentinel, .sentinel] true :=
  OpenClaim.laidByTextAt_later rfl rfl tie noOwnUnsafe
end Go.Proofs.YthilkgfbaddjpaaDoor
