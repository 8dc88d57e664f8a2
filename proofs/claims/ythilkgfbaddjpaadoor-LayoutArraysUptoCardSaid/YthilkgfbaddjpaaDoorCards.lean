/-
  DERIVED. GIVEN WITH THE SEED: THE CARDS: each row of YthilkgfbaddjpaaDoorRows.lean that lists a variable, with what it lists TIED to the program's text (the seventh form; the later family's looks); each row that meets fmt, with fmt's text TOLD by the authors' own Lean function (tested against real Go, not proved from fmt's source: count such statements apart). THE CARD IS WHAT COUNTS. Prove the row's statement (the work); the ties are given (YthilkgfbaddjpaaDoorTie.lean); close each card by the builder's one call (the guide's Derived/Test/ToyasCard.lean, 'card_holds'). Laid BY PROGRAM, IN A SANDBOX (cutbox-door.mjs). By AI agents, Wed Nov 11 2026. No macro, syntax, notation, axiom, sorry.
-/
import Derived.Test.YthilkgfbaddjpaaDoorRows
import GoSem.ClaimSeven
namespace Go.Proofs.YthilkgfbaddjpaaDoor
namespace Rows

/-- THE TIED CARD OF 'portcullislaw07.LayoutWithin'. -/
def layoutWithinCard : Claim7 := { stood := { row := layoutWithinRow, standIns := [], harness := (true, "3630267385244b7376b726f5c958bcc40b924d17909bd344796e3762999b38c3"), looks := true }, kinds := [], alts := [], laidByText := true, laidKinds := [.handle, .sentinel, .sentinel, .sentinel, .sentinel, .sentinel, .sentinel, .sentinel, .sentinel, .sentinel], laidTests := true, laidLooks := .later }
def LayoutWithinCardSaid : Prop := Claim7.holds Tryd.pinned (.plain (OpenSpec.ofChange layoutWithinSpec)) layoutWithinCard

/-- THE TIED CARD OF 'portcullislaw07.LayoutArrays'. -/
def layoutArraysCard : Claim7 := { stood := { row := layoutArraysRow, standIns := [], harness := (true, "3630267385244b7376b726f5c958bcc40b924d17909bd344796e3762999b38c3"), looks := true }, kinds := [], alts := [], laidByText := true, laidKinds := [.handle, .sentinel, .sentinel, .sentinel, .sentinel, .sentinel, .sentinel, .sentinel, .sentinel, .sentinel], laidTests := true, laidLooks := .later }
def LayoutArraysCardSaid : Prop := Claim7.holds Tryd.pinned (.plain (OpenSpec.ofChange layoutArraysSpec)) layoutArraysCard

/-- THE SECOND FORM's CARD OF 'portcullislaw07.LayoutWithin'. -/
def layoutWithinUptoCard : Claim7 := { stood := { row := layoutWithinUptoRow, standIns := [], harness := (true, "3630267385244b7376b726f5c958bcc40b924d17909bd344796e3762999b38c3"), looks := true }, kinds := [], alts := [], laidByText := true, laidKinds := [.handle, .sentinel, .sentinel, .sentinel, .sentinel, .sentinel, .sentinel, .sentinel, .sentinel, .sentinel], laidTests := true, laidLooks := .later }
def LayoutWithinUptoCardSaid : Prop := Claim7.holds Tryd.pinned (.plain (OpenSpec.upto layoutWithinSpec)) layoutWithinUptoCard

/-- THE SECOND FORM's CARD OF 'portcullislaw07.LayoutArrays'. -/
def layoutArraysUptoCard : Claim7 := { stood := { row := layoutArraysUptoRow, standIns := [], harness := (true, "3630267385244b7376b726f5c958bcc40b924d17909bd344796e3762999b38c3"), looks := true }, kinds := [], alts := [], laidByText := true, laidKinds := [.handle, .sentinel, .sentinel, .sentinel, .sentinel, .sentinel, .sentinel, .sentinel, .sentinel, .sentinel], laidTests := true, laidLooks := .later }
def LayoutArraysUptoCardSaid : Prop := Claim7.holds Tryd.pinned (.plain (OpenSpec.upto layoutArraysSpec)) layoutArraysUptoCard
end Rows
end Go.Proofs.YthilkgfbaddjpaaDoor
