/-
  DERIVED. GIVEN WITH THE SEED: THE CARDS: each row of YticklgoegmobbaaDoorRows.lean that lists a variable, with what it lists TIED to the program's text (the seventh form; the later family's looks); each row that meets fmt, with fmt's text TOLD by the authors' own Lean function (tested against real Go, not proved from fmt's source: count such statements apart). THE CARD IS WHAT COUNTS. Prove the row's statement (the work); the ties are given (YticklgoegmobbaaDoorTie.lean); close each card by the builder's one call (the guide's Derived/Test/ToyasCard.lean, 'card_holds'). Laid BY PROGRAM, IN A SANDBOX (cutbox-door.mjs). By AI agents, Wed Nov 11 2026. No macro, syntax, notation, axiom, sorry.
-/
import Derived.Test.YticklgoegmobbaaDoorRows
import GoSem.ClaimSeven
namespace Go.Proofs.YticklgoegmobbaaDoor
namespace Rows

/-- THE TIED CARD OF 'portcullislaw05.ShapeChecks'. -/
def shapeChecksCard : Claim7 := { stood := { row := shapeChecksRow, standIns := [], harness := (true, "7c21c13031e4649086da8d49ee8589929b8c044ea9b4f6d3c15ff655b24f4cb2"), looks := false }, kinds := [], alts := [], laidByText := true, laidKinds := [.data], laidTests := true, laidLooks := .later }
def ShapeChecksCardSaid : Prop := Claim7.holds Tryd.pinned (.plain (OpenSpec.ofChange shapeChecksSpec)) shapeChecksCard

/-- THE TIED CARD OF 'portcullislaw05.ShapeNexts'. -/
def shapeNextsCard : Claim7 := { stood := { row := shapeNextsRow, standIns := [], harness := (true, "7c21c13031e4649086da8d49ee8589929b8c044ea9b4f6d3c15ff655b24f4cb2"), looks := false }, kinds := [], alts := [], laidByText := true, laidKinds := [.data], laidTests := true, laidLooks := .later }
def ShapeNextsCardSaid : Prop := Claim7.holds Tryd.pinned (.plain (OpenSpec.ofChange shapeNextsSpec)) shapeNextsCard

/-- THE TIED CARD OF 'portcullislaw05.ShapeStays'. -/
def shapeStaysCard : Claim7 := { stood := { row := shapeStaysRow, standIns := [], harness := (true, "7c21c13031e4649086da8d49ee8589929b8c044ea9b4f6d3c15ff655b24f4cb2"), looks := false }, kinds := [], alts := [], laidByText := true, laidKinds := [.data], laidTests := true, laidLooks := .later }
def ShapeStaysCardSaid : Prop := Claim7.holds Tryd.pinned (.plain (OpenSpec.ofChange shapeStaysSpec)) shapeStaysCard

/-- THE TIED CARD OF 'portcullislaw05.ShapeTails'. -/
def shapeTailsCard : Claim7 := { stood := { row := shapeTailsRow, standIns := [], harness := (true, "7c21c13031e4649086da8d49ee8589929b8c044ea9b4f6d3c15ff655b24f4cb2"), looks := false }, kinds := [], alts := [], laidByText := true, laidKinds := [.data], laidTests := true, laidLooks := .later }
def ShapeTailsCardSaid : Prop := Claim7.holds Tryd.pinned (.plain (OpenSpec.ofChange shapeTailsSpec)) shapeTailsCard

/-- THE SECOND FORM's CARD OF 'portcullislaw05.ShapeChecks'. -/
def shapeChecksUptoCard : Claim7 := { stood := { row := shapeChecksUptoRow, standIns := [], harness := (true, "7c21c13031e4649086da8d49ee8589929b8c044ea9b4f6d3c15ff655b24f4cb2"), looks := false }, kinds := [], alts := [], laidByText := true, laidKinds := [.data], laidTests := true, laidLooks := .later }
def ShapeChecksUptoCardSaid : Prop := Claim7.holds Tryd.pinned (.plain (OpenSpec.upto shapeChecksSpec)) shapeChecksUptoCard

/-- THE SECOND FORM's CARD OF 'portcullislaw05.ShapeNexts'. -/
def shapeNextsUptoCard : Claim7 := { stood := { row := shapeNextsUptoRow, standIns := [], harness := (true, "7c21c13031e4649086da8d49ee8589929b8c044ea9b4f6d3c15ff655b24f4cb2"), looks := false }, kinds := [], alts := [], laidByText := true, laidKinds := [.data], laidTests := true, laidLooks := .later }
def ShapeNextsUptoCardSaid : Prop := Claim7.holds Tryd.pinned (.plain (OpenSpec.upto shapeNextsSpec)) shapeNextsUptoCard

/-- THE SECOND FORM's CARD OF 'portcullislaw05.ShapeStays'. -/
def shapeStaysUptoCard : Claim7 := { stood := { row := shapeStaysUptoRow, standIns := [], harness := (true, "7c21c13031e4649086da8d49ee8589929b8c044ea9b4f6d3c15ff655b24f4cb2"), looks := false }, kinds := [], alts := [], laidByText := true, laidKinds := [.data], laidTests := true, laidLooks := .later }
def ShapeStaysUptoCardSaid : Prop := Claim7.holds Tryd.pinned (.plain (OpenSpec.upto shapeStaysSpec)) shapeStaysUptoCard

/-- THE SECOND FORM's CARD OF 'portcullislaw05.ShapeTails'. -/
def shapeTailsUptoCard : Claim7 := { stood := { row := shapeTailsUptoRow, standIns := [], harness := (true, "7c21c13031e4649086da8d49ee8589929b8c044ea9b4f6d3c15ff655b24f4cb2"), looks := false }, kinds := [], alts := [], laidByText := true, laidKinds := [.data], laidTests := true, laidLooks := .later }
def ShapeTailsUptoCardSaid : Prop := Claim7.holds Tryd.pinned (.plain (OpenSpec.upto shapeTailsSpec)) shapeTailsUptoCard
end Rows
end Go.Proofs.YticklgoegmobbaaDoor
