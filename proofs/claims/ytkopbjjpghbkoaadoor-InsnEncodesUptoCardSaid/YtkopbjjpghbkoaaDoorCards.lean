/-
  DERIVED. GIVEN WITH THE SEED: THE CARDS: each row of YtkopbjjpghbkoaaDoorRows.lean that lists a variable, with what it lists TIED to the program's text (the seventh form; the later family's looks); each row that meets fmt, with fmt's text TOLD by the authors' own Lean function (tested against real Go, not proved from fmt's source: count such statements apart). THE CARD IS WHAT COUNTS. Prove the row's statement (the work); the ties are given (YtkopbjjpghbkoaaDoorTie.lean); close each card by the builder's one call (the guide's Derived/Test/ToyasCard.lean, 'card_holds'). Laid BY PROGRAM, IN A SANDBOX (cutbox-door.mjs). By AI agents, Wed Nov 11 2026. No macro, syntax, notation, axiom, sorry.
-/
import Derived.Test.YtkopbjjpghbkoaaDoorRows
import GoSem.ClaimSeven
namespace Go.Proofs.YtkopbjjpghbkoaaDoor
namespace Rows

/-- THE TIED CARD OF 'portcullislaw03.InsnEncodes'. -/
def insnEncodesCard : Claim7 := { stood := { row := insnEncodesRow, standIns := [], harness := (true, "a87b0e75fe283a84102bfca1d38c09def51791d5cf868b503aec92af01be47c3"), looks := false }, kinds := [], alts := [], laidByText := true, laidKinds := [.data], laidTests := true, laidLooks := .later }
def InsnEncodesCardSaid : Prop := Claim7.holds Tryd.pinned (.plain (OpenSpec.ofChange insnEncodesSpec)) insnEncodesCard

/-- THE TIED CARD OF 'portcullislaw03.InsnBack'. -/
def insnBackCard : Claim7 := { stood := { row := insnBackRow, standIns := [], harness := (true, "a87b0e75fe283a84102bfca1d38c09def51791d5cf868b503aec92af01be47c3"), looks := false }, kinds := [], alts := [], laidByText := true, laidKinds := [.data], laidTests := true, laidLooks := .later }
def InsnBackCardSaid : Prop := Claim7.holds Tryd.pinned (.plain (OpenSpec.ofChange insnBackSpec)) insnBackCard

/-- THE TIED CARD OF 'portcullislaw03.InsnWides'. -/
def insnWidesCard : Claim7 := { stood := { row := insnWidesRow, standIns := [], harness := (true, "a87b0e75fe283a84102bfca1d38c09def51791d5cf868b503aec92af01be47c3"), looks := false }, kinds := [], alts := [], laidByText := true, laidKinds := [.data], laidTests := true, laidLooks := .later }
def InsnWidesCardSaid : Prop := Claim7.holds Tryd.pinned (.plain (OpenSpec.ofChange insnWidesSpec)) insnWidesCard

/-- THE TIED CARD OF 'portcullislaw03.InsnPieces'. -/
def insnPiecesCard : Claim7 := { stood := { row := insnPiecesRow, standIns := [], harness := (true, "a87b0e75fe283a84102bfca1d38c09def51791d5cf868b503aec92af01be47c3"), looks := false }, kinds := [], alts := [], laidByText := true, laidKinds := [.data], laidTests := true, laidLooks := .later }
def InsnPiecesCardSaid : Prop := Claim7.holds Tryd.pinned (.plain (OpenSpec.ofChange insnPiecesSpec)) insnPiecesCard

/-- THE TIED CARD OF 'portcullislaw03.InsnFields'. -/
def insnFieldsCard : Claim7 := { stood := { row := insnFieldsRow, standIns := [], harness := (true, "a87b0e75fe283a84102bfca1d38c09def51791d5cf868b503aec92af01be47c3"), looks := false }, kinds := [], alts := [], laidByText := true, laidKinds := [.data], laidTests := true, laidLooks := .later }
def InsnFieldsCardSaid : Prop := Claim7.holds Tryd.pinned (.plain (OpenSpec.ofChange insnFieldsSpec)) insnFieldsCard

/-- THE SECOND FORM's CARD OF 'portcullislaw03.InsnEncodes'. -/
def insnEncodesUptoCard : Claim7 := { stood := { row := insnEncodesUptoRow, standIns := [], harness := (true, "a87b0e75fe283a84102bfca1d38c09def51791d5cf868b503aec92af01be47c3"), looks := false }, kinds := [], alts := [], laidByText := true, laidKinds := [.data], laidTests := true, laidLooks := .later }
def InsnEncodesUptoCardSaid : Prop := Claim7.holds Tryd.pinned (.plain (OpenSpec.upto insnEncodesSpec)) insnEncodesUptoCard

/-- THE SECOND FORM's CARD OF 'portcullislaw03.InsnBack'. -/
def insnBackUptoCard : Claim7 := { stood := { row := insnBackUptoRow, standIns := [], harness := (true, "a87b0e75fe283a84102bfca1d38c09def51791d5cf868b503aec92af01be47c3"), looks := false }, kinds := [], alts := [], laidByText := true, laidKinds := [.data], laidTests := true, laidLooks := .later }
def InsnBackUptoCardSaid : Prop := Claim7.holds Tryd.pinned (.plain (OpenSpec.upto insnBackSpec)) insnBackUptoCard

/-- THE SECOND FORM's CARD OF 'portcullislaw03.InsnWides'. -/
def insnWidesUptoCard : Claim7 := { stood := { row := insnWidesUptoRow, standIns := [], harness := (true, "a87b0e75fe283a84102bfca1d38c09def51791d5cf868b503aec92af01be47c3"), looks := false }, kinds := [], alts := [], laidByText := true, laidKinds := [.data], laidTests := true, laidLooks := .later }
def InsnWidesUptoCardSaid : Prop := Claim7.holds Tryd.pinned (.plain (OpenSpec.upto insnWidesSpec)) insnWidesUptoCard

/-- THE SECOND FORM's CARD OF 'portcullislaw03.InsnPieces'. -/
def insnPiecesUptoCard : Claim7 := { stood := { row := insnPiecesUptoRow, standIns := [], harness := (true, "a87b0e75fe283a84102bfca1d38c09def51791d5cf868b503aec92af01be47c3"), looks := false }, kinds := [], alts := [], laidByText := true, laidKinds := [.data], laidTests := true, laidLooks := .later }
def InsnPiecesUptoCardSaid : Prop := Claim7.holds Tryd.pinned (.plain (OpenSpec.upto insnPiecesSpec)) insnPiecesUptoCard

/-- THE SECOND FORM's CARD OF 'portcullislaw03.InsnFields'. -/
def insnFieldsUptoCard : Claim7 := { stood := { row := insnFieldsUptoRow, standIns := [], harness := (true, "a87b0e75fe283a84102bfca1d38c09def51791d5cf868b503aec92af01be47c3"), looks := false }, kinds := [], alts := [], laidByText := true, laidKinds := [.data], laidTests := true, laidLooks := .later }
def InsnFieldsUptoCardSaid : Prop := Claim7.holds Tryd.pinned (.plain (OpenSpec.upto insnFieldsSpec)) insnFieldsUptoCard
end Rows
end Go.Proofs.YtkopbjjpghbkoaaDoor
