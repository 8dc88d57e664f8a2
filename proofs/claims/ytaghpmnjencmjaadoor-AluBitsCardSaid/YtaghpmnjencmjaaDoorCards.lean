/-
  DERIVED. GIVEN WITH THE SEED: THE CARDS: each row of YtaghpmnjencmjaaDoorRows.lean that lists a variable, with what it lists TIED to the program's text (the seventh form; the later family's looks); each row that meets fmt, with fmt's text TOLD by the authors' own Lean function (tested against real Go, not proved from fmt's source: count such statements apart). THE CARD IS WHAT COUNTS. Prove the row's statement (the work); the ties are given (YtaghpmnjencmjaaDoorTie.lean); close each card by the builder's one call (the guide's Derived/Test/ToyasCard.lean, 'card_holds'). Laid BY PROGRAM, IN A SANDBOX (cutbox-door.mjs). By AI agents, Wed Nov 11 2026. No macro, syntax, notation, axiom, sorry.
-/
import Derived.Test.YtaghpmnjencmjaaDoorRows
import GoSem.ClaimSeven
namespace Go.Proofs.YtaghpmnjencmjaaDoor
namespace Rows

/-- THE TIED CARD OF 'portcullislaw01.AluBins'. -/
def aluBinsCard : Claim7 := { stood := { row := aluBinsRow, standIns := [], harness := (true, "fc3a26136ef6726b97eab4adbf3c47bf2063a766b6f999fcedef94647581326a"), looks := false }, kinds := [], alts := [], laidByText := true, laidKinds := [.data], laidTests := true, laidLooks := .later }
def AluBinsCardSaid : Prop := Claim7.holds Tryd.pinned (.plain (OpenSpec.ofChange aluBinsSpec)) aluBinsCard

/-- THE TIED CARD OF 'portcullislaw01.AluBits'. -/
def aluBitsCard : Claim7 := { stood := { row := aluBitsRow, standIns := [], harness := (true, "fc3a26136ef6726b97eab4adbf3c47bf2063a766b6f999fcedef94647581326a"), looks := false }, kinds := [], alts := [], laidByText := true, laidKinds := [.data], laidTests := true, laidLooks := .later }
def AluBitsCardSaid : Prop := Claim7.holds Tryd.pinned (.plain (OpenSpec.ofChange aluBitsSpec)) aluBitsCard

/-- THE TIED CARD OF 'portcullislaw01.AluTests'. -/
def aluTestsCard : Claim7 := { stood := { row := aluTestsRow, standIns := [], harness := (true, "fc3a26136ef6726b97eab4adbf3c47bf2063a766b6f999fcedef94647581326a"), looks := false }, kinds := [], alts := [], laidByText := true, laidKinds := [.data], laidTests := true, laidLooks := .later }
def AluTestsCardSaid : Prop := Claim7.holds Tryd.pinned (.plain (OpenSpec.ofChange aluTestsSpec)) aluTestsCard

/-- THE TIED CARD OF 'portcullislaw01.AluHalves'. -/
def aluHalvesCard : Claim7 := { stood := { row := aluHalvesRow, standIns := [], harness := (true, "fc3a26136ef6726b97eab4adbf3c47bf2063a766b6f999fcedef94647581326a"), looks := false }, kinds := [], alts := [], laidByText := true, laidKinds := [.data], laidTests := true, laidLooks := .later }
def AluHalvesCardSaid : Prop := Claim7.holds Tryd.pinned (.plain (OpenSpec.ofChange aluHalvesSpec)) aluHalvesCard

/-- THE TIED CARD OF 'portcullislaw01.AluRules'. -/
def aluRulesCard : Claim7 := { stood := { row := aluRulesRow, standIns := [], harness := (true, "fc3a26136ef6726b97eab4adbf3c47bf2063a766b6f999fcedef94647581326a"), looks := false }, kinds := [], alts := [], laidByText := true, laidKinds := [.data], laidTests := true, laidLooks := .later }
def AluRulesCardSaid : Prop := Claim7.holds Tryd.pinned (.plain (OpenSpec.ofChange aluRulesSpec)) aluRulesCard

/-- THE TIED CARD OF 'portcullislaw01.AluShifts'. -/
def aluShiftsCard : Claim7 := { stood := { row := aluShiftsRow, standIns := [], harness := (true, "fc3a26136ef6726b97eab4adbf3c47bf2063a766b6f999fcedef94647581326a"), looks := false }, kinds := [], alts := [], laidByText := true, laidKinds := [.data], laidTests := true, laidLooks := .later }
def AluShiftsCardSaid : Prop := Claim7.holds Tryd.pinned (.plain (OpenSpec.ofChange aluShiftsSpec)) aluShiftsCard

/-- THE SECOND FORM's CARD OF 'portcullislaw01.AluBins'. -/
def aluBinsUptoCard : Claim7 := { stood := { row := aluBinsUptoRow, standIns := [], harness := (true, "fc3a26136ef6726b97eab4adbf3c47bf2063a766b6f999fcedef94647581326a"), looks := false }, kinds := [], alts := [], laidByText := true, laidKinds := [.data], laidTests := true, laidLooks := .later }
def AluBinsUptoCardSaid : Prop := Claim7.holds Tryd.pinned (.plain (OpenSpec.upto aluBinsSpec)) aluBinsUptoCard

/-- THE SECOND FORM's CARD OF 'portcullislaw01.AluBits'. -/
def aluBitsUptoCard : Claim7 := { stood := { row := aluBitsUptoRow, standIns := [], harness := (true, "fc3a26136ef6726b97eab4adbf3c47bf2063a766b6f999fcedef94647581326a"), looks := false }, kinds := [], alts := [], laidByText := true, laidKinds := [.data], laidTests := true, laidLooks := .later }
def AluBitsUptoCardSaid : Prop := Claim7.holds Tryd.pinned (.plain (OpenSpec.upto aluBitsSpec)) aluBitsUptoCard

/-- THE SECOND FORM's CARD OF 'portcullislaw01.AluTests'. -/
def aluTestsUptoCard : Claim7 := { stood := { row := aluTestsUptoRow, standIns := [], harness := (true, "fc3a26136ef6726b97eab4adbf3c47bf2063a766b6f999fcedef94647581326a"), looks := false }, kinds := [], alts := [], laidByText := true, laidKinds := [.data], laidTests := true, laidLooks := .later }
def AluTestsUptoCardSaid : Prop := Claim7.holds Tryd.pinned (.plain (OpenSpec.upto aluTestsSpec)) aluTestsUptoCard

/-- THE SECOND FORM's CARD OF 'portcullislaw01.AluHalves'. -/
def aluHalvesUptoCard : Claim7 := { stood := { row := aluHalvesUptoRow, standIns := [], harness := (true, "fc3a26136ef6726b97eab4adbf3c47bf2063a766b6f999fcedef94647581326a"), looks := false }, kinds := [], alts := [], laidByText := true, laidKinds := [.data], laidTests := true, laidLooks := .later }
def AluHalvesUptoCardSaid : Prop := Claim7.holds Tryd.pinned (.plain (OpenSpec.upto aluHalvesSpec)) aluHalvesUptoCard

/-- THE SECOND FORM's CARD OF 'portcullislaw01.AluRules'. -/
def aluRulesUptoCard : Claim7 := { stood := { row := aluRulesUptoRow, standIns := [], harness := (true, "fc3a26136ef6726b97eab4adbf3c47bf2063a766b6f999fcedef94647581326a"), looks := false }, kinds := [], alts := [], laidByText := true, laidKinds := [.data], laidTests := true, laidLooks := .later }
def AluRulesUptoCardSaid : Prop := Claim7.holds Tryd.pinned (.plain (OpenSpec.upto aluRulesSpec)) aluRulesUptoCard

/-- THE SECOND FORM's CARD OF 'portcullislaw01.AluShifts'. -/
def aluShiftsUptoCard : Claim7 := { stood := { row := aluShiftsUptoRow, standIns := [], harness := (true, "fc3a26136ef6726b97eab4adbf3c47bf2063a766b6f999fcedef94647581326a"), looks := false }, kinds := [], alts := [], laidByText := true, laidKinds := [.data], laidTests := true, laidLooks := .later }
def AluShiftsUptoCardSaid : Prop := Claim7.holds Tryd.pinned (.plain (OpenSpec.upto aluShiftsSpec)) aluShiftsUptoCard
end Rows
end Go.Proofs.YtaghpmnjencmjaaDoor
