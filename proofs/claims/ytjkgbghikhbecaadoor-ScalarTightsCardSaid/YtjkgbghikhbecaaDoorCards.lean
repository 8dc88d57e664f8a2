/-
  DERIVED. GIVEN WITH THE SEED: THE CARDS: each row of YtjkgbghikhbecaaDoorRows.lean that lists a variable, with what it lists TIED to the program's text (the seventh form; the later family's looks); each row that meets fmt, with fmt's text TOLD by the authors' own Lean function (tested against real Go, not proved from fmt's source: count such statements apart). THE CARD IS WHAT COUNTS. Prove the row's statement (the work); the ties are given (YtjkgbghikhbecaaDoorTie.lean); close each card by the builder's one call (the guide's Derived/Test/ToyasCard.lean, 'card_holds'). Laid BY PROGRAM, IN A SANDBOX (cutbox-door.mjs). By AI agents, Wed Nov 11 2026. No macro, syntax, notation, axiom, sorry.
-/
import Derived.Test.YtjkgbghikhbecaaDoorRows
import GoSem.ClaimSeven
namespace Go.Proofs.YtjkgbghikhbecaaDoor
namespace Rows

/-- THE TIED CARD OF 'portcullislaw16.ScalarTights'. -/
def scalarTightsCard : Claim7 := { stood := { row := scalarTightsRow, standIns := [], harness := (true, "86dd081c3ab13649b16def3bb5962baeea57e5bdcc6622d58367bd534928353e"), looks := false }, kinds := [], alts := [], laidByText := true, laidKinds := [.data], laidTests := true, laidLooks := .later }
def ScalarTightsCardSaid : Prop := Claim7.holds Tryd.pinned (.plain (OpenSpec.ofChange scalarTightsSpec)) scalarTightsCard

/-- THE TIED CARD OF 'portcullislaw16.ScalarSets'. -/
def scalarSetsCard : Claim7 := { stood := { row := scalarSetsRow, standIns := [], harness := (true, "86dd081c3ab13649b16def3bb5962baeea57e5bdcc6622d58367bd534928353e"), looks := false }, kinds := [], alts := [], laidByText := true, laidKinds := [.data], laidTests := true, laidLooks := .later }
def ScalarSetsCardSaid : Prop := Claim7.holds Tryd.pinned (.plain (OpenSpec.ofChange scalarSetsSpec)) scalarSetsCard

/-- THE TIED CARD OF 'portcullislaw16.ScalarCasts'. -/
def scalarCastsCard : Claim7 := { stood := { row := scalarCastsRow, standIns := [], harness := (true, "86dd081c3ab13649b16def3bb5962baeea57e5bdcc6622d58367bd534928353e"), looks := false }, kinds := [], alts := [], laidByText := true, laidKinds := [.data], laidTests := true, laidLooks := .later }
def ScalarCastsCardSaid : Prop := Claim7.holds Tryd.pinned (.plain (OpenSpec.ofChange scalarCastsSpec)) scalarCastsCard

/-- THE TIED CARD OF 'portcullislaw16.ScalarKeeps'. -/
def scalarKeepsCard : Claim7 := { stood := { row := scalarKeepsRow, standIns := [], harness := (true, "86dd081c3ab13649b16def3bb5962baeea57e5bdcc6622d58367bd534928353e"), looks := false }, kinds := [], alts := [], laidByText := true, laidKinds := [.data], laidTests := true, laidLooks := .later }
def ScalarKeepsCardSaid : Prop := Claim7.holds Tryd.pinned (.plain (OpenSpec.ofChange scalarKeepsSpec)) scalarKeepsCard

/-- THE SECOND FORM's CARD OF 'portcullislaw16.ScalarTights'. -/
def scalarTightsUptoCard : Claim7 := { stood := { row := scalarTightsUptoRow, standIns := [], harness := (true, "86dd081c3ab13649b16def3bb5962baeea57e5bdcc6622d58367bd534928353e"), looks := false }, kinds := [], alts := [], laidByText := true, laidKinds := [.data], laidTests := true, laidLooks := .later }
def ScalarTightsUptoCardSaid : Prop := Claim7.holds Tryd.pinned (.plain (OpenSpec.upto scalarTightsSpec)) scalarTightsUptoCard

/-- THE SECOND FORM's CARD OF 'portcullislaw16.ScalarSets'. -/
def scalarSetsUptoCard : Claim7 := { stood := { row := scalarSetsUptoRow, standIns := [], harness := (true, "86dd081c3ab13649b16def3bb5962baeea57e5bdcc6622d58367bd534928353e"), looks := false }, kinds := [], alts := [], laidByText := true, laidKinds := [.data], laidTests := true, laidLooks := .later }
def ScalarSetsUptoCardSaid : Prop := Claim7.holds Tryd.pinned (.plain (OpenSpec.upto scalarSetsSpec)) scalarSetsUptoCard

/-- THE SECOND FORM's CARD OF 'portcullislaw16.ScalarCasts'. -/
def scalarCastsUptoCard : Claim7 := { stood := { row := scalarCastsUptoRow, standIns := [], harness := (true, "86dd081c3ab13649b16def3bb5962baeea57e5bdcc6622d58367bd534928353e"), looks := false }, kinds := [], alts := [], laidByText := true, laidKinds := [.data], laidTests := true, laidLooks := .later }
def ScalarCastsUptoCardSaid : Prop := Claim7.holds Tryd.pinned (.plain (OpenSpec.upto scalarCastsSpec)) scalarCastsUptoCard

/-- THE SECOND FORM's CARD OF 'portcullislaw16.ScalarKeeps'. -/
def scalarKeepsUptoCard : Claim7 := { stood := { row := scalarKeepsUptoRow, standIns := [], harness := (true, "86dd081c3ab13649b16def3bb5962baeea57e5bdcc6622d58367bd534928353e"), looks := false }, kinds := [], alts := [], laidByText := true, laidKinds := [.data], laidTests := true, laidLooks := .later }
def ScalarKeepsUptoCardSaid : Prop := Claim7.holds Tryd.pinned (.plain (OpenSpec.upto scalarKeepsSpec)) scalarKeepsUptoCard
end Rows
end Go.Proofs.YtjkgbghikhbecaaDoor
