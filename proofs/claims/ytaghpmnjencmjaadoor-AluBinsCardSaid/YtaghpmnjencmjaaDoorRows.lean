/-
  NARROWER THAN 'FOR EVERY INPUT', by the rows' own cells (each row's printed sentence says how): AluBins: laid · AluBits: laid · AluTests: laid · AluHalves: laid · AluRules: laid · AluShifts: laid.
  DERIVED. THE GIVEN ROWS OF THIS SEAT. 6 by the template 'for every input the law returns true; each argument reads behind the call as it read before'; 0 by the template 'total and deterministic' (their statements: YtaghpmnjencmjaaDoorTotals.lean).
  GIVEN WITH THE SEED: the statements are not yours to turn. If you find one false, say at which input.
  Laid BY PROGRAM, IN A SANDBOX (cutbox-rows.mjs): the forced cells as the released guide's own fill.sh prints them over the translation 2983cb4ca900ab28… (all of the seat's roots in one cut). By AI agents, Wed Nov 11 2026. No macro, syntax, notation, axiom, sorry.
-/
import Derived.Test.YtaghpmnjencmjaaDoorChecked
import GoSem.Claim
import GoSem.ClaimJoined
import GoSem.ClaimMapViews
import Derived.JoinedTies
import Derived.KernelRfl
namespace Go.Proofs.YtaghpmnjencmjaaDoor
/- THE CELL 'sum', in the pinned program and in every row, IS THE sha256 OF THE DUMP (.gsa) THAT YtaghpmnjencmjaaDoorProg.lean LOADS. Nothing in Lean hashes anything: it is a label: what it is worth is what the hold of that sum in a sandbox is worth. -/
noncomputable def Tryd.pinned : Pinned := { name := "ytaghpmnjencmjaadoor", sum := "2983cb4ca900ab2839613c23e2c8e8470c4419f82fe262bb6ffdf3e49c7bceb4", checked := Tryd.checked }
namespace Rows
def none {H : Type} : Left H := { results := [], args := [] }

/- WHAT THE LISTED PACKAGE-LEVEL VARIABLES READ AS WHEN THE CALL BEGINS. Each datum BY PROGRAM (the guide's laid-datum.mjs) off the statement by which the dump's own 'gosem.cut.vars' lays the variable. In a bare row this is a premise. The card (YtaghpmnjencmjaaDoorCards.lean) ties it to the program's text. -/
def laid_portcullis_alu_edges {H : Type} : DataW H := .agg [.agg [.lit (.int .i64 0), .lit (.bool false), .lit (.int .u64 18446744073709551615), .lit (.int .u64 4294967295), .lit (.int .i64 0), .lit (.int .i64 0)], .agg [.lit (.int .i64 16), .lit (.bool false), .lit (.int .u64 18446744073709551615), .lit (.int .u64 4294967295), .lit (.int .i64 0), .lit (.int .i64 0)], .agg [.lit (.int .i64 32), .lit (.bool false), .lit (.int .u64 18446744073709551615), .lit (.int .u64 4294967295), .lit (.int .i64 0), .lit (.int .i64 0)], .agg [.lit (.int .i64 48), .lit (.bool true), .lit (.int .u64 18446744073709551615), .lit (.int .u64 4294967295), .lit (.int .i64 1), .lit (.int .i64 2)], .agg [.lit (.int .i64 64), .lit (.bool false), .lit (.int .u64 18446744073709551615), .lit (.int .u64 4294967295), .lit (.int .i64 0), .lit (.int .i64 0)], .agg [.lit (.int .i64 80), .lit (.bool false), .lit (.int .u64 18446744073709551615), .lit (.int .u64 4294967295), .lit (.int .i64 0), .lit (.int .i64 0)], .agg [.lit (.int .i64 96), .lit (.bool false), .lit (.int .u64 63), .lit (.int .u64 31), .lit (.int .i64 0), .lit (.int .i64 0)], .agg [.lit (.int .i64 112), .lit (.bool false), .lit (.int .u64 63), .lit (.int .u64 31), .lit (.int .i64 0), .lit (.int .i64 0)], .agg [.lit (.int .i64 128), .lit (.bool false), .lit (.int .u64 18446744073709551615), .lit (.int .u64 4294967295), .lit (.int .i64 0), .lit (.int .i64 0)], .agg [.lit (.int .i64 144), .lit (.bool true), .lit (.int .u64 18446744073709551615), .lit (.int .u64 4294967295), .lit (.int .i64 2), .lit (.int .i64 1)], .agg [.lit (.int .i64 160), .lit (.bool false), .lit (.int .u64 18446744073709551615), .lit (.int .u64 4294967295), .lit (.int .i64 0), .lit (.int .i64 0)], .agg [.lit (.int .i64 176), .lit (.bool false), .lit (.int .u64 18446744073709551615), .lit (.int .u64 4294967295), .lit (.int .i64 0), .lit (.int .i64 0)], .agg [.lit (.int .i64 192), .lit (.bool false), .lit (.int .u64 63), .lit (.int .u64 31), .lit (.int .i64 0), .lit (.int .i64 0)]]

/-- 'portcullislaw01.AluBins': WHATEVER THE INPUT: true; the input reads as it did. -/
def aluBinsSpec : ChangeSpec := { name := "aluBins", fn := fun _ => fun
  | [d1, d2, d3] => { results := [.lit (.bool true)], args := [d1, d2, d3] }
  | _ => none }
def aluBinsRow : OpenClaim := { program := "ytaghpmnjencmjaadoor", sum := "2983cb4ca900ab2839613c23e2c8e8470c4419f82fe262bb6ffdf3e49c7bceb4", func := "portcullis/portcullislaw01.AluBins", spec := "aluBins", named := ["portcullis/alu.edges"], apart := false, laid := [("portcullis/alu.edges", laid_portcullis_alu_edges)] }
def AluBinsSaid : Prop := aluBinsRow.holds Tryd.pinned (OpenSpec.ofChange aluBinsSpec)

/-- ITS FALSE NEIGHBOUR: 'it returns false'. Refute it at one input. -/
def aluBinsWrong : ChangeSpec := { name := "aluBins", fn := fun _ => fun
  | [d1, d2, d3] => { results := [.lit (.bool false)], args := [d1, d2, d3] }
  | _ => none }
def AluBinsWrongFalsely : Prop := aluBinsRow.holds Tryd.pinned (OpenSpec.ofChange aluBinsWrong)

/-- 'portcullislaw01.AluBits': WHATEVER THE INPUT: true; the input reads as it did. -/
def aluBitsSpec : ChangeSpec := { name := "aluBits", fn := fun _ => fun
  | [d1, d2, d3] => { results := [.lit (.bool true)], args := [d1, d2, d3] }
  | _ => none }
def aluBitsRow : OpenClaim := { program := "ytaghpmnjencmjaadoor", sum := "2983cb4ca900ab2839613c23e2c8e8470c4419f82fe262bb6ffdf3e49c7bceb4", func := "portcullis/portcullislaw01.AluBits", spec := "aluBits", named := ["portcullis/alu.edges"], apart := false, laid := [("portcullis/alu.edges", laid_portcullis_alu_edges)] }
def AluBitsSaid : Prop := aluBitsRow.holds Tryd.pinned (OpenSpec.ofChange aluBitsSpec)

/-- ITS FALSE NEIGHBOUR: 'it returns false'. Refute it at one input. -/
def aluBitsWrong : ChangeSpec := { name := "aluBits", fn := fun _ => fun
  | [d1, d2, d3] => { results := [.lit (.bool false)], args := [d1, d2, d3] }
  | _ => none }
def AluBitsWrongFalsely : Prop := aluBitsRow.holds Tryd.pinned (OpenSpec.ofChange aluBitsWrong)

/-- 'portcullislaw01.AluTests': WHATEVER THE INPUT: true; the input reads as it did. -/
def aluTestsSpec : ChangeSpec := { name := "aluTests", fn := fun _ => fun
  | [d1, d2, d3] => { results := [.lit (.bool true)], args := [d1, d2, d3] }
  | _ => none }
def aluTestsRow : OpenClaim := { program := "ytaghpmnjencmjaadoor", sum := "2983cb4ca900ab2839613c23e2c8e8470c4419f82fe262bb6ffdf3e49c7bceb4", func := "portcullis/portcullislaw01.AluTests", spec := "aluTests", named := ["portcullis/alu.edges"], apart := false, laid := [("portcullis/alu.edges", laid_portcullis_alu_edges)] }
def AluTestsSaid : Prop := aluTestsRow.holds Tryd.pinned (OpenSpec.ofChange aluTestsSpec)

/-- ITS FALSE NEIGHBOUR: 'it returns false'. Refute it at one input. -/
def aluTestsWrong : ChangeSpec := { name := "aluTests", fn := fun _ => fun
  | [d1, d2, d3] => { results := [.lit (.bool false)], args := [d1, d2, d3] }
  | _ => none }
def AluTestsWrongFalsely : Prop := aluTestsRow.holds Tryd.pinned (OpenSpec.ofChange aluTestsWrong)

/-- 'portcullislaw01.AluHalves': WHATEVER THE INPUT: true; the input reads as it did. -/
def aluHalvesSpec : ChangeSpec := { name := "aluHalves", fn := fun _ => fun
  | [d1, d2, d3] => { results := [.lit (.bool true)], args := [d1, d2, d3] }
  | _ => none }
def aluHalvesRow : OpenClaim := { program := "ytaghpmnjencmjaadoor", sum := "2983cb4ca900ab2839613c23e2c8e8470c4419f82fe262bb6ffdf3e49c7bceb4", func := "portcullis/portcullislaw01.AluHalves", spec := "aluHalves", named := ["portcullis/alu.edges"], apart := false, laid := [("portcullis/alu.edges", laid_portcullis_alu_edges)] }
def AluHalvesSaid : Prop := aluHalvesRow.holds Tryd.pinned (OpenSpec.ofChange aluHalvesSpec)

/-- ITS FALSE NEIGHBOUR: 'it returns false'. Refute it at one input. -/
def aluHalvesWrong : ChangeSpec := { name := "aluHalves", fn := fun _ => fun
  | [d1, d2, d3] => { results := [.lit (.bool false)], args := [d1, d2, d3] }
  | _ => none }
def AluHalvesWrongFalsely : Prop := aluHalvesRow.holds Tryd.pinned (OpenSpec.ofChange aluHalvesWrong)

/-- 'portcullislaw01.AluRules': WHATEVER THE INPUT: true; the input reads as it did. -/
def aluRulesSpec : ChangeSpec := { name := "aluRules", fn := fun _ => fun
  | [d1, d2] => { results := [.lit (.bool true)], args := [d1, d2] }
  | _ => none }
def aluRulesRow : OpenClaim := { program := "ytaghpmnjencmjaadoor", sum := "2983cb4ca900ab2839613c23e2c8e8470c4419f82fe262bb6ffdf3e49c7bceb4", func := "portcullis/portcullislaw01.AluRules", spec := "aluRules", named := ["portcullis/alu.edges"], apart := false, laid := [("portcullis/alu.edges", laid_portcullis_alu_edges)] }
def AluRulesSaid : Prop := aluRulesRow.holds Tryd.pinned (OpenSpec.ofChange aluRulesSpec)

/-- ITS FALSE NEIGHBOUR: 'it returns false'. Refute it at one input. -/
def aluRulesWrong : ChangeSpec := { name := "aluRules", fn := fun _ => fun
  | [d1, d2] => { results := [.lit (.bool false)], args := [d1, d2] }
  | _ => none }
def AluRulesWrongFalsely : Prop := aluRulesRow.holds Tryd.pinned (OpenSpec.ofChange aluRulesWrong)

/-- 'portcullislaw01.AluShifts': WHATEVER THE INPUT: true; the input reads as it did. -/
def aluShiftsSpec : ChangeSpec := { name := "aluShifts", fn := fun _ => fun
  | [d1, d2, d3] => { results := [.lit (.bool true)], args := [d1, d2, d3] }
  | _ => none }
def aluShiftsRow : OpenClaim := { program := "ytaghpmnjencmjaadoor", sum := "2983cb4ca900ab2839613c23e2c8e8470c4419f82fe262bb6ffdf3e49c7bceb4", func := "portcullis/portcullislaw01.AluShifts", spec := "aluShifts", named := ["portcullis/alu.edges"], apart := false, laid := [("portcullis/alu.edges", laid_portcullis_alu_edges)] }
def AluShiftsSaid : Prop := aluShiftsRow.holds Tryd.pinned (OpenSpec.ofChange aluShiftsSpec)

/-- ITS FALSE NEIGHBOUR: 'it returns false'. Refute it at one input. -/
def aluShiftsWrong : ChangeSpec := { name := "aluShifts", fn := fun _ => fun
  | [d1, d2, d3] => { results := [.lit (.bool false)], args := [d1, d2, d3] }
  | _ => none }
def AluShiftsWrongFalsely : Prop := aluShiftsRow.holds Tryd.pinned (OpenSpec.ofChange aluShiftsWrong)

/- THE SECOND FORM. 'bulk': how many values and letters a reading holds, each counted each time it is reached (what is shared counts as often as it is met; a slice's spare places count too). A statement '..UptoSaid' is the law's where the arguments, and the package variables that the reading takes, are together of bulk at most 1048576: NARROWER than '..Said'. Prove '..Said' where nothing that the law and all that it calls make is longer than what came in: it says more and counts as full. Else prove '..UptoSaid'. A law counts once. -/
mutual
def uptoBulk {H : Type} : DataW H → Nat
  | .lit (.string bytes) => bytes.length + 1
  | .lit _ => 1
  | .nil => 1
  | .ptr d => uptoBulk d + 1
  | .slice elems spare => uptoBulkAll elems + uptoBulkAll spare + 1
  | .agg parts => uptoBulkAll parts + 1
  | .iface _ d => uptoBulk d + 1
  | .map entries => uptoBulkEntries entries + 1
  | .held _ => 1
def uptoBulkAll {H : Type} : List (DataW H) → Nat
  | [] => 0
  | d :: r => uptoBulk d + uptoBulkAll r
def uptoBulkEntries {H : Type} : List (Lit × DataW H) → Nat
  | [] => 0
  | x :: r => uptoBulkEntry x + uptoBulkEntries r
def uptoBulkEntry {H : Type} : Lit × DataW H → Nat
  | (.string bytes, d) => bytes.length + uptoBulk d + 1
  | (_, d) => uptoBulk d + 1
 end
def uptoSmall : (H : Type) → List (DataW H) → Bool := fun _ ds => decide (uptoBulkAll ds ≤ 1048576)
def OpenSpec.upto (s : _root_.Go.ChangeSpec) : _root_.Go.OpenSpec := { _root_.Go.OpenSpec.ofChange s with cond := some uptoSmall }

/-- 'portcullislaw01.AluBins', WHERE WHAT IT READS IS OF BULK AT MOST 1048576: true; the input reads as it did. -/
def aluBinsUptoRow : OpenClaim := { program := "ytaghpmnjencmjaadoor", sum := "2983cb4ca900ab2839613c23e2c8e8470c4419f82fe262bb6ffdf3e49c7bceb4", func := "portcullis/portcullislaw01.AluBins", spec := "aluBins", named := ["portcullis/alu.edges"], apart := false, laid := [("portcullis/alu.edges", laid_portcullis_alu_edges)], narrowed := true }
def AluBinsUptoSaid : Prop := aluBinsUptoRow.holds Tryd.pinned (OpenSpec.upto aluBinsSpec)

/-- 'portcullislaw01.AluBits', WHERE WHAT IT READS IS OF BULK AT MOST 1048576: true; the input reads as it did. -/
def aluBitsUptoRow : OpenClaim := { program := "ytaghpmnjencmjaadoor", sum := "2983cb4ca900ab2839613c23e2c8e8470c4419f82fe262bb6ffdf3e49c7bceb4", func := "portcullis/portcullislaw01.AluBits", spec := "aluBits", named := ["portcullis/alu.edges"], apart := false, laid := [("portcullis/alu.edges", laid_portcullis_alu_edges)], narrowed := true }
def AluBitsUptoSaid : Prop := aluBitsUptoRow.holds Tryd.pinned (OpenSpec.upto aluBitsSpec)

/-- 'portcullislaw01.AluTests', WHERE WHAT IT READS IS OF BULK AT MOST 1048576: true; the input reads as it did. -/
def aluTestsUptoRow : OpenClaim := { program := "ytaghpmnjencmjaadoor", sum := "2983cb4ca900ab2839613c23e2c8e8470c4419f82fe262bb6ffdf3e49c7bceb4", func := "portcullis/portcullislaw01.AluTests", spec := "aluTests", named := ["portcullis/alu.edges"], apart := false, laid := [("portcullis/alu.edges", laid_portcullis_alu_edges)], narrowed := true }
def AluTestsUptoSaid : Prop := aluTestsUptoRow.holds Tryd.pinned (OpenSpec.upto aluTestsSpec)

/-- 'portcullislaw01.AluHalves', WHERE WHAT IT READS IS OF BULK AT MOST 1048576: true; the input reads as it did. -/
def aluHalvesUptoRow : OpenClaim := { program := "ytaghpmnjencmjaadoor", sum := "2983cb4ca900ab2839613c23e2c8e8470c4419f82fe262bb6ffdf3e49c7bceb4", func := "portcullis/portcullislaw01.AluHalves", spec := "aluHalves", named := ["portcullis/alu.edges"], apart := false, laid := [("portcullis/alu.edges", laid_portcullis_alu_edges)], narrowed := true }
def AluHalvesUptoSaid : Prop := aluHalvesUptoRow.holds Tryd.pinned (OpenSpec.upto aluHalvesSpec)

/-- 'portcullislaw01.AluRules', WHERE WHAT IT READS IS OF BULK AT MOST 1048576: true; the input reads as it did. -/
def aluRulesUptoRow : OpenClaim := { program := "ytaghpmnjencmjaadoor", sum := "2983cb4ca900ab2839613c23e2c8e8470c4419f82fe262bb6ffdf3e49c7bceb4", func := "portcullis/portcullislaw01.AluRules", spec := "aluRules", named := ["portcullis/alu.edges"], apart := false, laid := [("portcullis/alu.edges", laid_portcullis_alu_edges)], narrowed := true }
def AluRulesUptoSaid : Prop := aluRulesUptoRow.holds Tryd.pinned (OpenSpec.upto aluRulesSpec)

/-- 'portcullislaw01.AluShifts', WHERE WHAT IT READS IS OF BULK AT MOST 1048576: true; the input reads as it did. -/
def aluShiftsUptoRow : OpenClaim := { program := "ytaghpmnjencmjaadoor", sum := "2983cb4ca900ab2839613c23e2c8e8470c4419f82fe262bb6ffdf3e49c7bceb4", func := "portcullis/portcullislaw01.AluShifts", spec := "aluShifts", named := ["portcullis/alu.edges"], apart := false, laid := [("portcullis/alu.edges", laid_portcullis_alu_edges)], narrowed := true }
def AluShiftsUptoSaid : Prop := aluShiftsUptoRow.holds Tryd.pinned (OpenSpec.upto aluShiftsSpec)

end Rows
end Go.Proofs.YtaghpmnjencmjaaDoor
