/-
  NARROWER THAN 'FOR EVERY INPUT', by the rows' own cells (each row's printed sentence says how): ScalarTights: laid · ScalarSets: laid · ScalarCasts: laid · ScalarKeeps: laid.
  DERIVED. THE GIVEN ROWS OF THIS SEAT. 4 by the template 'for every input the law returns true; each argument reads behind the call as it read before'; 0 by the template 'total and deterministic' (their statements: YtjkgbghikhbecaaDoorTotals.lean).
  GIVEN WITH THE SEED: the statements are not yours to turn. If you find one false, say at which input.
  Laid BY PROGRAM, IN A SANDBOX (cutbox-rows.mjs): the forced cells as the released guide's own fill.sh prints them over the translation 725ac705652c2312… (all of the seat's roots in one cut). By AI agents, Wed Nov 11 2026. No macro, syntax, notation, axiom, sorry.
-/
import Derived.Test.YtjkgbghikhbecaaDoorChecked
import GoSem.Claim
import GoSem.ClaimJoined
import GoSem.ClaimMapViews
import Derived.JoinedTies
import Derived.KernelRfl
namespace Go.Proofs.YtjkgbghikhbecaaDoor
/- THE CELL 'sum', in the pinned program and in every row, IS THE sha256 OF THE DUMP (.gsa) THAT YtjkgbghikhbecaaDoorProg.lean LOADS. Nothing in Lean hashes anything: it is a label: what it is worth is what the hold of that sum in a sandbox is worth. -/
noncomputable def Tryd.pinned : Pinned := { name := "ytjkgbghikhbecaadoor", sum := "725ac705652c23122cfa45c57ed2452fdd97334d43f0f614b2bc254328300bb1", checked := Tryd.checked }
namespace Rows
def none {H : Type} : Left H := { results := [], args := [] }

/- WHAT THE LISTED PACKAGE-LEVEL VARIABLES READ AS WHEN THE CALL BEGINS. Each datum BY PROGRAM (the guide's laid-datum.mjs) off the statement by which the dump's own 'gosem.cut.vars' lays the variable. In a bare row this is a premise. The card (YtjkgbghikhbecaaDoorCards.lean) ties it to the program's text. -/
def laid_portcullis_alu_edges {H : Type} : DataW H := .agg [.agg [.lit (.int .i64 0), .lit (.bool false), .lit (.int .u64 18446744073709551615), .lit (.int .u64 4294967295), .lit (.int .i64 0), .lit (.int .i64 0)], .agg [.lit (.int .i64 16), .lit (.bool false), .lit (.int .u64 18446744073709551615), .lit (.int .u64 4294967295), .lit (.int .i64 0), .lit (.int .i64 0)], .agg [.lit (.int .i64 32), .lit (.bool false), .lit (.int .u64 18446744073709551615), .lit (.int .u64 4294967295), .lit (.int .i64 0), .lit (.int .i64 0)], .agg [.lit (.int .i64 48), .lit (.bool true), .lit (.int .u64 18446744073709551615), .lit (.int .u64 4294967295), .lit (.int .i64 1), .lit (.int .i64 2)], .agg [.lit (.int .i64 64), .lit (.bool false), .lit (.int .u64 18446744073709551615), .lit (.int .u64 4294967295), .lit (.int .i64 0), .lit (.int .i64 0)], .agg [.lit (.int .i64 80), .lit (.bool false), .lit (.int .u64 18446744073709551615), .lit (.int .u64 4294967295), .lit (.int .i64 0), .lit (.int .i64 0)], .agg [.lit (.int .i64 96), .lit (.bool false), .lit (.int .u64 63), .lit (.int .u64 31), .lit (.int .i64 0), .lit (.int .i64 0)], .agg [.lit (.int .i64 112), .lit (.bool false), .lit (.int .u64 63), .lit (.int .u64 31), .lit (.int .i64 0), .lit (.int .i64 0)], .agg [.lit (.int .i64 128), .lit (.bool false), .lit (.int .u64 18446744073709551615), .lit (.int .u64 4294967295), .lit (.int .i64 0), .lit (.int .i64 0)], .agg [.lit (.int .i64 144), .lit (.bool true), .lit (.int .u64 18446744073709551615), .lit (.int .u64 4294967295), .lit (.int .i64 2), .lit (.int .i64 1)], .agg [.lit (.int .i64 160), .lit (.bool false), .lit (.int .u64 18446744073709551615), .lit (.int .u64 4294967295), .lit (.int .i64 0), .lit (.int .i64 0)], .agg [.lit (.int .i64 176), .lit (.bool false), .lit (.int .u64 18446744073709551615), .lit (.int .u64 4294967295), .lit (.int .i64 0), .lit (.int .i64 0)], .agg [.lit (.int .i64 192), .lit (.bool false), .lit (.int .u64 63), .lit (.int .u64 31), .lit (.int .i64 0), .lit (.int .i64 0)]]

/-- 'portcullislaw16.ScalarTights': WHATEVER THE INPUT: true; the input reads as it did. -/
def scalarTightsSpec : ChangeSpec := { name := "scalarTights", fn := fun _ => fun
  | [d1, d2] => { results := [.lit (.bool true)], args := [d1, d2] }
  | _ => none }
def scalarTightsRow : OpenClaim := { program := "ytjkgbghikhbecaadoor", sum := "725ac705652c23122cfa45c57ed2452fdd97334d43f0f614b2bc254328300bb1", func := "portcullis/portcullislaw16.ScalarTights", spec := "scalarTights", unfollowed := true, recurses := true, named := ["portcullis/alu.edges"], apart := false, laid := [("portcullis/alu.edges", laid_portcullis_alu_edges)] }
def ScalarTightsSaid : Prop := scalarTightsRow.holds Tryd.pinned (OpenSpec.ofChange scalarTightsSpec)

/-- ITS FALSE NEIGHBOUR: 'it returns false'. Refute it at one input. -/
def scalarTightsWrong : ChangeSpec := { name := "scalarTights", fn := fun _ => fun
  | [d1, d2] => { results := [.lit (.bool false)], args := [d1, d2] }
  | _ => none }
def ScalarTightsWrongFalsely : Prop := scalarTightsRow.holds Tryd.pinned (OpenSpec.ofChange scalarTightsWrong)

/-- 'portcullislaw16.ScalarSets': WHATEVER THE INPUT: true; the input reads as it did. -/
def scalarSetsSpec : ChangeSpec := { name := "scalarSets", fn := fun _ => fun
  | [d1, d2] => { results := [.lit (.bool true)], args := [d1, d2] }
  | _ => none }
def scalarSetsRow : OpenClaim := { program := "ytjkgbghikhbecaadoor", sum := "725ac705652c23122cfa45c57ed2452fdd97334d43f0f614b2bc254328300bb1", func := "portcullis/portcullislaw16.ScalarSets", spec := "scalarSets", unfollowed := true, recurses := true, named := ["portcullis/alu.edges"], apart := false, laid := [("portcullis/alu.edges", laid_portcullis_alu_edges)] }
def ScalarSetsSaid : Prop := scalarSetsRow.holds Tryd.pinned (OpenSpec.ofChange scalarSetsSpec)

/-- ITS FALSE NEIGHBOUR: 'it returns false'. Refute it at one input. -/
def scalarSetsWrong : ChangeSpec := { name := "scalarSets", fn := fun _ => fun
  | [d1, d2] => { results := [.lit (.bool false)], args := [d1, d2] }
  | _ => none }
def ScalarSetsWrongFalsely : Prop := scalarSetsRow.holds Tryd.pinned (OpenSpec.ofChange scalarSetsWrong)

/-- 'portcullislaw16.ScalarCasts': WHATEVER THE INPUT: true; the input reads as it did. -/
def scalarCastsSpec : ChangeSpec := { name := "scalarCasts", fn := fun _ => fun
  | [d1, d2, d3] => { results := [.lit (.bool true)], args := [d1, d2, d3] }
  | _ => none }
def scalarCastsRow : OpenClaim := { program := "ytjkgbghikhbecaadoor", sum := "725ac705652c23122cfa45c57ed2452fdd97334d43f0f614b2bc254328300bb1", func := "portcullis/portcullislaw16.ScalarCasts", spec := "scalarCasts", unfollowed := true, recurses := true, named := ["portcullis/alu.edges"], apart := false, laid := [("portcullis/alu.edges", laid_portcullis_alu_edges)] }
def ScalarCastsSaid : Prop := scalarCastsRow.holds Tryd.pinned (OpenSpec.ofChange scalarCastsSpec)

/-- ITS FALSE NEIGHBOUR: 'it returns false'. Refute it at one input. -/
def scalarCastsWrong : ChangeSpec := { name := "scalarCasts", fn := fun _ => fun
  | [d1, d2, d3] => { results := [.lit (.bool false)], args := [d1, d2, d3] }
  | _ => none }
def ScalarCastsWrongFalsely : Prop := scalarCastsRow.holds Tryd.pinned (OpenSpec.ofChange scalarCastsWrong)

/-- 'portcullislaw16.ScalarKeeps': WHATEVER THE INPUT: true; the input reads as it did. -/
def scalarKeepsSpec : ChangeSpec := { name := "scalarKeeps", fn := fun _ => fun
  | [d1, d2] => { results := [.lit (.bool true)], args := [d1, d2] }
  | _ => none }
def scalarKeepsRow : OpenClaim := { program := "ytjkgbghikhbecaadoor", sum := "725ac705652c23122cfa45c57ed2452fdd97334d43f0f614b2bc254328300bb1", func := "portcullis/portcullislaw16.ScalarKeeps", spec := "scalarKeeps", unfollowed := true, recurses := true, named := ["portcullis/alu.edges"], apart := false, laid := [("portcullis/alu.edges", laid_portcullis_alu_edges)] }
def ScalarKeepsSaid : Prop := scalarKeepsRow.holds Tryd.pinned (OpenSpec.ofChange scalarKeepsSpec)

/-- ITS FALSE NEIGHBOUR: 'it returns false'. Refute it at one input. -/
def scalarKeepsWrong : ChangeSpec := { name := "scalarKeeps", fn := fun _ => fun
  | [d1, d2] => { results := [.lit (.bool false)], args := [d1, d2] }
  | _ => none }
def ScalarKeepsWrongFalsely : Prop := scalarKeepsRow.holds Tryd.pinned (OpenSpec.ofChange scalarKeepsWrong)

/- THE SECOND FORM. 'bulk': how many values and letters a reading holds, each counted each time it is reached (what is shared counts as often as it is met; a slice's spare places count too). A statement '..UptoSaid' is the law's where the arguments, and the package variables that the reading takes, are together of bulk at most 1048576: NARROWER than '..Said'. Prove '..Said' where nothing that the law and all that it calls make is longer than what came in: it says more and counts as full. Else prove '..UptoSaid'. A law counts once. -/
mutual
def uptoBulk {H : Type} : DataW H → Nat
  | .lit (.string bytes) => bytes.length + 1
  | .lit _ => 1
  | .nil => 1
  | .ptr d => uptoBulk d + 1
  | .slice elems spare => uptoBulkAll elems + uptoBulkAll spare + 1
  | .agg parts => uptoBulkAll parts + 1
  | .iface _ d => uptoBulk d + 1
  | .map entries => uptoBulkEntries entries + 1
  | .held _ => 1
def uptoBulkAll {H : Type} : List (DataW H) → Nat
  | [] => 0
  | d :: r => uptoBulk d + uptoBulkAll r
def uptoBulkEntries {H : Type} : List (Lit × DataW H) → Nat
  | [] => 0
  | x :: r => uptoBulkEntry x + uptoBulkEntries r
def uptoBulkEntry {H : Type} : Lit × DataW H → Nat
  | (.string bytes, d) => bytes.length + uptoBulk d + 1
  | (_, d) => uptoBulk d + 1
 end
def uptoSmall : (H : Type) → List (DataW H) → Bool := fun _ ds => decide (uptoBulkAll ds ≤ 1048576)
def OpenSpec.upto (s : _root_.Go.ChangeSpec) : _root_.Go.OpenSpec := { _root_.Go.OpenSpec.ofChange s with cond := some uptoSmall }

/-- 'portcullislaw16.ScalarTights', WHERE WHAT IT READS IS OF BULK AT MOST 1048576: true; the input reads as it did. -/
def scalarTightsUptoRow : OpenClaim := { program := "ytjkgbghikhbecaadoor", sum := "725ac705652c23122cfa45c57ed2452fdd97334d43f0f614b2bc254328300bb1", func := "portcullis/portcullislaw16.ScalarTights", spec := "scalarTights", unfollowed := true, recurses := true, named := ["portcullis/alu.edges"], apart := false, laid := [("portcullis/alu.edges", laid_portcullis_alu_edges)], narrowed := true }
def ScalarTightsUptoSaid : Prop := scalarTightsUptoRow.holds Tryd.pinned (OpenSpec.upto scalarTightsSpec)

/-- 'portcullislaw16.ScalarSets', WHERE WHAT IT READS IS OF BULK AT MOST 1048576: true; the input reads as it did. -/
def scalarSetsUptoRow : OpenClaim := { program := "ytjkgbghikhbecaadoor", sum := "725ac705652c23122cfa45c57ed2452fdd97334d43f0f614b2bc254328300bb1", func := "portcullis/portcullislaw16.ScalarSets", spec := "scalarSets", unfollowed := true, recurses := true, named := ["portcullis/alu.edges"], apart := false, laid := [("portcullis/alu.edges", laid_portcullis_alu_edges)], narrowed := true }
def ScalarSetsUptoSaid : Prop := scalarSetsUptoRow.holds Tryd.pinned (OpenSpec.upto scalarSetsSpec)

/-- 'portcullislaw16.ScalarCasts', WHERE WHAT IT READS IS OF BULK AT MOST 1048576: true; the input reads as it did. -/
def scalarCastsUptoRow : OpenClaim := { program := "ytjkgbghikhbecaadoor", sum := "725ac705652c23122cfa45c57ed2452fdd97334d43f0f614b2bc254328300bb1", func := "portcullis/portcullislaw16.ScalarCasts", spec := "scalarCasts", unfollowed := true, recurses := true, named := ["portcullis/alu.edges"], apart := false, laid := [("portcullis/alu.edges", laid_portcullis_alu_edges)], narrowed := true }
def ScalarCastsUptoSaid : Prop := scalarCastsUptoRow.holds Tryd.pinned (OpenSpec.upto scalarCastsSpec)

/-- 'portcullislaw16.ScalarKeeps', WHERE WHAT IT READS IS OF BULK AT MOST 1048576: true; the input reads as it did. -/
def scalarKeepsUptoRow : OpenClaim := { program := "ytjkgbghikhbecaadoor", sum := "725ac705652c23122cfa45c57ed2452fdd97334d43f0f614b2bc254328300bb1", func := "portcullis/portcullislaw16.ScalarKeeps", spec := "scalarKeeps", unfollowed := true, recurses := true, named := ["portcullis/alu.edges"], apart := false, laid := [("portcullis/alu.edges", laid_portcullis_alu_edges)], narrowed := true }
def ScalarKeepsUptoSaid : Prop := scalarKeepsUptoRow.holds Tryd.pinned (OpenSpec.upto scalarKeepsSpec)

end Rows
end Go.Proofs.YtjkgbghikhbecaaDoor
