/-
  NARROWER THAN 'FOR EVERY INPUT', by the rows' own cells (each row's printed sentence says how): LayoutWithin: laid · LayoutArrays: laid.
  DERIVED. THE GIVEN ROWS OF THIS SEAT. 2 by the template 'for every input the law returns true; each argument reads behind the call as it read before'; 0 by the template 'total and deterministic' (their statements: YthilkgfbaddjpaaDoorTotals.lean).
  GIVEN WITH THE SEED: the statements are not yours to turn. If you find one false, say at which input.
  Laid BY PROGRAM, IN A SANDBOX (cutbox-rows.mjs): the forced cells as the released guide's own fill.sh prints them over the translation c21cf32ebd3af341… (all of the seat's roots in one cut). By AI agents, Wed Nov 11 2026. No macro, syntax, notation, axiom, sorry.
-/
import Derived.Test.YthilkgfbaddjpaaDoorChecked
import GoSem.Claim
import GoSem.ClaimJoined
import GoSem.ClaimMapViews
import Derived.JoinedTies
import Derived.KernelRfl
namespace Go.Proofs.YthilkgfbaddjpaaDoor
/- THE CELL 'sum', in the pinned program and in every row, IS THE sha256 OF THE DUMP (.gsa) THAT YthilkgfbaddjpaaDoorProg.lean LOADS. Nothing in Lean hashes anything: it is a label: what it is worth is what the hold of that sum in a sandbox is worth. -/
noncomputable def Tryd.pinned : Pinned := { name := "ythilkgfbaddjpaadoor", sum := "c21cf32ebd3af34184007a08c8980401ef5d44ad0e94bb94d4cc2c8fb19e0b1d", checked := Tryd.checked }
namespace Rows
def none {H : Type} : Left H := { results := [], args := [] }

/- WHAT THE LISTED PACKAGE-LEVEL VARIABLES READ AS WHEN THE CALL BEGINS. Each datum BY PROGRAM (the guide's laid-datum.mjs) off the statement by which the dump's own 'gosem.cut.vars' lays the variable. In a bare row this is a premise. The card (YthilkgfbaddjpaaDoorCards.lean) ties it to the program's text. -/
def laid_errors_errorType {H : Type} : DataW H := .iface "internal/reflectlite.rtype" (.agg [.ptr (.lit (.string [101, 114, 114, 111, 114]))])
def laid_portcullis_layout_errMany {H : Type} : DataW H := .iface "*errors.errorString" (.ptr (.agg [.lit (.string [116, 104, 101, 114, 101, 32, 97, 114, 101, 32, 109, 111, 114, 101, 32, 116, 121, 112, 101, 115, 32, 116, 104, 97, 110, 32, 116, 104, 101, 114, 101, 32, 109, 97, 121, 32, 98, 101])]))
def laid_portcullis_layout_errAlone {H : Type} : DataW H := .iface "*errors.errorString" (.ptr (.agg [.lit (.string [105, 116, 32, 105, 115, 32, 110, 111, 116, 32, 119, 101, 108, 108, 32, 98, 121, 32, 105, 116, 115, 101, 108, 102])]))
def laid_portcullis_layout_errHolds {H : Type} : DataW H := .iface "*errors.errorString" (.ptr (.agg [.lit (.string [105, 116, 32, 104, 111, 108, 100, 115, 32, 105, 116, 115, 101, 108, 102])]))
def laid_portcullis_layout_errLarge {H : Type} : DataW H := .iface "*errors.errorString" (.ptr (.agg [.lit (.string [105, 116, 32, 105, 115, 32, 116, 111, 111, 32, 108, 97, 114, 103, 101])]))
def laid_portcullis_layout_errOut {H : Type} : DataW H := .iface "*errors.errorString" (.ptr (.agg [.lit (.string [97, 32, 109, 101, 109, 98, 101, 114, 32, 100, 111, 101, 115, 32, 110, 111, 116, 32, 108, 105, 101, 32, 119, 105, 116, 104, 105, 110, 32, 105, 116])]))
def laid_portcullis_layout_errVoid {H : Type} : DataW H := .iface "*errors.errorString" (.ptr (.agg [.lit (.string [110, 111, 116, 104, 105, 110, 103, 32, 104, 97, 115, 32, 110, 111, 32, 115, 105, 122, 101])]))
def laid_portcullis_layout_errNumber {H : Type} : DataW H := .iface "*errors.errorString" (.ptr (.agg [.lit (.string [110, 111, 32, 116, 121, 112, 101, 32, 104, 97, 115, 32, 116, 104, 101, 32, 110, 117, 109, 98, 101, 114])]))
def laid_portcullis_layout_errField {H : Type} : DataW H := .iface "*errors.errorString" (.ptr (.agg [.lit (.string [116, 104, 101, 114, 101, 32, 105, 115, 32, 110, 111, 32, 115, 117, 99, 104, 32, 102, 105, 101, 108, 100])]))
def laid_portcullis_layout_errOther {H : Type} : DataW H := .iface "*errors.errorString" (.ptr (.agg [.lit (.string [116, 104, 101, 32, 109, 97, 112, 32, 104, 97, 115, 32, 97, 110, 111, 116, 104, 101, 114, 32, 115, 105, 122, 101])]))

/-- 'portcullislaw07.LayoutWithin': WHATEVER THE INPUT: true; the input reads as it did. -/
def layoutWithinSpec : ChangeSpec := { name := "layoutWithin", fn := fun _ => fun
  | [d1, d2, d3] => { results := [.lit (.bool true)], args := [d1, d2, d3] }
  | _ => none }
def layoutWithinRow : OpenClaim := { program := "ythilkgfbaddjpaadoor", sum := "c21cf32ebd3af34184007a08c8980401ef5d44ad0e94bb94d4cc2c8fb19e0b1d", func := "portcullis/portcullislaw07.LayoutWithin", spec := "layoutWithin", inPlace := ["internal/reflectlite.TypeOf", "internal/reflectlite.ValueOf", "(internal/reflectlite.Value).Type", "(internal/reflectlite.Value).IsNil", "(internal/reflectlite.Value).Elem", "(internal/reflectlite.Value).Set"], unfollowed := true, recurses := true, named := ["portcullis/layout.errMany", "portcullis/layout.errAlone", "portcullis/layout.errHolds", "portcullis/layout.errVoid", "portcullis/layout.errNumber", "portcullis/layout.errLarge", "portcullis/layout.errOut", "portcullis/layout.errField", "errors.errorType", "portcullis/layout.errOther"], apart := false, laid := [("errors.errorType", laid_errors_errorType), ("portcullis/layout.errMany", laid_portcullis_layout_errMany), ("portcullis/layout.errAlone", laid_portcullis_layout_errAlone), ("portcullis/layout.errHolds", laid_portcullis_layout_errHolds), ("portcullis/layout.errLarge", laid_portcullis_layout_errLarge), ("portcullis/layout.errOut", laid_portcullis_layout_errOut), ("portcullis/layout.errVoid", laid_portcullis_layout_errVoid), ("portcullis/layout.errNumber", laid_portcullis_layout_errNumber), ("portcullis/layout.errField", laid_portcullis_layout_errField), ("portcullis/layout.errOther", laid_portcullis_layout_errOther)] }
def LayoutWithinSaid : Prop := layoutWithinRow.holds Tryd.pinned (OpenSpec.ofChange layoutWithinSpec)

/-- ITS FALSE NEIGHBOUR: 'it returns false'. Refute it at one input. -/
def layoutWithinWrong : ChangeSpec := { name := "layoutWithin", fn := fun _ => fun
  | [d1, d2, d3] => { results := [.lit (.bool false)], args := [d1, d2, d3] }
  | _ => none }
def LayoutWithinWrongFalsely : Prop := layoutWithinRow.holds Tryd.pinned (OpenSpec.ofChange layoutWithinWrong)

/-- 'portcullislaw07.LayoutArrays': WHATEVER THE INPUT: true; the input reads as it did. -/
def layoutArraysSpec : ChangeSpec := { name := "layoutArrays", fn := fun _ => fun
  | [d1, d2, d3] => { results := [.lit (.bool true)], args := [d1, d2, d3] }
  | _ => none }
def layoutArraysRow : OpenClaim := { program := "ythilkgfbaddjpaadoor", sum := "c21cf32ebd3af34184007a08c8980401ef5d44ad0e94bb94d4cc2c8fb19e0b1d", func := "portcullis/portcullislaw07.LayoutArrays", spec := "layoutArrays", inPlace := ["internal/reflectlite.TypeOf", "internal/reflectlite.ValueOf", "(internal/reflectlite.Value).Type", "(internal/reflectlite.Value).IsNil", "(internal/reflectlite.Value).Elem", "(internal/reflectlite.Value).Set"], unfollowed := true, recurses := true, named := ["portcullis/layout.errMany", "portcullis/layout.errAlone", "portcullis/layout.errHolds", "portcullis/layout.errVoid", "portcullis/layout.errNumber", "portcullis/layout.errLarge", "portcullis/layout.errOut", "portcullis/layout.errField", "errors.errorType", "portcullis/layout.errOther"], apart := false, laid := [("errors.errorType", laid_errors_errorType), ("portcullis/layout.errMany", laid_portcullis_layout_errMany), ("portcullis/layout.errAlone", laid_portcullis_layout_errAlone), ("portcullis/layout.errHolds", laid_portcullis_layout_errHolds), ("portcullis/layout.errLarge", laid_portcullis_layout_errLarge), ("portcullis/layout.errOut", laid_portcullis_layout_errOut), ("portcullis/layout.errVoid", laid_portcullis_layout_errVoid), ("portcullis/layout.errNumber", laid_portcullis_layout_errNumber), ("portcullis/layout.errField", laid_portcullis_layout_errField), ("portcullis/layout.errOther", laid_portcullis_layout_errOther)] }
def LayoutArraysSaid : Prop := layoutArraysRow.holds Tryd.pinned (OpenSpec.ofChange layoutArraysSpec)

/-- ITS FALSE NEIGHBOUR: 'it returns false'. Refute it at one input. -/
def layoutArraysWrong : ChangeSpec := { name := "layoutArrays", fn := fun _ => fun
  | [d1, d2, d3] => { results := [.lit (.bool false)], args := [d1, d2, d3] }
  | _ => none }
def LayoutArraysWrongFalsely : Prop := layoutArraysRow.holds Tryd.pinned (OpenSpec.ofChange layoutArraysWrong)

/- THE SECOND FORM. 'bulk': how many values and letters a reading holds, each counted each time it is reached (what is shared counts as often as it is met; a slice's spare places count too). A statement '..UptoSaid' is the law's where the arguments, and the package variables that the reading takes, are together of bulk at most 1048576: NARROWER than '..Said'. Prove '..Said' where nothing that the law and all that it calls make is longer than what came in: it says more and counts as full. Else prove '..UptoSaid'. A law counts once. -/
mutual
def uptoBulk {H : Type} : DataW H → Nat
  | .lit (.string bytes) => bytes.length + 1
  | .lit _ => 1
  | .nil => 1
  | .ptr d => uptoBulk d + 1
  | .slice elems spare => uptoBulkAll elems + uptoBulkAll spare + 1
  | .agg parts => uptoBulkAll parts + 1
  | .iface _ d => uptoBulk d + 1
  | .map entries => uptoBulkEntries entries + 1
  | .held _ => 1
def uptoBulkAll {H : Type} : List (DataW H) → Nat
  | [] => 0
  | d :: r => uptoBulk d + uptoBulkAll r
def uptoBulkEntries {H : Type} : List (Lit × DataW H) → Nat
  | [] => 0
  | x :: r => uptoBulkEntry x + uptoBulkEntries r
def uptoBulkEntry {H : Type} : Lit × DataW H → Nat
  | (.string bytes, d) => bytes.length + uptoBulk d + 1
  | (_, d) => uptoBulk d + 1
 end
def uptoSmall : (H : Type) → List (DataW H) → Bool := fun _ ds => decide (uptoBulkAll ds ≤ 1048576)
def OpenSpec.upto (s : _root_.Go.ChangeSpec) : _root_.Go.OpenSpec := { _root_.Go.OpenSpec.ofChange s with cond := some uptoSmall }

/-- 'portcullislaw07.LayoutWithin', WHERE WHAT IT READS IS OF BULK AT MOST 1048576: true; the input reads as it did. -/
def layoutWithinUptoRow : OpenClaim := { program := "ythilkgfbaddjpaadoor", sum := "c21cf32ebd3af34184007a08c8980401ef5d44ad0e94bb94d4cc2c8fb19e0b1d", func := "portcullis/portcullislaw07.LayoutWithin", spec := "layoutWithin", inPlace := ["internal/reflectlite.TypeOf", "internal/reflectlite.ValueOf", "(internal/reflectlite.Value).Type", "(internal/reflectlite.Value).IsNil", "(internal/reflectlite.Value).Elem", "(internal/reflectlite.Value).Set"], unfollowed := true, recurses := true, named := ["portcullis/layout.errMany", "portcullis/layout.errAlone", "portcullis/layout.errHolds", "portcullis/layout.errVoid", "portcullis/layout.errNumber", "portcullis/layout.errLarge", "portcullis/layout.errOut", "portcullis/layout.errField", "errors.errorType", "portcullis/layout.errOther"], apart := false, laid := [("errors.errorType", laid_errors_errorType), ("portcullis/layout.errMany", laid_portcullis_layout_errMany), ("portcullis/layout.errAlone", laid_portcullis_layout_errAlone), ("portcullis/layout.errHolds", laid_portcullis_layout_errHolds), ("portcullis/layout.errLarge", laid_portcullis_layout_errLarge), ("portcullis/layout.errOut", laid_portcullis_layout_errOut), ("portcullis/layout.errVoid", laid_portcullis_layout_errVoid), ("portcullis/layout.errNumber", laid_portcullis_layout_errNumber), ("portcullis/layout.errField", laid_portcullis_layout_errField), ("portcullis/layout.errOther", laid_portcullis_layout_errOther)], narrowed := true }
def LayoutWithinUptoSaid : Prop := layoutWithinUptoRow.holds Tryd.pinned (OpenSpec.upto layoutWithinSpec)

/-- 'portcullislaw07.LayoutArrays', WHERE WHAT IT READS IS OF BULK AT MOST 1048576: true; the input reads as it did. -/
def layoutArraysUptoRow : OpenClaim := { program := "ythilkgfbaddjpaadoor", sum := "c21cf32ebd3af34184007a08c8980401ef5d44ad0e94bb94d4cc2c8fb19e0b1d", func := "portcullis/portcullislaw07.LayoutArrays", spec := "layoutArrays", inPlace := ["internal/reflectlite.TypeOf", "internal/reflectlite.ValueOf", "(internal/reflectlite.Value).Type", "(internal/reflectlite.Value).IsNil", "(internal/reflectlite.Value).Elem", "(internal/reflectlite.Value).Set"], unfollowed := true, recurses := true, named := ["portcullis/layout.errMany", "portcullis/layout.errAlone", "portcullis/layout.errHolds", "portcullis/layout.errVoid", "portcullis/layout.errNumber", "portcullis/layout.errLarge", "portcullis/layout.errOut", "portcullis/layout.errField", "errors.errorType", "portcullis/layout.errOther"], apart := false, laid := [("errors.errorType", laid_errors_errorType), ("portcullis/layout.errMany", laid_portcullis_layout_errMany), ("portcullis/layout.errAlone", laid_portcullis_layout_errAlone), ("portcullis/layout.errHolds", laid_portcullis_layout_errHolds), ("portcullis/layout.errLarge", laid_portcullis_layout_errLarge), ("portcullis/layout.errOut", laid_portcullis_layout_errOut), ("portcullis/layout.errVoid", laid_portcullis_layout_errVoid), ("portcullis/layout.errNumber", laid_portcullis_layout_errNumber), ("portcullis/layout.errField", laid_portcullis_layout_errField), ("portcullis/layout.errOther", laid_portcullis_layout_errOther)], narrowed := true }
def LayoutArraysUptoSaid : Prop := layoutArraysUptoRow.holds Tryd.pinned (OpenSpec.upto layoutArraysSpec)

end Rows
end Go.Proofs.YthilkgfbaddjpaaDoor
