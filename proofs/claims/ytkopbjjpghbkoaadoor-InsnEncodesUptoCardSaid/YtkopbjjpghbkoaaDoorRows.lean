/-
  NARROWER THAN 'FOR EVERY INPUT', by the rows' own cells (each row's printed sentence says how): InsnEncodes: laid · InsnBack: laid · InsnWides: laid · InsnPieces: laid · InsnFields: laid.
  DERIVED. THE GIVEN ROWS OF THIS SEAT. 5 by the template 'for every input the law returns true; each argument reads behind the call as it read before'; 0 by the template 'total and deterministic' (their statements: YtkopbjjpghbkoaaDoorTotals.lean).
  GIVEN WITH THE SEED: the statements are not yours to turn. If you find one false, say at which input.
  Laid BY PROGRAM, IN A SANDBOX (cutbox-rows.mjs): the forced cells as the released guide's own fill.sh prints them over the translation a733acd555313437… (all of the seat's roots in one cut). By AI agents, Wed Nov 11 2026. No macro, syntax, notation, axiom, sorry.
-/
import Derived.Test.YtkopbjjpghbkoaaDoorChecked
import GoSem.Claim
import GoSem.ClaimJoined
import GoSem.ClaimMapViews
import Derived.JoinedTies
import Derived.KernelRfl
namespace Go.Proofs.YtkopbjjpghbkoaaDoor
/- THE CELL 'sum', in the pinned program and in every row, IS THE sha256 OF THE DUMP (.gsa) THAT YtkopbjjpghbkoaaDoorProg.lean LOADS. Nothing in Lean hashes anything: it is a label: what it is worth is what the hold of that sum in a sandbox is worth. -/
noncomputable def Tryd.pinned : Pinned := { name := "ytkopbjjpghbkoaadoor", sum := "a733acd5553134375e28d18d1ea789ea48b7870116f551bc5c67dfced8e270cc", checked := Tryd.checked }
namespace Rows
def none {H : Type} : Left H := { results := [], args := [] }

/- WHAT THE LISTED PACKAGE-LEVEL VARIABLES READ AS WHEN THE CALL BEGINS. Each datum BY PROGRAM (the guide's laid-datum.mjs) off the statement by which the dump's own 'gosem.cut.vars' lays the variable. In a bare row this is a premise. The card (YtkopbjjpghbkoaaDoorCards.lean) ties it to the program's text. -/
def laid_portcullis_insn_sizes {H : Type} : DataW H := .agg [.lit (.int .i64 4), .lit (.int .i64 2), .lit (.int .i64 1), .lit (.int .i64 8)]

/-- 'portcullislaw03.InsnEncodes': WHATEVER THE INPUT: true; the input reads as it did. -/
def insnEncodesSpec : ChangeSpec := { name := "insnEncodes", fn := fun _ => fun
  | [d1, d2] => { results := [.lit (.bool true)], args := [d1, d2] }
  | _ => none }
def insnEncodesRow : OpenClaim := { program := "ytkopbjjpghbkoaadoor", sum := "a733acd5553134375e28d18d1ea789ea48b7870116f551bc5c67dfced8e270cc", func := "portcullis/portcullislaw03.InsnEncodes", spec := "insnEncodes", named := ["portcullis/insn.sizes"], apart := false, laid := [("portcullis/insn.sizes", laid_portcullis_insn_sizes)] }
def InsnEncodesSaid : Prop := insnEncodesRow.holds Tryd.pinned (OpenSpec.ofChange insnEncodesSpec)

/-- ITS FALSE NEIGHBOUR: 'it returns false'. Refute it at one input. -/
def insnEncodesWrong : ChangeSpec := { name := "insnEncodes", fn := fun _ => fun
  | [d1, d2] => { results := [.lit (.bool false)], args := [d1, d2] }
  | _ => none }
def InsnEncodesWrongFalsely : Prop := insnEncodesRow.holds Tryd.pinned (OpenSpec.ofChange insnEncodesWrong)

/-- 'portcullislaw03.InsnBack': WHATEVER THE INPUT: true; the input reads as it did. -/
def insnBackSpec : ChangeSpec := { name := "insnBack", fn := fun _ => fun
  | [d1, d2] => { results := [.lit (.bool true)], args := [d1, d2] }
  | _ => none }
def insnBackRow : OpenClaim := { program := "ytkopbjjpghbkoaadoor", sum := "a733acd5553134375e28d18d1ea789ea48b7870116f551bc5c67dfced8e270cc", func := "portcullis/portcullislaw03.InsnBack", spec := "insnBack", named := ["portcullis/insn.sizes"], apart := false, laid := [("portcullis/insn.sizes", laid_portcullis_insn_sizes)] }
def InsnBackSaid : Prop := insnBackRow.holds Tryd.pinned (OpenSpec.ofChange insnBackSpec)

/-- ITS FALSE NEIGHBOUR: 'it returns false'. Refute it at one input. -/
def insnBackWrong : ChangeSpec := { name := "insnBack", fn := fun _ => fun
  | [d1, d2] => { results := [.lit (.bool false)], args := [d1, d2] }
  | _ => none }
def InsnBackWrongFalsely : Prop := insnBackRow.holds Tryd.pinned (OpenSpec.ofChange insnBackWrong)

/-- 'portcullislaw03.InsnWides': WHATEVER THE INPUT: true; the input reads as it did. -/
def insnWidesSpec : ChangeSpec := { name := "insnWides", fn := fun _ => fun
  | [d1, d2, d3] => { results := [.lit (.bool true)], args := [d1, d2, d3] }
  | _ => none }
def insnWidesRow : OpenClaim := { program := "ytkopbjjpghbkoaadoor", sum := "a733acd5553134375e28d18d1ea789ea48b7870116f551bc5c67dfced8e270cc", func := "portcullis/portcullislaw03.InsnWides", spec := "insnWides", named := ["portcullis/insn.sizes"], apart := false, laid := [("portcullis/insn.sizes", laid_portcullis_insn_sizes)] }
def InsnWidesSaid : Prop := insnWidesRow.holds Tryd.pinned (OpenSpec.ofChange insnWidesSpec)

/-- ITS FALSE NEIGHBOUR: 'it returns false'. Refute it at one input. -/
def insnWidesWrong : ChangeSpec := { name := "insnWides", fn := fun _ => fun
  | [d1, d2, d3] => { results := [.lit (.bool false)], args := [d1, d2, d3] }
  | _ => none }
def InsnWidesWrongFalsely : Prop := insnWidesRow.holds Tryd.pinned (OpenSpec.ofChange insnWidesWrong)

/-- 'portcullislaw03.InsnPieces': WHATEVER THE INPUT: true; the input reads as it did. -/
def insnPiecesSpec : ChangeSpec := { name := "insnPieces", fn := fun _ => fun
  | [d1, d2] => { results := [.lit (.bool true)], args := [d1, d2] }
  | _ => none }
def insnPiecesRow : OpenClaim := { program := "ytkopbjjpghbkoaadoor", sum := "a733acd5553134375e28d18d1ea789ea48b7870116f551bc5c67dfced8e270cc", func := "portcullis/portcullislaw03.InsnPieces", spec := "insnPieces", named := ["portcullis/insn.sizes"], apart := false, laid := [("portcullis/insn.sizes", laid_portcullis_insn_sizes)] }
def InsnPiecesSaid : Prop := insnPiecesRow.holds Tryd.pinned (OpenSpec.ofChange insnPiecesSpec)

/-- ITS FALSE NEIGHBOUR: 'it returns false'. Refute it at one input. -/
def insnPiecesWrong : ChangeSpec := { name := "insnPieces", fn := fun _ => fun
  | [d1, d2] => { results := [.lit (.bool false)], args := [d1, d2] }
  | _ => none }
def InsnPiecesWrongFalsely : Prop := insnPiecesRow.holds Tryd.pinned (OpenSpec.ofChange insnPiecesWrong)

/-- 'portcullislaw03.InsnFields': WHATEVER THE INPUT: true; the input reads as it did. -/
def insnFieldsSpec : ChangeSpec := { name := "insnFields", fn := fun _ => fun
  | [d1, d2, d3] => { results := [.lit (.bool true)], args := [d1, d2, d3] }
  | _ => none }
def insnFieldsRow : OpenClaim := { program := "ytkopbjjpghbkoaadoor", sum := "a733acd5553134375e28d18d1ea789ea48b7870116f551bc5c67dfced8e270cc", func := "portcullis/portcullislaw03.InsnFields", spec := "insnFields", named := ["portcullis/insn.sizes"], apart := false, laid := [("portcullis/insn.sizes", laid_portcullis_insn_sizes)] }
def InsnFieldsSaid : Prop := insnFieldsRow.holds Tryd.pinned (OpenSpec.ofChange insnFieldsSpec)

/-- ITS FALSE NEIGHBOUR: 'it returns false'. Refute it at one input. -/
def insnFieldsWrong : ChangeSpec := { name := "insnFields", fn := fun _ => fun
  | [d1, d2, d3] => { results := [.lit (.bool false)], args := [d1, d2, d3] }
  | _ => none }
def InsnFieldsWrongFalsely : Prop := insnFieldsRow.holds Tryd.pinned (OpenSpec.ofChange insnFieldsWrong)

/- THE SECOND FORM. 'bulk': how many values and letters a reading holds, each counted each time it is reached (what is shared counts as often as it is met; a slice's spare places count too). A statement '..UptoSaid' is the law's where the arguments, and the package variables that the reading takes, are together of bulk at most 1048576: NARROWER than '..Said'. Prove '..Said' where nothing that the law and all that it calls make is longer than what came in: it says more and counts as full. Else prove '..UptoSaid'. A law counts once. -/
mutual
def uptoBulk {H : Type} : DataW H → Nat
  | .lit (.string bytes) => bytes.length + 1
  | .lit _ => 1
  | .nil => 1
  | .ptr d => uptoBulk d + 1
  | .slice elems spare => uptoBulkAll elems + uptoBulkAll spare + 1
  | .agg parts => uptoBulkAll parts + 1
  | .iface _ d => uptoBulk d + 1
  | .map entries => uptoBulkEntries entries + 1
  | .held _ => 1
def uptoBulkAll {H : Type} : List (DataW H) → Nat
  | [] => 0
  | d :: r => uptoBulk d + uptoBulkAll r
def uptoBulkEntries {H : Type} : List (Lit × DataW H) → Nat
  | [] => 0
  | x :: r => uptoBulkEntry x + uptoBulkEntries r
def uptoBulkEntry {H : Type} : Lit × DataW H → Nat
  | (.string bytes, d) => bytes.length + uptoBulk d + 1
  | (_, d) => uptoBulk d + 1
 end
def uptoSmall : (H : Type) → List (DataW H) → Bool := fun _ ds => decide (uptoBulkAll ds ≤ 1048576)
def OpenSpec.upto (s : _root_.Go.ChangeSpec) : _root_.Go.OpenSpec := { _root_.Go.OpenSpec.ofChange s with cond := some uptoSmall }

/-- 'portcullislaw03.InsnEncodes', WHERE WHAT IT READS IS OF BULK AT MOST 1048576: true; the input reads as it did. -/
def insnEncodesUptoRow : OpenClaim := { program := "ytkopbjjpghbkoaadoor", sum := "a733acd5553134375e28d18d1ea789ea48b7870116f551bc5c67dfced8e270cc", func := "portcullis/portcullislaw03.InsnEncodes", spec := "insnEncodes", named := ["portcullis/insn.sizes"], apart := false, laid := [("portcullis/insn.sizes", laid_portcullis_insn_sizes)], narrowed := true }
def InsnEncodesUptoSaid : Prop := insnEncodesUptoRow.holds Tryd.pinned (OpenSpec.upto insnEncodesSpec)

/-- 'portcullislaw03.InsnBack', WHERE WHAT IT READS IS OF BULK AT MOST 1048576: true; the input reads as it did. -/
def insnBackUptoRow : OpenClaim := { program := "ytkopbjjpghbkoaadoor", sum := "a733acd5553134375e28d18d1ea789ea48b7870116f551bc5c67dfced8e270cc", func := "portcullis/portcullislaw03.InsnBack", spec := "insnBack", named := ["portcullis/insn.sizes"], apart := false, laid := [("portcullis/insn.sizes", laid_portcullis_insn_sizes)], narrowed := true }
def InsnBackUptoSaid : Prop := insnBackUptoRow.holds Tryd.pinned (OpenSpec.upto insnBackSpec)

/-- 'portcullislaw03.InsnWides', WHERE WHAT IT READS IS OF BULK AT MOST 1048576: true; the input reads as it did. -/
def insnWidesUptoRow : OpenClaim := { program := "ytkopbjjpghbkoaadoor", sum := "a733acd5553134375e28d18d1ea789ea48b7870116f551bc5c67dfced8e270cc", func := "portcullis/portcullislaw03.InsnWides", spec := "insnWides", named := ["portcullis/insn.sizes"], apart := false, laid := [("portcullis/insn.sizes", laid_portcullis_insn_sizes)], narrowed := true }
def InsnWidesUptoSaid : Prop := insnWidesUptoRow.holds Tryd.pinned (OpenSpec.upto insnWidesSpec)

/-- 'portcullislaw03.InsnPieces', WHERE WHAT IT READS IS OF BULK AT MOST 1048576: true; the input reads as it did. -/
def insnPiecesUptoRow : OpenClaim := { program := "ytkopbjjpghbkoaadoor", sum := "a733acd5553134375e28d18d1ea789ea48b7870116f551bc5c67dfced8e270cc", func := "portcullis/portcullislaw03.InsnPieces", spec := "insnPieces", named := ["portcullis/insn.sizes"], apart := false, laid := [("portcullis/insn.sizes", laid_portcullis_insn_sizes)], narrowed := true }
def InsnPiecesUptoSaid : Prop := insnPiecesUptoRow.holds Tryd.pinned (OpenSpec.upto insnPiecesSpec)

/-- 'portcullislaw03.InsnFields', WHERE WHAT IT READS IS OF BULK AT MOST 1048576: true; the input reads as it did. -/
def insnFieldsUptoRow : OpenClaim := { program := "ytkopbjjpghbkoaadoor", sum := "a733acd5553134375e28d18d1ea789ea48b7870116f551bc5c67dfced8e270cc", func := "portcullis/portcullislaw03.InsnFields", spec := "insnFields", named := ["portcullis/insn.sizes"], apart := false, laid := [("portcullis/insn.sizes", laid_portcullis_insn_sizes)], narrowed := true }
def InsnFieldsUptoSaid : Prop := insnFieldsUptoRow.holds Tryd.pinned (OpenSpec.upto insnFieldsSpec)

end Rows
end Go.Proofs.YtkopbjjpghbkoaaDoor
