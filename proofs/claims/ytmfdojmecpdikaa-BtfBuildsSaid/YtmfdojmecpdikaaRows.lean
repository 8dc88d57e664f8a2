/-
  No cell of these rows narrows 'for every input' (looked for: loops, veiled, ifaces, maps, wideKeys, modest, calm, conditions, laid).
  DERIVED. THE GIVEN ROWS OF THIS SEAT. 3 by the template 'for every input the law returns true; each argument reads behind the call as it read before'; 0 by the template 'total and deterministic' (their statements: YtmfdojmecpdikaaTotals.lean).
  GIVEN WITH THE SEED: the statements are not yours to turn. If you find one false, say at which input.
  Laid BY PROGRAM, IN A SANDBOX (cutbox-rows.mjs): the forced cells as the released guide's own fill.sh prints them over the translation 6b7f5e9fc1ee1bc0… (all of the seat's roots in one cut). By AI agents, Wed Nov 11 2026. No macro, syntax, notation, axiom, sorry.
-/
import Derived.Test.YtmfdojmecpdikaaChecked
import GoSem.Claim
import GoSem.ClaimJoined
import GoSem.ClaimMapViews
import Derived.JoinedTies
import Derived.KernelRfl
namespace Go.Proofs.Ytmfdojmecpdikaa
/- THE CELL 'sum', in the pinned program and in every row, IS THE sha256 OF THE DUMP (.gsa) THAT YtmfdojmecpdikaaProg.lean LOADS. Nothing in Lean hashes anything: it is a label: what it is worth is what the hold of that sum in a sandbox is worth. -/
noncomputable def Try.pinned : Pinned := { name := "ytmfdojmecpdikaa", sum := "6b7f5e9fc1ee1bc026b134ae08ab9d2d3aabb41b1b941de04d8718dc316b171e", checked := Try.checked }
namespace Rows
def none {H : Type} : Left H := { results := [], args := [] }

/-- 'portcullislaw06.BtfBuilds': WHATEVER THE INPUT: true; the input reads as it did. -/
def btfBuildsSpec : ChangeSpec := { name := "btfBuilds", fn := fun _ => fun
  | [d] => { results := [.lit (.bool true)], args := [d] }
  | _ => none }
def btfBuildsRow : OpenClaim := { program := "ytmfdojmecpdikaa", sum := "6b7f5e9fc1ee1bc026b134ae08ab9d2d3aabb41b1b941de04d8718dc316b171e", func := "portcullis/portcullislaw06.BtfBuilds", spec := "btfBuilds", inPlace := ["internal/bytealg.IndexByteString", "internal/bytealg.IndexString"], named := ["internal/bytealg.MaxLen"], apart := false }
def BtfBuildsSaid : Prop := btfBuildsRow.holds Try.pinned (OpenSpec.ofChange btfBuildsSpec)

/-- ITS FALSE NEIGHBOUR: 'it returns false'. Refute it at one input. -/
def btfBuildsWrong : ChangeSpec := { name := "btfBuilds", fn := fun _ => fun
  | [d] => { results := [.lit (.bool false)], args := [d] }
  | _ => none }
def BtfBuildsWrongFalsely : Prop := btfBuildsRow.holds Try.pinned (OpenSpec.ofChange btfBuildsWrong)

/-- 'portcullislaw06.BtfBack': WHATEVER THE INPUT: true; the input reads as it did. -/
def btfBackSpec : ChangeSpec := { name := "btfBack", fn := fun _ => fun
  | [d1, d2] => { results := [.lit (.bool true)], args := [d1, d2] }
  | _ => none }
def btfBackRow : OpenClaim := { program := "ytmfdojmecpdikaa", sum := "6b7f5e9fc1ee1bc026b134ae08ab9d2d3aabb41b1b941de04d8718dc316b171e", func := "portcullis/portcullislaw06.BtfBack", spec := "btfBack", inPlace := ["internal/bytealg.IndexByteString", "internal/bytealg.IndexString"], named := ["internal/bytealg.MaxLen"], apart := false }
def BtfBackSaid : Prop := btfBackRow.holds Try.pinned (OpenSpec.ofChange btfBackSpec)

/-- ITS FALSE NEIGHBOUR: 'it returns false'. Refute it at one input. -/
def btfBackWrong : ChangeSpec := { name := "btfBack", fn := fun _ => fun
  | [d1, d2] => { results := [.lit (.bool false)], args := [d1, d2] }
  | _ => none }
def BtfBackWrongFalsely : Prop := btfBackRow.holds Try.pinned (OpenSpec.ofChange btfBackWrong)

/-- 'portcullislaw06.BtfBehind': WHATEVER THE INPUT: true; the input reads as it did. -/
def btfBehindSpec : ChangeSpec := { name := "btfBehind", fn := fun _ => fun
  | [d1, d2] => { results := [.lit (.bool true)], args := [d1, d2] }
  | _ => none }
def btfBehindRow : OpenClaim := { program := "ytmfdojmecpdikaa", sum := "6b7f5e9fc1ee1bc026b134ae08ab9d2d3aabb41b1b941de04d8718dc316b171e", func := "portcullis/portcullislaw06.BtfBehind", spec := "btfBehind", inPlace := ["internal/bytealg.IndexByteString", "internal/bytealg.IndexString"], named := ["internal/bytealg.MaxLen"], apart := false }
def BtfBehindSaid : Prop := btfBehindRow.holds Try.pinned (OpenSpec.ofChange btfBehindSpec)

/-- ITS FALSE NEIGHBOUR: 'it returns false'. Refute it at one input. -/
def btfBehindWrong : ChangeSpec := { name := "btfBehind", fn := fun _ => fun
  | [d1, d2] => { results := [.lit (.bool false)], args := [d1, d2] }
  | _ => none }
def BtfBehindWrongFalsely : Prop := btfBehindRow.holds Try.pinned (OpenSpec.ofChange btfBehindWrong)

/- THE SECOND FORM. 'bulk': how many values and letters a reading holds, each counted each time it is reached (what is shared counts as often as it is met; a slice's spare places count too). A statement '..UptoSaid' is the law's where the arguments, and the package variables that the reading takes, are together of bulk at most 1048576: NARROWER than '..Said'. Prove '..Said' where nothing that the law and all that it calls make is longer than what came in: it says more and counts as full. Else prove '..UptoSaid'. A law counts once. -/
mutual
def uptoBulk {H : Type} : DataW H → Nat
  | .lit (.string bytes) => bytes.length + 1
  | .lit _ => 1
  | .nil => 1
  | .ptr d => uptoBulk d + 1
  | .slice elems spare => uptoBulkAll elems + uptoBulkAll spare + 1
  | .agg parts => uptoBulkAll parts + 1
  | .iface _ d => uptoBulk d + 1
  | .map entries => uptoBulkEntries entries + 1
  | .held _ => 1
def uptoBulkAll {H : Type} : List (DataW H) → Nat
  | [] => 0
  | d :: r => uptoBulk d + uptoBulkAll r
def uptoBulkEntries {H : Type} : List (Lit × DataW H) → Nat
  | [] => 0
  | x :: r => uptoBulkEntry x + uptoBulkEntries r
def uptoBulkEntry {H : Type} : Lit × DataW H → Nat
  | (.string bytes, d) => bytes.length + uptoBulk d + 1
  | (_, d) => uptoBulk d + 1
 end
def uptoSmall : (H : Type) → List (DataW H) → Bool := fun _ ds => decide (uptoBulkAll ds ≤ 1048576)
def OpenSpec.upto (s : _root_.Go.ChangeSpec) : _root_.Go.OpenSpec := { _root_.Go.OpenSpec.ofChange s with cond := some uptoSmall }

/-- 'portcullislaw06.BtfBuilds', WHERE WHAT IT READS IS OF BULK AT MOST 1048576: true; the input reads as it did. -/
def btfBuildsUptoRow : OpenClaim := { program := "ytmfdojmecpdikaa", sum := "6b7f5e9fc1ee1bc026b134ae08ab9d2d3aabb41b1b941de04d8718dc316b171e", func := "portcullis/portcullislaw06.BtfBuilds", spec := "btfBuilds", inPlace := ["internal/bytealg.IndexByteString", "internal/bytealg.IndexString"], named := ["internal/bytealg.MaxLen"], apart := false, narrowed := true }
def BtfBuildsUptoSaid : Prop := btfBuildsUptoRow.holds Try.pinned (OpenSpec.upto btfBuildsSpec)

/-- 'portcullislaw06.BtfBack', WHERE WHAT IT READS IS OF BULK AT MOST 1048576: true; the input reads as it did. -/
def btfBackUptoRow : OpenClaim := { program := "ytmfdojmecpdikaa", sum := "6b7f5e9fc1ee1bc026b134ae08ab9d2d3aabb41b1b941de04d8718dc316b171e", func := "portcullis/portcullislaw06.BtfBack", spec := "btfBack", inPlace := ["internal/bytealg.IndexByteString", "internal/bytealg.IndexString"], named := ["internal/bytealg.MaxLen"], apart := false, narrowed := true }
def BtfBackUptoSaid : Prop := btfBackUptoRow.holds Try.pinned (OpenSpec.upto btfBackSpec)

/-- 'portcullislaw06.BtfBehind', WHERE WHAT IT READS IS OF BULK AT MOST 1048576: true; the input reads as it did. -/
def btfBehindUptoRow : OpenClaim := { program := "ytmfdojmecpdikaa", sum := "6b7f5e9fc1ee1bc026b134ae08ab9d2d3aabb41b1b941de04d8718dc316b171e", func := "portcullis/portcullislaw06.BtfBehind", spec := "btfBehind", inPlace := ["internal/bytealg.IndexByteString", "internal/bytealg.IndexString"], named := ["internal/bytealg.MaxLen"], apart := false, narrowed := true }
def BtfBehindUptoSaid : Prop := btfBehindUptoRow.holds Try.pinned (OpenSpec.upto btfBehindSpec)

end Rows
end Go.Proofs.Ytmfdojmecpdikaa
