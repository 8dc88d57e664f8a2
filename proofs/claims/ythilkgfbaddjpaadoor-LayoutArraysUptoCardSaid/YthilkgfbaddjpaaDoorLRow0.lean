/-
  Layer 7: the laws' arguments, opened: a path, two numbers by value.
-/
import Derived.Test.YthilkgfbaddjpaaDoorLWithin
import Derived.Test.YthilkgfbaddjpaaDoorLHeld
import Derived.Test.YthilkgfbaddjpaaDoorLLaid
import Derived.Deep.Strs
namespace Go.Proofs.YthilkgfbaddjpaaDoor
open Go Go.RowKit Go.WideShapes Go.ChangeShapes Go.WideElems Go.Deep
set_option linter.unusedVariables false
set_option linter.unusedSimpArgs false
set_option maxRecDepth 100000
section
variable {H : Type} {enc : TypeId × Value → H} {w : World} {base : Nat} {held : Bool}
theorem open_path {b0 : Nat} {v : Value} {d : DataW H} {p : List MemPlace} (hv : Value.okWide Tryd.prog w .any b0 23 v) (h : DataW.Trod enc Tryd.prog w base (fun _ => true) held 23 v d p) :
    ∃ (P : Option Addr) (cp : Nat) (ps : List ByteArray), v = .slice P ps.length cp ∧ StrAt w P ps ∧ ps.length ≤ cp ∧ cp ≤ maxLen ∧ ((P = none ∧ cp = 0) ∨ ∃ q : Addr, P = some q ∧ (0 < cp → q.spot = none)) ∧ ps.length ≤ Rows.uptoBulk d := by
  obtain ⟨A, n, c, rfl⟩ := okWide_slice Tryd.underlying23 hv
  obtain ⟨fu, hf⟩ := h
  have hbk := (slice_bulk Tryd.underlying23 hf).1
  rcases open_strs Tryd.underlying23 Tryd.underlying9 (by kernel_rfl) hf with ⟨hcs, _⟩ | ⟨a, len, cap, m, Sx, hcs, _, hl, hm, hmm, hx, hcell⟩
  · simp [Value.cells] at hcs
    obtain ⟨rfl, rfl, rfl⟩ := hcs
    exact ⟨none, 0, [], rfl, (fun i s hs => by simp at hs), by simp, by unfold maxLen; omega, .inl ⟨rfl, rfl⟩, by simp⟩
  · simp [Value.cells] at hcs
    obtain ⟨rfl, rfl, rfl⟩ := hcs
    have hmm : m = c := by simpa using hmm
    subst hmm
    have hsp : 0 < m → a.spot = none := fun h0 => by
      have := (hcell 0 h0).1
      simpa [Addr.add] using World.cell?_spot this
    refine ⟨some a, m, (List.range n).map Sx, by simp, fun i s hs => ?_, by simpa using hl, hm, .inr ⟨a, rfl, hsp⟩, by simpa using hbk⟩
    obtain ⟨hi, rfl⟩ := range_get Sx n i s hs
    obtain ⟨b, off, spot⟩ := a
    obtain rfl : spot = none := hsp (by omega)
    obtain ⟨g, hsz⟩ := hcell i (by omega)
    simp only [Go.WideShapes.add_plain] at g
    exact ⟨b, off, rfl, by have := World.block_lt_of_cell? w _ g; exact this, g, by unfold maxLen at hsz; omega⟩
theorem open_pair {b0 : Nat} {v : Value} {d : DataW H} {p : List MemPlace} (hv : Value.okWide Tryd.prog w .any b0 24 v) (h : DataW.Trod enc Tryd.prog w base (fun _ => true) held 24 v d p) :
    ∃ x y : Int, v = .agg #[.int .i64 x, .int .i64 y] := by
  obtain ⟨zs, hl, rfl, _⟩ := open_arr_ints Tryd.underlying24 Tryd.underlying3 (by kernel_rfl) (by kernel_rfl) hv h
  match zs, hl with
  | [a, b], _ => exact ⟨a, b, rfl⟩
end
end Go.Proofs.YthilkgfbaddjpaaDoor
