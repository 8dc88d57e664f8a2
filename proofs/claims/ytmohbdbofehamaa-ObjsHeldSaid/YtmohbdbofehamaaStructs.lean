/-
  A slice of structs that comes in, nil let in: each element's cells, field by field.
-/
import Derived.Test.YtmohbdbofehamaaKit
import Derived.Deep.Fields
import Derived.Deep.Slices
import Derived.WalkKit
import Derived.MakeChecks
import Derived.ChangeSlices
namespace Go.Proofs.Ytmohbdbofehamaa
open Go Go.RowKit Go.WideShapes Go.ChangeShapes Go.WideElems Go.Deep
set_option linter.unusedVariables false
theorem block_add_ (a : Addr) (n : Nat) : (a.add n).block = a.block := by unfold Addr.add; split <;> rfl
section
variable {H : Type} {enc : TypeId × Value → H} {w : World} {base : Nat} {spare : Nat → Bool} {held : Bool}
theorem open_structs_any {P : Program} {r : Reach} {b0 : Nat} {t e : TypeId} {fs : Array Field} {v : Value} {d : DataW H} {p : List MemPlace} (ht : P.underlying t = some (.slice e)) (he : P.underlying e = some (.struct fs)) (hone : oneCellFields P fs = true) (hC : P.cellsOf e = fs.size) (hpos : 0 < fs.size)
    (hv : Value.okWide P w r b0 t v) (h : DataW.Trod enc P w base spare held t v d p) :
    ∃ (A : Option Addr) (len cap : Nat), v = .slice A len cap ∧ len ≤ cap ∧ cap ≤ maxLen ∧ (0 < len → ∃ ad : Addr, A = some ad ∧ ad.block < w.heap.size) ∧
      ∀ i, i < len → ∀ ad, A = some ad → ∀ (j : Nat) (f : Field), fs[j]? = some f → ∃ c y n, w.cell? (ad.add (i * fs.size + j)) = some c ∧ DataW.trod enc P w base spare held n f.type [c] = some y := by
  obtain ⟨A, len, cap, rfl⟩ := okWide_slice ht hv
  obtain ⟨fu, hf⟩ := h
  rcases open_slice ht hf with ⟨hcs, _⟩ | ⟨a, len', cap', m, n, D, Pl, hcs, _, hl, hm, hmm, _, hx⟩
  · simp [Value.cells] at hcs
    obtain ⟨rfl, rfl, rfl⟩ := hcs
    exact ⟨none, 0, 0, rfl, by omega, by unfold maxLen; omega, fun h => by omega, fun i hi => by omega⟩
  · simp [Value.cells] at hcs
    obtain ⟨rfl, rfl, rfl⟩ := hcs
    have hlm : len ≤ m := by rw [hmm]; split <;> omega
    have each : ∀ i, i < len → ∀ (j : Nat) (f : Field), fs[j]? = some f → ∃ c y n, w.cell? (a.add (i * fs.size + j)) = some c ∧ DataW.trod enc P w base spare held n f.type [c] = some y := by
      intro i hi j f hj
      obtain ⟨cs', h1, h2⟩ := hx i (by omega)
      rw [hC] at h1
      obtain ⟨_, hlen, hcell⟩ := World.cells?_some h1
      obtain ⟨xs, k, _, _, _, hxl, hg⟩ := DataW.trod_struct he h2
      obtain ⟨ho, hk⟩ := hone_of hone j f hj
      have hjl : j < fs.size := (Array.getElem?_eq_some_iff.1 hj).1
      have h3 := hg j f hj
      rw [ho, hk] at h3
      have hjc : j < cs'.length := by omega
      have e1 : (cs'.drop j).take 1 = [cs'[j]] := by rw [List.drop_eq_getElem_cons hjc]; rfl
      rw [e1] at h3
      have hxj : xs[j]? = some (xs[j]'(by omega)) := List.getElem?_eq_getElem (by omega)
      have h4 := hcell j (by omega)
      rw [add_add] at h4
      exact ⟨cs'[j], _, k, by rw [h4, List.getElem?_eq_getElem hjc], h3.trans hxj⟩
    refine ⟨some a, len, cap, rfl, hl, hm, fun h0 => ⟨a, rfl, ?_⟩, fun i hi ad had j f hj => ?_⟩
    · have hf0 : fs[0]? = some fs[0] := Array.getElem?_eq_getElem hpos
      obtain ⟨c, _, _, h1, _⟩ := each 0 h0 0 _ hf0
      have := World.block_lt_of_cell? w _ h1
      rwa [block_add_] at this
    · cases had
      exact each i hi j f hj
end
end Go.Proofs.Ytmohbdbofehamaa
