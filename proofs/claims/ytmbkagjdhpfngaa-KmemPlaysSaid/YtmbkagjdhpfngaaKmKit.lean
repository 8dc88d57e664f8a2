/-
  How the laws of layer 2 open what they are handed: a struct of one-cell fields, field by field; numbers' bounds.
-/
import Derived.Test.YtmbkagjdhpfngaaRows
import Derived.Test.YtmbkagjdhpfngaaKit
import Derived.Deep.Fields
import Derived.WalkKit
import Derived.MakeChecks
import Derived.ChangeSlices
namespace Go.Proofs.Ytmbkagjdhpfngaa
open Go Go.RowKit Go.WideShapes Go.ChangeShapes Go.WideElems Go.Deep
set_option linter.unusedVariables false

theorem laidOut : laidOutB Try.prog = true := by kernel_rfl
theorem bounds_i64 {n : Int} (h : (Lit.int .i64 n).wf = true) : -9223372036854775808 ≤ n ∧ n ≤ 9223372036854775807 := by
  simp [Lit.wf, IntKind.min, IntKind.max, IntKind.bits, IntKind.signed] at h; omega
theorem bounds_u64 {n : Int} (h : (Lit.int .u64 n).wf = true) : 0 ≤ n ∧ n ≤ 18446744073709551615 := by
  simp [Lit.wf, IntKind.min, IntKind.max, IntKind.bits, IntKind.signed] at h; omega
section
variable {H : Type} {enc : TypeId × Value → H} {w : World} {base : Nat} {spare : Nat → Bool} {held : Bool}
/-- A struct whose fields are one cell each, handed over by value: its cells, each as its field's type reads. -/
theorem open_struct {P : Program} {r : Reach} {b0 : Nat} {t : TypeId} {fs : Array Field} {v : Value} {d : DataW H} {p : List MemPlace} (hs : P.underlying t = some (.struct fs)) (hone : oneCellFields P fs = true) (hC : P.cellsOf t = fs.size)
    (hv : Value.okWide P w r b0 t v) (h : DataW.Trod enc P w base spare held t v d p) :
    ∃ cs : Array Value, v = .agg cs ∧ cs.size = fs.size ∧ ∀ (j : Nat) (f : Field), fs[j]? = some f → ∃ c y n, cs[j]? = some c ∧ DataW.trod enc P w base spare held n f.type [c] = some y := by
  obtain ⟨cs, rfl, hsz⟩ := okWide_struct hs hv
  obtain ⟨fuel, hf⟩ := h
  obtain ⟨xs, n, _, _, _, hlen, hg⟩ := DataW.trod_struct hs hf
  refine ⟨cs, rfl, hsz.trans hC, fun j f hj => ?_⟩
  obtain ⟨ho, hk⟩ := hone_of hone j f hj
  have hjl : j < fs.size := (Array.getElem?_eq_some_iff.1 hj).1
  have hjc : j < cs.size := by rw [hsz, hC]; exact hjl
  have h1 := hg j f hj
  rw [ho, hk] at h1
  have e1 : (((Value.agg cs).cells.toList).drop j).take 1 = [cs[j]] := by
    have : (Value.agg cs).cells = cs := rfl
    rw [this, List.drop_eq_getElem_cons (by simpa using hjc)]
    simp
  rw [e1] at h1
  have hx : xs[j]? = some (xs[j]'(by omega)) := List.getElem?_eq_getElem (by omega)
  exact ⟨cs[j], _, n, Array.getElem?_eq_getElem hjc, h1.trans hx⟩
theorem block_add (a : Addr) (n : Nat) : (a.add n).block = a.block := by unfold Addr.add; split <;> rfl
/-- A slice of integers that comes in, nil let in. -/
theorem open_ints_any {P : Program} {r : Reach} {b0 : Nat} {t e : TypeId} {k : IntKind} {v : Value} {d : DataW H} {p : List MemPlace} (ht : P.underlying t = some (.slice e)) (he : P.underlying e = some (.int k)) (hc : P.cellsOf e = 1)
    (hv : Value.okWide P w r b0 t v) (h : DataW.Trod enc P w base spare held t v d p) :
    ∃ (A : Option Addr) (len cap : Nat) (zs : Nat → Int), v = .slice A len cap ∧ len ≤ cap ∧ cap ≤ maxLen ∧ (0 < len → ∃ ad : Addr, A = some ad ∧ ad.block < w.heap.size ∧ ∀ i, i < len → w.cell? (ad.add i) = some (.int k (zs i))) := by
  obtain ⟨A, len, cap, rfl⟩ := okWide_slice ht hv
  obtain ⟨f, hf⟩ := h
  rcases open_ints ht he hc hf with ⟨hcs, _⟩ | ⟨a, len', cap', zs, hcs, _, hl, hm, hz, _, hcell, _⟩
  · simp [Value.cells] at hcs
    obtain ⟨rfl, rfl, rfl⟩ := hcs
    exact ⟨none, 0, 0, fun _ => 0, rfl, by omega, by unfold maxLen; omega, fun h => by omega⟩
  · simp [Value.cells] at hcs
    obtain ⟨rfl, rfl, rfl⟩ := hcs
    have hz' : len ≤ zs.length := by rw [hz]; split <;> omega
    refine ⟨some a, len, cap, fun i => zs.getD i 0, rfl, hl, hm, fun h0 => ⟨a, rfl, ?_, fun i hi => hcell i (by omega)⟩⟩
    have := World.block_lt_of_cell? w _ (hcell 0 (by omega))
    rwa [block_add] at this
set_option maxRecDepth 100000 in
theorem open_deed {b0 : Nat} {v : Value} {d : DataW H} {p : List MemPlace} (hv : Value.okWide Try.prog w .any b0 31 v) (h : DataW.Trod enc Try.prog w base spare held 31 v d p) :
    ∃ (kd nn mm aa uu : Int) (ss : ByteArray), v = .agg #[.int .i64 kd, .int .i64 nn, .int .i64 mm, .int .u64 aa, .int .u64 uu, .string ss] ∧
      (Lit.int .i64 kd).wf = true ∧ (Lit.int .i64 nn).wf = true ∧ (Lit.int .i64 mm).wf = true ∧ (Lit.int .u64 aa).wf = true ∧ (Lit.int .u64 uu).wf = true ∧ ss.size ≤ maxLen := by
  obtain ⟨cs, rfl, hsz, hf⟩ := open_struct Try.underlying31 (by kernel_rfl) (by kernel_rfl) hv h
  obtain ⟨c0, y0, n0, g0, t0⟩ := hf 0 _ rfl
  obtain ⟨c1, y1, n1, g1, t1⟩ := hf 1 _ rfl
  obtain ⟨c2, y2, n2, g2, t2⟩ := hf 2 _ rfl
  obtain ⟨c3, y3, n3, g3, t3⟩ := hf 3 _ rfl
  obtain ⟨c4, y4, n4, g4, t4⟩ := hf 4 _ rfl
  obtain ⟨c5, y5, n5, g5, t5⟩ := hf 5 _ rfl
  obtain ⟨kd, e0, _, w0⟩ := DataW.trod_int Try.underlying3 t0
  obtain ⟨nn, e1, _, w1⟩ := DataW.trod_int Try.underlying3 t1
  obtain ⟨mm, e2, _, w2⟩ := DataW.trod_int Try.underlying3 t2
  obtain ⟨aa, e3, _, w3⟩ := DataW.trod_int Try.underlying29 t3
  obtain ⟨uu, e4, _, w4⟩ := DataW.trod_int Try.underlying29 t4
  obtain ⟨ss, e5, _, w5⟩ := DataW.trod_string Try.underlying9 t5
  cases e0; cases e1; cases e2; cases e3; cases e4; cases e5
  refine ⟨kd, nn, mm, aa, uu, ss, ?_, w0, w1, w2, w3, w4, w5⟩
  congr 1
  apply Array.ext_getElem?
  intro i
  match i with
  | 0 => exact g0
  | 1 => exact g1
  | 2 => exact g2
  | 3 => exact g3
  | 4 => exact g4
  | 5 => exact g5
  | i + 6 =>
    have h6 : cs.size = 6 := hsz
    rw [Array.getElem?_eq_none (by omega), Array.getElem?_eq_none (by simp)]
end
end Go.Proofs.Ytmbkagjdhpfngaa
