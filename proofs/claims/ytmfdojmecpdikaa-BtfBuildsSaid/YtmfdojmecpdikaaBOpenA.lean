/-
  Layer 6: the laws' arguments, opened: a list of types, each with its members.
-/
import Derived.Test.YtmfdojmecpdikaaBTypes
import Derived.Test.YtmfdojmecpdikaaStructs
import Derived.SizedLaws
import Derived.Deep.DeepHandedRow
import Derived.ChangeMaps5
import Derived.ProofKit
import Derived.OpenShut
namespace Go.Proofs.Ytmfdojmecpdikaa
open Go Go.RowKit Go.WideShapes Go.ChangeShapes Go.WideElems Go.Deep
set_option linter.unusedVariables false
set_option linter.unusedSimpArgs false
set_option maxRecDepth 100000
theorem own : ownKnob Try.prog.godebug = none := by kernel_rfl
theorem laidOut : laidOutB Try.prog = true := by kernel_rfl
section
variable {H : Type} {enc : TypeId × Value → H} {w : World} {base : Nat} {spare : Nat → Bool} {held : Bool}
/-- A slice of structs of one-cell fields, read out of one cell. -/
theorem open_structs_cell {P : Program} {t e : TypeId} {fs : Array Field} {v : Value} {fu : Nat} {y : DataW H × List MemPlace} (ht : P.underlying t = some (.slice e)) (he : P.underlying e = some (.struct fs)) (hone : oneCellFields P fs = true) (hC : P.cellsOf e = fs.size) (hpos : 0 < fs.size)
    (hf : DataW.trod enc P w base spare held fu t [v] = some y) :
    ∃ (A : Option Addr) (len cap : Nat), v = .slice A len cap ∧ len ≤ cap ∧ cap ≤ maxLen ∧ (0 < len → ∃ ad : Addr, A = some ad ∧ ad.block < w.heap.size) ∧
      ∀ i, i < len → ∀ ad, A = some ad → ∀ (j : Nat) (f : Field), fs[j]? = some f → ∃ c y n, w.cell? (ad.add (i * fs.size + j)) = some c ∧ DataW.trod enc P w base spare held n f.type [c] = some y := by
  rcases open_slice ht hf with ⟨hcs, _⟩ | ⟨a, len, cap, m, n, D, Pl, hcs, _, hl, hm, hmm, _, hx⟩
  · simp at hcs
    subst hcs
    exact ⟨none, 0, 0, rfl, by omega, by unfold maxLen; omega, fun h => by omega, fun i hi => by omega⟩
  · simp at hcs
    subst hcs
    have hlm : len ≤ m := by rw [hmm]; split <;> omega
    have each : ∀ i, i < len → ∀ (j : Nat) (f : Field), fs[j]? = some f → ∃ c y n, w.cell? (a.add (i * fs.size + j)) = some c ∧ DataW.trod enc P w base spare held n f.type [c] = some y := by
      intro i hi j f hj
      obtain ⟨cs', h1, h2⟩ := hx i (by omega)
      rw [hC] at h1
      obtain ⟨_, hlen, hcell⟩ := World.cells?_some h1
      obtain ⟨xs, k, _, _, _, hxl, hg⟩ := DataW.trod_struct he h2
      obtain ⟨ho, hk⟩ := hone_of hone j f hj
      have hjl : j < fs.size := (Array.getElem?_eq_some_iff.1 hj).1
      have h3 := hg j f hj
      rw [ho, hk] at h3
      have hjc : j < cs'.length := by omega
      have e1 : (cs'.drop j).take 1 = [cs'[j]] := by rw [List.drop_eq_getElem_cons hjc]; rfl
      rw [e1] at h3
      have hxj : xs[j]? = some (xs[j]'(by omega)) := List.getElem?_eq_getElem (by omega)
      have h4 := hcell j (by omega)
      rw [add_add] at h4
      exact ⟨cs'[j], _, k, by rw [h4, List.getElem?_eq_getElem hjc], h3.trans hxj⟩
    refine ⟨some a, len, cap, rfl, hl, hm, fun h0 => ⟨a, rfl, ?_⟩, fun i hi ad had j f hj => ?_⟩
    · have hf0 : fs[0]? = some fs[0] := Array.getElem?_eq_getElem hpos
      obtain ⟨c, _, _, h1, _⟩ := each 0 h0 0 _ hf0
      have := World.block_lt_of_cell? w _ h1
      rwa [block_add_] at this
    · cases had
      exact each i hi j f hj
theorem range_get {α : Type} (X : Nat → α) (n i : Nat) (x : α) (h : ((List.range n).map X)[i]? = some x) : i < n ∧ x = X i := by
  rw [List.getElem?_map, Option.map_eq_some_iff] at h
  obtain ⟨k, hk, rfl⟩ := h
  obtain ⟨h1, h2⟩ := List.getElem?_eq_some_iff.1 hk
  rw [List.getElem_range] at h2
  subst h2
  exact ⟨by simpa using h1, rfl⟩
theorem open_mems {v : Value} {fu : Nat} {y : DataW H × List MemPlace} (hf : DataW.trod enc Try.prog w base spare held fu 34 [v] = some y) :
    ∃ (A : Option Addr) (c : Nat) (ms : List Mem), v = .slice A ms.length c ∧ MemsAt w A ms ∧ ms.length ≤ 9223372036854775807 := by
  obtain ⟨A, n, c, rfl, hl, hm, hA, hx⟩ := open_structs_cell Try.underlying34 Try.underlying53 (by kernel_rfl) (by kernel_rfl) (by decide) hf
  have each : ∀ i, i < n → ∃ x : Mem, ∃ b off, A = some ⟨b, off, none⟩ ∧ b < w.heap.size ∧ w.cell? ⟨b, off + i * 3, none⟩ = some (.string x.name) ∧ w.cell? ⟨b, off + i * 3 + 1, none⟩ = some (.int .i64 x.ty) ∧ w.cell? ⟨b, off + i * 3 + 2, none⟩ = some (.int .i64 x.off) ∧ x.name.size ≤ 9223372036854775807 := by
    intro i hi
    obtain ⟨ad, rfl, hlt⟩ := hA (by omega)
    obtain ⟨c0, y0, n0, g0, t0⟩ := hx i hi ad rfl 0 _ rfl
    obtain ⟨c1, y1, n1, g1, t1⟩ := hx i hi ad rfl 1 _ rfl
    obtain ⟨c2, y2, n2, g2, t2⟩ := hx i hi ad rfl 2 _ rfl
    obtain ⟨nm, e0, _, w0⟩ := DataW.trod_string Try.underlying9 t0
    obtain ⟨ty, e1, _, w1⟩ := DataW.trod_int Try.underlying3 t1
    obtain ⟨of, e2, _, w2⟩ := DataW.trod_int Try.underlying3 t2
    cases e0; cases e1; cases e2
    obtain ⟨b, off, spot⟩ := ad
    have hspot : spot = none := by
      obtain ⟨_, _, _, gz, _⟩ := hx 0 (by omega) ⟨b, off, spot⟩ rfl 0 _ rfl
      simpa [Addr.add] using World.cell?_spot gz
    subst hspot
    simp only [Go.WideShapes.add_plain] at g0 g1 g2
    exact ⟨⟨nm, ty, of⟩, b, off, rfl, hlt, g0, g1, g2, by unfold maxLen at w0; omega⟩
  have : Inhabited Mem := ⟨⟨⟨#[]⟩, 0, 0⟩⟩
  obtain ⟨X, hX⟩ := choose_lt each
  refine ⟨A, c, (List.range n).map X, by simp, fun i m hm' => ?_, by simp; unfold maxLen at hm; omega⟩
  obtain ⟨hi, rfl⟩ := range_get X n i m hm'
  exact hX i hi
/-- A list of types that comes in, nil let in. -/
theorem open_types {b0 : Nat} {v : Value} {d : DataW H} {p : List MemPlace} (hv : Value.okWide Try.prog w .any b0 22 v) (h : DataW.Trod enc Try.prog w base spare held 22 v d p) :
    ∃ (A : Option Addr) (c : Nat) (l : List Ty), v = .slice A l.length c ∧ TysAt w A l ∧ l.length ≤ 9223372036854775807 := by
  obtain ⟨A, n, c, rfl, hl, hm, hA, hx⟩ := open_structs_any Try.underlying22 Try.underlying36 (by kernel_rfl) (by kernel_rfl) (by decide) hv h
  have each : ∀ i, i < n → ∃ x : Ty, ∃ b off A' c', A = some ⟨b, off, none⟩ ∧ b < w.heap.size ∧
      w.cell? ⟨b, off + i * 6, none⟩ = some (.int .i64 x.kind) ∧ w.cell? ⟨b, off + i * 6 + 1, none⟩ = some (.string x.name) ∧ w.cell? ⟨b, off + i * 6 + 2, none⟩ = some (.int .i64 x.size) ∧ w.cell? ⟨b, off + i * 6 + 3, none⟩ = some (.int .i64 x.ty) ∧ w.cell? ⟨b, off + i * 6 + 4, none⟩ = some (.int .i64 x.count) ∧
      w.cell? ⟨b, off + i * 6 + 5, none⟩ = some (.slice A' x.mems.length c') ∧ MemsAt w A' x.mems ∧ x.name.size ≤ 9223372036854775807 ∧ x.mems.length ≤ 9223372036854775807 := by
    intro i hi
    obtain ⟨ad, rfl, hlt⟩ := hA (by omega)
    obtain ⟨c0, y0, n0, g0, t0⟩ := hx i hi ad rfl 0 _ rfl
    obtain ⟨c1, y1, n1, g1, t1⟩ := hx i hi ad rfl 1 _ rfl
    obtain ⟨c2, y2, n2, g2, t2⟩ := hx i hi ad rfl 2 _ rfl
    obtain ⟨c3, y3, n3, g3, t3⟩ := hx i hi ad rfl 3 _ rfl
    obtain ⟨c4, y4, n4, g4, t4⟩ := hx i hi ad rfl 4 _ rfl
    obtain ⟨c5, y5, n5, g5, t5⟩ := hx i hi ad rfl 5 _ rfl
    obtain ⟨kd, e0, _, w0⟩ := DataW.trod_int Try.underlying3 t0
    obtain ⟨nm, e1, _, w1⟩ := DataW.trod_string Try.underlying9 t1
    obtain ⟨sz, e2, _, w2⟩ := DataW.trod_int Try.underlying3 t2
    obtain ⟨ty, e3, _, w3⟩ := DataW.trod_int Try.underlying3 t3
    obtain ⟨ct, e4, _, w4⟩ := DataW.trod_int Try.underlying3 t4
    obtain ⟨A', c', ms, e5, hms, hml⟩ := open_mems t5
    cases e0; cases e1; cases e2; cases e3; cases e4
    subst e5
    obtain ⟨b, off, spot⟩ := ad
    have hspot : spot = none := by
      obtain ⟨_, _, _, gz, _⟩ := hx 0 (by omega) ⟨b, off, spot⟩ rfl 0 _ rfl
      simpa [Addr.add] using World.cell?_spot gz
    subst hspot
    simp only [Go.WideShapes.add_plain] at g0 g1 g2 g3 g4 g5
    exact ⟨⟨kd, nm, sz, ty, ct, ms⟩, b, off, A', c', rfl, hlt, g0, g1, g2, g3, g4, g5, hms, by unfold maxLen at w1; omega, hml⟩
  have : Inhabited Ty := ⟨⟨0, ⟨#[]⟩, 0, 0, 0, []⟩⟩
  obtain ⟨X, hX⟩ := choose_lt each
  refine ⟨A, c, (List.range n).map X, by simp, fun i m hm' => ?_, by simp; unfold maxLen at hm; omega⟩
  obtain ⟨hi, rfl⟩ := range_get X n i m hm'
  exact hX i hi
end
end Go.Proofs.Ytmfdojmecpdikaa
