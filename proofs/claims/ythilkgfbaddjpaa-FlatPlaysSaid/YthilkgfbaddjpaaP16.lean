/-
  The laws' arguments of layer 8, opened. A slice of structs that comes in, nil let in: each element's cells, field by field. What FlatPlays takes: a spec, two numbers, a list of deeds.
-/
import Derived.Test.YthilkgfbaddjpaaKmKit
import Derived.Test.YthilkgfbaddjpaaP12
import Derived.Test.YthilkgfbaddjpaaKit
import Derived.Test.YthilkgfbaddjpaaP15
import Derived.ChangeMaps5
import Derived.Deep.Fields
import Derived.Deep.Slices
import Derived.WalkKit
import Derived.MakeChecks
import Derived.ChangeSlices
namespace Go.Proofs.Ythilkgfbaddjpaa
open Go Go.RowKit Go.WideShapes Go.ChangeShapes Go.WideElems Go.Deep
set_option linter.unusedVariables false
set_option maxRecDepth 100000
section
variable {H : Type} {enc : TypeId × Value → H} {w : World} {base : Nat} {spare : Nat → Bool} {held : Bool}
theorem open_deed8 {b0 : Nat} {v : Value} {d : DataW H} {p : List MemPlace} (hv : Value.okWide Try.prog w .any b0 45 v) (h : DataW.Trod enc Try.prog w base spare held 45 v d p) :
    ∃ (kd : Int) (ky vl : ByteArray) (fl cp u : Int), v = .agg #[.int .i64 kd, .string ky, .string vl, .int .i64 fl, .int .i64 cp, .int .u64 u] := by
  obtain ⟨cs, rfl, hsz, hf⟩ := open_struct Try.underlying45 (by kernel_rfl) (by kernel_rfl) hv h
  obtain ⟨c0, y0, n0, g0, t0⟩ := hf 0 _ rfl
  obtain ⟨c1, y1, n1, g1, t1⟩ := hf 1 _ rfl
  obtain ⟨c2, y2, n2, g2, t2⟩ := hf 2 _ rfl
  obtain ⟨c3, y3, n3, g3, t3⟩ := hf 3 _ rfl
  obtain ⟨c4, y4, n4, g4, t4⟩ := hf 4 _ rfl
  obtain ⟨c5, y5, n5, g5, t5⟩ := hf 5 _ rfl
  obtain ⟨kd, e0, _, w0⟩ := DataW.trod_int Try.underlying3 t0
  obtain ⟨ky, e1, _, w1⟩ := DataW.trod_string Try.underlying9 t1
  obtain ⟨vl, e2, _, w2⟩ := DataW.trod_string Try.underlying9 t2
  obtain ⟨fl, e3, _, w3⟩ := DataW.trod_int Try.underlying3 t3
  obtain ⟨cp, e4, _, w4⟩ := DataW.trod_int Try.underlying3 t4
  obtain ⟨u, e5, _, w5⟩ := DataW.trod_int Try.underlying43 t5
  cases e0; cases e1; cases e2; cases e3; cases e4; cases e5
  obtain ⟨l⟩ := cs
  match l, hsz with
  | [x0, x1, x2, x3, x4, x5], _ =>
    simp at g0 g1 g2 g3 g4 g5
    subst g0; subst g1; subst g2; subst g3; subst g4; subst g5
    exact ⟨kd, ky, vl, fl, cp, u, rfl⟩
end
end Go.Proofs.Ythilkgfbaddjpaa
namespace Go.Proofs.Ythilkgfbaddjpaa
open Go Go.RowKit Go.WideShapes Go.ChangeShapes Go.WideElems Go.Deep
set_option linter.unusedVariables false
theorem block_add_ (a : Addr) (n : Nat) : (a.add n).block = a.block := by unfold Addr.add; split <;> rfl
section
variable {H : Type} {enc : TypeId × Value → H} {w : World} {base : Nat} {spare : Nat → Bool} {held : Bool}
theorem open_structs_any {P : Program} {r : Reach} {b0 : Nat} {t e : TypeId} {fs : Array Field} {v : Value} {d : DataW H} {p : List MemPlace} (ht : P.underlying t = some (.slice e)) (he : P.underlying e = some (.struct fs)) (hone : oneCellFields P fs = true) (hC : P.cellsOf e = fs.size) (hpos : 0 < fs.size)
    (hv : Value.okWide P w r b0 t v) (h : DataW.Trod enc P w base spare held t v d p) :
    ∃ (A : Option Addr) (len cap : Nat), v = .slice A len cap ∧ len ≤ cap ∧ cap ≤ maxLen ∧ (0 < len → ∃ ad : Addr, A = some ad ∧ ad.block < w.heap.size) ∧
      ∀ i, i < len → ∀ ad, A = some ad → ∀ (j : Nat) (f : Field), fs[j]? = some f → ∃ c y n, w.cell? (ad.add (i * fs.size + j)) = some c ∧ DataW.trod enc P w base spare held n f.type [c] = some y := by
  obtain ⟨A, len, cap, rfl⟩ := okWide_slice ht hv
  obtain ⟨fu, hf⟩ := h
  rcases open_slice ht hf with ⟨hcs, _⟩ | ⟨a, len', cap', m, n, D, Pl, hcs, _, hl, hm, hmm, _, hx⟩
  · simp [Value.cells] at hcs
    obtain ⟨rfl, rfl, rfl⟩ := hcs
    exact ⟨none, 0, 0, rfl, by omega, by unfold maxLen; omega, fun h => by omega, fun i hi => by omega⟩
  · simp [Value.cells] at hcs
    obtain ⟨rfl, rfl, rfl⟩ := hcs
    have hlm : len ≤ m := by rw [hmm]; split <;> omega
    have each : ∀ i, i < len → ∀ (j : Nat) (f : Field), fs[j]? = some f → ∃ c y n, w.cell? (a.add (i * fs.size + j)) = some c ∧ DataW.trod enc P w base spare held n f.type [c] = some y := by
      intro i hi j f hj
      obtain ⟨cs', h1, h2⟩ := hx i (by omega)
      rw [hC] at h1
      obtain ⟨_, hlen, hcell⟩ := World.cells?_some h1
      obtain ⟨xs, k, _, _, _, hxl, hg⟩ := DataW.trod_struct he h2
      obtain ⟨ho, hk⟩ := hone_of hone j f hj
      have hjl : j < fs.size := (Array.getElem?_eq_some_iff.1 hj).1
      have h3 := hg j f hj
      rw [ho, hk] at h3
      have hjc : j < cs'.length := by omega
      have e1 : (cs'.drop j).take 1 = [cs'[j]] := by rw [List.drop_eq_getElem_cons hjc]; rfl
      rw [e1] at h3
      have hxj : xs[j]? = some (xs[j]'(by omega)) := List.getElem?_eq_getElem (by omega)
      have h4 := hcell j (by omega)
      rw [add_add] at h4
      exact ⟨cs'[j], _, k, by rw [h4, List.getElem?_eq_getElem hjc], h3.trans hxj⟩
    refine ⟨some a, len, cap, rfl, hl, hm, fun h0 => ⟨a, rfl, ?_⟩, fun i hi ad had j f hj => ?_⟩
    · have hf0 : fs[0]? = some fs[0] := Array.getElem?_eq_getElem hpos
      obtain ⟨c, _, _, h1, _⟩ := each 0 h0 0 _ hf0
      have := World.block_lt_of_cell? w _ h1
      rwa [block_add_] at this
    · cases had
      exact each i hi j f hj
end
end Go.Proofs.Ythilkgfbaddjpaa
namespace Go.Proofs.Ythilkgfbaddjpaa
open Go Go.RowKit Go.Maps Go.WideShapes Go.ChangeShapes Go.WideElems Go.Deep
set_option linter.unusedVariables false
set_option maxRecDepth 100000
section
variable {H : Type} {enc : TypeId × Value → H} {w : World} {base : Nat} {spare : Nat → Bool} {held : Bool}
theorem open_spec8 {b0 : Nat} {v : Value} {d : DataW H} {p : List MemPlace} (hv : Value.okWide Try.prog w .any b0 23 v) (h : DataW.Trod enc Try.prog w base spare held 23 v d p) :
    ∃ (k key vv mx : Int), v = .agg #[.int .i64 k, .int .i64 key, .int .i64 vv, .int .i64 mx] := by
  obtain ⟨cs, rfl, hsz, hf⟩ := open_struct Try.underlying23 (by kernel_rfl) (by kernel_rfl) hv h
  obtain ⟨c0, y0, n0, g0, t0⟩ := hf 0 _ rfl
  obtain ⟨c1, y1, n1, g1, t1⟩ := hf 1 _ rfl
  obtain ⟨c2, y2, n2, g2, t2⟩ := hf 2 _ rfl
  obtain ⟨c3, y3, n3, g3, t3⟩ := hf 3 _ rfl
  obtain ⟨a0, e0, _, w0⟩ := DataW.trod_int Try.underlying3 t0
  obtain ⟨a1, e1, _, w1⟩ := DataW.trod_int Try.underlying3 t1
  obtain ⟨a2, e2, _, w2⟩ := DataW.trod_int Try.underlying3 t2
  obtain ⟨a3, e3, _, w3⟩ := DataW.trod_int Try.underlying3 t3
  cases e0; cases e1; cases e2; cases e3
  obtain ⟨l⟩ := cs
  match l, hsz with
  | [x0, x1, x2, x3], _ =>
    simp at g0 g1 g2 g3
    subst g0; subst g1; subst g2; subst g3
    exact ⟨a0, a1, a2, a3, rfl⟩
theorem open_pair8 {b0 : Nat} {v : Value} {d : DataW H} {p : List MemPlace} (hv : Value.okWide Try.prog w .any b0 24 v) (h : DataW.Trod enc Try.prog w base (fun _ => true) held 24 v d p) :
    ∃ x y : Int, v = .agg #[.int .i64 x, .int .i64 y] := by
  obtain ⟨zs, hl, rfl, _⟩ := open_arr_ints Try.underlying24 Try.underlying3 (by kernel_rfl) (by kernel_rfl) hv h
  match zs, hl with
  | [a, b], _ => exact ⟨a, b, rfl⟩
theorem open_deeds8 {b0 : Nat} {v : Value} {d : DataW H} {p : List MemPlace} (hv : Value.okWide Try.prog w .any b0 25 v) (h : DataW.Trod enc Try.prog w base spare held 25 v d p) :
    ∃ (A : Option Addr) (len cap : Nat), v = .slice A len cap ∧ len ≤ cap ∧ cap ≤ maxLen ∧
      ∀ i, i < len → ∃ (b off : Nat) (kd : Int) (ky vl : ByteArray) (fl cp uu : Int), A = some ⟨b, off, none⟩ ∧ b < w.heap.size ∧ DeedAt8 w b (off + i * 6) kd ky vl fl cp uu ∧ (0 ≤ uu ∧ uu ≤ 18446744073709551615) := by
  obtain ⟨A, len, cap, rfl, hl, hm, hA, hf⟩ := open_structs_any Try.underlying25 Try.underlying45 (by kernel_rfl) (by kernel_rfl) (by decide) hv h
  refine ⟨A, len, cap, rfl, hl, hm, fun i hi => ?_⟩
  obtain ⟨ad, rfl, hlt⟩ := hA (by omega)
  obtain ⟨c0, y0, n0, g0, t0⟩ := hf i hi ad rfl 0 _ rfl
  obtain ⟨c1, y1, n1, g1, t1⟩ := hf i hi ad rfl 1 _ rfl
  obtain ⟨c2, y2, n2, g2, t2⟩ := hf i hi ad rfl 2 _ rfl
  obtain ⟨c3, y3, n3, g3, t3⟩ := hf i hi ad rfl 3 _ rfl
  obtain ⟨c4, y4, n4, g4, t4⟩ := hf i hi ad rfl 4 _ rfl
  obtain ⟨c5, y5, n5, g5, t5⟩ := hf i hi ad rfl 5 _ rfl
  obtain ⟨kd, e0, _, w0⟩ := DataW.trod_int Try.underlying3 t0
  obtain ⟨ky, e1, _, w1⟩ := DataW.trod_string Try.underlying9 t1
  obtain ⟨vl, e2, _, w2⟩ := DataW.trod_string Try.underlying9 t2
  obtain ⟨fl, e3, _, w3⟩ := DataW.trod_int Try.underlying3 t3
  obtain ⟨cp, e4, _, w4⟩ := DataW.trod_int Try.underlying3 t4
  obtain ⟨uu, e5, _, w5⟩ := DataW.trod_int Try.underlying43 t5
  cases e0; cases e1; cases e2; cases e3; cases e4; cases e5
  obtain ⟨b, off, spot⟩ := ad
  have hspot : spot = none := by
    obtain ⟨_, _, _, gz, _⟩ := hf 0 (by omega) ⟨b, off, spot⟩ rfl 0 _ rfl
    simpa [Addr.add] using World.cell?_spot gz
  subst hspot
  simp only [Go.WideShapes.add_plain] at g0 g1 g2 g3 g4 g5
  exact ⟨b, off, kd, ky, vl, fl, cp, uu, rfl, hlt, ⟨g0, g1, g2, g3, g4, g5⟩, bounds_u64 w5⟩
end
end Go.Proofs.Ythilkgfbaddjpaa
