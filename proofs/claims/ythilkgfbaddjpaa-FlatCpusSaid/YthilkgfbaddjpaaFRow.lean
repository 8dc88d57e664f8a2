/-
  The laws' arguments of layer 8, opened.
-/
import Derived.Test.YthilkgfbaddjpaaKmKit
import Derived.Test.YthilkgfbaddjpaaFAwake
import Derived.ChangeMaps5
namespace Go.Proofs.Ythilkgfbaddjpaa
open Go Go.RowKit Go.WideShapes Go.ChangeShapes Go.WideElems Go.Deep
set_option linter.unusedVariables false
set_option maxRecDepth 100000
section
variable {H : Type} {enc : TypeId × Value → H} {w : World} {base : Nat} {spare : Nat → Bool} {held : Bool}
theorem open_deed8 {b0 : Nat} {v : Value} {d : DataW H} {p : List MemPlace} (hv : Value.okWide Try.prog w .any b0 45 v) (h : DataW.Trod enc Try.prog w base spare held 45 v d p) :
    ∃ (kd : Int) (ky vl : ByteArray) (fl cp u : Int), v = .agg #[.int .i64 kd, .string ky, .string vl, .int .i64 fl, .int .i64 cp, .int .u64 u] := by
  obtain ⟨cs, rfl, hsz, hf⟩ := open_struct Try.underlying45 (by kernel_rfl) (by kernel_rfl) hv h
  obtain ⟨c0, y0, n0, g0, t0⟩ := hf 0 _ rfl
  obtain ⟨c1, y1, n1, g1, t1⟩ := hf 1 _ rfl
  obtain ⟨c2, y2, n2, g2, t2⟩ := hf 2 _ rfl
  obtain ⟨c3, y3, n3, g3, t3⟩ := hf 3 _ rfl
  obtain ⟨c4, y4, n4, g4, t4⟩ := hf 4 _ rfl
  obtain ⟨c5, y5, n5, g5, t5⟩ := hf 5 _ rfl
  obtain ⟨kd, e0, _, w0⟩ := DataW.trod_int Try.underlying3 t0
  obtain ⟨ky, e1, _, w1⟩ := DataW.trod_string Try.underlying9 t1
  obtain ⟨vl, e2, _, w2⟩ := DataW.trod_string Try.underlying9 t2
  obtain ⟨fl, e3, _, w3⟩ := DataW.trod_int Try.underlying3 t3
  obtain ⟨cp, e4, _, w4⟩ := DataW.trod_int Try.underlying3 t4
  obtain ⟨u, e5, _, w5⟩ := DataW.trod_int Try.underlying43 t5
  cases e0; cases e1; cases e2; cases e3; cases e4; cases e5
  obtain ⟨l⟩ := cs
  match l, hsz with
  | [x0, x1, x2, x3, x4, x5], _ =>
    simp at g0 g1 g2 g3 g4 g5
    subst g0; subst g1; subst g2; subst g3; subst g4; subst g5
    exact ⟨kd, ky, vl, fl, cp, u, rfl⟩
end
end Go.Proofs.Ythilkgfbaddjpaa
