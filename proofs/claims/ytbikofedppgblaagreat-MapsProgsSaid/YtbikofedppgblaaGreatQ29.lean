/-
  The laws' arguments of layer 13, opened.
-/
import Derived.Test.YtbikofedppgblaaGreatQ00
import Derived.Test.YtbikofedppgblaaGreatQ28
import Derived.ChangeArms
namespace Go.Proofs.YtbikofedppgblaaGreat
open Go Go.RowKit Go.WideShapes Go.ChangeShapes Go.WideElems Go.Deep
set_option linter.unusedVariables false
set_option linter.unusedSimpArgs false
set_option maxRecDepth 100000
section
variable {H : Type} {enc : TypeId × Value → H} {w : World} {base : Nat} {spare : Nat → Bool} {held : Bool}
theorem open_deed13 {b0 : Nat} {v : Value} {d : DataW H} {p : List MemPlace} (hv : Value.okWide Tryz.prog w .any b0 dT13 v) (h : DataW.Trod enc Tryz.prog w base spare held dT13 v d p) :
    ∃ (kd fl cpu n : Int) (ks vs : ByteArray) (at_ : Int) (keep : Bool), v = .agg (dC kd fl cpu n ks vs at_ keep) ∧ (Lit.int .i64 n).wf = true := by
  obtain ⟨cs, rfl, hsz, hf⟩ := open_struct Tryz.underlying43 (by kernel_rfl) (by kernel_rfl) hv h
  obtain ⟨c0, y0, n0, g0, t0⟩ := hf 0 _ rfl
  obtain ⟨c1, y1, n1, g1, t1⟩ := hf 1 _ rfl
  obtain ⟨c2, y2, n2, g2, t2⟩ := hf 2 _ rfl
  obtain ⟨c3, y3, n3, g3, t3⟩ := hf 3 _ rfl
  obtain ⟨c4, y4, n4, g4, t4⟩ := hf 4 _ rfl
  obtain ⟨c5, y5, n5, g5, t5⟩ := hf 5 _ rfl
  obtain ⟨c6, y6, n6, g6, t6⟩ := hf 6 _ rfl
  obtain ⟨c7, y7, n7, g7, t7⟩ := hf 7 _ rfl
  obtain ⟨kd, e0, _, w0⟩ := DataW.trod_int Tryz.underlying3 t0
  obtain ⟨fl, e1, _, w1⟩ := DataW.trod_int Tryz.underlying3 t1
  obtain ⟨cp, e2, _, w2⟩ := DataW.trod_int Tryz.underlying3 t2
  obtain ⟨nn, e3, _, w3⟩ := DataW.trod_int Tryz.underlying3 t3
  obtain ⟨ks, e4, _, w4⟩ := DataW.trod_string Tryz.underlying9 t4
  obtain ⟨vs, e5, _, w5⟩ := DataW.trod_string Tryz.underlying9 t5
  obtain ⟨aa, e6, _, w6⟩ := DataW.trod_int Tryz.underlying34 t6
  obtain ⟨kp, e7, _⟩ := DataW.trod_bool Tryz.underlying4 t7
  cases e0; cases e1; cases e2; cases e3; cases e4; cases e5; cases e6; cases e7
  obtain ⟨l⟩ := cs
  match l, hsz with
  | [x0, x1, x2, x3, x4, x5, x6, x7], _ =>
    simp at g0 g1 g2 g3 g4 g5 g6 g7
    subst g0; subst g1; subst g2; subst g3; subst g4; subst g5; subst g6; subst g7
    exact ⟨kd, fl, cp, nn, ks, vs, aa, kp, rfl, w3⟩
theorem ints_at {A : Option Addr} {len : Nat} {zs : Nat → Int} (h : 0 < len → ∃ ad : Addr, A = some ad ∧ ad.block < w.heap.size ∧ ∀ i, i < len → w.cell? (ad.add i) = some (.int .i64 (zs i))) : IntsAt w A len zs := by
  intro i hi
  obtain ⟨ad, rfl, hb, hc⟩ := h (by omega)
  obtain ⟨b, off, spot⟩ := ad
  have hsp : spot = none := by
    have := hc 0 (by omega)
    simpa [Addr.add] using World.cell?_spot this
  subst hsp
  have := hc i hi
  simp only [Go.WideShapes.add_plain] at this
  exact ⟨b, off, rfl, hb, this⟩
end
end Go.Proofs.YtbikofedppgblaaGreat
