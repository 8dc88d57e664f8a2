/-
  The laws' arguments of layer 12, opened.
-/
import Derived.Test.YtdihlmhipkcedaaKmKit
import Derived.Test.YtdihlmhipkcedaaGOrder
import Derived.Deep.Strs
import Derived.ChangeMaps5
import Derived.SizedLaws
namespace Go.Proofs.Ytdihlmhipkcedaa
open Go Go.RowKit Go.WideShapes Go.ChangeShapes Go.WideElems Go.Deep
set_option linter.unusedVariables false
set_option linter.unusedSimpArgs false
set_option maxRecDepth 100000
section
variable {H : Type} {enc : TypeId × Value → H} {w : World} {base : Nat} {spare : Nat → Bool} {held : Bool}
theorem open_deed12 {b0 : Nat} {v : Value} {d : DataW H} {p : List MemPlace} (hv : Value.okWide Try.prog w .any b0 dT v) (h : DataW.Trod enc Try.prog w base spare held dT v d p) :
    ∃ (kd n at_ : Int) (sv : ByteArray), v = .agg #[.int .i64 kd, .int .i64 n, .int .i64 at_, .string sv] := by
  obtain ⟨cs, rfl, hsz, hf⟩ := open_struct Try.underlying44 (by kernel_rfl) (by kernel_rfl) hv h
  obtain ⟨c0, y0, n0, g0, t0⟩ := hf 0 _ rfl
  obtain ⟨c1, y1, n1, g1, t1⟩ := hf 1 _ rfl
  obtain ⟨c2, y2, n2, g2, t2⟩ := hf 2 _ rfl
  obtain ⟨c3, y3, n3, g3, t3⟩ := hf 3 _ rfl
  obtain ⟨kd, e0, _, w0⟩ := DataW.trod_int Try.underlying3 t0
  obtain ⟨nn, e1, _, w1⟩ := DataW.trod_int Try.underlying3 t1
  obtain ⟨aa, e2, _, w2⟩ := DataW.trod_int Try.underlying3 t2
  obtain ⟨sv, e3, _, w3⟩ := DataW.trod_string Try.underlying9 t3
  cases e0; cases e1; cases e2; cases e3
  obtain ⟨l⟩ := cs
  match l, hsz with
  | [x0, x1, x2, x3], _ =>
    simp at g0 g1 g2 g3
    subst g0; subst g1; subst g2; subst g3
    exact ⟨kd, nn, aa, sv, rfl⟩
theorem open_texts12 {b0 : Nat} {v : Value} {d : DataW H} {p : List MemPlace} (hv : Value.okWide Try.prog w .any b0 22 v) (h : DataW.Trod enc Try.prog w base (fun _ => true) held 22 v d p) :
    ∃ (A : Option Addr) (len cap : Nat), v = .slice A len cap ∧ len ≤ maxLen ∧ TextsAt w A len := by
  obtain ⟨A, n, c, rfl⟩ := okWide_slice Try.underlying22 hv
  obtain ⟨fu, hf⟩ := h
  rcases open_strs Try.underlying22 Try.underlying9 (by kernel_rfl) hf with ⟨hcs, _⟩ | ⟨a, len, cap, m, Sx, hcs, _, hl, hm, hmm, hx, hcell⟩
  · simp [Value.cells] at hcs
    obtain ⟨rfl, rfl, rfl⟩ := hcs
    exact ⟨none, 0, 0, rfl, by unfold maxLen; omega, fun i hi => by omega⟩
  · simp [Value.cells] at hcs
    obtain ⟨rfl, rfl, rfl⟩ := hcs
    have hmm : m = c := by simpa using hmm
    subst hmm
    refine ⟨some a, n, m, rfl, Nat.le_trans hl hm, fun i hi => ?_⟩
    obtain ⟨b, off, spot⟩ := a
    obtain ⟨g, _⟩ := hcell i (by omega)
    have hsp : spot = none := by
      have := (hcell 0 (by omega)).1
      simpa [Addr.add] using World.cell?_spot this
    subst hsp
    simp only [Go.WideShapes.add_plain] at g
    exact ⟨b, off, Sx i, rfl, World.block_lt_of_cell? w _ g, g⟩
end
end Go.Proofs.Ytdihlmhipkcedaa
