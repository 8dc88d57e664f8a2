/-
  The laws' arguments of layer 14, opened.
-/
import Derived.Test.YtmohbdbofehamaaKmKit
import Derived.Test.YtmohbdbofehamaaStructs
import Derived.Test.YtmohbdbofehamaaONone
import Derived.Deep.Strs
import Derived.ChangeMaps5
import Derived.SizedLaws
namespace Go.Proofs.Ytmohbdbofehamaa
open Go Go.RowKit Go.WideShapes Go.ChangeShapes Go.WideElems Go.Deep
set_option linter.unusedVariables false
set_option linter.unusedSimpArgs false
set_option maxRecDepth 100000
section
variable {H : Type} {enc : TypeId × Value → H} {w : World} {base : Nat} {spare : Nat → Bool} {held : Bool}
theorem open_deed14 {b0 : Nat} {v : Value} {d : DataW H} {p : List MemPlace} (hv : Value.okWide Try.prog w .any b0 deedT v) (h : DataW.Trod enc Try.prog w base spare held deedT v d p) :
    ∃ (kd n m : Int) (vl : ByteArray), v = .agg (deedC kd n m vl) ∧ vl.size ≤ maxLen := by
  obtain ⟨cs, rfl, hsz, hf⟩ := open_struct Try.underlying33 (by kernel_rfl) (by kernel_rfl) hv h
  obtain ⟨c0, y0, n0, g0, t0⟩ := hf 0 _ rfl
  obtain ⟨c1, y1, n1, g1, t1⟩ := hf 1 _ rfl
  obtain ⟨c2, y2, n2, g2, t2⟩ := hf 2 _ rfl
  obtain ⟨c3, y3, n3, g3, t3⟩ := hf 3 _ rfl
  obtain ⟨k, e0, _, w0⟩ := DataW.trod_int Try.underlying3 t0
  obtain ⟨n, e1, _, w1⟩ := DataW.trod_int Try.underlying3 t1
  obtain ⟨m, e2, _, w2⟩ := DataW.trod_int Try.underlying3 t2
  obtain ⟨s, e3, _, w3⟩ := DataW.trod_string Try.underlying9 t3
  cases e0; cases e1; cases e2; cases e3
  obtain ⟨l⟩ := cs
  match l, hsz with
  | [x0, x1, x2, x3], _ =>
    simp at g0 g1 g2 g3
    subst g0; subst g1; subst g2; subst g3
    exact ⟨k, n, m, s, rfl, w3⟩
theorem open_deeds14 {b0 : Nat} {v : Value} {d : DataW H} {p : List MemPlace} (hv : Value.okWide Try.prog w .any b0 22 v) (h : DataW.Trod enc Try.prog w base spare held 22 v d p) :
    ∃ (A : Option Addr) (len cap : Nat), v = .slice A len cap ∧ len ≤ cap ∧ cap ≤ maxLen ∧
      ∀ i, i < len → ∃ (b off : Nat) (kd n m : Int) (p : ByteArray), A = some ⟨b, off, none⟩ ∧ b < w.heap.size ∧ (w.cell? ⟨b, off + i * 4, none⟩ = some (.int .i64 kd) ∧ w.cell? ⟨b, off + i * 4 + 1, none⟩ = some (.int .i64 n) ∧ w.cell? ⟨b, off + i * 4 + 2, none⟩ = some (.int .i64 m) ∧ w.cell? ⟨b, off + i * 4 + 3, none⟩ = some (.string p)) ∧ p.size ≤ maxLen ∧ (-9223372036854775808 ≤ n ∧ n ≤ 9223372036854775807) := by
  obtain ⟨A, len, cap, rfl, hl, hm, hA, hf⟩ := open_structs_any Try.underlying22 Try.underlying33 (by kernel_rfl) (by kernel_rfl) (by decide) hv h
  refine ⟨A, len, cap, rfl, hl, hm, fun i hi => ?_⟩
  obtain ⟨ad, rfl, hlt⟩ := hA (by omega)
  obtain ⟨c0, y0, n0, g0, t0⟩ := hf i hi ad rfl 0 _ rfl
  obtain ⟨c1, y1, n1, g1, t1⟩ := hf i hi ad rfl 1 _ rfl
  obtain ⟨c2, y2, n2, g2, t2⟩ := hf i hi ad rfl 2 _ rfl
  obtain ⟨c3, y3, n3, g3, t3⟩ := hf i hi ad rfl 3 _ rfl
  obtain ⟨kd, e0, _, w0⟩ := DataW.trod_int Try.underlying3 t0
  obtain ⟨n, e1, _, w1⟩ := DataW.trod_int Try.underlying3 t1
  obtain ⟨m, e2, _, w2⟩ := DataW.trod_int Try.underlying3 t2
  obtain ⟨ss, e3, _, w3⟩ := DataW.trod_string Try.underlying9 t3
  cases e0; cases e1; cases e2; cases e3
  obtain ⟨b, off, spot⟩ := ad
  have hspot : spot = none := by
    obtain ⟨_, _, _, gz, _⟩ := hf 0 (by omega) ⟨b, off, spot⟩ rfl 0 _ rfl
    simpa [Addr.add] using World.cell?_spot gz
  subst hspot
  simp only [Go.WideShapes.add_plain] at g0 g1 g2 g3
  exact ⟨b, off, kd, n, m, ss, rfl, hlt, ⟨g0, g1, g2, g3⟩, w3, bounds_i64 w1⟩
theorem open_ints14 {b0 : Nat} {v : Value} {d : DataW H} {p : List MemPlace} (hv : Value.okWide Try.prog w .any b0 35 v) (h : DataW.Trod enc Try.prog w base spare held 35 v d p) :
    ∃ (A : Option Addr) (len cap : Nat), v = .slice A len cap ∧ len ≤ cap ∧ cap ≤ maxLen ∧
      ∀ i, i < len → ∃ (b off : Nat) (z : Int), A = some ⟨b, off, none⟩ ∧ b < w.heap.size ∧ w.cell? ⟨b, off + i, none⟩ = some (.int .i64 z) ∧ (-9223372036854775808 ≤ z ∧ z ≤ 9223372036854775807) := by
  obtain ⟨A, len, cap, rfl⟩ := okWide_slice Try.underlying35 hv
  obtain ⟨f, hf⟩ := h
  rcases open_ints Try.underlying35 Try.underlying3 (by kernel_rfl) hf with ⟨hcs, _⟩ | ⟨a, len', cap', zs, hcs, _, hl, hm, hz, _, hcell, hwf⟩
  · simp [Value.cells] at hcs
    obtain ⟨rfl, rfl, rfl⟩ := hcs
    exact ⟨none, 0, 0, rfl, by omega, by unfold maxLen; omega, fun i h => by omega⟩
  · simp [Value.cells] at hcs
    obtain ⟨rfl, rfl, rfl⟩ := hcs
    have hz' : len ≤ zs.length := by rw [hz]; split <;> omega
    refine ⟨some a, len, cap, rfl, hl, hm, fun i hi => ?_⟩
    have g := hcell i (by omega)
    obtain ⟨b, off, spot⟩ := a
    have hsp : spot = none := by
      have := hcell 0 (by omega)
      simpa [Addr.add] using World.cell?_spot this
    subst hsp
    simp only [Go.WideShapes.add_plain] at g
    exact ⟨b, off, _, rfl, World.block_lt_of_cell? w _ g, g, bounds_i64 (hwf _ (by rw [List.getD_eq_getElem?_getD, List.getElem?_eq_getElem (show i < zs.length by omega)]; exact List.getElem_mem _))⟩
end
end Go.Proofs.Ytmohbdbofehamaa
