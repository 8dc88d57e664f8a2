/-
  A list of slots that comes in: its numbers are ints.
-/
import Derived.Test.YticklgoegmobbaaDoorSOpen
import Derived.SizedLaws
namespace Go.Proofs.YticklgoegmobbaaDoor
open Go Go.RowKit Go.WideShapes Go.ChangeShapes Go.WideElems Go.Deep
set_option linter.unusedVariables false
set_option linter.unusedSimpArgs false
section
variable {H : Type} {enc : TypeId × Value → H} {w : World} {base : Nat} {spare : Nat → Bool} {held : Bool}
set_option maxRecDepth 100000 in
/-- A list of slots that comes in, nil let in: its numbers are ints, and its datum is as long. -/
theorem open_slots_wf {b0 : Nat} {v : Value} {d : DataW H} {p : List MemPlace} (hv : Value.okWide Tryd.prog w .any b0 22 v) (h : DataW.Trod enc Tryd.prog w base spare held 22 v d p) :
    ∃ (A : Option Addr) (n c : Nat) (X : Nat → Slot), v = .slice A n c ∧ Slots w A n X ∧ (∀ i, i < n → (Lit.int .i64 (X i).m).wf = true) ∧ (n = 0 ∨ ∃ es sp, d = .slice es sp ∧ es.length = n) := by
  have h0 := h
  obtain ⟨A, n, c, rfl, hl, hm, hA, hf⟩ := open_structs_any Tryd.underlying22 Tryd.underlying39 (by kernel_rfl) (by kernel_rfl) (by decide) hv h
  have hlen : n = 0 ∨ ∃ es sp, d = .slice es sp ∧ es.length = n := by
    obtain ⟨fu, hf'⟩ := h0
    rcases open_slice Tryd.underlying22 hf' with ⟨hcs, _⟩ | ⟨a, len', cap', m, n', D, Pl, hcs, _, _, _, _, hx, _⟩
    · simp [Value.cells] at hcs
      exact .inl (by omega)
    · simp [Value.cells] at hcs
      obtain ⟨e1, rfl, _⟩ := hcs
      simp only [Prod.mk.injEq] at hx
      exact .inr ⟨_, _, hx.1, by simp⟩
  have each : ∀ i, i < n → ∃ x : Slot, ∃ b off, A = some ⟨b, off, none⟩ ∧ b < w.heap.size ∧ Cells5 w b (off + i * 5) x ∧ (Lit.int .i64 x.m).wf = true := by
    intro i hi
    obtain ⟨ad, rfl, hlt⟩ := hA (by omega)
    obtain ⟨c0, y0, n0, g0, t0⟩ := hf i hi ad rfl 0 _ rfl
    obtain ⟨c1, y1, n1, g1, t1⟩ := hf i hi ad rfl 1 _ rfl
    obtain ⟨c2, y2, n2, g2, t2⟩ := hf i hi ad rfl 2 _ rfl
    obtain ⟨c3, y3, n3, g3, t3⟩ := hf i hi ad rfl 3 _ rfl
    obtain ⟨c4, y4, n4, g4, t4⟩ := hf i hi ad rfl 4 _ rfl
    obtain ⟨o, e0, _, w0⟩ := DataW.trod_int Tryd.underlying3 t0
    obtain ⟨dd, e1, _, w1⟩ := DataW.trod_int Tryd.underlying3 t1
    obtain ⟨s, e2, _, w2⟩ := DataW.trod_int Tryd.underlying3 t2
    obtain ⟨f, e3, _, w3⟩ := DataW.trod_int Tryd.underlying3 t3
    obtain ⟨m, e4, _, w4⟩ := DataW.trod_int Tryd.underlying3 t4
    cases e0; cases e1; cases e2; cases e3; cases e4
    obtain ⟨b, off, spot⟩ := ad
    have hspot : spot = none := by
      obtain ⟨_, _, _, gz, _⟩ := hf 0 (by omega) ⟨b, off, spot⟩ rfl 0 _ rfl
      simpa [Addr.add] using World.cell?_spot gz
    subst hspot
    simp only [Go.WideShapes.add_plain] at g0 g1 g2 g3 g4
    exact ⟨⟨o, dd, s, f, m⟩, b, off, rfl, hlt, ⟨g0, g1, g2, g3, g4⟩, w4⟩
  have : Inhabited Slot := ⟨⟨0, 0, 0, 0, 0⟩⟩
  obtain ⟨X, hX⟩ := choose_lt each
  exact ⟨A, n, c, X, rfl, fun i hi => (let ⟨b, off, h1, h2, h3, _⟩ := hX i hi; ⟨b, off, h1, h2, h3⟩), fun i hi => (let ⟨_, _, _, _, _, h4⟩ := hX i hi; h4), hlen⟩
end
theorem bytesS : Tryd.prog.bytesOf 39 = 40 := by kernel_rfl
end Go.Proofs.YticklgoegmobbaaDoor
