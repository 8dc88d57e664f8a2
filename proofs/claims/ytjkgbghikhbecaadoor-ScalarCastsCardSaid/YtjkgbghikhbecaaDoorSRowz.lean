/-
  The laws' arguments of layer 16, opened.
-/
import Derived.Test.YtjkgbghikhbecaaDoorTRowz
import Derived.Test.YtjkgbghikhbecaaDoorSKit
namespace Go.Proofs.YtjkgbghikhbecaaDoor
open Go Go.RowKit Go.WideShapes Go.ChangeShapes Go.WideElems Go.Deep Tn
set_option linter.unusedVariables false
set_option linter.unusedSimpArgs false
set_option maxRecDepth 100000
section
variable {H : Type} {enc : TypeId × Value → H} {w : World} {base : Nat} {spare : Nat → Bool} {held : Bool}
theorem scalar_of {m : Nat} {c0 c1 c2 c3 : Value} {y : DataW H × List MemPlace} (h : DataW.trod enc Tryd.prog w base spare held m scT [c0, c1, c2, c3] = some y) :
    ∃ s : SC, c0 = uv s.1.1 ∧ c1 = uv s.1.2 ∧ c2 = uv s.2.1 ∧ c3 = uv s.2.2 := by
  obtain ⟨xs, n, _, _, _, hlen, hf⟩ := DataW.trod_struct Tryd.underlying26 h
  have c22 : Tryd.prog.cellsOf 22 = 1 := by kernel_rfl
  have c24 : Tryd.prog.cellsOf tnT = 2 := by kernel_rfl
  have h0 := hf 0 _ rfl
  have h1 := hf 1 _ rfl
  have h2 := hf 2 _ rfl
  have hl : xs.length = 3 := hlen
  rw [List.getElem?_eq_getElem (by omega)] at h0 h1 h2
  change DataW.trod enc Tryd.prog w base spare held n tnT (([c0, c1, c2, c3].drop 0).take (Tryd.prog.cellsOf tnT)) = _ at h0
  change DataW.trod enc Tryd.prog w base spare held n 22 (([c0, c1, c2, c3].drop 2).take (Tryd.prog.cellsOf 22)) = _ at h1
  change DataW.trod enc Tryd.prog w base spare held n 22 (([c0, c1, c2, c3].drop 3).take (Tryd.prog.cellsOf 22)) = _ at h2
  rw [c24] at h0
  rw [c22] at h1 h2
  obtain ⟨t, rfl, rfl⟩ := tnum_of h0
  obtain ⟨k, e1, _, w1⟩ := DataW.trod_int Tryd.underlying22 h1
  obtain ⟨k2, e2, _, w2⟩ := DataW.trod_int Tryd.underlying22 h2
  cases e1; cases e2
  obtain ⟨x, rfl⟩ := of_u64 w1
  obtain ⟨z, rfl⟩ := of_u64 w2
  exact ⟨(t, x, z), rfl, rfl, rfl, rfl⟩
theorem open_scalar {b0 : Nat} {v : Value} {d : DataW H} {p : List MemPlace} (hv : Value.okWide Tryd.prog w .any b0 scT v) (h : DataW.Trod enc Tryd.prog w base spare held scT v d p) : ∃ s : SC, v = sv s := by
  have ht := Tryd.underlying26
  obtain ⟨cs, rfl, hsz, _⟩ : ∃ cs, v = .agg cs ∧ cs.size = Tryd.prog.cellsOf scT ∧ Row.okWide Tryd.prog w .any b0 scT cs := by simpa [Value.okWide, ht] using hv
  obtain ⟨fuel, h⟩ := h
  obtain ⟨l⟩ := cs
  have hsz4 : l.length = 4 := hsz.trans (by kernel_rfl)
  match l, hsz4 with
  | [c0, c1, c2, c3], _ =>
    obtain ⟨s, rfl, rfl, rfl, rfl⟩ := scalar_of h
    exact ⟨s, rfl⟩
theorem open_pair16 {b0 : Nat} {v : Value} {d : DataW H} {p : List MemPlace} (hv : Value.okWide Tryd.prog w .any b0 36 v) (h : DataW.Trod enc Tryd.prog w base spare held 36 v d p) :
    ∃ a b : SC, v = .agg #[uv a.1.1, uv a.1.2, uv a.2.1, uv a.2.2, uv b.1.1, uv b.1.2, uv b.2.1, uv b.2.2] := by
  have ht := Tryd.underlying36
  obtain ⟨cs, rfl, hsz, _⟩ : ∃ cs, v = .agg cs ∧ cs.size = Tryd.prog.cellsOf 36 ∧ Row.okWide Tryd.prog w .any b0 36 cs := by simpa [Value.okWide, ht] using hv
  obtain ⟨fuel, h⟩ := h
  obtain ⟨xs, m, rfl, _, hl, hxl, hx⟩ := DataW.trod_array ht h
  obtain ⟨l⟩ := cs
  have hsz8 : l.length = 8 := hsz.trans (by kernel_rfl)
  have c24 : Tryd.prog.cellsOf scT = 4 := by kernel_rfl
  match l, hsz8 with
  | [c0, c1, c2, c3, c4, c5, c6, c7], _ =>
    have h0 := hx 0 (by omega)
    have h1 := hx 1 (by omega)
    rw [List.getElem?_eq_getElem (by omega)] at h0 h1
    rw [c24] at h0 h1
    obtain ⟨a, rfl, rfl, rfl, rfl⟩ := scalar_of h0
    obtain ⟨b, rfl, rfl, rfl, rfl⟩ := scalar_of h1
    exact ⟨a, b, rfl⟩
end
end Go.Proofs.YtjkgbghikhbecaaDoor
