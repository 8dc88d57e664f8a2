/-
  The laws' arguments of layer 15, opened.
-/
import Derived.Test.YtjkgbghikhbecaaDoorKmKit
import Derived.Test.YtjkgbghikhbecaaDoorTRef
namespace Go.Proofs.YtjkgbghikhbecaaDoor
open Go Go.RowKit Go.WideShapes Go.ChangeShapes Go.WideElems Go.Deep Tn
set_option linter.unusedVariables false
set_option linter.unusedSimpArgs false
set_option maxRecDepth 100000
section
variable {H : Type} {enc : TypeId × Value → H} {w : World} {base : Nat} {spare : Nat → Bool} {held : Bool}
theorem of_u64 {z : Int} (h : (Lit.int .u64 z).wf = true) : ∃ x : B64, z = n64 x := by
  have := bounds_u64 h
  exact n64_of z (by omega) (by omega)
theorem open_tnum {b0 : Nat} {v : Value} {d : DataW H} {p : List MemPlace} (hv : Value.okWide Tryd.prog w .any b0 tnT v) (h : DataW.Trod enc Tryd.prog w base spare held tnT v d p) :
    ∃ t : TN, v = tv t := by
  obtain ⟨cs, rfl, hsz, hf⟩ := open_struct Tryd.underlying24 (by kernel_rfl) (by kernel_rfl) hv h
  obtain ⟨c0, y0, n0, g0, t0⟩ := hf 0 _ rfl
  obtain ⟨c1, y1, n1, g1, t1⟩ := hf 1 _ rfl
  obtain ⟨k, e0, _, w0⟩ := DataW.trod_int Tryd.underlying22 t0
  obtain ⟨n, e1, _, w1⟩ := DataW.trod_int Tryd.underlying22 t1
  cases e0; cases e1
  obtain ⟨x, rfl⟩ := of_u64 w0
  obtain ⟨y, rfl⟩ := of_u64 w1
  obtain ⟨l⟩ := cs
  match l, hsz with
  | [x0, x1], _ =>
    simp at g0 g1
    subst g0; subst g1
    exact ⟨(x, y), rfl⟩
theorem open_threeu {b0 : Nat} {v : Value} {d : DataW H} {p : List MemPlace} (hv : Value.okWide Tryd.prog w .any b0 45 v) (h : DataW.Trod enc Tryd.prog w base spare held 45 v d p) :
    ∃ a b c : B64, v = .agg #[uv a, uv b, uv c] := by
  obtain ⟨zs, hzl, rfl, hzw⟩ := open_arr_ints Tryd.underlying45 Tryd.underlying22 (by kernel_rfl) (by kernel_rfl) hv h
  obtain ⟨a, b, c, rfl⟩ : ∃ a b c, zs = [a, b, c] := by
    match zs, hzl with
    | [a, b, c], _ => exact ⟨a, b, c, rfl⟩
  obtain ⟨x, rfl⟩ := of_u64 (hzw a (by simp))
  obtain ⟨y, rfl⟩ := of_u64 (hzw b (by simp))
  obtain ⟨z, rfl⟩ := of_u64 (hzw c (by simp))
  exact ⟨x, y, z, rfl⟩
theorem tnum_of {m : Nat} {c d : Value} {y : DataW H × List MemPlace} (h : DataW.trod enc Tryd.prog w base spare held m tnT [c, d] = some y) : ∃ t : TN, c = uv t.1 ∧ d = uv t.2 := by
  obtain ⟨xs, n, _, _, _, hlen, hf⟩ := DataW.trod_struct Tryd.underlying24 h
  have c22 : Tryd.prog.cellsOf 22 = 1 := by kernel_rfl
  have h0 := hf 0 _ rfl
  have h1 := hf 1 _ rfl
  have hl : xs.length = 2 := hlen
  rw [List.getElem?_eq_getElem (by omega)] at h0 h1
  change DataW.trod enc Tryd.prog w base spare held n 22 (([c, d].drop 0).take (Tryd.prog.cellsOf 22)) = _ at h0
  change DataW.trod enc Tryd.prog w base spare held n 22 (([c, d].drop 1).take (Tryd.prog.cellsOf 22)) = _ at h1
  rw [c22] at h0 h1
  obtain ⟨k, e0, _, w0⟩ := DataW.trod_int Tryd.underlying22 h0
  obtain ⟨n, e1, _, w1⟩ := DataW.trod_int Tryd.underlying22 h1
  cases e0; cases e1
  obtain ⟨x, rfl⟩ := of_u64 w0
  obtain ⟨y, rfl⟩ := of_u64 w1
  exact ⟨(x, y), rfl, rfl⟩
end
end Go.Proofs.YtjkgbghikhbecaaDoor
