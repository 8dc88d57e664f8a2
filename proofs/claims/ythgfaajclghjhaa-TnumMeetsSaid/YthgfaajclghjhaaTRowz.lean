/-
  The laws' arguments of layer 15, opened.
-/
import Derived.Test.YthgfaajclghjhaaKmKit
import Derived.Test.YthgfaajclghjhaaTRef
namespace Go.Proofs.Ythgfaajclghjhaa
open Go Go.RowKit Go.WideShapes Go.ChangeShapes Go.WideElems Go.Deep Tn
set_option linter.unusedVariables false
set_option linter.unusedSimpArgs false
set_option maxRecDepth 100000
section
variable {H : Type} {enc : TypeId × Value → H} {w : World} {base : Nat} {spare : Nat → Bool} {held : Bool}
theorem of_u64 {z : Int} (h : (Lit.int .u64 z).wf = true) : ∃ x : B64, z = n64 x := by
  have := bounds_u64 h
  exact n64_of z (by omega) (by omega)
theorem open_tnum {b0 : Nat} {v : Value} {d : DataW H} {p : List MemPlace} (hv : Value.okWide Try.prog w .any b0 tnT v) (h : DataW.Trod enc Try.prog w base spare held tnT v d p) :
    ∃ t : TN, v = tv t := by
  obtain ⟨cs, rfl, hsz, hf⟩ := open_struct Try.underlying24 (by kernel_rfl) (by kernel_rfl) hv h
  obtain ⟨c0, y0, n0, g0, t0⟩ := hf 0 _ rfl
  obtain ⟨c1, y1, n1, g1, t1⟩ := hf 1 _ rfl
  obtain ⟨k, e0, _, w0⟩ := DataW.trod_int Try.underlying22 t0
  obtain ⟨n, e1, _, w1⟩ := DataW.trod_int Try.underlying22 t1
  cases e0; cases e1
  obtain ⟨x, rfl⟩ := of_u64 w0
  obtain ⟨y, rfl⟩ := of_u64 w1
  obtain ⟨l⟩ := cs
  match l, hsz with
  | [x0, x1], _ =>
    simp at g0 g1
    subst g0; subst g1
    exact ⟨(x, y), rfl⟩
theorem open_two {b0 : Nat} {v : Value} {d : DataW H} {p : List MemPlace} (hv : Value.okWide Try.prog w .any b0 33 v) (h : DataW.Trod enc Try.prog w base spare held 33 v d p) :
    ∃ a b : Int, v = .agg #[.int .i64 a, .int .i64 b] ∧ (-9223372036854775808 ≤ a ∧ a ≤ 9223372036854775807) ∧ (-9223372036854775808 ≤ b ∧ b ≤ 9223372036854775807) := by
  obtain ⟨zs, hzl, rfl, hzw⟩ := open_arr_ints Try.underlying33 Try.underlying3 (by kernel_rfl) (by kernel_rfl) hv h
  obtain ⟨a, b, rfl⟩ : ∃ a b, zs = [a, b] := by
    match zs, hzl with
    | [a, b], _ => exact ⟨a, b, rfl⟩
  exact ⟨a, b, rfl, bounds_i64 (hzw a (by simp)), bounds_i64 (hzw b (by simp))⟩
theorem open_twou {b0 : Nat} {v : Value} {d : DataW H} {p : List MemPlace} (hv : Value.okWide Try.prog w .any b0 38 v) (h : DataW.Trod enc Try.prog w base spare held 38 v d p) :
    ∃ a b : B64, v = .agg #[uv a, uv b] := by
  obtain ⟨zs, hzl, rfl, hzw⟩ := open_arr_ints Try.underlying38 Try.underlying22 (by kernel_rfl) (by kernel_rfl) hv h
  obtain ⟨a, b, rfl⟩ : ∃ a b, zs = [a, b] := by
    match zs, hzl with
    | [a, b], _ => exact ⟨a, b, rfl⟩
  obtain ⟨x, rfl⟩ := of_u64 (hzw a (by simp))
  obtain ⟨y, rfl⟩ := of_u64 (hzw b (by simp))
  exact ⟨x, y, rfl⟩
theorem open_threeu {b0 : Nat} {v : Value} {d : DataW H} {p : List MemPlace} (hv : Value.okWide Try.prog w .any b0 52 v) (h : DataW.Trod enc Try.prog w base spare held 52 v d p) :
    ∃ a b c : B64, v = .agg #[uv a, uv b, uv c] := by
  obtain ⟨zs, hzl, rfl, hzw⟩ := open_arr_ints Try.underlying52 Try.underlying22 (by kernel_rfl) (by kernel_rfl) hv h
  obtain ⟨a, b, c, rfl⟩ : ∃ a b c, zs = [a, b, c] := by
    match zs, hzl with
    | [a, b, c], _ => exact ⟨a, b, c, rfl⟩
  obtain ⟨x, rfl⟩ := of_u64 (hzw a (by simp))
  obtain ⟨y, rfl⟩ := of_u64 (hzw b (by simp))
  obtain ⟨z, rfl⟩ := of_u64 (hzw c (by simp))
  exact ⟨x, y, z, rfl⟩
theorem tnum_of {m : Nat} {c d : Value} {y : DataW H × List MemPlace} (h : DataW.trod enc Try.prog w base spare held m tnT [c, d] = some y) : ∃ t : TN, c = uv t.1 ∧ d = uv t.2 := by
  obtain ⟨xs, n, _, _, _, hlen, hf⟩ := DataW.trod_struct Try.underlying24 h
  have c22 : Try.prog.cellsOf 22 = 1 := by kernel_rfl
  have h0 := hf 0 _ rfl
  have h1 := hf 1 _ rfl
  have hl : xs.length = 2 := hlen
  rw [List.getElem?_eq_getElem (by omega)] at h0 h1
  change DataW.trod enc Try.prog w base spare held n 22 (([c, d].drop 0).take (Try.prog.cellsOf 22)) = _ at h0
  change DataW.trod enc Try.prog w base spare held n 22 (([c, d].drop 1).take (Try.prog.cellsOf 22)) = _ at h1
  rw [c22] at h0 h1
  obtain ⟨k, e0, _, w0⟩ := DataW.trod_int Try.underlying22 h0
  obtain ⟨n, e1, _, w1⟩ := DataW.trod_int Try.underlying22 h1
  cases e0; cases e1
  obtain ⟨x, rfl⟩ := of_u64 w0
  obtain ⟨y, rfl⟩ := of_u64 w1
  exact ⟨(x, y), rfl, rfl⟩
theorem open_pair15 {b0 : Nat} {v : Value} {d : DataW H} {p : List MemPlace} (hv : Value.okWide Try.prog w .any b0 46 v) (h : DataW.Trod enc Try.prog w base spare held 46 v d p) :
    ∃ a b : TN, v = .agg #[uv a.1, uv a.2, uv b.1, uv b.2] := by
  have ht := Try.underlying46
  obtain ⟨cs, rfl, hsz, _⟩ : ∃ cs, v = .agg cs ∧ cs.size = Try.prog.cellsOf 46 ∧ Row.okWide Try.prog w .any b0 46 cs := by simpa [Value.okWide, ht] using hv
  obtain ⟨fuel, h⟩ := h
  obtain ⟨xs, m, rfl, _, hl, hxl, hx⟩ := DataW.trod_array ht h
  obtain ⟨l⟩ := cs
  have hsz4 : l.length = 4 := hsz.trans (by kernel_rfl)
  have c24 : Try.prog.cellsOf tnT = 2 := by kernel_rfl
  match l, hsz4 with
  | [c0, c1, c2, c3], _ =>
    have h0 := hx 0 (by omega)
    have h1 := hx 1 (by omega)
    rw [List.getElem?_eq_getElem (by omega)] at h0 h1
    rw [c24] at h0 h1
    obtain ⟨a, rfl, rfl⟩ := tnum_of h0
    obtain ⟨b, rfl, rfl⟩ := tnum_of h1
    exact ⟨a, b, rfl⟩
end
end Go.Proofs.Ythgfaajclghjhaa
