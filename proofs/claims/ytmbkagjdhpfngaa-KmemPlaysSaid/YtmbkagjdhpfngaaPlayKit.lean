/-
  What the walks of the laws of kmem share: a row of bytes as a text; a row that the call itself made.
-/
import Derived.Test.YtmbkagjdhpfngaaAwake
import Derived.Test.YtmbkagjdhpfngaaSort0
namespace Go.Proofs.Ytmbkagjdhpfngaa
open Go Go.RowKit Go.Maps
set_option linter.unusedVariables false
theorem conv_blk {w : World} {g cap : Nat} {ys : List UInt8} (h : Blk w g 5 (ys.map byteV).toArray) :
    (convert 73 9 (.slice (some ⟨g, 0, none⟩) ys.length cap)).run Try.prog w = .ok (.string (bstr ys)) w := by
  have := Lib.run_convert_whole (P := Try.prog) w 73 5 9 Try.underlying73 Try.underlying5 Try.underlying9 g 0 (bstr ys) (fun i hi => by
    have hi' : i < ys.length := by rw [← bstr_size]; exact hi
    have := h.cell (0 + i)
    rw [List.getElem?_toArray, List.getElem?_map, Nat.zero_add, List.getElem?_eq_getElem hi'] at this
    rw [Nat.zero_add]
    exact this) cap
  rw [bstr_size] at this
  exact this
theorem own_form {w : World} {base : Nat} {e : TypeId} {v : Value} {n : Nat} {xs : List Value} (h : w.ownsRow base e 1 v n xs) :
    ∃ A c, v = .slice A n c ∧ (0 < n → ∃ g, A = some ⟨g, 0, none⟩ ∧ ∀ j u, xs[j]? = some u → w.cell? ⟨g, j, none⟩ = some u) := by
  have hl := h.1
  rcases h.2 with ⟨rfl, rfl⟩ | ⟨g, cap, cur, rfl, hb, hg, h1, h2, h3, h4⟩
  · exact ⟨none, 0, rfl, fun h => by omega⟩
  · refine ⟨_, cap, rfl, fun _ => ⟨g, rfl, fun j u hu => ?_⟩⟩
    have := h.cells (g := g) rfl j u hu
    rwa [show (⟨g, 0, none⟩ : Addr).add j = ⟨g, j, none⟩ by unfold Addr.add; split <;> simp_all] at this
theorem addr_ne {m n : Nat} (h : m ≠ n) : (addr m 0 == addr n 0) = false := by simp [addr]; omega
theorem alloc_int {w : World} {S : Nat → Prop} {bm made fail : Nat} {st : Nat → Option RG} {rl : List Nat} {mv rv : Value} (h : KM w S bm made fail st rl mv rv) (hf : fail ≠ 1) (hmade : made < 4095) (size : Int) (perm : Nat) (h1 : 1 ≤ size) (h2 : size ≤ 1048576) (h3 : 1 ≤ perm) (h4 : perm ≤ 3) :
    Calls Try.prog 10 #[.pointer (some ⟨bm, 0, none⟩), .int .i64 size, .int .i64 perm] w fun e w' => e = .returned (.tuple #[.int .u64 (addr (made + 1) 0), .int .i64 0]) ∧ AllocPost w S bm made fail st rl rv size.toNat perm w' := by
  obtain ⟨k, rfl⟩ := Int.eq_ofNat_of_zero_le (show 0 ≤ size by omega)
  exact alloc_ok h hf hmade k perm (by omega) (by omega) h3 h4
end Go.Proofs.Ytmbkagjdhpfngaa
