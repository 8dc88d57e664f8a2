/-
  Layer 7, plainly: the chapter's example.
-/
import Derived.Test.YthilkgfbaddjpaaDoorLFits
namespace Go.Proofs.YthilkgfbaddjpaaDoor
open Go Go.RowKit
set_option linter.unusedVariables false
set_option linter.unusedSimpArgs false
set_option maxRecDepth 100000
def exL : List Ty := [⟨1, ⟨#[117, 51, 50]⟩, 4, 0, 0, []⟩, ⟨4, ⟨#[112]⟩, 8, 0, 0, [⟨⟨#[97]⟩, 1, 0⟩, ⟨⟨#[98]⟩, 1, 32⟩]⟩, ⟨3, ⟨#[]⟩, 0, 2, 3, []⟩]
def selfL : List Ty := [⟨8, ⟨#[116]⟩, 0, 1, 0, []⟩]
theorem ex_order : (allL exL).order = [1, 2, 3] := by decide
theorem ex_loops : (allL exL).loops = [] := by decide
theorem ex_alone : exL.all (aloneB exL.length) = true := by decide
theorem ex_sizes : szL exL = [(0, 5), (4, 0), (8, 0), (24, 0)] := by decide
theorem ex_mems : exL.all (okM (szL exL)) = true := by rw [ex_sizes]; decide
theorem ex_good : Good exL := by
  refine ⟨by decide, ex_alone, ex_loops, fun j z h1 hz => ?_, ex_mems⟩
  rw [ex_sizes] at hz
  match j, h1, hz with
  | 1, _, hz => cases hz; rfl
  | 2, _, hz => cases hz; rfl
  | 3, _, hz => cases hz; rfl
  | j + 4, _, hz => simp at hz
theorem ex_held : Held exL := by
  refine ⟨?_, ?_, by decide⟩
  · intro t ht
    simp only [exL, List.mem_cons, List.not_mem_nil, or_false] at ht
    rcases ht with rfl | rfl | rfl <;> simp
  · intro t ht m hm
    simp only [exL, List.mem_cons, List.not_mem_nil, or_false] at ht
    rcases ht with rfl | rfl | rfl <;> simp at hm
    rcases hm with rfl | rfl <;> simp
theorem ex_size3 : sizeR exL 3 = (24, 0) := by unfold sizeR; rw [ex_sizes]; decide
theorem ex_size0 : sizeR exL 0 = (0, 41) := by unfold sizeR; rw [ex_sizes]; decide
theorem ex_field : fieldR exL 2 [⟨#[98]⟩] = (4, 1, 0) := by kernel_rfl
theorem self_alone : selfL.all (aloneB selfL.length) = true := by decide
theorem self_loops : (allL selfL).loops = [1] := by decide
theorem self_held : Held selfL := by
  refine ⟨?_, ?_, by decide⟩
  · intro t ht
    simp only [selfL, List.mem_cons, List.not_mem_nil, or_false] at ht
    rcases ht with rfl
    simp
  · intro t ht m hm
    simp only [selfL, List.mem_cons, List.not_mem_nil, or_false] at ht
    rcases ht with rfl
    simp at hm
end Go.Proofs.YthilkgfbaddjpaaDoor
