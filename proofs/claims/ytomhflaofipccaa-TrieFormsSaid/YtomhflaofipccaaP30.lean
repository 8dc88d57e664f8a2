/-
  A row of bytes that was made out of a text: it may have room behind, and a mark past its end.
-/
import Derived.Test.YtomhflaofipccaaP21
import Derived.Laws.IdiomStrings
import Derived.Laws.AppendOwn
namespace Go.Proofs.Ytomhflaofipccaa
open Go Go.RowKit Go.Maps
set_option linter.unusedVariables false
set_option linter.unusedSimpArgs false
/-- Block g begins with the bytes l; none of them is frozen. -/
def Row8 (w : World) (g : Nat) (l : List UInt8) : Prop := ∃ (cs : Array Value) (fz : Nat × Nat), w.heap[g]? = some (.cells cs 5 fz) ∧ l.length ≤ cs.size ∧ cs.size ≤ fz.1 ∧ ∀ i (h : i < l.length), cs[i]? = some (byteV l[i])
section
variable {w w' : World} {g : Nat} {l : List UInt8}
theorem Row8.lt (h : Row8 w g l) : g < w.heap.size := by
  obtain ⟨cs, fz, h1, _⟩ := h
  rcases Nat.lt_or_ge g w.heap.size with hlt | hge
  · exact hlt
  · rw [Array.getElem?_eq_none hge] at h1; cases h1
theorem Row8.cell (h : Row8 w g l) {i : Nat} (hi : i < l.length) : w.cell? ⟨g, i, none⟩ = some (byteV l[i]) := by
  obtain ⟨cs, fz, h1, h2, h3, h4⟩ := h
  rw [cell_of_row w g i cs _ _ h1]
  exact h4 i hi
theorem Row8.frozen (h : Row8 w g l) {i : Nat} (hi : i < l.length) : w.frozen? ⟨g, i, none⟩ = false := by
  obtain ⟨cs, fz, h1, h2, h3, h4⟩ := h
  simp only [World.frozen?, h1]
  have : ¬ fz.1 ≤ i := by omega
  simp [this]
theorem Row8.keeps {S : Nat → Prop} (h : Row8 w g l) (k : Keeps S w w') (hs : ¬ S g) : Row8 w' g l := by
  have hlt := h.lt
  obtain ⟨cs, fz, h1, h2⟩ := h
  exact ⟨cs, fz, (k.block g hlt hs).trans h1, h2⟩
theorem Row8.quiet (h : Row8 w g l) (k : Qt w w') : Row8 w' g l := h.keeps k fun h => h
theorem Row8.set_ (h : Row8 w g l) (i : Nat) (b : UInt8) : Row8 (w.setCell ⟨g, i, none⟩ (byteV b)) g (l.set i b) := by
  obtain ⟨cs, fz, h1, h2, h3, h4⟩ := h
  refine ⟨cs.setIfInBounds i (byteV b), fz, ?_, by simpa using h2, by simpa using h3, fun j hj => ?_⟩
  · simp [World.setCell, Array.getElem?_modify, h1]
  · rw [List.length_set] at hj
    rw [Array.getElem?_setIfInBounds, List.getElem_set]
    by_cases e : i = j
    · subst e
      rw [if_pos rfl, if_pos (by omega), if_pos rfl]
    · rw [if_neg e, if_neg e]
      exact h4 j hj
theorem Row8.back (h : Row8 w g l) (c : Nat) : (convert 42 9 (.slice (some ⟨g, 0, none⟩) l.length c)).run Try.prog w = .ok (.string (bstr l)) w :=
  run_convert_bytes_back (P := Try.prog) w 42 9 5 ⟨g, 0, none⟩ c l Try.underlying42 Try.underlying5 Try.underlying9 (fun j hj => by
    rw [show (⟨g, 0, none⟩ : Addr).add j = ⟨g, j, none⟩ by unfold Addr.add; split <;> simp_all]
    exact h.cell hj)
end
/-- '[]byte(s)'. -/
theorem conv8 (w : World) (s : ByteArray) : ∃ c w', (convert 9 42 (.string s)).run Try.prog w = .ok (.slice (some ⟨w.heap.size, 0, none⟩) s.size c) w' ∧ s.size ≤ c ∧ Row8 w' w.heap.size s.data.toList ∧ Qt w w' := by
  have hr := run_bytes_of_string (P := Try.prog) w 9 42 5 s Try.underlying9 Try.underlying42 Try.underlying5
  have hc := grownCap_ge w s.size 0 5
  generalize grownCap w s.size 0 5 = c at *
  have hsz : (bytesRow s c).size = s.size + (c - s.size) := by unfold bytesRow; simp
  have hkl := kl_length s
  refine ⟨c, _, hr, hc, ⟨bytesRow s c, ((bytesRow s c).size, (bytesRow s c).size + 1), ?_, by rw [hsz]; omega, Nat.le_refl _, fun i hi => ?_⟩, ?_⟩
  · exact heap_alloc_new w.drew _
  · unfold bytesRow
    rw [Array.getElem?_append_left (by simpa using hi)]
    simp only [Array.getElem?_map]
    have : s.data[i]? = some (s.data.toList[i]) := by
      rw [← Array.getElem?_toList, List.getElem?_eq_getElem hi]
    rw [this]; rfl
  · exact (Keeps.refl _ w).drew.alloc _
end Go.Proofs.Ytomhflaofipccaa
