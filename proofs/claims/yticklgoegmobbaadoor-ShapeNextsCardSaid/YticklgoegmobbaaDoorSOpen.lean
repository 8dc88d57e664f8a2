/-
  The laws' arguments of layer 3, opened: a list of slots, a text; the table that is listed; how long they may be.
-/
import Derived.Test.YticklgoegmobbaaDoorSLeaf0
import Derived.Test.YticklgoegmobbaaDoorKit
import Derived.Deep.DeepHandedRow
import Derived.Lib.LaidTab
import Derived.ChangeMaps5
import Derived.ProofKit
import Derived.OpenShut
namespace Go.Proofs.YticklgoegmobbaaDoor
open Go Go.RowKit Go.WideShapes Go.ChangeShapes Go.WideElems Go.Deep
set_option linter.unusedVariables false
theorem own : ownKnob Tryd.prog.godebug = none := by kernel_rfl
theorem laidOut : laidOutB Tryd.prog = true := by kernel_rfl
theorem gTab : Tryd.prog.globalNamed "portcullis/insn.sizes" = some 0 := by kernel_rfl
theorem gTabType : (Tryd.prog.globals[0]?).map (·.type) = some 62 := by kernel_rfl
abbrev laid1 : List (String × DataW Unit) := [("portcullis/insn.sizes", Rows.laid_portcullis_insn_sizes)]
theorem sizes_of_laid {W : World} (h : laidMetH Tryd.prog laid1 W) : Sizes W := by
  have T : Lib.TabIs Tryd.prog W "portcullis/insn.sizes" .i64 [4, 2, 1, 8] := Lib.tabIs_of_head (rest := []) gTab gTabType Tryd.underlying62 Tryd.underlying3 (by kernel_rfl) (by kernel_rfl) h
  have c0 : W.cell? ⟨0, 0, none⟩ = some (.int .i64 4) := T.cell gTab 0 (by decide)
  exact ⟨World.block_lt_of_cell? W _ c0, c0, T.cell gTab 1 (by decide), T.cell gTab 2 (by decide), T.cell gTab 3 (by decide)⟩
section
variable {H : Type} {enc : TypeId × Value → H} {w : World} {base : Nat} {spare : Nat → Bool} {held : Bool}
theorem one_le_bulk (d : DataW H) : 1 ≤ Rows.uptoBulk d := by
  cases d with
  | lit l => cases l <;> simp [Rows.uptoBulk]
  | nil => simp [Rows.uptoBulk]
  | ptr d => simp [Rows.uptoBulk]
  | slice elems spare => simp [Rows.uptoBulk]
  | agg parts => simp [Rows.uptoBulk]
  | iface t d => simp [Rows.uptoBulk]
  | map entries => simp [Rows.uptoBulk]
  | held h => simp [Rows.uptoBulk]
theorem length_le_bulk (l : List (DataW H)) : l.length ≤ Rows.uptoBulkAll l := by
  induction l with
  | nil => simp [Rows.uptoBulkAll]
  | cons x r ih => have := one_le_bulk x; simp only [Rows.uptoBulkAll, List.length_cons]; omega
theorem bulk_str (s : ByteArray) : Rows.uptoBulk (DataW.lit (H := H) (.string s.data.toList)) = s.size + 1 := by simp only [Rows.uptoBulk]; rw [Array.length_toList]; rfl
set_option maxRecDepth 100000 in
/-- A list of slots that comes in, nil let in; it is no longer than its datum's bulk. -/
theorem open_slots {b0 : Nat} {v : Value} {d : DataW H} {p : List MemPlace} (hv : Value.okWide Tryd.prog w .any b0 22 v) (h : DataW.Trod enc Tryd.prog w base spare held 22 v d p) :
    ∃ (A : Option Addr) (n c : Nat) (X : Nat → Slot), v = .slice A n c ∧ Slots w A n X ∧ n ≤ Rows.uptoBulk d ∧ (A = none → n = 0 ∧ c = 0) := by
  have h0 := h
  obtain ⟨A, n, c, rfl, hl, hm, hA, hf⟩ := open_structs_any Tryd.underlying22 Tryd.underlying39 (by kernel_rfl) (by kernel_rfl) (by decide) hv h
  have hlen : n ≤ Rows.uptoBulk d ∧ (A = none → n = 0 ∧ c = 0) := by
    obtain ⟨fu, hf'⟩ := h0
    rcases open_slice Tryd.underlying22 hf' with ⟨hcs, _⟩ | ⟨a, len', cap', m, n', D, Pl, hcs, _, _, _, _, hx, _⟩
    · simp [Value.cells] at hcs
      exact ⟨by omega, fun _ => ⟨hcs.2.1, hcs.2.2⟩⟩
    · simp [Value.cells] at hcs
      obtain ⟨e1, rfl, _⟩ := hcs
      simp only [Prod.mk.injEq] at hx
      refine ⟨?_, fun e => by rw [e1] at e; cases e⟩
      rw [hx.1]
      have := length_le_bulk ((List.range n).map D)
      simp only [Rows.uptoBulk, List.length_map, List.length_range] at this ⊢
      omega
  have each : ∀ i, i < n → ∃ x : Slot, ∃ b off, A = some ⟨b, off, none⟩ ∧ b < w.heap.size ∧ Cells5 w b (off + i * 5) x := by
    intro i hi
    obtain ⟨ad, rfl, hlt⟩ := hA (by omega)
    obtain ⟨c0, y0, n0, g0, t0⟩ := hf i hi ad rfl 0 _ rfl
    obtain ⟨c1, y1, n1, g1, t1⟩ := hf i hi ad rfl 1 _ rfl
    obtain ⟨c2, y2, n2, g2, t2⟩ := hf i hi ad rfl 2 _ rfl
    obtain ⟨c3, y3, n3, g3, t3⟩ := hf i hi ad rfl 3 _ rfl
    obtain ⟨c4, y4, n4, g4, t4⟩ := hf i hi ad rfl 4 _ rfl
    obtain ⟨o, e0, _, w0⟩ := DataW.trod_int Tryd.underlying3 t0
    obtain ⟨dd, e1, _, w1⟩ := DataW.trod_int Tryd.underlying3 t1
    obtain ⟨s, e2, _, w2⟩ := DataW.trod_int Tryd.underlying3 t2
    obtain ⟨f, e3, _, w3⟩ := DataW.trod_int Tryd.underlying3 t3
    obtain ⟨m, e4, _, w4⟩ := DataW.trod_int Tryd.underlying3 t4
    cases e0; cases e1; cases e2; cases e3; cases e4
    obtain ⟨b, off, spot⟩ := ad
    have hspot : spot = none := by
      obtain ⟨_, _, _, gz, _⟩ := hf 0 (by omega) ⟨b, off, spot⟩ rfl 0 _ rfl
      simpa [Addr.add] using World.cell?_spot gz
    subst hspot
    simp only [Go.WideShapes.add_plain] at g0 g1 g2 g3 g4
    exact ⟨⟨o, dd, s, f, m⟩, b, off, rfl, hlt, g0, g1, g2, g3, g4⟩
  have : Inhabited Slot := ⟨⟨0, 0, 0, 0, 0⟩⟩
  obtain ⟨X, hX⟩ := choose_lt each
  exact ⟨A, n, c, X, rfl, hX, hlen.1, hlen.2⟩
end
/-- A world for the witness: the settled one, the table holding what its initialiser lays. -/
noncomputable def laidWorld (os : Os) : World :=
  { World.holding Tryd.prog os ⟨#[], #[], []⟩ with heap := (World.holding Tryd.prog os ⟨#[], #[], []⟩).heap.modify 0 fun
      | .cells _ t frozen => .cells #[.int .i64 4, .int .i64 2, .int .i64 1, .int .i64 8] t frozen
      | o => o }
theorem laid_met (os : Os) (args : Array Value) : laidMet Tryd.prog laid1 ((laidWorld os).forCall (fun _ _ => 0) ⟨#[], args, []⟩).memory :=
  laidMet_of_run' 8 (by kernel_rfl) (by kernel_rfl)
end Go.Proofs.YticklgoegmobbaaDoor
