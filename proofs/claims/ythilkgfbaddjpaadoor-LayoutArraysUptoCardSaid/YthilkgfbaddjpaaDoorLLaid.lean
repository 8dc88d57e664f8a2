/-
  Layer 7: what the listed variables hold: the nine errors, and errors' own type of errors; a world that holds them so.
-/
import Derived.Test.YthilkgfbaddjpaaDoorLEnv
import Derived.Test.YthilkgfbaddjpaaDoorRows
import Derived.LaidLaws
import Derived.LaidHandle
import Derived.ChangeSame
import Derived.ChangeVars
import Derived.RowKitTokens
import Derived.Stop.LaidErr
import Derived.Deep.DeepHandedRow
namespace Go.Proofs.YthilkgfbaddjpaaDoor
open Go Go.RowKit Go.ChangeShapes Go.WideShapes
set_option linter.unusedVariables false
set_option linter.unusedSimpArgs false
set_option maxRecDepth 100000
theorem own : ownKnob Tryd.prog.godebug = none := by kernel_rfl
theorem laidOut : laidOutB Tryd.prog = true := by kernel_rfl
abbrev laidL : List (String × DataW Unit) := [("errors.errorType", Rows.laid_errors_errorType), ("portcullis/layout.errMany", Rows.laid_portcullis_layout_errMany), ("portcullis/layout.errAlone", Rows.laid_portcullis_layout_errAlone), ("portcullis/layout.errHolds", Rows.laid_portcullis_layout_errHolds), ("portcullis/layout.errLarge", Rows.laid_portcullis_layout_errLarge), ("portcullis/layout.errOut", Rows.laid_portcullis_layout_errOut), ("portcullis/layout.errVoid", Rows.laid_portcullis_layout_errVoid), ("portcullis/layout.errNumber", Rows.laid_portcullis_layout_errNumber), ("portcullis/layout.errField", Rows.laid_portcullis_layout_errField), ("portcullis/layout.errOther", Rows.laid_portcullis_layout_errOther)]
theorem laid_sent {P : Program} {n nm : String} {text : List UInt8} {r : List (String × DataW Unit)} {W : World} {g : Nat} {ti tp te ts : TypeId} {ms : Array (String × TypeId)} {f : Field}
    (h : laidMet P ((n, .iface nm (.ptr (.agg [.lit (.string text)]))) :: r) W)
    (hg : P.globalNamed n = some g) (ht : (P.globals[g]?).map (·.type) = some ti) (hi : P.underlying ti = some (.interface ms)) (hrow : ∀ u, P.typeName? 3 u = some nm → u = tp)
    (hp : P.underlying tp = some (.pointer te)) (he : P.underlying te = some (.struct #[f])) (hft : f.type = ts) (hfo : f.offset = 0) (hs : P.underlying ts = some .string) (hc : P.cellsOf te = 1) (hcs : P.cellsOf ts = 1) :
    ∃ (a : Addr) (s : ByteArray), W.cell? ⟨g, 0, none⟩ = some (.iface tp (.pointer (some a))) ∧ W.cell? a = some (.string s) ∧ s.data.toList = text ∧ ∃ cs t, W.heap[a.block]? = some (.cells cs t (0, 0)) := by
  obtain ⟨ps, ⟨g0, t0, cs0, f0, p0, q0, hg0, ht0, hv0, hd0, _, e0⟩, _, hrows⟩ := h
  obtain rfl := Option.some.inj (hg.symm.trans hg0)
  obtain rfl := Option.some.inj (ht.symm.trans ht0)
  subst e0
  obtain ⟨l0⟩ := cs0
  have ok0 : ∀ u v, l0 = [.iface u v] → Value.okWide P W .any 0 u v := fun u v e => by
    subst e
    exact (hrows g 0 (by simp [MemPlace.row])).2 u v (by simpa using World.var?_cell hg0 hv0 0)
  obtain ⟨a0, s0, rfl, hc0, hs0, hz0, rfl⟩ := errorString_of_trod hi hrow hp he hft hfo hs hc hcs hd0 ok0
  obtain ⟨c0, t0, hb0⟩ := (hrows a0.block a0.off (by simp [MemPlace.row])).1
  exact ⟨a0, s0, by simpa using World.var?_cell hg0 hv0 0, hc0, hs0, c0, t0, hb0⟩
theorem star : "*" ++ "errors.errorString" = "*errors.errorString" := by decide
theorem rowErr (u : TypeId) (h : Tryd.prog.typeName? 3 u = some "*errors.errorString") : u = 118 :=
  typeName_ptr_named (nm := "errors.errorString") (by rw [star]; kernel_rfl) (by kernel_rfl) (by decide) u (by rw [star]; exact h)
theorem oneRow : ((List.range Tryd.prog.types.size).filter fun t => Tryd.prog.rowNamed t [101, 114, 114, 111, 114]) = [38] := by kernel_rfl
def textOf : DataW Unit → List UInt8
  | .iface _ (.ptr (.agg [.lit (.string s)])) => s
  | _ => []
def texts : List (List UInt8) := [textOf Rows.laid_portcullis_layout_errMany, textOf Rows.laid_portcullis_layout_errNumber, textOf Rows.laid_portcullis_layout_errField, textOf Rows.laid_portcullis_layout_errAlone, textOf Rows.laid_portcullis_layout_errHolds, textOf Rows.laid_portcullis_layout_errVoid, textOf Rows.laid_portcullis_layout_errLarge, textOf Rows.laid_portcullis_layout_errOut, textOf Rows.laid_portcullis_layout_errOther]
theorem texts_ne : ∀ i, i < 9 → ∀ j, j < 9 → i ≠ j → texts.getD i [] ≠ texts.getD j [] := by decide +kernel
theorem handle_of_laid {W : World} (h : handlesMet Tryd.prog [("errors.errorType", Rows.laid_errors_errorType)] W) : W.cell? ⟨9, 0, none⟩ = some (.iface 94 (.agg #[.pointer (some ⟨10, 38, none⟩)])) := by
  obtain ⟨name, u, ty, e1, e2, e3, e4, e5⟩ := h _ (List.mem_singleton.2 rfl)
  have en : name = [101, 114, 114, 111, 114] := (Option.some.inj e1).symm
  subst en
  have rt : (Tryd.prog.cutTypes.find? (·.1 == "internal/reflectlite.rtype")).map (·.2) = some 94 := by kernel_rfl
  obtain rfl := Option.some.inj (rt.symm.trans e2)
  have hm : ty ∈ (List.range Tryd.prog.types.size).filter fun t => Tryd.prog.rowNamed t [101, 114, 114, 111, 114] := List.mem_filter.2 ⟨List.mem_range.2 e3, e4⟩
  rw [oneRow] at hm
  obtain rfl := List.mem_singleton.1 hm
  have hh : typeHandle Tryd.prog 38 = .pointer (some ⟨10, 38, none⟩) := by kernel_rfl
  rw [hh] at e5
  have et : Tryd.prog.globalNamed "errors.errorType" = some 9 := by kernel_rfl
  simpa using World.var?_cell et e5 0
/-- What the listed variables' condition gives a walk. -/
theorem env_of_laid {W : World} (h : laidMetH Tryd.prog laidL W) : ∃ a, Env W a := by
  have h' : laidMet Tryd.prog [("portcullis/layout.errMany", Rows.laid_portcullis_layout_errMany), ("portcullis/layout.errAlone", Rows.laid_portcullis_layout_errAlone), ("portcullis/layout.errHolds", Rows.laid_portcullis_layout_errHolds), ("portcullis/layout.errLarge", Rows.laid_portcullis_layout_errLarge), ("portcullis/layout.errOut", Rows.laid_portcullis_layout_errOut), ("portcullis/layout.errVoid", Rows.laid_portcullis_layout_errVoid), ("portcullis/layout.errNumber", Rows.laid_portcullis_layout_errNumber), ("portcullis/layout.errField", Rows.laid_portcullis_layout_errField), ("portcullis/layout.errOther", Rows.laid_portcullis_layout_errOther)] W ∧ handlesMet Tryd.prog [("errors.errorType", Rows.laid_errors_errorType)] W := h
  obtain ⟨hL, hH⟩ := h'
  have e1 : Tryd.prog.cellsOf 140 = 1 := by kernel_rfl
  have e2 : Tryd.prog.cellsOf 9 = 1 := by kernel_rfl
  obtain ⟨a0, s0, c0, z0, x0, b0⟩ := laid_sent (ti := 38) hL (show Tryd.prog.globalNamed "portcullis/layout.errMany" = some 0 by kernel_rfl) (by kernel_rfl) Tryd.underlying38 rowErr Tryd.underlying118 Tryd.underlying140 rfl rfl Tryd.underlying9 e1 e2
  obtain ⟨a3, s3, c3, z3, x3, b3⟩ := laid_sent (ti := 38) hL.tail (show Tryd.prog.globalNamed "portcullis/layout.errAlone" = some 3 by kernel_rfl) (by kernel_rfl) Tryd.underlying38 rowErr Tryd.underlying118 Tryd.underlying140 rfl rfl Tryd.underlying9 e1 e2
  obtain ⟨a4, s4, c4, z4, x4, b4⟩ := laid_sent (ti := 38) hL.tail.tail (show Tryd.prog.globalNamed "portcullis/layout.errHolds" = some 4 by kernel_rfl) (by kernel_rfl) Tryd.underlying38 rowErr Tryd.underlying118 Tryd.underlying140 rfl rfl Tryd.underlying9 e1 e2
  obtain ⟨a6, s6, c6, z6, x6, b6⟩ := laid_sent (ti := 38) hL.tail.tail.tail (show Tryd.prog.globalNamed "portcullis/layout.errLarge" = some 6 by kernel_rfl) (by kernel_rfl) Tryd.underlying38 rowErr Tryd.underlying118 Tryd.underlying140 rfl rfl Tryd.underlying9 e1 e2
  obtain ⟨a7, s7, c7, z7, x7, b7⟩ := laid_sent (ti := 38) hL.tail.tail.tail.tail (show Tryd.prog.globalNamed "portcullis/layout.errOut" = some 7 by kernel_rfl) (by kernel_rfl) Tryd.underlying38 rowErr Tryd.underlying118 Tryd.underlying140 rfl rfl Tryd.underlying9 e1 e2
  obtain ⟨a5, s5, c5, z5, x5, b5⟩ := laid_sent (ti := 38) hL.tail.tail.tail.tail.tail (show Tryd.prog.globalNamed "portcullis/layout.errVoid" = some 5 by kernel_rfl) (by kernel_rfl) Tryd.underlying38 rowErr Tryd.underlying118 Tryd.underlying140 rfl rfl Tryd.underlying9 e1 e2
  obtain ⟨a1, s1, c1, z1, x1, b1⟩ := laid_sent (ti := 38) hL.tail.tail.tail.tail.tail.tail (show Tryd.prog.globalNamed "portcullis/layout.errNumber" = some 1 by kernel_rfl) (by kernel_rfl) Tryd.underlying38 rowErr Tryd.underlying118 Tryd.underlying140 rfl rfl Tryd.underlying9 e1 e2
  obtain ⟨a2, s2, c2, z2, x2, b2⟩ := laid_sent (ti := 38) hL.tail.tail.tail.tail.tail.tail.tail (show Tryd.prog.globalNamed "portcullis/layout.errField" = some 2 by kernel_rfl) (by kernel_rfl) Tryd.underlying38 rowErr Tryd.underlying118 Tryd.underlying140 rfl rfl Tryd.underlying9 e1 e2
  obtain ⟨a8, s8, c8, z8, x8, b8⟩ := laid_sent (ti := 38) hL.tail.tail.tail.tail.tail.tail.tail.tail (show Tryd.prog.globalNamed "portcullis/layout.errOther" = some 8 by kernel_rfl) (by kernel_rfl) Tryd.underlying38 rowErr Tryd.underlying118 Tryd.underlying140 rfl rfl Tryd.underlying9 e1 e2
  let a : Nat → Addr := fun i => [a0, a1, a2, a3, a4, a5, a6, a7, a8].getD i a0
  have hz : ∀ i, i < 9 → ∃ s, W.cell? (a i) = some (.string s) ∧ s.data.toList = texts.getD i [] := fun i hi => match i, hi with
    | 0, _ => ⟨s0, z0, x0⟩
    | 1, _ => ⟨s1, z1, x1⟩
    | 2, _ => ⟨s2, z2, x2⟩
    | 3, _ => ⟨s3, z3, x3⟩
    | 4, _ => ⟨s4, z4, x4⟩
    | 5, _ => ⟨s5, z5, x5⟩
    | 6, _ => ⟨s6, z6, x6⟩
    | 7, _ => ⟨s7, z7, x7⟩
    | 8, _ => ⟨s8, z8, x8⟩
  have het := handle_of_laid hH
  refine ⟨a, fun i hi => ?_, fun i hi => ?_, fun i j hi hj hne e => ?_, het, World.block_lt_of_cell? W _ het⟩
  · exact match i, hi with
      | 0, _ => c0
      | 1, _ => c1
      | 2, _ => c2
      | 3, _ => c3
      | 4, _ => c4
      | 5, _ => c5
      | 6, _ => c6
      | 7, _ => c7
      | 8, _ => c8
  · exact match i, hi with
      | 0, _ => b0
      | 1, _ => b1
      | 2, _ => b2
      | 3, _ => b3
      | 4, _ => b4
      | 5, _ => b5
      | 6, _ => b6
      | 7, _ => b7
      | 8, _ => b8
  · obtain ⟨s, hs, ts⟩ := hz i hi
    obtain ⟨s', hs', ts'⟩ := hz j hj
    rw [e, hs'] at hs
    cases hs
    exact texts_ne i hi j hj hne (ts.symm.trans ts')
noncomputable def low : Nat := (World.holding Tryd.prog default ⟨#[], #[], []⟩).heap.size
/-- A world for the witness. -/
noncomputable def laidWorld (os : Os) : World :=
  let w0 := World.holding Tryd.prog os ⟨#[.cells #[.string ⟨(texts.getD 0 []).toArray⟩] 140, .cells #[.string ⟨(texts.getD 1 []).toArray⟩] 140, .cells #[.string ⟨(texts.getD 2 []).toArray⟩] 140, .cells #[.string ⟨(texts.getD 3 []).toArray⟩] 140, .cells #[.string ⟨(texts.getD 4 []).toArray⟩] 140, .cells #[.string ⟨(texts.getD 5 []).toArray⟩] 140, .cells #[.string ⟨(texts.getD 6 []).toArray⟩] 140, .cells #[.string ⟨(texts.getD 7 []).toArray⟩] 140, .cells #[.string ⟨(texts.getD 8 []).toArray⟩] 140], #[], []⟩
  { w0 with heap := ((((((((((w0.heap.modify 0 fun
      | .cells _ t frozen => .cells #[.iface 118 (.pointer (some ⟨low + 0, 0, none⟩))] t frozen
      | o => o).modify 1 fun
      | .cells _ t frozen => .cells #[.iface 118 (.pointer (some ⟨low + 1, 0, none⟩))] t frozen
      | o => o).modify 2 fun
      | .cells _ t frozen => .cells #[.iface 118 (.pointer (some ⟨low + 2, 0, none⟩))] t frozen
      | o => o).modify 3 fun
      | .cells _ t frozen => .cells #[.iface 118 (.pointer (some ⟨low + 3, 0, none⟩))] t frozen
      | o => o).modify 4 fun
      | .cells _ t frozen => .cells #[.iface 118 (.pointer (some ⟨low + 4, 0, none⟩))] t frozen
      | o => o).modify 5 fun
      | .cells _ t frozen => .cells #[.iface 118 (.pointer (some ⟨low + 5, 0, none⟩))] t frozen
      | o => o).modify 6 fun
      | .cells _ t frozen => .cells #[.iface 118 (.pointer (some ⟨low + 6, 0, none⟩))] t frozen
      | o => o).modify 7 fun
      | .cells _ t frozen => .cells #[.iface 118 (.pointer (some ⟨low + 7, 0, none⟩))] t frozen
      | o => o).modify 8 fun
      | .cells _ t frozen => .cells #[.iface 118 (.pointer (some ⟨low + 8, 0, none⟩))] t frozen
      | o => o).modify 9 fun
      | .cells _ t frozen => .cells #[.iface 94 (.agg #[.pointer (some ⟨10, 38, none⟩)])] t frozen
      | o => o) }
theorem laid_met (os : Os) (args : Array Value) : laidMetH Tryd.prog laidL ((laidWorld os).forCall (fun _ _ => 0) ⟨#[], args, []⟩).memory :=
  laidMetH_of_parts (laidMet_of_run' 8 (by kernel_rfl) (by kernel_rfl)) (by kernel_rfl)
end Go.Proofs.YthilkgfbaddjpaaDoor
