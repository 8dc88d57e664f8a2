/-
  Layer 7: the errors of package layout: where they lie, their numbers, the place that a fault tells.
-/
import Derived.Test.YthilkgfbaddjpaaDoorLAlone
import Derived.Test.YthilkgfbaddjpaaDoorLAs
namespace Go.Proofs.YthilkgfbaddjpaaDoor
open Go Go.RowKit
set_option linter.unusedVariables false
set_option linter.unusedSimpArgs false
set_option maxRecDepth 100000
abbrev sent (a : Nat → Addr) (i : Nat) : Value := .iface 118 (.pointer (some (a i)))
/-- The variables: 0 errMany, 1 errNumber, 2 errField, 3 errAlone, 4 errHolds, 5 errVoid, 6 errLarge, 7 errOut, 8 errOther, 9 errors' errorType. -/
structure Env (w : World) (a : Nat → Addr) : Prop where
  cell : ∀ i, i < 9 → w.cell? ⟨i, 0, none⟩ = some (sent a i)
  blk : ∀ i, i < 9 → ∃ cs t, w.heap[(a i).block]? = some (.cells cs t (0, 0))
  ne : ∀ i j, i < 9 → j < 9 → i ≠ j → a i ≠ a j
  et : w.cell? ⟨9, 0, none⟩ = some (.iface 94 (.agg #[.pointer (some ⟨10, 38, none⟩)]))
  lt : 9 < w.heap.size
theorem Env.below {w w' : World} {a : Nat → Addr} (h : Env w a) (hb : Below w.heap.size w w') : Env w' a := by
  have hl := h.lt
  refine ⟨fun i hi => ?_, fun i hi => ?_, h.ne, ?_, Nat.lt_of_lt_of_le hl hb.size⟩
  · rw [hb.cell (p := ⟨i, 0, none⟩) (by simp only; omega)]; exact h.cell i hi
  · obtain ⟨cs, t, hc⟩ := h.blk i hi
    have hlt : (a i).block < w.heap.size := by
      rcases Nat.lt_or_ge (a i).block w.heap.size with hlt | hge
      · exact hlt
      · rw [Array.getElem?_eq_none hge] at hc; cases hc
    exact ⟨cs, t, (hb.block _ hlt).trans hc⟩
  · rw [hb.cell (p := ⟨9, 0, none⟩) (by simp only; omega)]; exact h.et
def codeOf (i : Nat) : Int := if i = 1 then 1 else if i = 2 then 4 else 41
/-- A value that is an error, and its number. -/
inductive IsErr (w : World) (a : Nat → Addr) : Value → Int → Prop
  | nil : IsErr w a .nilIface 0
  | sent (i : Nat) (hi : i < 9) : IsErr w a (sent a i) (codeOf i)
  | fault (p : Nat) (k : Int) (i : Nat) (hi : i < 9) (h1 : i ≠ 1) (h2 : i ≠ 2) (hb : Blk w p 74 #[.int .i64 k, Go.Proofs.YthilkgfbaddjpaaDoor.sent a i]) : IsErr w a (.iface 72 (.pointer (some ⟨p, 0, none⟩))) 41
theorem isE_other {w : World} {a : Nat → Addr} (h : Env w a) (i j : Nat) (hi : i < 9) (hj : j < 9) (hne : i ≠ j) :
    Calls Tryd.prog 22 #[sent a i, sent a j] w fun e w' => e = .returned (.bool false) ∧ w = w' := by
  obtain ⟨c1, t1, k1⟩ := h.blk i hi
  obtain ⟨c2, t2, k2⟩ := h.blk j hj
  exact is_other (a i) (a j) c1 c2 t1 t2 w (h.ne i j hi hj hne) k1 k2
theorem isF_other {w : World} {a : Nat → Addr} (h : Env w a) (p : Nat) (k : Int) (i j : Nat) (hi : i < 9) (hj : j < 9) (hne : i ≠ j) (hb : Blk w p 74 #[.int .i64 k, sent a i]) :
    Calls Tryd.prog 22 #[.iface 72 (.pointer (some ⟨p, 0, none⟩)), sent a j] w fun e w' => e = .returned (.bool false) ∧ w = w' := by
  obtain ⟨c1, t1, k1⟩ := h.blk i hi
  obtain ⟨c2, t2, k2⟩ := h.blk j hj
  exact is_fault_other p 0 (a i) (a j) c1 c2 t1 t2 w (hb.cell 1) (h.ne i j hi hj hne) k1 k2
set_option maxHeartbeats 2000000 in
theorem errno_any {w : World} {a : Nat → Addr} (h : Env w a) {v : Value} {c : Int} (hv : IsErr w a v c) :
    Calls Tryd.prog 10 #[v] w fun e w' => e = .returned (.int .i64 c) ∧ w = w' := by
  have g1 : w.cell? ⟨1, 0, none⟩ = some (sent a 1) := h.cell 1 (by decide)
  have g2 : w.cell? ⟨2, 0, none⟩ = some (sent a 2) := h.cell 2 (by decide)
  have HE := Lib.hid h
  clear h
  cases hv with
  | nil =>
    go_enter Tryd.func10, Tryd.ntmps10
    go_wp2_with fail
    go_ret
    exact ⟨rfl, rfl⟩
  | sent i hi =>
    have HI := Lib.hid hi
    clear hi
    by_cases i1 : i = 1
    · subst i1
      rw [show codeOf 1 = 1 from rfl]
      go_enter Tryd.func10, Tryd.ntmps10
      go_wp2_with (go_at_call 22; refine (is_same (a 1) _).mono ?_; rintro e w1 ⟨rfl, rfl⟩)
      go_ret
      exact ⟨rfl, rfl⟩
    · have C1 := Lib.hid (isE_other HE.out i 1 HI.out (by decide) i1)
      by_cases i2 : i = 2
      · subst i2
        rw [show codeOf 2 = 4 from rfl]
        clear i1
        go_enter Tryd.func10, Tryd.ntmps10
        go_wp2_with fail
        go_at_call 22
        refine C1.out.mono ?_
        rintro e w1 ⟨rfl, rfl⟩
        go_wp2_with (go_at_call 22; refine (is_same (a 2) _).mono ?_; rintro e w1 ⟨rfl, rfl⟩)
        go_ret
        exact ⟨rfl, rfl⟩
      · have C2 := Lib.hid (isE_other HE.out i 2 HI.out (by decide) i2)
        have hc : codeOf i = 41 := by unfold codeOf; rw [if_neg i1, if_neg i2]
        rw [hc]
        clear i1 i2 hc
        go_enter Tryd.func10, Tryd.ntmps10
        go_wp2_with fail
        go_at_call 22
        refine C1.out.mono ?_
        rintro e w1 ⟨rfl, rfl⟩
        go_wp2_with (go_at_call 22; refine C2.out.mono ?_; rintro e w1 ⟨rfl, rfl⟩)
        go_ret
        exact ⟨rfl, rfl⟩
  | fault p k i hi h1 h2 hb =>
    have C1 := Lib.hid (isF_other HE.out p k i 1 hi (by decide) h1 hb)
    have C2 := Lib.hid (isF_other HE.out p k i 2 hi (by decide) h2 hb)
    clear h1 h2 hb hi
    go_enter Tryd.func10, Tryd.ntmps10
    go_wp2_with fail
    go_at_call 22
    refine C1.out.mono ?_
    rintro e w1 ⟨rfl, rfl⟩
    go_wp2_with (go_at_call 22; refine C2.out.mono ?_; rintro e w1 ⟨rfl, rfl⟩)
    go_ret
    exact ⟨rfl, rfl⟩
set_option maxHeartbeats 2000000 in
theorem place_fault {w : World} {a : Nat → Addr} (h : Env w a) (p : Nat) (k : Int) (u : Value) (hb : Blk w p 74 #[.int .i64 k, u]) :
    Calls Tryd.prog 25 #[.iface 72 (.pointer (some ⟨p, 0, none⟩))] w fun e w' => e = .returned (.int .i64 k) ∧ Below w.heap.size w w' := by
  have B1 : Below w.heap.size w (w.alloc (.cells #[.pointer none] 72)) := (Below.refl _ w).alloc (Nat.le_refl _) _
  have C := Lib.hid (as_fault p w.heap.size (.pointer none) (w.alloc (.cells #[.pointer none] 72)) (Blk.new _ _ _) (h.below B1).et)
  have HB := Lib.hid (hb.alloc (.cells #[.pointer none] 72))
  have HP : Hid (p < w.heap.size) := hb.lt
  have B := Lib.hid B1
  clear hb B1 h
  go_enter Tryd.func25, Tryd.ntmps25
  go_wp2_with fail
  go_at_call 36
  refine C.out.mono ?_
  rintro e w1 ⟨rfl, hT, hk⟩
  have c0 : w1.cell? ⟨w.heap.size, 0, none⟩ = some (.pointer (some ⟨p, 0, none⟩)) := hT.cell 0
  have c1 : w1.cell? ⟨p, 0, none⟩ = some (.int .i64 k) := (HB.out.keeps hk (by have := HP.out; omega)).cell 0
  have B2 : Hid (Below w.heap.size w w1) := B.out.trans (hk.below (B := w.heap.size) (fun b e => by omega) (by simp))
  clear hT hk
  go_wp2_with fail
  go_ret
  exact ⟨rfl, B2.out⟩
end Go.Proofs.YthilkgfbaddjpaaDoor
