/-
  The law ShapeTails, walked.
-/
import Derived.Test.YticklgoegmobbaaDoorSReaches2
import Derived.Test.YticklgoegmobbaaDoorSAwake
import Derived.Deep.QuietTactic
import Derived.BigQuiet
namespace Go.Proofs.YticklgoegmobbaaDoor
open Go Go.RowKit
set_option linter.unusedVariables false
set_option maxRecDepth 100000
def cellsAll (X : Nat → Slot) (n : Nat) : List Value := (List.range n).flatMap fun k => (X k).cells
theorem cellsAll_succ (X : Nat → Slot) (n : Nat) : cellsAll X (n + 1) = cellsAll X n ++ (X n).cells := by simp [cellsAll, List.range_succ]
theorem cellsAll_length (X : Nat → Slot) (n : Nat) : (cellsAll X n).length = n * 5 := by
  induction n with
  | zero => rfl
  | succ n ih => rw [cellsAll_succ, List.length_append, ih]; simp [Slot.cells]; omega
theorem cellsAll_get (X : Nat → Slot) : ∀ (n k j : Nat), k < n → j < 5 → (cellsAll X n)[k * 5 + j]? = (X k).cells[j]?
  | 0, k, j, hk, _ => by omega
  | n + 1, k, j, hk, hj => by
    rw [cellsAll_succ]
    have hl := cellsAll_length X n
    rcases Nat.lt_or_ge k n with h | h
    · rw [List.getElem?_append_left (by omega)]
      exact cellsAll_get X n k j h hj
    · have : k = n := by omega
      subst this
      rw [List.getElem?_append_right (by omega), show k * 5 + j - (cellsAll X k).length = j by omega]
theorem cellsAll_one (X : Nat → Slot) (n : Nat) (u : Value) (h : u ∈ cellsAll X n) : u.oneCell' = true := by
  simp only [cellsAll, List.mem_flatMap, List.mem_range, Slot.cells, List.mem_cons, List.not_mem_nil, or_false] at h
  obtain ⟨k, _, h⟩ := h
  rcases h with rfl | rfl | rfl | rfl | rfl <;> rfl
theorem snoc_cells (X : Nat → Slot) (n : Nat) (y : Slot) : cellsAll (snoc X n y) (n + 1) = cellsAll X n ++ y.cells := by
  rw [cellsAll_succ, snoc_at]
  congr 1
  unfold cellsAll
  exact congrArg List.flatten (List.map_congr_left fun i hi => by rw [snoc_lt (List.mem_range.1 hi)])
theorem own_form_any {w : World} {base : Nat} {e : TypeId} {s : Nat} {v : Value} {n : Nat} {xs : List Value} (h : w.ownsRow base e s v n xs) :
    ∃ A c, v = .slice A n c ∧ (0 < n → ∃ g, A = some ⟨g, 0, none⟩ ∧ g < w.heap.size ∧ ∀ j u, xs[j]? = some u → w.cell? ⟨g, j, none⟩ = some u) := by
  rcases h.2 with ⟨rfl, rfl⟩ | ⟨g, cap, cur, rfl, hb, hg, h1, h2, h3, h4⟩
  · exact ⟨none, 0, rfl, fun h => by omega⟩
  · refine ⟨_, cap, rfl, fun _ => ⟨g, rfl, ?_, fun j u hu => ?_⟩⟩
    · rcases Nat.lt_or_ge g w.heap.size with hlt | hge
      · exact hlt
      · rw [Array.getElem?_eq_none hge] at hg; cases hg
    · have := h.cells (g := g) rfl j u hu
      rwa [show (⟨g, 0, none⟩ : Addr).add j = ⟨g, j, none⟩ by unfold Addr.add; split <;> simp_all] at this
theorem slots_of_own {w : World} {base n : Nat} {v : Value} {X : Nat → Slot} (h : w.ownsRow base 39 5 v n (cellsAll X n)) : ∃ A c, v = .slice A n c ∧ Slots w A n X := by
  obtain ⟨A, c, rfl, hc⟩ := own_form_any h
  refine ⟨A, c, rfl, fun i hi => ?_⟩
  obtain ⟨g, rfl, hg, hcell⟩ := hc (by omega)
  refine ⟨g, 0, rfl, hg, ?_⟩
  rw [Nat.zero_add]
  exact ⟨hcell _ _ (cellsAll_get X n i 0 hi (by omega)), hcell _ _ (cellsAll_get X n i 1 hi (by omega)), hcell _ _ (cellsAll_get X n i 2 hi (by omega)), hcell _ _ (cellsAll_get X n i 3 hi (by omega)), hcell _ _ (cellsAll_get X n i 4 hi (by omega))⟩
theorem infoS : (Tryd.prog.info? 39).map (fun i => (i.zero, i.size, i.bytes)) = some (some (.agg #[.int .i64 0, .int .i64 0, .int .i64 0, .int .i64 0, .int .i64 0]), 5, 40) := by kernel_rfl
/-- An append of a list of slots that is not nil, to a row of the call's own. -/
theorem append_slots {w0 w : World} {v : Value} {n m c : Nat} {xs : List Value} {ad : Addr} {Y : Nat → Slot} (hb : Below w0.heap.size w0 w) (ho : w.ownsRow w0.heap.size 39 5 v n xs) (hY : Slots w (some ad) m Y) (hn : n + m ≤ 2097152) :
    ∃ v' w', (Builtin.append_ #[22, 22] 22 #[v, .slice (some ad) m c]).run Tryd.prog w = .ok v' w' ∧ w'.ownsRow w0.heap.size 39 5 v' (n + m) (xs ++ cellsAll Y m) ∧ Below w0.heap.size w0 w' := by
  obtain ⟨i0, hi, hz0, hz1, hz2⟩ := info_parts infoS
  obtain ⟨v', w', hr, h1, h2, _, _⟩ := run_append_own_at (P := Tryd.prog) w w0.heap.size 22 22 39 i0 (.agg #[.int .i64 0, .int .i64 0, .int .i64 0, .int .i64 0, .int .i64 0]) 5 40 Tryd.underlying22 hi hz0 hz1 hz2 rfl (by decide) v n xs ho ad m c (cellsAll Y m) (cellsAll_length Y m) (fun j u hj => by
    have hlt : j < m * 5 := by
      have := (List.getElem?_eq_some_iff.1 hj).1
      rwa [cellsAll_length] at this
    obtain ⟨b, off, e, _, c0, c1, c2, c3, c4⟩ := hY (j / 5) (by omega)
    obtain rfl := Option.some.inj e
    rw [Go.WideShapes.add_plain]
    have e5 : j = j / 5 * 5 + j % 5 := by omega
    rw [e5, cellsAll_get Y m (j / 5) (j % 5) (by omega) (by omega)] at hj
    have hr : j % 5 = 0 ∨ j % 5 = 1 ∨ j % 5 = 2 ∨ j % 5 = 3 ∨ j % 5 = 4 := by omega
    rcases hr with h | h | h | h | h <;> rw [h] at hj <;> simp only [Slot.cells, List.getElem?_cons_zero, List.getElem?_cons_succ, Option.some.injEq] at hj <;> subst hj
    · rw [show off + j = off + j / 5 * 5 by omega]; exact c0
    · rw [show off + j = off + j / 5 * 5 + 1 by omega]; exact c1
    · rw [show off + j = off + j / 5 * 5 + 2 by omega]; exact c2
    · rw [show off + j = off + j / 5 * 5 + 3 by omega]; exact c3
    · rw [show off + j = off + j / 5 * 5 + 4 by omega]; exact c4) (cellsAll_one Y m) (by unfold maxLen; omega) (by omega) hb.size
  exact ⟨v', w', hr, h1, hb.grown h2 hb.size (fun k e => (ho.lt k e).1)⟩
set_option maxHeartbeats 2000000 in
theorem tails_bad (A : Option Addr) (n c k : Nat) (X : Nat → Slot) (w : World) (h : Slots w A n X) (hS : Sizes w) (hk : chk X n = some k) :
    Calls Tryd.prog 6 #[.slice A n c] w fun e w' => e = .returned (.bool true) ∧ Below w.heap.size w w' := by
  have CC := Lib.hid (check_any A n c X w h hS)
  have he : chkE X n = 32 := by unfold chkE; rw [hk]; rfl
  rw [he] at CC
  have CA := Lib.hid awake_any
  have HS := Lib.hid hS
  clear h hS hk he
  go_enter Tryd.func6, Tryd.ntmps6
  go_wp2_with (first
    | (go_at_call 7; refine CC.out.mono ?_; rintro e w1 ⟨rfl, hb⟩; have B1 := Lib.hid hb; clear hb)
    | (go_at_call 12; refine (CA.out w1 (HS.out.below B1.out)).mono ?_; rintro e w3 ⟨rfl, hb⟩; have B3 : Hid (Below w.heap.size w w3) := B1.out.trans (hb.mono B1.out.size); clear hb))
  go_ret
  exact ⟨rfl, B3.out⟩
set_option maxHeartbeats 2000000 in
theorem tails_long (A : Option Addr) (n c : Nat) (X : Nat → Slot) (w : World) (h : Slots w A n X) (hS : Sizes w) (hg : Good X n) (hn : 4000 ≤ n) :
    Calls Tryd.prog 6 #[.slice A n c] w fun e w' => e = .returned (.bool true) ∧ Below w.heap.size w w' := by
  have CC := Lib.hid (check_any A n c X w h hS)
  have he : chkE X n = 0 := by unfold chkE; rw [chk_none.2 hg]; rfl
  rw [he] at CC
  have CA := Lib.hid awake_any
  have HS := Lib.hid hS
  have g1 : decide ((4000 : Int) ≤ (n : Int)) = true := by simp; omega
  clear h hS hg he hn
  go_enter Tryd.func6, Tryd.ntmps6
  go_wp2_with (first
    | (go_at_call 7; refine CC.out.mono ?_; rintro e w1 ⟨rfl, hb⟩; have B1 := Lib.hid hb; clear hb)
    | (go_at_call 12; refine (CA.out w1 (HS.out.below B1.out)).mono ?_; rintro e w3 ⟨rfl, hb⟩; have B3 : Hid (Below w.heap.size w w3) := B1.out.trans (hb.mono B1.out.size); clear hb))
  go_ret
  exact ⟨rfl, B3.out⟩
end Go.Proofs.YticklgoegmobbaaDoor
