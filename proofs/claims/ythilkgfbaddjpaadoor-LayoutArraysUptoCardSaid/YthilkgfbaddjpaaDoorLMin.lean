/-
  Layer 7: slices.Min over ints.
-/
import Derived.Test.YthilkgfbaddjpaaDoorLVisit
namespace Go.Proofs.YthilkgfbaddjpaaDoor
open Go Go.RowKit
set_option linter.unusedVariables false
set_option linter.unusedSimpArgs false
set_option maxRecDepth 100000
theorem min_mem (xs : List Nat) (m x : Nat) (hm : m ∈ xs) (hx : x ∈ xs) : ∃ y ∈ xs, (if x < m then (x : Int) else (m : Int)) = (y : Int) := by
  split
  · exact ⟨x, hx, rfl⟩
  · exact ⟨m, hm, rfl⟩
set_option maxHeartbeats 2000000 in
theorem min_any {w : World} {base : Nat} {v : Value} (xs : List Nat) (h0 : xs ≠ []) (hb : xs.length ≤ 8388608) (h : w.ownsRow base 3 1 v xs.length (natC xs)) :
    Calls Tryd.prog 30 #[v] w fun e w' => ∃ m : Nat, m ∈ xs ∧ e = .returned (.int .i64 (m : Int)) ∧ w = w' := by
  have hpos : 0 < xs.length := by
    cases xs with
    | nil => exact absurd rfl h0
    | cons a t => simp
  obtain ⟨P, c, rfl⟩ : ∃ P c, v = .slice (some ⟨P, 0, none⟩) xs.length c := by
    rcases h.2 with ⟨_, e⟩ | ⟨P, c, _, rfl, _⟩
    · omega
    · exact ⟨P, c, rfl⟩
  obtain ⟨x0, hx0⟩ : ∃ x, xs[0]? = some x := ⟨_, List.getElem?_eq_getElem hpos⟩
  have c0 : w.cell? ⟨P, 0, none⟩ = some (.int .i64 (x0 : Int)) := by rw [h.cellAt 0 (by omega)]; exact natC_get _ _ _ hx0
  have H := Lib.hid h
  have HX := Lib.hid (List.mem_of_getElem? hx0)
  have i1 : (0 : Int) < (xs.length : Int) := by omega
  have i2 : (xs.length : Int) ≤ 8388608 := by omega
  have g0 : decide (xs.length < 1) = false := by simp; omega
  have HP := Lib.hid hpos
  clear h h0 hb hx0
  go_enter Tryd.func30, Tryd.ntmps30
  go_wp2_with fail
  clear c0 g0
  go_loopw [3, 4] (fun u i wr => ∃ m k : Nat, m ∈ xs ∧ 1 ≤ k ∧ k ≤ xs.length ∧ u = .int .i64 (m : Int) ∧ i = .int .i64 (k : Int) ∧ wr = w) (fun _ i _ => xs.length - (intOf i).toNat)
  case atStart => exact ⟨x0, 1, HX.out, by omega, HP.out, rfl, rfl, rfl⟩
  case round =>
    obtain ⟨m, k, hm, hk1, hk, rfl, rfl, rfl⟩ := hrel
    by_cases hkn : k < xs.length
    · obtain ⟨x, hx⟩ : ∃ x, xs[k]? = some x := ⟨_, List.getElem?_eq_getElem hkn⟩
      have ck : wr.cell? ⟨P, k, none⟩ = some (.int .i64 (x : Int)) := by rw [H.out.cellAt k (by omega)]; exact natC_get _ _ _ hx
      obtain ⟨y, hy, hye⟩ := min_mem xs m x hm (List.mem_of_getElem? hx)
      have HY := Lib.hid hy
      have HYE := Lib.hid hye
      have HK : Hid (k < xs.length) := hkn
      have g1 : decide (k < xs.length) = true := by simpa using hkn
      have i3 : (k : Int) < (xs.length : Int) := by omega
      have i4 : (0 : Int) ≤ (k : Int) := by omega
      clear hkn hx hy hye hm hk1
      go_upto_region 6 with fail
      rw [HYE.out]
      go_wp2_with fail
      go_roundw
      case rel => exact ⟨y, k + 1, HY.out, by omega, HK.out, rfl, by go_num, trivial⟩
      case measure => have := HK.out; simp [intOf]; omega
    · have : k = xs.length := by omega
      subst this
      have g1 : decide (xs.length < xs.length) = false := by simp
      have HM := Lib.hid hm
      clear hm hkn hk1
      go_wp2_with fail
      go_ret
      exact ⟨m, HM.out, rfl, rfl⟩
end Go.Proofs.YthilkgfbaddjpaaDoor
