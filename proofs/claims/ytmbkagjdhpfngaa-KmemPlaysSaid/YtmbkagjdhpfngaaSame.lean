/-
  Same of two lists of regions that hold the same.
-/
import Derived.Test.YtmbkagjdhpfngaaPair
import Derived.Deep.QuietTactic
import Derived.BigQuiet
namespace Go.Proofs.Ytmbkagjdhpfngaa
open Go Go.RowKit Go.Maps
set_option linter.unusedVariables false
theorem own_form_any {w : World} {base : Nat} {e : TypeId} {s : Nat} {v : Value} {n : Nat} {xs : List Value} (h : w.ownsRow base e s v n xs) :
    ∃ A c, v = .slice A n c ∧ (0 < n → ∃ g, A = some ⟨g, 0, none⟩ ∧ ∀ j u, xs[j]? = some u → w.cell? ⟨g, j, none⟩ = some u) := by
  have hl := h.1
  rcases h.2 with ⟨rfl, rfl⟩ | ⟨g, cap, cur, rfl, hb, hg, h1, h2, h3, h4⟩
  · exact ⟨none, 0, rfl, fun h => by omega⟩
  · refine ⟨_, cap, rfl, fun _ => ⟨g, rfl, fun j u hu => ?_⟩⟩
    have := h.cells (g := g) rfl j u hu
    rwa [show (⟨g, 0, none⟩ : Addr).add j = ⟨g, j, none⟩ by unfold Addr.add; split <;> simp_all] at this
theorem cellsR_get (vs : Nat → Option RV) : ∀ (ss : List Nat) (k c : Nat) (hk : k < ss.length), c < 3 → (cellsR vs ss)[k * 3 + c]? = (regC ss[k] ((vs ss[k]).getD (0, [], false)))[c]?
  | [], k, c, hk, _ => by simp at hk
  | x :: r, k, c, hk, hc => by
    have e : cellsR vs (x :: r) = regC x ((vs x).getD (0, [], false)) ++ cellsR vs r := by simp [cellsR]
    have l3 : (regC x ((vs x).getD (0, [], false))).length = 3 := by simp [regC]
    rw [e]
    rcases k with _ | k
    · rw [List.getElem?_append_left (by omega)]; simp
    · rw [List.getElem?_append_right (by omega), l3, show (k + 1) * 3 + c - 3 = k * 3 + c by omega]
      exact cellsR_get vs r k c (by simpa using hk) hc
def RowOf (w : World) (A : Option Addr) (n : Nat) (N P : Nat → Int) (B : Nat → ByteArray) : Prop :=
  ∀ k, k < n → ∃ g, A = some ⟨g, 0, none⟩ ∧ w.cell? ⟨g, k * 3, none⟩ = some (.int .i64 (N k)) ∧ w.cell? ⟨g, k * 3 + 1, none⟩ = some (.int .i64 (P k)) ∧ w.cell? ⟨g, k * 3 + 2, none⟩ = some (.string (B k))
set_option maxRecDepth 100000 in
theorem xsame_any (n c c' : Nat) (A A' : Option Addr) (N P : Nat → Int) (B : Nat → ByteArray) (w : World) (hn : n ≤ 4096) (h : RowOf w A n N P B) (h' : RowOf w A' n N P B) :
    Calls Try.prog 6 #[.slice A n c, .slice A' n c'] w fun e w' => e = .returned (.bool true) ∧ Below w.heap.size w w' := by
  have H := Lib.hid h
  have H' := Lib.hid h'
  clear h h'
  go_enter Try.func6, Try.ntmps6
  go_wp2_with fail
  go_loopw [5] (fun i wr => ∃ k : Nat, k ≤ n ∧ i = .int .i64 k ∧ Below w.heap.size w wr ∧ ∀ p, wr.cell? p = w.cell? p) (fun i _ => n - (intOf i).toNat)
  case atStart => exact ⟨0, by omega, rfl, Below.refl _ _, fun _ => rfl⟩
  case round =>
    obtain ⟨k, hk, rfl, hb, hc⟩ := hrel
    have HB := Lib.hid hb
    have HC := Lib.hid hc
    by_cases hkn : k < n
    · obtain ⟨g, rfl, c0, c1, c2⟩ := H.out k hkn
      obtain ⟨g', rfl, d0, d1, d2⟩ := H'.out k hkn
      rw [← hc] at c0 c1 c2 d0 d1 d2
      clear hb hc
      have g1 : decide (k < n) = true := by simpa using hkn
      have i1 : (0 : Int) ≤ (k : Int) := by omega
      have i2 : (k : Int) < (n : Int) := by omega
      generalize N k = a0 at *
      generalize P k = a1 at *
      generalize B k = a2 at *
      go_wp2_with fail
      go_quiet (fail)
      go_wp2_with fail
      go_roundw
      case rel => exact ⟨k + 1, by omega, by go_num, HB.out.trans ⟨rfl, rfl, rfl, Nat.le_refl _, fun _ _ => rfl⟩, fun p => HC.out p⟩
      case measure => simp [intOf]; omega
    · have : k = n := by omega
      subst this
      clear hb hc
      have g1 : decide (k < k) = false := by simp
      go_wp2_with fail
      go_ret
      exact ⟨rfl, HB.out⟩
end Go.Proofs.Ytmbkagjdhpfngaa
