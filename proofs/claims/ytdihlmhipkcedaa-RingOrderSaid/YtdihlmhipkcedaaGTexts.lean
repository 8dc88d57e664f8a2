/-
  Layer 12: texts: two equal rows of texts are told to be so.
-/
import Derived.Test.YtdihlmhipkcedaaGNone
namespace Go.Proofs.Ytdihlmhipkcedaa
open Go Go.RowKit Go.Maps
set_option linter.unusedVariables false
set_option linter.unusedSimpArgs false
set_option maxRecDepth 100000
/-- The texts of L lie behind A. -/
def RowS (w : World) (A : Option Addr) (L : List ByteArray) : Prop := ∀ i s, L[i]? = some s → ∃ b, A = some ⟨b, 0, none⟩ ∧ b < w.heap.size ∧ w.cell? ⟨b, i, none⟩ = some (.string s)
theorem RowS.below {w w' : World} {A : Option Addr} {L : List ByteArray} (h : RowS w A L) (hb : Below w.heap.size w w') : RowS w' A L := by
  intro i s hi
  obtain ⟨b, rfl, h1, h2⟩ := h i s hi
  exact ⟨b, rfl, Nat.lt_of_lt_of_le h1 hb.size, (hb.cell (p := ⟨b, i, none⟩) h1).trans h2⟩
theorem strs_row {w : World} {base : Nat} {V : Value} {L : List ByteArray} (h : Strs w base V L) : ∃ A c, V = .slice A L.length c ∧ RowS w A L := by
  rcases strs_form h with ⟨rfl, rfl⟩ | ⟨g, c, rfl, _, _, _, hlt, hc⟩
  · exact ⟨none, 0, rfl, fun i s hi => by simp at hi⟩
  · exact ⟨_, c, rfl, fun i s hi => ⟨g, rfl, hlt, hc i s hi⟩⟩
set_option maxHeartbeats 1000000 in
theorem texts_same {w : World} {A A' : Option Addr} {c c' : Nat} {L : List ByteArray} (h : RowS w A L) (h' : RowS w A' L) (hl : L.length ≤ 1048576) :
    Calls Try.prog 10 #[.slice A L.length c, .slice A' L.length c'] w fun e w' => e = .returned (.bool true) ∧ Below w.heap.size w w' := by
  have H := Lib.hid h; have H' := Lib.hid h'
  obtain ⟨n, hn⟩ : ∃ n, L.length = n := ⟨_, rfl⟩
  have HN := Lib.hid hn
  rw [hn] at hl ⊢
  clear h h' hn
  go_enter Try.func10, Try.ntmps10
  go_wp2_with fail
  go_loopw [5] (fun i wr => ∃ k : Nat, k ≤ n ∧ i = .int .i64 k ∧ Below w.heap.size w wr) (fun i _ => n - (intOf i).toNat)
  case atStart => exact ⟨0, by omega, rfl, Below.refl _ _⟩
  case round =>
    obtain ⟨k, hk, rfl, hb⟩ := hrel
    have HB := Lib.hid hb
    clear hb
    by_cases hkn : k < n
    · have hkl : k < L.length := by rw [HN.out]; exact hkn
      obtain ⟨b, rfl, hb1, hb2⟩ := (H.out.below HB.out) k L[k] (List.getElem?_eq_getElem hkl)
      obtain ⟨b', rfl, hb1', hb2'⟩ := (H'.out.below HB.out) k L[k] (List.getElem?_eq_getElem hkl)
      generalize L[k] = s at *
      clear hb1 hb1' hkl
      have g0 : (0 : Int) ≤ (k : Int) := by omega
      have g1 : (k : Int) < (n : Int) := by omega
      go_upto_region 6 with fail
      go_quiet (fail)
      go_wp2_with fail
      go_roundw
      case rel => exact ⟨k + 1, by omega, by go_num, below_then HB.out (below_drewN wr nq)⟩
      case measure => simp [intOf]; omega
    · have : k = n := by omega
      subst this
      go_wp2_with fail
      go_ret
      exact ⟨rfl, HB.out⟩
end Go.Proofs.Ytdihlmhipkcedaa
