/-
  Package queue: which specs may be, there and in the reference; New.
-/
import Derived.Test.YtgmombgjjmgooaaQMap
namespace Go.Proofs.Ytgmombgjjmgooaa
open Go Go.RowKit
set_option linter.unusedVariables false
set_option linter.unusedSimpArgs false
set_option maxRecDepth 100000
abbrev specV (k key v mx : Int) : Value := .agg #[.int .i64 k, .int .i64 key, .int .i64 v, .int .i64 mx]
abbrev specC (k key v mx : Int) : Array Value := #[.int .i64 k, .int .i64 key, .int .i64 v, .int .i64 mx]
def fitsB (k key v mx : Int) : Bool := (k == 22 || k == 23) && (key == 0 && (decide (1 ≤ v) && (decide (v ≤ 4096) && (decide (1 ≤ mx) && decide (mx ≤ 4096)))))
set_option maxHeartbeats 2000000 in
theorem fits_any (k key v mx : Int) (w : World) : Calls Try.prog 17 #[specV k key v mx] w fun e w' => e = .returned (.bool (fitsB k key v mx)) ∧ Below w.heap.size w w' := by
  have B := Lib.hid (below_alloc w (.cells #[.int .i64 k, .int .i64 key, .int .i64 v, .int .i64 mx] 23))
  cases h1 : (k == 22)
  · cases h2 : (k == 23)
    · rw [show fitsB k key v mx = false by simp only [fitsB, h1, h2]; rfl]
      go_enter Try.func17, Try.ntmps17
      go_wp2_with fail
      go_ret
      exact ⟨rfl, B.out⟩
    · cases h3 : (key == 0)
      · rw [show fitsB k key v mx = false by simp only [fitsB, h1, h2, h3]; rfl]
        go_enter Try.func17, Try.ntmps17
        go_wp2_with fail
        go_ret
        exact ⟨rfl, B.out⟩
      · cases h4 : decide (1 ≤ v)
        · rw [show fitsB k key v mx = false by simp only [fitsB, h1, h2, h3, h4]; rfl]
          go_enter Try.func17, Try.ntmps17
          go_wp2_with fail
          go_ret
          exact ⟨rfl, B.out⟩
        · cases h5 : decide (v ≤ 4096)
          · rw [show fitsB k key v mx = false by simp only [fitsB, h1, h2, h3, h4, h5]; rfl]
            go_enter Try.func17, Try.ntmps17
            go_wp2_with fail
            go_ret
            exact ⟨rfl, B.out⟩
          · cases h6 : decide (1 ≤ mx)
            · rw [show fitsB k key v mx = false by simp only [fitsB, h1, h2, h3, h4, h5, h6]; rfl]
              go_enter Try.func17, Try.ntmps17
              go_wp2_with fail
              go_ret
              exact ⟨rfl, B.out⟩
            · cases h7 : decide (mx ≤ 4096)
              · rw [show fitsB k key v mx = false by simp only [fitsB, h1, h2, h3, h4, h5, h6, h7]; rfl]
                go_enter Try.func17, Try.ntmps17
                go_wp2_with fail
                go_ret
                exact ⟨rfl, B.out⟩
              · rw [show fitsB k key v mx = true by simp only [fitsB, h1, h2, h3, h4, h5, h6, h7]; rfl]
                go_enter Try.func17, Try.ntmps17
                go_wp2_with fail
                go_ret
                exact ⟨rfl, B.out⟩
  · cases h3 : (key == 0)
    · rw [show fitsB k key v mx = false by simp only [fitsB, h1, h3]; rfl]
      go_enter Try.func17, Try.ntmps17
      go_wp2_with fail
      go_ret
      exact ⟨rfl, B.out⟩
    · cases h4 : decide (1 ≤ v)
      · rw [show fitsB k key v mx = false by simp only [fitsB, h1, h3, h4]; rfl]
        go_enter Try.func17, Try.ntmps17
        go_wp2_with fail
        go_ret
        exact ⟨rfl, B.out⟩
      · cases h5 : decide (v ≤ 4096)
        · rw [show fitsB k key v mx = false by simp only [fitsB, h1, h3, h4, h5]; rfl]
          go_enter Try.func17, Try.ntmps17
          go_wp2_with fail
          go_ret
          exact ⟨rfl, B.out⟩
        · cases h6 : decide (1 ≤ mx)
          · rw [show fitsB k key v mx = false by simp only [fitsB, h1, h3, h4, h5, h6]; rfl]
            go_enter Try.func17, Try.ntmps17
            go_wp2_with fail
            go_ret
            exact ⟨rfl, B.out⟩
          · cases h7 : decide (mx ≤ 4096)
            · rw [show fitsB k key v mx = false by simp only [fitsB, h1, h3, h4, h5, h6, h7]; rfl]
              go_enter Try.func17, Try.ntmps17
              go_wp2_with fail
              go_ret
              exact ⟨rfl, B.out⟩
            · rw [show fitsB k key v mx = true by simp only [fitsB, h1, h3, h4, h5, h6, h7]; rfl]
              go_enter Try.func17, Try.ntmps17
              go_wp2_with fail
              go_ret
              exact ⟨rfl, B.out⟩
set_option maxHeartbeats 2000000 in
theorem may_any (k key v mx : Int) (w : World) : Calls Try.prog 19 #[specV k key v mx] w fun e w' => e = .returned (.bool (fitsB k key v mx)) ∧ Below w.heap.size w w' := by
  have B := Lib.hid (below_alloc w (.cells #[.int .i64 k, .int .i64 key, .int .i64 v, .int .i64 mx] 23))
  cases h1 : (k == 22)
  · cases h2 : (k == 23)
    · rw [show fitsB k key v mx = false by simp only [fitsB, h1, h2]; rfl]
      go_enter Try.func19, Try.ntmps19
      go_wp2_with fail
      go_ret
      exact ⟨rfl, B.out⟩
    · cases h3 : (key == 0)
      · rw [show fitsB k key v mx = false by simp only [fitsB, h1, h2, h3]; rfl]
        go_enter Try.func19, Try.ntmps19
        go_wp2_with fail
        go_ret
        exact ⟨rfl, B.out⟩
      · cases h4 : decide (1 ≤ v)
        · rw [show fitsB k key v mx = false by simp only [fitsB, h1, h2, h3, h4]; rfl]
          go_enter Try.func19, Try.ntmps19
          go_wp2_with fail
          go_ret
          exact ⟨rfl, B.out⟩
        · cases h5 : decide (v ≤ 4096)
          · rw [show fitsB k key v mx = false by simp only [fitsB, h1, h2, h3, h4, h5]; rfl]
            go_enter Try.func19, Try.ntmps19
            go_wp2_with fail
            go_ret
            exact ⟨rfl, B.out⟩
          · cases h6 : decide (1 ≤ mx)
            · rw [show fitsB k key v mx = false by simp only [fitsB, h1, h2, h3, h4, h5, h6]; rfl]
              go_enter Try.func19, Try.ntmps19
              go_wp2_with fail
              go_ret
              exact ⟨rfl, B.out⟩
            · cases h7 : decide (mx ≤ 4096)
              · rw [show fitsB k key v mx = false by simp only [fitsB, h1, h2, h3, h4, h5, h6, h7]; rfl]
                go_enter Try.func19, Try.ntmps19
                go_wp2_with fail
                go_ret
                exact ⟨rfl, B.out⟩
              · rw [show fitsB k key v mx = true by simp only [fitsB, h1, h2, h3, h4, h5, h6, h7]; rfl]
                go_enter Try.func19, Try.ntmps19
                go_wp2_with fail
                go_ret
                exact ⟨rfl, B.out⟩
  · cases h3 : (key == 0)
    · rw [show fitsB k key v mx = false by simp only [fitsB, h1, h3]; rfl]
      go_enter Try.func19, Try.ntmps19
      go_wp2_with fail
      go_ret
      exact ⟨rfl, B.out⟩
    · cases h4 : decide (1 ≤ v)
      · rw [show fitsB k key v mx = false by simp only [fitsB, h1, h3, h4]; rfl]
        go_enter Try.func19, Try.ntmps19
        go_wp2_with fail
        go_ret
        exact ⟨rfl, B.out⟩
      · cases h5 : decide (v ≤ 4096)
        · rw [show fitsB k key v mx = false by simp only [fitsB, h1, h3, h4, h5]; rfl]
          go_enter Try.func19, Try.ntmps19
          go_wp2_with fail
          go_ret
          exact ⟨rfl, B.out⟩
        · cases h6 : decide (1 ≤ mx)
          · rw [show fitsB k key v mx = false by simp only [fitsB, h1, h3, h4, h5, h6]; rfl]
            go_enter Try.func19, Try.ntmps19
            go_wp2_with fail
            go_ret
            exact ⟨rfl, B.out⟩
          · cases h7 : decide (mx ≤ 4096)
            · rw [show fitsB k key v mx = false by simp only [fitsB, h1, h3, h4, h5, h6, h7]; rfl]
              go_enter Try.func19, Try.ntmps19
              go_wp2_with fail
              go_ret
              exact ⟨rfl, B.out⟩
            · rw [show fitsB k key v mx = true by simp only [fitsB, h1, h3, h4, h5, h6, h7]; rfl]
              go_enter Try.func19, Try.ntmps19
              go_wp2_with fail
              go_ret
              exact ⟨rfl, B.out⟩
end Go.Proofs.Ytgmombgjjmgooaa
