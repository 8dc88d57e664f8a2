/-
  Whether the instruction at a place may be, with all its slots.
-/
import Derived.Test.YticklgoegmobbaaDoorSPlace
import Derived.BigRegion
namespace Go.Proofs.YticklgoegmobbaaDoor
open Go Go.RowKit
set_option linter.unusedVariables false
set_option linter.unusedSimpArgs false
set_option maxRecDepth 100000
set_option maxHeartbeats 4000000 in
theorem tail_any (o d s f m o' d' s' f' m' : Int) (w : World) :
    Calls Tryd.prog 45 #[insV o d s f m, insV o' d' s' f' m'] w fun e w' => e = .returned (.bool (tailS ⟨o, d, s, f, m⟩ ⟨o', d', s', f', m'⟩)) ∧ Below w.heap.size w w' := by
  unfold tailS
  have CF := Lib.hid (fits_any o' d' s' f' m')
  unfold insV at CF ⊢
  have B0 : Hid (Below w.heap.size w ((w.alloc (.cells #[.int .i64 o, .int .i64 d, .int .i64 s, .int .i64 f, .int .i64 m] 39)).alloc (.cells #[.int .i64 o', .int .i64 d', .int .i64 s', .int .i64 f', .int .i64 m'] 39))) := ((Below.refl _ w).alloc (Nat.le_refl _) _).alloc (by simp) _
  cases h1 : (s == 1)
  · cases h2 : (o' == 0)
    · go_enter Tryd.func45, Tryd.ntmps45
      go_wp2_with fail
      go_ret
      exact ⟨rfl, B0.out⟩
    · cases h3 : (d' == 0)
      · go_enter Tryd.func45, Tryd.ntmps45
        go_wp2_with fail
        go_ret
        exact ⟨rfl, B0.out⟩
      · cases h4 : (s' == 0)
        · go_enter Tryd.func45, Tryd.ntmps45
          go_wp2_with fail
          go_ret
          exact ⟨rfl, B0.out⟩
        · cases h5 : (f' == 0)
          · go_enter Tryd.func45, Tryd.ntmps45
            go_wp2_with fail
            go_ret
            exact ⟨rfl, B0.out⟩
          · go_enter Tryd.func45, Tryd.ntmps45
            go_wp2_with (go_at_call 26; refine (CF.out _).mono ?_; rintro e w1 ⟨rfl, hb⟩; have HB := Lib.hid hb; clear hb)
            go_ret
            exact ⟨by simp, B0.out.trans (HB.out.mono B0.out.size)⟩
  · cases h2 : (o' == 0) <;> cases h3 : (d' == 0) <;> cases h4 : (s' == 0) <;> cases h5 : (f' == 0) <;> cases h6 : (m' == 0)
    all_goals
      go_enter Tryd.func45, Tryd.ntmps45
      go_wp2_with fail
      go_ret
      exact ⟨rfl, B0.out⟩
end Go.Proofs.YticklgoegmobbaaDoor
