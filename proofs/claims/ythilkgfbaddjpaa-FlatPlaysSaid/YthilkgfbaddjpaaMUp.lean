/-
  The reference of layer 8: Next and Update on any key.
-/
import Derived.Test.YthilkgfbaddjpaaMAsk
namespace Go.Proofs.Ythilkgfbaddjpaa
open Go Go.RowKit Go.Maps
set_option linter.unusedVariables false
set_option linter.unusedSimpArgs false
set_option maxRecDepth 100000
section
variable {w : World} {bx y : Nat} {k v c : Int} {mx : Nat} {V : Value}
theorem ynext_gone (s : ByteArray) (hy : Blk w y 79 (refC bx k v mx c V true)) :
    Calls Try.prog 36 #[.pointer (some ⟨y, 0, none⟩), .string s] w fun e w' => e = .returned (.tuple #[.string ⟨#[]⟩, .int .i64 1]) ∧ w = w' := by
  have c7 : w.cell? ⟨y, 7, none⟩ = some (.bool true) := hy.cell 7
  clear hy
  go_enter Try.func36, Try.ntmps36
  go_wp2_with fail
  go_ret2
  exact ⟨rfl, rfl⟩
theorem ynext_start (s : ByteArray) (hy : Blk w y 79 (refC bx k v mx c V false)) (h : idx s < 0 ∨ (mx : Int) ≤ idx s) :
    Calls Try.prog 36 #[.pointer (some ⟨y, 0, none⟩), .string s] w fun e w' => e = .returned (.tuple #[.string (bstr (wb 0 4)), .int .i64 0]) ∧ Below w.heap.size w w' := by
  have CI := Lib.hid (index_any (.pointer (some ⟨y, 0, none⟩)) s)
  have c7 : w.cell? ⟨y, 7, none⟩ = some (.bool false) := hy.cell 7
  have c4 : w.cell? ⟨y, 4, none⟩ = some (.int .i64 mx) := hy.cell 4
  have CL := Lib.hid (le_4 0 (by decide) w)
  have h' := look_ways (gone := false) (i := idx s) (mx := mx) (.inr h)
  clear h hy
  generalize idx s = i at *
  rcases h' with h1 | ⟨_, h1⟩ | ⟨_, h1, h2⟩
  · cases h1
  all_goals (
    go_enter Try.func36, Try.ntmps36
    go_wp2_with (first
      | (go_at_call 52; refine (CI.out _).mono ?_; rintro e w1 ⟨rfl, rfl⟩)
      | (go_at_call 18; refine CL.out.mono ?_; rintro e w1 ⟨rfl, hb⟩; have B1 := Lib.hid hb; clear hb))
    go_ret2
    exact ⟨rfl, B1.out⟩)
theorem ynext_last (s : ByteArray) (hy : Blk w y 79 (refC bx k v mx c V false)) (hm : mx ≤ 4096) (j : Nat) (hj : idx s = j) (h : j + 1 = mx) :
    Calls Try.prog 36 #[.pointer (some ⟨y, 0, none⟩), .string s] w fun e w' => e = .returned (.tuple #[.string ⟨#[]⟩, .int .i64 4]) ∧ w = w' := by
  have CI := Lib.hid (index_any (.pointer (some ⟨y, 0, none⟩)) s)
  rw [hj] at CI
  have c7 : w.cell? ⟨y, 7, none⟩ = some (.bool false) := hy.cell 7
  have c4 : w.cell? ⟨y, 4, none⟩ = some (.int .i64 mx) := hy.cell 4
  have g1 : decide ((j : Int) < 0) = false := decide_eq_false (by omega)
  have g2 : decide ((mx : Int) ≤ (j : Int)) = false := decide_eq_false (by omega)
  have g3 : decide (mx ≤ j) = false := decide_eq_false (by omega)
  have e1 : IntKind.i64.wrap ((mx : Int) - 1) = (j : Int) := by rw [IntWalk.i64_in _ (by omega)]; omega
  clear h hy hj
  go_enter Try.func36, Try.ntmps36
  go_wp2_with (go_at_call 52; refine (CI.out _).mono ?_; rintro e w1 ⟨rfl, rfl⟩)
  go_ret2
  exact ⟨rfl, rfl⟩
theorem ynext_on (s : ByteArray) (hy : Blk w y 79 (refC bx k v mx c V false)) (hm : mx ≤ 4096) (j : Nat) (hj : idx s = j) (h : j + 1 < mx) :
    Calls Try.prog 36 #[.pointer (some ⟨y, 0, none⟩), .string s] w fun e w' => e = .returned (.tuple #[.string (bstr (wb (j + 1) 4)), .int .i64 0]) ∧ Below w.heap.size w w' := by
  have CI := Lib.hid (index_any (.pointer (some ⟨y, 0, none⟩)) s)
  rw [hj] at CI
  have c7 : w.cell? ⟨y, 7, none⟩ = some (.bool false) := hy.cell 7
  have c4 : w.cell? ⟨y, 4, none⟩ = some (.int .i64 mx) := hy.cell 4
  have CL := Lib.hid (le_4 (j + 1) (by omega) w)
  have g1 : decide ((j : Int) < 0) = false := decide_eq_false (by omega)
  have g2 : decide ((mx : Int) ≤ (j : Int)) = false := decide_eq_false (by omega)
  have g3 : decide (mx ≤ j) = false := decide_eq_false (by omega)
  obtain ⟨q, hq⟩ : ∃ q : Int, (mx : Int) - 1 = q := ⟨_, rfl⟩
  have e1 : IntKind.i64.wrap ((mx : Int) - 1) = q := by rw [IntWalk.i64_in _ (by omega), hq]
  have g4 : ((j : Int) == q) = false := by rw [beq_eq_false_iff_ne]; omega
  have e2 : IntKind.i64.wrap ((j : Int) + 1) = ((j + 1 : Nat) : Int) := by rw [IntWalk.i64_in _ (by omega)]; omega
  have e3 : IntKind.u64.wrap ((j + 1 : Nat) : Int) = ((j + 1 : Nat) : Int) := wraps_u64 _ (by omega) (by omega)
  clear h hy hj hm hq
  generalize j + 1 = jj at *
  go_enter Try.func36, Try.ntmps36
  go_wp2_with (first
    | (go_at_call 52; refine (CI.out _).mono ?_; rintro e w1 ⟨rfl, rfl⟩)
    | (go_at_call 18; refine CL.out.mono ?_; rintro e w1 ⟨rfl, hb⟩; have B1 := Lib.hid hb; clear hb))
  go_ret2
  exact ⟨rfl, B1.out⟩
/-- What the reference's Update asks. -/
def upBad (k : Int) (v : Nat) (c : Int) (gone : Bool) (s t : ByteArray) (f cpu : Int) : Prop := gone = true ∨ idx s < 0 ∨ t.size ≠ v ∨ f < 0 ∨ 2 < f ∨ (k = 6 ∧ (cpu < -1 ∨ c ≤ cpu))
theorem up_ways {gone : Bool} {v : Nat} {i k c cpu f : Int} {t : ByteArray} (h : gone = true ∨ i < 0 ∨ t.size ≠ v ∨ f < 0 ∨ 2 < f ∨ (k = 6 ∧ (cpu < -1 ∨ c ≤ cpu))) :
    gone = true ∨ (gone = false ∧ (decide (i < 0) = true ∨ (decide (i < 0) = false ∧ (((t.size : Int) != (v : Int)) = true ∨ (((t.size : Int) != (v : Int)) = false ∧ (decide (f < 0) = true ∨ (decide (f < 0) = false ∧ (decide (2 < f) = true ∨ (decide (2 < f) = false ∧ k = 6 ∧ (decide (cpu < -1) = true ∨ (decide (cpu < -1) = false ∧ decide (c ≤ cpu) = true))))))))))) := by
  cases gone
  · refine .inr ⟨rfl, ?_⟩
    simp only [decide_eq_false_iff_not, decide_eq_true_eq, bne_iff_ne, ne_eq, bne_eq_false_iff_eq, Bool.false_eq_true, false_or, reduceCtorEq] at h ⊢
    omega
  · exact .inl rfl
set_option maxHeartbeats 1000000 in
theorem yupd_bad (v : Nat) (gone : Bool) (s t : ByteArray) (f cpu : Int) (hy : Blk w y 79 (refC bx k v mx c V gone)) (h : upBad k v c gone s t f cpu) :
    Calls Try.prog 35 #[.pointer (some ⟨y, 0, none⟩), .string s, .string t, .int .i64 f, .int .i64 cpu] w fun e w' => e = .returned (.int .i64 1) ∧ w = w' := by
  have CI := Lib.hid (index_any (.pointer (some ⟨y, 0, none⟩)) s)
  have c7 : w.cell? ⟨y, 7, none⟩ = some (.bool gone) := hy.cell 7
  have c1 : w.cell? ⟨y, 1, none⟩ = some (.int .i64 k) := hy.cell 1
  have c3 : w.cell? ⟨y, 3, none⟩ = some (.int .i64 v) := hy.cell 3
  have c5 : w.cell? ⟨y, 5, none⟩ = some (.int .i64 c) := hy.cell 5
  have h' := up_ways h
  clear h hy
  generalize idx s = i at *
  rcases h' with rfl | ⟨rfl, h1 | ⟨h1, h2 | ⟨h2, h3 | ⟨h3, h4 | ⟨h4, rfl, h5 | ⟨h5, h6⟩⟩⟩⟩⟩⟩
  all_goals (
    go_enter Try.func35, Try.ntmps35
    go_wp2_with (go_at_call 52; refine (CI.out _).mono ?_; rintro e w1 ⟨rfl, rfl⟩)
    go_ret
    exact ⟨rfl, rfl⟩)
/-- Its answer when it asks no more. -/
theorem up_fine {k c cpu f : Int} (hk : k = 2 ∨ (k = 6 ∧ -1 ≤ cpu ∧ cpu < c)) (hf : 0 ≤ f ∧ f ≤ 2) : (k = 2 ∨ (k = 6 ∧ decide (cpu < -1) = false ∧ decide (c ≤ cpu) = false)) ∧ decide (f < 0) = false ∧ decide (2 < f) = false := by
  refine ⟨hk.imp id fun h => ⟨h.1, decide_eq_false (by omega), decide_eq_false (by omega)⟩, decide_eq_false (by omega), decide_eq_false (by omega)⟩
set_option maxHeartbeats 1000000 in
theorem yupd_full (v : Nat) (s t : ByteArray) (f cpu : Int) (hy : Blk w y 79 (refC bx k v mx c V false)) (hk : k = 2 ∨ (k = 6 ∧ -1 ≤ cpu ∧ cpu < c)) (hf : 0 ≤ f ∧ f ≤ 2) (ht : t.size = v) (h0 : 0 ≤ idx s) (h1 : (mx : Int) ≤ idx s) :
    Calls Try.prog 35 #[.pointer (some ⟨y, 0, none⟩), .string s, .string t, .int .i64 f, .int .i64 cpu] w fun e w' => e = .returned (.int .i64 3) ∧ w = w' := by
  have CI := Lib.hid (index_any (.pointer (some ⟨y, 0, none⟩)) s)
  have c7 : w.cell? ⟨y, 7, none⟩ = some (.bool false) := hy.cell 7
  have c1 : w.cell? ⟨y, 1, none⟩ = some (.int .i64 k) := hy.cell 1
  have c3 : w.cell? ⟨y, 3, none⟩ = some (.int .i64 v) := hy.cell 3
  have c4 : w.cell? ⟨y, 4, none⟩ = some (.int .i64 mx) := hy.cell 4
  have c5 : w.cell? ⟨y, 5, none⟩ = some (.int .i64 c) := hy.cell 5
  obtain ⟨hk', f1, f2⟩ := up_fine hk hf
  have g1 : decide (idx s < 0) = false := decide_eq_false (by omega)
  have g2 : decide ((mx : Int) ≤ idx s) = true := decide_eq_true h1
  have g3 : ((t.size : Int) != (v : Int)) = false := by rw [ht]; simp
  clear hk hf h0 h1 hy ht
  generalize idx s = i at *
  rcases hk' with rfl | ⟨rfl, k1, k2⟩
  all_goals (
    go_enter Try.func35, Try.ntmps35
    go_wp2_with (go_at_call 52; refine (CI.out _).mono ?_; rintro e w1 ⟨rfl, rfl⟩)
    go_ret
    exact ⟨rfl, rfl⟩)
set_option maxHeartbeats 1000000 in
theorem yupd_exists (v : Nat) (s t : ByteArray) (cpu : Int) (hy : Blk w y 79 (refC bx k v mx c V false)) (hk : k = 2 ∨ (k = 6 ∧ -1 ≤ cpu ∧ cpu < c)) (ht : t.size = v) (h0 : 0 ≤ idx s) (h1 : idx s < mx) :
    Calls Try.prog 35 #[.pointer (some ⟨y, 0, none⟩), .string s, .string t, .int .i64 1, .int .i64 cpu] w fun e w' => e = .returned (.int .i64 5) ∧ w = w' := by
  have CI := Lib.hid (index_any (.pointer (some ⟨y, 0, none⟩)) s)
  have c7 : w.cell? ⟨y, 7, none⟩ = some (.bool false) := hy.cell 7
  have c1 : w.cell? ⟨y, 1, none⟩ = some (.int .i64 k) := hy.cell 1
  have c3 : w.cell? ⟨y, 3, none⟩ = some (.int .i64 v) := hy.cell 3
  have c4 : w.cell? ⟨y, 4, none⟩ = some (.int .i64 mx) := hy.cell 4
  have c5 : w.cell? ⟨y, 5, none⟩ = some (.int .i64 c) := hy.cell 5
  obtain ⟨hk', f1, f2⟩ := up_fine (f := 1) hk (by decide)
  have g1 : decide (idx s < 0) = false := decide_eq_false (by omega)
  have g2 : decide ((mx : Int) ≤ idx s) = false := decide_eq_false (by omega)
  have g3 : ((t.size : Int) != (v : Int)) = false := by rw [ht]; simp
  clear hk h0 h1 hy ht f1 f2
  generalize idx s = i at *
  rcases hk' with rfl | ⟨rfl, k1, k2⟩
  all_goals (
    go_enter Try.func35, Try.ntmps35
    go_wp2_with (go_at_call 52; refine (CI.out _).mono ?_; rintro e w1 ⟨rfl, rfl⟩)
    go_ret
    exact ⟨rfl, rfl⟩)
end
end Go.Proofs.Ythilkgfbaddjpaa
