/-
  Layer 7: whether a type is well by itself.
-/
import Derived.Test.YthilkgfbaddjpaaDoorLLeaf
namespace Go.Proofs.YthilkgfbaddjpaaDoor
open Go Go.RowKit
set_option linter.unusedVariables false
set_option linter.unusedSimpArgs false
set_option maxRecDepth 100000
def tyV (t : Ty) (mv : Value) : Value := .agg #[.int .i64 t.kind, .string t.name, .int .i64 t.size, .int .i64 t.ty, .int .i64 t.count, mv]
def tyCells (t : Ty) (mv : Value) : Array Value := #[.int .i64 t.kind, .string t.name, .int .i64 t.size, .int .i64 t.ty, .int .i64 t.count, mv]
set_option maxHeartbeats 2000000 in
theorem alone_any (t : Ty) (A : Option Addr) (c : Nat) (n : Int) (hlen : t.mems.length ≤ 9223372036854775807) (w : World) (h : MemsAt w A t.mems) :
    Calls Tryd.prog 28 #[tyV t (.slice A t.mems.length c), .int .i64 n] w fun e w' => e = .returned (.bool (aloneB n t)) ∧ Below w.heap.size w w' := by
  obtain ⟨kd, nm, sz, ty, ct, ms⟩ := t
  simp only at hlen h
  unfold tyV
  simp only
  have B1 : Hid (Below w.heap.size w (w.alloc (.cells #[.int .i64 kd, .string nm, .int .i64 sz, .int .i64 ty, .int .i64 ct, .slice A ms.length c] 34))) := (Below.refl _ w).alloc (Nat.le_refl _) _
  have CL := Lib.hid (fun W => leads_any ty n W)
  have CM := Lib.hid (membersAlone_any A c ms n hlen _ (h.below B1.out))
  clear h hlen
  have HV : ∀ q, aloneB n ⟨kd, nm, sz, ty, ct, ms⟩ = q → Hid (aloneB n ⟨kd, nm, sz, ty, ct, ms⟩ = q) := fun q h => h
  by_cases k1 : kd = 1
  · subst k1
    by_cases h4 : sz = 1 ∨ sz = 2 ∨ sz = 4 ∨ sz = 8
    · have HX := HV true (by simp [aloneB, sizedB, h4])
      clear HV CL CM
      rcases h4 with rfl | rfl | rfl | rfl
      all_goals
        go_enter Tryd.func28, Tryd.ntmps28
        go_wp2_with fail
        go_ret
        rw [HX.out]
        exact ⟨rfl, B1.out⟩
    · have HX := HV false (by simp [aloneB, sizedB, h4])
      clear HV CL CM
      have z1 : (sz == 1) = false := by simp; omega
      have z2 : (sz == 2) = false := by simp; omega
      have z4 : (sz == 4) = false := by simp; omega
      have z8 : (sz == 8) = false := by simp; omega
      clear h4
      go_enter Tryd.func28, Tryd.ntmps28
      go_wp2_with fail
      go_ret
      rw [HX.out]
      exact ⟨rfl, B1.out⟩
  · by_cases k2 : kd = 2
    · subst k2
      clear CM
      by_cases h0 : ty = 0
      · have HX := HV true (by simp [aloneB, h0])
        subst h0
        clear HV CL k1
        go_enter Tryd.func28, Tryd.ntmps28
        go_wp2_with fail
        go_ret
        rw [HX.out]
        exact ⟨rfl, B1.out⟩
      · have HX := HV (leadsB ty n) (by simp [aloneB, h0])
        have z0 : (ty == 0) = false := by simpa using h0
        clear HV h0 k1
        generalize leadsB ty n = q at *
        go_enter Tryd.func28, Tryd.ntmps28
        go_wp2_with (go_at_call 35; refine (CL.out _).mono ?_; rintro e w1 ⟨rfl, rfl⟩)
        go_ret
        rw [HX.out]
        exact ⟨rfl, B1.out⟩
    · by_cases k8 : kd = 8
      · subst k8
        have HX := HV (leadsB ty n) (by simp [aloneB])
        clear HV CM k1 k2
        generalize leadsB ty n = q at *
        go_enter Tryd.func28, Tryd.ntmps28
        go_wp2_with (go_at_call 35; refine (CL.out _).mono ?_; rintro e w1 ⟨rfl, rfl⟩)
        go_ret
        rw [HX.out]
        exact ⟨rfl, B1.out⟩
      · by_cases k3 : kd = 3
        · subst k3
          have HX := HV (leadsB ty n && (decide (0 ≤ ct) && decide (ct ≤ 65536))) (by simp [aloneB])
          clear HV CM k1 k2 k8
          generalize leadsB ty n = q at *
          cases q1 : decide (0 ≤ ct) <;> cases q2 : decide (ct ≤ 65536) <;> rw [q1, q2] at HX <;> cases q
          all_goals
            simp only [Bool.and_true, Bool.and_false, Bool.true_and, Bool.false_and] at HX
            go_enter Tryd.func28, Tryd.ntmps28
            go_wp2_with (go_at_call 35; refine (CL.out _).mono ?_; rintro e w1 ⟨rfl, rfl⟩)
            go_ret
            rw [HX.out]
            exact ⟨rfl, B1.out⟩
        · by_cases k4 : kd = 4
          · subst k4
            have HX := HV (decide (0 ≤ sz) && (decide (sz ≤ 65536) && ms.all (memB n))) (by simp [aloneB])
            clear HV CL k1 k2 k8 k3
            generalize ms.all (memB n) = q at *
            cases q1 : decide (0 ≤ sz) <;> cases q2 : decide (sz ≤ 65536) <;> rw [q1, q2] at HX
            all_goals
              simp only [Bool.and_true, Bool.and_false, Bool.true_and, Bool.false_and] at HX
              go_enter Tryd.func28, Tryd.ntmps28
              go_wp2_with (go_at_call 38; refine CM.out.mono ?_; rintro e w1 ⟨rfl, hb⟩; have B2 := Lib.hid hb; clear hb)
              go_ret
              rw [HX.out]
              first
                | exact ⟨rfl, B1.out.trans (B2.out.mono (by simp))⟩
                | exact ⟨rfl, B1.out⟩
          · have HX := HV false (by simp [aloneB, k1, k2, k8, k3, k4])
            have z1 : (kd == 1) = false := by simpa using k1
            have z2 : (kd == 2) = false := by simpa using k2
            have z8 : (kd == 8) = false := by simpa using k8
            have z3 : (kd == 3) = false := by simpa using k3
            have z4 : (kd == 4) = false := by simpa using k4
            clear HV CL CM k1 k2 k8 k3 k4
            go_enter Tryd.func28, Tryd.ntmps28
            go_wp2_with fail
            go_ret
            rw [HX.out]
            exact ⟨rfl, B1.out⟩
end Go.Proofs.YthilkgfbaddjpaaDoor
