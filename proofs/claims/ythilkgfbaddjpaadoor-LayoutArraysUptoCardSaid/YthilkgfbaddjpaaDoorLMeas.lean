/-
  Layer 7: repeated, measure.
-/
import Derived.Test.YthilkgfbaddjpaaDoorLSize
namespace Go.Proofs.YthilkgfbaddjpaaDoor
open Go Go.RowKit
set_option linter.unusedVariables false
set_option linter.unusedSimpArgs false
set_option maxRecDepth 100000
def repA (z : Int × Nat) (count : Int) : Int × Nat := if count = 0 then (0, 0) else if z.2 = 0 then (if 1048576 / count < z.1 then (0, 6) else (count * z.1, 0)) else (0, z.2)
def msrA (zs : List (Int × Nat)) (t : Ty) : Int × Nat := if t.kind = 2 then (8, 0) else if t.kind = 8 then zs.getD t.ty.toNat (0, 0) else if t.kind = 3 then repA (zs.getD t.ty.toNat (0, 0)) t.count else (t.size, 0)
def Fair (z : Int × Nat) : Prop := 0 ≤ z.1 ∧ z.1 ≤ 1048576
theorem rep_fair {z : Int × Nat} (h : Fair z) {count : Int} (h0 : 0 ≤ count) : Fair (repA z count) := by
  unfold repA
  unfold Fair at *
  split
  · simp
  · split
    · split
      · simp
      · rename_i h1 h2 h3
        have hpos : 0 < count := by omega
        refine ⟨Int.mul_nonneg h0 h.1, ?_⟩
        have h4 : z.1 ≤ 1048576 / count := by omega
        calc count * z.1 ≤ count * (1048576 / count) := Int.mul_le_mul_of_nonneg_left h4 h0
          _ ≤ 1048576 := Int.mul_ediv_self_le (by omega)
    · simp
section
variable {w : World} {a : Nat → Addr} {A : Option Addr} {cl : Nat} {l : List Ty} {τ Z : Nat} {zs : List (Int × Nat)}
def PostZ (w : World) (a : Nat → Addr) (z : Int × Nat) (e : Ending) (w' : World) : Prop := e = .returned (.tuple #[.int .i64 z.1, whyV a z.2]) ∧ Below w.heap.size w w'
theorem whyV_ne (a : Nat → Addr) (c : Nat) (h : c ≠ 0) : whyV a c = sent a c := by unfold whyV; rw [if_neg h]
set_option maxHeartbeats 2000000 in
theorem repeated_any (h : TX w a A cl l τ Z zs) (j : Nat) (hj : j ≤ l.length) (z : Int × Nat) (hz : zs[j]? = some z) (hf : Fair z) (count : Int) (h0 : 0 ≤ count) (h1 : count ≤ 65536) :
    Calls Tryd.prog 41 #[.pointer (some ⟨τ, 0, none⟩), .int .i64 j, .int .i64 count] w (PostZ w a (repA z count)) := by
  have hfair := rep_fair hf h0
  by_cases hc : count = 0
  · subst hc
    unfold repA
    rw [if_pos rfl]
    clear h hz hf
    go_enter Tryd.func41, Tryd.ntmps41
    go_wp2_with fail
    go_ret2
    exact ⟨rfl, Below.refl _ _⟩
  · have g0 : (count == 0) = false := by simpa using hc
    have CS := Lib.hid (size_yes h j hj z hz)
    have d6 : ∀ k, (w.drewN k).cell? ⟨6, 0, none⟩ = some (sent a 6) := fun k => h.env.cell 6 (by decide)
    obtain ⟨n, c⟩ := z
    unfold repA at hfair ⊢
    rw [if_neg hc] at hfair ⊢
    have B := fun k => belowDrew w k
    have HB := Lib.hid B
    have hn0 := hf.1
    have hn1 := hf.2
    simp only at hn0 hn1 CS hfair ⊢
    clear B hf hz h
    by_cases hc0 : c = 0
    · subst hc0
      rw [if_pos rfl] at hfair ⊢
      unfold whyV at CS
      rw [if_pos rfl] at CS
      by_cases hb : 1048576 / count < n
      · rw [if_pos hb]
        have g1 : decide (1048576 / count < n) = true := by simpa using hb
        have HD := Lib.hid d6
        clear hfair hb hj d6
        go_enter Tryd.func41, Tryd.ntmps41
        go_upto_region 4 with (go_at_call 15; refine CS.out.mono ?_; rintro e w1 ⟨rfl, k, rfl⟩; have d := HD.out k; have B1 := Lib.hid (HB.out k))
        generalize World.drewN _ _ = w2 at d B1 ⊢
        go_wp2_with fail
        go_ret2
        exact ⟨rfl, B1.out⟩
      · rw [if_neg hb] at hfair ⊢
        have g1 : decide (1048576 / count < n) = false := by simpa using hb
        have q1 := hfair.1
        have q2 := hfair.2
        simp only at q1 q2
        clear hfair hb hj d6
        go_enter Tryd.func41, Tryd.ntmps41
        go_upto_region 4 with (go_at_call 15; refine CS.out.mono ?_; rintro e w1 ⟨rfl, k, rfl⟩; have B1 := Lib.hid (HB.out k))
        generalize World.drewN _ _ = w2 at B1 ⊢
        go_wp2_with fail
        go_ret2
        exact ⟨rfl, B1.out⟩
    · rw [if_neg hc0] at hfair ⊢
      rw [whyV_ne a c hc0] at CS
      unfold PostZ
      rw [whyV_ne a c hc0]
      clear hfair hj d6
      go_enter Tryd.func41, Tryd.ntmps41
      go_upto_region 4 with (go_at_call 15; refine CS.out.mono ?_; rintro e w1 ⟨rfl, k, rfl⟩; have B1 := Lib.hid (HB.out k))
      generalize World.drewN _ _ = w2 at B1 ⊢
      go_wp2_with fail
      go_ret2
      exact ⟨rfl, B1.out⟩
end
end Go.Proofs.YthilkgfbaddjpaaDoor
