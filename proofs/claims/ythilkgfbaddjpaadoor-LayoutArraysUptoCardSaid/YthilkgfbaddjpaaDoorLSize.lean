/-
  Layer 7: types, measured: their block, their sizes; has, size.
-/
import Derived.Test.YthilkgfbaddjpaaDoorLFirst
namespace Go.Proofs.YthilkgfbaddjpaaDoor
open Go Go.RowKit
set_option linter.unusedVariables false
set_option linter.unusedSimpArgs false
set_option maxRecDepth 100000
def whyV (a : Nat → Addr) (c : Nat) : Value := if c = 0 then .nilIface else sent a c
def szC (a : Nat → Addr) : List (Int × Nat) → List Value
  | [] => []
  | z :: zs => .int .i64 z.1 :: whyV a z.2 :: szC a zs
theorem szC_len (a : Nat → Addr) : ∀ zs, (szC a zs).length = zs.length * 2
  | [] => rfl
  | z :: zs => by simp only [szC, List.length_cons, szC_len a zs]; omega
theorem szC_get (a : Nat → Addr) : ∀ (zs : List (Int × Nat)) (i : Nat) (z : Int × Nat), zs[i]? = some z → (szC a zs)[i * 2]? = some (.int .i64 z.1) ∧ (szC a zs)[i * 2 + 1]? = some (whyV a z.2)
  | [], i, z, h => by simp at h
  | y :: zs, 0, z, h => by simp at h; subst h; exact ⟨rfl, rfl⟩
  | y :: zs, i + 1, z, h => by
    have := szC_get a zs i z (by simpa using h)
    have e : (i + 1) * 2 = i * 2 + 1 + 1 := by omega
    rw [e]
    simpa [szC] using this
theorem szC_set (a : Nat → Addr) : ∀ (zs : List (Int × Nat)) (i : Nat) (z : Int × Nat), i < zs.length → ((szC a zs).set (i * 2) (.int .i64 z.1)).set (i * 2 + 1) (whyV a z.2) = szC a (zs.set i z)
  | [], i, z, h => by simp at h
  | y :: zs, 0, z, h => by simp [szC]
  | y :: zs, i + 1, z, h => by
    have := szC_set a zs i z (by simpa using h)
    have e : (i + 1) * 2 = i * 2 + 1 + 1 := by omega
    rw [e]
    simp [szC, this]
structure TX (w : World) (a : Nat → Addr) (A : Option Addr) (cl : Nat) (l : List Ty) (τ Z : Nat) (zs : List (Int × Nat)) : Prop where
  env : Env w a
  types : TysAt w A l
  few : l.length ≤ 1024
  blk : Blk w τ 69 #[.slice A l.length cl, .slice (some ⟨Z, 0, none⟩) (l.length + 1) (l.length + 1)]
  row : Blk w Z 66 (szC a zs).toArray
  len : zs.length = l.length + 1
theorem TX.below {w w' : World} {a : Nat → Addr} {A : Option Addr} {cl : Nat} {l : List Ty} {τ Z : Nat} {zs : List (Int × Nat)} (h : TX w a A cl l τ Z zs) (hb : Below w.heap.size w w') : TX w' a A cl l τ Z zs :=
  ⟨h.env.below hb, h.types.below hb, h.few, h.blk.below_ hb, h.row.below_ hb, h.len⟩
def hasB (id n : Int) : Bool := decide (id = 0) || leadsB id n
section
variable {w : World} {a : Nat → Addr} {A : Option Addr} {cl : Nat} {l : List Ty} {τ Z : Nat} {zs : List (Int × Nat)}
theorem has_any (h : TX w a A cl l τ Z zs) (id : Int) :
    Calls Tryd.prog 23 #[.pointer (some ⟨τ, 0, none⟩), .int .i64 id] w fun e w' => e = .returned (.bool (hasB id l.length)) ∧ w = w' := by
  have c0 : w.cell? ⟨τ, 0, none⟩ = some (.slice A l.length cl) := h.blk.cell 0
  have i1 : (l.length : Int) ≤ 1024 := by have := h.few; omega
  have CL := Lib.hid (leads_any id l.length w)
  unfold hasB
  clear h
  by_cases h0 : id = 0
  · subst h0
    go_enter Tryd.func23, Tryd.ntmps23
    go_wp2_with fail
    go_ret
    exact ⟨by simp, rfl⟩
  · have g0 : (id == 0) = false := by simpa using h0
    rw [show decide (id = 0) = false by simpa using h0, Bool.false_or]
    generalize leadsB id l.length = q at *
    clear h0
    go_enter Tryd.func23, Tryd.ntmps23
    go_wp2_with (go_at_call 35; refine CL.out.mono ?_; rintro e w1 ⟨rfl, rfl⟩)
    go_ret
    exact ⟨by simp, rfl⟩
def sizeA (zs : List (Int × Nat)) (id n : Int) : Int × Nat := if hasB id n = true then zs.getD id.toNat (0, 0) else (0, 1)
theorem size_no (h : TX w a A cl l τ Z zs) (id : Int) (hq : hasB id l.length = false) :
    Calls Tryd.prog 15 #[.pointer (some ⟨τ, 0, none⟩), .int .i64 id] w fun e w' => e = .returned (.tuple #[.int .i64 0, sent a 1]) ∧ ∃ k, w' = w.drewN k := by
  have CH := Lib.hid (has_any h id)
  rw [hq] at CH
  have d1 : w.cell? ⟨1, 0, none⟩ = some (sent a 1) := h.env.cell 1 (by decide)
  clear h hq
  go_enter Tryd.func15, Tryd.ntmps15
  go_upto_region 2 with (go_at_call 23; refine CH.out.mono ?_; rintro e w1 ⟨rfl, rfl⟩)
  go_quiet (fail)
  go_wp2_with fail
  go_ret2
  exact ⟨rfl, _, rfl⟩
theorem size_yes (h : TX w a A cl l τ Z zs) (j : Nat) (hj : j ≤ l.length) (z : Int × Nat) (hz : zs[j]? = some z) :
    Calls Tryd.prog 15 #[.pointer (some ⟨τ, 0, none⟩), .int .i64 j] w fun e w' => e = .returned (.tuple #[.int .i64 z.1, whyV a z.2]) ∧ ∃ k, w' = w.drewN k := by
  have CH := Lib.hid (has_any h j)
  rw [show hasB (j : Int) l.length = true by unfold hasB leadsB; rcases Nat.eq_zero_or_pos j with e | e <;> simp <;> omega] at CH
  obtain ⟨s1, s2⟩ := szC_get a zs j z hz
  have c1 : w.cell? ⟨τ, 1, none⟩ = some (.slice (some ⟨Z, 0, none⟩) (l.length + 1) (l.length + 1)) := h.blk.cell 1
  have z1 : w.cell? ⟨Z, j * 2, none⟩ = some (.int .i64 z.1) := by rw [h.row.cell]; simpa using s1
  have z2 : w.cell? ⟨Z, j * 2 + 1, none⟩ = some (whyV a z.2) := by rw [h.row.cell]; simpa using s2
  have i1 : (j : Int) < (l.length : Int) + 1 := by omega
  have i2 : (0 : Int) ≤ (j : Int) := by omega
  have i3 : (l.length : Int) ≤ 1024 := by have := h.few; omega
  obtain ⟨z, wz⟩ := z
  simp only at z1 z2 ⊢
  generalize whyV a wz = uz at *
  clear h s1 s2 hz
  go_enter Tryd.func15, Tryd.ntmps15
  go_upto_region 3 with (go_at_call 23; refine CH.out.mono ?_; rintro e w1 ⟨rfl, rfl⟩)
  go_quiet (fail)
  go_wp2_with fail
  go_ret2
  exact ⟨rfl, _, rfl⟩
end
end Go.Proofs.YthilkgfbaddjpaaDoor
