/-
  Layer 7: lookSizes.
-/
import Derived.Test.YthilkgfbaddjpaaDoorLMeas3
namespace Go.Proofs.YthilkgfbaddjpaaDoor
open Go Go.RowKit
set_option linter.unusedVariables false
set_option linter.unusedSimpArgs false
set_option maxRecDepth 100000
section
variable {w : World} {a : Nat → Addr} {A : Option Addr} {cl : Nat} {l : List Ty} {τ Z : Nat} {zs : List (Int × Nat)}
def Codes (zs : List (Int × Nat)) : Prop := ∀ j z, 1 ≤ j → zs[j]? = some z → z.2 = 0 ∨ z.2 = 6
def PostFault (w : World) (a : Nat → Addr) (i : Nat) (good bad : Prop) (e : Ending) (w' : World) : Prop :=
  Below w.heap.size w w' ∧ ((e = .returned .nilIface ∧ good) ∨ ∃ p k, e = .returned (.iface 72 (.pointer (some ⟨p, 0, none⟩))) ∧ Blk w' p 74 #[.int .i64 k, sent a i] ∧ bad)
set_option maxHeartbeats 2000000 in
theorem lookSizes_any (h : TX w a A cl l τ Z zs) (hcd : Codes zs) :
    Calls Tryd.prog 20 #[.pointer (some ⟨τ, 0, none⟩)] w (PostFault w a 6 (∀ j z, 1 ≤ j → zs[j]? = some z → z.2 = 0) (∃ j z, 1 ≤ j ∧ zs[j]? = some z ∧ z.2 = 6)) := by
  have c0 : w.cell? ⟨τ, 0, none⟩ = some (.slice A l.length cl) := h.blk.cell 0
  have c1 : w.cell? ⟨τ, 1, none⟩ = some (.slice (some ⟨Z, 0, none⟩) (l.length + 1) (l.length + 1)) := h.blk.cell 1
  have d6 : w.cell? ⟨6, 0, none⟩ = some (sent a 6) := h.env.cell 6 (by decide)
  have i1 : (l.length : Int) ≤ 1024 := by have := h.few; omega
  have H := Lib.hid h
  have HC := Lib.hid hcd
  have CN := Lib.hid (is_nil (a 6) w)
  have CS := Lib.hid (is_same (a 6) w)
  clear h hcd
  go_enter Tryd.func20, Tryd.ntmps20
  go_wp2_with fail
  go_loopw [3, 4, 10] (fun _ _ i wr => ∃ k : Nat, k ≤ l.length ∧ i = .int .i64 k ∧ wr = w ∧ ∀ j z, 1 ≤ j → j ≤ k → zs[j]? = some z → z.2 = 0) (fun _ _ i _ => l.length - (intOf i).toNat)
  case atStart => exact ⟨0, Nat.zero_le _, rfl, rfl, fun j z h1 h2 => by omega⟩
  case round =>
    obtain ⟨k, hk, rfl, rfl, hall⟩ := hrel
    by_cases hkn : k < l.length
    · obtain ⟨z, hz⟩ : ∃ z, zs[k + 1]? = some z := ⟨_, List.getElem?_eq_getElem (by have := H.out.len; omega)⟩
      obtain ⟨_, s2⟩ := szC_get a zs (k + 1) z hz
      have z2 : wr.cell? ⟨Z, (k + 1) * 2 + 1, none⟩ = some (whyV a z.2) := by rw [H.out.row.cell]; simpa using s2
      have g1 : decide (k < l.length) = true := by simpa using hkn
      have i2 : (k : Int) < (l.length : Int) := by omega
      have i3 : (0 : Int) ≤ (k : Int) := by omega
      have i4 : (k : Int) + 1 < (l.length : Int) + 1 := by omega
      have HK : Hid (k < l.length) := hkn
      have HZ := Lib.hid hz
      have hcz := HC.out (k + 1) z (by omega) hz
      clear hkn hz s2
      by_cases h0 : z.2 = 0
      · rw [h0] at z2
        rw [show whyV a 0 = .nilIface from rfl] at z2
        have HALL : Hid (∀ j z, 1 ≤ j → j ≤ k + 1 → zs[j]? = some z → z.2 = 0) := fun j y h1 h2 hy => by
          by_cases e : j = k + 1
          · subst e; rw [HZ.out] at hy; cases hy; exact h0
          · exact hall j y h1 (by omega) hy
        clear hall hcz h0
        go_wp2_with (go_at_call 22; refine CN.out.mono ?_; rintro e w1 ⟨rfl, rfl⟩)
        go_roundw
        case rel => exact ⟨k + 1, HK.out, by go_num, trivial, HALL.out⟩
        case measure => have := HK.out; simp [intOf]; omega
      · have h6 : z.2 = 6 := by omega
        rw [h6, whyV_ne a 6 (by decide)] at z2
        have H6 := Lib.hid h6
        clear hall hcz h0 h6
        go_wp2_with (go_at_call 22; refine CS.out.mono ?_; rintro e w1 ⟨rfl, rfl⟩)
        go_ret
        exact ⟨(Below.refl _ wr).alloc (Nat.le_refl _) _, .inr ⟨wr.heap.size, _, rfl, Blk.new wr _ _, k + 1, z, by omega, HZ.out, H6.out⟩⟩
    · have : k = l.length := by omega
      subst this
      have g1 : decide (l.length < l.length) = false := by simp
      have HALL := Lib.hid hall
      clear hkn hk hall
      go_wp2_with fail
      go_ret
      refine ⟨Below.refl _ _, .inl ⟨rfl, fun j z h1 hz => HALL.out j z h1 ?_ hz⟩⟩
      have := (List.getElem?_eq_some_iff.1 hz).1
      have := H.out.len
      omega
end
end Go.Proofs.YthilkgfbaddjpaaDoor
