/-
  Layer 7: Check, where a type holds itself; bytes.
-/
import Derived.Test.YthilkgfbaddjpaaDoorLStrip3
namespace Go.Proofs.YthilkgfbaddjpaaDoor
open Go Go.RowKit
set_option linter.unusedVariables false
set_option linter.unusedSimpArgs false
set_option maxRecDepth 100000
section
variable {w : World} {a : Nat → Addr} {A : Option Addr} {cl : Nat} {l : List Ty} {τ Z : Nat} {zs : List (Int × Nat)}
set_option maxHeartbeats 2000000 in
theorem Check_loops (hE : Env w a) (hT : TysAt w A l) (hlen : l.length ≤ 1024) (hH : Held l) (hal : l.all (aloneB l.length) = true) (hl : (allL l).loops ≠ []) :
    Calls Tryd.prog 13 #[.slice A l.length cl] w fun e w' => ∃ m : Nat, m ∈ (allL l).loops ∧ e = .returned (.tuple #[.int .i64 m, .int .i64 41]) ∧ Below w.heap.size w w' := by
  have CO := Lib.hid (open_any (cl := cl) hE hT (by omega) (fun _ => hH))
  have HE := Lib.hid hE
  have HLEN := Lib.hid hlen
  have HAL := Lib.hid hal
  have HL := Lib.hid hl
  clear hE hT hH hlen hal hl
  go_enter Tryd.func13, Tryd.ntmps13
  go_upto_region 2 with (go_at_call 9; refine CO.out.mono ?_; rintro e w1 ⟨hb, ⟨hg, _⟩ | ⟨_, v, rfl, _, _, hx⟩⟩; (exact absurd hg.loops HL.out); obtain ⟨p, m, rfl, hm, hk⟩ := hx HLEN.out HAL.out HL.out; have HB := Lib.hid hb; have HK := Lib.hid hk; have HM := Lib.hid hm; clear hb hk hm hx)
  have CP := Lib.hid (place_fault (HE.out.below HB.out) p m (sent a 4) HK.out)
  go_wp2_with (first
    | (go_at_call 25; refine CP.out.mono ?_; rintro e w2 ⟨rfl, hb⟩; have B2 := Lib.hid (HB.out.trans (hb.mono HB.out.size)); have CE := Lib.hid (errno_any (HE.out.below B2.out) (fault_err (by decide) (by decide) (by decide) (HK.out.below_ hb))); clear hb)
    | (go_at_call 10; refine CE.out.mono ?_; rintro e w3 ⟨rfl, rfl⟩))
  go_ret2
  exact ⟨m, HM.out, rfl, B2.out⟩
def bytesR (l : List Ty) (id : Int) : Int × Nat := if hasB id l.length = true then (if ((szL l).getD id.toNat (0, 0)).2 = 5 then (0, 0) else (szL l).getD id.toNat (0, 0)) else (0, 1)
set_option maxHeartbeats 2000000 in
theorem bytes_any (hG : Good l) (h : TX w a A cl l τ Z (szL l)) (j : Nat) (hj : j ≤ l.length) (z : Int × Nat) (hz : (szL l)[j]? = some z) (h0 : z.2 = 0) :
    Calls Tryd.prog 37 #[.pointer (some ⟨τ, 0, none⟩), .int .i64 j] w fun e w' => e = .returned (.tuple #[.int .i64 z.1, .nilIface]) ∧ Below w.heap.size w w' := by
  have CS := Lib.hid (size_yes h j hj z hz)
  rw [h0, show whyV a 0 = .nilIface from rfl] at CS
  have CN := Lib.hid (fun W => is_nil (a 5) W)
  have d5 : ∀ k, (w.drewN k).cell? ⟨5, 0, none⟩ = some (sent a 5) := fun k => h.env.cell 5 (by decide)
  have HD := Lib.hid d5
  clear h hz d5
  go_enter Tryd.func37, Tryd.ntmps37
  go_upto_region 2 with (go_at_call 15; refine CS.out.mono ?_; rintro e w1 ⟨rfl, k, rfl⟩; have d := HD.out k; have B1 := Lib.hid (belowDrew w k))
  generalize World.drewN _ _ = w2 at d B1 ⊢
  go_wp2_with (go_at_call 22; refine (CN.out _).mono ?_; rintro e w3 ⟨rfl, rfl⟩)
  go_ret2
  exact ⟨rfl, B1.out⟩
end
end Go.Proofs.YthilkgfbaddjpaaDoor
