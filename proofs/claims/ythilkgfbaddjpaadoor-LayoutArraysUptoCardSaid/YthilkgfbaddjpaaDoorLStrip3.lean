/-
  Layer 7: Strip.
-/
import Derived.Test.YthilkgfbaddjpaaDoorLStrip2
namespace Go.Proofs.YthilkgfbaddjpaaDoor
open Go Go.RowKit
set_option linter.unusedVariables false
set_option linter.unusedSimpArgs false
set_option maxRecDepth 100000
def stripR (l : List Ty) (id : Int) : Int × Int := if hasB id l.length = true then ((stripS l id.toNat : Nat), 0) else (0, 1)
section
variable {w : World} {a : Nat → Addr} {A : Option Addr} {cl : Nat} {l : List Ty} {τ Z : Nat} {zs : List (Int × Nat)}
theorem strip_no (h : TX w a A cl l τ Z zs) (id : Int) (hq : hasB id l.length = false) :
    Calls Tryd.prog 16 #[.pointer (some ⟨τ, 0, none⟩), .int .i64 id] w fun e w' => e = .returned (.tuple #[.int .i64 0, sent a 1]) ∧ Below w.heap.size w w' := by
  have CH := Lib.hid (has_any h id)
  rw [hq] at CH
  have d1 : w.cell? ⟨1, 0, none⟩ = some (sent a 1) := h.env.cell 1 (by decide)
  clear h hq
  go_enter Tryd.func16, Tryd.ntmps16
  go_upto_region 2 with (go_at_call 23; refine CH.out.mono ?_; rintro e w1 ⟨rfl, rfl⟩)
  go_quiet (fail)
  go_wp2_with fail
  go_ret2
  exact ⟨rfl, belowDrew _ _⟩
theorem strip_any (hG : Good l) (h : TX w a A cl l τ Z zs) (id : Int) :
    Calls Tryd.prog 16 #[.pointer (some ⟨τ, 0, none⟩), .int .i64 id] w fun e w' => ∃ v, e = .returned (.tuple #[.int .i64 (stripR l id).1, v]) ∧ (∀ w'', Env w'' a → IsErr w'' a v (stripR l id).2) ∧ ((stripR l id).2 = 0 → v = .nilIface) ∧ ((stripR l id).2 ≠ 0 → v = sent a 1) ∧ Below w.heap.size w w' := by
  unfold stripR
  cases hq : hasB id l.length
  · rw [if_neg (by simp)]
    refine (strip_no h id hq).mono ?_
    rintro e w' ⟨rfl, hk⟩
    exact ⟨_, rfl, fun w'' _ => .sent 1 (by decide), fun e => by simp at e, fun _ => rfl, hk⟩
  · rw [if_pos rfl]
    obtain ⟨p0, p1⟩ := has_nat hq (by omega)
    obtain ⟨j, rfl⟩ : ∃ j : Nat, id = (j : Int) := ⟨id.toNat, by omega⟩
    refine (strip_yes hG h j (by omega)).mono ?_
    rintro e w' ⟨rfl, hk⟩
    exact ⟨_, by rw [Int.toNat_natCast], fun w'' _ => .nil, fun _ => rfl, fun e => by simp at e, hk⟩
set_option maxHeartbeats 2000000 in
theorem Strip_bad (hE : Env w a) (hT : TysAt w A l) (hn : l.length ≤ 9223372036854775807) (hH : l.length ≤ 1024 → Held l) (hG : ¬ Good l) (id : Int) :
    Calls Tryd.prog 8 #[.slice A l.length cl, .int .i64 id] w fun e w' => e = .returned (.tuple #[.int .i64 0, .int .i64 41]) ∧ Below w.heap.size w w' := by
  have CO := Lib.hid (open_any (cl := cl) hE hT hn hH)
  have HE := Lib.hid hE
  have HG := Lib.hid hG
  clear hE hT hn hH hG
  go_enter Tryd.func8, Tryd.ntmps8
  go_upto_region 2 with (go_at_call 9; refine CO.out.mono ?_; rintro e w1 ⟨hb, ⟨hg, _⟩ | ⟨_, v, rfl, hv, he, _⟩⟩; (exact absurd hg HG.out); have HB := Lib.hid hb; have CE := Lib.hid (errno_any (HE.out.below hb) he); have HS := Lib.hid (err_shape he hv); clear hb he hv)
  rcases HS.out with ⟨i, rfl⟩ | ⟨p, rfl⟩
  all_goals (
    go_wp2_with (go_at_call 10; refine CE.out.mono ?_; rintro e w2 ⟨rfl, rfl⟩)
    go_ret2
    exact ⟨rfl, HB.out⟩)
set_option maxHeartbeats 2000000 in
theorem Strip_good (hE : Env w a) (hT : TysAt w A l) (hn : l.length ≤ 9223372036854775807) (hH : l.length ≤ 1024 → Held l) (hG : Good l) (id : Int) :
    Calls Tryd.prog 8 #[.slice A l.length cl, .int .i64 id] w fun e w' => e = .returned (.tuple #[.int .i64 (stripR l id).1, .int .i64 (stripR l id).2]) ∧ Below w.heap.size w w' := by
  have CO := Lib.hid (open_any (cl := cl) hE hT hn hH)
  have HE := Lib.hid hE
  have HG := Lib.hid hG
  clear hE hT hn hH hG
  go_enter Tryd.func8, Tryd.ntmps8
  go_upto_region 4 with (go_at_call 9; refine CO.out.mono ?_; rintro e w1 ⟨hb, ⟨_, τ, Z, rfl, hx⟩ | ⟨hg, _⟩⟩; rotate_left; (exact absurd HG.out hg); have HB := Lib.hid hb; have HX := Lib.hid hx; clear hb hx)
  have CS := Lib.hid (strip_any HG.out HX.out id)
  go_upto_region 5 with (go_at_call 16; refine CS.out.mono ?_; rintro e w2 ⟨v, rfl, hv, _, _, hb⟩; have HV := Lib.hid hv; have B2 := Lib.hid (HB.out.trans (hb.mono HB.out.size)); clear hv hb)
  have he2 := HE.out.below B2.out
  have CE := Lib.hid (errno_any he2 (HV.out w2 he2))
  clear he2
  go_wp2_with (go_at_call 10; refine CE.out.mono ?_; rintro e w3 ⟨rfl, rfl⟩)
  go_ret2
  exact ⟨rfl, B2.out⟩
end
end Go.Proofs.YthilkgfbaddjpaaDoor
