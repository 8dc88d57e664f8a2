/-
  Layer 7: Field.
-/
import Derived.Test.YthilkgfbaddjpaaDoorLField
namespace Go.Proofs.YthilkgfbaddjpaaDoor
open Go Go.RowKit
set_option linter.unusedVariables false
set_option linter.unusedSimpArgs false
set_option maxRecDepth 100000
/-- What Field answers where all types are well: the place, the type, the number. -/
def fieldR (l : List Ty) (id : Int) (ps : List ByteArray) : Int × Int × Int :=
  if hasB id l.length = true then (match walkP l ps 0 id.toNat with | some x => (x.1, ((x.2 : Nat) : Int), 0) | none => (0, 0, 4)) else (0, 0, 1)
section
variable {w : World} {a : Nat → Addr} {A : Option Addr} {cl : Nat} {l : List Ty} {τ Z : Nat} {zs : List (Int × Nat)}
theorem field_no (h : TX w a A cl l τ Z zs) (id : Int) (hq : hasB id l.length = false) (v : Value) :
    Calls Tryd.prog 11 #[.pointer (some ⟨τ, 0, none⟩), .int .i64 id, v] w fun e w' => e = .returned (.tuple #[.int .i64 0, .int .i64 0, sent a 1]) ∧ Below w.heap.size w w' := by
  have CH := Lib.hid (has_any h id)
  rw [hq] at CH
  have d1 : w.cell? ⟨1, 0, none⟩ = some (sent a 1) := h.env.cell 1 (by decide)
  clear h hq
  go_enter Tryd.func11, Tryd.ntmps11
  go_upto_region 2 with (go_at_call 23; refine CH.out.mono ?_; rintro e w1 ⟨rfl, rfl⟩)
  go_quiet (fail)
  go_wp2_with fail
  go_ret3
  exact ⟨rfl, belowDrew _ _⟩
theorem field_any (hG : Good l) (h : TX w a A cl l τ Z zs) (hms : ∀ t ∈ l, t.mems.length ≤ 1048576) (id : Int) (P : Option Addr) (cp : Nat) (ps : List ByteArray) (hP : StrAt w P ps) (hps : ps.length ≤ 1048576) :
    Calls Tryd.prog 11 #[.pointer (some ⟨τ, 0, none⟩), .int .i64 id, .slice P ps.length cp] w fun e w' => ∃ v, e = .returned (.tuple #[.int .i64 (fieldR l id ps).1, .int .i64 (fieldR l id ps).2.1, v]) ∧ (∀ w'', Env w'' a → IsErr w'' a v (fieldR l id ps).2.2) ∧ Below w.heap.size w w' := by
  unfold fieldR
  cases hq : hasB id l.length
  · rw [if_neg (by simp)]
    refine (field_no h id hq _).mono ?_
    rintro e w' ⟨rfl, hk⟩
    exact ⟨_, rfl, fun w'' _ => .sent 1 (by decide), hk⟩
  · rw [if_pos rfl]
    obtain ⟨p0, p1⟩ := has_nat hq (by omega)
    obtain ⟨j, rfl⟩ : ∃ j : Nat, id = (j : Int) := ⟨id.toNat, by omega⟩
    refine (field_yes hG h j (by omega) hms P cp ps hP hps).mono ?_
    rw [Int.toNat_natCast]
    rintro e w' ⟨hb, ⟨x, hx, rfl⟩ | ⟨hx, rfl⟩⟩
    · rw [hx]; exact ⟨_, rfl, fun w'' _ => .nil, hb⟩
    · rw [hx]; exact ⟨_, rfl, fun w'' _ => .sent 2 (by decide), hb⟩
set_option maxHeartbeats 2000000 in
theorem Field_bad (hE : Env w a) (hT : TysAt w A l) (hn : l.length ≤ 9223372036854775807) (hH : l.length ≤ 1024 → Held l) (hG : ¬ Good l) (id : Int) (u : Value) :
    Calls Tryd.prog 5 #[.slice A l.length cl, .int .i64 id, u] w fun e w' => e = .returned (.tuple #[.int .i64 0, .int .i64 0, .int .i64 41]) ∧ Below w.heap.size w w' := by
  have CO := Lib.hid (open_any (cl := cl) hE hT hn hH)
  have HE := Lib.hid hE
  have HG := Lib.hid hG
  clear hE hT hn hH hG
  go_enter Tryd.func5, Tryd.ntmps5
  go_upto_region 2 with (go_at_call 9; refine CO.out.mono ?_; rintro e w1 ⟨hb, ⟨hg, _⟩ | ⟨_, v, rfl, hv, he, _⟩⟩; (exact absurd hg HG.out); have HB := Lib.hid hb; have CE := Lib.hid (errno_any (HE.out.below hb) he); have HS := Lib.hid (err_shape he hv); clear hb he hv)
  rcases HS.out with ⟨i, rfl⟩ | ⟨p, rfl⟩
  all_goals (
    go_wp2_with (go_at_call 10; refine CE.out.mono ?_; rintro e w2 ⟨rfl, rfl⟩)
    go_ret3
    exact ⟨rfl, HB.out⟩)
set_option maxHeartbeats 2000000 in
theorem Field_good (hE : Env w a) (hT : TysAt w A l) (hn : l.length ≤ 9223372036854775807) (hH : l.length ≤ 1024 → Held l) (hG : Good l) (id : Int) (P : Option Addr) (cp : Nat) (ps : List ByteArray) (hP : StrAt w P ps) (hps : ps.length ≤ 1048576) :
    Calls Tryd.prog 5 #[.slice A l.length cl, .int .i64 id, .slice P ps.length cp] w fun e w' => e = .returned (.tuple #[.int .i64 (fieldR l id ps).1, .int .i64 (fieldR l id ps).2.1, .int .i64 (fieldR l id ps).2.2]) ∧ Below w.heap.size w w' := by
  have CO := Lib.hid (open_any (cl := cl) hE hT hn hH)
  have HE := Lib.hid hE
  have HG := Lib.hid hG
  have HH := Lib.hid (hH hG.few)
  have HP := Lib.hid hP
  have HPS := Lib.hid hps
  clear hE hT hn hH hG hP hps
  go_enter Tryd.func5, Tryd.ntmps5
  go_upto_region 4 with (go_at_call 9; refine CO.out.mono ?_; rintro e w1 ⟨hb, ⟨_, τ, Z, rfl, hx⟩ | ⟨hg, _⟩⟩; rotate_left; (exact absurd HG.out hg); have HB := Lib.hid hb; have HX := Lib.hid hx; clear hb hx)
  have CS := Lib.hid (field_any HG.out HX.out HH.out.mems id P cp ps (HP.out.below HB.out) HPS.out)
  go_upto_region 5 with (go_at_call 11; refine CS.out.mono ?_; rintro e w2 ⟨v, rfl, hv, hb⟩; have HV := Lib.hid hv; have B2 := Lib.hid (HB.out.trans (hb.mono HB.out.size)); clear hv hb)
  have he2 := HE.out.below B2.out
  have CE := Lib.hid (errno_any he2 (HV.out w2 he2))
  clear he2
  go_wp2_with (go_at_call 10; refine CE.out.mono ?_; rintro e w3 ⟨rfl, rfl⟩)
  go_ret3
  exact ⟨rfl, B2.out⟩
end
end Go.Proofs.YthilkgfbaddjpaaDoor
