/-
  Layer 7: Size; at.
-/
import Derived.Test.YthilkgfbaddjpaaDoorLOpen0
namespace Go.Proofs.YthilkgfbaddjpaaDoor
open Go Go.RowKit
set_option linter.unusedVariables false
set_option linter.unusedSimpArgs false
set_option maxRecDepth 100000
def sizeR (l : List Ty) (id : Int) : Int × Int := if hasB id l.length = true then (((szL l).getD id.toNat (0, 0)).1, if ((szL l).getD id.toNat (0, 0)).2 = 0 then 0 else 41) else (0, 1)
theorem szL_len (l : List Ty) : (szL l).length = l.length + 1 := by
  unfold szL measL
  have : ∀ (ids : List Nat) (zs : List (Int × Nat)), (ids.foldl (measT l) zs).length = zs.length := fun ids => by
    induction ids with
    | nil => intro zs; rfl
    | cons i ids ih => intro zs; rw [List.foldl_cons, ih, measT_len]
  rw [this]
  simp [z0]
theorem has_nat {id n : Int} (h : hasB id n = true) (hn : 0 ≤ n) : 0 ≤ id ∧ id ≤ n := by
  unfold hasB leadsB at h
  simp at h
  omega
/-- Codes of all sizes, that of nothing too. -/
def Codes0 (zs : List (Int × Nat)) : Prop := ∀ z ∈ zs, z.2 = 0 ∨ z.2 = 5 ∨ z.2 = 6
theorem codes0_of {zs : List (Int × Nat)} {y : Int × Nat} (h : Codes zs) (h0 : zs[0]? = some y) (hy : y.2 = 0 ∨ y.2 = 5 ∨ y.2 = 6) : Codes0 zs := by
  intro z hz
  obtain ⟨j, hj⟩ := List.getElem?_of_mem hz
  cases j with
  | zero => rw [h0] at hj; cases hj; exact hy
  | succ j => rcases h (j + 1) z (by omega) hj with e | e <;> simp [e]
theorem meas_zero {l : List Ty} : ∀ (ids : List Nat) (zs : List (Int × Nat)) (y : Int × Nat), (∀ x ∈ ids, 1 ≤ x) → zs[0]? = some y → (ids.foldl (measT l) zs)[0]? = some y
  | [], zs, y, _, h => h
  | i :: ids, zs, y, hi, h => by
    refine meas_zero ids (measT l zs i) y (fun x hx => hi x (by simp [hx])) ?_
    unfold measT
    split
    · rw [List.getElem?_set, if_neg (by have := hi i (by simp); omega)]; exact h
    · exact h
theorem Good.zero {l : List Ty} (h : Good l) : (szL l)[0]? = some (0, 5) :=
  meas_zero _ _ _ (fun x hx => ((order_facts h.few h.alone h.loops).1 x hx).1) rfl
theorem Good.codes {l : List Ty} (h : Good l) : Codes0 (szL l) := codes0_of (codes_meas h.alone _ _ (z0_codes _)) h.zero (.inr (.inl rfl))
theorem Good.fair {l : List Ty} (h : Good l) : ∀ z ∈ szL l, Fair z := measL_fair h.alone _ _ (z0_fair _)
section
variable {w : World} {a : Nat → Addr} {A : Option Addr} {cl : Nat} {l : List Ty} {τ Z : Nat} {zs : List (Int × Nat)}
theorem err_shape {v : Value} {c : Int} (h : IsErr w a v c) (hv : v ≠ .nilIface) : (∃ i, v = sent a i) ∨ ∃ p, v = .iface 72 (.pointer (some ⟨p, 0, none⟩)) := by
  cases h with
  | nil => exact absurd rfl hv
  | sent i hi => exact .inl ⟨i, rfl⟩
  | fault p k i hi h1 h2 hb => exact .inr ⟨p, rfl⟩
theorem why_err (c : Nat) (hc : c = 0 ∨ c = 5 ∨ c = 6) : IsErr w a (whyV a c) (if c = 0 then 0 else 41) := by
  rcases hc with rfl | rfl | rfl
  · exact .nil
  · exact .sent 5 (by decide)
  · exact .sent 6 (by decide)
theorem size_any (hG : Good l) (h : TX w a A cl l τ Z (szL l)) (id : Int) :
    Calls Tryd.prog 15 #[.pointer (some ⟨τ, 0, none⟩), .int .i64 id] w fun e w' => ∃ v, e = .returned (.tuple #[.int .i64 (sizeR l id).1, v]) ∧ (∀ w'', Env w'' a → IsErr w'' a v (sizeR l id).2) ∧ ∃ k, w' = w.drewN k := by
  unfold sizeR
  cases hq : hasB id l.length
  · rw [if_neg (by simp)]
    refine (size_no h id hq).mono ?_
    rintro e w' ⟨rfl, hk⟩
    exact ⟨_, rfl, fun w'' _ => .sent 1 (by decide), hk⟩
  · rw [if_pos rfl]
    obtain ⟨p0, p1⟩ := has_nat hq (by omega)
    obtain ⟨j, rfl⟩ : ∃ j : Nat, id = (j : Int) := ⟨id.toNat, by omega⟩
    obtain ⟨z, hz⟩ : ∃ z, (szL l)[j]? = some z := ⟨_, List.getElem?_eq_getElem (by rw [szL_len]; omega)⟩
    rw [show (szL l).getD (j : Int).toNat (0, 0) = z by rw [Int.toNat_natCast, List.getD_eq_getElem?_getD, hz]; rfl]
    refine (size_yes h j (by omega) z hz).mono ?_
    rintro e w' ⟨rfl, hk⟩
    exact ⟨_, rfl, fun w'' _ => why_err z.2 (hG.codes z (List.mem_of_getElem? hz)), hk⟩
set_option maxHeartbeats 2000000 in
theorem Size_bad (hE : Env w a) (hT : TysAt w A l) (hn : l.length ≤ 9223372036854775807) (hH : l.length ≤ 1024 → Held l) (hG : ¬ Good l) (id : Int) :
    Calls Tryd.prog 7 #[.slice A l.length cl, .int .i64 id] w fun e w' => e = .returned (.tuple #[.int .i64 0, .int .i64 41]) ∧ Below w.heap.size w w' := by
  have CO := Lib.hid (open_any (cl := cl) hE hT hn hH)
  have HE := Lib.hid hE
  have HG := Lib.hid hG
  clear hE hT hn hH hG
  go_enter Tryd.func7, Tryd.ntmps7
  go_upto_region 2 with (go_at_call 9; refine CO.out.mono ?_; rintro e w1 ⟨hb, ⟨hg, _⟩ | ⟨_, v, rfl, hv, he, _⟩⟩; (exact absurd hg HG.out); have HB := Lib.hid hb; have CE := Lib.hid (errno_any (HE.out.below hb) he); have HS := Lib.hid (err_shape he hv); clear hb he hv)
  rcases HS.out with ⟨i, rfl⟩ | ⟨p, rfl⟩
  all_goals (
    go_wp2_with (go_at_call 10; refine CE.out.mono ?_; rintro e w2 ⟨rfl, rfl⟩)
    go_ret2
    exact ⟨rfl, HB.out⟩)
set_option maxHeartbeats 2000000 in
theorem Size_good (hE : Env w a) (hT : TysAt w A l) (hn : l.length ≤ 9223372036854775807) (hH : l.length ≤ 1024 → Held l) (hG : Good l) (id : Int) :
    Calls Tryd.prog 7 #[.slice A l.length cl, .int .i64 id] w fun e w' => e = .returned (.tuple #[.int .i64 (sizeR l id).1, .int .i64 (sizeR l id).2]) ∧ Below w.heap.size w w' := by
  have CO := Lib.hid (open_any (cl := cl) hE hT hn hH)
  have HE := Lib.hid hE
  have HG := Lib.hid hG
  clear hE hT hn hH hG
  go_enter Tryd.func7, Tryd.ntmps7
  go_upto_region 4 with (go_at_call 9; refine CO.out.mono ?_; rintro e w1 ⟨hb, ⟨_, τ, Z, rfl, hx⟩ | ⟨hg, _⟩⟩; rotate_left; (exact absurd HG.out hg); have HB := Lib.hid hb; have HX := Lib.hid hx; clear hb hx)
  have CS := Lib.hid (size_any HG.out HX.out id)
  go_upto_region 5 with (go_at_call 15; refine CS.out.mono ?_; rintro e w2 ⟨v, rfl, hv, k, rfl⟩; have HV := Lib.hid hv; clear hv)
  have B2 := Lib.hid (HB.out.trans ((belowDrew w1 k).mono HB.out.size))
  generalize World.drewN _ _ = w2 at B2 ⊢
  have he2 := HE.out.below B2.out
  have CE := Lib.hid (errno_any he2 (HV.out w2 he2))
  clear he2
  go_wp2_with (go_at_call 10; refine CE.out.mono ?_; rintro e w3 ⟨rfl, rfl⟩)
  go_ret2
  exact ⟨rfl, B2.out⟩
end
end Go.Proofs.YthilkgfbaddjpaaDoor
