/-
  Layer 7: strip.
-/
import Derived.Test.YthilkgfbaddjpaaDoorLStrip
namespace Go.Proofs.YthilkgfbaddjpaaDoor
open Go Go.RowKit
set_option linter.unusedVariables false
set_option linter.unusedSimpArgs false
set_option maxRecDepth 100000
def rkL (l : List Ty) (x : Nat) : Nat := (allL l).order.idxOf x
theorem idx_le : ∀ (l : List Nat) (i : Nat) (h : i < l.length), l.idxOf l[i] ≤ i
  | a :: l, 0, h => by simp
  | a :: l, i + 1, h => by
    have := idx_le l i (by simpa using h)
    simp only [List.getElem_cons_succ, List.idxOf_cons]
    have hi : i < l.length := by simpa using h
    cases (a == l[i]'hi) <;> simp <;> omega
theorem Good.rank {l : List Ty} (h : Good l) (x : Nat) (h1 : 1 ≤ x) (hN : x ≤ l.length) : ∀ p ∈ heldN l x, rkL l p < rkL l x := by
  intro p hp
  have hE := held_ok h.alone
  have hN6 : l.length ≤ 1000000 := by have := h.few; omega
  obtain ⟨o1, o2, o3⟩ := order_ok hN6 hE h.loops
  have hx := o1 x h1 hN
  have hlt : rkL l x < (allL l).order.length := List.idxOf_lt_length_of_mem hx
  have hsp : (allL l).order = (allL l).order.take (rkL l x) ++ x :: (allL l).order.drop (rkL l x + 1) := by
    have e : (allL l).order[rkL l x] = x := List.getElem_idxOf hlt
    conv => lhs; rw [← List.take_append_drop (rkL l x) (allL l).order, List.drop_eq_getElem_cons hlt, e]
  have hm := o3 _ x _ hsp p hp
  obtain ⟨i, hi, he⟩ := List.mem_iff_getElem.1 hm
  have hil : i < rkL l x := by rw [List.length_take] at hi; omega
  rw [List.getElem_take] at he
  have : rkL l p ≤ i := by
    unfold rkL
    rw [← he]
    exact idx_le _ _ _
  omega
theorem Good.rank_le {l : List Ty} (h : Good l) (x : Nat) : rkL l x ≤ 1024 := by
  have := (order_facts h.few h.alone h.loops).2
  have : rkL l x ≤ (allL l).order.length := List.idxOf_le_length
  omega
def stripF (l : List Ty) : Nat → Nat → Nat
  | 0, j => j
  | f + 1, j => if (tyAt l j).kind = 8 then stripF l f (tyAt l j).ty.toNat else j
def stripS (l : List Ty) (j : Nat) : Nat := stripF l 2000 j
theorem Good.typedef {l : List Ty} (h : Good l) {j : Nat} (hj : j ≤ l.length) (hk : (tyAt l j).kind = 8) : 1 ≤ j ∧ 1 ≤ (tyAt l j).ty ∧ (tyAt l j).ty ≤ l.length ∧ rkL l (tyAt l j).ty.toNat < rkL l j := by
  have h0 : j ≠ 0 := by
    rintro rfl
    unfold tyAt noTy at hk
    simp at hk
  obtain ⟨t, ht⟩ : ∃ t, l[j - 1]? = some t := ⟨_, List.getElem?_eq_getElem (by omega)⟩
  have hat : tyAt l j = t := by unfold tyAt; rw [if_neg h0, List.getD_eq_getElem?_getD, ht]; rfl
  rw [hat] at hk ⊢
  have ha := alone_type (List.all_eq_true.1 h.alone t (List.mem_of_getElem? ht)) (.inl hk)
  refine ⟨by omega, ha.1, ha.2, h.rank j (by omega) hj _ ?_⟩
  unfold heldN heldI
  rw [ht]
  unfold partsL
  simp [hk]
theorem field_kind (kd : Int) (nm : ByteArray) (sz ty ct : Int) (u : Value) (w : World) : (Instr.field 34 (.agg #[.int .i64 kd, .string nm, .int .i64 sz, .int .i64 ty, .int .i64 ct, u]) 0).run Tryd.prog w = .ok (.int .i64 kd) w := by kernel_rfl
theorem field_type (kd : Int) (nm : ByteArray) (sz ty ct : Int) (u : Value) (w : World) : (Instr.field 34 (.agg #[.int .i64 kd, .string nm, .int .i64 sz, .int .i64 ty, .int .i64 ct, u]) 3).run Tryd.prog w = .ok (.int .i64 ty) w := by kernel_rfl
section
variable {w : World} {a : Nat → Addr} {A : Option Addr} {cl : Nat} {l : List Ty} {τ Z : Nat} {zs : List (Int × Nat)}
set_option maxHeartbeats 4000000 in
theorem strip_yes (hG : Good l) (h : TX w a A cl l τ Z zs) (j : Nat) (hj : j ≤ l.length) :
    Calls Tryd.prog 16 #[.pointer (some ⟨τ, 0, none⟩), .int .i64 j] w fun e w' => e = .returned (.tuple #[.int .i64 (stripS l j), .nilIface]) ∧ Below w.heap.size w w' := by
  have CH := Lib.hid (has_any h j)
  rw [show hasB (j : Int) l.length = true by unfold hasB leadsB; rcases Nat.eq_zero_or_pos j with e | e <;> simp <;> omega] at CH
  have H := Lib.hid h
  have HG := Lib.hid hG
  have HJ := Lib.hid hj
  clear h hG hj
  go_enter Tryd.func16, Tryd.ntmps16
  go_upto_region 3 with (go_at_call 23; refine CH.out.mono ?_; rintro e w1 ⟨rfl, rfl⟩)
  clear CH
  go_loopw [1] (fun i wr => ∃ k f : Nat, k ≤ l.length ∧ i = .int .i64 k ∧ Below w.heap.size w wr ∧ rkL l k < f ∧ stripF l f k = stripS l j) (fun i _ => rkL l (intOf i).toNat)
  case atStart => exact ⟨j, 2000, HJ.out, rfl, Below.refl _ _, by have := HG.out.rank_le j; omega, rfl⟩
  case round =>
    obtain ⟨k, f, hk, rfl, hb, hr, hs⟩ := hrel
    have HB := Lib.hid hb
    obtain ⟨f, rfl⟩ : ∃ f', f = f' + 1 := ⟨f - 1, by omega⟩
    have HX := H.out.below hb
    have C1 := Lib.hid (at_any HX k hk)
    have hsu : stripF l (f + 1) k = if (tyAt l k).kind = 8 then stripF l f (tyAt l k).ty.toNat else k := rfl
    rw [hsu] at hs
    have HK := Lib.hid hk
    have HR := Lib.hid hr
    by_cases h8 : (tyAt l k).kind = 8
    · obtain ⟨k1, t1, t2, t3⟩ := HG.out.typedef hk h8
      rw [if_pos h8] at hs
      have HS := Lib.hid hs
      generalize htk : tyAt l k = t at *
      have HTK := Lib.hid htk
      clear htk
      obtain ⟨kd, nm, sz, ty, ct, ms⟩ := t
      simp only at h8 t1 t2 t3 HS C1
      subst h8
      obtain ⟨q, rfl⟩ : ∃ q : Nat, ty = (q : Int) := ⟨ty.toNat, by omega⟩
      rw [Int.toNat_natCast] at t3 HS
      have HT3 := Lib.hid t3
      have HT2 : Hid (q ≤ l.length) := by show _ ≤ _; omega
      unfold PostAt tyV at C1
      simp only at C1
      clear hb hr HX hsu hs t1 t2 t3 k1 hk
      have hfk := field_kind 8 nm sz q ct
      have hft := field_type 8 nm sz q ct
      go_upto_region 4 with (go_at_call 27; refine C1.out.mono ?_; rintro e w2 ⟨hb, A', c', rfl, _⟩; have HB2 := Lib.hid (HB.out.trans (hb.mono HB.out.size)); clear hb)
      have C2 := Lib.hid (at_any (H.out.below HB2.out) k HK.out)
      rw [HTK.out] at C2
      unfold PostAt tyV at C2
      simp only at C2
      go_wp2_with (go_at_call 27; refine C2.out.mono ?_; rintro e w3 ⟨hb, A2, c2, rfl, _⟩; have HB3 := Lib.hid (HB2.out.trans (hb.mono HB2.out.size)); clear hb)
      go_roundw
      case rel => exact ⟨q, f, HT2.out, rfl, HB3.out, by have := HT3.out; have := HR.out; omega, HS.out⟩
      case measure => have := HT3.out; simp [intOf]; omega
    · rw [if_neg h8] at hs
      have HS := Lib.hid hs
      generalize tyAt l k = t at *
      obtain ⟨kd, nm, sz, ty, ct, ms⟩ := t
      unfold PostAt tyV at C1
      simp only at h8 C1
      have g8 : (kd == 8) = false := by simpa using h8
      clear hb hr HX hsu hs hk h8
      have hfk := field_kind kd nm sz ty ct
      go_wp2_with (go_at_call 27; (refine C1.out.mono ?_; rintro e w2 ⟨hb, A', c', rfl, _⟩; have HB2 := Lib.hid (HB.out.trans (hb.mono HB.out.size)); clear hb))
      go_ret2
      exact ⟨congrArg (fun x : Nat => Ending.returned (.tuple #[.int .i64 (x : Int), .nilIface])) HS.out, HB2.out⟩
end
end Go.Proofs.YthilkgfbaddjpaaDoor
