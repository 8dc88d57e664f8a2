/-
  Layer 7: measured.
-/
import Derived.Test.YthilkgfbaddjpaaDoorLMeas2
import Derived.Deep.RegionWith
namespace Go.Proofs.YthilkgfbaddjpaaDoor
open Go Go.RowKit
set_option linter.unusedVariables false
set_option linter.unusedSimpArgs false
set_option maxRecDepth 100000
def z0 (n : Nat) : List (Int × Nat) := (0, 5) :: List.replicate n (0, 0)
def measT (l : List Ty) (zs : List (Int × Nat)) (id : Nat) : List (Int × Nat) := match l[id - 1]? with | some t => zs.set id (msrA zs t) | none => zs
def measL (l : List Ty) (ids : List Nat) : List (Int × Nat) := ids.foldl (measT l) (z0 l.length)
theorem measT_len (l : List Ty) (zs : List (Int × Nat)) (id : Nat) : (measT l zs id).length = zs.length := by unfold measT; split <;> simp
theorem measL_fair {l : List Ty} (hal : l.all (aloneB l.length) = true) (ids : List Nat) : ∀ zs, (∀ z ∈ zs, Fair z) → ∀ z ∈ ids.foldl (measT l) zs, Fair z := by
  induction ids with
  | nil => intro zs h; exact h
  | cons i ids ih =>
    intro zs h
    refine ih (measT l zs i) fun z hz => ?_
    unfold measT at hz
    split at hz
    · rename_i t ht
      rcases List.mem_or_eq_of_mem_set hz with hz | rfl
      · exact h z hz
      · exact msr_fair (List.all_eq_true.1 hal t (List.mem_of_getElem? ht)) h
    · exact h z hz
theorem z0_fair (n : Nat) : ∀ z ∈ z0 n, Fair z := by
  intro z hz
  unfold z0 at hz
  rcases List.mem_cons.1 hz with rfl | hz
  · exact ⟨by simp, by simp⟩
  · rw [(List.mem_replicate.1 hz).2]; exact ⟨by simp, by simp⟩
theorem measL_snoc (l : List Ty) (ids : List Nat) (k id : Nat) (h : ids[k]? = some id) : measL l (ids.take (k + 1)) = measT l (measL l (ids.take k)) id := by
  unfold measL
  rw [List.take_add_one, h, List.foldl_append]
  rfl
/-- The types as they lie, over a world from which nothing but they has changed. -/
structure TK (w W : World) (a : Nat → Addr) (A : Option Addr) (cl : Nat) (l : List Ty) (τ Z : Nat) (zs : List (Int × Nat)) : Prop where
  tx : TX W a A cl l τ Z zs
  below : Below w.heap.size w W
  hz : w.heap.size ≤ Z
theorem TK.set {w W : World} {a : Nat → Addr} {A : Option Addr} {cl : Nat} {l : List Ty} {τ Z : Nat} {zs : List (Int × Nat)} (he : Env w a) (ht : TysAt w A l) (h : TK w W a A cl l τ Z zs) (i : Nat) (hi : i < zs.length) (z : Int × Nat) :
    TK w ((W.setCell ⟨Z, i * 2, none⟩ (.int .i64 z.1)).setCell ⟨Z, i * 2 + 1, none⟩ (whyV a z.2)) a A cl l τ Z (zs.set i z) := by
  have hne : τ ≠ Z := h.tx.blk.ne_ h.tx.row (by decide)
  have b2 : Below w.heap.size w ((W.setCell ⟨Z, i * 2, none⟩ (.int .i64 z.1)).setCell ⟨Z, i * 2 + 1, none⟩ (whyV a z.2)) :=
    ⟨h.below.os, h.below.tape, h.below.output, by have := h.below.size; simp [World.setCell]; omega, fun k hk => by
      have hz := h.hz
      rw [Below.heap_setCell _ _ _ _ (by simp only; omega), Below.heap_setCell _ _ _ _ (by simp only; omega)]
      exact h.below.block k hk⟩
  refine ⟨⟨he.below b2, ht.below b2, h.tx.few, (h.tx.blk.far (p := ⟨Z, i * 2, none⟩) hne _).far (p := ⟨Z, i * 2 + 1, none⟩) hne _, ?_, by rw [List.length_set]; exact h.tx.len⟩, b2, h.hz⟩
  have := (h.tx.row.set_ (i * 2) (.int .i64 z.1)).set_ (i * 2 + 1) (whyV a z.2)
  rw [List.setIfInBounds_toArray, List.setIfInBounds_toArray, szC_set a zs i z hi] at this
  exact this
theorem TK.grow {w W W' : World} {a : Nat → Addr} {A : Option Addr} {cl : Nat} {l : List Ty} {τ Z : Nat} {zs : List (Int × Nat)} (h : TK w W a A cl l τ Z zs) (hb : Below W.heap.size W W') : TK w W' a A cl l τ Z zs :=
  ⟨h.tx.below hb, h.below.trans (hb.mono h.below.size), h.hz⟩
theorem TK.void {w W : World} {a : Nat → Addr} {A : Option Addr} {cl : Nat} {l : List Ty} {τ Z : Nat} {zs : List (Int × Nat)} {y : Int × Nat} (he : Env w a) (ht : TysAt w A l) (h : TK w W a A cl l τ Z (y :: zs)) (c : Nat) :
    TK w (W.setCell ⟨Z, 1, none⟩ (whyV a c)) a A cl l τ Z ((y.1, c) :: zs) := by
  have hne : τ ≠ Z := h.tx.blk.ne_ h.tx.row (by decide)
  have b2 : Below w.heap.size w (W.setCell ⟨Z, 1, none⟩ (whyV a c)) :=
    ⟨h.below.os, h.below.tape, h.below.output, by have := h.below.size; simp [World.setCell]; omega, fun k hk => by
      have hz := h.hz
      rw [Below.heap_setCell _ _ _ _ (by simp only; omega)]
      exact h.below.block k hk⟩
  refine ⟨⟨he.below b2, ht.below b2, h.tx.few, h.tx.blk.far (p := ⟨Z, 1, none⟩) hne _, ?_, h.tx.len⟩, b2, h.hz⟩
  have := h.tx.row.set_ 1 (whyV a c)
  rw [List.setIfInBounds_toArray] at this
  exact this
theorem start_tk {w : World} {a : Nat → Addr} {A : Option Addr} {cl : Nat} {l : List Ty} (he : Env w a) (ht : TysAt w A l) (hlen : l.length ≤ 1024) :
    TK w ((w.alloc (.cells (szC a (List.replicate (l.length + 1) (0, 0))).toArray 66)).alloc (.cells #[.slice A l.length cl, .slice (some ⟨w.heap.size, 0, none⟩) (l.length + 1) (l.length + 1)] 69)) a A cl l (w.heap.size + 1) w.heap.size (List.replicate (l.length + 1) (0, 0)) := by
  have hsz : (w.alloc (.cells (szC a (List.replicate (l.length + 1) (0, 0))).toArray 66)).heap.size = w.heap.size + 1 := by simp
  have hb := Blk.new (w.alloc (.cells (szC a (List.replicate (l.length + 1) (0, 0))).toArray 66)) 69 #[.slice A l.length cl, .slice (some ⟨w.heap.size, 0, none⟩) (l.length + 1) (l.length + 1)]
  rw [hsz] at hb
  have b2 : Below w.heap.size w ((w.alloc (.cells (szC a (List.replicate (l.length + 1) (0, 0))).toArray 66)).alloc (.cells #[.slice A l.length cl, .slice (some ⟨w.heap.size, 0, none⟩) (l.length + 1) (l.length + 1)] 69)) :=
    ((Below.refl _ w).alloc (Nat.le_refl _) _).alloc (by simp) _
  exact ⟨⟨he.below b2, ht.below b2, hlen, hb, (Blk.new w _ _).alloc _, by simp⟩, b2, Nat.le_refl _⟩
set_option maxHeartbeats 4000000 in
theorem measured_any {A : Option Addr} {cl : Nat} {l : List Ty} {a : Nat → Addr} {w : World} (hE : Env w a) (hT : TysAt w A l) (hlen : l.length ≤ 1024) (hal : l.all (aloneB l.length) = true) {v : Value} {base : Nat} {ids : List Nat} (hv : w.ownsRow base 3 1 v ids.length (natC ids)) (hids : ∀ x ∈ ids, 1 ≤ x ∧ x ≤ l.length) (hn : ids.length ≤ 1048576) :
    Calls Tryd.prog 19 #[.slice A l.length cl, v] w fun e w' => ∃ τ Z, e = .returned (.pointer (some ⟨τ, 0, none⟩)) ∧ TK w w' a A cl l τ Z (measL l ids) := by
  obtain ⟨OA, Oc, rfl⟩ := own_shape hv
  have i1 : (l.length : Int) ≤ 1024 := by omega
  have i2 : (ids.length : Int) ≤ 1048576 := by omega
  have HE := Lib.hid hE
  have HT := Lib.hid hT
  have HV := Lib.hid hv
  have HI := Lib.hid hids
  have HAL := Lib.hid hal
  have HLEN := Lib.hid hlen
  clear hE hT hv hids hal hlen hn
  go_enter Tryd.func19, Tryd.ntmps19
  have mk := make_sized a (l.length + 1) (by omega) w
  rw [show ((l.length + 1 : Nat) : Int) = (l.length : Int) + 1 from by omega] at mk
  go_upto_region 2 with fail
  have K1 := Lib.hid (start_tk (cl := cl) HE.out HT.out HLEN.out)
  clear mk
  generalize World.alloc _ _ = w1 at K1 ⊢
  have c1 : w1.cell? ⟨w.heap.size + 1, 1, none⟩ = some (.slice (some ⟨w.heap.size, 0, none⟩) (l.length + 1) (l.length + 1)) := K1.out.tx.blk.cell 1
  have d5 : w1.cell? ⟨5, 0, none⟩ = some (sent a 5) := K1.out.tx.env.cell 5 (by decide)
  have z1 : w1.cell? ⟨w.heap.size, 1, none⟩ = some .nilIface := by rw [K1.out.tx.row.cell]; rfl
  have f1 : w1.frozen? ⟨w.heap.size, 1, none⟩ = false := K1.out.tx.row.frozen 1
  have i3 : (0 : Int) < (l.length : Int) + 1 := by omega
  go_region_with fail
  all_goals (
    go_wp2
    have K2 : Hid (TK w (w1.setCell ⟨w.heap.size, 1, none⟩ (whyV a 5)).drew a A cl l (w.heap.size + 1) w.heap.size (z0 l.length)) := (K1.out.void (zs := List.replicate l.length (0, 0)) HE.out HT.out 5).grow (belowDrew' _)
    rw [whyV_ne a 5 (by decide)] at K2
    generalize World.drew _ = w2 at K2 ⊢
    clear c1 d5 z1 f1 i3 K1
    go_loopw [7, 8, 9, 26, 30] (fun _ _ _ i _ wr => ∃ k : Nat, k ≤ ids.length ∧ i = .int .i64 k ∧ TK w wr a A cl l (w.heap.size + 1) w.heap.size (measL l (ids.take k))) (fun _ _ _ i _ _ => ids.length - (intOf i).toNat)
    case atStart => exact ⟨0, Nat.zero_le _, rfl, K2.out⟩
    case round =>
      clear K2
      obtain ⟨k, hk, rfl, htk⟩ := hrel
      have HK := Lib.hid htk
      clear htk
      by_cases hkn : k < ids.length
      · obtain ⟨id, hid⟩ : ∃ x, ids[k]? = some x := ⟨_, List.getElem?_eq_getElem hkn⟩
        obtain ⟨h1, hN⟩ := HI.out id (List.mem_of_getElem? hid)
        obtain ⟨ob, hOA⟩ : ∃ ob, OA = some ⟨ob, 0, none⟩ := by
          rcases HV.out.2 with ⟨_, e0⟩ | ⟨ob, cap, cur, e0, _⟩
          · omega
          · cases e0; exact ⟨ob, rfl⟩
        subst hOA
        have co : wr.cell? ⟨ob, k, none⟩ = some (.int .i64 (id : Int)) := by
          have hr : wr.ownsRow base 3 1 (.slice (some ⟨ob, 0, none⟩) ids.length Oc) ids.length (natC ids) := row_block HV.out fun b hb => HK.out.below.block b (row_lt HV.out b hb)
          rw [hr.cellAt k (by omega)]
          exact natC_get _ _ _ hid
        obtain ⟨ty, hty⟩ : ∃ ty, l[id - 1]? = some ty := ⟨_, List.getElem?_eq_getElem (by omega)⟩
        have hal := List.all_eq_true.1 HAL.out ty (List.mem_of_getElem? hty)
        have hfair : ∀ z ∈ measL l (ids.take k), Fair z := measL_fair HAL.out _ _ (z0_fair _)
        obtain ⟨bA, oA, A', c', rfl, hltA, x0, x1, x2, x3, x4, x5, hm1, hs1, hn1⟩ := HK.out.tx.types (id - 1) ty hty
        have CP := Lib.hid (measure_any HK.out.tx hfair ty A' c' hal)
        have hst : measL l (ids.take (k + 1)) = (measL l (ids.take k)).set id (msrA (measL l (ids.take k)) ty) := by
          rw [measL_snoc l ids k id hid]
          unfold measT
          rw [hty]
        have hzl : (measL l (ids.take k)).length = l.length + 1 := HK.out.tx.len
        generalize measL l (ids.take k) = zs at *
        generalize hmz : msrA zs ty = mz at *
        have HST := Lib.hid hst
        obtain ⟨q0, hq0⟩ : ∃ q0, id - 1 = q0 := ⟨_, rfl⟩
        rw [hq0] at x0 x1 x2 x3 x4 x5
        have hq1 : (id : Int) - 1 = (q0 : Int) := by omega
        have j1 : (q0 : Int) < (l.length : Int) := by omega
        have j2 : (0 : Int) ≤ (q0 : Int) := by omega
        have j3 : (id : Int) < (l.length : Int) + 1 := by omega
        have j4 : (0 : Int) ≤ (id : Int) := by omega
        have i4 : (k : Int) < (ids.length : Int) := by omega
        have i5 : (0 : Int) ≤ (k : Int) := by omega
        have g1 : decide (k < ids.length) = true := by simpa using hkn
        have HKN : Hid (k < ids.length) := hkn
        have HIL : Hid (id < zs.length) := by show _ < _; omega
        obtain ⟨kd, nm, sz, ty, ct, ms⟩ := ty
        obtain ⟨mn, mc⟩ := mz
        unfold tyV PostZ at CP
        simp only at x0 x1 x2 x3 x4 x5 CP hn1 hs1
        clear hty hm1 hq0 hkn hid h1 hN hal hfair hst hzl hmz
        go_upto_region 7 with (go_at_call 31; refine CP.out.mono ?_; rintro e w7 ⟨rfl, hb⟩; have K3 := Lib.hid (HK.out.grow hb); clear hb)
        have c1 : w7.cell? ⟨w.heap.size + 1, 1, none⟩ = some (.slice (some ⟨w.heap.size, 0, none⟩) (l.length + 1) (l.length + 1)) := K3.out.tx.blk.cell 1
        obtain ⟨v1, e1⟩ : ∃ v, w7.cell? ⟨w.heap.size, id * 2, none⟩ = some v := by
          rw [K3.out.tx.row.cell]
          exact ⟨_, Array.getElem?_eq_getElem (by simp only [List.size_toArray, szC_len]; have := HIL.out; omega)⟩
        obtain ⟨v2, e2⟩ : ∃ v, w7.cell? ⟨w.heap.size, id * 2 + 1, none⟩ = some v := by
          rw [K3.out.tx.row.cell]
          exact ⟨_, Array.getElem?_eq_getElem (by simp only [List.size_toArray, szC_len]; have := HIL.out; omega)⟩
        have f1 : w7.frozen? ⟨w.heap.size, id * 2, none⟩ = false := K3.out.tx.row.frozen _
        have f2 : w7.frozen? ⟨w.heap.size, id * 2 + 1, none⟩ = false := K3.out.tx.row.frozen _
        have K4 := Lib.hid (K3.out.set HE.out HT.out id HIL.out (mn, mc))
        clear co x0 x1 x2 x3 x4 x5 K3
        have hw : whyV a mc = .nilIface ∨ whyV a mc = sent a mc := by unfold whyV; split <;> simp
        rcases hw with hw | hw <;> rw [hw] at K4 ⊢ <;> clear hw
        all_goals (
          go_upto_region 8 with fail
          generalize World.setCell _ _ _ = w9 at K4 ⊢
          clear c1 e1 e2 f1 f2 g1 hq1
          go_wp2_with fail
          go_roundw
          case rel => exact ⟨k + 1, HKN.out, by go_num, HST.out ▸ K4.out⟩
          case measure => have := HKN.out; simp [intOf]; omega)
      · have : k = ids.length := by omega
        subst this
        have g1 : decide (ids.length < ids.length) = false := by simp
        have HF : Hid (TK w wr a A cl l (w.heap.size + 1) w.heap.size (measL l ids)) := by have := HK.out; rwa [List.take_length] at this
        clear hkn hk
        go_wp2_with fail
        go_ret
        exact ⟨_, _, rfl, HF.out⟩)
end Go.Proofs.YthilkgfbaddjpaaDoor
