/-
  Layer 7: open, walked.
-/
import Derived.Test.YthilkgfbaddjpaaDoorLLooks3
import Derived.Deep.QuietTactic
import Derived.BigQuiet
namespace Go.Proofs.YthilkgfbaddjpaaDoor
open Go Go.RowKit
set_option linter.unusedVariables false
set_option linter.unusedSimpArgs false
set_option maxRecDepth 100000
theorem codes_get {zs : List (Int × Nat)} (h : Codes zs) (j : Nat) (h1 : 1 ≤ j) : (zs.getD j (0, 0)).2 = 0 ∨ (zs.getD j (0, 0)).2 = 6 := by
  rw [List.getD_eq_getElem?_getD]
  cases e : zs[j]? with
  | none => exact .inl rfl
  | some z => exact h j z h1 e
theorem msr_code {zs : List (Int × Nat)} (h : Codes zs) {n : Int} {t : Ty} (ha : aloneB n t = true) : (msrA zs t).2 = 0 ∨ (msrA zs t).2 = 6 := by
  unfold msrA
  split
  · exact .inl rfl
  · split
    · rename_i h8
      have := alone_type ha (.inl h8)
      exact codes_get h _ (by omega)
    · split
      · rename_i h3
        have := alone_type ha (.inr h3)
        have := codes_get h t.ty.toNat (by omega)
        unfold repA
        split
        · exact .inl rfl
        · split
          · split
            · exact .inr rfl
            · exact .inl rfl
          · exact this
      · exact .inl rfl
theorem codes_meas {l : List Ty} (hal : l.all (aloneB l.length) = true) : ∀ (ids : List Nat) (zs : List (Int × Nat)), Codes zs → Codes (ids.foldl (measT l) zs)
  | [], zs, h => h
  | i :: ids, zs, h => by
    refine codes_meas hal ids (measT l zs i) fun j z h1 hz => ?_
    unfold measT at hz
    split at hz
    · rename_i t ht
      rw [List.getElem?_set] at hz
      split at hz
      · split at hz
        · cases hz
          exact msr_code h (List.all_eq_true.1 hal t (List.mem_of_getElem? ht))
        · cases hz
      · exact h j z h1 hz
    · exact h j z h1 hz
theorem z0_codes (n : Nat) : Codes (z0 n) := by
  intro j z h1 hz
  unfold z0 at hz
  obtain ⟨i, rfl⟩ : ∃ i, j = i + 1 := ⟨j - 1, by omega⟩
  rw [List.getElem?_cons_succ, List.getElem?_replicate] at hz
  split at hz
  · cases hz; exact .inl rfl
  · cases hz
/-- The sizes of all types of l. -/
def szL (l : List Ty) : List (Int × Nat) := measL l (allL l).order
structure Good (l : List Ty) : Prop where
  few : l.length ≤ 1024
  alone : l.all (aloneB l.length) = true
  loops : (allL l).loops = []
  sizes : ∀ j z, 1 ≤ j → (szL l)[j]? = some z → z.2 = 0
  mems : l.all (okM (szL l)) = true
/-- What the walk asks of the list's bulk. -/
structure Held (l : List Ty) : Prop where
  mems : ∀ t ∈ l, t.mems.length ≤ 1048576
  offs : ∀ t ∈ l, ∀ m ∈ t.mems, m.off ≤ 9223372036854775807
  pot : pot (heldN l) l.length (start l.length) ≤ 4000000
def PostOpen (w : World) (a : Nat → Addr) (A : Option Addr) (cl : Nat) (l : List Ty) (e : Ending) (w' : World) : Prop :=
  Below w.heap.size w w' ∧ ((Good l ∧ ∃ τ Z, e = .returned (.tuple #[.pointer (some ⟨τ, 0, none⟩), .nilIface]) ∧ TX w' a A cl l τ Z (szL l)) ∨
    (¬ Good l ∧ ∃ v, e = .returned (.tuple #[.pointer none, v]) ∧ v ≠ .nilIface ∧ IsErr w' a v 41 ∧ (l.length ≤ 1024 → l.all (aloneB l.length) = true → (allL l).loops ≠ [] → ∃ p m : Nat, v = .iface 72 (.pointer (some ⟨p, 0, none⟩)) ∧ m ∈ (allL l).loops ∧ Blk w' p 74 #[.int .i64 (m : Int), sent a 4])))
section
variable {w : World} {a : Nat → Addr} {A : Option Addr} {cl : Nat} {l : List Ty}
theorem order_facts (hlen : l.length ≤ 1024) (hal : l.all (aloneB l.length) = true) (hl : (allL l).loops = []) : (∀ x ∈ (allL l).order, 1 ≤ x ∧ x ≤ l.length) ∧ (allL l).order.length ≤ 1024 := by
  have hE := held_ok hal
  have hN6 : l.length ≤ 1000000 := by omega
  refine ⟨(order_ok hN6 hE hl).2.1, ?_⟩
  have ht : tot (allL l) := tot_all l.length
  have hi := (all_spec hN6 hE l.length (Nat.le_refl _)).1
  have hc := hi.count_le
  unfold tot at ht
  have : (allL l).count ≤ l.length := hc
  omega
theorem fault_err {w : World} {p : Nat} {k : Int} {i : Nat} (hi : i < 9) (h1 : i ≠ 1) (h2 : i ≠ 2) (hb : Blk w p 74 #[.int .i64 k, sent a i]) : IsErr w a (.iface 72 (.pointer (some ⟨p, 0, none⟩))) 41 := .fault p k i hi h1 h2 hb
set_option maxHeartbeats 4000000 in
theorem open_any (hE : Env w a) (hT : TysAt w A l) (hn : l.length ≤ 9223372036854775807) (hH : l.length ≤ 1024 → Held l) :
    Calls Tryd.prog 9 #[.slice A l.length cl] w (PostOpen w a A cl l) := by
  have i1 : (l.length : Int) ≤ 9223372036854775807 := by omega
  have HE := Lib.hid hE
  have HT := Lib.hid hT
  by_cases hlen : l.length ≤ 1024
  · have hh := hH hlen
    have g0 : decide (1024 < l.length) = false := by simp; omega
    have g0' : decide ((1024 : Int) < (l.length : Int)) = false := by simp; omega
    have CL := Lib.hid (lookAlone_any A cl l hlen a w hE hT)
    have HH := Lib.hid hh
    have HLEN := Lib.hid hlen
    clear hE hT hH hn
    cases hal : l.all (aloneB l.length)
    · have HNG : Hid (¬ Good l) := fun g => by have := g.alone; rw [hal] at this; cases this
      rw [hal] at CL
      have HAL := Lib.hid hal
      clear hal hlen hh
      go_enter Tryd.func9, Tryd.ntmps9
      go_wp2_with (go_at_call 17; refine CL.out.mono ?_; rintro e w1 ⟨hb, ⟨hq, _⟩ | ⟨_, p, k, rfl, hk⟩⟩; (cases hq); have HB := Lib.hid hb; have HK := Lib.hid hk; clear hb hk)
      go_ret2
      exact ⟨HB.out, .inr ⟨HNG.out, _, rfl, (fun e => by cases e), fault_err (by decide) (by decide) (by decide) HK.out, fun _ h2 => by rw [HAL.out] at h2; cases h2⟩⟩
    · rw [hal] at CL
      have HAL := Lib.hid hal
      clear hal hlen hh
      go_enter Tryd.func9, Tryd.ntmps9
      go_upto_region 6 with (go_at_call 17; refine CL.out.mono ?_; rintro e w1 ⟨hb, ⟨_, rfl⟩ | ⟨hq, _⟩⟩; rotate_left; (cases hq); have HB1 := Lib.hid hb; clear hb)
      have CF := Lib.hid (first_any A cl l HLEN.out a w1 (HE.out.below HB1.out) (HT.out.below HB1.out) HAL.out HH.out.mems HH.out.pot)
      by_cases hl : (allL l).loops = []
      · have HL := Lib.hid hl
        obtain ⟨o1, o2⟩ := order_facts HLEN.out HAL.out hl
        have HO1 := Lib.hid o1
        have HO2 := Lib.hid o2
        clear hl o1 o2
        go_upto_region 9 with (go_at_call 18; refine CF.out.mono ?_; rintro e w2 ⟨hb, ⟨_, v, rfl, hv⟩ | ⟨hq, _⟩⟩; rotate_left; (exact absurd HL.out hq); have HB2 := Lib.hid (HB1.out.trans (hb.mono HB1.out.size)); have HV := Lib.hid hv; clear hb hv)
        have CM := Lib.hid (measured_any (cl := cl) (HE.out.below HB2.out) (HT.out.below HB2.out) HLEN.out HAL.out HV.out HO1.out (by have := HO2.out; omega))
        go_upto_region 10 with (go_at_call 19; refine CM.out.mono ?_; rintro e w3 ⟨τ, Z, rfl, hk⟩; have HB3 := Lib.hid (HB2.out.trans (hk.below.mono HB2.out.size)); have HX := Lib.hid hk.tx; clear hk)
        have hcd : Codes (szL l) := codes_meas HAL.out _ _ (z0_codes _)
        have hfair : ∀ z ∈ szL l, Fair z := measL_fair HAL.out _ _ (z0_fair _)
        have CS := Lib.hid (lookSizes_any HX.out hcd)
        have HFAIR := Lib.hid hfair
        clear hcd hfair
        by_cases hs : ∀ j z, 1 ≤ j → (szL l)[j]? = some z → z.2 = 0
        · have HS := Lib.hid hs
          clear hs
          go_upto_region 13 with (go_at_call 20; refine CS.out.mono ?_; rintro e w4 ⟨hb, ⟨rfl, _⟩ | ⟨_, _, _, _, j, z, h1, hz, h6⟩⟩; rotate_left; (have := HS.out j z h1 hz; omega); have HX4 := Lib.hid (HX.out.below hb); have HB4 := Lib.hid (HB3.out.trans (hb.mono HB3.out.size)); clear hb)
          have CB := Lib.hid (lookMembers_any HX4.out HFAIR.out ⟨HLEN.out, HAL.out, HH.out.mems, HH.out.offs⟩)
          cases hm : l.all (okM (szL l))
          · have HM := Lib.hid hm
            clear hm
            go_wp2_with (go_at_call 21; refine CB.out.mono ?_; rintro e w5 ⟨hb, ⟨rfl, hq⟩ | ⟨p, k, rfl, hk, _⟩⟩; (exact absurd (hq.symm.trans HM.out) (by decide)); have HB5 := Lib.hid (HB4.out.trans (hb.mono HB4.out.size)); have HK := Lib.hid hk; clear hb hk)
            go_ret2
            exact ⟨HB5.out, .inr ⟨(fun g => by have := g.mems; rw [HM.out] at this; cases this), _, rfl, (fun e => by cases e), fault_err (by decide) (by decide) (by decide) HK.out, fun _ _ h => absurd HL.out h⟩⟩
          · have HM := Lib.hid hm
            clear hm
            go_wp2_with (go_at_call 21; refine CB.out.mono ?_; rintro e w5 ⟨hb, ⟨rfl, hq⟩ | ⟨_, _, _, _, hq⟩⟩; rotate_left; (exact absurd (hq.symm.trans HM.out) (by decide)); have HB5 := Lib.hid (HB4.out.trans (hb.mono HB4.out.size)); have HX5 := Lib.hid (HX4.out.below hb); clear hb)
            go_ret2
            exact ⟨HB5.out, .inl ⟨⟨HLEN.out, HAL.out, HL.out, HS.out, HM.out⟩, _, _, rfl, HX5.out⟩⟩
        · have HS := Lib.hid hs
          clear hs
          go_wp2_with (go_at_call 20; refine CS.out.mono ?_; rintro e w4 ⟨hb, ⟨rfl, hq⟩ | ⟨p, k, rfl, hk, _⟩⟩; (exact absurd hq HS.out); have HB4 := Lib.hid (HB3.out.trans (hb.mono HB3.out.size)); have HK := Lib.hid hk; clear hb hk)
          go_ret2
          exact ⟨HB4.out, .inr ⟨fun g => HS.out g.sizes, _, rfl, (fun e => by cases e), fault_err (by decide) (by decide) (by decide) HK.out, fun _ _ h => absurd HL.out h⟩⟩
      · have HL := Lib.hid hl
        clear hl
        go_wp2_with (go_at_call 18; refine CF.out.mono ?_; rintro e w2 ⟨hb, ⟨hq, _⟩ | ⟨_, p, m, hm, rfl, hk⟩⟩; (exact absurd hq HL.out); have HB2 := Lib.hid (HB1.out.trans (hb.mono HB1.out.size)); have HK := Lib.hid hk; have HM := Lib.hid hm; clear hb hk hm)
        go_ret2
        exact ⟨HB2.out, .inr ⟨fun g => HL.out g.loops, _, rfl, (fun e => by cases e), fault_err (by decide) (by decide) (by decide) HK.out, fun _ _ _ => ⟨p, m, rfl, HM.out, HK.out⟩⟩⟩
  · have HNG : Hid (¬ Good l) := fun g => hlen g.few
    have HLEN := Lib.hid hlen
    have g0 : decide (1024 < l.length) = true := by simp; omega
    have g0' : decide ((1024 : Int) < (l.length : Int)) = true := by simp; omega
    have d0 : w.cell? ⟨0, 0, none⟩ = some (sent a 0) := hE.cell 0 (by decide)
    clear hE hT hH hlen
    go_enter Tryd.func9, Tryd.ntmps9
    go_upto_region 2 with fail
    go_quiet (fail)
    go_wp2
    go_ret2
    exact ⟨belowDrew _ _, .inr ⟨HNG.out, _, rfl, (fun e => by cases e), .sent 0 (by decide), fun h => absurd h HLEN.out⟩⟩
end
end Go.Proofs.YthilkgfbaddjpaaDoor
