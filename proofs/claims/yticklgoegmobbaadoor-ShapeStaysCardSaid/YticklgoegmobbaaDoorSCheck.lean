/-
  Check and Next of package shape.
-/
import Derived.Test.YticklgoegmobbaaDoorSFirsts2
namespace Go.Proofs.YticklgoegmobbaaDoor
open Go Go.RowKit
set_option linter.unusedVariables false
set_option linter.unusedSimpArgs false
set_option maxRecDepth 100000
theorem firsts_bad (A : Option Addr) (n c k : Nat) (X : Nat → Slot) (w : World) (h : Slots w A n X) (hS : Sizes w) (hk : chk X n = some k) :
    Calls Tryd.prog 18 #[.slice A n c] w fun e w' => e = .returned (.tuple #[.slice none 0 0, .int .i64 (k : Int), .int .i64 32]) ∧ Below w.heap.size w w' :=
  (firsts_any A n c X w h hS).mono fun e w' ⟨h1, h2⟩ => by
    unfold FirstsAns at h1
    rw [hk] at h1
    exact ⟨h1, h2⟩
theorem firsts_good (A : Option Addr) (n c : Nat) (X : Nat → Slot) (w : World) (h : Slots w A n X) (hS : Sizes w) (hk : chk X n = none) :
    Calls Tryd.prog 18 #[.slice A n c] w fun e w' => (∃ g, w.heap.size ≤ g ∧ e = .returned (.tuple #[.slice (some ⟨g, 0, none⟩) n n, .int .i64 0, .int .i64 0]) ∧ Blk w' g 4 (rowB n (fst X))) ∧ Below w.heap.size w w' :=
  (firsts_any A n c X w h hS).mono fun e w' ⟨h1, h2⟩ => by
    unfold FirstsAns at h1
    rw [hk] at h1
    exact ⟨h1, h2⟩
def chkAt (X : Nat → Slot) (n : Nat) : Nat := (chk X n).getD 0
def chkE (X : Nat → Slot) (n : Nat) : Int := if chk X n = none then 0 else 32
theorem check_any (A : Option Addr) (n c : Nat) (X : Nat → Slot) (w : World) (h : Slots w A n X) (hS : Sizes w) :
    Calls Tryd.prog 7 #[.slice A n c] w fun e w' => e = .returned (.tuple #[.int .i64 (chkAt X n), .int .i64 (chkE X n)]) ∧ Below w.heap.size w w' := by
  unfold chkAt chkE
  cases hk : chk X n with
  | some k =>
    have CF := Lib.hid (firsts_bad A n c k X w h hS hk)
    clear h hS hk
    go_enter Tryd.func7, Tryd.ntmps7
    go_wp2_with (go_at_call 18; refine CF.out.mono ?_; rintro e w1 ⟨rfl, hb⟩; have HB := Lib.hid hb; clear hb)
    go_ret2
    exact ⟨by simp, HB.out⟩
  | none =>
    have CF := Lib.hid (firsts_good A n c X w h hS hk)
    clear h hS hk
    go_enter Tryd.func7, Tryd.ntmps7
    go_wp2_with (go_at_call 18; refine CF.out.mono ?_; rintro e w1 ⟨⟨g, _, rfl, _⟩, hb⟩; have HB := Lib.hid hb; clear hb)
    go_ret2
    exact ⟨by simp, HB.out⟩
open Classical in
/-- What Next tells. -/
noncomputable def nextAns (X : Nat → Slot) (n : Nat) (t : Int) : List Int := if chk X n = none ∧ holdsS X n t = true then nxt (X t.toNat) t.toNat else []
set_option maxHeartbeats 1000000 in
theorem Next_any (A : Option Addr) (n c : Nat) (X : Nat → Slot) (t : Int) (w : World) (h : Slots w A n X) (hS : Sizes w) :
    Calls Tryd.prog 15 #[.slice A n c, .int .i64 t] w fun e w' => (∃ v, e = .returned v ∧ Fresh w.heap.size w' v (nextAns X n t)) ∧ Below w.heap.size w w' := by
  cases hk : chk X n with
  | some k =>
    have CF := Lib.hid (firsts_bad A n c k X w h hS hk)
    have hN : Hid (nextAns X n t = []) := by unfold nextAns; rw [if_neg (by rintro ⟨h1, _⟩; rw [hk] at h1; cases h1)]; exact rfl
    clear h hS hk
    go_enter Tryd.func15, Tryd.ntmps15
    go_wp2_with (go_at_call 18; refine CF.out.mono ?_; rintro e w1 ⟨rfl, hb⟩; have HB := Lib.hid hb; clear hb)
    go_ret
    rw [hN.out]
    exact ⟨⟨_, rfl, .inl ⟨rfl, rfl⟩⟩, HB.out⟩
  | none =>
    have CF := Lib.hid (firsts_good A n c X w h hS hk)
    have hg := chk_none.1 hk
    have CH := Lib.hid (fun g w' h => holds_any g n n (fst X) t w' h)
    cases hh : (decide (0 ≤ t) && (decide (t < n) && fst X t.toNat))
    · have hN : Hid (nextAns X n t = []) := by unfold nextAns; rw [if_neg (by rintro ⟨_, h1⟩; unfold holdsS at h1; rw [hh] at h1; cases h1)]; exact rfl
      rw [hh] at CH
      clear h hS hk hg hh
      go_enter Tryd.func15, Tryd.ntmps15
      go_wp2_with (first
        | (go_at_call 18; refine CF.out.mono ?_; rintro e w1 ⟨⟨g, _, rfl, hr⟩, hb⟩; have HB := Lib.hid hb; have HR := Lib.hid hr; clear hb hr)
        | (go_at_call 25; refine (CH.out _ _ HR.out).mono ?_; rintro e w2 ⟨rfl, rfl⟩))
      go_ret
      rw [hN.out]
      exact ⟨⟨_, rfl, .inl ⟨rfl, rfl⟩⟩, HB.out⟩
    · have hN : Hid (nextAns X n t = nxt (X t.toNat) t.toNat) := by unfold nextAns; rw [if_pos ⟨hk, by unfold holdsS; exact hh⟩]; exact rfl
      have hh' : holdsS X n t = true := by unfold holdsS; exact hh
      obtain ⟨h1, h2, h3⟩ := holds_iff.1 hh'
      obtain ⟨k, rfl⟩ := Int.eq_ofNat_of_zero_le h1
      have hkn : k < n := by omega
      have hkf : fst X k = true := h3
      have hff := whole_f (hg.whole k hkn hkf)
      have hle := hg.le
      have CN : Hid (∀ w', Calls Tryd.prog 23 #[.agg #[.int .i64 (X k).o, .int .i64 (X k).d, .int .i64 (X k).s, .int .i64 (X k).f, .int .i64 (X k).m], .int .i64 (k : Int)] w' fun e w'' => (∃ v, e = .returned v ∧ Fresh w'.heap.size w'' v (nxt (X k) k)) ∧ Below w'.heap.size w' w'') := fun w' => next_any _ _ _ _ _ k (by omega) hff w'
      obtain ⟨b, off, hA, hlt, hc⟩ := h k hkn
      subst hA
      have HC := Lib.hid hc
      have HLT := Lib.hid hlt
      rw [hh] at CH
      rw [show ((k : Int)).toNat = k from rfl] at hN
      have i1 : (0 : Int) ≤ (k : Int) := by omega
      have i2 : (k : Int) < (n : Int) := by omega
      clear h hS hk hg hh hh' h1 h2 h3 hkf hff hle hlt hc hkn
      go_enter Tryd.func15, Tryd.ntmps15
      go_wp2_with (first
        | (go_at_call 18; refine CF.out.mono ?_; rintro e w1 ⟨⟨g, _, rfl, hr⟩, hb⟩; obtain ⟨c0, c1, c2, c3, c4⟩ := HC.out.below hb HLT.out; have HB := Lib.hid hb; have HR := Lib.hid hr; clear hb hr)
        | (go_at_call 25; refine (CH.out _ _ HR.out).mono ?_; rintro e w2 ⟨rfl, rfl⟩)
        | (go_at_call 23; refine (CN.out _).mono ?_; rintro e w3 ⟨⟨v, rfl, hf⟩, hb⟩; have HF := Lib.hid hf; have HB3 := Lib.hid (And.intro hb trivial); clear hb hf))
      go_ret
      rw [hN.out]
      have hs := HB.out.size
      refine ⟨⟨_, rfl, ?_⟩, HB.out.trans (HB3.out.1.mono hs)⟩
      rcases HF.out with h1 | ⟨g', h1, h2⟩
      · exact .inl h1
      · exact .inr ⟨g', Nat.le_trans hs h1, h2⟩
end Go.Proofs.YticklgoegmobbaaDoor
