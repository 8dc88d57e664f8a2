/-
  Layer 7: lookAlone; the small functions of a list of types.
-/
import Derived.Test.YthilkgfbaddjpaaDoorLEnv
namespace Go.Proofs.YthilkgfbaddjpaaDoor
open Go Go.RowKit
set_option linter.unusedVariables false
set_option linter.unusedSimpArgs false
set_option maxRecDepth 100000
def PostLook (w : World) (a : Nat → Addr) (i : Nat) (ok : Bool) (e : Ending) (w' : World) : Prop :=
  Below w.heap.size w w' ∧ ((ok = true ∧ e = .returned .nilIface) ∨ (ok = false ∧ ∃ p k, e = .returned (.iface 72 (.pointer (some ⟨p, 0, none⟩))) ∧ Blk w' p 74 #[.int .i64 k, sent a i]))
set_option maxHeartbeats 2000000 in
theorem lookAlone_any (A : Option Addr) (c : Nat) (l : List Ty) (hlen : l.length ≤ 1024) (a : Nat → Addr) (w : World) (hE : Env w a) (h : TysAt w A l) :
    Calls Tryd.prog 17 #[.slice A l.length c] w (PostLook w a 3 (l.all (aloneB l.length))) := by
  have i1 : (l.length : Int) ≤ 1024 := by omega
  have H := Lib.hid h
  have HE := Lib.hid hE
  clear h hlen hE
  go_enter Tryd.func17, Tryd.ntmps17
  go_wp2_with fail
  go_loopw [3, 4, 7] (fun u v i wr => ∃ k : Nat, k ≤ l.length ∧ i = .int .i64 k ∧ Below w.heap.size w wr ∧ (l.take k).all (aloneB l.length) = true) (fun _ _ i _ => l.length - (intOf i).toNat)
  case atStart => exact ⟨0, by omega, rfl, Below.refl _ _, rfl⟩
  case round =>
    obtain ⟨k, hk, rfl, hb, hall⟩ := hrel
    have HB := Lib.hid hb
    have HALL := Lib.hid hall
    clear hb hall
    by_cases hkn : k < l.length
    · obtain ⟨t, ht⟩ : ∃ t, l[k]? = some t := ⟨_, List.getElem?_eq_getElem hkn⟩
      obtain ⟨b1, o1, A', c', rfl, hlt1, x0, x1, x2, x3, x4, x5, hm1, hs1, hn1⟩ := (H.out.below HB.out) k t ht
      have HT := Lib.hid ht
      have g1 : decide (k < l.length) = true := by simpa using hkn
      have i2 : (k : Int) < (l.length : Int) := by omega
      have i3 : (0 : Int) ≤ (k : Int) := by omega
      have HK : Hid (k < l.length) := hkn
      have b2 : Below wr.heap.size wr (wr.alloc (.cells (tyCells t (.slice A' t.mems.length c')) 34)) := (Below.refl _ wr).alloc (Nat.le_refl _) _
      have CA := Lib.hid (alone_any t A' c' (l.length : Int) hn1 _ (hm1.below b2))
      have B2 : Hid (Below w.heap.size w (wr.alloc (.cells (tyCells t (.slice A' t.mems.length c')) 34))) := HB.out.alloc HB.out.size _
      have HGOOD : Hid (aloneB l.length t = true → (l.take (k + 1)).all (aloneB l.length) = true) := all_take_succ _ _ _ _ HT.out HALL.out
      have HBADD : Hid (aloneB l.length t = false → l.all (aloneB l.length) = false) := all_bad _ _ _ _ HT.out
      clear ht hkn hm1 hs1 hn1 b2
      obtain ⟨kd, nm, sz, ty, ct, ms⟩ := t
      unfold tyV tyCells at CA
      unfold tyCells at B2
      simp only at x0 x1 x2 x3 x4 x5 CA B2
      generalize aloneB l.length ⟨kd, nm, sz, ty, ct, ms⟩ = q at *
      cases q
      · have HF := Lib.hid (HBADD.out rfl)
        go_wp2_with (go_at_call 28; refine CA.out.mono ?_; rintro e w1 ⟨rfl, hb⟩; have B3 := Lib.hid (B2.out.trans (hb.mono B2.out.size)); have c3 : w1.cell? ⟨3, 0, none⟩ = some (sent a 3) := (HE.out.below B3.out).cell 3 (by decide); clear hb)
        go_ret
        exact ⟨B3.out.alloc B3.out.size _, .inr ⟨HF.out, w1.heap.size, (k : Int) + 1, rfl, Blk.new _ _ _⟩⟩
      · have HG := Lib.hid (HGOOD.out rfl)
        go_wp2_with (go_at_call 28; refine CA.out.mono ?_; rintro e w1 ⟨rfl, hb⟩; have B3 := Lib.hid (B2.out.trans (hb.mono B2.out.size)); clear hb)
        go_roundw
        case rel => exact ⟨k + 1, by have := HK.out; omega, by go_num, B3.out, HG.out⟩
        case measure => have := HK.out; simp [intOf]; omega
    · have : k = l.length := by omega
      subst this
      have g1 : decide (l.length < l.length) = false := by simp
      have HF : Hid (l.all (aloneB l.length) = true) := by have := HALL.out; rwa [List.take_length] at this
      go_wp2_with fail
      go_ret
      exact ⟨HB.out, .inl ⟨HF.out, rfl⟩⟩
end Go.Proofs.YthilkgfbaddjpaaDoor
