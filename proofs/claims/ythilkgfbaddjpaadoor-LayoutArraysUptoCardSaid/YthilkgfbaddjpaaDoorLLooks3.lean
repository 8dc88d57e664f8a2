/-
  Layer 7: lookMembers.
-/
import Derived.Test.YthilkgfbaddjpaaDoorLLooks2
namespace Go.Proofs.YthilkgfbaddjpaaDoor
open Go Go.RowKit
set_option linter.unusedVariables false
set_option linter.unusedSimpArgs false
set_option maxRecDepth 100000
def okM (zs : List (Int × Nat)) (t : Ty) : Bool := if t.kind = 4 then withinB zs t else true
structure Well (l : List Ty) : Prop where
  few : l.length ≤ 1024
  alone : l.all (aloneB l.length) = true
  mems : ∀ t ∈ l, t.mems.length ≤ 1048576
  offs : ∀ t ∈ l, ∀ m ∈ t.mems, m.off ≤ 9223372036854775807
theorem alone_mems {n : Int} {t : Ty} (h : aloneB n t = true) (hk : t.kind = 4) : ∀ m ∈ t.mems, memB n m = true := by
  unfold aloneB at h
  simp [hk] at h
  exact h.2.2
section
variable {w : World} {a : Nat → Addr} {A : Option Addr} {cl : Nat} {l : List Ty} {τ Z : Nat} {zs : List (Int × Nat)}
set_option maxHeartbeats 2000000 in
theorem lookMembers_any (h : TX w a A cl l τ Z zs) (hf : ∀ z ∈ zs, Fair z) (hW : Well l) :
    Calls Tryd.prog 21 #[.pointer (some ⟨τ, 0, none⟩)] w (PostFault w a 7 (l.all (okM zs) = true) (l.all (okM zs) = false)) := by
  have c0 : w.cell? ⟨τ, 0, none⟩ = some (.slice A l.length cl) := h.blk.cell 0
  have i1 : (l.length : Int) ≤ 1024 := by have := h.few; omega
  have H := Lib.hid h
  have HF := Lib.hid hf
  have HWL := Lib.hid hW
  clear h hf hW
  go_enter Tryd.func21, Tryd.ntmps21
  go_wp2_with fail
  clear c0
  go_loopw [3, 4, 10] (fun _ _ i wr => ∃ k : Nat, k ≤ l.length ∧ i = .int .i64 k ∧ Below w.heap.size w wr ∧ (l.take k).all (okM zs) = true) (fun _ _ i _ => l.length - (intOf i).toNat)
  case atStart => exact ⟨0, Nat.zero_le _, rfl, Below.refl _ _, rfl⟩
  case round =>
    obtain ⟨k, hk, rfl, hb, hall⟩ := hrel
    have HB := Lib.hid hb
    have HALL := Lib.hid hall
    clear hb hall
    by_cases hkn : k < l.length
    · obtain ⟨t, ht⟩ : ∃ t, l[k]? = some t := ⟨_, List.getElem?_eq_getElem hkn⟩
      have hmem := List.mem_of_getElem? ht
      have HX := Lib.hid (H.out.below HB.out)
      obtain ⟨b1, o1, A', c', rfl, hlt1, x0, x1, x2, x3, x4, x5, hm1, hs1, hn1⟩ := HX.out.types k t ht
      have g1 : decide (k < l.length) = true := by simpa using hkn
      have i2 : (k : Int) < (l.length : Int) := by omega
      have i3 : (0 : Int) ≤ (k : Int) := by omega
      have HK : Hid (k < l.length) := hkn
      have b2 : Below wr.heap.size wr (wr.alloc (.cells (tyCells t (.slice A' t.mems.length c')) 34)) := (Below.refl _ wr).alloc (Nat.le_refl _) _
      have HT5 := Lib.hid (Blk.new wr 34 (tyCells t (.slice A' t.mems.length c')))
      have B5 := Lib.hid (HB.out.trans (b2.mono HB.out.size))
      have HG : Hid (okM zs t = true → (l.take (k + 1)).all (okM zs) = true) := all_take_succ _ _ _ _ ht HALL.out
      have HN : Hid (okM zs t = false → l.all (okM zs) = false) := all_bad _ _ _ _ ht
      have CW : Hid (t.kind = 4 → Calls Tryd.prog 32 #[.pointer (some ⟨τ, 0, none⟩), tyV t (.slice A' t.mems.length c')] (wr.alloc (.cells (tyCells t (.slice A' t.mems.length c')) 34)) fun e w' => e = .returned (.bool (withinB zs t)) ∧ Below (wr.alloc (.cells (tyCells t (.slice A' t.mems.length c')) 34)).heap.size (wr.alloc (.cells (tyCells t (.slice A' t.mems.length c')) 34)) w') :=
        fun hk4 => within_any (HX.out.below b2) HF.out t A' c' (hm1.below b2) (alone_mems (List.all_eq_true.1 HWL.out.alone t hmem) hk4) (HWL.out.offs t hmem) (HWL.out.mems t hmem)
      unfold okM at HG HN
      obtain ⟨kd, nm, sz, ty, ct, ms⟩ := t
      unfold tyV tyCells at CW
      unfold tyCells at HT5 B5
      simp only at x0 x1 x2 x3 x4 x5 CW HT5 B5 HG HN hn1 hs1
      clear hkn ht hmem hm1 b2
      go_upto_region 4 with fail
      generalize World.alloc _ _ = w5 at CW HT5 B5 ⊢
      clear x0 x1 x2 x3 x4 x5
      have y0 : w5.cell? ⟨wr.heap.size, 0, none⟩ = some (.int .i64 kd) := HT5.out.cell 0
      have y1 : w5.cell? ⟨wr.heap.size, 1, none⟩ = some (.string nm) := HT5.out.cell 1
      have y2 : w5.cell? ⟨wr.heap.size, 2, none⟩ = some (.int .i64 sz) := HT5.out.cell 2
      have y3 : w5.cell? ⟨wr.heap.size, 3, none⟩ = some (.int .i64 ty) := HT5.out.cell 3
      have y4 : w5.cell? ⟨wr.heap.size, 4, none⟩ = some (.int .i64 ct) := HT5.out.cell 4
      have y5 : w5.cell? ⟨wr.heap.size, 5, none⟩ = some (.slice A' ms.length c') := HT5.out.cell 5
      by_cases k4 : kd = 4
      · subst k4
        have C := Lib.hid (CW.out rfl)
        rw [if_pos rfl] at HG HN
        generalize withinB zs _ = q at *
        cases q
        · have HF2 := Lib.hid (HN.out rfl)
          clear HG HN CW
          go_wp2_with (go_at_call 32; refine C.out.mono ?_; rintro e w6 ⟨rfl, hb⟩; have B6 := Lib.hid (B5.out.trans (hb.mono B5.out.size)); have d7 : w6.cell? ⟨7, 0, none⟩ = some (sent a 7) := (H.out.env.below B6.out).cell 7 (by decide); clear hb)
          go_ret
          exact ⟨B6.out.alloc B6.out.size _, .inr ⟨w6.heap.size, _, rfl, Blk.new w6 _ _, HF2.out⟩⟩
        · have HG1 := Lib.hid (HG.out rfl)
          clear HG HN CW
          go_wp2_with (go_at_call 32; refine C.out.mono ?_; rintro e w6 ⟨rfl, hb⟩; have B6 := Lib.hid (B5.out.trans (hb.mono B5.out.size)); clear hb)
          go_roundw
          case rel => exact ⟨k + 1, HK.out, by go_num, B6.out, HG1.out⟩
          case measure => have := HK.out; simp [intOf]; omega
      · have g4 : (kd == 4) = false := by simpa using k4
        rw [if_neg k4] at HG
        have HG1 := Lib.hid (HG.out rfl)
        clear HG HN CW k4
        go_wp2_with fail
        go_roundw
        case rel => exact ⟨k + 1, HK.out, by go_num, B5.out, HG1.out⟩
        case measure => have := HK.out; simp [intOf]; omega
    · have : k = l.length := by omega
      subst this
      have g1 : decide (l.length < l.length) = false := by simp
      have HF2 : Hid (l.all (okM zs) = true) := by have := HALL.out; rwa [List.take_length] at this
      clear hkn hk
      go_wp2_with fail
      go_ret
      exact ⟨HB.out, .inl ⟨rfl, HF2.out⟩⟩
end
end Go.Proofs.YthilkgfbaddjpaaDoor
