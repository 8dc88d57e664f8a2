/-
  Layer 7: within, lookMembers.
-/
import Derived.Test.YthilkgfbaddjpaaDoorLLooks
import Derived.IntWalk
namespace Go.Proofs.YthilkgfbaddjpaaDoor
open Go Go.RowKit
set_option linter.unusedVariables false
set_option linter.unusedSimpArgs false
set_option maxRecDepth 100000
def inB (zs : List (Int × Nat)) (size : Int) (m : Mem) : Bool := decide (m.off / 8 + (zs.getD m.ty.toNat (0, 0)).1 ≤ size)
def withinB (zs : List (Int × Nat)) (t : Ty) : Bool := t.mems.all (inB zs t.size)
section
variable {w : World} {a : Nat → Addr} {A : Option Addr} {cl : Nat} {l : List Ty} {τ Z : Nat} {zs : List (Int × Nat)}
set_option maxHeartbeats 2000000 in
theorem within_any (h : TX w a A cl l τ Z zs) (hf : ∀ z ∈ zs, Fair z) (t : Ty) (A' : Option Addr) (c' : Nat) (hm : MemsAt w A' t.mems) (hal : ∀ m ∈ t.mems, memB l.length m = true) (hoff : ∀ m ∈ t.mems, m.off ≤ 9223372036854775807) (hlen : t.mems.length ≤ 1048576) :
    Calls Tryd.prog 32 #[.pointer (some ⟨τ, 0, none⟩), tyV t (.slice A' t.mems.length c')] w fun e w' => e = .returned (.bool (withinB zs t)) ∧ Below w.heap.size w w' := by
  obtain ⟨kd, nm, sz, ty, ct, ms⟩ := t
  unfold tyV withinB
  simp only at hm hal hoff hlen ⊢
  have b1 : Below w.heap.size w (w.alloc (.cells #[.int .i64 kd, .string nm, .int .i64 sz, .int .i64 ty, .int .i64 ct, .slice A' ms.length c'] 34)) := (Below.refl _ w).alloc (Nat.le_refl _) _
  have HT := Lib.hid (Blk.new w 34 #[.int .i64 kd, .string nm, .int .i64 sz, .int .i64 ty, .int .i64 ct, .slice A' ms.length c'])
  have B1 := Lib.hid b1
  have H := Lib.hid h
  have HF := Lib.hid hf
  have HM := Lib.hid hm
  have HAL := Lib.hid hal
  have HOFF := Lib.hid hoff
  have i1 : (ms.length : Int) ≤ 1048576 := by omega
  clear h hf hm hal hoff hlen b1
  go_enter Tryd.func32, Tryd.ntmps32
  go_wp2_with fail
  generalize World.alloc _ _ = w1 at HT B1 ⊢
  go_loopw [6, 10] (fun _ i wr => ∃ k : Nat, k ≤ ms.length ∧ i = .int .i64 k ∧ Below w1.heap.size w1 wr ∧ (ms.take k).all (inB zs sz) = true) (fun _ i _ => ms.length - (intOf i).toNat)
  case atStart => exact ⟨0, Nat.zero_le _, rfl, Below.refl _ _, rfl⟩
  case round =>
    obtain ⟨k, hk, rfl, hb, hall⟩ := hrel
    have HB := Lib.hid hb
    have HALL := Lib.hid hall
    clear hb hall
    by_cases hkn : k < ms.length
    · obtain ⟨m, hmk⟩ : ∃ m, ms[k]? = some m := ⟨_, List.getElem?_eq_getElem hkn⟩
      have hmem := List.mem_of_getElem? hmk
      obtain ⟨bM, oM, rfl, hltM, u0, u1, u2, _⟩ := (HM.out.below B1.out |>.below HB.out) k m hmk
      have HG : Hid (inB zs sz m = true → (ms.take (k + 1)).all (inB zs sz) = true) := all_take_succ _ _ _ _ hmk HALL.out
      have HN : Hid (inB zs sz m = false → ms.all (inB zs sz) = false) := all_bad _ _ _ _ hmk
      have ha := HAL.out m hmem
      have ho := HOFF.out m hmem
      have HW1 : Hid (TX wr a A cl l τ Z zs) := (H.out.below B1.out).below HB.out
      have HT1 := HT.out.below_ HB.out
      obtain ⟨mn, mt, mo⟩ := m
      unfold memB leadsB at ha
      simp at ha
      obtain ⟨⟨t1, t2⟩, t3, t4⟩ := ha
      simp only at t1 t2 t3 t4 ho u0 u1 u2
      obtain ⟨j, rfl⟩ : ∃ j : Nat, mt = (j : Int) := ⟨mt.toNat, by omega⟩
      obtain ⟨z, hz⟩ : ∃ z, zs[j]? = some z := ⟨_, List.getElem?_eq_getElem (by have := H.out.len; omega)⟩
      obtain ⟨s1, _⟩ := szC_get a zs j z hz
      have hzf := HF.out z (List.mem_of_getElem? hz)
      obtain ⟨n, c⟩ := z
      have c1 : wr.cell? ⟨τ, 1, none⟩ = some (.slice (some ⟨Z, 0, none⟩) (l.length + 1) (l.length + 1)) := HW1.out.blk.cell 1
      have z1 : wr.cell? ⟨Z, j * 2, none⟩ = some (.int .i64 n) := by rw [HW1.out.row.cell]; simpa using s1
      have hin : inB zs sz ⟨mn, (j : Int), mo⟩ = decide (mo / 8 + n ≤ sz) := by
        show decide (mo / 8 + (zs.getD (j : Int).toNat (0, 0)).1 ≤ sz) = _
        rw [show zs.getD (j : Int).toNat (0, 0) = (n, c) by rw [Int.toNat_natCast, List.getD_eq_getElem?_getD, hz]; rfl]
      have y2 : wr.cell? ⟨w.heap.size, 2, none⟩ = some (.int .i64 sz) := HT1.cell 2
      have i2 : (k : Int) < (ms.length : Int) := by omega
      have i3 : (0 : Int) ≤ (k : Int) := by omega
      have i4 : (j : Int) < (l.length : Int) + 1 := by omega
      have i5 : (0 : Int) ≤ (j : Int) := by omega
      have i6 : (l.length : Int) ≤ 1024 := by have := H.out.few; omega
      have q1 := hzf.1
      have q2 := hzf.2
      simp only at q1 q2
      have hwr : IntKind.i64.wrap (mo / 8 + n) = mo / 8 + n := IntWalk.i64_in _ (by omega)
      have g1 : decide (k < ms.length) = true := by simpa using hkn
      have HK : Hid (k < ms.length) := hkn
      rw [hin] at HG HN
      have b2 : Below wr.heap.size wr (wr.alloc (.cells #[.string mn, .int .i64 (j : Int), .int .i64 mo] 60)) := (Below.refl _ wr).alloc (Nat.le_refl _) _
      have HM5 := Lib.hid (Blk.new wr 60 #[.string mn, .int .i64 (j : Int), .int .i64 mo])
      have H5 := Lib.hid (HW1.out.below b2)
      have HT5 := Lib.hid (HT1.below_ b2)
      have B5 := Lib.hid (HB.out.trans (b2.mono HB.out.size))
      have S1 := Lib.hid s1
      clear hkn hmk hmem hz s1 hzf hin HT1 t4 b2 c1 z1 y2
      go_upto_region 4 with fail
      generalize World.alloc _ _ = w5 at HM5 H5 HT5 B5 ⊢
      have c1 : w5.cell? ⟨τ, 1, none⟩ = some (.slice (some ⟨Z, 0, none⟩) (l.length + 1) (l.length + 1)) := H5.out.blk.cell 1
      have z1 : w5.cell? ⟨Z, j * 2, none⟩ = some (.int .i64 n) := by rw [H5.out.row.cell]; simpa using S1.out
      have y2 : w5.cell? ⟨w.heap.size, 2, none⟩ = some (.int .i64 sz) := HT5.out.cell 2
      have m1 : w5.cell? ⟨wr.heap.size, 1, none⟩ = some (.int .i64 (j : Int)) := HM5.out.cell 1
      have m2 : w5.cell? ⟨wr.heap.size, 2, none⟩ = some (.int .i64 mo) := HM5.out.cell 2
      clear u0 u1 u2
      by_cases hle : mo / 8 + n ≤ sz
      · have HG1 := Lib.hid (HG.out (by simpa using hle))
        have g2 : decide (sz < mo / 8 + n) = false := by simp; omega
        clear HG HN hle
        go_quiet (fail)
        have B6 := Lib.hid (B5.out.trans ((belowDrew w5 nq).mono B5.out.size))
        generalize World.drewN _ _ = w6 at B6 ⊢
        go_wp2
        go_roundw
        case rel => exact ⟨k + 1, HK.out, by go_num, B6.out, HG1.out⟩
        case measure => have := HK.out; simp [intOf]; omega
      · have HN1 := Lib.hid (HN.out (by simpa using hle))
        have g2 : decide (sz < mo / 8 + n) = true := by simp; omega
        clear HG HN hle
        go_quiet (fail)
        have B6 := Lib.hid (B5.out.trans ((belowDrew w5 nq).mono B5.out.size))
        generalize World.drewN _ _ = w6 at B6 ⊢
        go_wp2
        go_ret
        exact ⟨(ret_bool HN1.out).symm, B1.out.trans (B6.out.mono B1.out.size)⟩
    · have : k = ms.length := by omega
      subst this
      have g1 : decide (ms.length < ms.length) = false := by simp
      have HF2 : Hid (ms.all (inB zs sz) = true) := by have := HALL.out; rwa [List.take_length] at this
      clear hkn hk
      go_wp2_with fail
      go_ret
      exact ⟨(ret_bool HF2.out).symm, B1.out.trans (HB.out.mono B1.out.size)⟩
end
end Go.Proofs.YthilkgfbaddjpaaDoor
