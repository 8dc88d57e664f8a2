/-
  The law QueueOrder, walked.
-/
import Derived.Test.YtgmombgjjmgooaaQOrder
import Derived.Laws.IdiomStrings
namespace Go.Proofs.Ytgmombgjjmgooaa
open Go Go.RowKit Go.Maps
set_option linter.unusedVariables false
set_option linter.unusedSimpArgs false
set_option maxRecDepth 100000
set_option maxHeartbeats 4000000 in
theorem order_stack (A : Option Addr) (len cap : Nat) (hlc : len ≤ cap) (hm : cap ≤ 9223372036854775807) (most : Int) (xs : List UInt8) (hxs : xs.length = len) (w : World)
    (hA : ∀ i u, xs[i]? = some u → ∃ (b off : Nat), A = some ⟨b, off, none⟩ ∧ b < w.heap.size ∧ w.cell? ⟨b, off + i, none⟩ = some (.int .u8 (u.toNat : Int))) :
    Calls Try.prog 4 #[.slice A len cap, .int .i64 most, .bool true] w fun e w' => e = .returned (.bool true) ∧ Below w.heap.size w w' := by
  obtain ⟨mx, hmx, m1, m2⟩ : ∃ mx : Nat, (if 1 < (if 50 < most then 50 else most) then (if 50 < most then 50 else most) else 1) = (mx : Int) ∧ 1 ≤ mx ∧ mx ≤ 50 := ⟨(max 1 (min most 50)).toNat, by split <;> split <;> omega, by omega, by omega⟩
  have C1 := Lib.hid (new_ok 23 1 mx (by simp [fitsB]; omega) w)
  have HA := Lib.hid hA
  have HXS := Lib.hid hxs
  clear hA hxs
  go_enter Try.func4, Try.ntmps4
  go_upto_region 2 with fail
  clear hmx
  generalize (if 50 < most then 50 else most) = z0
  go_upto_region 6 with (go_at_call 7; refine C1.out.mono ?_; rintro e w1 ⟨x, r, g, rfl, h1, h2, h3⟩; have H1 : Hid (OB w.heap.size w x r g 23 mx [] w1) := ⟨h3, h3.size, h1, h2.2.1, h2.2.2⟩; clear h1 h2 h3)
  go_wp2_with fail
  go_loopw [10] (fun i wr => ∃ q : Nat, q ≤ len ∧ i = .int .i64 q ∧ OB w.heap.size w x r g 23 mx (lastOf xs mx q) wr) (fun i _ => len - (intOf i).toNat)
  case atStart => exact ⟨0, by omega, rfl, by unfold lastOf; rw [List.take_zero, List.drop_nil]; exact H1.out⟩
  case round =>
    clear H1
    obtain ⟨q, hq1, rfl, hK⟩ := hrel
    have HK := Lib.hid hK; clear hK
    by_cases hlt : q < len
    · have hqx : q < xs.length := by rw [HXS.out]; exact hlt
      obtain ⟨b, off, rfl, hb, t0⟩ := HA.out q xs[q] (List.getElem?_eq_getElem hqx)
      obtain ⟨e1, e2⟩ := last_step xs mx q m1 hqx
      have CP := Lib.hid (push_any HK.out.qq m1 (bs xs[q]) 2)
      rw [e1, e2] at CP
      clear e1 e2
      generalize xs[q] = u at *
      have hc : wr.cell? ⟨b, off + q, none⟩ = some (.int .u8 (u.toNat : Int)) := (HK.out.below.cell (p := ⟨b, off + q, none⟩) hb).trans t0
      have cv : ∀ c, (convert bytesT strT (.slice (some ⟨b, off + q, none⟩) 1 c)).run Try.prog wr = .ok (.string (bs u)) wr := fun c => conv_one hc
      obtain ⟨q1, hq2⟩ : ∃ q1, q1 = q + 1 := ⟨_, rfl⟩
      have sl := slice_one b off len cap q q1 hq2 hlt hlc
      have f1 : IntKind.i64.wrap ((q : Int) + 1) = (q1 : Int) := by rw [IntWalk.i64_in _ (by omega)]; omega
      have g1 : decide (q < len) = true := by simpa using hlt
      have HQ2 := Lib.hid hq2
      have HLT := Lib.hid hlt
      have HLN : Hid ((lastOf xs mx (q + 1)).length ≤ mx) := by rw [last_len xs mx (q + 1) (by omega)]; unfold Hid; split <;> omega
      clear hc t0 hb hqx hlt hq2
      rw [← HQ2.out] at CP HLN
      obtain ⟨L', hL'⟩ : ∃ L', lastOf xs mx q1 = L' := ⟨_, rfl⟩
      have HL' := Lib.hid hL'
      rw [hL'] at CP HLN
      clear hL'
      have CF := Lib.hid (fun w1 (h : QM w1 x r g 23 1 mx L') => len_any h)
      generalize L'.length = n at *
      have g2 : decide (mx < n) = false := decide_eq_false (by have := HLN.out; omega)
      have g3 : decide ((mx : Int) < (n : Int)) = false := decide_eq_false (by have := HLN.out; omega)
      go_wp2_with (first
        | (go_at_call 9; refine CP.out.mono ?_; rintro e w5 ⟨rfl, hq, hk⟩; have H5 := Lib.hid (HK.out.prog hq hk); clear hq hk)
        | (go_at_call 15; refine (CF.out _ H5.out.qq).mono ?_; rintro e w6 ⟨rfl, rfl⟩))
      go_roundw
      case rel => exact ⟨q1, by have := HQ2.out; have := HLT.out; omega, rfl, by rw [HL'.out]; exact H5.out⟩
      case measure => have := HQ2.out; have := HLT.out; simp [intOf]; omega
    · obtain rfl : q = len := by omega
      obtain ⟨d, hd⟩ : ∃ d, d = q - mx := ⟨_, rfl⟩
      obtain ⟨A', hs1, hs2⟩ := slice_from A q cap d (by omega)
      have HS2 := Lib.hid hs2
      have HL : Hid (OB w.heap.size w x r g 23 mx ((xs.drop d).map bs) wr) := by
        have h := HK.out
        rw [← HXS.out, last_all, HXS.out, ← hd] at h
        exact h
      have HKL : Hid ((xs.drop d).length = q - d) := by rw [List.length_drop, HXS.out]; exact rfl
      have f1 : IntKind.i64.wrap ((q : Int) - (mx : Int)) = (q : Int) - (mx : Int) := IntWalk.i64_in _ (by omega)
      have f2 : (if mx < q then (q : Int) - (mx : Int) else 0) = (d : Int) := by split <;> omega
      have g1 : decide (q < q) = false := by simp
      have HD := Lib.hid hd
      clear HK hd hs2
      go_upto_region 14 with fail
      have HKA : Hid (∀ i u, (xs.drop d)[i]? = some u → ∃ (b o : Nat), A' = some ⟨b, o, none⟩ ∧ b < w.heap.size ∧ w.cell? ⟨b, o + i, none⟩ = some (.int .u8 (u.toNat : Int))) := fun i u hi => by
        rw [List.getElem?_drop] at hi
        have hlt' := (List.getElem?_eq_some_iff.1 hi).1
        obtain ⟨b, off, hA, h1, h2⟩ := HA.out _ u hi
        refine ⟨b, off + d, HS2.out (by have := HXS.out; omega) b off hA, h1, ?_⟩
        rw [Nat.add_assoc]; exact h2
      have hn50 : q - d ≤ 50 := by have := HD.out; omega
      have hcp : q - d ≤ cap - d := by omega
      have hcm : cap - d ≤ 9223372036854775807 := by omega
      clear hs1 f1 f2 g1 HA HS2 HD HXS
      generalize q - d = n at *
      generalize cap - d = cp at *
      generalize xs.drop d = ks at *
      go_wp2_with fail
      go_loopw [12] (fun i w2 => ∃ j : Nat, j ≤ n ∧ i = .int .i64 j ∧ OB w.heap.size w x r g 23 mx ((ks.take (n - j)).map bs) w2) (fun i _ => n - (intOf i).toNat)
      case atStart => exact ⟨0, by omega, rfl, by rw [Nat.sub_zero, List.take_of_length_le (by rw [HKL.out]; exact Nat.le_refl _)]; exact HL.out⟩
      case round =>
        clear HL
        obtain ⟨j, hj1, rfl, hJ⟩ := hrel
        have HJ := Lib.hid hJ; clear hJ
        by_cases hjn : j < n
        · obtain ⟨m, hm⟩ : ∃ m, n = j + (m + 1) := ⟨n - j - 1, by omega⟩
          have hmk : m < ks.length := by rw [HKL.out]; omega
          have hd := take_ans hmk
          have ej : n - j = m + 1 := by omega
          have HM := Lib.hid hm
          have HJ0 := HJ
          rw [ej] at HJ0
          obtain ⟨jm, hjm⟩ : ∃ jm, jm = j + m := ⟨_, rfl⟩
          have f1 : IntKind.i64.wrap ((n : Int) - 1) = (jm : Int) := by rw [IntWalk.i64_in _ (by omega)]; omega
          have f2 : IntKind.i64.wrap ((jm : Int) - (j : Int)) = (m : Int) := by rw [IntWalk.i64_in _ (by omega)]; omega
          have f4 : IntKind.i64.wrap ((j : Int) + 1) = (j : Int) + 1 := IntWalk.i64_in _ (by omega)
          have CP := Lib.hid (peek_any HJ0.out.qq)
          have CQ := Lib.hid (fun w1 (h : QM w1 x r g 23 1 mx ((ks.take (m + 1)).map bs)) => pop_any h)
          rw [hd.2.2] at CQ
          rw [hd.1, hd.2.1] at CP CQ
          obtain ⟨b, o, rfl, hb, t0⟩ := HKA.out m ks[m] (List.getElem?_eq_getElem hmk)
          have HCV : Hid (∀ w1 c, Below w.heap.size w w1 → (convert bytesT strT (.slice (some ⟨b, o + m, none⟩) 1 c)).run Try.prog w1 = .ok (.string (bs ks[m])) w1) := fun w1 c h => conv_one ((h.cell (p := ⟨b, o + m, none⟩) hb).trans t0)
          obtain ⟨q1, hq2⟩ : ∃ q1, q1 = m + 1 := ⟨_, rfl⟩
          have sl := slice_one b o n cp m q1 hq2 (by omega) hcp
          have f3 : IntKind.i64.wrap ((m : Int) + 1) = (q1 : Int) := by rw [IntWalk.i64_in _ (by omega)]; omega
          have g3 : decide (j < n) = true := by simpa using hjn
          have HQ2 := Lib.hid hq2
          have HJN2 := Lib.hid hjn
          clear hd t0 hb
          generalize ks[m] = u at *
          clear hmk hq2 hm hjm ej
          go_upto_region 22 with (first
            | (go_at_call 13; refine CP.out.mono ?_; rintro e w5 ⟨rfl, hq, hk⟩; have H5 := Lib.hid (HJ0.out.prog hq hk); clear hq hk)
            | (go_at_call 11; refine (CQ.out _ H5.out.qq).mono ?_; rintro e w7 ⟨rfl, hq, hk⟩; have H7 := Lib.hid (H5.out.prog hq hk); clear hq hk))
          have cv : ∀ c, (convert bytesT strT (.slice (some ⟨b, o + m, none⟩) 1 c)).run Try.prog w7 = .ok (.string (bs u)) w7 := fun c => HCV.out w7 c H7.out.below
          go_wp2_with fail
          go_roundw
          case rel => exact ⟨j + 1, by have := HJN2.out; omega, by go_num, by rw [show n - (j + 1) = m by have := HM.out; omega]; exact H7.out⟩
          case measure => have := HJN2.out; simp [intOf]; omega
        · obtain rfl : j = n := by omega
          have e0 : (ks.take (j - j)).map bs = [] := by rw [Nat.sub_self]; rfl
          have HJ' := HJ
          rw [e0] at HJ'
          have CP := Lib.hid ((pop_none HJ'.out.qq).mono fun e w' he => quiet_post HJ'.out.qq he)
          have CL := Lib.hid (fun w1 (h : QM w1 x r g 23 1 mx []) => len_any h)
          clear e0
          go_wp2_with (first
            | (go_at_call 11; refine CP.out.mono ?_; rintro e w5 ⟨rfl, hq, hk⟩; have H5 := Lib.hid (HJ'.out.prog hq hk); clear hq hk)
            | (go_at_call 15; refine (CL.out _ H5.out.qq).mono ?_; rintro e w6 ⟨rfl, rfl⟩)
            | (go_at_call 16; refine (awake_later H5.out.below H5.out.sz).mono ?_; rintro e w8 ⟨rfl, hb⟩; have B8 := Lib.hid hb; clear hb))
          go_ret
          exact ⟨rfl, B8.out⟩
end Go.Proofs.Ytgmombgjjmgooaa
