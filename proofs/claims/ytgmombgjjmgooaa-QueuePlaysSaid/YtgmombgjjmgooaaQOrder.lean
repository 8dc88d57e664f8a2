/-
  The law QueueOrder, walked.
-/
import Derived.Test.YtgmombgjjmgooaaQKeeps
import Derived.Laws.IdiomStrings
namespace Go.Proofs.Ytgmombgjjmgooaa
open Go Go.RowKit Go.Maps
set_option linter.unusedVariables false
set_option linter.unusedSimpArgs false
set_option maxRecDepth 100000
abbrev bytesT : TypeId := 46
/-- What waits behind the first q of xs. -/
def lastOf (xs : List UInt8) (mx q : Nat) : List ByteArray := ((xs.take q).drop (q - mx)).map bs
theorem last_len (xs : List UInt8) (mx q : Nat) (hq : q ≤ xs.length) : (lastOf xs mx q).length = if q ≤ mx then q else mx := by
  unfold lastOf
  rw [List.length_map, List.length_drop, List.length_take]
  split <;> omega
theorem last_step (xs : List UInt8) (mx q : Nat) (h1 : 1 ≤ mx) (hq : q < xs.length) : pushE 1 mx (lastOf xs mx q) (bs xs[q]) 2 = 0 ∧ pushL 1 mx (lastOf xs mx q) (bs xs[q]) 2 = lastOf xs mx (q + 1) := by
  have hs : (bs xs[q]).size = 1 := rfl
  have e : pushE 1 mx (lastOf xs mx q) (bs xs[q]) 2 = 0 := by unfold pushE; rw [if_pos ⟨hs, .inr rfl⟩, if_neg (fun h => by have := h.2; omega)]
  refine ⟨e, ?_⟩
  unfold pushL
  rw [if_pos e, last_len xs mx q (by omega)]
  have ht : xs.take (q + 1) = xs.take q ++ [xs[q]] := by rw [List.take_add_one, List.getElem?_eq_getElem hq]; rfl
  have hl : (xs.take q).length = q := by rw [List.length_take]; omega
  by_cases hle : q < mx
  · have e1 : (if q ≤ mx then q else mx) = q := if_pos (by omega)
    rw [e1, if_neg (by omega)]
    unfold lastOf
    rw [show q - mx = 0 by omega, show q + 1 - mx = 0 by omega, List.drop_zero, List.drop_zero, ht, List.map_append]
    rfl
  · have e1 : (if q ≤ mx then q else mx) = mx := by split <;> omega
    rw [e1, if_pos rfl]
    unfold lastOf
    rw [ht, List.drop_append_of_le_length (by omega), List.map_append, show q + 1 - mx = q - mx + 1 by omega, ← List.tail_drop, List.map_tail]
    rfl
theorem last_all (xs : List UInt8) (mx : Nat) : lastOf xs mx xs.length = (xs.drop (xs.length - mx)).map bs := by
  unfold lastOf; rw [List.take_length]
theorem take_ans {ks : List UInt8} {m : Nat} (hm : m < ks.length) : peekS 23 ((ks.take (m + 1)).map bs) = bs ks[m] ∧ peekE 23 ((ks.take (m + 1)).map bs) = 0 ∧ rest 23 ((ks.take (m + 1)).map bs) = (ks.take m).map bs := by
  have e : (ks.take (m + 1)).map bs = (ks.take m).map bs ++ [bs ks[m]] := by rw [List.take_add_one, List.getElem?_eq_getElem hm, List.map_append]; rfl
  rw [e]
  refine ⟨?_, ?_, ?_⟩
  · unfold peekS turn; rw [if_pos rfl, List.getLast?_concat]; rfl
  · unfold peekE; rw [if_neg (by simp)]
  · unfold rest; rw [if_pos rfl, List.dropLast_concat]
theorem dropB_ans {ks : List UInt8} {j : Nat} (hj : j < ks.length) : peekS 22 ((ks.drop j).map bs) = bs ks[j] ∧ peekE 22 ((ks.drop j).map bs) = 0 ∧ rest 22 ((ks.drop j).map bs) = (ks.drop (j + 1)).map bs := by
  have h := drop_ans (k := 22) (L := ks.map bs) (q := j) (s := bs ks[j]) (by decide) (by rw [List.getElem?_map, List.getElem?_eq_getElem hj]; rfl)
  rw [List.drop_eq_getElem_cons hj, List.map_cons]
  refine ⟨rfl, rfl, rfl⟩
structure OB (B : Nat) (w0 : World) (x r g : Nat) (k : Int) (mx : Nat) (L : List ByteArray) (w : World) : Prop where
  below : Below B w0 w
  sz : B ≤ w.heap.size
  qq : QM w x r g k 1 mx L
  hr : B ≤ r
  hg : B ≤ g
section
variable {B : Nat} {w0 w w1 : World} {x r g mx : Nat} {k : Int} {L L' : List ByteArray}
theorem OB.prog (h : OB B w0 x r g k mx L w) (hq : QM w1 x r g k 1 mx L') (hk : Keeps (rg r g) w w1) : OB B w0 x r g k mx L' w1 := by
  have h1 := h.hr
  have h2 := h.hg
  exact ⟨h.below.trans (hk.below (fun b hb => by rcases hb with rfl | rfl <;> omega) h.sz), Nat.le_trans h.sz hk.size, hq, h1, h2⟩
theorem sizeU (w : World) : (sizeOf (Try.prog.elem bytesT)).run Try.prog w = .ok 1 w := by kernel_rfl
theorem elemU : Try.prog.underlying bytesT = some (.slice (Try.prog.elem bytesT)) := by kernel_rfl
theorem slice_one (b o n c q q1 : Nat) (hq1 : q1 = q + 1) (hq : q < n) (hc : n ≤ c) (w : World) : (Instr.slice bytesT (.slice (some ⟨b, o, none⟩) n c) (some (.int .i64 (q : Int))) (some (.int .i64 (q1 : Int))) none).run Try.prog w = .ok (.slice (some ⟨b, o + q, none⟩) 1 (c - q)) w := by
  rw [run_slice_lh (ht := elemU) (h0 := by omega) (h1 := by omega) (h2 := by omega), sizeU]
  have h : ¬ c = q := by omega
  have h3 : q1 - q = 1 := by omega
  simp [Result.andThen, sliced, Addr.add, h, h3]
theorem slice_from (A : Option Addr) (n c d : Nat) (hd : d ≤ n) : ∃ A', (∀ w, (Instr.slice bytesT (.slice A n c) (some (.int .i64 (d : Int))) none none).run Try.prog w = .ok (.slice A' (n - d) (c - d)) w) ∧ (c ≠ d → ∀ b o, A = some ⟨b, o, none⟩ → A' = some ⟨b, o + d, none⟩) := by
  refine ⟨if c = d then A else A.map (·.add (d * 1)), fun w => ?_, fun hc b o hA => ?_⟩
  · rw [run_slice_l (ht := elemU) (h0 := by omega) (h1 := by omega), sizeU]
    simp [Result.andThen, sliced]
  · rw [if_neg hc, hA]
    simp [Addr.add]
theorem conv_one {w : World} {b o c : Nat} {u : UInt8} (h : w.cell? ⟨b, o, none⟩ = some (.int .u8 (u.toNat : Int))) : (convert bytesT strT (.slice (some ⟨b, o, none⟩) 1 c)).run Try.prog w = .ok (.string (bs u)) w :=
  run_convert_bytes_back (P := Try.prog) w bytesT strT 5 ⟨b, o, none⟩ c [u] Try.underlying46 Try.underlying5 Try.underlying9 (fun j hj => by
    have : j = 0 := by simpa using hj
    subst this
    rw [Go.WideShapes.add_plain]
    exact h)
end
set_option maxHeartbeats 4000000 in
theorem order_queue (A : Option Addr) (len cap : Nat) (hlc : len ≤ cap) (hm : cap ≤ 9223372036854775807) (most : Int) (xs : List UInt8) (hxs : xs.length = len) (w : World)
    (hA : ∀ i u, xs[i]? = some u → ∃ (b off : Nat), A = some ⟨b, off, none⟩ ∧ b < w.heap.size ∧ w.cell? ⟨b, off + i, none⟩ = some (.int .u8 (u.toNat : Int))) :
    Calls Try.prog 4 #[.slice A len cap, .int .i64 most, .bool false] w fun e w' => e = .returned (.bool true) ∧ Below w.heap.size w w' := by
  obtain ⟨mx, hmx, m1, m2⟩ : ∃ mx : Nat, (if 1 < (if 50 < most then 50 else most) then (if 50 < most then 50 else most) else 1) = (mx : Int) ∧ 1 ≤ mx ∧ mx ≤ 50 := ⟨(max 1 (min most 50)).toNat, by split <;> split <;> omega, by omega, by omega⟩
  have C1 := Lib.hid (new_ok 22 1 mx (by simp [fitsB]; omega) w)
  have HA := Lib.hid hA
  have HXS := Lib.hid hxs
  clear hA hxs
  go_enter Try.func4, Try.ntmps4
  go_upto_region 2 with fail
  clear hmx
  generalize (if 50 < most then 50 else most) = z0
  go_upto_region 6 with (go_at_call 7; refine C1.out.mono ?_; rintro e w1 ⟨x, r, g, rfl, h1, h2, h3⟩; have H1 : Hid (OB w.heap.size w x r g 22 mx [] w1) := ⟨h3, h3.size, h1, h2.2.1, h2.2.2⟩; clear h1 h2 h3)
  go_wp2_with fail
  go_loopw [10] (fun i wr => ∃ q : Nat, q ≤ len ∧ i = .int .i64 q ∧ OB w.heap.size w x r g 22 mx (lastOf xs mx q) wr) (fun i _ => len - (intOf i).toNat)
  case atStart => exact ⟨0, by omega, rfl, by unfold lastOf; rw [List.take_zero, List.drop_nil]; exact H1.out⟩
  case round =>
    clear H1
    obtain ⟨q, hq1, rfl, hK⟩ := hrel
    have HK := Lib.hid hK; clear hK
    by_cases hlt : q < len
    · have hqx : q < xs.length := by rw [HXS.out]; exact hlt
      obtain ⟨b, off, rfl, hb, t0⟩ := HA.out q xs[q] (List.getElem?_eq_getElem hqx)
      obtain ⟨e1, e2⟩ := last_step xs mx q m1 hqx
      have CP := Lib.hid (push_any HK.out.qq m1 (bs xs[q]) 2)
      rw [e1, e2] at CP
      clear e1 e2
      generalize xs[q] = u at *
      have hc : wr.cell? ⟨b, off + q, none⟩ = some (.int .u8 (u.toNat : Int)) := (HK.out.below.cell (p := ⟨b, off + q, none⟩) hb).trans t0
      have cv : ∀ c, (convert bytesT strT (.slice (some ⟨b, off + q, none⟩) 1 c)).run Try.prog wr = .ok (.string (bs u)) wr := fun c => conv_one hc
      obtain ⟨q1, hq2⟩ : ∃ q1, q1 = q + 1 := ⟨_, rfl⟩
      have sl := slice_one b off len cap q q1 hq2 hlt hlc
      have f1 : IntKind.i64.wrap ((q : Int) + 1) = (q1 : Int) := by rw [IntWalk.i64_in _ (by omega)]; omega
      have g1 : decide (q < len) = true := by simpa using hlt
      have HQ2 := Lib.hid hq2
      have HLT := Lib.hid hlt
      have HLN : Hid ((lastOf xs mx (q + 1)).length ≤ mx) := by rw [last_len xs mx (q + 1) (by omega)]; unfold Hid; split <;> omega
      clear hc t0 hb hqx hlt hq2
      rw [← HQ2.out] at CP HLN
      obtain ⟨L', hL'⟩ : ∃ L', lastOf xs mx q1 = L' := ⟨_, rfl⟩
      have HL' := Lib.hid hL'
      rw [hL'] at CP HLN
      clear hL'
      have CF := Lib.hid (fun w1 (h : QM w1 x r g 22 1 mx L') => len_any h)
      generalize L'.length = n at *
      have g2 : decide (mx < n) = false := decide_eq_false (by have := HLN.out; omega)
      have g3 : decide ((mx : Int) < (n : Int)) = false := decide_eq_false (by have := HLN.out; omega)
      go_wp2_with (first
        | (go_at_call 9; refine CP.out.mono ?_; rintro e w5 ⟨rfl, hq, hk⟩; have H5 := Lib.hid (HK.out.prog hq hk); clear hq hk)
        | (go_at_call 15; refine (CF.out _ H5.out.qq).mono ?_; rintro e w6 ⟨rfl, rfl⟩))
      go_roundw
      case rel => exact ⟨q1, by have := HQ2.out; have := HLT.out; omega, rfl, by rw [HL'.out]; exact H5.out⟩
      case measure => have := HQ2.out; have := HLT.out; simp [intOf]; omega
    · obtain rfl : q = len := by omega
      obtain ⟨d, hd⟩ : ∃ d, d = q - mx := ⟨_, rfl⟩
      obtain ⟨A', hs1, hs2⟩ := slice_from A q cap d (by omega)
      have HS2 := Lib.hid hs2
      have HL : Hid (OB w.heap.size w x r g 22 mx ((xs.drop d).map bs) wr) := by
        have h := HK.out
        rw [← HXS.out, last_all, HXS.out, ← hd] at h
        exact h
      have HKL : Hid ((xs.drop d).length = q - d) := by rw [List.length_drop, HXS.out]; exact rfl
      have f1 : IntKind.i64.wrap ((q : Int) - (mx : Int)) = (q : Int) - (mx : Int) := IntWalk.i64_in _ (by omega)
      have f2 : (if mx < q then (q : Int) - (mx : Int) else 0) = (d : Int) := by split <;> omega
      have g1 : decide (q < q) = false := by simp
      have HD := Lib.hid hd
      clear HK hd hs2
      go_upto_region 14 with fail
      have HKA : Hid (∀ i u, (xs.drop d)[i]? = some u → ∃ (b o : Nat), A' = some ⟨b, o, none⟩ ∧ b < w.heap.size ∧ w.cell? ⟨b, o + i, none⟩ = some (.int .u8 (u.toNat : Int))) := fun i u hi => by
        rw [List.getElem?_drop] at hi
        have hlt' := (List.getElem?_eq_some_iff.1 hi).1
        obtain ⟨b, off, hA, h1, h2⟩ := HA.out _ u hi
        refine ⟨b, off + d, HS2.out (by have := HXS.out; omega) b off hA, h1, ?_⟩
        rw [Nat.add_assoc]; exact h2
      have hn50 : q - d ≤ 50 := by have := HD.out; omega
      have hcp : q - d ≤ cap - d := by omega
      have hcm : cap - d ≤ 9223372036854775807 := by omega
      clear hs1 f1 f2 g1 HA HS2 HD HXS
      generalize q - d = n at *
      generalize cap - d = cp at *
      generalize xs.drop d = ks at *
      go_wp2_with fail
      go_loopw [12] (fun i w2 => ∃ j : Nat, j ≤ n ∧ i = .int .i64 j ∧ OB w.heap.size w x r g 22 mx ((ks.drop j).map bs) w2) (fun i _ => n - (intOf i).toNat)
      case atStart => exact ⟨0, by omega, rfl, by rw [List.drop_zero]; exact HL.out⟩
      case round =>
        clear HL
        obtain ⟨j, hj1, rfl, hJ⟩ := hrel
        have HJ := Lib.hid hJ; clear hJ
        by_cases hjn : j < n
        · have hmk : j < ks.length := by rw [HKL.out]; exact hjn
          have hd := dropB_ans hmk
          have HJ0 := HJ
          have CP := Lib.hid (peek_any HJ0.out.qq)
          have CQ := Lib.hid (fun w1 (h : QM w1 x r g 22 1 mx ((ks.drop j).map bs)) => pop_any h)
          rw [hd.2.2] at CQ
          rw [hd.1, hd.2.1] at CP CQ
          obtain ⟨b, o, rfl, hb, t0⟩ := HKA.out j ks[j] (List.getElem?_eq_getElem hmk)
          have HCV : Hid (∀ w1 c, Below w.heap.size w w1 → (convert bytesT strT (.slice (some ⟨b, o + j, none⟩) 1 c)).run Try.prog w1 = .ok (.string (bs ks[j])) w1) := fun w1 c h => conv_one ((h.cell (p := ⟨b, o + j, none⟩) hb).trans t0)
          obtain ⟨q1, hq2⟩ : ∃ q1, q1 = j + 1 := ⟨_, rfl⟩
          have sl := slice_one b o n cp j q1 hq2 (by omega) hcp
          have f3 : IntKind.i64.wrap ((j : Int) + 1) = (q1 : Int) := by rw [IntWalk.i64_in _ (by omega)]; omega
          have g3 : decide (j < n) = true := by simpa using hjn
          have HQ2 := Lib.hid hq2
          have HJN2 := Lib.hid hjn
          clear hd t0 hb
          generalize ks[j] = u at *
          clear hmk hq2
          go_upto_region 22 with (first
            | (go_at_call 13; refine CP.out.mono ?_; rintro e w5 ⟨rfl, hq, hk⟩; have H5 := Lib.hid (HJ0.out.prog hq hk); clear hq hk)
            | (go_at_call 11; refine (CQ.out _ H5.out.qq).mono ?_; rintro e w7 ⟨rfl, hq, hk⟩; have H7 := Lib.hid (H5.out.prog hq hk); clear hq hk))
          have cv : ∀ c, (convert bytesT strT (.slice (some ⟨b, o + j, none⟩) 1 c)).run Try.prog w7 = .ok (.string (bs u)) w7 := fun c => HCV.out w7 c H7.out.below
          go_wp2_with fail
          go_roundw
          case rel => exact ⟨q1, by have := HQ2.out; have := HJN2.out; omega, rfl, by rw [HQ2.out]; exact H7.out⟩
          case measure => have := HQ2.out; have := HJN2.out; simp [intOf]; omega
        · obtain rfl : j = n := by omega
          have e0 : (ks.drop j).map bs = [] := by rw [List.drop_eq_nil_iff.2 (by rw [HKL.out]; exact Nat.le_refl _)]; rfl
          have HJ' := HJ
          rw [e0] at HJ'
          have CP := Lib.hid ((pop_none HJ'.out.qq).mono fun e w' he => quiet_post HJ'.out.qq he)
          have CL := Lib.hid (fun w1 (h : QM w1 x r g 22 1 mx []) => len_any h)
          clear e0
          go_wp2_with (first
            | (go_at_call 11; refine CP.out.mono ?_; rintro e w5 ⟨rfl, hq, hk⟩; have H5 := Lib.hid (HJ'.out.prog hq hk); clear hq hk)
            | (go_at_call 15; refine (CL.out _ H5.out.qq).mono ?_; rintro e w6 ⟨rfl, rfl⟩)
            | (go_at_call 16; refine (awake_later H5.out.below H5.out.sz).mono ?_; rintro e w8 ⟨rfl, hb⟩; have B8 := Lib.hid hb; clear hb))
          go_ret
          exact ⟨rfl, B8.out⟩
end Go.Proofs.Ytgmombgjjmgooaa
