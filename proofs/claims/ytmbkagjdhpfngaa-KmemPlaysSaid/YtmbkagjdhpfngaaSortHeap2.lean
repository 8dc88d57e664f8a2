/-
  The library's sort: heapSortOrdered, reverseRangeOrdered.
-/
import Derived.Test.YtmbkagjdhpfngaaSortHeap
namespace Go.Proofs.Ytmbkagjdhpfngaa
open Go Go.RowKit Go.Maps
set_option linter.unusedVariables false

theorem size_siftDown' (hi f : Nat) : ∀ (m r : Nat) (d : Array Nat), hi - r ≤ m → (Sort.siftDown ltN hi f r d).size = d.size
  | 0, r, d, h => by rw [siftDown_stop0 _ _ _ _ (by omega)]
  | m + 1, r, d, h => by
    by_cases h0 : 2 * r + 1 ≥ hi
    · rw [siftDown_stop0 _ _ _ _ h0]
    · by_cases h1 : 2 * r + 1 + 1 < hi ∧ d[f + (2 * r + 1)]! < d[f + (2 * r + 1) + 1]!
      · rw [siftDown_hi _ _ _ _ h0 h1.1 h1.2]
        split
        · rw [size_siftDown' hi f m _ _ (by omega), size_swp]
        · rfl
      · rw [siftDown_lo _ _ _ _ h0 h1]
        split
        · rw [size_siftDown' hi f m _ _ (by omega), size_swp]
        · rfl
theorem size_siftDown (hi f r : Nat) (d : Array Nat) : (Sort.siftDown ltN hi f r d).size = d.size := size_siftDown' hi f _ r d (Nat.le_refl _)
set_option maxRecDepth 100000 in
set_option maxHeartbeats 2000000 in
theorem heapSort_any (w0 w : World) (g : Nat) (sp : List Value) (d : Array Nat) (cap a b : Nat) (ha : a < b) (hb : b ≤ d.size) (hs : d.size ≤ cap) (hc : d.size ≤ 1048576) (h : SRow w0 w g sp d) :
    Calls Try.prog 53 #[.slice (some ⟨g, 0, none⟩) d.size cap, .int .i64 (a : Int), .int .i64 (b : Int)] w (SPost w0 g sp (Sort.heapSort ltN d a b)) := by
  obtain ⟨T, hT⟩ : ∃ T, T = Sort.heapSort ltN d a b := ⟨_, rfl⟩
  rw [← hT]
  obtain ⟨n, hn⟩ : ∃ n, n = d.size := ⟨_, rfl⟩
  rw [← hn] at hb hs hc ⊢
  obtain ⟨hi, hhi⟩ : ∃ hi, hi = b - a := ⟨_, rfl⟩
  have h1 : 1 ≤ hi := by omega
  have hhi' : (b : Int) - (a : Int) = (hi : Int) := by omega
  have hfn : a + hi ≤ n := by omega
  unfold Sort.heapSort at hT
  rw [← hhi] at hT
  obtain ⟨T1, hT1⟩ : ∃ T1, T1 = Sort.heapBuild ltN hi a ((hi - 1) / 2 + 1) d := ⟨_, rfl⟩
  rw [← hT1] at hT
  have HT := Lib.hid hT; clear hT
  have HT1 := Lib.hid hT1; clear hT1
  have HN := Lib.hid hn; clear hn
  have H0 := Lib.hid h; clear h
  have HH := Lib.hid hhi; clear hhi
  go_enter Try.func53, Try.ntmps53
  go_wp2
  go_loopw [9] (fun i wr => ∃ (k : Nat) (d : Array Nat), k ≤ hi ∧ i = .int .i64 ((k : Int) - 1) ∧ SRow w0 wr g sp d ∧ d.size = n ∧ Sort.heapBuild ltN hi a k d = T1) (fun i _ => (intOf i + 1).toNat)
  case atStart => exact ⟨(hi - 1) / 2 + 1, d, by omega, by congr 1; omega, H0.out, HN.out.symm, HT1.out.symm⟩
  case round =>
    obtain ⟨k, d, hk1, rfl, hr, hdn, hT⟩ := hrel
    have HR := Lib.hid hr; clear hr
    have HD := Lib.hid hdn; clear hdn
    have HT2 := Lib.hid hT; clear hT
    rcases k with _ | k
    · have HE := Lib.hid (show d = T1 from HT2.out)
      rw [show ((0 : Nat) : Int) - 1 = -1 from rfl]
      go_wp2
      go_loopw [10] (fun i wr => ∃ (k : Nat) (d : Array Nat), k ≤ hi ∧ i = .int .i64 ((k : Int) - 1) ∧ SRow w0 wr g sp d ∧ d.size = n ∧ Sort.heapPop ltN a k d = T) (fun i _ => (intOf i + 1).toNat)
      case atStart => exact ⟨hi, d, by omega, rfl, HR.out, HD.out, by rw [HE.out]; exact HT.out.symm⟩
      case round =>
        obtain ⟨k, d, hk1, rfl, hr, hdn, hT⟩ := hrel
        have HR := Lib.hid hr; clear hr
        have HD := Lib.hid hdn; clear hdn
        have HT3 := Lib.hid hT; clear hT
        rcases k with _ | k
        · have HE := Lib.hid (show d = T from HT3.out)
          go_wp2
          go_end0
          exact ⟨rfl, by rw [← HE.out]; exact HR.out⟩
        · have ek : ((k + 1 : Nat) : Int) - 1 = (k : Int) := by omega
          rw [ek]
          clear ek
          have hE : Sort.heapPop ltN a k (Sort.siftDown ltN k a 0 (Sort.swp d a (a + k))) = T := HT3.out
          have HE := Lib.hid hE; clear hE
          have had : a < d.size := by rw [HD.out]; omega
          have hkd : a + k < d.size := by rw [HD.out]; omega
          have i0 := Lib.hid (Idx.mk' (z := (a : Int)) (k := a) (n := n) (by omega) (by omega) (by omega))
          have i1 := Lib.hid (Idx.mk' (z := (a : Int) + (k : Int)) (k := a + k) (n := n) (by omega) (by omega) (by omega))
          obtain ⟨x, hx⟩ : ∃ x, d[a]! = x := ⟨_, rfl⟩
          obtain ⟨y, hy⟩ : ∃ y, d[a + k]! = y := ⟨_, rfl⟩
          have HX := Lib.hid hx; clear hx
          have HY := Lib.hid hy; clear hy
          have ca := HR.out.cell had
          have ck := HR.out.cell hkd
          rw [HX.out] at ca
          rw [HY.out] at ck
          have fa := HR.out.frozen a
          have fk := HR.out.frozen (a + k)
          have hSW := HR.out.swp had hkd
          rw [HX.out, HY.out] at hSW
          have HS := Lib.hid hSW.drew; clear hSW
          have HS2 := Lib.hid (siftDown_any w0 _ g sp (Sort.swp d a (a + k)) cap 0 k a (by omega) (by rw [size_swp, HD.out]; omega) (by rw [size_swp, HD.out]; exact hs) (by rw [size_swp, HD.out]; exact hc) HS.out)
          have c2 := HS2.out
          rw [size_swp, HD.out] at c2
          have C2 := Lib.hid c2; clear c2
          obtain ⟨p1, p2, p3, p4⟩ := i0.out
          obtain ⟨q1, q2, q3, q4⟩ := i1.out
          clear p1 p4 q1 q4
          obtain ⟨v', hv'⟩ := cell?_setCell_some (w := wr) (p := ⟨g, a, none⟩) (x := .int .u32 (y : Int)) (q := ⟨g, a + k, none⟩) (v := .int .u32 (y : Int)) ck
          go_wp2
          go_region
          clear hv'
          go_wp2_with fail
          refine C2.out.mono ?_
          rintro e w4 ⟨rfl, h4⟩
          have H4 := Lib.hid h4; clear h4
          go_wp2_with fail
          go_roundw
          case rel => exact ⟨k, _, by omega, by go_num, H4.out, by rw [size_siftDown, size_swp]; exact HD.out, HE.out⟩
          case measure => simp [intOf]
    · have ek : ((k + 1 : Nat) : Int) - 1 = (k : Int) := by omega
      rw [ek]
      clear ek
      have hE : Sort.heapBuild ltN hi a k (Sort.siftDown ltN hi a k d) = T1 := HT2.out
      have HE := Lib.hid hE; clear hE
      have c2 := siftDown_any w0 wr g sp d cap k hi a (by omega) (by rw [HD.out]; omega) (by rw [HD.out]; exact hs) (by rw [HD.out]; exact hc) HR.out
      rw [HD.out] at c2
      have C2 := Lib.hid c2; clear c2
      go_wp2_with fail
      refine C2.out.mono ?_
      rintro e w4 ⟨rfl, h4⟩
      have H4 := Lib.hid h4; clear h4
      go_wp2_with fail
      go_roundw
      case rel => exact ⟨k, _, by omega, by go_num, H4.out, by rw [size_siftDown]; exact HD.out, HE.out⟩
      case measure => simp [intOf]
set_option maxRecDepth 100000 in
set_option maxHeartbeats 2000000 in
theorem reverse_any (w0 w : World) (g : Nat) (sp : List Value) (d : Array Nat) (cap a b : Nat) (ha : a < b) (hb : b ≤ d.size) (hs : d.size ≤ cap) (hc : d.size ≤ 1048576) (h : SRow w0 w g sp d) :
    Calls Try.prog 56 #[.slice (some ⟨g, 0, none⟩) d.size cap, .int .i64 (a : Int), .int .i64 (b : Int)] w (SPost w0 g sp (Sort.reverseRange d a b)) := by
  obtain ⟨T, hT⟩ : ∃ T, T = Sort.reverseRange d a b := ⟨_, rfl⟩
  rw [← hT]
  obtain ⟨n, hn⟩ : ∃ n, n = d.size := ⟨_, rfl⟩
  rw [← hn] at hb hs hc ⊢
  unfold Sort.reverseRange at hT
  have HT := Lib.hid hT; clear hT
  have HN := Lib.hid hn; clear hn
  have H0 := Lib.hid h; clear h
  go_enter Try.func56, Try.ntmps56
  go_wp2
  go_loopw [6, 7] (fun i j wr => ∃ (p q : Nat) (d : Array Nat), p ≤ n ∧ q < n ∧ i = .int .i64 p ∧ j = .int .i64 q ∧ SRow w0 wr g sp d ∧ d.size = n ∧ Sort.reverseLoop p q d = T) (fun i j _ => (intOf j).toNat)
  case atStart => exact ⟨a, b - 1, d, by omega, by omega, rfl, by congr 1; omega, H0.out, HN.out.symm, HT.out.symm⟩
  case round =>
    obtain ⟨p, q, d, hp, hq, rfl, rfl, hr, hdn, hT⟩ := hrel
    have HR := Lib.hid hr; clear hr
    have HD := Lib.hid hdn; clear hdn
    have HT2 := Lib.hid hT; clear hT
    by_cases hpq : p < q
    · have e0 := HT2.out
      rw [Sort.reverseLoop, if_pos hpq] at e0
      have HE := Lib.hid e0; clear e0
      have hpd : p < d.size := by rw [HD.out]; omega
      have hqd : q < d.size := by rw [HD.out]; omega
      obtain ⟨x, hx⟩ : ∃ x, d[p]! = x := ⟨_, rfl⟩
      obtain ⟨y, hy⟩ : ∃ y, d[q]! = y := ⟨_, rfl⟩
      have HX := Lib.hid hx; clear hx
      have HY := Lib.hid hy; clear hy
      have ca := HR.out.cell hpd
      have ck := HR.out.cell hqd
      rw [HX.out] at ca
      rw [HY.out] at ck
      have fa := HR.out.frozen p
      have fk := HR.out.frozen q
      have hSW := HR.out.swp hpd hqd
      rw [HX.out, HY.out] at hSW
      have HS := Lib.hid hSW.drew; clear hSW
      have p2 : (0 : Int) ≤ (p : Int) := by omega
      have p3 : (p : Int) < (n : Int) := by omega
      have q2 : (0 : Int) ≤ (q : Int) := by omega
      have q3 : (q : Int) < (n : Int) := by omega
      go_wp2
      go_region
      go_wp2
      go_roundw
      case rel => exact ⟨p + 1, q - 1, _, by omega, by omega, by go_num, by go_num, HS.out, by rw [size_swp]; exact HD.out, HE.out⟩
      case measure => simp [intOf]; omega
    · have e0 := HT2.out
      rw [Sort.reverseLoop, if_neg hpq] at e0
      have HE := Lib.hid e0; clear e0
      go_wp2
      go_end0
      exact ⟨rfl, by rw [← HE.out]; exact HR.out⟩
end Go.Proofs.Ytmbkagjdhpfngaa
