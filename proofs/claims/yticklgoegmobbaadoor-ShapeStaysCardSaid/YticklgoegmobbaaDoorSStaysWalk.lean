/-
  The law ShapeStays, walked.
-/
import Derived.Test.YticklgoegmobbaaDoorSReaches2
import Derived.Test.YticklgoegmobbaaDoorSAwake
namespace Go.Proofs.YticklgoegmobbaaDoor
open Go Go.RowKit
set_option linter.unusedVariables false
set_option linter.unusedSimpArgs false
set_option maxRecDepth 100000
theorem next_is (X : Nat → Slot) (n i : Nat) (hg : Good X n) {t : Int} (ht : t ∈ nextAns X n i) :
    fst X i = true ∧ t ∈ nxt (X i) i ∧ holdsS X n t = true := by
  unfold nextAns at ht
  split at ht
  · rename_i h
    obtain ⟨h1, h2, h3⟩ := holds_iff.1 h.2
    have hf : fst X i = true := h3
    exact ⟨hf, ht, hg.next (by omega) hf ht⟩
  · cases ht
set_option maxHeartbeats 2000000 in
theorem stays_bad (A : Option Addr) (n c k : Nat) (X : Nat → Slot) (hn : n ≤ 140737488355328) (w : World) (h : Slots w A n X) (hS : Sizes w) (hk : chk X n = some k) :
    Calls Tryd.prog 5 #[.slice A n c] w fun e w' => e = .returned (.bool true) ∧ Below w.heap.size w w' := by
  have CC := Lib.hid (check_any A n c X w h hS)
  have he : chkE X n = 32 := by unfold chkE; rw [hk]; rfl
  rw [he] at CC
  have CR := Lib.hid (fun w' h s => reaches_any A n c X hn w' h s)
  have CA := Lib.hid awake_any
  have H := Lib.hid h
  have HS := Lib.hid hS
  clear h hS hk he
  go_enter Tryd.func5, Tryd.ntmps5
  go_wp2_with (first
    | (go_at_call 7; refine CC.out.mono ?_; rintro e w1 ⟨rfl, hb⟩; have B1 := Lib.hid hb; clear hb)
    | (go_at_call 13; refine (CR.out w1 (H.out.below B1.out) (HS.out.below B1.out)).mono ?_; rintro e w2 ⟨⟨g, R, _, rfl, _⟩, hb⟩; have B2 : Hid (Below w.heap.size w w2) := B1.out.trans (hb.mono B1.out.size); clear hb)
    | (go_at_call 12; refine (CA.out w2 (HS.out.below B2.out)).mono ?_; rintro e w3 ⟨rfl, hb⟩; have B3 : Hid (Below w.heap.size w w3) := B2.out.trans (hb.mono B2.out.size); clear hb))
  go_ret
  exact ⟨rfl, B3.out⟩
set_option maxHeartbeats 4000000 in
theorem stays_good (A : Option Addr) (n c : Nat) (X : Nat → Slot) (w : World) (h : Slots w A n X) (hS : Sizes w) (hg : Good X n) :
    Calls Tryd.prog 5 #[.slice A n c] w fun e w' => e = .returned (.bool true) ∧ Below w.heap.size w w' := by
  have h4 := hg.le
  have CC := Lib.hid (check_any A n c X w h hS)
  have he : chkE X n = 0 := by unfold chkE; rw [chk_none.2 hg]; rfl
  rw [he] at CC
  have CR := Lib.hid (fun w' h s => reaches_any A n c X (by omega) w' h s)
  have CA := Lib.hid awake_any
  have CN := Lib.hid (fun (i : Nat) w' h s => Next_any A n c X (i : Int) w' h s)
  have H := Lib.hid h
  have HS := Lib.hid hS
  have HG := Lib.hid hg
  clear h hS hg he
  go_enter Tryd.func5, Tryd.ntmps5
  go_wp2_with (first
    | (go_at_call 7; refine CC.out.mono ?_; rintro e w1 ⟨rfl, hb⟩; have B1 := Lib.hid hb; clear hb)
    | (go_at_call 13; refine (CR.out w1 (H.out.below B1.out) (HS.out.below B1.out)).mono ?_; rintro e w2 ⟨⟨g, R, hgw, rfl, hr, hok, _⟩, hb⟩; have B2 : Hid (Below w.heap.size w w2) := B1.out.trans (hb.mono B1.out.size); have R2 := Lib.hid hr; have RR := Lib.hid (hok (chk_none.2 HG.out)); have GW := Lib.hid hgw; clear hb hr hok hgw))
  clear CC CR
  go_loopw [6] (fun i wr => ∃ k : Nat, k ≤ n ∧ i = .int .i64 k ∧ Below w.heap.size w wr ∧ Blk wr g 4 (rowB n R)) (fun i _ => n - (intOf i).toNat)
  case atStart => exact ⟨0, by omega, rfl, B2.out, R2.out⟩
  case round =>
    clear B2 R2
    obtain ⟨k, hk, rfl, hb, hr⟩ := hrel
    have HB := Lib.hid hb
    have HR := Lib.hid hr
    clear hb hr
    by_cases hkn : k < n ∧ k < 200
    · have g1 : decide (k < n) = true := by simpa using hkn.1
      have g2 : decide ((k : Int) < 200) = true := by simp; omega
      have hkn1 := hkn.1
      have CN1 := Lib.hid (CN.out k wr (H.out.below HB.out) (HS.out.below HB.out))
      obtain ⟨L, hL⟩ : ∃ L, nextAns X n k = L := ⟨_, rfl⟩
      have HL := Lib.hid hL
      rw [hL] at CN1
      clear hL hkn
      go_wp2_with (go_at_call 15; refine CN1.out.mono ?_; rintro e w3 ⟨⟨v, rfl, hf⟩, hb⟩; have HF := Lib.hid hf; have HB3 : Hid (Below w.heap.size w w3) := HB.out.trans (hb.mono HB.out.size); have HR3 := Lib.hid (HR.out.below hb); clear hb hf)
      have hlen : L.length ≤ 2 := by
        rw [← HL.out]
        unfold nextAns
        split
        · exact nxt_length _ _
        · simp
      have hv : ∃ A' c', v = .slice A' L.length c' ∧ (∀ j, j < L.length → ∃ g', A' = some ⟨g', 0, none⟩ ∧ Blk w3 g' 3 (intsA L)) := by
        rcases HF.out with ⟨rfl, rfl⟩ | ⟨g', _, rfl, hb⟩
        · exact ⟨_, _, rfl, fun j hj => by simp at hj⟩
        · exact ⟨_, _, rfl, fun j hj => ⟨g', rfl, hb⟩⟩
      obtain ⟨A', c', rfl, hblk⟩ := hv
      have HBK := Lib.hid hblk
      clear HF hblk
      go_loopw [8] (fun i ws => ∃ j : Nat, j ≤ L.length ∧ i = .int .i64 j ∧ Below w.heap.size w ws ∧ Blk ws g 4 (rowB n R) ∧ (∀ g', Blk w3 g' 3 (intsA L) → Blk ws g' 3 (intsA L))) (fun i _ => L.length - (intOf i).toNat)
      case atStart => exact ⟨0, by omega, rfl, HB3.out, HR3.out, fun _ h => h⟩
      case round =>
        clear HB3 HR3
        obtain ⟨j, hj, rfl, hb, hr, hl⟩ := hrel
        have HB4 := Lib.hid hb
        have HR4 := Lib.hid hr
        have HL4 := Lib.hid hl
        clear hb hr hl
        by_cases hjl : j < L.length
        · have g3 : decide (j < L.length) = true := by simpa using hjl
          obtain ⟨g', rfl, hb3⟩ := HBK.out j hjl
          have hmem : L[j] ∈ nextAns X n k := by rw [HL.out]; exact List.getElem_mem hjl
          obtain ⟨hfk, hnx, hho⟩ := next_is X n k HG.out hmem
          obtain ⟨h0, h1, h2⟩ := holds_iff.1 hho
          have cl : wr.cell? ⟨g', j, none⟩ = some (.int .i64 L[j]) := by rw [(HL4.out g' hb3).cell j]; simp [intsA, hjl]
          obtain ⟨m, hm⟩ := Int.eq_ofNat_of_zero_le h0
          rw [hm] at cl hnx h1 h2
          have hmn : m < n := by omega
          have hfm : fst X m = true := h2
          have i1 : (0 : Int) ≤ (j : Int) := by omega
          have i2 : (j : Int) < (L.length : Int) := by omega
          have i3 : (0 : Int) ≤ (m : Int) := by omega
          have i4 : (m : Int) < (n : Int) := by omega
          have i5 : (0 : Int) ≤ (k : Int) := by omega
          have i6 : (k : Int) < (n : Int) := by omega
          have g4 : decide ((m : Int) < 0) = false := by simp
          have g5 : decide (n ≤ m) = false := by simp; omega
          have hone := HG.out.one hmn hfm
          unfold oneS at hone
          obtain ⟨b, off, hA, hblt, hc⟩ := (H.out.below HB4.out) m hmn
          subst hA
          obtain ⟨c0, c1, c2, c3, c4⟩ := hc
          have CO := Lib.hid (one_any (X m).o (X m).d (X m).s (X m).f (X m).m wr (HS.out.below HB4.out))
          rw [hone] at CO
          unfold insV at CO
          have hRm : R k = true → R m = true := fun hRk => (RR.out m hmn).2 ⟨m, (HG.out.reached_fst ((RR.out k (by omega)).1 hRk) hfk).step hnx, .inl rfl⟩
          have HRM := Lib.hid hRm
          have HB3K := Lib.hid hb3
          clear hmem hho h0 h1 h2 hone hblt hRm hnx hfk hfm hb3 hm
          cases hRk : R k
          · go_wp2_with (go_at_call 17; refine CO.out.mono ?_; rintro e w5 ⟨rfl, hb⟩; have HB5 : Hid (Below w.heap.size w w5) := HB4.out.trans (hb.mono HB4.out.size); have HR5 := Lib.hid (HR4.out.below hb); have HL5 : Hid (∀ g', Blk w3 g' 3 (intsA L) → Blk w5 g' 3 (intsA L)) := fun g' h => (HL4.out g' h).below hb; have c5 : w5.cell? ⟨g, k, none⟩ = some (.bool false) := by { rw [HR5.out.cell k, rowB_get n R k hkn1, hRk] }; clear hb)
            go_roundw
            case rel => exact ⟨j + 1, by omega, by go_num, HB5.out, HR5.out, HL5.out⟩
            case measure => simp [intOf]; omega
          · have hRmt := HRM.out hRk
            go_wp2_with (go_at_call 17; refine CO.out.mono ?_; rintro e w5 ⟨rfl, hb⟩; have HB5 : Hid (Below w.heap.size w w5) := HB4.out.trans (hb.mono HB4.out.size); have HR5 := Lib.hid (HR4.out.below hb); have HL5 : Hid (∀ g', Blk w3 g' 3 (intsA L) → Blk w5 g' 3 (intsA L)) := fun g' h => (HL4.out g' h).below hb; have c5 : w5.cell? ⟨g, k, none⟩ = some (.bool true) := by { rw [HR5.out.cell k, rowB_get n R k hkn1, hRk] }; have c6 : w5.cell? ⟨g, m, none⟩ = some (.bool true) := by { rw [HR5.out.cell m, rowB_get n R m hmn, hRmt] }; have c7 : w5.cell? ⟨g', j, none⟩ = some (.int .i64 m) := by { rw [hb.cell (by have := (HL4.out g' HB3K.out).lt; simpa using this)]; exact cl }; clear hb)
            go_roundw
            case rel => exact ⟨j + 1, by omega, by go_num, HB5.out, HR5.out, HL5.out⟩
            case measure => simp [intOf]; omega
        · have hjl' : j = L.length := by omega
          have g3 : decide (j < L.length) = false := by simpa using hjl
          go_wp2_with fail
          go_roundw
          case rel => exact ⟨k + 1, by omega, by go_num, HB4.out, HR4.out⟩
          case measure => simp [intOf]; omega
    · have hpos := HG.out.pos
      have hR0 : R 0 = true := (RR.out 0 hpos).2 ⟨0, .start, .inl rfl⟩
      have c0 : wr.cell? ⟨g, 0, none⟩ = some (.bool true) := by rw [HR.out.cell 0, rowB_get n R 0 hpos, hR0]
      have g4 : decide ((0 : Int) < (n : Int)) = true := by simp; omega
      have g5 : decide (0 < n) = true := by simp; omega
      have i1 : (0 : Int) < (n : Int) := by omega
      have CA1 := Lib.hid (CA.out wr (HS.out.below HB.out))
      by_cases hkn1 : k < n
      · have g1 : decide (k < n) = true := by simpa using hkn1
        have g2 : decide ((k : Int) < 200) = false := by simp; omega
        clear hpos hR0 hkn
        go_wp2_with (go_at_call 12; refine CA1.out.mono ?_; rintro e w5 ⟨rfl, hb⟩; have B5 : Hid (Below w.heap.size w w5) := HB.out.trans (hb.mono HB.out.size); clear hb)
        go_ret
        exact ⟨rfl, B5.out⟩
      · have g1 : decide (k < n) = false := by simpa using hkn1
        clear hpos hR0 hkn
        go_wp2_with (go_at_call 12; refine CA1.out.mono ?_; rintro e w5 ⟨rfl, hb⟩; have B5 : Hid (Below w.heap.size w w5) := HB.out.trans (hb.mono HB.out.size); clear hb)
        go_ret
        exact ⟨rfl, B5.out⟩
theorem stays_walk (A : Option Addr) (n c : Nat) (X : Nat → Slot) (w : World) (hn : n ≤ 4398046511104) (h : Slots w A n X) (hS : Sizes w) :
    Calls Tryd.prog 5 #[.slice A n c] w fun e w' => e = .returned (.bool true) ∧ Below w.heap.size w w' := by
  cases hk : chk X n with
  | some k => exact stays_bad A n c k X (by omega) w h hS hk
  | none => exact stays_good A n c X w h hS (chk_none.1 hk)
end Go.Proofs.YticklgoegmobbaaDoor
