/-
  The law KmemPlays, walked.
-/
import Derived.Test.YtmbkagjdhpfngaaPlaysKit
namespace Go.Proofs.Ytmbkagjdhpfngaa
open Go Go.RowKit Go.Maps
set_option linter.unusedVariables false
section
variable {B : Nat} {w0 w w1 : World} {bm bx : Nat} {m : PS}
/-- Behind kmem's Regions: its list lies there, and the reference still holds m. -/
def RegsK (B : Nat) (w0 : World) (bx : Nat) (m : PS) (v : Value) (w1 : World) : Prop :=
  Below B w0 w1 ∧ B ≤ w1.heap.size ∧ (∃ T, XSide w1 T bx m) ∧ (lives m.vs m.made).length ≤ 4096 ∧ ∃ base, w1.ownsRow base 67 3 v (lives m.vs m.made).length (cellsR m.vs (lives m.vs m.made))
theorem kregs (h : Both B w0 bm bx m m w) :
    Calls Try.prog 7 #[.pointer (some ⟨bm, 0, none⟩)] w fun e w1 => ∃ A c, e = .returned (.slice A (lives m.vs m.made).length c) ∧ RegsK B w0 bx m (.slice A (lives m.vs m.made).length c) w1 := by
  obtain ⟨S, T, ⟨st, rl, mv, rv, hk, hv⟩, h2, h3, h4, h5, h6, h7⟩ := h
  refine (regions_any hk m.vs hv).mono ?_
  rintro e w1 ⟨lv, ss, rfl, h8, h9, kk, ho, hl⟩
  have hr : ∀ n q, m.vs n = some q → 1 ≤ n ∧ n ≤ m.made := fun n q hq => by
    obtain ⟨r, hs, _⟩ := st_some hv hq
    exact hk.range n r hs
  have e : ss = lives m.vs m.made := asc_eq h8 (lives_asc _ _) (fun n => (h9 n).trans (lives_mem _ _ hr n).symm)
  subst e
  obtain ⟨A, c, rfl, _⟩ := own_form_any ho
  exact ⟨A, c, rfl, h6.trans (kk.below h4 h7), Nat.le_trans h7 kk.size, ⟨T, h2.keeps kk (fun b hb hs => h3 b hs hb)⟩, hl, _, ho⟩
theorem xregs {A : Option Addr} {n c : Nat} (h : RegsK B w0 bx m (.slice A n c) w1) (hn : n = (lives m.vs m.made).length) :
    Calls Try.prog 8 #[.pointer (some ⟨bx, 0, none⟩)] w1 fun e w2 => ∃ A' c', e = .returned (.slice A' n c') ∧ Below B w0 w2 ∧ B ≤ w2.heap.size ∧ n ≤ 4096 ∧
      ∃ N P Bs, RowOf w2 A n N P Bs ∧ RowOf w2 A' n N P Bs := by
  subst hn
  obtain ⟨h1, h2, ⟨T, rb, gb, lv, hr⟩, h4, base, h5⟩ := h
  refine (xregions_any hr).mono ?_
  rintro e w2 ⟨l, rfl, hb, ho⟩
  have O5 := ownsRow_block (w' := w2) h5 (fun g hg => hb.block g (h5.lt g hg).2)
  obtain ⟨A1, c1, e1, r1⟩ := rowOf O5 rfl
  obtain ⟨A2, c2, rfl, r2⟩ := rowOf ho rfl
  cases e1
  exact ⟨A2, c2, rfl, h1.trans (hb.mono h2), Nat.le_trans h2 hb.size, h4, _, _, _, r1, r2⟩
theorem Both.quiet {w' : World} (h : Both B w0 bm bx m m w) (k : Keeps (fun _ => False) w w') : Both B w0 bm bx m m w' := by
  obtain ⟨S, T, h1⟩ := h
  exact ⟨S, T, h1.quiet k⟩
theorem Both.below (h : Both B w0 bm bx m m w) : Below B w0 w := by
  obtain ⟨S, T, h1⟩ := h
  exact h1.2.2.2.2.2.1
end
set_option maxRecDepth 100000 in
set_option maxHeartbeats 4000000 in
theorem plays_walk (A : Option Addr) (len cap : Nat) (w : World) (hlc : len ≤ cap) (hm : cap ≤ maxLen)
    (hA : ∀ i, i < len → ∃ (b off : Nat) (kd nn mm aa uu : Int) (ss : ByteArray), A = some ⟨b, off, none⟩ ∧ b < w.heap.size ∧ DeedAt w b (off + i * 6) kd nn mm aa uu ss ∧ (0 ≤ aa ∧ aa ≤ 18446744073709551615) ∧ (0 ≤ uu ∧ uu ≤ 18446744073709551615) ∧ ss.size ≤ maxLen) :
    Calls Try.prog 3 #[.slice A len cap] w fun e w' => e = .returned (.bool true) ∧ Below w.heap.size w w' := by
  unfold maxLen at hm
  have c0 := Lib.hid (new_any w)
  have HST := Lib.hid (both_start w)
  have HA := Lib.hid hA; clear hA
  go_enter Try.func3, Try.ntmps3
  go_wp2_with (go_at_call 4; refine c0.out.mono ?_; rintro e w1 ⟨rfl, rfl⟩)
  clear c0
  generalize hw1 : (w.alloc (.cells #[.map none, .int .u32 0, .slice none 0 0, .int .i64 0] 42)).alloc (.cells #[.slice none 0 0, .int .i64 0, .int .i64 0] 28) = w1 at HST ⊢
  clear hw1
  go_loopw [5] (fun i wr => ∃ k : Nat, k ≤ len ∧ k ≤ 300 ∧ i = .int .i64 k ∧ ∃ m : PS, m.made ≤ k ∧ Both w.heap.size w w.heap.size (w.heap.size + 1) m m wr) (fun i _ => len - (intOf i).toNat)
  case atStart => exact ⟨0, by omega, by omega, rfl, _, Nat.le_refl _, HST.out⟩
  case round =>
    clear HST
    obtain ⟨k, hk1, hk2, rfl, m, hmk, hB⟩ := hrel
    have HB := Lib.hid hB; clear hB
    have HMK := Lib.hid hmk; clear hmk
    by_cases hlt : k < len ∧ k < 300
    · obtain ⟨hlt, hlt2⟩ := hlt
      obtain ⟨b, off, kd, nn, mm, aa, uu, ss, rfl, hb, hd, ba, bu, bs⟩ := HA.out k hlt
      have HS := Lib.hid (And.intro ba (And.intro bu bs)); clear ba bu bs
      obtain ⟨t0, t1, t2, t3, t4, t5⟩ := hd
      have hc : ∀ o, wr.cell? ⟨b, o, none⟩ = w.cell? ⟨b, o, none⟩ := fun o => HB.out.below.cell (p := ⟨b, o, none⟩) hb
      rw [← hc] at t0 t1 t2 t3 t4 t5
      clear hc
      have g1 : decide (k < len) = true := by simpa using hlt
      have g2 : decide (k < 300) = true := by simpa using hlt2
      have i2 : (k : Int) < (len : Int) := by omega
      have HD : Hid (∀ kd : Int, Calls Try.prog 5 #[.pointer (some ⟨w.heap.size, 0, none⟩), .pointer (some ⟨w.heap.size + 1, 0, none⟩), .agg #[.int .i64 kd, .int .i64 nn, .int .i64 mm, .int .u64 aa, .int .u64 uu, .string ss]]
          (wr.alloc (.cells #[.int .i64 kd, .int .i64 nn, .int .i64 mm, .int .u64 aa, .int .u64 uu, .string ss] 31)) (DoPost w.heap.size w w.heap.size (w.heap.size + 1) m)) := fun kd =>
        do_any (HB.out.quiet ((Keeps.refl _ wr).alloc _)) (by have := HMK.out; omega) kd nn mm aa uu ss HS.out.1 HS.out.2.1 HS.out.2.2
      have HQ : Hid (∀ o, Both w.heap.size w w.heap.size (w.heap.size + 1) m m (wr.alloc o)) := fun o => HB.out.quiet ((Keeps.refl _ wr).alloc o)
      clear HB HA HS
      go_wp2_with (go_at_call 5; refine (HD.out _).mono ?_; rintro e w2 ⟨rfl, m', hm2, hB2⟩; have HB2 := Lib.hid hB2; clear hB2; have HM2 := Lib.hid hm2; clear hm2)
      all_goals go_roundw
      all_goals first
        | (simp [intOf]; omega)
        | exact ⟨k + 1, by omega, by omega, by go_num, _, by have := HMK.out; omega, HQ.out _⟩
        | exact ⟨k + 1, by omega, by omega, by go_num, m', by have := HMK.out; have := HM2.out; omega, HB2.out⟩
    · have CZ : Hid (∀ W : World, Calls Try.prog 9 #[] W fun e w' => e = .returned (.bool true) ∧ Below W.heap.size W w') := awake_any
      have CK := Lib.hid (kregs HB.out)
      have HLT := Lib.hid hlt
      clear hlt HA HMK
      have fin : ∀ go : Prop, go → go := fun _ h => h
      clear fin HB
      obtain ⟨n, hn⟩ : ∃ n, n = (lives m.vs m.made).length := ⟨_, rfl⟩
      have HN := Lib.hid hn
      rw [← hn] at CK
      clear hn
      by_cases hl : k < len
      · have h3 : k = 300 := by have := HLT.out; omega
        subst h3
        have g1 : decide (300 < len) = true := by simpa using hl
        go_wp2_with (first
          | (go_at_call 7; refine CK.out.mono ?_; rintro e w2 ⟨A1, c1, rfl, hr2⟩; have HX := Lib.hid (xregs hr2 HN.out); clear hr2)
          | (go_at_call 8; refine HX.out.mono ?_; rintro e w3 ⟨A2, c2, rfl, hb3, hB3, hn3, N, P, Bs, r1, r2⟩; have HS := Lib.hid (xsame_any n c1 c2 A1 A2 N P Bs w3 hn3 r1 r2); have HB3 := Lib.hid hb3; clear hb3 r1 r2)
          | (go_at_call 6; refine HS.out.mono ?_; rintro e w4 ⟨rfl, hb4⟩; have HB4 := Lib.hid hb4; clear hb4)
          | (go_at_call 9; refine (CZ.out _).mono ?_; rintro e w5 ⟨rfl, hb5⟩; have HB5 := Lib.hid hb5; clear hb5))
        go_ret
        exact ⟨rfl, HB3.out.trans ((HB4.out.mono hB3).trans (HB5.out.mono (Nat.le_trans hB3 HB4.out.size)))⟩
      · have hlk : k = len := by omega
        subst hlk
        have g1 : decide (k < k) = false := by simp
        go_wp2_with (first
          | (go_at_call 7; refine CK.out.mono ?_; rintro e w2 ⟨A1, c1, rfl, hr2⟩; have HX := Lib.hid (xregs hr2 HN.out); clear hr2)
          | (go_at_call 8; refine HX.out.mono ?_; rintro e w3 ⟨A2, c2, rfl, hb3, hB3, hn3, N, P, Bs, r1, r2⟩; have HS := Lib.hid (xsame_any n c1 c2 A1 A2 N P Bs w3 hn3 r1 r2); have HB3 := Lib.hid hb3; clear hb3 r1 r2)
          | (go_at_call 6; refine HS.out.mono ?_; rintro e w4 ⟨rfl, hb4⟩; have HB4 := Lib.hid hb4; clear hb4)
          | (go_at_call 9; refine (CZ.out _).mono ?_; rintro e w5 ⟨rfl, hb5⟩; have HB5 := Lib.hid hb5; clear hb5))
        go_ret
        exact ⟨rfl, HB3.out.trans ((HB4.out.mono hB3).trans (HB5.out.mono (Nat.le_trans hB3 HB4.out.size)))⟩
end Go.Proofs.Ytmbkagjdhpfngaa
