/-
  Layer 6: what a type of a kind has ahead of its members, read.
-/
import Derived.Test.YtmfdojmecpdikaaBName
namespace Go.Proofs.Ytmfdojmecpdikaa
open Go Go.RowKit
set_option linter.unusedVariables false
set_option linter.unusedSimpArgs false
set_option maxRecDepth 100000
/-- The type that is being read: block t. -/
def TB (w : World) (t : Nat) (k : Int) (n : ByteArray) (b : Bd) (mv : Value) : Prop := Blk w t 36 #[.int .i64 k, .string n, .int .i64 b.size, .int .i64 b.ty, .int .i64 b.count, mv]
def PostB (w : World) (g t : Nat) (r : RS) (k : Int) (n : ByteArray) (mv : Value) (e : Ending) (w' : World) : Prop :=
  e = .returned (.tuple #[]) ∧ RM w' g (bodyR k r) ∧ TB w' t k n (bodyV k r) mv ∧ Keeps (fun b => b = g ∨ b = t) w w'
theorem Keeps.to2 {g t : Nat} {w w' : World} (h : Keeps (· = g) w w') : Keeps (fun b => b = g ∨ b = t) w w' := h.mono fun b hb => .inl hb
theorem Keeps.then2 {a b c : World} {g t : Nat} (h : Keeps (fun b => b = g ∨ b = t) a b) (k : Keeps (fun b => b = g ∨ b = t) b c) : Keeps (fun b => b = g ∨ b = t) a c := h.trans (k.mono fun b hb => .inl hb)
theorem Keeps.set2 {a w : World} {g t : Nat} (h : Keeps (fun b => b = g ∨ b = t) a w) (i : Nat) (u : Value) : Keeps (fun b => b = g ∨ b = t) a (w.setCell ⟨t, i, none⟩ u) := h.setCell (p := ⟨t, i, none⟩) (.inl (.inr rfl)) u
theorem rm_far {w : World} {g t : Nat} {r : RS} (h : RM w g r) (hne : g ≠ t) (i : Nat) (u : Value) : RM (w.setCell ⟨t, i, none⟩ u) g r := ⟨h.blk.far hne u, h.ts, h.ns⟩
theorem TB.size_ {w : World} {t : Nat} {k : Int} {n : ByteArray} {b : Bd} {mv : Value} (h : TB w t k n b mv) (v : Int) : TB (w.setCell ⟨t, 2, none⟩ (.int .i64 v)) t k n ⟨v, b.ty, b.count⟩ mv := by
  have := Blk.set_ h 2 (.int .i64 v)
  simpa [TB] using this
theorem TB.ty_ {w : World} {t : Nat} {k : Int} {n : ByteArray} {b : Bd} {mv : Value} (h : TB w t k n b mv) (v : Int) : TB (w.setCell ⟨t, 3, none⟩ (.int .i64 v)) t k n ⟨b.size, v, b.count⟩ mv := by
  have := Blk.set_ h 3 (.int .i64 v)
  simpa [TB] using this
theorem TB.count_ {w : World} {t : Nat} {k : Int} {n : ByteArray} {b : Bd} {mv : Value} (h : TB w t k n b mv) (v : Int) : TB (w.setCell ⟨t, 4, none⟩ (.int .i64 v)) t k n ⟨b.size, b.ty, v⟩ mv := by
  have := Blk.set_ h 4 (.int .i64 v)
  simpa [TB] using this
theorem TB.mems_ {w : World} {t : Nat} {k : Int} {n : ByteArray} {b : Bd} {mv : Value} (h : TB w t k n b mv) (v : Value) : TB (w.setCell ⟨t, 5, none⟩ v) t k n b v := by
  have := Blk.set_ h 5 v
  simpa [TB] using this
theorem TB.kind_ {w : World} {t : Nat} {k : Int} {n : ByteArray} {b : Bd} {mv : Value} (h : TB w t k n b mv) (v : Int) : TB (w.setCell ⟨t, 0, none⟩ (.int .i64 v)) t v n b mv := by
  have := Blk.set_ h 0 (.int .i64 v)
  simpa [TB] using this
theorem TB.keepsR {w w' : World} {g t : Nat} {k : Int} {n : ByteArray} {b : Bd} {mv : Value} (h : TB w t k n b mv) (hk : Keeps (· = g) w w') (hne : g ≠ t) : TB w' t k n b mv := Blk.keeps h hk (fun e => hne e.symm)
set_option maxHeartbeats 4000000 in
theorem body_any {w : World} {g t : Nat} {r : RS} (h : RM w g r) (hne : g ≠ t) (k : Int) (n : ByteArray) (mv : Value) (ht : TB w t k n ⟨0, 0, 0⟩ mv) :
    Calls Try.prog 38 #[.pointer (some ⟨g, 0, none⟩), .pointer (some ⟨t, 0, none⟩)] w (PostB w g t r k n mv) := by
  have CN := Lib.hid (number_any h)
  have HT := Lib.hid ht
  have NV := numV_lo r
  clear ht h
  by_cases k3 : k = 3
  · subst k3
    unfold PostB bodyR bodyV
    rw [if_pos rfl, if_pos rfl]
    have c0 : ∀ w1, TB w1 t 3 n ⟨0, 0, 0⟩ mv → w1.cell? ⟨t, 0, none⟩ = some (.int .i64 3) := fun w1 h => h.cell 0
    have C0 := Lib.hid c0
    clear c0
    go_enter Try.func38, Try.ntmps38
    go_wp2_with (first
      | (go_at_call 37; first
        | (have tk := tok4; refine (number_any HM5.out).mono ?_; rintro e w6 ⟨rfl, hm, hk⟩; have HM6 := Lib.hid hm; have HK6 := Lib.hid hk; have HT6 := Lib.hid (HT5.out.keepsR hk hne); have f4 : w6.frozen? ⟨t, 4, none⟩ = false := HT6.out.frozen 4; have c4 : w6.cell? ⟨t, 4, none⟩ = some (.int .i64 0) := HT6.out.cell 4; clear hm hk)
        | (have tk := tok3; refine (number_any (rm_far HM3.out hne 3 _)).mono ?_; rintro e w4 ⟨rfl, hm, hk⟩; have HM4 := Lib.hid hm; have HK4 := Lib.hid hk; have HT4 := Lib.hid ((HT3.out.ty_ _).keepsR hk hne); have tok4 := True.intro; clear hm hk tok3)
        | (have tk := tok2; refine (number_any HM2.out).mono ?_; rintro e w3 ⟨rfl, hm, hk⟩; have HM3 := Lib.hid hm; have HK3 := Lib.hid hk; have HT3 := Lib.hid (HT2.out.keepsR hk hne); have f3 : w3.frozen? ⟨t, 3, none⟩ = false := HT3.out.frozen 3; have c3 : w3.cell? ⟨t, 3, none⟩ = some (.int .i64 0) := HT3.out.cell 3; have tok3 := True.intro; clear hm hk tok2)
        | (refine CN.out.mono ?_; rintro e w1 ⟨rfl, hm, hk⟩; have HM1 := Lib.hid hm; have HK1 := Lib.hid hk; have HT1 := Lib.hid (HT.out.keepsR hk hne); have c0 := C0.out _ HT1.out; clear hm hk))
      | (go_at_call 45; first
        | (have tk := tok4; refine (want_any HM4.out _).mono ?_; rintro e w5 ⟨rfl, hm, hk⟩; have HM5 := Lib.hid hm; have HK5 := Lib.hid hk; have HT5 := Lib.hid (HT4.out.keepsR hk hne); clear hm hk)
        | (refine (want_any HM1.out _).mono ?_; rintro e w2 ⟨rfl, hm, hk⟩; have HM2 := Lib.hid hm; have HK2 := Lib.hid hk; have HT2 := Lib.hid (HT1.out.keepsR hk hne); have tok2 := True.intro; clear hm hk)))
    go_end0
    refine ⟨rfl, rm_far HM6.out hne 4 _, HT6.out.count_ _, ?_⟩
    exact ((((((HK1.out.to2.then2 HK2.out.to2).then2 HK3.out.to2).set2 3 _).then2 HK4.out.to2).then2 HK5.out.to2).then2 HK6.out.to2).set2 4 _
  · by_cases k1 : k = 1
    · subst k1
      obtain ⟨v, hv⟩ : ∃ v, numV r = v := ⟨_, rfl⟩
      rw [hv] at CN NV
      have hw : IntKind.i64.wrap (8 * v) = 8 * v := IntWalk.i64_in _ (by omega)
      have hbv : bodyV 1 r = ⟨v, 0, 0⟩ := by unfold bodyV; rw [if_neg (by decide), if_pos rfl, hv]
      have hbr : bodyR 1 r = wantR (numR (numR r)) (numV (numR r) == 8 * v) := by unfold bodyR; rw [if_neg (by decide), if_pos rfl, hv]
      unfold PostB
      rw [hbv, hbr]
      clear hv hbv hbr k3
      go_enter Try.func38, Try.ntmps38
      go_wp2_with (first
        | (go_at_call 37; first
          | (have tk := tok2; refine (number_any HM.out).mono ?_; rintro e w2 ⟨rfl, hm2, hk2⟩; have HM2 := Lib.hid hm2; have HK2 := Lib.hid hk2; have HT2 := Lib.hid (HT1.out.keepsR hk2 hne); clear hm2 hk2)
          | (refine CN.out.mono ?_; rintro e w1 ⟨rfl, hm, hk⟩; have HM := Lib.hid hm; have HK := Lib.hid hk; have tok2 := True.intro; have HT1 := Lib.hid (HT.out.keepsR hk hne); have c0 : w1.cell? ⟨t, 0, none⟩ = some (.int .i64 1) := HT1.out.cell 0; clear hm hk))
        | (go_at_call 45; refine (want_any HM2.out _).mono ?_; rintro e w3 ⟨rfl, hm3, hk3⟩; have HM3 := Lib.hid hm3; have HK3 := Lib.hid hk3; have HT3 := Lib.hid (HT2.out.keepsR hk3 hne); have c2 : w3.cell? ⟨t, 2, none⟩ = some (.int .i64 0) := HT3.out.cell 2; have f2 : w3.frozen? ⟨t, 2, none⟩ = false := HT3.out.frozen 2; clear hm3 hk3))
      go_end0
      exact ⟨rfl, rm_far HM3.out hne 2 _, HT3.out.size_ _, ((HK.out.to2.then2 HK2.out.to2).then2 HK3.out.to2).set2 2 _⟩
    · have hbr : bodyR k r = numR r := by unfold bodyR; rw [if_neg k3, if_neg k1]
      unfold PostB
      rw [hbr]
      by_cases k4 : k = 4
      · subst k4
        have hbv : bodyV 4 r = ⟨numV r, 0, 0⟩ := by unfold bodyV; rw [if_neg (by decide), if_neg (by decide), if_pos rfl]
        rw [hbv]
        clear hbv hbr k3 k1
        go_enter Try.func38, Try.ntmps38
        go_wp2_with (go_at_call 37; refine CN.out.mono ?_; rintro e w1 ⟨rfl, hm, hk⟩; have HM := Lib.hid hm; have HK := Lib.hid hk; have HT1 := Lib.hid (HT.out.keepsR hk hne); have c0 : w1.cell? ⟨t, 0, none⟩ = some (.int .i64 4) := HT1.out.cell 0; have c2 : w1.cell? ⟨t, 2, none⟩ = some (.int .i64 0) := HT1.out.cell 2; have f2 : w1.frozen? ⟨t, 2, none⟩ = false := HT1.out.frozen 2; have c3 : w1.cell? ⟨t, 3, none⟩ = some (.int .i64 0) := HT1.out.cell 3; have f3 : w1.frozen? ⟨t, 3, none⟩ = false := HT1.out.frozen 3; clear hm hk)
        go_end0
        exact ⟨rfl, rm_far HM.out hne 2 _, HT1.out.size_ _, HK.out.to2.set2 2 _⟩
      · by_cases k2 : k = 2
        · subst k2
          have hbv : bodyV 2 r = ⟨0, numV r, 0⟩ := by unfold bodyV; rw [if_neg (by decide), if_neg (by decide), if_neg (by decide), if_pos rfl]
          rw [hbv]
          clear hbv hbr k3 k1 k4
          go_enter Try.func38, Try.ntmps38
          go_wp2_with (go_at_call 37; refine CN.out.mono ?_; rintro e w1 ⟨rfl, hm, hk⟩; have HM := Lib.hid hm; have HK := Lib.hid hk; have HT1 := Lib.hid (HT.out.keepsR hk hne); have c0 : w1.cell? ⟨t, 0, none⟩ = some (.int .i64 2) := HT1.out.cell 0; have c2 : w1.cell? ⟨t, 2, none⟩ = some (.int .i64 0) := HT1.out.cell 2; have f2 : w1.frozen? ⟨t, 2, none⟩ = false := HT1.out.frozen 2; have c3 : w1.cell? ⟨t, 3, none⟩ = some (.int .i64 0) := HT1.out.cell 3; have f3 : w1.frozen? ⟨t, 3, none⟩ = false := HT1.out.frozen 3; clear hm hk)
          go_end0
          exact ⟨rfl, rm_far HM.out hne 3 _, HT1.out.ty_ _, HK.out.to2.set2 3 _⟩
        · by_cases k8 : k = 8
          · subst k8
            have hbv : bodyV 8 r = ⟨0, numV r, 0⟩ := by unfold bodyV; rw [if_neg (by decide), if_neg (by decide), if_neg (by decide), if_neg (by decide), if_pos rfl]
            rw [hbv]
            clear hbv hbr k3 k1 k4 k2
            go_enter Try.func38, Try.ntmps38
            go_wp2_with (go_at_call 37; refine CN.out.mono ?_; rintro e w1 ⟨rfl, hm, hk⟩; have HM := Lib.hid hm; have HK := Lib.hid hk; have HT1 := Lib.hid (HT.out.keepsR hk hne); have c0 : w1.cell? ⟨t, 0, none⟩ = some (.int .i64 8) := HT1.out.cell 0; have c2 : w1.cell? ⟨t, 2, none⟩ = some (.int .i64 0) := HT1.out.cell 2; have f2 : w1.frozen? ⟨t, 2, none⟩ = false := HT1.out.frozen 2; have c3 : w1.cell? ⟨t, 3, none⟩ = some (.int .i64 0) := HT1.out.cell 3; have f3 : w1.frozen? ⟨t, 3, none⟩ = false := HT1.out.frozen 3; clear hm hk)
            go_end0
            exact ⟨rfl, rm_far HM.out hne 3 _, HT1.out.ty_ _, HK.out.to2.set2 3 _⟩
          · have hbv : bodyV k r = ⟨0, 0, 0⟩ := by unfold bodyV; rw [if_neg k3, if_neg k1, if_neg k4, if_neg k2, if_neg k8]
            rw [hbv]
            have g3 : (k == 3) = false := by simpa using k3
            have g1 : (k == 1) = false := by simpa using k1
            have g4 : (k == 4) = false := by simpa using k4
            have g2 : (k == 2) = false := by simpa using k2
            have g8 : (k == 8) = false := by simpa using k8
            clear hbv hbr k3 k1 k4 k2 k8
            go_enter Try.func38, Try.ntmps38
            go_wp2_with (go_at_call 37; refine CN.out.mono ?_; rintro e w1 ⟨rfl, hm, hk⟩; have HM := Lib.hid hm; have HK := Lib.hid hk; have HT1 := Lib.hid (HT.out.keepsR hk hne); have c0 : w1.cell? ⟨t, 0, none⟩ = some (.int .i64 k) := HT1.out.cell 0; have c2 : w1.cell? ⟨t, 2, none⟩ = some (.int .i64 0) := HT1.out.cell 2; have f2 : w1.frozen? ⟨t, 2, none⟩ = false := HT1.out.frozen 2; have c3 : w1.cell? ⟨t, 3, none⟩ = some (.int .i64 0) := HT1.out.cell 3; have f3 : w1.frozen? ⟨t, 3, none⟩ = false := HT1.out.frozen 3; clear hm hk)
            go_end0
            exact ⟨rfl, HM.out, HT1.out, HK.out.to2⟩
end Go.Proofs.Ytmfdojmecpdikaa
