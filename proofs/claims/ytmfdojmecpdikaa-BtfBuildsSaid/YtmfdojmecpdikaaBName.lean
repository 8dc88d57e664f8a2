/-
  Layer 6: the reader's names.
-/
import Derived.Test.YtmfdojmecpdikaaBRead
import Derived.Test.YtmfdojmecpdikaaBCut
import Derived.WalkLawsBesides
namespace Go.Proofs.Ytmfdojmecpdikaa
open Go Go.RowKit
set_option linter.unusedVariables false
set_option linter.unusedSimpArgs false
set_option maxRecDepth 100000
def PostN (w : World) (g : Nat) (r : RS) (e : Ending) (w' : World) : Prop := e = .returned (.string (nameV r)) ∧ RM w' g (nameR r) ∧ Keeps (· = g) w w'
theorem Keeps.then_ {a b c : World} {g : Nat} (h : Keeps (· = g) a b) (k : Keeps (· = g) b c) : Keeps (· = g) a c := h.trans (k.mono fun b hb => .inl hb)
theorem Keeps.belowTo {g : Nat} {w w' : World} (h : Below w.heap.size w w') : Keeps (· = g) w w' := Below.keeps h (fun b h1 h2 => by omega)
theorem Keeps.drewTo {g : Nat} (w : World) (n : Nat) : Keeps (· = g) w (w.drewN n) := ⟨rfl, rfl, rfl, Nat.le_refl _, fun _ _ _ => rfl⟩
theorem piece_len (ns : List UInt8) (p : Nat) : (pieceOf ns p).length ≤ 129 := by unfold pieceOf; simp; omega
theorem rname_no {r : RS} (h : (r.ns.length : Int) ≤ numV r) : nameV r = bstr [] ∧ nameR r = ⟨(numR r).ts, (numR r).ns, true⟩ := by
  unfold nameV nameR
  rw [if_pos h, if_pos h]
  exact ⟨rfl, rfl⟩
theorem rname_yes {r : RS} {p : Nat} (e : numV r = (p : Int)) (h : p < r.ns.length) : nameV r = bstr (upTo0 (pieceOf r.ns p)) ∧ nameR r = wantR (numR r) (has0 (pieceOf r.ns p)) := by
  unfold nameV nameR
  rw [e, if_neg (by omega), if_neg (by omega)]
  exact ⟨rfl, rfl⟩
set_option maxHeartbeats 2000000 in
theorem rname_any {w : World} {g : Nat} {r : RS} (h : RM w g r) :
    Calls Try.prog 36 #[.pointer (some ⟨g, 0, none⟩)] w (PostN w g r) := by
  have CN := Lib.hid (number_any h)
  have hnv := numV_lo r
  have hns := numR_ns r
  have hl := h.ns
  unfold PostN
  by_cases hge : (r.ns.length : Int) ≤ numV r
  · obtain ⟨e1, e2⟩ := rname_no hge
    rw [e1, e2]
    have g1 : ((bstr r.ns).size : Int) ≤ numV r := by rw [bstr_size]; exact hge
    have HNS := Lib.hid hns
    have HE := Lib.hid e1
    have HE2 := Lib.hid e2
    clear e1 e2 hns h
    go_enter Try.func36, Try.ntmps36
    go_wp2_with (go_at_call 37; refine CN.out.mono ?_; rintro e w1 ⟨rfl, hm, hk⟩; have HM := Lib.hid hm; have HK := Lib.hid hk; clear hm hk; have c1 : w1.cell? ⟨g, 1, none⟩ = some (.string (bstr r.ns)) := (by have hc := HM.out.blk.cell 1; rw [HNS.out] at hc; exact hc); have c2 : w1.cell? ⟨g, 2, none⟩ = some (.bool (numR r).bad) := HM.out.blk.cell 2; have f2 : w1.frozen? ⟨g, 2, none⟩ = false := HM.out.blk.frozen 2)
    go_ret
    refine ⟨rfl, ⟨by simpa using HM.out.blk.set_ 2 (.bool true), HM.out.ts, HM.out.ns⟩, HK.out.set_ 2 _⟩
  · obtain ⟨p, hp⟩ : ∃ p : Nat, numV r = (p : Int) := ⟨(numV r).toNat, by omega⟩
    have hpl : p < r.ns.length := by omega
    obtain ⟨e1, e2⟩ := rname_yes hp hpl
    rw [e1, e2]
    rw [hp] at CN
    have hsz : (bstr r.ns).size = r.ns.length := bstr_size _
    have i1 : (p : Int) < ((bstr r.ns).size : Int) := by omega
    have i0 : ((bstr r.ns).size : Int) ≤ 4294967296 := by omega
    have i2 : IntKind.i64.wrap ((p : Int) + 128) = (p : Int) + 128 := IntWalk.i64_in _ (by omega)
    have i3 : IntKind.i64.wrap ((p : Int) + 128 + 1) = (p : Int) + 128 + 1 := IntWalk.i64_in _ (by omega)
    have i5 : (0 : Int) ≤ (p : Int) := by omega
    obtain ⟨q, hq⟩ : ∃ q, q = min r.ns.length (p + 129) := ⟨_, rfl⟩
    have hmin : min ((bstr r.ns).size : Int) ((p : Int) + 128 + 1) = (q : Int) := by omega
    have i6 : (p : Int) ≤ (q : Int) := by omega
    have i7 : (q : Int) ≤ ((bstr r.ns).size : Int) := by omega
    have hx : (bstr r.ns).extract p q = bstr (pieceOf r.ns p) := by
      rw [bstr_cut]
      unfold pieceOf
      congr 1
      rw [hq]
      rcases Nat.lt_or_ge r.ns.length (p + 129) with h1 | h1
      · rw [Nat.min_eq_left (by omega), List.take_of_length_le (by simp), List.take_of_length_le (by simp; omega)]
      · rw [Nat.min_eq_right (by omega)]; congr 1; omega
    have hpc := piece_len r.ns p
    have CC := Lib.hid (fun w => cut_any (pieceOf r.ns p) (by omega) w)
    have CL := Lib.hid (fun w => clone_any (bstr (upTo0 (pieceOf r.ns p))) w (by rw [bstr_size]; have : (upTo0 (pieceOf r.ns p)).length ≤ (pieceOf r.ns p).length := (List.takeWhile_sublist _).length_le; omega))
    have HNS := Lib.hid hns
    clear e1 e2 hns h hsz hq hpl hge hp
    go_enter Try.func36, Try.ntmps36
    go_wp2_with (go_at_call 37; refine CN.out.mono ?_; rintro e w1 ⟨rfl, hm, hk⟩; have HM := Lib.hid hm; have HK := Lib.hid hk; clear hm hk; have c1 : w1.cell? ⟨g, 1, none⟩ = some (.string (bstr r.ns)) := (by have hc := HM.out.blk.cell 1; rw [HNS.out] at hc; exact hc); have c2 : w1.cell? ⟨g, 2, none⟩ = some (.bool (numR r).bad) := HM.out.blk.cell 2; have f2 : w1.frozen? ⟨g, 2, none⟩ = false := HM.out.blk.frozen 2)
    go_quiet ((go_at_call 44; exact Calls.quiet_of (CC.out _)))
    generalize hW : World.drewN _ _ = W2
    have hm2 : RM W2 g (numR r) := by rw [← hW]; exact ⟨HM.out.blk, HM.out.ts, HM.out.ns⟩
    have hk2 : Keeps (· = g) w W2 := by rw [← hW]; exact HK.out.then_ (Keeps.drewTo _ _)
    have CW := Lib.hid (want_any hm2 (has0 (pieceOf r.ns p)))
    have HK2 := Lib.hid hk2
    clear hW hm2 hk2 c1 c2 f2
    go_wp2_with (first | (go_at_call 45; refine CW.out.mono ?_; rintro e w3 ⟨rfl, hm3, hk3⟩; have HM3 := Lib.hid hm3; have HK3 := Lib.hid hk3; clear hm3 hk3) | (go_at_call 46; refine (CL.out _).mono ?_; rintro e w4 ⟨rfl, hb4⟩; have HB4 := Lib.hid hb4; clear hb4))
    go_ret
    have hk4 : Keeps (· = g) w3 w4 := Keeps.belowTo HB4.out
    have hlt := HM3.out.blk.lt
    exact ⟨rfl, ⟨HM3.out.blk.keeps (Below.keeps (S := fun _ => False) HB4.out (fun b h1 h2 => by omega)) (fun h => h), HM3.out.ts, HM3.out.ns⟩, (HK2.out.then_ HK3.out).then_ hk4⟩
end Go.Proofs.Ytmfdojmecpdikaa
