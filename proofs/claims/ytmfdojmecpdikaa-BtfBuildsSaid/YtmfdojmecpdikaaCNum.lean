/-
  Layer 6, the reference: its reader's numbers.
-/
import Derived.Test.YtmfdojmecpdikaaCLe
import Derived.Test.YtmfdojmecpdikaaCName
import Derived.Test.YtmfdojmecpdikaaBRead
namespace Go.Proofs.Ytmfdojmecpdikaa
open Go Go.RowKit
set_option linter.unusedVariables false
set_option linter.unusedSimpArgs false
set_option maxRecDepth 100000
/-- The reference's reader that lies in block g. -/
structure PM (w : World) (g : Nat) (r : RS) : Prop where
  blk : Blk w g 76 #[.string (bstr r.ts), .string (bstr r.ns), .bool r.bad]
  ts : r.ts.length ≤ 4294967296
  ns : r.ns.length ≤ 4294967296
theorem PM.keeps {w w' : World} {S : Nat → Prop} {g : Nat} {r : RS} (h : PM w g r) (k : Keeps S w w') (hs : ¬ S g) : PM w' g r := ⟨h.blk.keeps k hs, h.ts, h.ns⟩
def PostQ (w : World) (g : Nat) (v : Ending) (r : RS) (e : Ending) (w' : World) : Prop := e = v ∧ PM w' g r ∧ Keeps (· = g) w w'
theorem num4_le (a b c d : UInt8) (r : List UInt8) : ((((d.toNat : Int) * 256 + (c.toNat : Int)) * 256 + (b.toNat : Int)) * 256 + (a.toNat : Int)) = num4 (a :: b :: c :: d :: r) := by
  rw [num4_cons]; omega
theorem four_of (ts : List UInt8) (h : 4 ≤ ts.length) : ∃ a b c d r, ts = a :: b :: c :: d :: r := by
  match ts, h with
  | a :: b :: c :: d :: r, _ => exact ⟨a, b, c, d, r, rfl⟩
theorem cut4 (a b c d : UInt8) (r : List UInt8) : (bstr (a :: b :: c :: d :: r)).extract 0 4 = ⟨#[a, b, c, d]⟩ := by
  rw [bstr_cut]; rfl
theorem fromle_any (ts : List UInt8) (h : 4 ≤ ts.length) (w : World) :
    Calls Try.prog 30 #[.string ((bstr ts).extract 0 4)] w fun e w' => e = .returned (.int .u64 (num4 ts)) ∧ w = w' := by
  obtain ⟨a, b, c, d, r, rfl⟩ := four_of ts h
  rw [← num4_le, cut4]
  exact fromle_4 a b c d w
set_option maxHeartbeats 1000000 in
theorem pnum_any {w : World} {g : Nat} {r : RS} (h : PM w g r) :
    Calls Try.prog 40 #[.pointer (some ⟨g, 0, none⟩)] w (PostQ w g (.returned (.int .i64 (numV r))) (numR r)) := by
  obtain ⟨hb, ht, hn⟩ := h
  obtain ⟨ts, ns, bad⟩ := r
  simp only at hb ht hn
  have c0 : w.cell? ⟨g, 0, none⟩ = some (.string (bstr ts)) := hb.cell 0
  have c2 : w.cell? ⟨g, 2, none⟩ = some (.bool bad) := hb.cell 2
  have f0 : w.frozen? ⟨g, 0, none⟩ = false := hb.frozen 0
  have f2 : w.frozen? ⟨g, 2, none⟩ = false := hb.frozen 2
  have HB := Lib.hid hb
  clear hb
  by_cases h4 : ts.length < 4
  · have hs : ((bstr ts).size : Int) < 4 := by rw [bstr_size]; omega
    have e1 : numV ⟨ts, ns, bad⟩ = 0 := by unfold numV; rw [if_pos h4]
    have e2 : numR ⟨ts, ns, bad⟩ = ⟨ts, ns, true⟩ := by unfold numR; rw [if_pos h4]
    rw [e1, e2]
    have H1 := Lib.hid ht
    have H2 := Lib.hid hn
    have HB2 := Lib.hid (HB.out.set_ 2 (.bool true))
    clear h4 e1 e2 ht hn
    go_enter Try.func40, Try.ntmps40
    go_wp2_with fail
    go_ret
    exact ⟨rfl, ⟨by simpa using HB2.out, H1.out, H2.out⟩, keeps_set w g 2 _⟩
  · have hs : (4 : Int) ≤ ((bstr ts).size : Int) := by rw [bstr_size]; omega
    have hs2 : ((bstr ts).size : Int) ≤ 4294967296 := by rw [bstr_size]; omega
    have e1 : numV ⟨ts, ns, bad⟩ = num4 ts := by unfold numV; rw [if_neg h4]
    have e2 : numR ⟨ts, ns, bad⟩ = ⟨ts.drop 4, ns, bad⟩ := by unfold numR; rw [if_neg h4]
    rw [e1, e2]
    have hx : (bstr ts).extract 4 (bstr ts).size = bstr (ts.drop 4) := by rw [bstr_size]; exact bstr_drop ts 4 (by omega)
    have hb := num4_lo ts
    have CN := Lib.hid (fun w => fromle_any ts (by omega) w)
    have HB2 := Lib.hid (HB.out.set_ 0 (.string (bstr (ts.drop 4))))
    have H1 := Lib.hid ht
    have H2 := Lib.hid hn
    clear h4 e1 e2 ht hn
    go_enter Try.func40, Try.ntmps40
    go_wp2_with (go_at_call 30; refine (CN.out _).mono ?_; rintro e w1 ⟨rfl, rfl⟩)
    go_ret
    exact ⟨rfl, ⟨by simpa using HB2.out, by simp; have := H1.out; omega, H2.out⟩, keeps_set w g 0 _⟩
set_option maxHeartbeats 1000000 in
theorem psmall_any {w : World} {g : Nat} {r : RS} (h : PM w g r) :
    Calls Try.prog 41 #[.pointer (some ⟨g, 0, none⟩)] w (PostQ w g (.returned (.int .i64 (numV r))) (wantR (numR r) (decide (numV r ≤ 2147483647)))) := by
  have hv := numV_lo r
  have CN := Lib.hid (pnum_any h)
  clear h
  generalize numV r = n at *
  generalize numR r = r' at *
  obtain ⟨ts, ns, bad⟩ := r'
  obtain ⟨q, hq⟩ : ∃ q, decide (n ≤ 2147483647) = q := ⟨_, rfl⟩
  have g1 : decide (2147483647 < n) = !q := by rw [← hq, Bool.eq_iff_iff]; simp
  rw [hq]
  clear hq
  cases bad
  · cases q
    all_goals
      simp only [Bool.not_true, Bool.not_false] at g1
      go_enter Try.func41, Try.ntmps41
      go_wp2_with (go_at_call 40; refine CN.out.mono ?_; rintro e w1 ⟨rfl, hp, hk⟩; have HP := Lib.hid hp; have HK := Lib.hid hk; have c2 : w1.cell? ⟨g, 2, none⟩ = some (.bool false) := hp.blk.cell 2; have f2 : w1.frozen? ⟨g, 2, none⟩ = false := hp.blk.frozen 2; clear hp hk)
      go_ret
      refine ⟨rfl, ⟨?_, HP.out.ts, HP.out.ns⟩, HK.out.set_ 2 _⟩
      first | (simpa [wantR] using HP.out.blk.set_ 2 (.bool false)) | (simpa [wantR] using HP.out.blk.set_ 2 (.bool true))
  · clear g1
    go_enter Try.func41, Try.ntmps41
    go_wp2_with (go_at_call 40; refine CN.out.mono ?_; rintro e w1 ⟨rfl, hp, hk⟩; have HP := Lib.hid hp; have HK := Lib.hid hk; have c2 : w1.cell? ⟨g, 2, none⟩ = some (.bool true) := hp.blk.cell 2; have f2 : w1.frozen? ⟨g, 2, none⟩ = false := hp.blk.frozen 2; clear hp hk)
    go_ret
    refine ⟨rfl, ⟨?_, HP.out.ts, HP.out.ns⟩, HK.out.set_ 2 _⟩
    simpa [wantR] using HP.out.blk.set_ 2 (.bool true)
end Go.Proofs.Ytmfdojmecpdikaa
