/-
  Layer 6: the reader of package btf: its marks, its numbers, where it begins.
-/
import Derived.Test.YtmfdojmecpdikaaBLeaf
namespace Go.Proofs.Ytmfdojmecpdikaa
open Go Go.RowKit
set_option linter.unusedVariables false
set_option linter.unusedSimpArgs false
set_option maxRecDepth 100000
/-- The reader that lies in block g. -/
structure RM (w : World) (g : Nat) (r : RS) : Prop where
  blk : Blk w g 63 #[.string (bstr r.ts), .string (bstr r.ns), .bool r.bad]
  ts : r.ts.length ≤ 4294967296
  ns : r.ns.length ≤ 4294967296
theorem RM.keeps {w w' : World} {S : Nat → Prop} {g : Nat} {r : RS} (h : RM w g r) (k : Keeps S w w') (hs : ¬ S g) : RM w' g r := ⟨h.blk.keeps k hs, h.ts, h.ns⟩
def PostR (w : World) (g : Nat) (v : Ending) (r : RS) (e : Ending) (w' : World) : Prop := e = v ∧ RM w' g r ∧ Keeps (· = g) w w'
theorem numR_ts (r : RS) : (numR r).ts.length ≤ r.ts.length := numR_len r
theorem numR_ns (r : RS) : (numR r).ns = r.ns := by unfold numR; split <;> rfl
theorem Keeps.set_ {a w : World} {g : Nat} (h : Keeps (· = g) a w) (i : Nat) (u : Value) : Keeps (· = g) a (w.setCell ⟨g, i, none⟩ u) := h.setCell (p := ⟨g, i, none⟩) (Or.inl (by rfl)) u
theorem keeps_set (w : World) (g i : Nat) (u : Value) : Keeps (· = g) w (w.setCell ⟨g, i, none⟩ u) := (Keeps.refl _ w).set_ i u
set_option maxHeartbeats 1000000 in
theorem want_any {w : World} {g : Nat} {r : RS} (h : RM w g r) (b : Bool) :
    Calls Try.prog 45 #[.pointer (some ⟨g, 0, none⟩), .bool b] w (PostR w g (.returned (.tuple #[])) (wantR r b)) := by
  obtain ⟨hb, ht, hn⟩ := h
  have c0 : w.cell? ⟨g, 2, none⟩ = some (.bool r.bad) := hb.cell 2
  have f0 : w.frozen? ⟨g, 2, none⟩ = false := hb.frozen 2
  have HB := Lib.hid hb
  clear hb
  cases b
  · go_enter Try.func45, Try.ntmps45
    go_wp2_with fail
    go_end0
    refine ⟨rfl, ⟨?_, ht, hn⟩, keeps_set w g 2 _⟩
    have := HB.out.set_ 2 (.bool true)
    simpa [wantR] using this
  · go_enter Try.func45, Try.ntmps45
    go_wp2_with fail
    go_end0
    refine ⟨rfl, ⟨?_, ht, hn⟩, Keeps.refl _ w⟩
    have := HB.out
    simpa [wantR] using this
set_option maxHeartbeats 1000000 in
theorem number_any {w : World} {g : Nat} {r : RS} (h : RM w g r) :
    Calls Try.prog 37 #[.pointer (some ⟨g, 0, none⟩)] w (PostR w g (.returned (.int .i64 (numV r))) (numR r)) := by
  obtain ⟨hb, ht, hn⟩ := h
  obtain ⟨ts, ns, bad⟩ := r
  simp only at hb ht hn
  have c0 : w.cell? ⟨g, 0, none⟩ = some (.string (bstr ts)) := hb.cell 0
  have c2 : w.cell? ⟨g, 2, none⟩ = some (.bool bad) := hb.cell 2
  have f0 : w.frozen? ⟨g, 0, none⟩ = false := hb.frozen 0
  have f2 : w.frozen? ⟨g, 2, none⟩ = false := hb.frozen 2
  have HB := Lib.hid hb
  clear hb
  by_cases h4 : ts.length < 4
  · have hs : ((bstr ts).size : Int) < 4 := by rw [bstr_size]; omega
    have e1 : numV ⟨ts, ns, bad⟩ = 0 := by unfold numV; rw [if_pos h4]
    have e2 : numR ⟨ts, ns, bad⟩ = ⟨ts, ns, true⟩ := by unfold numR; rw [if_pos h4]
    rw [e1, e2]
    have H1 := Lib.hid ht
    have H2 := Lib.hid hn
    have HB2 := Lib.hid (HB.out.set_ 2 (.bool true))
    clear h4 e1 e2 ht hn
    go_enter Try.func37, Try.ntmps37
    go_wp2_with fail
    go_ret
    exact ⟨rfl, ⟨by simpa using HB2.out, H1.out, H2.out⟩, keeps_set w g 2 _⟩
  · have hs : (4 : Int) ≤ ((bstr ts).size : Int) := by rw [bstr_size]; omega
    have hs2 : ((bstr ts).size : Int) ≤ 4294967296 := by rw [bstr_size]; omega
    have e1 : numV ⟨ts, ns, bad⟩ = num4 ts := by unfold numV; rw [if_neg h4]
    have e2 : numR ⟨ts, ns, bad⟩ = ⟨ts.drop 4, ns, bad⟩ := by unfold numR; rw [if_neg h4]
    rw [e1, e2]
    have hx : (bstr ts).extract 4 (bstr ts).size = bstr (ts.drop 4) := by rw [bstr_size]; exact bstr_drop ts 4 (by omega)
    have hb := num4_lo ts
    have HB2 := Lib.hid (HB.out.set_ 0 (.string (bstr (ts.drop 4))))
    have CN := Lib.hid (fun w => numberOf_any ts (by omega) (by omega) w)
    have H1 := Lib.hid ht
    have H2 := Lib.hid hn
    clear h4 e1 e2 ht hn
    go_enter Try.func37, Try.ntmps37
    go_wp2_with (go_at_call 43; refine (CN.out _).mono ?_; rintro e w1 ⟨rfl, n, rfl⟩)
    go_ret
    have hbn : Blk (w.drewN n) g 63 #[.string (bstr ts), .string (bstr ns), .bool bad] := HB.out
    refine ⟨?_, ⟨by simpa using hbn.set_ 0 (.string (bstr (ts.drop 4))), by have := H1.out; simp; omega, H2.out⟩, (show Keeps (· = g) w (w.drewN n) from ⟨rfl, rfl, rfl, Nat.le_refl _, fun _ _ _ => rfl⟩).set_ 0 _⟩
    rfl
end Go.Proofs.Ytmfdojmecpdikaa
