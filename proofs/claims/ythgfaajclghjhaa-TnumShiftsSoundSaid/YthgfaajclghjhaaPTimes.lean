/-
  Package tnum: times.
-/
import Derived.Test.YthgfaajclghjhaaPAdd
namespace Go.Proofs.Ythgfaajclghjhaa
open Go Go.RowKit Go.Maps Tn
set_option linter.unusedVariables false
set_option linter.unusedSimpArgs false
set_option maxRecDepth 100000
theorem kn_eq (a b : TN) (w : World) : (binOp .eql knT (tv a) (tv b)).run Try.prog w = .ok (.bool (decide (a = b))) w := by
  obtain ⟨v, m⟩ := a
  obtain ⟨p, q⟩ := b
  have key : ∀ c : Bool, decide (n64 v = n64 p ∧ n64 m = n64 q) = c → (binOp .eql knT (tv (v, m)) (tv (p, q))).run Try.prog w = .ok (.bool c) w := by
    intro c hc
    go_simp
    rw [← hc]
    by_cases h1 : n64 v = n64 p
    · by_cases h2 : n64 m = n64 q
      · rw [if_pos h1, if_pos h2, decide_eq_true ⟨h1, h2⟩]
      · rw [if_pos h1, if_neg h2, decide_eq_false (fun h => h2 h.2)]
    · rw [if_neg h1, decide_eq_false (fun h => h1 h.1)]
  refine key _ ?_
  rw [decide_eq_decide, n64_inj, n64_inj, Prod.mk.injEq]
theorem kn_neq (a b : TN) (w : World) : (binOp .neq knT (tv a) (tv b)).run Try.prog w = .ok (.bool (!decide (a = b))) w := by
  have h := kn_eq a b w
  rw [run_eql_struct] at h
  rw [run_neq_struct]
  revert h
  generalize (Op.equalIn 10000 knT (tv a) (tv b)).run Try.prog w = r
  intro h
  cases r with
  | ok b w' =>
    simp only [Result.andThen_ok, Result.ok.injEq, Value.bool.injEq] at h ⊢
    exact ⟨by rw [h.1], h.2⟩
  | halt x w' => cases h
/-- The product's memory: both numbers, the result, the constant part, the sum. -/
structure TK (w : World) (g : Nat) (a b r s : TN) (W : World) : Prop where
  a : Blk W g knT (tC a)
  b : Blk W (g + 1) knT (tC b)
  res : RK w (g + 1 + 1) W
  r : Blk W (g + 1 + 1 + 1) knT (tC r)
  s : Blk W (g + 1 + 1 + 1 + 1) knT (tC s)
  g : w.heap.size = g
theorem TK.keeps {w W W' : World} {g : Nat} {a b r s : TN} (h : TK w g a b r s W) (k : Keeps (fun _ => False) W W') : TK w g a b r s W' := ⟨h.a.keeps k (fun h => h), h.b.keeps k (fun h => h), h.res.keeps k, h.r.keeps k (fun h => h), h.s.keeps k (fun h => h), h.g⟩
theorem TK.new (a b : TN) (x : B64) (w : World) : TK w w.heap.size a b (x, 0) (0, 0) (((((w.alloc (.cells #[uv a.1, uv a.2] knT)).alloc (.cells #[uv b.1, uv b.2] knT)).alloc (.cells #[.int .u64 0, .int .u64 0] knT)).alloc (.cells #[.int .u64 (n64 x), .int .u64 0] knT)).alloc (.cells #[.int .u64 0, .int .u64 0] knT)) := by
  obtain ⟨_, h⟩ := ktwo_boxes a b w
  have h1 := ((Blk.new w knT #[uv a.1, uv a.2]).alloc (.cells #[uv b.1, uv b.2] knT)).alloc (.cells #[.int .u64 0, .int .u64 0] knT)
  have h2 := (Blk.new (w.alloc (.cells #[uv a.1, uv a.2] knT)) knT #[uv b.1, uv b.2]).alloc (.cells #[.int .u64 0, .int .u64 0] knT)
  rw [show (w.alloc (.cells #[uv a.1, uv a.2] knT)).heap.size = w.heap.size + 1 by simp] at h2
  have hs : (((w.alloc (.cells #[uv a.1, uv a.2] knT)).alloc (.cells #[uv b.1, uv b.2] knT)).alloc (.cells #[.int .u64 0, .int .u64 0] knT)).heap.size = w.heap.size + 1 + 1 + 1 := by simp
  generalize ((w.alloc (.cells #[uv a.1, uv a.2] knT)).alloc (.cells #[uv b.1, uv b.2] knT)).alloc (.cells #[.int .u64 0, .int .u64 0] knT) = W at *
  have k : Keeps (fun _ => False) W ((W.alloc (.cells #[.int .u64 (n64 x), .int .u64 0] knT)).alloc (.cells #[.int .u64 0, .int .u64 0] knT)) := ((Keeps.refl _ W).alloc _).alloc _
  have h4 := (Blk.new W knT #[.int .u64 (n64 x), .int .u64 0]).alloc (.cells #[.int .u64 0, .int .u64 0] knT)
  have h5 := Blk.new (W.alloc (.cells #[.int .u64 (n64 x), .int .u64 0] knT)) knT #[.int .u64 0, .int .u64 0]
  rw [show (W.alloc (.cells #[.int .u64 (n64 x), .int .u64 0] knT)).heap.size = W.heap.size + 1 by simp] at h5
  rw [hs] at h4 h5
  exact ⟨h1.keeps k (fun h => h), h2.keeps k (fun h => h), h.keeps k, h4, h5, rfl⟩
theorem kfar2 {w : World} {g k : Nat} {cs : Array Value} (h : Blk w g knT cs) (hk : g ≠ k) (u1 u2 : Value) : Blk ((w.setCell ⟨k, 0, none⟩ u1).setCell ⟨k, 1, none⟩ u2) g knT cs := (h.far (p := ⟨k, 0, none⟩) hk u1).far (p := ⟨k, 1, none⟩) hk u2
theorem kset2 {w : World} {g : Nat} {t : TN} (h : Blk w g knT (tC t)) (u : TN) : Blk ((w.setCell ⟨g, 0, none⟩ (uv u.1)).setCell ⟨g, 1, none⟩ (uv u.2)) g knT (tC u) := by simpa using (h.set_ 0 (uv u.1)).set_ 1 (uv u.2)
theorem RK.kset2 {w W : World} {g k : Nat} (h : RK w g W) (hk : g ≠ k) (hn : w.heap.size ≤ k) (u1 u2 : Value) : RK w g ((W.setCell ⟨k, 0, none⟩ u1).setCell ⟨k, 1, none⟩ u2) := by
  obtain ⟨⟨cs, hs, hb⟩, h2, h3⟩ := h
  exact ⟨⟨cs, hs, kfar2 hb hk u1 u2⟩, (h2.setCell (p := ⟨k, 0, none⟩) hn u1).setCell (p := ⟨k, 1, none⟩) hn u2, h3⟩
section
variable {w W : World} {g : Nat} {a b r s : TN}
theorem TK.setS (h : TK w g a b r s W) (u : TN) : TK w g a b r u ((W.setCell ⟨g + 1 + 1 + 1 + 1, 0, none⟩ (uv u.1)).setCell ⟨g + 1 + 1 + 1 + 1, 1, none⟩ (uv u.2)) :=
  ⟨kfar2 h.a (by omega) _ _, kfar2 h.b (by omega) _ _, h.res.kset2 (by omega) (by have := h.g; omega) _ _, kfar2 h.r (by omega) _ _, Go.Proofs.Ythgfaajclghjhaa.kset2 h.s u, h.g⟩
theorem TK.setA (h : TK w g a b r s W) (u : TN) : TK w g u b r s ((W.setCell ⟨g, 0, none⟩ (uv u.1)).setCell ⟨g, 1, none⟩ (uv u.2)) :=
  ⟨Go.Proofs.Ythgfaajclghjhaa.kset2 h.a u, kfar2 h.b (by omega) _ _, h.res.kset2 (by omega) (by have := h.g; omega) _ _, kfar2 h.r (by omega) _ _, kfar2 h.s (by omega) _ _, h.g⟩
theorem TK.setB (h : TK w g a b r s W) (u : TN) : TK w g a u r s ((W.setCell ⟨g + 1, 0, none⟩ (uv u.1)).setCell ⟨g + 1, 1, none⟩ (uv u.2)) :=
  ⟨kfar2 h.a (by omega) _ _, Go.Proofs.Ythgfaajclghjhaa.kset2 h.b u, h.res.kset2 (by omega) (by have := h.g; omega) _ _, kfar2 h.r (by omega) _ _, kfar2 h.s (by omega) _ _, h.g⟩
theorem TK.facts (h : TK w g a b r s W) : (W.cell? ⟨g, 0, none⟩ = some (uv a.1) ∧ W.cell? ⟨g, 1, none⟩ = some (uv a.2) ∧ W.cell? ⟨g + 1, 0, none⟩ = some (uv b.1) ∧ W.cell? ⟨g + 1, 1, none⟩ = some (uv b.2)) ∧
    (W.cell? ⟨g + 1 + 1 + 1, 0, none⟩ = some (uv r.1) ∧ W.cell? ⟨g + 1 + 1 + 1, 1, none⟩ = some (uv r.2)) ∧ (W.cell? ⟨g + 1 + 1 + 1 + 1, 0, none⟩ = some (uv s.1) ∧ W.cell? ⟨g + 1 + 1 + 1 + 1, 1, none⟩ = some (uv s.2)) :=
  ⟨⟨h.a.cell 0, h.a.cell 1, h.b.cell 0, h.b.cell 1⟩, ⟨h.r.cell 0, h.r.cell 1⟩, h.s.cell 0, h.s.cell 1⟩
theorem TK.soft (h : TK w g a b r s W) : (W.frozen? ⟨g, 0, none⟩ = false ∧ W.frozen? ⟨g, 1, none⟩ = false) ∧ (W.frozen? ⟨g + 1, 0, none⟩ = false ∧ W.frozen? ⟨g + 1, 1, none⟩ = false) ∧ (W.frozen? ⟨g + 1 + 1 + 1 + 1, 0, none⟩ = false ∧ W.frozen? ⟨g + 1 + 1 + 1 + 1, 1, none⟩ = false) :=
  ⟨⟨h.a.frozen 0, h.a.frozen 1⟩, ⟨h.b.frozen 0, h.b.frozen 1⟩, h.s.frozen 0, h.s.frozen 1⟩
end
theorem ktimes_aux (a b S : TN) (hS : Hid (loopS 64 (0, 0) a b = S)) (w : World) : Calls Try.prog 42 #[tv a, tv b] w fun e w' => e = .returned (tv (tAdd (a.1 * b.1) 0 S.1 S.2)) ∧ Below w.heap.size w w' := by
  have F := Lib.hid (TK.new a b (a.1 * b.1) w)
  obtain ⟨v, m⟩ := a
  obtain ⟨p, q⟩ := b
  have r3 := n64_mulw
  have r3' := n64_mul
  obtain ⟨⟨c0, c1, c2, c3⟩, _⟩ := ktwo_boxes (v, m) (p, q) w
  go_enter Try.func42, Try.ntmps42
  go_wp2_with fail
  clear c0 c1 c2 c3 r3 r3'
  generalize ((((w.alloc (.cells #[uv v, uv m] knT)).alloc (.cells #[uv p, uv q] knT)).alloc (.cells #[.int .u64 0, .int .u64 0] knT)).alloc (.cells #[.int .u64 (n64 (v * p)), .int .u64 0] knT)).alloc (.cells #[.int .u64 0, .int .u64 0] knT) = wz at *
  go_loopg [] 64 (fun n wr => ∃ a b s : TN, TK w w.heap.size a b (v * p, 0) s wr ∧ loopS n s a b = S ∧ a.1.toNat < 2 ^ n ∧ a.2.toNat < 2 ^ n)
  case atStart => exact ⟨_, _, _, F.out, hS.out, v.isLt, m.isLt⟩
  case round =>
    clear F hS
    obtain ⟨a, b, s, hw, hl, h1, h2⟩ := hrel
    by_cases hz : a = (0, 0)
    · subst hz
      rw [loopS_zero] at hl
      have q0 := kn_neq (0, 0) (0, 0)
      obtain ⟨⟨a0, a1, a2, a3⟩, ⟨b0, b1⟩, ⟨s0, s1⟩⟩ := hw.facts
      have HW := Lib.hid hw
      have HS : Hid (s = S) := hl
      have CA := Lib.hid (kadd_any (v * p, 0) s wr)
      have q0 : ∀ W, (binOp .neq knT (.agg #[.int .u64 0, .int .u64 0]) (.agg #[.int .u64 0, .int .u64 0])).run Try.prog W = .ok (.bool false) W := fun W => (kn_neq (0, 0) (0, 0) W).trans (by simp)
      have a0 : wr.cell? ⟨w.heap.size, 0, none⟩ = some (.int .u64 0) := a0
      have a1 : wr.cell? ⟨w.heap.size, 1, none⟩ = some (.int .u64 0) := a1
      have b1 : wr.cell? ⟨w.heap.size + 1 + 1 + 1, 1, none⟩ = some (.int .u64 0) := b1
      clear hw hl h1 h2
      go_wp2_with (go_at_call 40; refine CA.out.mono ?_; rintro e w1 ⟨rfl, hb⟩; have hr := HW.out.res.keeps (keeps_below hb); obtain ⟨f0, f1⟩ := hr.frozen; obtain ⟨x0, x1, e0, e1⟩ := hr.cells; have HR := Lib.hid hr; clear hr hb)
      obtain ⟨k1, k2⟩ := HR.out.fill (uv (tAdd (v * p) 0 s.1 s.2).1) (uv (tAdd (v * p) 0 s.1 s.2).2)
      refine bodyPost_ret (results_cell_row rfl _ _ (w.heap.size + 1 + 1) knT _ (0, 0) _ rfl k1 Try.underlying56 rfl (by kernel_rfl)) rfl ?_
      exact ⟨by rw [HS.out], k2⟩
    · obtain ⟨n, hn⟩ : ∃ n', gk = n' + 1 := by
        rcases Nat.eq_zero_or_pos gk with h | h
        · rw [h] at h1 h2
          exact absurd (Prod.ext (BitVec.eq_of_toNat_eq (Nat.lt_one_iff.1 h1)) (BitVec.eq_of_toNat_eq (Nat.lt_one_iff.1 h2))) hz
        · exact ⟨gk - 1, by omega⟩
      rw [hn] at hl h1 h2
      have HG := Lib.hid hn
      clear hn
      have HL : Hid (loopS n (stepS s a b) (shrT a) (shlT b) = S) := hl
      have HN1 : Hid ((shrT a).1.toNat < 2 ^ n) := shr_lt h1
      have HN2 : Hid ((shrT a).2.toNat < 2 ^ n) := shr_lt h2
      have q0 : ∀ W, (binOp .neq knT (.agg #[uv a.1, uv a.2]) (.agg #[.int .u64 0, .int .u64 0])).run Try.prog W = .ok (.bool true) W := fun W => (kn_neq a (0, 0) W).trans (by rw [decide_eq_false hz]; rfl)
      have r1 := n64_dbl
      have r2 := n64_dblw
      have r3 := n64_half
      have r4 := n64_and1
      have r5 := n64_or
      have t1 := bit_zero a.1
      have t2 := bit_zero a.2
      obtain ⟨⟨a0, a1, a2, a3⟩, ⟨b0, b1⟩, ⟨s0, s1⟩⟩ := hw.facts
      obtain ⟨_, _, ⟨f4, f5⟩⟩ := hw.soft
      clear hl h1 h2 hz
      have HW := Lib.hid hw
      clear hw
      cases e1 : a.1.getLsbD 0
      · rw [e1] at t1
        cases e2 : a.2.getLsbD 0
        · rw [e2] at t2
          have HST : Hid (stepS s a b = s) := by unfold stepS; rw [e1, e2]; rfl
          clear e1 e2
          go_upto_region 7 with fail
          have hw2 := HW.out
          generalize hW2 : wr = W2 at *
          clear hW2 HW
          obtain ⟨⟨f0, f1⟩, _, _⟩ := hw2.soft
          have HW2 := Lib.hid hw2
          clear hw2
          go_upto_region 8 with fail
          have hw3 := HW2.out.setA (shrT a)
          unfold shrT at hw3
          generalize (W2.setCell ⟨w.heap.size, 0, none⟩ (uv (a.1 >>> 1))).setCell ⟨w.heap.size, 1, none⟩ (uv (a.2 >>> 1)) = W3 at *
          clear a0 a1 a2 a3 f0 f1
          obtain ⟨⟨a0, a1, a2, a3⟩, _, _⟩ := hw3.facts
          obtain ⟨_, ⟨f0, f1⟩, _⟩ := hw3.soft
          have HW3 := Lib.hid hw3
          clear hw3 HW2
          go_wp2_with fail
          go_roundg n
          case measure => have := HG.out; omega
          case rel =>
            have hw4 := HW3.out.setB (shlT b)
            exact ⟨shrT a, shlT b, stepS s a b, by rw [HST.out]; exact hw4, HL.out, HN1.out, HN2.out⟩
        · rw [e2] at t2
          have HST : Hid (stepS s a b = tAdd s.1 s.2 0 (b.1 ||| b.2)) := by unfold stepS; rw [e1, e2]; rfl
          clear e1 e2
          have ca := kadd_any s (0, b.1 ||| b.2) wr
          have hst := HST.out
          dsimp only at ca
          generalize tAdd s.1 s.2 0 (b.1 ||| b.2) = U at ca hst
          have CA := Lib.hid ca
          have HST := Lib.hid hst
          clear ca hst
          go_upto_region 7 with (go_at_call 40; refine CA.out.mono ?_; rintro e w1 ⟨rfl, hb⟩; have hw1 := HW.out.keeps (keeps_below hb); have g45 := hw1.soft.2.2; obtain ⟨g4, g5⟩ := g45; have s45 := hw1.facts.2.2; obtain ⟨s4, s5⟩ := s45; have HW1 := Lib.hid hw1; clear hw1 hb)
          have hw2 := HW1.out.setS U
          clear HW1 HW s4 s5 g4 g5 CA
          generalize (w1.setCell ⟨w.heap.size + 1 + 1 + 1 + 1, 0, none⟩ (uv U.1)).setCell ⟨w.heap.size + 1 + 1 + 1 + 1, 1, none⟩ (uv U.2) = W2 at *
          clear a0 a1 a2 a3 b0 b1 s0 s1 f4 f5
          obtain ⟨⟨a0, a1, a2, a3⟩, _, _⟩ := hw2.facts
          obtain ⟨⟨f0, f1⟩, _, _⟩ := hw2.soft
          have HW2 := Lib.hid hw2
          clear hw2
          go_upto_region 8 with fail
          have hw3 := HW2.out.setA (shrT a)
          unfold shrT at hw3
          generalize (W2.setCell ⟨w.heap.size, 0, none⟩ (uv (a.1 >>> 1))).setCell ⟨w.heap.size, 1, none⟩ (uv (a.2 >>> 1)) = W3 at *
          clear a0 a1 a2 a3 f0 f1
          obtain ⟨⟨a0, a1, a2, a3⟩, _, _⟩ := hw3.facts
          obtain ⟨_, ⟨f0, f1⟩, _⟩ := hw3.soft
          have HW3 := Lib.hid hw3
          clear hw3 HW2
          go_wp2_with fail
          go_roundg n
          case measure => have := HG.out; omega
          case rel =>
            have hw4 := HW3.out.setB (shlT b)
            exact ⟨shrT a, shlT b, stepS s a b, by rw [HST.out]; exact hw4, HL.out, HN1.out, HN2.out⟩
      · rw [e1] at t1
        have HST : Hid (stepS s a b = tAdd s.1 s.2 0 b.2) := by unfold stepS; rw [e1]; rfl
        clear e1
        have ca := kadd_any s (0, b.2) wr
        have hst := HST.out
        dsimp only at ca
        generalize tAdd s.1 s.2 0 b.2 = U at ca hst
        have CA := Lib.hid ca
        have HST := Lib.hid hst
        clear ca hst
        go_upto_region 7 with (go_at_call 40; refine CA.out.mono ?_; rintro e w1 ⟨rfl, hb⟩; have hw1 := HW.out.keeps (keeps_below hb); have g45 := hw1.soft.2.2; obtain ⟨g4, g5⟩ := g45; have s45 := hw1.facts.2.2; obtain ⟨s4, s5⟩ := s45; have HW1 := Lib.hid hw1; clear hw1 hb)
        have hw2 := HW1.out.setS U
        clear HW1 HW s4 s5 g4 g5 CA
        generalize (w1.setCell ⟨w.heap.size + 1 + 1 + 1 + 1, 0, none⟩ (uv U.1)).setCell ⟨w.heap.size + 1 + 1 + 1 + 1, 1, none⟩ (uv U.2) = W2 at *
        clear a0 a1 a2 a3 b0 b1 s0 s1 f4 f5
        obtain ⟨⟨a0, a1, a2, a3⟩, _, _⟩ := hw2.facts
        obtain ⟨⟨f0, f1⟩, _, _⟩ := hw2.soft
        have HW2 := Lib.hid hw2
        clear hw2
        go_upto_region 8 with fail
        have hw3 := HW2.out.setA (shrT a)
        unfold shrT at hw3
        generalize (W2.setCell ⟨w.heap.size, 0, none⟩ (uv (a.1 >>> 1))).setCell ⟨w.heap.size, 1, none⟩ (uv (a.2 >>> 1)) = W3 at *
        clear a0 a1 a2 a3 f0 f1
        obtain ⟨⟨a0, a1, a2, a3⟩, _, _⟩ := hw3.facts
        obtain ⟨_, ⟨f0, f1⟩, _⟩ := hw3.soft
        have HW3 := Lib.hid hw3
        clear hw3 HW2
        go_wp2_with fail
        go_roundg n
        case measure => have := HG.out; omega
        case rel =>
          have hw4 := HW3.out.setB (shlT b)
          exact ⟨shrT a, shlT b, stepS s a b, by rw [HST.out]; exact hw4, HL.out, HN1.out, HN2.out⟩
theorem ktimes_any (a b : TN) (w : World) : Calls Try.prog 42 #[tv a, tv b] w fun e w' => e = .returned (tv (tMul a b)) ∧ Below w.heap.size w w' := ktimes_aux a b _ rfl w
end Go.Proofs.Ythgfaajclghjhaa
