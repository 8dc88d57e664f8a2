/-
  The reference of layer 16: Has, In, Only, Const.
-/
import Derived.Test.YtjkgbghikhbecaaDoorSKit
namespace Go.Proofs.YtjkgbghikhbecaaDoor
open Go Go.RowKit Go.Maps Tn
set_option linter.unusedVariables false
set_option linter.unusedSimpArgs false
set_option maxRecDepth 100000
theorem n64_dle (x y : B64) : decide (n64 x ≤ n64 y) = decide (x.toNat ≤ y.toNat) := by
  rw [decide_eq_decide]; unfold n64; omega
theorem hasS_and (s : SC) (n : B64) : decide (hasS s n) = (decide (Tn.has s.1 n) && (decide (s.2.1.toNat ≤ n.toNat) && decide (n.toNat ≤ s.2.2.toNat))) := by
  rw [← Bool.decide_and, ← Bool.decide_and]
  rfl
/-- Is b within a? -/
def inS (a b : SC) : Prop := tIn a.1 b.1 ∧ a.2.1.toNat ≤ b.2.1.toNat ∧ b.2.2.toNat ≤ a.2.2.toNat
instance (a b : SC) : Decidable (inS a b) := by unfold inS; infer_instance
theorem inS_and (a b : SC) : decide (inS a b) = (decide (tIn a.1 b.1) && (decide (a.2.1.toNat ≤ b.2.1.toNat) && decide (b.2.2.toNat ≤ a.2.2.toNat))) := by
  rw [← Bool.decide_and, ← Bool.decide_and]
  rfl
theorem xs_has (s : SC) (n : B64) (w : World) : Calls Tryd.prog 18 #[sv s, uv n] w fun e w' => e = .returned (.bool (decide (hasS s n))) ∧ Below w.heap.size w w' := by
  have B := Lib.hid (HL.push (HL.start w) scT (sC s))
  have CH := Lib.hid (fun W => xhas_any s.1 n W)
  rw [hasS_and]
  obtain ⟨⟨v, m⟩, l, h⟩ := s
  dsimp only at CH
  have r1 := n64_dle l n
  have r2 := n64_dle n h
  cases h1 : decide (Tn.has (v, m) n) <;> cases h2 : decide (l.toNat ≤ n.toNat) <;> cases h3 : decide (n.toNat ≤ h.toNat) <;> rw [h1] at CH <;> rw [h2] at r1 <;> rw [h3] at r2 <;> clear h1 h2 h3
  all_goals
    go_enter Tryd.func18, Tryd.ntmps18
    go_upto_region 1 with fail
    have hb := B.out
    clear B
    generalize w.alloc (.cells #[uv v, uv m, uv l, uv h] scT) = wz at *
    obtain ⟨c0, c1, c2, c3⟩ := hb.all.1.four
    have HB := Lib.hid hb
    clear hb
    go_wp2_with (go_at_call 38; refine (CH.out _).mono ?_; rintro e w1 ⟨rfl, hb⟩; have ha := HB.out.call hb; have cc := ha.all.1.four; obtain ⟨c0, c1, c2, c3⟩ := cc; have HB := Lib.hid ha; clear ha hb)
    go_ret
    exact ⟨rfl, HB.out.below⟩
theorem xs_in (a b : SC) (w : World) : Calls Tryd.prog 20 #[sv a, sv b] w fun e w' => e = .returned (.bool (decide (inS a b))) ∧ Below w.heap.size w w' := by
  have B := Lib.hid (HL.two w scT scT (sC a) (sC b))
  have CH := Lib.hid (fun W => xin_any a.1 b.1 W)
  rw [inS_and]
  obtain ⟨⟨v, m⟩, l, h⟩ := a
  obtain ⟨⟨p, q⟩, l', h'⟩ := b
  dsimp only at CH
  have r1 := n64_dle l l'
  have r2 := n64_dle h' h
  cases h1 : decide (tIn (v, m) (p, q)) <;> cases h2 : decide (l.toNat ≤ l'.toNat) <;> cases h3 : decide (h'.toNat ≤ h.toNat) <;> rw [h1] at CH <;> rw [h2] at r1 <;> rw [h3] at r2 <;> clear h1 h2 h3
  all_goals
    go_enter Tryd.func20, Tryd.ntmps20
    go_upto_region 1 with fail
    have hb := B.out
    clear B
    generalize (w.alloc (.cells #[uv v, uv m, uv l, uv h] scT)).alloc (.cells #[uv p, uv q, uv l', uv h'] scT) = wz at *
    obtain ⟨d0, d1, d2, d3⟩ := hb.all.1.four
    obtain ⟨c0, c1, c2, c3⟩ := hb.all.2.1.four
    have HB := Lib.hid hb
    clear hb
    go_wp2_with (go_at_call 40; refine (CH.out _).mono ?_; rintro e w1 ⟨rfl, hb⟩; have ha := HB.out.call hb; have cc := ha.all.1.four; obtain ⟨d0, d1, d2, d3⟩ := cc; have cc := ha.all.2.1.four; obtain ⟨c0, c1, c2, c3⟩ := cc; have HB := Lib.hid ha; clear ha hb)
    go_ret
    exact ⟨rfl, HB.out.below⟩
/-- The one number. -/
def onlyV (s : SC) : B64 := if s.1.2 = 0 then s.1.1 else 0
theorem xs_only (s : SC) (w : World) : Calls Tryd.prog 11 #[sv s] w fun e w' => e = .returned (.tuple #[uv (onlyV s), .bool (decide (s.1.2 = 0))]) ∧ Below w.heap.size w w' := by
  have B := Lib.hid (HL.push (HL.start w) scT (sC s))
  obtain ⟨⟨v, m⟩, l, h⟩ := s
  unfold onlyV
  by_cases hm : m = 0
  · have e1 : (n64 m != 0) = false := by rw [n64_ne0, decide_eq_true hm]; rfl
    rw [if_pos hm, decide_eq_true (show ((v, m), l, h).1.2 = 0 from hm)]
    clear hm
    go_enter Tryd.func11, Tryd.ntmps11
    go_wp2_with fail
    go_ret2
    exact ⟨rfl, B.out.below⟩
  · have e1 : (n64 m != 0) = true := by rw [n64_ne0, decide_eq_false hm]; rfl
    rw [if_neg hm, decide_eq_false (show ¬ ((v, m), l, h).1.2 = 0 from hm)]
    clear hm
    go_enter Tryd.func11, Tryd.ntmps11
    go_wp2_with fail
    go_ret2
    exact ⟨rfl, B.out.below⟩
theorem results_row4 {P : Program} {fn : Func} {p : Tmp} {ty : TypeId} (h : fn.results = #[.cell p ty]) : True := trivial
theorem xs_const (n : B64) (w : World) : Calls Tryd.prog 23 #[uv n] w fun e w' => e = .returned (sv ((n, 0), n, n)) ∧ Below w.heap.size w w' := by
  have F := Lib.hid (res4 w)
  go_enter Tryd.func23, Tryd.ntmps23
  go_upto_region 1 with fail
  have hr := F.out
  clear F
  generalize w.alloc (.cells #[.int .u64 0, .int .u64 0, .int .u64 0, .int .u64 0] scT) = wz at *
  obtain ⟨f0, f1, f2, f3⟩ := hr.frozen
  obtain ⟨x0, x1, x2, x3, d0, d1, d2, d3⟩ := hr.cells
  have HR := Lib.hid hr
  clear hr
  go_wp2_with fail
  obtain ⟨k1, k2⟩ := HR.out.fill (uv n) (uv 0) (uv n) (uv n)
  refine bodyPost_ret (results_cell_row rfl _ _ w.heap.size scT _ (0, 0) _ rfl k1 Tryd.underlying26 rfl (by kernel_rfl)) rfl ?_
  exact ⟨rfl, k2⟩
end Go.Proofs.YtjkgbghikhbecaaDoor
