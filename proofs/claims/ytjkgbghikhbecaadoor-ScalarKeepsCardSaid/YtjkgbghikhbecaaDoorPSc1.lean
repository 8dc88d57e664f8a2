/-
  Package scalar: Has, In, Only, Const, Check, Unknown, spans.
-/
import Derived.Test.YtjkgbghikhbecaaDoorPTight
import Derived.Test.YtjkgbghikhbecaaDoorSCast
namespace Go.Proofs.YtjkgbghikhbecaaDoor
open Go Go.RowKit Go.Maps Tn
set_option linter.unusedVariables false
set_option linter.unusedSimpArgs false
set_option maxRecDepth 100000
theorem ps_has (s : SC) (n : B64) (w : World) : Calls Tryd.prog 17 #[sv s, uv n] w fun e w' => e = .returned (.bool (decide (hasS s n))) ∧ Below w.heap.size w w' := by
  have B := Lib.hid (HL.push (HL.start w) scT (sC s))
  have CH := Lib.hid (fun W => phas_any s.1 n W)
  rw [hasS_and]
  obtain ⟨⟨v, m⟩, l, h⟩ := s
  dsimp only at CH
  have r1 := n64_dle l n
  have r2 := n64_dle n h
  cases h1 : decide (Tn.has (v, m) n) <;> cases h2 : decide (l.toNat ≤ n.toNat) <;> cases h3 : decide (n.toNat ≤ h.toNat) <;> rw [h1] at CH <;> rw [h2] at r1 <;> rw [h3] at r2 <;> clear h1 h2 h3
  all_goals
    go_enter Tryd.func17, Tryd.ntmps17
    go_upto_region 1 with fail
    have hb := B.out
    clear B
    generalize w.alloc (.cells #[uv v, uv m, uv l, uv h] scT) = wz at *
    obtain ⟨c0, c1, c2, c3⟩ := hb.all.1.four
    have HB := Lib.hid hb
    clear hb
    go_wp2_with (go_at_call 37; refine (CH.out _).mono ?_; rintro e w1 ⟨rfl, hb⟩; have ha := HB.out.call hb; have cc := ha.all.1.four; obtain ⟨c0, c1, c2, c3⟩ := cc; have HB := Lib.hid ha; clear ha hb)
    go_ret
    exact ⟨rfl, HB.out.below⟩
theorem ps_in (a b : SC) (w : World) : Calls Tryd.prog 19 #[sv a, sv b] w fun e w' => e = .returned (.bool (decide (inS a b))) ∧ Below w.heap.size w w' := by
  have B := Lib.hid (HL.two w scT scT (sC a) (sC b))
  have CH := Lib.hid (fun W => pin_any a.1 b.1 W)
  rw [inS_and]
  obtain ⟨⟨v, m⟩, l, h⟩ := a
  obtain ⟨⟨p, q⟩, l', h'⟩ := b
  dsimp only at CH
  have r1 := n64_dle l l'
  have r2 := n64_dle h' h
  cases h1 : decide (tIn (v, m) (p, q)) <;> cases h2 : decide (l.toNat ≤ l'.toNat) <;> cases h3 : decide (h'.toNat ≤ h.toNat) <;> rw [h1] at CH <;> rw [h2] at r1 <;> rw [h3] at r2 <;> clear h1 h2 h3
  all_goals
    go_enter Tryd.func19, Tryd.ntmps19
    go_upto_region 1 with fail
    have hb := B.out
    clear B
    generalize (w.alloc (.cells #[uv v, uv m, uv l, uv h] scT)).alloc (.cells #[uv p, uv q, uv l', uv h'] scT) = wz at *
    obtain ⟨d0, d1, d2, d3⟩ := hb.all.1.four
    obtain ⟨c0, c1, c2, c3⟩ := hb.all.2.1.four
    have HB := Lib.hid hb
    clear hb
    go_wp2_with (go_at_call 39; refine (CH.out _).mono ?_; rintro e w1 ⟨rfl, hb⟩; have ha := HB.out.call hb; have cc := ha.all.1.four; obtain ⟨d0, d1, d2, d3⟩ := cc; have cc := ha.all.2.1.four; obtain ⟨c0, c1, c2, c3⟩ := cc; have HB := Lib.hid ha; clear ha hb)
    go_ret
    exact ⟨rfl, HB.out.below⟩
theorem ps_only (s : SC) (w : World) : Calls Tryd.prog 10 #[sv s] w fun e w' => e = .returned (.tuple #[uv (onlyV s), .bool (decide (s.1.2 = 0))]) ∧ Below w.heap.size w w' := by
  have B := Lib.hid (HL.push (HL.start w) scT (sC s))
  obtain ⟨⟨v, m⟩, l, h⟩ := s
  unfold onlyV
  by_cases hm : m = 0
  · have e1 : (n64 m != 0) = false := by rw [n64_ne0, decide_eq_true hm]; rfl
    rw [if_pos hm, decide_eq_true (show ((v, m), l, h).1.2 = 0 from hm)]
    clear hm
    go_enter Tryd.func10, Tryd.ntmps10
    go_wp2_with fail
    go_ret2
    exact ⟨rfl, B.out.below⟩
  · have e1 : (n64 m != 0) = true := by rw [n64_ne0, decide_eq_false hm]; rfl
    rw [if_neg hm, decide_eq_false (show ¬ ((v, m), l, h).1.2 = 0 from hm)]
    clear hm
    go_enter Tryd.func10, Tryd.ntmps10
    go_wp2_with fail
    go_ret2
    exact ⟨rfl, B.out.below⟩
theorem ps_check (s : SC) (w : World) : Calls Tryd.prog 12 #[sv s] w fun e w' => e = .returned (.bool (checkV s)) ∧ Below w.heap.size w w' := by
  have B := Lib.hid (HL.push (HL.start w) scT (sC s))
  have CT := Lib.hid (fun W => ps_tight s W)
  unfold checkV
  have q : ∀ W, (binOp .eql scT (.agg #[uv (tightV s).1.1, uv (tightV s).1.2, uv (tightV s).2.1, uv (tightV s).2.2]) (.agg #[uv s.1.1, uv s.1.2, uv s.2.1, uv s.2.2])).run Tryd.prog W = .ok (.bool (decide (tightV s = s))) W := fun W => sc_eq (tightV s) s W
  generalize decide (tightV s = s) = eq at *
  generalize tightV s = T at *
  generalize (tightS s).isSome = ok at *
  cases ok
  all_goals
    go_enter Tryd.func12, Tryd.ntmps12
    go_upto_region 1 with fail
    have hb := B.out
    clear B
    generalize w.alloc (.cells #[uv s.1.1, uv s.1.2, uv s.2.1, uv s.2.2] scT) = wz at *
    obtain ⟨c0, c1, c2, c3⟩ := hb.all.1.four
    have HB := Lib.hid hb
    clear hb
    go_upto_region 2 with (go_at_call 7; refine (CT.out _).mono ?_; rintro e w1 ⟨rfl, hb⟩; have HB1 := Lib.hid (HB.out.call hb); clear hb)
    have hb := HB1.out.push scT (sC T)
    clear c0 c1 c2 c3 HB HB1
    generalize w1.heap.size = g1 at *
    generalize w1.alloc (.cells #[uv T.1.1, uv T.1.2, uv T.2.1, uv T.2.2] scT) = w2 at *
    obtain ⟨c0, c1, c2, c3⟩ := hb.all.2.1.four
    obtain ⟨d0, d1, d2, d3⟩ := hb.all.1.four
    have HB := Lib.hid hb
    clear hb
    go_wp2_with fail
    go_ret
    exact ⟨by first | rfl | simp, HB.out.below⟩

theorem ps_const (n : B64) (w : World) : Calls Tryd.prog 22 #[uv n] w fun e w' => e = .returned (sv ((n, 0), n, n)) ∧ Below w.heap.size w w' := by
  have F := Lib.hid (res4 w)
  have CC := Lib.hid (fun W => pconst_any n W)
  go_enter Tryd.func22, Tryd.ntmps22
  go_upto_region 1 with fail
  have hr := F.out
  clear F
  generalize w.alloc (.cells #[.int .u64 0, .int .u64 0, .int .u64 0, .int .u64 0] scT) = wz at *
  have HR := Lib.hid hr
  clear hr
  go_wp2_with (go_at_call 43; refine (CC.out _).mono ?_; rintro e w1 ⟨rfl, hb⟩; have ha := HR.out.call hb; have rr := ha.frozen; obtain ⟨r0, r1, r2, r3⟩ := rr; have cc := ha.cells; obtain ⟨y0, y1, y2, y3, z0, z1, z2, z3⟩ := cc; have HR := Lib.hid ha; clear ha hb)
  obtain ⟨k1, k2⟩ := HR.out.fill (uv n) (uv 0) (uv n) (uv n)
  refine bodyPost_ret (results_cell_row rfl _ _ w.heap.size scT _ (0, 0) _ rfl k1 Tryd.underlying26 rfl (by kernel_rfl)) rfl ?_
  exact ⟨rfl, k2⟩
/-- Both halves of what bounds a scalar. -/
abbrev spT : TypeId := 53
abbrev spC (p : B64 × B64) : Array Value := #[uv p.1, uv p.2]
abbrev spv (p : B64 × B64) : Value := .agg (spC p)
structure RP (w : World) (g : Nat) (W : World) : Prop where
  blk : ∃ cs, cs.size = 2 ∧ Blk W g spT cs
  below : Below w.heap.size w W
  new : w.heap.size ≤ g
theorem RP.keeps {w W W' : World} {g : Nat} (h : RP w g W) (k : Keeps (fun _ => False) W W') : RP w g W' := by
  obtain ⟨⟨cs, hs, hb⟩, h2, h3⟩ := h
  exact ⟨⟨cs, hs, hb.keeps k (fun h => h)⟩, h2.trans (k.below (fun _ h => h.elim) h2.size), h3⟩
theorem RP.call {w W W' : World} {g : Nat} (h : RP w g W) (k : Below W.heap.size W W') : RP w g W' := h.keeps (keeps_below k)
theorem RP.fill {w W : World} {g : Nat} (h : RP w g W) (u1 u2 : Value) : Blk ((W.setCell ⟨g, 0, none⟩ u1).setCell ⟨g, 1, none⟩ u2) g spT #[u1, u2] ∧ Below w.heap.size w ((W.setCell ⟨g, 0, none⟩ u1).setCell ⟨g, 1, none⟩ u2) := by
  obtain ⟨⟨⟨cs⟩, hs, hb⟩, h2, h3⟩ := h
  match cs, hs with
  | [a, b], _ => exact ⟨by simpa using (hb.set_ 0 u1).set_ 1 u2, (h2.setCell (p := ⟨g, 0, none⟩) h3 u1).setCell (p := ⟨g, 1, none⟩) h3 u2⟩
theorem RP.frozen {w W : World} {g : Nat} (h : RP w g W) : W.frozen? ⟨g, 0, none⟩ = false ∧ W.frozen? ⟨g, 1, none⟩ = false := by
  obtain ⟨⟨cs, hs, hb⟩, h2, h3⟩ := h
  exact hb.soft2
theorem RP.cells {w W : World} {g : Nat} (h : RP w g W) : ∃ a b, W.cell? ⟨g, 0, none⟩ = some a ∧ W.cell? ⟨g, 1, none⟩ = some b := by
  obtain ⟨⟨⟨cs⟩, hs, hb⟩, h2, h3⟩ := h
  match cs, hs with
  | [a, b], _ => exact ⟨a, b, hb.two⟩
theorem HL.rs {w W : World} {L : List (Nat × TypeId × Array Value)} {g : Nat} {cs : Array Value} (h : HL w ((g, scT, cs) :: L) W) (hs : cs.size = 4) (hn : w.heap.size ≤ g) : RS w g W := ⟨⟨cs, hs, h.all.1⟩, h.below, hn⟩
theorem HL.rp {w W : World} {L : List (Nat × TypeId × Array Value)} {g : Nat} {cs : Array Value} (h : HL w ((g, spT, cs) :: L) W) (hs : cs.size = 2) (hn : w.heap.size ≤ g) : RP w g W := ⟨⟨cs, hs, h.all.1⟩, h.below, hn⟩
theorem within_any (t : TN) (p : B64 × B64) (w : World) : Calls Tryd.prog 32 #[tv t, spv p] w fun e w' => e = .returned (sv (t, p)) ∧ Below w.heap.size w w' := by
  have F := Lib.hid (HL.three w tnT spT scT #[uv t.1, uv t.2] (spC p) z4)
  go_enter Tryd.func32, Tryd.ntmps32
  go_upto_region 1 with fail
  have hb := F.out
  clear F
  generalize ((w.alloc (.cells #[uv t.1, uv t.2] tnT)).alloc (.cells #[uv p.1, uv p.2] spT)).alloc (.cells #[.int .u64 0, .int .u64 0, .int .u64 0, .int .u64 0] scT) = wz at *
  obtain ⟨c0, c1⟩ := hb.all.2.2.1.two
  obtain ⟨d0, d1⟩ := hb.all.2.1.two
  have hr := hb.rs rfl (by omega)
  obtain ⟨r0, r1, r2, r3⟩ := hr.frozen
  obtain ⟨y0, y1, y2, y3, z0, z1, z2, z3⟩ := hr.cells
  have HR := Lib.hid hr
  clear hb hr
  go_wp2_with fail
  obtain ⟨k1, k2⟩ := HR.out.fill (uv t.1) (uv t.2) (uv p.1) (uv p.2)
  refine bodyPost_ret (results_cell_row rfl _ _ (w.heap.size + 1 + 1) scT _ (0, 0) _ rfl k1 Tryd.underlying26 rfl (by kernel_rfl)) rfl ?_
  exact ⟨rfl, k2⟩
theorem full_any (w : World) : Calls Tryd.prog 42 #[] w fun e w' => e = .returned (spv (0, ~~~0)) ∧ Below w.heap.size w w' := by
  have F := Lib.hid ((HL.start w).push spT #[.int .u64 0, .int .u64 0])
  go_enter Tryd.func42, Tryd.ntmps42
  go_upto_region 1 with fail
  have hr := F.out.rp rfl (Nat.le_refl _)
  clear F
  generalize w.alloc (.cells #[.int .u64 0, .int .u64 0] spT) = wz at *
  obtain ⟨r0, r1⟩ := hr.frozen
  obtain ⟨y0, y1, z0, z1⟩ := hr.cells
  have HR := Lib.hid hr
  clear hr
  go_wp2_with fail
  obtain ⟨k1, k2⟩ := HR.out.fill (.int .u64 0) (.int .u64 18446744073709551615)
  refine bodyPost_ret (results_cell_row rfl _ _ w.heap.size spT _ (0, 0) _ rfl k1 Tryd.underlying53 rfl (by kernel_rfl)) rfl ?_
  exact ⟨rfl, k2⟩
theorem bounds_any (s : SC) (w : World) : Calls Tryd.prog 30 #[sv s] w fun e w' => e = .returned (spv s.2) ∧ Below w.heap.size w w' := by
  have F := Lib.hid (HL.two w scT spT (sC s) #[.int .u64 0, .int .u64 0])
  go_enter Tryd.func30, Tryd.ntmps30
  go_upto_region 1 with fail
  have hb := F.out
  clear F
  generalize (w.alloc (.cells #[uv s.1.1, uv s.1.2, uv s.2.1, uv s.2.2] scT)).alloc (.cells #[.int .u64 0, .int .u64 0] spT) = wz at *
  have hr := hb.rp rfl (by omega)
  obtain ⟨c0, c1, c2, c3⟩ := hb.all.2.1.four
  obtain ⟨r0, r1⟩ := hr.frozen
  obtain ⟨y0, y1, z0, z1⟩ := hr.cells
  have HR := Lib.hid hr
  clear hb hr
  go_wp2_with fail
  obtain ⟨k1, k2⟩ := HR.out.fill (uv s.2.1) (uv s.2.2)
  refine bodyPost_ret (results_cell_row rfl _ _ (w.heap.size + 1) spT _ (0, 0) _ rfl k1 Tryd.underlying53 rfl (by kernel_rfl)) rfl ?_
  exact ⟨rfl, k2⟩
/-- All numbers. -/
def unknownS : SC := ((0, ~~~0), 0, ~~~0)
theorem ps_unknown (w : World) : Calls Tryd.prog 21 #[] w fun e w' => e = .returned (sv unknownS) ∧ Below w.heap.size w w' := by
  have F := Lib.hid (res4 w)
  have CU := Lib.hid punknown_any
  have CF := Lib.hid full_any
  have CW := Lib.hid (fun W => within_any (0, ~~~0) (0, ~~~0) W)
  go_enter Tryd.func21, Tryd.ntmps21
  go_upto_region 1 with fail
  have hr := F.out
  clear F
  generalize w.alloc (.cells #[.int .u64 0, .int .u64 0, .int .u64 0, .int .u64 0] scT) = wz at *
  have HR := Lib.hid hr
  clear hr
  have HU : Hid (unknownS = ((0, ~~~0), 0, ~~~0)) := rfl
  generalize ~~~(0 : B64) = al at *
  go_wp2_with (first
    | (go_at_call 41; refine (CU.out _).mono ?_; rintro e w1 ⟨rfl, hb⟩; have HR := Lib.hid (HR.out.call hb); clear hb)
    | (go_at_call 42; refine (CF.out _).mono ?_; rintro e w2 ⟨rfl, hb⟩; have HR := Lib.hid (HR.out.call hb); clear hb)
    | (go_at_call 32; refine (CW.out _).mono ?_; rintro e w3 ⟨rfl, hb⟩; have ha := HR.out.call hb; have rr := ha.frozen; obtain ⟨r0, r1, r2, r3⟩ := rr; have cc := ha.cells; obtain ⟨y0, y1, y2, y3, z0, z1, z2, z3⟩ := cc; have HR := Lib.hid ha; clear ha hb))
  obtain ⟨k1, k2⟩ := HR.out.fill (uv 0) (uv al) (uv 0) (uv al)
  refine bodyPost_ret (results_cell_row rfl _ _ w.heap.size scT _ (0, 0) _ rfl k1 Tryd.underlying26 rfl (by kernel_rfl)) rfl ?_
  exact ⟨by rw [HU.out], k2⟩
theorem tightened_any (s : SC) (w : World) : Calls Tryd.prog 31 #[sv s] w fun e w' => e = .returned (sv (tightV s)) ∧ Below w.heap.size w w' := by
  have F := Lib.hid (TB.new s w)
  have CT := Lib.hid (fun W => ps_tight s W)
  generalize tightV s = T at *
  generalize (tightS s).isSome = ok at *
  go_enter Tryd.func31, Tryd.ntmps31
  go_upto_region 1 with fail
  have hb := F.out
  clear F
  generalize (w.alloc (.cells #[uv s.1.1, uv s.1.2, uv s.2.1, uv s.2.2] scT)).alloc (.cells #[.int .u64 0, .int .u64 0, .int .u64 0, .int .u64 0] scT) = wz at *
  obtain ⟨⟨c0, c1, c2, c3⟩, _⟩ := hb.facts
  have HB := Lib.hid hb
  clear hb
  go_upto_region 2 with (go_at_call 7; refine (CT.out _).mono ?_; rintro e w1 ⟨rfl, hb⟩; have ha := HB.out.call hb; have ff := ha.facts; obtain ⟨⟨d0, d1, d2, d3⟩, f0, f1, f2, f3⟩ := ff; have HB1 := Lib.hid ha; clear hb ha)
  have hb : TB w T ((((w1.setCell ⟨w.heap.size, 0, none⟩ (uv T.1.1)).setCell ⟨w.heap.size, 1, none⟩ (uv T.1.2)).setCell ⟨w.heap.size, 2, none⟩ (uv T.2.1)).setCell ⟨w.heap.size, 3, none⟩ (uv T.2.2)) := ((HB1.out.setT T.1).setMin T.2.1).setMax T.2.2
  generalize (((w1.setCell ⟨w.heap.size, 0, none⟩ (uv T.1.1)).setCell ⟨w.heap.size, 1, none⟩ (uv T.1.2)).setCell ⟨w.heap.size, 2, none⟩ (uv T.2.1)).setCell ⟨w.heap.size, 3, none⟩ (uv T.2.2) = w2 at *
  clear HB HB1 c0 c1 c2 c3 d0 d1 d2 d3 f0 f1 f2 f3
  obtain ⟨⟨c0, c1, c2, c3⟩, _⟩ := hb.facts
  obtain ⟨r0, r1, r2, r3⟩ := hb.r.frozen
  obtain ⟨y0, y1, y2, y3, z0, z1, z2, z3⟩ := hb.r.cells
  have HB := Lib.hid hb
  clear hb
  go_wp2_with fail
  obtain ⟨k1, k2⟩ := HB.out.r.fill (uv T.1.1) (uv T.1.2) (uv T.2.1) (uv T.2.2)
  refine bodyPost_ret (results_cell_row rfl _ _ (w.heap.size + 1) scT _ (0, 0) _ rfl k1 Tryd.underlying26 rfl (by kernel_rfl)) rfl ?_
  exact ⟨rfl, k2⟩
end Go.Proofs.YtjkgbghikhbecaaDoor
