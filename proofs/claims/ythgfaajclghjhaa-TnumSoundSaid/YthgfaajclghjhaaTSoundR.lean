/-
  The law TnumSound: its first region, whose order is drawn: two calls and two new variables.
-/
import Derived.Test.YthgfaajclghjhaaTHeld
import Derived.Test.YthgfaajclghjhaaRefAll
import Derived.Deep.RegionHeld3
import Derived.Deep.RegionWith
import Derived.Deep.CutRange
namespace Go.Proofs.Ythgfaajclghjhaa
open Go Go.RowKit Go.Maps Tn
set_option linter.unusedVariables false
set_option linter.unusedSimpArgs false
set_option maxRecDepth 100000
abbrev t2T : TypeId := 46
abbrev u2T : TypeId := 38
abbrev u2 (a b : B64) : Array Value := #[uv a, uv b]
abbrev t2 (a b : TN) : Array Value := #[uv a.1, uv a.2, uv b.1, uv b.2]
/-- The machine's operation, wide, of any two numbers. -/
theorem alu_bin {op : Int} (h : opIs op) (x y : B64) (W : World) : Calls Try.prog 28 #[.int .i64 op, .bool true, .bool false, uv x, uv y] W fun e w' => e = .returned (.tuple #[uv (bop op x y), .int .i64 0]) ∧ W = w' := by
  have h1 := ref_any (n64 x) (n64 y) (n64_lo x) (n64_le x) (n64_lo y) (n64_le y) W op true false
  obtain ⟨e1, e2⟩ := binV_bop h x y
  rw [e1, e2] at h1
  exact h1
theorem Blk.four {W : World} {g : Nat} {t : TypeId} {u1 u2 u3 u4 : Value} (h : Blk W g t #[u1, u2, u3, u4]) : W.cell? ⟨g, 0, none⟩ = some u1 ∧ W.cell? ⟨g, 1, none⟩ = some u2 ∧ W.cell? ⟨g, 2, none⟩ = some u3 ∧ W.cell? ⟨g, 3, none⟩ = some u4 := ⟨h.cell 0, h.cell 1, h.cell 2, h.cell 3⟩
abbrev zB (i : Nat) : Nat × TypeId × Array Value := (i, tnT, #[.int .u64 0, .int .u64 0])
abbrev tB (i : Nat) (t : TN) : Nat × TypeId × Array Value := (i, tnT, tC t)
section
variable {w W : World} {i j k l : Nat} {x : TN} {t : TypeId} {cn cl cm : Array Value}
/-- A store into one of two new variables. -/
theorem HL.store1 (h : HL w [(i, tnT, tC x), (j, tnT, cn), (k, u2T, cl), (l, t2T, cm)] W) (hij : i ≠ j) (hw : w.heap.size ≤ i) (u : TN) : HL w [(i, tnT, tC u), (j, tnT, cn), (k, u2T, cl), (l, t2T, cm)] ((W.setCell ⟨i, 0, none⟩ (uv u.1)).setCell ⟨i, 1, none⟩ (uv u.2)) := by
  obtain ⟨⟨h1, h2, h3, h4, _⟩, hb⟩ := h
  exact ⟨⟨set2 h1 u, far2g h2 hij.symm _ _, far2g h3 (h3.ne_ h1 (show u2T ≠ tnT by decide)) _ _, far2g h4 (h4.ne_ h1 (show t2T ≠ tnT by decide)) _ _, trivial⟩, (hb.setCell (p := ⟨i, 0, none⟩) hw _).setCell (p := ⟨i, 1, none⟩) hw _⟩
theorem HL.store2 (h : HL w [(j, tnT, cn), (i, tnT, tC x), (k, u2T, cl), (l, t2T, cm)] W) (hij : i ≠ j) (hw : w.heap.size ≤ i) (u : TN) : HL w [(j, tnT, cn), (i, tnT, tC u), (k, u2T, cl), (l, t2T, cm)] ((W.setCell ⟨i, 0, none⟩ (uv u.1)).setCell ⟨i, 1, none⟩ (uv u.2)) := by
  obtain ⟨⟨h2, h1, h3, h4, _⟩, hb⟩ := h
  exact ⟨⟨far2g h2 hij.symm _ _, set2 h1 u, far2g h3 (h3.ne_ h1 (show u2T ≠ tnT by decide)) _ _, far2g h4 (h4.ne_ h1 (show t2T ≠ tnT by decide)) _ _, trivial⟩, (hb.setCell (p := ⟨i, 0, none⟩) hw _).setCell (p := ⟨i, 1, none⟩) hw _⟩
theorem HL.swap {b1 b2 : Nat × TypeId × Array Value} {L : List (Nat × TypeId × Array Value)} (h : HL w (b1 :: b2 :: L) W) : HL w (b2 :: b1 :: L) W := ⟨⟨h.all.2.1, h.all.1, h.all.2.2⟩, h.below⟩
theorem HL.drop3 {b1 b2 b3 b4 : Nat × TypeId × Array Value} (h : HL w [b1, b2, b3, b4] W) : HL w [b1, b2, b3] W := ⟨⟨h.all.1, h.all.2.1, h.all.2.2.1, trivial⟩, h.below⟩
end
abbrev SR (w : World) (a b : TN) (W : World) : Prop := W.cell? ⟨w.heap.size, 0, none⟩ = some (uv a.1) ∧ W.cell? ⟨w.heap.size, 1, none⟩ = some (uv a.2) ∧ W.cell? ⟨w.heap.size, 2, none⟩ = some (uv b.1) ∧ W.cell? ⟨w.heap.size, 3, none⟩ = some (uv b.2)
set_option maxHeartbeats 8000000 in
theorem sound_any (op : Int) (a b : TN) (n0 n1 : B64) (w : World) : Calls Try.prog 6 #[.int .i64 op, .agg (t2 a b), .agg (u2 n0 n1)] w fun e w' => e = .returned (.bool true) ∧ Below w.heap.size w w' := by
  have F := Lib.hid (HL.two w t2T u2T (t2 a b) (u2 n0 n1))
  go_enter Try.func6, Try.ntmps6
  go_upto_region 1 with fail
  have hb := F.out
  clear F
  generalize (w.alloc (.cells #[uv a.1, uv a.2, uv b.1, uv b.2] t2T)).alloc (.cells #[uv n0, uv n1] u2T) = wz at *
  have CM := Lib.hid may_any
  go_cut [7, 8] from 15 to 73 (fun s7 s8 wc => ∃ p q : Nat, s7 = .pointer (some ⟨p, 0, none⟩) ∧ s8 = .pointer (some ⟨q, 0, none⟩) ∧ HL w [(q, tnT, tC (tMay b)), (p, tnT, tC (tMay a)), (w.heap.size + 1, u2T, u2 n0 n1)] wc)
  case first =>
    have hb := hb.keeps (keeps_drew wz)
    refine wp_region_noPanic ?_
    refine wp_region_held_drew (S := SR w a b) (by kernel_rfl) hb.all.2.1.four (fun hHeld => ?_)
    have HB := Lib.hid hb
    clear hb
    generalize wz.drew = wd at *
    refine wpAnyH_take (i := 0) (oi := _) (v := ?_) rfl (by kernel_rfl) (by kernel_rfl) (by kernel_rfl) (fun _ _ _ h => h) (Or.inl ⟨by kernel_rfl, ?_⟩) (by assumption) ?_
    rotate_left 1
    · intro W hSw; obtain ⟨s0, s1, s2, s3⟩ := hSw; go_simp; (try with_reducible rfl)
    try simp only [Act.put]
    refine wpAnyH_take (i := 1) (oi := _) (v := ?_) rfl (by kernel_rfl) (by kernel_rfl) (by kernel_rfl) (fun _ _ _ h => h) (Or.inl ⟨by kernel_rfl, ?_⟩) (by assumption) ?_
    rotate_left 1
    · intro W hSw; obtain ⟨s0, s1, s2, s3⟩ := hSw; go_simp; (try with_reducible rfl)
    try simp only [Act.put]
    refine wpAnyH_take (i := 3) (oi := _) (v := ?_) rfl (by kernel_rfl) (by kernel_rfl) (by kernel_rfl) (fun _ _ _ h => h) (Or.inl ⟨by kernel_rfl, ?_⟩) (by assumption) ?_
    rotate_left 1
    · intro W hSw; obtain ⟨s0, s1, s2, s3⟩ := hSw; go_simp; (try with_reducible rfl)
    try simp only [Act.put]
    refine wpAnyH_take (i := 4) (oi := _) (v := ?_) rfl (by kernel_rfl) (by kernel_rfl) (by kernel_rfl) (fun _ _ _ h => h) (Or.inl ⟨by kernel_rfl, ?_⟩) (by assumption) ?_
    rotate_left 1
    · intro W hSw; obtain ⟨s0, s1, s2, s3⟩ := hSw; go_simp; (try with_reducible rfl)
    try simp only [Act.put]
    refine wpAnyH_ready (rs := [2, 6, 7]) (by kernel_rfl) (by simp) ?_
    refine AllReadyH.cons (o := _) rfl (fun K hK => ?_) (AllReadyH.cons (o := _) rfl (fun K hK => ?_) (AllReadyH.cons (o := _) rfl (fun K hK => ?_) AllReadyH.nil))
    · go_simp
      go_at_call 9; refine (CM.out _ _).mono ?_; rintro e W1 ⟨rfl, hb⟩
      go_wp2_with fail
      have hB := HB.out.call hb
      refine hK.out _ _ hB.all.2.1.four (fun hHeld => ?_)
      have HB := Lib.hid hB
      clear hK K hB
      try simp only [Act.put]
      refine wpAnyH_ready (rs := [5, 6, 7]) (by kernel_rfl) (by simp) ?_
      refine AllReadyH.cons (o := _) rfl (fun K hK => ?_) (AllReadyH.cons (o := _) rfl (fun K hK => ?_) (AllReadyH.cons (o := _) rfl (fun K hK => ?_) AllReadyH.nil))
      · go_simp
        go_at_call 9; refine (CM.out _ _).mono ?_; rintro e W2 ⟨rfl, hb⟩
        go_wp2_with fail
        have hB := HB.out.call hb
        refine hK.out _ _ hB.all.2.1.four (fun hHeld => ?_)
        have HB := Lib.hid hB
        clear hK K hB
        try simp only [Act.put]
        refine wpAnyH_ready (rs := [6, 7]) (by kernel_rfl) (by simp) ?_
        refine AllReadyH.cons (o := _) rfl (fun K hK => ?_) (AllReadyH.cons (o := _) rfl (fun K hK => ?_) AllReadyH.nil)
        · go_simp
          have hgp := Lib.hid HB.out.below.size
          have hB := HB.out.push tnT #[.int .u64 0, .int .u64 0]
          generalize hge : W2.heap.size = p at *
          clear hge
          generalize W2.alloc (.cells #[.int .u64 0, .int .u64 0] tnT) = W3 at *
          refine hK.out _ _ hB.all.2.2.1.four (fun hHeld => ?_)
          have HB := Lib.hid hB
          clear hK K hB
          try simp only [Act.put]
          refine wpAnyH_ready (rs := [7]) (by kernel_rfl) (by simp) ?_
          refine AllReadyH.cons (o := _) rfl (fun K hK => ?_) AllReadyH.nil
          have hlt := HB.out.all.1.lt
          go_simp
          have hgq := Lib.hid HB.out.below.size
          have hB := HB.out.push tnT #[.int .u64 0, .int .u64 0]
          generalize hge : W3.heap.size = q at *
          clear hge
          generalize W3.alloc (.cells #[.int .u64 0, .int .u64 0] tnT) = W4 at *
          have HLT := Lib.hid hlt
          clear hlt
          refine hK.out _ _ hB.all.2.2.2.1.four (fun hHeld => ?_)
          have HB := Lib.hid hB
          clear hK K hB
          try simp only [Act.put]
          refine wpAnyH_ready (rs := [8]) (by kernel_rfl) (by simp) ?_
          refine AllReadyH.cons (o := _) rfl (fun K hK => ?_) AllReadyH.nil
          obtain ⟨x0, x1⟩ := HB.out.all.2.1.two
          have f0 := HB.out.all.2.1.frozen 0
          have f1 := HB.out.all.2.1.frozen 1
          go_simp
          have hB := HL.store2 (x := (0, 0)) HB.out (by have := HLT.out; omega) hgp.out (tMay a)
          generalize (W4.setCell ⟨p, 0, none⟩ (uv (tMay a).1)).setCell ⟨p, 1, none⟩ (uv (tMay a).2) = W5 at *
          refine hK.out _ _ hB.all.2.2.2.1.four (fun hHeld => ?_)
          have HB := Lib.hid hB
          clear hK K hB x0 x1 f0 f1
          try simp only [Act.put]
          refine wpAnyH_ready (rs := [9]) (by kernel_rfl) (by simp) ?_
          refine AllReadyH.cons (o := _) rfl (fun K hK => ?_) AllReadyH.nil
          obtain ⟨x0, x1⟩ := HB.out.all.1.two
          have f0 := HB.out.all.1.frozen 0
          have f1 := HB.out.all.1.frozen 1
          go_simp
          have hB := HL.store1 (x := (0, 0)) HB.out (by have := HLT.out; omega) hgq.out (tMay b)
          generalize (W5.setCell ⟨q, 0, none⟩ (uv (tMay b).1)).setCell ⟨q, 1, none⟩ (uv (tMay b).2) = W6 at *
          refine hK.out _ _ hB.all.2.2.2.1.four (fun hHeld => ?_)
          have HB := Lib.hid hB
          clear hK K hB x0 x1 f0 f1
          try simp only [Act.put]
          refine wpAnyH_done (by kernel_rfl) ?_ _
          refine NoPanic.normal ?_
          go_wp2_with fail
          go_meet
          case rel => exact ⟨p, q, rfl, rfl, HB.out.drop3⟩
        · go_simp
          have hgq := Lib.hid HB.out.below.size
          have hB := HB.out.push tnT #[.int .u64 0, .int .u64 0]
          generalize hge : W2.heap.size = q at *
          clear hge
          generalize W2.alloc (.cells #[.int .u64 0, .int .u64 0] tnT) = W7 at *
          refine hK.out _ _ hB.all.2.2.1.four (fun hHeld => ?_)
          have HB := Lib.hid hB
          clear hK K hB
          try simp only [Act.put]
          refine wpAnyH_ready (rs := [6]) (by kernel_rfl) (by simp) ?_
          refine AllReadyH.cons (o := _) rfl (fun K hK => ?_) AllReadyH.nil
          have hlt := HB.out.all.1.lt
          go_simp
          have hgp := Lib.hid HB.out.below.size
          have hB := HB.out.push tnT #[.int .u64 0, .int .u64 0]
          generalize hge : W7.heap.size = p at *
          clear hge
          generalize W7.alloc (.cells #[.int .u64 0, .int .u64 0] tnT) = W8 at *
          have HLT := Lib.hid hlt
          clear hlt
          refine hK.out _ _ hB.all.2.2.2.1.four (fun hHeld => ?_)
          have HB := Lib.hid hB
          clear hK K hB
          try simp only [Act.put]
          refine wpAnyH_ready (rs := [8]) (by kernel_rfl) (by simp) ?_
          refine AllReadyH.cons (o := _) rfl (fun K hK => ?_) AllReadyH.nil
          obtain ⟨x0, x1⟩ := HB.out.all.1.two
          have f0 := HB.out.all.1.frozen 0
          have f1 := HB.out.all.1.frozen 1
          go_simp
          have hB := HL.store1 (x := (0, 0)) HB.out (by have := HLT.out; omega) hgp.out (tMay a)
          generalize (W8.setCell ⟨p, 0, none⟩ (uv (tMay a).1)).setCell ⟨p, 1, none⟩ (uv (tMay a).2) = W9 at *
          refine hK.out _ _ hB.all.2.2.2.1.four (fun hHeld => ?_)
          have HB := Lib.hid hB
          clear hK K hB x0 x1 f0 f1
          try simp only [Act.put]
          refine wpAnyH_ready (rs := [9]) (by kernel_rfl) (by simp) ?_
          refine AllReadyH.cons (o := _) rfl (fun K hK => ?_) AllReadyH.nil
          obtain ⟨x0, x1⟩ := HB.out.all.2.1.two
          have f0 := HB.out.all.2.1.frozen 0
          have f1 := HB.out.all.2.1.frozen 1
          go_simp
          have hB := HL.store2 (x := (0, 0)) HB.out (by have := HLT.out; omega) hgq.out (tMay b)
          generalize (W9.setCell ⟨q, 0, none⟩ (uv (tMay b).1)).setCell ⟨q, 1, none⟩ (uv (tMay b).2) = W10 at *
          refine hK.out _ _ hB.all.2.2.2.1.four (fun hHeld => ?_)
          have HB := Lib.hid hB
          clear hK K hB x0 x1 f0 f1
          try simp only [Act.put]
          refine wpAnyH_done (by kernel_rfl) ?_ _
          refine NoPanic.normal ?_
          go_wp2_with fail
          go_meet
          case rel => exact ⟨p, q, rfl, rfl, HB.out.swap.drop3⟩
      · go_simp
        have hgp := Lib.hid HB.out.below.size
        have hB := HB.out.push tnT #[.int .u64 0, .int .u64 0]
        generalize hge : W1.heap.size = p at *
        clear hge
        generalize W1.alloc (.cells #[.int .u64 0, .int .u64 0] tnT) = W11 at *
        refine hK.out _ _ hB.all.2.2.1.four (fun hHeld => ?_)
        have HB := Lib.hid hB
        clear hK K hB
        try simp only [Act.put]
        refine wpAnyH_ready (rs := [5, 7]) (by kernel_rfl) (by simp) ?_
        refine AllReadyH.cons (o := _) rfl (fun K hK => ?_) (AllReadyH.cons (o := _) rfl (fun K hK => ?_) AllReadyH.nil)
        · go_simp
          go_at_call 9; refine (CM.out _ _).mono ?_; rintro e W12 ⟨rfl, hb⟩
          go_wp2_with fail
          have hB := HB.out.call hb
          refine hK.out _ _ hB.all.2.2.1.four (fun hHeld => ?_)
          have HB := Lib.hid hB
          clear hK K hB
          try simp only [Act.put]
          refine wpAnyH_ready (rs := [7]) (by kernel_rfl) (by simp) ?_
          refine AllReadyH.cons (o := _) rfl (fun K hK => ?_) AllReadyH.nil
          have hlt := HB.out.all.1.lt
          go_simp
          have hgq := Lib.hid HB.out.below.size
          have hB := HB.out.push tnT #[.int .u64 0, .int .u64 0]
          generalize hge : W12.heap.size = q at *
          clear hge
          generalize W12.alloc (.cells #[.int .u64 0, .int .u64 0] tnT) = W13 at *
          have HLT := Lib.hid hlt
          clear hlt
          refine hK.out _ _ hB.all.2.2.2.1.four (fun hHeld => ?_)
          have HB := Lib.hid hB
          clear hK K hB
          try simp only [Act.put]
          refine wpAnyH_ready (rs := [8]) (by kernel_rfl) (by simp) ?_
          refine AllReadyH.cons (o := _) rfl (fun K hK => ?_) AllReadyH.nil
          obtain ⟨x0, x1⟩ := HB.out.all.2.1.two
          have f0 := HB.out.all.2.1.frozen 0
          have f1 := HB.out.all.2.1.frozen 1
          go_simp
          have hB := HL.store2 (x := (0, 0)) HB.out (by have := HLT.out; omega) hgp.out (tMay a)
          generalize (W13.setCell ⟨p, 0, none⟩ (uv (tMay a).1)).setCell ⟨p, 1, none⟩ (uv (tMay a).2) = W14 at *
          refine hK.out _ _ hB.all.2.2.2.1.four (fun hHeld => ?_)
          have HB := Lib.hid hB
          clear hK K hB x0 x1 f0 f1
          try simp only [Act.put]
          refine wpAnyH_ready (rs := [9]) (by kernel_rfl) (by simp) ?_
          refine AllReadyH.cons (o := _) rfl (fun K hK => ?_) AllReadyH.nil
          obtain ⟨x0, x1⟩ := HB.out.all.1.two
          have f0 := HB.out.all.1.frozen 0
          have f1 := HB.out.all.1.frozen 1
          go_simp
          have hB := HL.store1 (x := (0, 0)) HB.out (by have := HLT.out; omega) hgq.out (tMay b)
          generalize (W14.setCell ⟨q, 0, none⟩ (uv (tMay b).1)).setCell ⟨q, 1, none⟩ (uv (tMay b).2) = W15 at *
          refine hK.out _ _ hB.all.2.2.2.1.four (fun hHeld => ?_)
          have HB := Lib.hid hB
          clear hK K hB x0 x1 f0 f1
          try simp only [Act.put]
          refine wpAnyH_done (by kernel_rfl) ?_ _
          refine NoPanic.normal ?_
          go_wp2_with fail
          go_meet
          case rel => exact ⟨p, q, rfl, rfl, HB.out.drop3⟩
        · have hlt := HB.out.all.1.lt
          go_simp
          have hgq := Lib.hid HB.out.below.size
          have hB := HB.out.push tnT #[.int .u64 0, .int .u64 0]
          generalize hge : W11.heap.size = q at *
          clear hge
          generalize W11.alloc (.cells #[.int .u64 0, .int .u64 0] tnT) = W16 at *
          have HLT := Lib.hid hlt
          clear hlt
          refine hK.out _ _ hB.all.2.2.2.1.four (fun hHeld => ?_)
          have HB := Lib.hid hB
          clear hK K hB
          try simp only [Act.put]
          refine wpAnyH_ready (rs := [5]) (by kernel_rfl) (by simp) ?_
          refine AllReadyH.cons (o := _) rfl (fun K hK => ?_) AllReadyH.nil
          go_simp
          go_at_call 9; refine (CM.out _ _).mono ?_; rintro e W17 ⟨rfl, hb⟩
          go_wp2_with fail
          have hB := HB.out.call hb
          refine hK.out _ _ hB.all.2.2.2.1.four (fun hHeld => ?_)
          have HB := Lib.hid hB
          clear hK K hB
          try simp only [Act.put]
          refine wpAnyH_ready (rs := [8]) (by kernel_rfl) (by simp) ?_
          refine AllReadyH.cons (o := _) rfl (fun K hK => ?_) AllReadyH.nil
          obtain ⟨x0, x1⟩ := HB.out.all.2.1.two
          have f0 := HB.out.all.2.1.frozen 0
          have f1 := HB.out.all.2.1.frozen 1
          go_simp
          have hB := HL.store2 (x := (0, 0)) HB.out (by have := HLT.out; omega) hgp.out (tMay a)
          generalize (W17.setCell ⟨p, 0, none⟩ (uv (tMay a).1)).setCell ⟨p, 1, none⟩ (uv (tMay a).2) = W18 at *
          refine hK.out _ _ hB.all.2.2.2.1.four (fun hHeld => ?_)
          have HB := Lib.hid hB
          clear hK K hB x0 x1 f0 f1
          try simp only [Act.put]
          refine wpAnyH_ready (rs := [9]) (by kernel_rfl) (by simp) ?_
          refine AllReadyH.cons (o := _) rfl (fun K hK => ?_) AllReadyH.nil
          obtain ⟨x0, x1⟩ := HB.out.all.1.two
          have f0 := HB.out.all.1.frozen 0
          have f1 := HB.out.all.1.frozen 1
          go_simp
          have hB := HL.store1 (x := (0, 0)) HB.out (by have := HLT.out; omega) hgq.out (tMay b)
          generalize (W18.setCell ⟨q, 0, none⟩ (uv (tMay b).1)).setCell ⟨q, 1, none⟩ (uv (tMay b).2) = W19 at *
          refine hK.out _ _ hB.all.2.2.2.1.four (fun hHeld => ?_)
          have HB := Lib.hid hB
          clear hK K hB x0 x1 f0 f1
          try simp only [Act.put]
          refine wpAnyH_done (by kernel_rfl) ?_ _
          refine NoPanic.normal ?_
          go_wp2_with fail
          go_meet
          case rel => exact ⟨p, q, rfl, rfl, HB.out.drop3⟩
      · go_simp
        have hgq := Lib.hid HB.out.below.size
        have hB := HB.out.push tnT #[.int .u64 0, .int .u64 0]
        generalize hge : W1.heap.size = q at *
        clear hge
        generalize W1.alloc (.cells #[.int .u64 0, .int .u64 0] tnT) = W20 at *
        refine hK.out _ _ hB.all.2.2.1.four (fun hHeld => ?_)
        have HB := Lib.hid hB
        clear hK K hB
        try simp only [Act.put]
        refine wpAnyH_ready (rs := [5, 6]) (by kernel_rfl) (by simp) ?_
        refine AllReadyH.cons (o := _) rfl (fun K hK => ?_) (AllReadyH.cons (o := _) rfl (fun K hK => ?_) AllReadyH.nil)
        · go_simp
          go_at_call 9; refine (CM.out _ _).mono ?_; rintro e W21 ⟨rfl, hb⟩
          go_wp2_with fail
          have hB := HB.out.call hb
          refine hK.out _ _ hB.all.2.2.1.four (fun hHeld => ?_)
          have HB := Lib.hid hB
          clear hK K hB
          try simp only [Act.put]
          refine wpAnyH_ready (rs := [6]) (by kernel_rfl) (by simp) ?_
          refine AllReadyH.cons (o := _) rfl (fun K hK => ?_) AllReadyH.nil
          have hlt := HB.out.all.1.lt
          go_simp
          have hgp := Lib.hid HB.out.below.size
          have hB := HB.out.push tnT #[.int .u64 0, .int .u64 0]
          generalize hge : W21.heap.size = p at *
          clear hge
          generalize W21.alloc (.cells #[.int .u64 0, .int .u64 0] tnT) = W22 at *
          have HLT := Lib.hid hlt
          clear hlt
          refine hK.out _ _ hB.all.2.2.2.1.four (fun hHeld => ?_)
          have HB := Lib.hid hB
          clear hK K hB
          try simp only [Act.put]
          refine wpAnyH_ready (rs := [8]) (by kernel_rfl) (by simp) ?_
          refine AllReadyH.cons (o := _) rfl (fun K hK => ?_) AllReadyH.nil
          obtain ⟨x0, x1⟩ := HB.out.all.1.two
          have f0 := HB.out.all.1.frozen 0
          have f1 := HB.out.all.1.frozen 1
          go_simp
          have hB := HL.store1 (x := (0, 0)) HB.out (by have := HLT.out; omega) hgp.out (tMay a)
          generalize (W22.setCell ⟨p, 0, none⟩ (uv (tMay a).1)).setCell ⟨p, 1, none⟩ (uv (tMay a).2) = W23 at *
          refine hK.out _ _ hB.all.2.2.2.1.four (fun hHeld => ?_)
          have HB := Lib.hid hB
          clear hK K hB x0 x1 f0 f1
          try simp only [Act.put]
          refine wpAnyH_ready (rs := [9]) (by kernel_rfl) (by simp) ?_
          refine AllReadyH.cons (o := _) rfl (fun K hK => ?_) AllReadyH.nil
          obtain ⟨x0, x1⟩ := HB.out.all.2.1.two
          have f0 := HB.out.all.2.1.frozen 0
          have f1 := HB.out.all.2.1.frozen 1
          go_simp
          have hB := HL.store2 (x := (0, 0)) HB.out (by have := HLT.out; omega) hgq.out (tMay b)
          generalize (W23.setCell ⟨q, 0, none⟩ (uv (tMay b).1)).setCell ⟨q, 1, none⟩ (uv (tMay b).2) = W24 at *
          refine hK.out _ _ hB.all.2.2.2.1.four (fun hHeld => ?_)
          have HB := Lib.hid hB
          clear hK K hB x0 x1 f0 f1
          try simp only [Act.put]
          refine wpAnyH_done (by kernel_rfl) ?_ _
          refine NoPanic.normal ?_
          go_wp2_with fail
          go_meet
          case rel => exact ⟨p, q, rfl, rfl, HB.out.swap.drop3⟩
        · have hlt := HB.out.all.1.lt
          go_simp
          have hgp := Lib.hid HB.out.below.size
          have hB := HB.out.push tnT #[.int .u64 0, .int .u64 0]
          generalize hge : W20.heap.size = p at *
          clear hge
          generalize W20.alloc (.cells #[.int .u64 0, .int .u64 0] tnT) = W25 at *
          have HLT := Lib.hid hlt
          clear hlt
          refine hK.out _ _ hB.all.2.2.2.1.four (fun hHeld => ?_)
          have HB := Lib.hid hB
          clear hK K hB
          try simp only [Act.put]
          refine wpAnyH_ready (rs := [5]) (by kernel_rfl) (by simp) ?_
          refine AllReadyH.cons (o := _) rfl (fun K hK => ?_) AllReadyH.nil
          go_simp
          go_at_call 9; refine (CM.out _ _).mono ?_; rintro e W26 ⟨rfl, hb⟩
          go_wp2_with fail
          have hB := HB.out.call hb
          refine hK.out _ _ hB.all.2.2.2.1.four (fun hHeld => ?_)
          have HB := Lib.hid hB
          clear hK K hB
          try simp only [Act.put]
          refine wpAnyH_ready (rs := [8]) (by kernel_rfl) (by simp) ?_
          refine AllReadyH.cons (o := _) rfl (fun K hK => ?_) AllReadyH.nil
          obtain ⟨x0, x1⟩ := HB.out.all.1.two
          have f0 := HB.out.all.1.frozen 0
          have f1 := HB.out.all.1.frozen 1
          go_simp
          have hB := HL.store1 (x := (0, 0)) HB.out (by have := HLT.out; omega) hgp.out (tMay a)
          generalize (W26.setCell ⟨p, 0, none⟩ (uv (tMay a).1)).setCell ⟨p, 1, none⟩ (uv (tMay a).2) = W27 at *
          refine hK.out _ _ hB.all.2.2.2.1.four (fun hHeld => ?_)
          have HB := Lib.hid hB
          clear hK K hB x0 x1 f0 f1
          try simp only [Act.put]
          refine wpAnyH_ready (rs := [9]) (by kernel_rfl) (by simp) ?_
          refine AllReadyH.cons (o := _) rfl (fun K hK => ?_) AllReadyH.nil
          obtain ⟨x0, x1⟩ := HB.out.all.2.1.two
          have f0 := HB.out.all.2.1.frozen 0
          have f1 := HB.out.all.2.1.frozen 1
          go_simp
          have hB := HL.store2 (x := (0, 0)) HB.out (by have := HLT.out; omega) hgq.out (tMay b)
          generalize (W27.setCell ⟨q, 0, none⟩ (uv (tMay b).1)).setCell ⟨q, 1, none⟩ (uv (tMay b).2) = W28 at *
          refine hK.out _ _ hB.all.2.2.2.1.four (fun hHeld => ?_)
          have HB := Lib.hid hB
          clear hK K hB x0 x1 f0 f1
          try simp only [Act.put]
          refine wpAnyH_done (by kernel_rfl) ?_ _
          refine NoPanic.normal ?_
          go_wp2_with fail
          go_meet
          case rel => exact ⟨p, q, rfl, rfl, HB.out.swap.drop3⟩
    · go_simp
      have hgp := Lib.hid HB.out.below.size
      have hB := HB.out.push tnT #[.int .u64 0, .int .u64 0]
      generalize hge : wd.heap.size = p at *
      clear hge
      generalize wd.alloc (.cells #[.int .u64 0, .int .u64 0] tnT) = W29 at *
      refine hK.out _ _ hB.all.2.2.1.four (fun hHeld => ?_)
      have HB := Lib.hid hB
      clear hK K hB
      try simp only [Act.put]
      refine wpAnyH_ready (rs := [2, 7]) (by kernel_rfl) (by simp) ?_
      refine AllReadyH.cons (o := _) rfl (fun K hK => ?_) (AllReadyH.cons (o := _) rfl (fun K hK => ?_) AllReadyH.nil)
      · go_simp
        go_at_call 9; refine (CM.out _ _).mono ?_; rintro e W30 ⟨rfl, hb⟩
        go_wp2_with fail
        have hB := HB.out.call hb
        refine hK.out _ _ hB.all.2.2.1.four (fun hHeld => ?_)
        have HB := Lib.hid hB
        clear hK K hB
        try simp only [Act.put]
        refine wpAnyH_ready (rs := [5, 7]) (by kernel_rfl) (by simp) ?_
        refine AllReadyH.cons (o := _) rfl (fun K hK => ?_) (AllReadyH.cons (o := _) rfl (fun K hK => ?_) AllReadyH.nil)
        · go_simp
          go_at_call 9; refine (CM.out _ _).mono ?_; rintro e W31 ⟨rfl, hb⟩
          go_wp2_with fail
          have hB := HB.out.call hb
          refine hK.out _ _ hB.all.2.2.1.four (fun hHeld => ?_)
          have HB := Lib.hid hB
          clear hK K hB
          try simp only [Act.put]
          refine wpAnyH_ready (rs := [7]) (by kernel_rfl) (by simp) ?_
          refine AllReadyH.cons (o := _) rfl (fun K hK => ?_) AllReadyH.nil
          have hlt := HB.out.all.1.lt
          go_simp
          have hgq := Lib.hid HB.out.below.size
          have hB := HB.out.push tnT #[.int .u64 0, .int .u64 0]
          generalize hge : W31.heap.size = q at *
          clear hge
          generalize W31.alloc (.cells #[.int .u64 0, .int .u64 0] tnT) = W32 at *
          have HLT := Lib.hid hlt
          clear hlt
          refine hK.out _ _ hB.all.2.2.2.1.four (fun hHeld => ?_)
          have HB := Lib.hid hB
          clear hK K hB
          try simp only [Act.put]
          refine wpAnyH_ready (rs := [8]) (by kernel_rfl) (by simp) ?_
          refine AllReadyH.cons (o := _) rfl (fun K hK => ?_) AllReadyH.nil
          obtain ⟨x0, x1⟩ := HB.out.all.2.1.two
          have f0 := HB.out.all.2.1.frozen 0
          have f1 := HB.out.all.2.1.frozen 1
          go_simp
          have hB := HL.store2 (x := (0, 0)) HB.out (by have := HLT.out; omega) hgp.out (tMay a)
          generalize (W32.setCell ⟨p, 0, none⟩ (uv (tMay a).1)).setCell ⟨p, 1, none⟩ (uv (tMay a).2) = W33 at *
          refine hK.out _ _ hB.all.2.2.2.1.four (fun hHeld => ?_)
          have HB := Lib.hid hB
          clear hK K hB x0 x1 f0 f1
          try simp only [Act.put]
          refine wpAnyH_ready (rs := [9]) (by kernel_rfl) (by simp) ?_
          refine AllReadyH.cons (o := _) rfl (fun K hK => ?_) AllReadyH.nil
          obtain ⟨x0, x1⟩ := HB.out.all.1.two
          have f0 := HB.out.all.1.frozen 0
          have f1 := HB.out.all.1.frozen 1
          go_simp
          have hB := HL.store1 (x := (0, 0)) HB.out (by have := HLT.out; omega) hgq.out (tMay b)
          generalize (W33.setCell ⟨q, 0, none⟩ (uv (tMay b).1)).setCell ⟨q, 1, none⟩ (uv (tMay b).2) = W34 at *
          refine hK.out _ _ hB.all.2.2.2.1.four (fun hHeld => ?_)
          have HB := Lib.hid hB
          clear hK K hB x0 x1 f0 f1
          try simp only [Act.put]
          refine wpAnyH_done (by kernel_rfl) ?_ _
          refine NoPanic.normal ?_
          go_wp2_with fail
          go_meet
          case rel => exact ⟨p, q, rfl, rfl, HB.out.drop3⟩
        · have hlt := HB.out.all.1.lt
          go_simp
          have hgq := Lib.hid HB.out.below.size
          have hB := HB.out.push tnT #[.int .u64 0, .int .u64 0]
          generalize hge : W30.heap.size = q at *
          clear hge
          generalize W30.alloc (.cells #[.int .u64 0, .int .u64 0] tnT) = W35 at *
          have HLT := Lib.hid hlt
          clear hlt
          refine hK.out _ _ hB.all.2.2.2.1.four (fun hHeld => ?_)
          have HB := Lib.hid hB
          clear hK K hB
          try simp only [Act.put]
          refine wpAnyH_ready (rs := [5]) (by kernel_rfl) (by simp) ?_
          refine AllReadyH.cons (o := _) rfl (fun K hK => ?_) AllReadyH.nil
          go_simp
          go_at_call 9; refine (CM.out _ _).mono ?_; rintro e W36 ⟨rfl, hb⟩
          go_wp2_with fail
          have hB := HB.out.call hb
          refine hK.out _ _ hB.all.2.2.2.1.four (fun hHeld => ?_)
          have HB := Lib.hid hB
          clear hK K hB
          try simp only [Act.put]
          refine wpAnyH_ready (rs := [8]) (by kernel_rfl) (by simp) ?_
          refine AllReadyH.cons (o := _) rfl (fun K hK => ?_) AllReadyH.nil
          obtain ⟨x0, x1⟩ := HB.out.all.2.1.two
          have f0 := HB.out.all.2.1.frozen 0
          have f1 := HB.out.all.2.1.frozen 1
          go_simp
          have hB := HL.store2 (x := (0, 0)) HB.out (by have := HLT.out; omega) hgp.out (tMay a)
          generalize (W36.setCell ⟨p, 0, none⟩ (uv (tMay a).1)).setCell ⟨p, 1, none⟩ (uv (tMay a).2) = W37 at *
          refine hK.out _ _ hB.all.2.2.2.1.four (fun hHeld => ?_)
          have HB := Lib.hid hB
          clear hK K hB x0 x1 f0 f1
          try simp only [Act.put]
          refine wpAnyH_ready (rs := [9]) (by kernel_rfl) (by simp) ?_
          refine AllReadyH.cons (o := _) rfl (fun K hK => ?_) AllReadyH.nil
          obtain ⟨x0, x1⟩ := HB.out.all.1.two
          have f0 := HB.out.all.1.frozen 0
          have f1 := HB.out.all.1.frozen 1
          go_simp
          have hB := HL.store1 (x := (0, 0)) HB.out (by have := HLT.out; omega) hgq.out (tMay b)
          generalize (W37.setCell ⟨q, 0, none⟩ (uv (tMay b).1)).setCell ⟨q, 1, none⟩ (uv (tMay b).2) = W38 at *
          refine hK.out _ _ hB.all.2.2.2.1.four (fun hHeld => ?_)
          have HB := Lib.hid hB
          clear hK K hB x0 x1 f0 f1
          try simp only [Act.put]
          refine wpAnyH_done (by kernel_rfl) ?_ _
          refine NoPanic.normal ?_
          go_wp2_with fail
          go_meet
          case rel => exact ⟨p, q, rfl, rfl, HB.out.drop3⟩
      · have hlt := HB.out.all.1.lt
        go_simp
        have hgq := Lib.hid HB.out.below.size
        have hB := HB.out.push tnT #[.int .u64 0, .int .u64 0]
        generalize hge : W29.heap.size = q at *
        clear hge
        generalize W29.alloc (.cells #[.int .u64 0, .int .u64 0] tnT) = W39 at *
        have HLT := Lib.hid hlt
        clear hlt
        refine hK.out _ _ hB.all.2.2.2.1.four (fun hHeld => ?_)
        have HB := Lib.hid hB
        clear hK K hB
        try simp only [Act.put]
        refine wpAnyH_ready (rs := [2]) (by kernel_rfl) (by simp) ?_
        refine AllReadyH.cons (o := _) rfl (fun K hK => ?_) AllReadyH.nil
        go_simp
        go_at_call 9; refine (CM.out _ _).mono ?_; rintro e W40 ⟨rfl, hb⟩
        go_wp2_with fail
        have hB := HB.out.call hb
        refine hK.out _ _ hB.all.2.2.2.1.four (fun hHeld => ?_)
        have HB := Lib.hid hB
        clear hK K hB
        try simp only [Act.put]
        refine wpAnyH_ready (rs := [5]) (by kernel_rfl) (by simp) ?_
        refine AllReadyH.cons (o := _) rfl (fun K hK => ?_) AllReadyH.nil
        go_simp
        go_at_call 9; refine (CM.out _ _).mono ?_; rintro e W41 ⟨rfl, hb⟩
        go_wp2_with fail
        have hB := HB.out.call hb
        refine hK.out _ _ hB.all.2.2.2.1.four (fun hHeld => ?_)
        have HB := Lib.hid hB
        clear hK K hB
        try simp only [Act.put]
        refine wpAnyH_ready (rs := [8]) (by kernel_rfl) (by simp) ?_
        refine AllReadyH.cons (o := _) rfl (fun K hK => ?_) AllReadyH.nil
        obtain ⟨x0, x1⟩ := HB.out.all.2.1.two
        have f0 := HB.out.all.2.1.frozen 0
        have f1 := HB.out.all.2.1.frozen 1
        go_simp
        have hB := HL.store2 (x := (0, 0)) HB.out (by have := HLT.out; omega) hgp.out (tMay a)
        generalize (W41.setCell ⟨p, 0, none⟩ (uv (tMay a).1)).setCell ⟨p, 1, none⟩ (uv (tMay a).2) = W42 at *
        refine hK.out _ _ hB.all.2.2.2.1.four (fun hHeld => ?_)
        have HB := Lib.hid hB
        clear hK K hB x0 x1 f0 f1
        try simp only [Act.put]
        refine wpAnyH_ready (rs := [9]) (by kernel_rfl) (by simp) ?_
        refine AllReadyH.cons (o := _) rfl (fun K hK => ?_) AllReadyH.nil
        obtain ⟨x0, x1⟩ := HB.out.all.1.two
        have f0 := HB.out.all.1.frozen 0
        have f1 := HB.out.all.1.frozen 1
        go_simp
        have hB := HL.store1 (x := (0, 0)) HB.out (by have := HLT.out; omega) hgq.out (tMay b)
        generalize (W42.setCell ⟨q, 0, none⟩ (uv (tMay b).1)).setCell ⟨q, 1, none⟩ (uv (tMay b).2) = W43 at *
        refine hK.out _ _ hB.all.2.2.2.1.four (fun hHeld => ?_)
        have HB := Lib.hid hB
        clear hK K hB x0 x1 f0 f1
        try simp only [Act.put]
        refine wpAnyH_done (by kernel_rfl) ?_ _
        refine NoPanic.normal ?_
        go_wp2_with fail
        go_meet
        case rel => exact ⟨p, q, rfl, rfl, HB.out.drop3⟩
    · go_simp
      have hgq := Lib.hid HB.out.below.size
      have hB := HB.out.push tnT #[.int .u64 0, .int .u64 0]
      generalize hge : wd.heap.size = q at *
      clear hge
      generalize wd.alloc (.cells #[.int .u64 0, .int .u64 0] tnT) = W44 at *
      refine hK.out _ _ hB.all.2.2.1.four (fun hHeld => ?_)
      have HB := Lib.hid hB
      clear hK K hB
      try simp only [Act.put]
      refine wpAnyH_ready (rs := [2, 6]) (by kernel_rfl) (by simp) ?_
      refine AllReadyH.cons (o := _) rfl (fun K hK => ?_) (AllReadyH.cons (o := _) rfl (fun K hK => ?_) AllReadyH.nil)
      · go_simp
        go_at_call 9; refine (CM.out _ _).mono ?_; rintro e W45 ⟨rfl, hb⟩
        go_wp2_with fail
        have hB := HB.out.call hb
        refine hK.out _ _ hB.all.2.2.1.four (fun hHeld => ?_)
        have HB := Lib.hid hB
        clear hK K hB
        try simp only [Act.put]
        refine wpAnyH_ready (rs := [5, 6]) (by kernel_rfl) (by simp) ?_
        refine AllReadyH.cons (o := _) rfl (fun K hK => ?_) (AllReadyH.cons (o := _) rfl (fun K hK => ?_) AllReadyH.nil)
        · go_simp
          go_at_call 9; refine (CM.out _ _).mono ?_; rintro e W46 ⟨rfl, hb⟩
          go_wp2_with fail
          have hB := HB.out.call hb
          refine hK.out _ _ hB.all.2.2.1.four (fun hHeld => ?_)
          have HB := Lib.hid hB
          clear hK K hB
          try simp only [Act.put]
          refine wpAnyH_ready (rs := [6]) (by kernel_rfl) (by simp) ?_
          refine AllReadyH.cons (o := _) rfl (fun K hK => ?_) AllReadyH.nil
          have hlt := HB.out.all.1.lt
          go_simp
          have hgp := Lib.hid HB.out.below.size
          have hB := HB.out.push tnT #[.int .u64 0, .int .u64 0]
          generalize hge : W46.heap.size = p at *
          clear hge
          generalize W46.alloc (.cells #[.int .u64 0, .int .u64 0] tnT) = W47 at *
          have HLT := Lib.hid hlt
          clear hlt
          refine hK.out _ _ hB.all.2.2.2.1.four (fun hHeld => ?_)
          have HB := Lib.hid hB
          clear hK K hB
          try simp only [Act.put]
          refine wpAnyH_ready (rs := [8]) (by kernel_rfl) (by simp) ?_
          refine AllReadyH.cons (o := _) rfl (fun K hK => ?_) AllReadyH.nil
          obtain ⟨x0, x1⟩ := HB.out.all.1.two
          have f0 := HB.out.all.1.frozen 0
          have f1 := HB.out.all.1.frozen 1
          go_simp
          have hB := HL.store1 (x := (0, 0)) HB.out (by have := HLT.out; omega) hgp.out (tMay a)
          generalize (W47.setCell ⟨p, 0, none⟩ (uv (tMay a).1)).setCell ⟨p, 1, none⟩ (uv (tMay a).2) = W48 at *
          refine hK.out _ _ hB.all.2.2.2.1.four (fun hHeld => ?_)
          have HB := Lib.hid hB
          clear hK K hB x0 x1 f0 f1
          try simp only [Act.put]
          refine wpAnyH_ready (rs := [9]) (by kernel_rfl) (by simp) ?_
          refine AllReadyH.cons (o := _) rfl (fun K hK => ?_) AllReadyH.nil
          obtain ⟨x0, x1⟩ := HB.out.all.2.1.two
          have f0 := HB.out.all.2.1.frozen 0
          have f1 := HB.out.all.2.1.frozen 1
          go_simp
          have hB := HL.store2 (x := (0, 0)) HB.out (by have := HLT.out; omega) hgq.out (tMay b)
          generalize (W48.setCell ⟨q, 0, none⟩ (uv (tMay b).1)).setCell ⟨q, 1, none⟩ (uv (tMay b).2) = W49 at *
          refine hK.out _ _ hB.all.2.2.2.1.four (fun hHeld => ?_)
          have HB := Lib.hid hB
          clear hK K hB x0 x1 f0 f1
          try simp only [Act.put]
          refine wpAnyH_done (by kernel_rfl) ?_ _
          refine NoPanic.normal ?_
          go_wp2_with fail
          go_meet
          case rel => exact ⟨p, q, rfl, rfl, HB.out.swap.drop3⟩
        · have hlt := HB.out.all.1.lt
          go_simp
          have hgp := Lib.hid HB.out.below.size
          have hB := HB.out.push tnT #[.int .u64 0, .int .u64 0]
          generalize hge : W45.heap.size = p at *
          clear hge
          generalize W45.alloc (.cells #[.int .u64 0, .int .u64 0] tnT) = W50 at *
          have HLT := Lib.hid hlt
          clear hlt
          refine hK.out _ _ hB.all.2.2.2.1.four (fun hHeld => ?_)
          have HB := Lib.hid hB
          clear hK K hB
          try simp only [Act.put]
          refine wpAnyH_ready (rs := [5]) (by kernel_rfl) (by simp) ?_
          refine AllReadyH.cons (o := _) rfl (fun K hK => ?_) AllReadyH.nil
          go_simp
          go_at_call 9; refine (CM.out _ _).mono ?_; rintro e W51 ⟨rfl, hb⟩
          go_wp2_with fail
          have hB := HB.out.call hb
          refine hK.out _ _ hB.all.2.2.2.1.four (fun hHeld => ?_)
          have HB := Lib.hid hB
          clear hK K hB
          try simp only [Act.put]
          refine wpAnyH_ready (rs := [8]) (by kernel_rfl) (by simp) ?_
          refine AllReadyH.cons (o := _) rfl (fun K hK => ?_) AllReadyH.nil
          obtain ⟨x0, x1⟩ := HB.out.all.1.two
          have f0 := HB.out.all.1.frozen 0
          have f1 := HB.out.all.1.frozen 1
          go_simp
          have hB := HL.store1 (x := (0, 0)) HB.out (by have := HLT.out; omega) hgp.out (tMay a)
          generalize (W51.setCell ⟨p, 0, none⟩ (uv (tMay a).1)).setCell ⟨p, 1, none⟩ (uv (tMay a).2) = W52 at *
          refine hK.out _ _ hB.all.2.2.2.1.four (fun hHeld => ?_)
          have HB := Lib.hid hB
          clear hK K hB x0 x1 f0 f1
          try simp only [Act.put]
          refine wpAnyH_ready (rs := [9]) (by kernel_rfl) (by simp) ?_
          refine AllReadyH.cons (o := _) rfl (fun K hK => ?_) AllReadyH.nil
          obtain ⟨x0, x1⟩ := HB.out.all.2.1.two
          have f0 := HB.out.all.2.1.frozen 0
          have f1 := HB.out.all.2.1.frozen 1
          go_simp
          have hB := HL.store2 (x := (0, 0)) HB.out (by have := HLT.out; omega) hgq.out (tMay b)
          generalize (W52.setCell ⟨q, 0, none⟩ (uv (tMay b).1)).setCell ⟨q, 1, none⟩ (uv (tMay b).2) = W53 at *
          refine hK.out _ _ hB.all.2.2.2.1.four (fun hHeld => ?_)
          have HB := Lib.hid hB
          clear hK K hB x0 x1 f0 f1
          try simp only [Act.put]
          refine wpAnyH_done (by kernel_rfl) ?_ _
          refine NoPanic.normal ?_
          go_wp2_with fail
          go_meet
          case rel => exact ⟨p, q, rfl, rfl, HB.out.swap.drop3⟩
      · have hlt := HB.out.all.1.lt
        go_simp
        have hgp := Lib.hid HB.out.below.size
        have hB := HB.out.push tnT #[.int .u64 0, .int .u64 0]
        generalize hge : W44.heap.size = p at *
        clear hge
        generalize W44.alloc (.cells #[.int .u64 0, .int .u64 0] tnT) = W54 at *
        have HLT := Lib.hid hlt
        clear hlt
        refine hK.out _ _ hB.all.2.2.2.1.four (fun hHeld => ?_)
        have HB := Lib.hid hB
        clear hK K hB
        try simp only [Act.put]
        refine wpAnyH_ready (rs := [2]) (by kernel_rfl) (by simp) ?_
        refine AllReadyH.cons (o := _) rfl (fun K hK => ?_) AllReadyH.nil
        go_simp
        go_at_call 9; refine (CM.out _ _).mono ?_; rintro e W55 ⟨rfl, hb⟩
        go_wp2_with fail
        have hB := HB.out.call hb
        refine hK.out _ _ hB.all.2.2.2.1.four (fun hHeld => ?_)
        have HB := Lib.hid hB
        clear hK K hB
        try simp only [Act.put]
        refine wpAnyH_ready (rs := [5]) (by kernel_rfl) (by simp) ?_
        refine AllReadyH.cons (o := _) rfl (fun K hK => ?_) AllReadyH.nil
        go_simp
        go_at_call 9; refine (CM.out _ _).mono ?_; rintro e W56 ⟨rfl, hb⟩
        go_wp2_with fail
        have hB := HB.out.call hb
        refine hK.out _ _ hB.all.2.2.2.1.four (fun hHeld => ?_)
        have HB := Lib.hid hB
        clear hK K hB
        try simp only [Act.put]
        refine wpAnyH_ready (rs := [8]) (by kernel_rfl) (by simp) ?_
        refine AllReadyH.cons (o := _) rfl (fun K hK => ?_) AllReadyH.nil
        obtain ⟨x0, x1⟩ := HB.out.all.1.two
        have f0 := HB.out.all.1.frozen 0
        have f1 := HB.out.all.1.frozen 1
        go_simp
        have hB := HL.store1 (x := (0, 0)) HB.out (by have := HLT.out; omega) hgp.out (tMay a)
        generalize (W56.setCell ⟨p, 0, none⟩ (uv (tMay a).1)).setCell ⟨p, 1, none⟩ (uv (tMay a).2) = W57 at *
        refine hK.out _ _ hB.all.2.2.2.1.four (fun hHeld => ?_)
        have HB := Lib.hid hB
        clear hK K hB x0 x1 f0 f1
        try simp only [Act.put]
        refine wpAnyH_ready (rs := [9]) (by kernel_rfl) (by simp) ?_
        refine AllReadyH.cons (o := _) rfl (fun K hK => ?_) AllReadyH.nil
        obtain ⟨x0, x1⟩ := HB.out.all.2.1.two
        have f0 := HB.out.all.2.1.frozen 0
        have f1 := HB.out.all.2.1.frozen 1
        go_simp
        have hB := HL.store2 (x := (0, 0)) HB.out (by have := HLT.out; omega) hgq.out (tMay b)
        generalize (W57.setCell ⟨q, 0, none⟩ (uv (tMay b).1)).setCell ⟨q, 1, none⟩ (uv (tMay b).2) = W58 at *
        refine hK.out _ _ hB.all.2.2.2.1.four (fun hHeld => ?_)
        have HB := Lib.hid hB
        clear hK K hB x0 x1 f0 f1
        try simp only [Act.put]
        refine wpAnyH_done (by kernel_rfl) ?_ _
        refine NoPanic.normal ?_
        go_wp2_with fail
        go_meet
        case rel => exact ⟨p, q, rfl, rfl, HB.out.swap.drop3⟩
  case rest =>
    obtain ⟨p, q, rfl, rfl, hb⟩ := hcut
    have mA := may_tMay a
    have mB := may_tMay b
    have hA := has_one (tMay a) n0
    have hB := has_one (tMay b) n1
    have C1 := Lib.hid one_any
    generalize tMay a = a' at *
    generalize tMay b = b' at *
    have HA := Lib.hid hA
    have HB' := Lib.hid hB
    have MA := Lib.hid mA
    have MB := Lib.hid mB
    clear hA hB mA mB CM
    have key : ∀ W, HL w [(q, tnT, tC b'), (p, tnT, tC a'), (w.heap.size + 1, u2T, u2 n0 n1)] W → (W.cell? ⟨q, 0, none⟩ = some (uv b'.1) ∧ W.cell? ⟨q, 1, none⟩ = some (uv b'.2)) ∧ (W.cell? ⟨p, 0, none⟩ = some (uv a'.1) ∧ W.cell? ⟨p, 1, none⟩ = some (uv a'.2)) ∧ (W.cell? ⟨w.heap.size + 1, 0, none⟩ = some (uv n0) ∧ W.cell? ⟨w.heap.size + 1, 1, none⟩ = some (uv n1)) := by
      rintro W ⟨⟨h1, h2, h3, _⟩, _⟩
      exact ⟨h1.two, h2.two, h3.two⟩
    have KEY := Lib.hid key
    have HB := Lib.hid hb
    have S0 := Lib.hid (key _ hb)
    obtain ⟨⟨d0, d1⟩, ⟨c0, c1⟩, m0, m1⟩ := key _ hb
    clear hb key
    go_upto_region 2 with fail
    go_region_held3 (fun W => (W.cell? ⟨q, 0, none⟩ = some (uv b'.1) ∧ W.cell? ⟨q, 1, none⟩ = some (uv b'.2)) ∧ (W.cell? ⟨p, 0, none⟩ = some (uv a'.1) ∧ W.cell? ⟨p, 1, none⟩ = some (uv a'.2)) ∧ (W.cell? ⟨w.heap.size + 1, 0, none⟩ = some (uv n0) ∧ W.cell? ⟨w.heap.size + 1, 1, none⟩ = some (uv n1)))
      (first | exact S0.out)
      (first
        | (go_at_call 27; refine (C1.out _ _ _).mono ?_; rintro e w10 ⟨rfl, hb⟩; have ha := (by first | exact HB.out.call hb | exact (HB.out.keeps (keeps_drewN _ _)).call hb | exact (HB.out.keeps (keeps_drew _)).call hb); have HB := Lib.hid ha; have S0 := Lib.hid (KEY.out _ ha); clear ha hb))
    obtain ⟨⟨d0, d1⟩, ⟨c0, c1⟩, m0, m1⟩ := S0.out
    clear m0 m1 S0 C1
    have CB := Lib.hid (fun W => pbin_any op a' b' W)
    generalize a'.1 ||| (n0 &&& a'.2) = x at *
    generalize b'.1 ||| (n1 &&& b'.2) = y at *
    have CA := Lib.hid awake_any
    by_cases ho : opIs op
    · unfold binT binX at CB
      rw [if_pos ho, if_pos ho] at CB
      have hz := bin_has ho MA.out MB.out HA.out HB'.out
      have hm := bin_may ho a' b'
      have CU := Lib.hid (alu_bin ho x y)
      generalize tBin op a' b' = X at *
      generalize bop op x y = z at *
      have CH := Lib.hid phas_any
      have hz1 : decide (Tn.has X z) = true := decide_eq_true hz
      have ha1 : decide (Tn.has a' x) = true := decide_eq_true HA.out
      have hm1 : bits .and .u64 (n64 X.1) (n64 X.2) = 0 := by
        rw [Tn.n64_and, show X.1 &&& X.2 = 0 from hm]; rfl
      clear hz hm ho MA MB HA HB'
      go_upto_region 4 with (go_at_call 10; refine (CB.out _).mono ?_; rintro e w2 ⟨rfl, hb⟩; have HB2 := Lib.hid (HB.out.call hb); clear hb)
      have hb := HB2.out.push tnT (tC X)
      clear c0 c1 d0 d1 HB HB2 CB KEY
      generalize w2.heap.size = g1 at *
      generalize w2.alloc (.cells #[uv X.1, uv X.2] tnT) = w3 at *
      have key : ∀ W, HL w [(g1, tnT, tC X), (q, tnT, tC b'), (p, tnT, tC a'), (w.heap.size + 1, u2T, u2 n0 n1)] W → (W.cell? ⟨g1, 0, none⟩ = some (uv X.1) ∧ W.cell? ⟨g1, 1, none⟩ = some (uv X.2)) ∧ (W.cell? ⟨p, 0, none⟩ = some (uv a'.1) ∧ W.cell? ⟨p, 1, none⟩ = some (uv a'.2)) := by
        rintro W ⟨⟨h0, h1, h2, h3, _⟩, _⟩
        exact ⟨h0.two, h2.two⟩
      have KEY := Lib.hid key
      have HB := Lib.hid hb
      have S0 := Lib.hid (key _ hb)
      obtain ⟨⟨x0, x1⟩, c0, c1⟩ := key _ hb
      clear hb key
      go_upto_region 7 with (go_at_call 28; refine (CU.out _).mono ?_; rintro e w4 ⟨rfl, rfl⟩)
      go_wp2_with (first
          | (go_at_call 17; refine (CH.out _ _ _).mono ?_; rintro e w10 ⟨rfl, hb⟩; have ha := HB.out.call hb; have cc := KEY.out _ ha; obtain ⟨⟨x0, x1⟩, c0, c1⟩ := cc; have HB := Lib.hid ha; clear ha hb)
          | (go_at_call 12; refine (CA.out _).mono ?_; rintro e w10 ⟨rfl, hb⟩; have ha := HB.out.call hb; have HB := Lib.hid ha; clear ha hb))
      go_ret
      exact ⟨rfl, HB.out.below⟩
    · have CB : Hid (∀ W, Calls Try.prog 10 #[.int .i64 op, tv a', tv b'] W fun e w' => e = .returned (.tuple #[.agg #[.int .u64 0, .int .u64 0], .int .i64 1]) ∧ Below W.heap.size W w') := fun W => pbin_no ho a' b' W
      clear ho MA MB HA HB'
      go_upto_region 4 with (go_at_call 10; refine (CB.out _).mono ?_; rintro e w2 ⟨rfl, hb⟩; have HB2 := Lib.hid (HB.out.call hb); clear hb)
      have hb := HB2.out.push tnT #[.int .u64 0, .int .u64 0]
      clear c0 c1 d0 d1 HB HB2 CB KEY
      have qZ : ∀ W, (binOp .eql tnT (.agg #[.int .u64 0, .int .u64 0]) (.agg #[.int .u64 0, .int .u64 0])).run Try.prog W = .ok (.bool true) W := eq_self (0, 0)
      generalize w2.heap.size = g1 at *
      generalize w2.alloc (.cells #[.int .u64 0, .int .u64 0] tnT) = w3 at *
      obtain ⟨x0, x1⟩ := hb.all.1.two
      have HB := Lib.hid hb
      clear hb
      go_wp2_with (go_at_call 12; refine (CA.out _).mono ?_; rintro e w10 ⟨rfl, hb⟩; have ha := HB.out.call hb; have HB := Lib.hid ha; clear ha hb)
      go_ret
      exact ⟨rfl, HB.out.below⟩
end Go.Proofs.Ythgfaajclghjhaa
