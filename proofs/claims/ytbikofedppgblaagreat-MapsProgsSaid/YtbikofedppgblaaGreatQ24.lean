/-
  Package maps: programs' numbers, as they lie.
-/
import Derived.Test.YtbikofedppgblaaGreatQ23
namespace Go.Proofs.YtbikofedppgblaaGreat
open Go Go.RowKit Go.Maps
set_option linter.unusedVariables false
set_option linter.unusedSimpArgs false
set_option maxRecDepth 100000
abbrev plT : TypeId := 98
abbrev plV (g N : Nat) : Value := .slice (some ⟨g, 0, none⟩) N N
section
variable {w : World} {g N : Nat} {h : Pr}
theorem has_any (hb : Blk w g plT (plC N h)) (hN : N ≤ 4096) {n : Nat} (hn : n < N) : Calls Tryz.prog 57 #[plV g N, .int .u64 n] w fun e w' => e = .returned (.bool (h n).isSome) ∧ w = w' := by
  have c1 : w.cell? ⟨g, n * 2 + 1, none⟩ = some (.bool (h n).isSome) := (hb.cell _).trans (plC_there h hn)
  have e1 : IntKind.u64.wrap (N : Int) = (N : Int) := wraps_u64 _ (by omega) (by omega)
  have g1 : decide (n < N) = true := decide_eq_true hn
  have g2 : decide ((n : Int) < (N : Int)) = true := decide_eq_true (by omega)
  generalize (h n).isSome = b at *
  clear hb
  go_enter Tryz.func57, Tryz.ntmps57
  go_wp2_with fail
  go_ret
  exact ⟨rfl, rfl⟩
theorem prog_any (hb : Blk w g plT (plC N h)) (hN : N ≤ 4096) {n : Nat} (hn : n < N) : Calls Tryz.prog 29 #[plV g N, .int .i64 n] w fun e w' => e = .returned (.tuple #[.int .i64 (((h n).getD 0 : Nat) : Int), .bool (h n).isSome]) ∧ ∃ m, w' = w.drewN m := by
  have c0 : w.cell? ⟨g, n * 2, none⟩ = some (.int .i64 (((h n).getD 0 : Nat) : Int)) := (hb.cell _).trans (plC_prog h hn)
  have e1 : IntKind.u64.wrap (n : Int) = (n : Int) := wraps_u64 _ (by omega) (by omega)
  have g1 : decide ((n : Int) < 0) = false := decide_eq_false (by omega)
  have CH := Lib.hid (has_any hb hN hn)
  have hi : n < N := hn
  cases hh : h n with
  | none =>
    rw [hh] at CH
    have CH : Hid (Calls Tryz.prog 57 #[plV g N, .int .u64 n] w fun e w' => e = .returned (.bool false) ∧ w = w') := CH
    clear hb c0 hh
    go_enter Tryz.func29, Tryz.ntmps29
    go_wp2_with (go_at_call 57; refine CH.out.mono ?_; rintro e w1 ⟨rfl, rfl⟩)
    go_ret2
    exact ⟨rfl, 0, rfl⟩
  | some v =>
    rw [hh] at CH c0
    have CH : Hid (Calls Tryz.prog 57 #[plV g N, .int .u64 n] w fun e w' => e = .returned (.bool true) ∧ w = w') := CH
    have c0 : w.cell? ⟨g, n * 2, none⟩ = some (.int .i64 (v : Int)) := c0
    clear hb hh
    go_enter Tryz.func29, Tryz.ntmps29
    go_wp2_with (go_at_call 57; refine CH.out.mono ?_; rintro e w1 ⟨rfl, rfl⟩)
    go_ret2
    exact ⟨rfl, 0, rfl⟩
/-- The row is turned at one place alone. -/
def Turned (w : World) (g N : Nat) (h : Pr) (w' : World) : Prop := Blk w' g plT (plC N h) ∧ Keeps (fun b => b = g) w w'
theorem turned_at (hb : Blk w g plT (plC N h)) {n : Nat} (hn : n < N) (v : Option Nat) : Turned w g N (h.put n v) ((w.setCell ⟨g, n * 2, none⟩ (.int .i64 ((v.getD 0 : Nat) : Int))).setCell ⟨g, n * 2 + 1, none⟩ (.bool v.isSome)) := by
  refine ⟨?_, ?_⟩
  · rw [← plC_put h hn v]
    exact (hb.set_ _ _).set_ _ _
  · have k1 : Keeps (fun b => b = g) w (w.setCell ⟨g, n * 2, none⟩ (.int .i64 ((v.getD 0 : Nat) : Int))) := Keeps.setCell (S := fun b => b = g) (p := ⟨g, n * 2, none⟩) (Keeps.refl _ w) (.inl rfl) _
    exact k1.setCell (p := ⟨g, n * 2 + 1, none⟩) (.inl rfl) _
theorem pupdate_ok (hb : Blk w g plT (plC N h)) (hN : N ≤ 4096) {n : Nat} (hn : n < N) {v : Nat} (hv : v ≤ 4294967295) : Calls Tryz.prog 52 #[plV g N, .string (bstr (wb n 4)), .string (bstr (wb v 4)), .int .i64 0] w fun e w' => e = .returned (.int .i64 0) ∧ Turned w g N (h.put n (some v)) w' := by
  have TA := Lib.hid (turned_at hb hn (some v))
  have n1 := number_ok (wb n 4) (wb_length _ _) w
  rw [le_wb n (by omega)] at n1
  have n2 := number_ok (wb v 4) (wb_length _ _) w
  rw [le_wb v hv] at n2
  have N1 := Lib.hid n1
  have N2 := Lib.hid n2
  clear n1 n2
  have CH := Lib.hid (has_any hb hN hn)
  have c0 : w.cell? ⟨g, n * 2, none⟩ = some (.int .i64 (((h n).getD 0 : Nat) : Int)) := (hb.cell _).trans (plC_prog h hn)
  have c1 : w.cell? ⟨g, n * 2 + 1, none⟩ = some (.bool (h n).isSome) := (hb.cell _).trans (plC_there h hn)
  have f0 : w.frozen? ⟨g, n * 2, none⟩ = false := hb.frozen _
  have f1 : w.frozen? ⟨g, n * 2 + 1, none⟩ = false := hb.frozen _
  have e1 : IntKind.u64.wrap (N : Int) = (N : Int) := wraps_u64 _ (by omega) (by omega)
  have e2 : IntKind.i64.wrap (v : Int) = (v : Int) := IntWalk.i64_in _ (by omega)
  have g1 : decide (N ≤ n) = false := decide_eq_false (by omega)
  have g2 : decide ((N : Int) ≤ (n : Int)) = false := decide_eq_false (by omega)
  have hi : n < N := hn
  generalize bstr (wb n 4) = ks at *
  generalize bstr (wb v 4) = vs at *
  generalize (h n).isSome = b0 at *
  generalize ((h n).getD 0 : Nat) = p0 at *
  clear hb hv
  go_enter Tryz.func52, Tryz.ntmps52
  go_wp2_with (first
    | (go_at_call 111; (have tk := tok); refine N2.out.mono ?_; rintro e w1 ⟨rfl, rfl⟩)
    | (go_at_call 111; refine N1.out.mono ?_; rintro e w1 ⟨rfl, rfl⟩; have tok := True.intro)
    | (go_at_call 57; refine CH.out.mono ?_; rintro e w1 ⟨rfl, rfl⟩))
  all_goals
    go_ret
    exact ⟨rfl, TA.out⟩
theorem premove_some (hb : Blk w g plT (plC N h)) (hN : N ≤ 4096) {n : Nat} (hn : n < N) {v : Nat} (hv : h n = some v) : Calls Tryz.prog 56 #[plV g N, .string (bstr (wb n 4))] w fun e w' => e = .returned (.int .i64 0) ∧ Turned w g N (h.put n none) w' := by
  have TA := Lib.hid (turned_at hb hn none)
  have n1 := number_ok (wb n 4) (wb_length _ _) w
  rw [le_wb n (by omega)] at n1
  have N1 := Lib.hid n1
  clear n1
  have ch := has_any hb hN hn
  rw [hv] at ch
  have CH : Hid (Calls Tryz.prog 57 #[plV g N, .int .u64 n] w fun e w' => e = .returned (.bool true) ∧ w = w') := ch
  clear ch
  have c0 : w.cell? ⟨g, n * 2, none⟩ = some (.int .i64 (((h n).getD 0 : Nat) : Int)) := (hb.cell _).trans (plC_prog h hn)
  have c1 : w.cell? ⟨g, n * 2 + 1, none⟩ = some (.bool (h n).isSome) := (hb.cell _).trans (plC_there h hn)
  have f0 : w.frozen? ⟨g, n * 2, none⟩ = false := hb.frozen _
  have f1 : w.frozen? ⟨g, n * 2 + 1, none⟩ = false := hb.frozen _
  have hi : n < N := hn
  generalize bstr (wb n 4) = ks at *
  generalize (h n).isSome = b0 at *
  generalize ((h n).getD 0 : Nat) = p0 at *
  clear hb hv
  go_enter Tryz.func56, Tryz.ntmps56
  go_wp2_with (first
    | (go_at_call 111; refine N1.out.mono ?_; rintro e w1 ⟨rfl, rfl⟩)
    | (go_at_call 57; refine CH.out.mono ?_; rintro e w1 ⟨rfl, rfl⟩))
  go_ret
  exact ⟨rfl, TA.out⟩
theorem premove_none (hb : Blk w g plT (plC N h)) (hN : N ≤ 4096) {n : Nat} (hn : n < N) (hv : h n = none) : Calls Tryz.prog 56 #[plV g N, .string (bstr (wb n 4))] w fun e w' => e = .returned (.int .i64 4) ∧ w = w' := by
  have n1 := number_ok (wb n 4) (wb_length _ _) w
  rw [le_wb n (by omega)] at n1
  have N1 := Lib.hid n1
  clear n1
  have ch := has_any hb hN hn
  rw [hv] at ch
  have CH : Hid (Calls Tryz.prog 57 #[plV g N, .int .u64 n] w fun e w' => e = .returned (.bool false) ∧ w = w') := ch
  clear ch
  generalize bstr (wb n 4) = ks at *
  clear hb hv
  go_enter Tryz.func56, Tryz.ntmps56
  go_wp2_with (first
    | (go_at_call 111; refine N1.out.mono ?_; rintro e w1 ⟨rfl, rfl⟩)
    | (go_at_call 57; refine CH.out.mono ?_; rintro e w1 ⟨rfl, rfl⟩))
  go_ret
  exact ⟨rfl, rfl⟩
/-- Where a key's next one is sought from. -/
def KeyFrom (s : ByteArray) (f : Nat) : Prop := (s.size ≠ 4 ∧ f = 0) ∨ ∃ q, q ≤ 4096 ∧ s = bstr (wb q 4) ∧ f = q + 1
/-- The number that a key is, and whether it is one. -/
theorem keyFrom_number {s : ByteArray} {f : Nat} (h : KeyFrom s f) (w : World) : ∃ (q : Nat) (b : Bool), (Calls Tryz.prog 111 #[.string s] w fun e w' => e = .returned (.tuple #[.int .u64 q, .bool b]) ∧ w = w') ∧ ((b = false ∧ f = 0) ∨ (b = true ∧ f = q + 1 ∧ q ≤ 4096)) := by
  rcases h with ⟨h1, rfl⟩ | ⟨q, h1, rfl, rfl⟩
  · exact ⟨0, false, number_no s h1 w, .inl ⟨rfl, rfl⟩⟩
  · have n1 := number_ok (wb q 4) (wb_length _ _) w
    rw [le_wb q (by omega)] at n1
    exact ⟨q, true, n1, .inr ⟨rfl, rfl, h1⟩⟩
/-- What Next answers: the first place from f on that has one, or none. -/
def NextIs (h : Pr) (N f : Nat) (o : Option Nat) : Prop := match o with
  | none => ∀ i, f ≤ i → i < N → h i = none
  | some k => f ≤ k ∧ k < N ∧ (h k).isSome = true ∧ ∀ i, f ≤ i → i < k → h i = none
theorem NextIs.here {o : Option Nat} {f j : Nat} (ho : NextIs h N f o) (h1 : ∀ i, f ≤ i → i < j → h i = none) (h2 : f ≤ j) (h3 : j < N) (h4 : (h j).isSome = true) : o = some j := by
  rcases o with _ | k
  · have := ho j h2 h3
    rw [this] at h4; cases h4
  · obtain ⟨a, b, c, d⟩ := ho
    rcases Nat.lt_trichotomy k j with hlt | rfl | hlt
    · rw [h1 k a hlt] at c; cases c
    · rfl
    · rw [d j h2 hlt] at h4; cases h4
theorem NextIs.off {o : Option Nat} {f j : Nat} (ho : NextIs h N f o) (h1 : ∀ i, f ≤ i → i < j → h i = none) (h3 : ¬ j < N) : o = none := by
  rcases o with _ | k
  · rfl
  · obtain ⟨a, b, c, d⟩ := ho
    rw [h1 k a (by omega)] at c; cases c
def pnextA (o : Option Nat) : Ending := match o with
  | none => .returned (.tuple #[.string ⟨#[]⟩, .int .i64 4])
  | some k => .returned (.tuple #[.string (bstr (wb k 4)), .int .i64 0])
set_option maxHeartbeats 1000000 in
theorem pnext_any (hb : Blk w g plT (plC N h)) (hN : N ≤ 4096) {s : ByteArray} {f : Nat} (hk : KeyFrom s f) {o : Option Nat} (ho : NextIs h N f o) : Calls Tryz.prog 61 #[plV g N, .string s] w fun e w' => e = pnextA o ∧ Below w.heap.size w w' := by
  obtain ⟨q, b, n1, hq⟩ := keyFrom_number hk w
  have N1 := Lib.hid n1
  have HB := Lib.hid hb
  have HO := Lib.hid ho
  have HN := Lib.hid hN
  have e1 : IntKind.u64.wrap (N : Int) = (N : Int) := wraps_u64 _ (by omega) (by omega)
  have HF : Hid (f ≤ 4097) := by unfold Hid; omega
  clear n1 hb ho hN hk
  rcases hq with ⟨rfl, rfl⟩ | ⟨rfl, hf, hq⟩
  · go_enter Tryz.func61, Tryz.ntmps61
    go_wp2_with (go_at_call 111; refine N1.out.mono ?_; rintro e w1 ⟨rfl, rfl⟩)
    go_loopw [9] (fun v wr => ∃ j : Nat, v = .int .u64 (j : Int) ∧ wr = w ∧ 0 ≤ j ∧ j ≤ 4097 ∧ ∀ i, 0 ≤ i → i < j → h i = none) (fun v _ => N - (intOf v).toNat)
    case atStart => exact ⟨0, rfl, rfl, Nat.le_refl _, by decide, fun i _ hi => absurd hi (Nat.not_lt_zero _)⟩
    case round =>
      obtain ⟨j, rfl, hwr, hfj, hj, hno⟩ := hrel
      subst hwr
      have HNO := Lib.hid hno
      have HJ := Lib.hid hj
      have HFJ := Lib.hid hfj
      clear hno hj hfj
      by_cases hlt : j < N
      · have g1 : decide (j < N) = true := decide_eq_true hlt
        have g2 : decide ((j : Int) < (N : Int)) = true := decide_eq_true (by omega)
        have HLT := Lib.hid hlt
        have e2 : (j : Int) + 1 < 18446744073709551616 := by have := HJ.out; omega
        have CH := Lib.hid (has_any HB.out HN.out hlt)
        clear hlt
        cases hs : (h j).isSome with
        | true =>
          have HE := Lib.hid (HO.out.here HNO.out HFJ.out HLT.out hs)
          rw [hs] at CH
          have CK := Lib.hid (keyOf_any j (by have := HJ.out; omega) wr)
          clear hs
          go_wp2_with (first
            | (go_at_call 57; refine CH.out.mono ?_; rintro e w2 ⟨rfl, rfl⟩)
            | (go_at_call 118; refine CK.out.mono ?_; rintro e w3 ⟨rfl, hb3⟩; have B3 := Lib.hid hb3; clear hb3))
          go_ret2
          rw [HE.out]
          exact ⟨rfl, B3.out⟩
        | false =>
          rw [hs] at CH
          have HH : Hid (h j = none) := by cases hh : h j with
            | none => rfl
            | some v => rw [hh] at hs; cases hs
          clear hs
          go_wp2_with (go_at_call 57; refine CH.out.mono ?_; rintro e w2 ⟨rfl, rfl⟩)
          refine ⟨⟨j + 1, by go_num, trivial, by have := HFJ.out; omega, by have := HLT.out; have := HN.out; omega, fun i h1 h2 => ?_⟩, by have := HLT.out; simp [intOf]; omega⟩
          rcases Nat.lt_or_ge i j with h3 | h3
          · exact HNO.out i h1 h3
          · have : i = j := by omega
            subst this; exact HH.out
      · have g1 : decide (j < N) = false := decide_eq_false hlt
        have g2 : decide ((j : Int) < (N : Int)) = false := decide_eq_false (by omega)
        have HE := Lib.hid (HO.out.off HNO.out hlt)
        clear hlt
        go_wp2_with fail
        go_ret2
        rw [HE.out]
        exact ⟨rfl, Below.refl _ _⟩
  · have e3 : ((q : Int) + 1) % 18446744073709551616 = ((q + 1 : Nat) : Int) := by omega
    have e4 : IntKind.u64.wrap ((q : Int) + 1) = ((q + 1 : Nat) : Int) := wraps_u64 _ (by omega) (by omega)
    subst hf
    go_enter Tryz.func61, Tryz.ntmps61
    go_wp2_with (go_at_call 111; refine N1.out.mono ?_; rintro e w1 ⟨rfl, rfl⟩)
    go_loopw [9] (fun v wr => ∃ j : Nat, v = .int .u64 (j : Int) ∧ wr = w ∧ q + 1 ≤ j ∧ j ≤ 4097 ∧ ∀ i, q + 1 ≤ i → i < j → h i = none) (fun v _ => N - (intOf v).toNat)
    case atStart => exact ⟨q + 1, rfl, rfl, Nat.le_refl _, HF.out, fun i h1 h2 => absurd h2 (by omega)⟩
    case round =>
      obtain ⟨j, rfl, hwr, hfj, hj, hno⟩ := hrel
      subst hwr
      have HNO := Lib.hid hno
      have HJ := Lib.hid hj
      have HFJ := Lib.hid hfj
      clear hno hj hfj
      by_cases hlt : j < N
      · have g1 : decide (j < N) = true := decide_eq_true hlt
        have g2 : decide ((j : Int) < (N : Int)) = true := decide_eq_true (by omega)
        have HLT := Lib.hid hlt
        have e2 : (j : Int) + 1 < 18446744073709551616 := by have := HJ.out; omega
        have CH := Lib.hid (has_any HB.out HN.out hlt)
        clear hlt
        cases hs : (h j).isSome with
        | true =>
          have HE := Lib.hid (HO.out.here HNO.out HFJ.out HLT.out hs)
          rw [hs] at CH
          have CK := Lib.hid (keyOf_any j (by have := HJ.out; omega) wr)
          clear hs
          go_wp2_with (first
            | (go_at_call 57; refine CH.out.mono ?_; rintro e w2 ⟨rfl, rfl⟩)
            | (go_at_call 118; refine CK.out.mono ?_; rintro e w3 ⟨rfl, hb3⟩; have B3 := Lib.hid hb3; clear hb3))
          go_ret2
          rw [HE.out]
          exact ⟨rfl, B3.out⟩
        | false =>
          rw [hs] at CH
          have HH : Hid (h j = none) := by cases hh : h j with
            | none => rfl
            | some v => rw [hh] at hs; cases hs
          clear hs
          go_wp2_with (go_at_call 57; refine CH.out.mono ?_; rintro e w2 ⟨rfl, rfl⟩)
          refine ⟨⟨j + 1, by go_num, trivial, by have := HFJ.out; omega, by have := HLT.out; have := HN.out; omega, fun i h1 h2 => ?_⟩, by have := HLT.out; simp [intOf]; omega⟩
          rcases Nat.lt_or_ge i j with h3 | h3
          · exact HNO.out i h1 h3
          · have : i = j := by omega
            subst this; exact HH.out
      · have g1 : decide (j < N) = false := decide_eq_false hlt
        have g2 : decide ((j : Int) < (N : Int)) = false := decide_eq_false (by omega)
        have HE := Lib.hid (HO.out.off HNO.out hlt)
        clear hlt
        go_wp2_with fail
        go_ret2
        rw [HE.out]
        exact ⟨rfl, Below.refl _ _⟩
end
end Go.Proofs.YtbikofedppgblaaGreat
