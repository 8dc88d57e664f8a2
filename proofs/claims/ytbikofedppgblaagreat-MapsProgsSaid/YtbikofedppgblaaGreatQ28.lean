/-
  Layer 13: the law MapsNone, walked. Layer 13: the law MapsProgs, walked.
-/
import Derived.Test.YtbikofedppgblaaGreatQ27
namespace Go.Proofs.YtbikofedppgblaaGreat
open Go Go.RowKit Go.Maps
set_option linter.unusedVariables false
set_option linter.unusedSimpArgs false
set_option maxRecDepth 100000
abbrev dT13 : TypeId := 43
abbrev dC (kd fl cpu n : Int) (ks vs : ByteArray) (at_ : Int) (keep : Bool) : Array Value := #[.int .i64 kd, .int .i64 fl, .int .i64 cpu, .int .i64 n, .string ks, .string vs, .int .u64 at_, .bool keep]
set_option maxHeartbeats 2000000 in
theorem none_walk (kd fl cpu n : Int) (ks vs : ByteArray) (at_ : Int) (keep : Bool) (hn : (Lit.int .i64 n).wf = true) (w : World) :
    Calls Tryz.prog 4 #[.agg (dC kd fl cpu n ks vs at_ keep)] w fun e w' => e = .returned (.bool true) ∧ Below w.heap.size w w' := by
  have B0 := Lib.hid (below_alloc w (.cells (dC kd fl cpu n ks vs at_ keep) dT13))
  have HB := Lib.hid (Blk.new w dT13 (dC kd fl cpu n ks vs at_ keep))
  have HN := Lib.hid hn
  clear hn
  go_enter Tryz.func4, Tryz.ntmps4
  go_upto_region 6 with (first
    | (go_at_call 11; refine (Next_nil _ _).mono ?_; rintro e w1 ⟨rfl, rfl⟩)
    | (go_at_call 13; refine (Pop_nil _).mono ?_; rintro e w1 ⟨rfl, rfl⟩)
    | (go_at_call 14; refine (Peek_nil _).mono ?_; rintro e w1 ⟨rfl, rfl⟩)
    | (go_at_call 15; refine (Reserve_nil _ _).mono ?_; rintro e w1 ⟨rfl, rfl⟩))
  go_wp2_with (first
    | (go_at_call 10; refine (Prog_nil _ HN.out _).mono ?_; rintro e w1 ⟨rfl, rfl⟩)
    | (go_at_call 16; refine (Lookup_nil _ _ _).mono ?_; rintro e w3 ⟨rfl, rfl⟩)
    | (go_at_call 7; refine (Update_nil _ _ _ _ _).mono ?_; rintro e w4 ⟨rfl, rfl⟩)
    | (go_at_call 9; refine (Delete_nil _ _).mono ?_; rintro e w5 ⟨rfl, rfl⟩)
    | (go_at_call 17; refine (Push_nil _ _ _).mono ?_; rintro e w5 ⟨rfl, rfl⟩)
    | (go_at_call 18; refine (End_nil _ _ _).mono ?_; rintro e w5 ⟨rfl, rfl⟩)
    | (go_at_call 19; refine (Output_nil _ _).mono ?_; rintro e w5 ⟨rfl, rfl⟩)
    | (go_at_call 20; refine (Drain_nil _).mono ?_; rintro e w5 ⟨rfl, rfl⟩)
    | (go_at_call 21; refine (Free_nil _).mono ?_; rintro e w6 ⟨rfl, rfl⟩)
    | (go_at_call 22; refine (Spec_nil _).mono ?_; rintro e w6 ⟨rfl, hb⟩; have B6 := Lib.hid (below_then B0.out hb); clear hb)
    | (go_at_call 12; refine (awake_later B6.out B6.out.size).mono ?_; rintro e w7 ⟨rfl, hb⟩; have B7 := Lib.hid hb; clear hb))
  go_ret
  exact ⟨rfl, B7.out⟩
end Go.Proofs.YtbikofedppgblaaGreat
namespace Go.Proofs.YtbikofedppgblaaGreat
open Go Go.RowKit Go.Maps
set_option linter.unusedVariables false
set_option linter.unusedSimpArgs false
set_option maxRecDepth 100000
/-- The law's own sixteen numbers: 0 is none. -/
def numC (h : Pr) : Array Value := Array.ofFn (n := 16) fun i => .int .i64 (((h i).getD 0 : Nat) : Int)
theorem numC_size (h : Pr) : (numC h).size = 16 := Array.size_ofFn
theorem numC_get (h : Pr) {i : Nat} (hi : i < 16) : (numC h)[i]? = some (.int .i64 (((h i).getD 0 : Nat) : Int)) := by
  unfold numC
  rw [Array.getElem?_ofFn, dif_pos hi]
theorem numC_put (h : Pr) {k : Nat} (hk : k < 16) (v : Option Nat) : (numC h).setIfInBounds k (.int .i64 ((v.getD 0 : Nat) : Int)) = numC (h.put k v) := by
  apply Array.ext_getElem?
  intro i
  rcases Nat.lt_or_ge i 16 with hi | hi
  · rw [numC_get _ hi, Array.getElem?_setIfInBounds, numC_size]
    by_cases e : k = i
    · subst e
      rw [if_pos rfl, if_pos hi, Pr.put_same]
    · rw [if_neg e, numC_get _ hi, Pr.put_other h v (fun q => e q.symm)]
  · rw [Array.getElem?_eq_none (by simp [numC_size]; omega), Array.getElem?_eq_none (by rw [numC_size]; omega)]
/-- Where an index that a number says lies. -/
def place16 (n : Int) : Nat := (n % 16).toNat
theorem place16_lt (n : Int) : place16 n < 16 := by unfold place16; omega
theorem tmod16 (n : Int) : n.tmod 16 = n % 16 ∨ n.tmod 16 = n % 16 - 16 := by
  by_cases h : 0 ≤ n
  · exact .inl (Int.tmod_eq_emod_of_nonneg h)
  · obtain ⟨m, rfl⟩ : ∃ m : Int, n = -m := ⟨-n, by omega⟩
    rw [Int.neg_tmod, Int.tmod_eq_emod_of_nonneg (by omega)]
    omega
theorem place16_eq (n : Int) : ((n.tmod 16 + 16).tmod 16) = (place16 n : Int) := by
  unfold place16
  have h1 := tmod16 n
  have h2 : 0 ≤ n % 16 ∧ n % 16 < 16 := by omega
  rw [Int.tmod_eq_emod_of_nonneg (by omega)]
  omega
/-- All numbers are at least 1. -/
def OkP (h : Pr) : Prop := ∀ i v, h i = some v → 1 ≤ v
theorem OkP.put {h : Pr} (o : OkP h) (k : Nat) {v : Option Nat} (hv : ∀ x, v = some x → 1 ≤ x) : OkP (h.put k v) := by
  intro i x hx
  unfold Pr.put at hx
  split at hx
  · exact hv x hx
  · exact o i x hx
theorem OkP.zero {h : Pr} (o : OkP h) (i : Nat) : ((((h i).getD 0 : Nat) : Int) != 0) = (h i).isSome := by
  cases hh : h i with
  | none => rfl
  | some v => have := o i v hh; simp; omega
/-- What the law has: the map of programs and its own numbers say the same. -/
structure MP (w0 : World) (x g r : Nat) (h : Pr) (w : World) : Prop where
  pm : PM x g 16 h w
  row : Blk w r 31 (numC h)
  ok : OkP h
  hg : w0.heap.size ≤ g
  hr : w0.heap.size ≤ r
  below : Below w0.heap.size w0 w
  sz : w0.heap.size ≤ w.heap.size
section
variable {w0 w w' : World} {x g r : Nat} {h h' : Pr}
theorem MP.grow (a : MP w0 x g r h w) (k : Below w.heap.size w w') : MP w0 x g r h w' :=
  ⟨a.pm.below k, blk_below a.row k, a.ok, a.hg, a.hr, a.below.trans (k.mono a.sz), Nat.le_trans a.sz k.size⟩
/-- Behind a turn of the map, and of the law's numbers. -/
theorem MP.turn (a : MP w0 x g r h w) {k : Nat} (hk : k < 16) {v : Option Nat} (hv : ∀ x, v = some x → 1 ≤ x) (t : Turned w g 16 (h.put k v) w') : MP w0 x g r (h.put k v) (w'.setCell ⟨r, k, none⟩ (.int .i64 ((v.getD 0 : Nat) : Int))) := by
  have hgr : g ≠ r := a.pm.row.ne_ a.row (by decide)
  have hxr : x ≠ r := a.pm.map.ne_ a.row (by decide)
  have p1 := a.pm.turn t
  have r1 := a.row.keeps t.2 (fun e => hgr e.symm)
  have k2 : Keeps (fun b => b = r) w' (w'.setCell ⟨r, k, none⟩ (.int .i64 ((v.getD 0 : Nat) : Int))) := Keeps.setCell (S := fun b => b = r) (p := ⟨r, k, none⟩) (Keeps.refl _ w') (.inl rfl) _
  have b1 : Below w0.heap.size w w' := t.2.below (fun b hb => by subst hb; exact a.hg) a.sz
  have s1 : w0.heap.size ≤ w'.heap.size := Nat.le_trans a.sz t.2.size
  refine ⟨p1.keeps k2 hxr hgr, ?_, a.ok.put k hv, a.hg, a.hr, (a.below.trans b1).trans (k2.below (fun b hb => by subst hb; exact a.hr) s1), Nat.le_trans s1 k2.size⟩
  rw [← numC_put h hk v]
  exact r1.set_ k _
end
theorem numC_zero : numC noP = #[.int .i64 0, .int .i64 0, .int .i64 0, .int .i64 0, .int .i64 0, .int .i64 0, .int .i64 0, .int .i64 0, .int .i64 0, .int .i64 0, .int .i64 0, .int .i64 0, .int .i64 0, .int .i64 0, .int .i64 0, .int .i64 0] := by kernel_rfl
/-- A list of numbers that lies behind A. -/
def IntsAt (w : World) (A : Option Addr) (len : Nat) (zs : Nat → Int) : Prop := ∀ i, i < len → ∃ b off, A = some ⟨b, off, none⟩ ∧ b < w.heap.size ∧ w.cell? ⟨b, off + i, none⟩ = some (.int .i64 (zs i))
theorem IntsAt.below {w w' : World} {A : Option Addr} {len : Nat} {zs : Nat → Int} (h : IntsAt w A len zs) (hb : Below w.heap.size w w') {i : Nat} (hi : i < len) : ∃ b off, A = some ⟨b, off, none⟩ ∧ b < w.heap.size ∧ w'.cell? ⟨b, off + i, none⟩ = some (.int .i64 (zs i)) := by
  obtain ⟨b, off, h1, h2, h3⟩ := h i hi
  exact ⟨b, off, h1, h2, by rw [hb.cell (by simpa using h2)]; exact h3⟩
theorem wrap_tmod (n : Int) : IntKind.i64.wrap (n.tmod 16 + 16) = n.tmod 16 + 16 ∧ wrap64 (n.tmod 16 + 16) = n.tmod 16 + 16 := by
  have h1 := tmod16 n
  have h2 : 0 ≤ n % 16 ∧ n % 16 < 16 := by omega
  exact ⟨IntWalk.i64_in _ (by omega), by unfold wrap64; omega⟩
set_option maxHeartbeats 4000000 in
theorem progs_walk (A1 A2 : Option Addr) (l1 c1 l2 c2 : Nat) (z1 z2 : Nat → Int) (w : World) (hA : IntsAt w A1 l1 z1) (hB : IntsAt w A2 l2 z2) (hl1 : l1 ≤ maxLen) (hl2 : l2 ≤ maxLen) :
    Calls Tryz.prog 3 #[.slice A1 l1 c1, .slice A2 l2 c2] w fun e w' => e = .returned (.bool true) ∧ Below w.heap.size w w' := by
  have HA := Lib.hid hA
  have HB := Lib.hid hB
  have C0 := Lib.hid (knew_at w)
  have CN : Hid (∀ bm w, Calls Tryz.prog 6 #[tp bm, .agg #[.int .i64 3, .int .i64 4, .int .i64 4, .int .i64 16], .int .i64 1] w fun e w' => ∃ x g, e = .returned (.tuple #[tp x, .int .i64 0]) ∧ PM x g 16 noP w' ∧ Below w.heap.size w w' ∧ w.heap.size ≤ x ∧ w.heap.size ≤ g) := fun bm w => new_progs 16 mk16 bm w
  clear hA hB
  go_enter Tryz.func3, Tryz.ntmps3
  go_upto_region 2 with (go_at_call 5; refine C0.out.mono ?_; rintro e w1 ⟨bm, rfl, hb, hm, hle, hlt⟩; have B1 := Lib.hid hb; clear hb hm hle hlt)
  go_upto_region 5 with (go_at_call 6; refine (CN.out _ _).mono ?_; rintro e w2 ⟨x, g, rfl, hp, hb, hx, hg⟩; have PM2 := Lib.hid hp; have B2 := Lib.hid hb; have HG := Lib.hid hg; clear hp hb hx hg)
  have M0 : Hid (MP w x g w2.heap.size noP (w2.alloc (.cells #[.int .i64 0, .int .i64 0, .int .i64 0, .int .i64 0, .int .i64 0, .int .i64 0, .int .i64 0, .int .i64 0, .int .i64 0, .int .i64 0, .int .i64 0, .int .i64 0, .int .i64 0, .int .i64 0, .int .i64 0, .int .i64 0] 31))) := by
    have b12 := below_then B1.out B2.out
    have b3 := below_alloc w2 (.cells (numC noP) 31)
    rw [← numC_zero]
    exact ⟨PM2.out.below b3, Blk.new _ _ _, fun i v hv => (by unfold noP at hv; exact absurd hv (by simp)), Nat.le_trans B1.out.size HG.out, b12.size, below_then b12 b3, (below_then b12 b3).size⟩
  clear C0 CN B1 PM2 B2 HG
  go_upto_region 6 with fail
  obtain ⟨r, hr⟩ : ∃ r, w2.heap.size = r := ⟨_, rfl⟩
  rw [hr] at M0 ⊢
  generalize World.alloc _ _ = w3 at M0 ⊢
  clear hr
  go_wp2_with fail
  go_loopw [9] (fun v wr => ∃ (j : Nat) (h : Pr), v = .int .i64 (j : Int) ∧ j ≤ 60 ∧ MP w x g r h wr) (fun v _ => 60 - (intOf v).toNat)
  case atStart => exact ⟨0, noP, rfl, by decide, M0.out⟩
  case round =>
    obtain ⟨j, h, rfl, hj, hm⟩ := hrel
    have M1 := Lib.hid hm
    clear hm M0
    by_cases hc : j < l1 ∧ j < 60
    · obtain ⟨hlt, h60⟩ := hc
      obtain ⟨b, off, rfl, hbl, hcell⟩ := HA.out.below M1.out.below hlt
      have k1 : decide (j < l1) = true := decide_eq_true hlt
      have k1' : decide ((j : Int) < (l1 : Int)) = true := decide_eq_true (by omega)
      have k2 : decide ((j : Int) < 60) = true := decide_eq_true (by omega)
      obtain ⟨k, hk, e0, e0', e1⟩ : ∃ k, k < 16 ∧ IntKind.i64.wrap ((z1 j).tmod 16 + 16) = (z1 j).tmod 16 + 16 ∧ wrap64 ((z1 j).tmod 16 + 16) = (z1 j).tmod 16 + 16 ∧ ((z1 j).tmod 16 + 16).tmod 16 = ((k : Nat) : Int) := ⟨place16 (z1 j), place16_lt _, (wrap_tmod (z1 j)).1, (wrap_tmod (z1 j)).2, place16_eq (z1 j)⟩
      have E0 := Lib.hid e0
      have E0' := Lib.hid e0'
      have E1 := Lib.hid e1
      clear e0 e0' e1
      have HK := Lib.hid hk
      have ek : IntKind.u64.wrap (k : Int) = (k : Int) := wraps_u64 _ (by omega) (by omega)
      obtain ⟨q, hq⟩ : ∃ q : Nat, j + 1 = q := ⟨_, rfl⟩
      have HQ : Hid (1 ≤ q ∧ q ≤ 60 ∧ q = j + 1) := ⟨by omega, by omega, hq.symm⟩
      have EQ : Hid (wrap64 ((j : Int) + 1) = (q : Int) ∧ IntKind.i64.wrap ((j : Int) + 1) = (q : Int) ∧ IntKind.u64.wrap (q : Int) = (q : Int)) := ⟨by unfold wrap64; omega, by rw [IntWalk.i64_in _ (by omega)]; omega, wraps_u64 _ (by omega) (by omega)⟩
      have HQL : Hid (q ≤ 4294967295) := by have := HQ.out; unfold Hid; omega
      have HKL : Hid (k ≤ 4294967295) := by unfold Hid; omega
      have e0 := E0.out
      have e0' := E0'.out
      have e1 := E1.out
      have eq := EQ.out.1
      have eq' := EQ.out.2.1
      have eqq := EQ.out.2.2
      clear hbl hq hj
      go_wp2_with (first
        | (go_at_call 8; (have tk := tok); refine (le_4 q HQL.out _).mono ?_; rintro e w5 ⟨rfl, hb⟩; have M3 := Lib.hid (M2.out.grow hb); clear hb)
        | (go_at_call 8; refine (le_4 k HKL.out _).mono ?_; rintro e w4 ⟨rfl, hb⟩; have M2 := Lib.hid (M1.out.grow hb); clear hb; have tok := True.intro)
        | (go_at_call 7; refine (Update_progs M3.out.pm HK.out HQL.out 0).mono ?_; rintro e w6 ⟨rfl, ht⟩; have M4 := Lib.hid (M3.out.turn HK.out (v := some q) (fun x hx => by cases hx; exact HQ.out.1) ht); have T4 := Lib.hid (M3.out.row.keeps ht.2 (fun e => (M3.out.pm.row.ne_ M3.out.row (by decide)) e.symm)); clear ht; have s0 : w6.cell? ⟨r, k, none⟩ = some (.int .i64 (((h k).getD 0 : Nat) : Int)) := (T4.out.cell k).trans (numC_get h HK.out); have f0 : w6.frozen? ⟨r, k, none⟩ = false := T4.out.frozen k))
      clear e0 e0' e1 eq eq' eqq ek
      refine ⟨⟨q, h.put k (some q), rfl, HQ.out.2.1, M4.out⟩, ?_⟩
      have := HQ.out
      simp [intOf]; omega
    · have HX : (decide (j < l1) = false ∧ decide ((j : Int) < (l1 : Int)) = false) ∨ ((decide (j < l1) = true ∧ decide ((j : Int) < (l1 : Int)) = true) ∧ decide ((j : Int) < 60) = false) := by
        by_cases h1 : j < l1
        · exact .inr ⟨⟨decide_eq_true h1, decide_eq_true (by omega)⟩, decide_eq_false (by omega)⟩
        · exact .inl ⟨decide_eq_false h1, decide_eq_false (by omega)⟩
      clear hc hj
      rcases HX with ⟨k1, k1'⟩ | ⟨⟨k1, k1'⟩, k2⟩
      all_goals
        go_wp2_with fail
        clear k1 k1'
        go_loopw [11] (fun v wr => ∃ (j : Nat) (h : Pr), v = .int .i64 (j : Int) ∧ j ≤ 60 ∧ MP w x g r h wr) (fun v _ => 60 - (intOf v).toNat)
        case atStart => exact ⟨0, h, rfl, by decide, M1.out⟩
        case round =>
          clear M1
          obtain ⟨j, h3, rfl, hj, hm⟩ := hrel
          have M4 := Lib.hid hm
          clear hm
          by_cases hc : j < l2 ∧ j < 60
          · obtain ⟨hlt, h60⟩ := hc
            obtain ⟨b2, off2, rfl, hbl, hcell⟩ := HB.out.below M4.out.below hlt
            have k1 : decide (j < l2) = true := decide_eq_true hlt
            have k1' : decide ((j : Int) < (l2 : Int)) = true := decide_eq_true (by omega)
            have k2 : decide ((j : Int) < 60) = true := decide_eq_true (by omega)
            obtain ⟨k, hk, e0, e0', e1⟩ : ∃ k, k < 16 ∧ IntKind.i64.wrap ((z2 j).tmod 16 + 16) = (z2 j).tmod 16 + 16 ∧ wrap64 ((z2 j).tmod 16 + 16) = (z2 j).tmod 16 + 16 ∧ ((z2 j).tmod 16 + 16).tmod 16 = ((k : Nat) : Int) := ⟨place16 (z2 j), place16_lt _, (wrap_tmod (z2 j)).1, (wrap_tmod (z2 j)).2, place16_eq (z2 j)⟩
            have E0 := Lib.hid e0
            have E0' := Lib.hid e0'
            have E1 := Lib.hid e1
            clear e0 e0' e1
            have HK := Lib.hid hk
            have ek : IntKind.u64.wrap (k : Int) = (k : Int) := wraps_u64 _ (by omega) (by omega)
            have EQ : Hid (wrap64 ((j : Int) + 1) = ((j + 1 : Nat) : Int)) := by unfold Hid wrap64; omega
            have H60 := Lib.hid h60
            have HKL : Hid (k ≤ 4294967295) := by unfold Hid; omega
            have e0 := E0.out
            have e0' := E0'.out
            have e1 := E1.out
            clear hbl hj
            cases hh : h3 k with
            | none =>
              have CD : Hid (∀ W, MP w x g r h3 W → Calls Tryz.prog 9 #[tp x, .string (bstr (wb k 4))] W fun e w' => e = .returned (.int .i64 4) ∧ Turned W g 16 (h3.put k none) w') := fun W hW => by
                have c := Delete_progs hW.pm HK.out
                rw [hh] at c
                exact c
              have HC : Hid (∀ W, Blk W r 31 (numC h3) → W.cell? ⟨r, k, none⟩ = some (.int .i64 0)) := fun W hW => by
                have c := (hW.cell k).trans (numC_get h3 HK.out)
                rw [hh] at c
                exact c
              clear hh
              go_wp2_with (first
                | (go_at_call 8; refine (le_4 k HKL.out _).mono ?_; rintro e w4 ⟨rfl, hb⟩; have M5 := Lib.hid (M4.out.grow hb); clear hb)
                | (go_at_call 9; refine (CD.out _ M5.out).mono ?_; rintro e w6 ⟨rfl, ht⟩; have M6 : Hid (MP w x g r (h3.put k none) (w6.setCell ⟨r, k, none⟩ (.int .i64 0))) := M5.out.turn HK.out (v := none) (fun x hx => nomatch hx) ht; have T6 := Lib.hid (M5.out.row.keeps ht.2 (fun e => (M5.out.pm.row.ne_ M5.out.row (by decide)) e.symm)); clear ht; have s0 : w6.cell? ⟨r, k, none⟩ = some (.int .i64 0) := HC.out _ T6.out; have f0 : w6.frozen? ⟨r, k, none⟩ = false := T6.out.frozen k))
              clear e0 e0' e1 ek
              refine ⟨⟨j + 1, h3.put k none, by go_num, by have := H60.out; omega, M6.out⟩, ?_⟩
              have := H60.out
              simp [intOf]; omega
            | some v =>
              have hv1 := M4.out.ok k v hh
              have n0 : ((v : Int) != 0) = true := by
                clear e0 e0' e1
                simp; omega
              have CD : Hid (∀ W, MP w x g r h3 W → Calls Tryz.prog 9 #[tp x, .string (bstr (wb k 4))] W fun e w' => e = .returned (.int .i64 0) ∧ Turned W g 16 (h3.put k none) w') := fun W hW => by
                have c := Delete_progs hW.pm HK.out
                rw [hh] at c
                exact c
              have HC : Hid (∀ W, Blk W r 31 (numC h3) → W.cell? ⟨r, k, none⟩ = some (.int .i64 (v : Int))) := fun W hW => by
                have c := (hW.cell k).trans (numC_get h3 HK.out)
                rw [hh] at c
                exact c
              clear hh hv1
              go_wp2_with (first
                | (go_at_call 8; refine (le_4 k HKL.out _).mono ?_; rintro e w4 ⟨rfl, hb⟩; have M5 := Lib.hid (M4.out.grow hb); clear hb)
                | (go_at_call 9; refine (CD.out _ M5.out).mono ?_; rintro e w6 ⟨rfl, ht⟩; have M6 : Hid (MP w x g r (h3.put k none) (w6.setCell ⟨r, k, none⟩ (.int .i64 0))) := M5.out.turn HK.out (v := none) (fun x hx => nomatch hx) ht; have T6 := Lib.hid (M5.out.row.keeps ht.2 (fun e => (M5.out.pm.row.ne_ M5.out.row (by decide)) e.symm)); clear ht; have s0 : w6.cell? ⟨r, k, none⟩ = some (.int .i64 (v : Int)) := HC.out _ T6.out; have f0 : w6.frozen? ⟨r, k, none⟩ = false := T6.out.frozen k))
              clear e0 e0' e1 ek n0
              refine ⟨⟨j + 1, h3.put k none, by go_num, by have := H60.out; omega, M6.out⟩, ?_⟩
              have := H60.out
              simp [intOf]; omega
          · have HX : (decide (j < l2) = false ∧ decide ((j : Int) < (l2 : Int)) = false) ∨ ((decide (j < l2) = true ∧ decide ((j : Int) < (l2 : Int)) = true) ∧ decide ((j : Int) < 60) = false) := by
              by_cases h1 : j < l2
              · exact .inr ⟨⟨decide_eq_true h1, decide_eq_true (by omega)⟩, decide_eq_false (by omega)⟩
              · exact .inl ⟨decide_eq_false h1, decide_eq_false (by omega)⟩
            clear hc hj
            rcases HX with ⟨k1, k1'⟩ | ⟨⟨k1, k1'⟩, k2⟩
            all_goals
              go_wp2_with fail
              clear k1 k1'
              go_loopw [14, 15] (fun s v wr => ∃ (j f : Nat) (t : ByteArray), v = .int .i64 (j : Int) ∧ s = .string t ∧ j ≤ 16 ∧ KeyFrom t f ∧ f ≤ j ∧ (∀ i, f ≤ i → i < j → h3 i = none) ∧ MP w x g r h3 wr) (fun _ v _ => 16 - (intOf v).toNat)
              case atStart => exact ⟨0, 0, ⟨#[]⟩, rfl, rfl, by decide, .inl ⟨by decide, rfl⟩, Nat.le_refl _, fun i _ h2 => absurd h2 (Nat.not_lt_zero _), M4.out⟩
              case round =>
                obtain ⟨j, f, t, rfl, rfl, hj, hkf, hfj, hno, hm⟩ := hrel
                have M5 := Lib.hid hm
                have HKF := Lib.hid hkf
                have HFJ := Lib.hid hfj
                have HNO := Lib.hid hno
                clear hm hkf hfj hno
                by_cases hlt : j < 16
                · have k1 : decide ((j : Int) < 16) = true := decide_eq_true (by omega)
                  have HLT := Lib.hid hlt
                  have EJ : Hid (wrap64 ((j : Int) + 1) = ((j + 1 : Nat) : Int) ∧ IntKind.u64.wrap (j : Int) = (j : Int)) := ⟨by unfold wrap64; omega, wraps_u64 _ (by omega) (by omega)⟩
                  have ej2 := EJ.out.2
                  have HJL : Hid (j ≤ 4294967295) := by unfold Hid; omega
                  have CP := Prog_progs M5.out.pm hlt
                  have s0 : wr.cell? ⟨r, j, none⟩ = some (.int .i64 (((h3 j).getD 0 : Nat) : Int)) := (M5.out.row.cell j).trans (numC_get h3 hlt)
                  cases hh : h3 j with
                  | none =>
                    rw [hh] at CP s0
                    have CP : Hid (Calls Tryz.prog 10 #[tp x, .int .i64 j] wr fun e w' => e = .returned (.tuple #[.int .i64 0, .bool false]) ∧ ∃ m, w' = wr.drewN m) := CP
                    have s0 : wr.cell? ⟨r, j, none⟩ = some (.int .i64 0) := s0
                    have HH := Lib.hid hh
                    clear hh
                    go_wp2_with (go_at_call 10; refine CP.out.mono ?_; rintro e w6 ⟨rfl, m, rfl⟩; have M6 := Lib.hid (M5.out.grow ⟨rfl, rfl, rfl, Nat.le_refl _, fun _ _ => rfl⟩ : MP w x g r h3 (wr.drewN m)))
                    refine ⟨⟨j + 1, f, t, by go_num, rfl, by have := HLT.out; omega, HKF.out, by have := HFJ.out; omega, fun i h1 h2 => ?_, M6.out⟩, by have := HLT.out; simp [intOf]; omega⟩
                    rcases Nat.lt_or_ge i j with h4 | h4
                    · exact HNO.out i h1 h4
                    · have : i = j := by omega
                      subst this; exact HH.out
                  | some v =>
                    have hv1 := M5.out.ok j v hh
                    have HNX : Hid (NextIs h3 16 f (some j)) := ⟨HFJ.out, HLT.out, by rw [hh]; rfl, HNO.out⟩
                    rw [hh] at CP s0
                    have CP : Hid (Calls Tryz.prog 10 #[tp x, .int .i64 j] wr fun e w' => e = .returned (.tuple #[.int .i64 (v : Int), .bool true]) ∧ ∃ m, w' = wr.drewN m) := CP
                    have s0 : wr.cell? ⟨r, j, none⟩ = some (.int .i64 (v : Int)) := s0
                    have n0 : ((v : Int) != 0) = true := by simp; omega
                    have CNX : Hid (∀ W, MP w x g r h3 W → Calls Tryz.prog 11 #[tp x, .string t] W fun e w' => e = .returned (.tuple #[.string (bstr (wb j 4)), .int .i64 0]) ∧ Below W.heap.size W w') := fun W hW => Next_progs hW.pm HKF.out HNX.out
                    have CLE := Lib.hid (fun W => le_4 j HJL.out W)
                    obtain ⟨ks, hks⟩ : ∃ ks, bstr (wb j 4) = ks := ⟨_, rfl⟩
                    have HKS := Lib.hid hks
                    rw [hks] at CNX CLE
                    clear hh hv1 hks
                    go_wp2_with (first
                      | (go_at_call 10; refine CP.out.mono ?_; rintro e w6 ⟨rfl, m, rfl⟩; have M6 := Lib.hid (M5.out.grow ⟨rfl, rfl, rfl, Nat.le_refl _, fun _ _ => rfl⟩ : MP w x g r h3 (wr.drewN m)))
                      | (go_at_call 11; refine (CNX.out _ M6.out).mono ?_; rintro e w7 ⟨rfl, hb⟩; have M7 := Lib.hid (M6.out.grow hb); clear hb)
                      | (go_at_call 8; refine (CLE.out _).mono ?_; rintro e w8 ⟨rfl, hb⟩; have M8 := Lib.hid (M7.out.grow hb); clear hb))
                    refine ⟨⟨j + 1, j + 1, ks, by go_num, rfl, by have := HLT.out; omega, .inr ⟨j, by have := HLT.out; omega, HKS.out.symm, rfl⟩, Nat.le_refl _, fun i h1 h2 => by omega, M8.out⟩, by have := HLT.out; simp [intOf]; omega⟩
                · have k1 : decide ((j : Int) < 16) = false := decide_eq_false (by omega)
                  have HNX : Hid (NextIs h3 16 f none) := fun i h1 h2 => HNO.out i h1 (by omega)
                  have CNX : Hid (Calls Tryz.prog 11 #[tp x, .string t] wr fun e w' => e = .returned (.tuple #[.string ⟨#[]⟩, .int .i64 4]) ∧ Below wr.heap.size wr w') := Next_progs M5.out.pm HKF.out HNX.out
                  go_wp2_with (first
                    | (go_at_call 11; refine CNX.out.mono ?_; rintro e w7 ⟨rfl, hb⟩; have M7 := Lib.hid (M5.out.grow hb); clear hb)
                    | (go_at_call 12; refine (awake_later M7.out.below M7.out.sz).mono ?_; rintro e w8 ⟨rfl, hb⟩; have B8 := Lib.hid hb; clear hb))
                  go_ret
                  exact ⟨rfl, B8.out⟩
end Go.Proofs.YtbikofedppgblaaGreat
