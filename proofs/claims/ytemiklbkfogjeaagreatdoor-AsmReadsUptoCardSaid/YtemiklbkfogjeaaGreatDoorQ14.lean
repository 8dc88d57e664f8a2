/-
  Package asm, reading: turn.
-/
import Derived.Test.YtemiklbkfogjeaaGreatDoorQ13
namespace Go.Proofs.YtemiklbkfogjeaaGreatDoor
open Go Go.RowKit Go.Maps
set_option linter.unusedVariables false
set_option linter.unusedSimpArgs false
set_option maxRecDepth 100000
theorem wpAnyH_skip {P : Program} {md : Region.Mode} {ops : Array Oper} {Q : Exit → Act → World → Prop} {S : World → Prop} (i d : Nat) {oi : Oper} {fuel : Nat} {listed : Array Bool} {a : Act} {w : World} (hi : ops[i]? = some oi) (hd : oi.dst = some d)
  (hs : Region.noSelect ops = true) (hf : Region.free md ops listed i = true) (hr : (Region.ready md ops listed).contains i = true)
  (hQ : ∀ c a w, Q (.panic c) (a.put oi.dst undef) w → Q (.panic c) a w) (hw : Region.wanted oi (yielded ops a.tmps) = false) (hS : S w)
  (h : wpAnyH P md ops Q S fuel (listed.setIfInBounds i true) (a.put (some d) undef) w) : wpAnyH P md ops Q S (fuel + 1) listed a w :=
 wpAnyH_take (v := undef) hi hs hf hr hQ (Or.inr ⟨hw, rfl⟩) hS (by rw [hd]; exact h)
def turnC (c nm : ByteArray) (op d : Int) : List Int → Option Slot
 | [] => none
 | n :: l => if sameT c (nm ++ dec n) = true then some ⟨op, d, 0, 0, n⟩ else turnC c nm op d l
def turnF (c : ByteArray) (d : Int) : List (ByteArray × Int) → Option Slot
 | [] => none
 | (nm, op) :: l => (turnC c nm op d [16, 32, 64]).or (turnF c d l)
def twoOf (ok : Bool) (rs : Option Nat) (F : Nat → Option Slot) : Option Slot := if ok = true then rs.bind F else none
def turnR (a m c t : ByteArray) : Option Slot := twoOf (sameT m eqT && sameT t a) (regS a wholeT) fun d => turnF c d turnL
theorem gives_two {w W : World} {y : Nat} {b ok : Bool} {rs : Option Nat} {rv : Nat} {F : Nat → Option Slot} {x : Slot} {e : Ending} (he : e = .returned (.agg (inC x.o x.d x.s x.f x.m))) (hv : ∀ r, rs = some r → rv = r)
  (h : RD w W y (((b || !rs.isSome) || !ok) || !(F rv).isSome)) (hx : ∀ z, F rv = some z → x = z) : GivesI w y b (twoOf ok rs F) e W := by
 refine ⟨x, he, ?_, fun z hz => ?_⟩
 ·unfold twoOf
  rcases rs with _ | r
  ·cases b <;> cases ok <;> simpa using h
  ·have h1 := hv r rfl
   subst h1
   cases b <;> cases ok <;> simpa using h
 ·unfold twoOf at hz
  cases ok
  ·cases hz
  ·rw [if_pos rfl] at hz
   obtain ⟨r, hr, hz⟩ := Option.bind_eq_some_iff.1 hz
   have h1 := hv r hr
   subst h1
   exact hx z hz
/-- The words and the mark lie, a slot of the call's own in z. -/
structure TX (w0 w W : World) (y : Nat) (b : Bool) (g off : Nat) (L : List ByteArray) (z : Nat) (C : Array Value) : Prop where
 rd : Rd w0 W y b g off L
 r : RD w W y b
 slot : Blk W z inT C
 hz : w.heap.size ≤ z
 hy : y < w.heap.size
section
variable {w0 w W W' : World} {y g off z : Nat} {b b' : Bool} {L : List ByteArray} {C : Array Value}
theorem TX.on (h : TX w0 w W y b g off L z C) (hb : Below W.heap.size W W') : TX w0 w W' y b g off L z C := ⟨h.rd.on hb, h.r.on hb, blk_on h.slot hb, h.hz, h.hy⟩
theorem TX.mark (h : TX w0 w W y b g off L z C) (hr : RD W W' y b') : TX w0 w W' y b' g off L z C :=
 ⟨h.rd.mark hr, h.r.then hr, h.slot.keeps hr.keeps (fun e => by have : z = y := e; have := h.hz; have := h.hy; omega), h.hz, h.hy⟩
theorem TX.wrong (h : TX w0 w W y b g off L z C) : TX w0 w (W.setCell ⟨y, 0, none⟩ (.bool true)) y true g off L z C := h.mark (RD.start h.rd.blk).wrong
theorem TX.start {w0 w : World} (h : Rd w0 w y b g off L) : TX w0 w (w.alloc (.cells (inC 0 0 0 0 0) inT)) y b g off L w.heap.size (inC 0 0 0 0 0) :=
 ⟨h.on (below_alloc w _), (RD.start h.blk).on (below_alloc w _), Blk.new w _ _, Nat.le_refl _, h.blk.lt⟩
/-- The mark and the slot that is answered, its five cells written. -/
theorem TX.all {r0 r1 r2 r3 r4 : Value} (h : TX w0 w W y b g off L z #[r0, r1, r2, r3, r4]) (a0 a1 a2 a3 a4 : Value) :
  RD w (((((W.setCell ⟨z, 0, none⟩ a0).setCell ⟨z, 1, none⟩ a1).setCell ⟨z, 2, none⟩ a2).setCell ⟨z, 3, none⟩ a3).setCell ⟨z, 4, none⟩ a4) y b ∧ Blk (((((W.setCell ⟨z, 0, none⟩ a0).setCell ⟨z, 1, none⟩ a1).setCell ⟨z, 2, none⟩ a2).setCell ⟨z, 3, none⟩ a3).setCell ⟨z, 4, none⟩ a4) z inT #[a0, a1, a2, a3, a4] := by
 have hzy : z ≠ y := by have := h.hz; have := h.hy; omega
 refine ⟨⟨h.rd.blk.keeps (keeps5 W z a0 a1 a2 a3 a4) (fun e => hzy e.symm), ?_⟩, ?_⟩
 ·exact (((((h.r.keeps).setCell (p := ⟨z, 0, none⟩) (.inr h.hz) a0).setCell (p := ⟨z, 1, none⟩) (.inr h.hz) a1).setCell (p := ⟨z, 2, none⟩) (.inr h.hz) a2).setCell (p := ⟨z, 3, none⟩) (.inr h.hz) a3).setCell (p := ⟨z, 4, none⟩) (.inr h.hz) a4
 ·have h1 : Blk _ z inT #[a0, r1, r2, r3, r4] := h.slot.set_ 0 a0
  have h2 : Blk _ z inT #[a0, a1, r2, r3, r4] := h1.set_ 1 a1
  have h3 : Blk _ z inT #[a0, a1, a2, r3, r4] := h2.set_ 2 a2
  have h4 : Blk _ z inT #[a0, a1, a2, a3, r4] := h3.set_ 3 a3
  exact h4.set_ 4 a4
end
set_option maxHeartbeats 8000000 in
theorem turnR_any {w0 w : World} {y g off : Nat} {b : Bool} (a m c t : ByteArray) (h : Rd w0 w y b g off [a, m, c, t]) (n cc : Nat) (hn : n = 4) :
  Calls Tryz.prog 59 #[rp y, .slice (some ⟨g, off, none⟩) n cc] w (GivesI w y b (turnR a m c t)) := by
 subst hn
 have CW := Lib.hid (fun w' b' ok (hb : Blk w' y rdT #[.bool b']) => want_any hb ok)
 have CR := Lib.hid (fun w' b' (hb : Blk w' y rdT #[.bool b']) => register_any hb a wholeT (h.small a (by simp)) (by decide))
 have bm : (m.toList == [61]) = sameT m eqT := same_const m [61]
 have bt : (t.toList == a.toList) = sameT t a := same_beq t a
 have HV : Hid (∀ r, regS a wholeT = some r → regV a wholeT = r) := fun r => regS_val
 have T0 := Lib.hid (TX.start h)
 have a0 : (w.alloc (.cells (inC 0 0 0 0 0) inT)).cell? ⟨g, off, none⟩ = some (.string a) := T0.out.rd.words 0 a rfl
 have HG : Hid (turnR a m c t = twoOf (sameT m eqT && sameT t a) (regS a wholeT) fun d => turnF c d turnL) := rfl
 clear h
 generalize turnR a m c t = tR at *
 generalize regV a wholeT = rv at *
 generalize regS a wholeT = rs at *
 generalize sameT t a = q2 at *
 generalize sameT m eqT = q1 at *
 cases q1
 ·go_enter Tryz.func59, Tryz.ntmps59
  go_upto_region 2 with (go_at_call 50; refine (CR.out _ _ T0.out.rd.blk).mono ?_; rintro e w1 ⟨rfl, hr⟩; have T1 := Lib.hid (T0.out.mark hr); clear hr)
  have T2 := Lib.hid (T1.out.on (below_drew w1))
  have K2 : Hid (w1.drew.cell? ⟨g, off + 1, none⟩ = some (.string m) ∧ w1.drew.cell? ⟨g, off + 3, none⟩ = some (.string t) ∧ w1.drew.cell? ⟨g, off, none⟩ = some (.string a)) := ⟨T2.out.rd.words 1 m rfl, T2.out.rd.words 3 t rfl, T2.out.rd.words 0 a rfl⟩
  clear a0
  refine wp_region_noPanic ?_
  refine wp_region_held_drew (S := fun W' => W'.cell? ⟨g, off + 1, none⟩ = some (.string m) ∧ W'.cell? ⟨g, off + 3, none⟩ = some (.string t) ∧ W'.cell? ⟨g, off, none⟩ = some (.string a)) (by kernel_rfl) K2.out (fun hHeld => ?_)
  refine wpAnyH_take (i := 0) (oi := _) (v := ?_) rfl (by kernel_rfl) (by kernel_rfl) (by kernel_rfl) (fun _ _ _ h => h) (Or.inl ⟨by kernel_rfl, ?_⟩) K2.out ?_
  rotate_left 1
  ·intro w' hSw; obtain ⟨s1, s2, s3⟩ := hSw; go_simp; (try with_reducible rfl)
  try simp only [Act.put]
  refine wpAnyH_take (i := 1) (oi := _) (v := ?_) rfl (by kernel_rfl) (by kernel_rfl) (by kernel_rfl) (fun _ _ _ h => h) (Or.inl ⟨by kernel_rfl, ?_⟩) K2.out ?_
  rotate_left 1
  ·intro w' hSw; obtain ⟨s1, s2, s3⟩ := hSw; go_simp; (try with_reducible rfl)
  try simp only [Act.put]
  refine wpAnyH_take (i := 2) (oi := _) (v := ?_) rfl (by kernel_rfl) (by kernel_rfl) (by kernel_rfl) (fun _ _ _ h => h) (Or.inl ⟨by kernel_rfl, ?_⟩) K2.out ?_
  rotate_left 1
  ·intro w' hSw; obtain ⟨s1, s2, s3⟩ := hSw; go_simp; (try with_reducible rfl)
  try simp only [Act.put]
  refine wpAnyH_take (i := 3) (oi := _) (v := ?_) rfl (by kernel_rfl) (by kernel_rfl) (by kernel_rfl) (fun _ _ _ h => h) (Or.inl ⟨by kernel_rfl, ?_⟩) K2.out ?_
  rotate_left 1
  ·intro w' hSw; obtain ⟨s1, s2, s3⟩ := hSw; go_simp; (try with_reducible rfl)
  try simp only [Act.put]
  refine wpAnyH_take (i := 4) (oi := _) (v := ?_) rfl (by kernel_rfl) (by kernel_rfl) (by kernel_rfl) (fun _ _ _ h => h) (Or.inl ⟨by kernel_rfl, ?_⟩) K2.out ?_
  rotate_left 1
  ·intro w' hSw; obtain ⟨s1, s2, s3⟩ := hSw; go_simp; (try with_reducible rfl)
  try simp only [Act.put]
  refine wpAnyH_take (i := 5) (oi := _) (v := ?_) rfl (by kernel_rfl) (by kernel_rfl) (by kernel_rfl) (fun _ _ _ h => h) (Or.inl ⟨by kernel_rfl, ?_⟩) K2.out ?_
  rotate_left 1
  ·intro w' hSw; obtain ⟨s1, s2, s3⟩ := hSw; go_simp; (try with_reducible rfl)
  try simp only [Act.put]
  refine wpAnyH_skip 6 21 rfl (by rfl) (by kernel_rfl) (by kernel_rfl) (by kernel_rfl) (fun _ _ _ h => h) (by kernel_rfl) K2.out ?_
  try simp only [Act.put]
  refine wpAnyH_skip 7 22 rfl (by rfl) (by kernel_rfl) (by kernel_rfl) (by kernel_rfl) (fun _ _ _ h => h) (by kernel_rfl) K2.out ?_
  try simp only [Act.put]
  refine wpAnyH_skip 8 23 rfl (by rfl) (by kernel_rfl) (by kernel_rfl) (by kernel_rfl) (fun _ _ _ h => h) (by kernel_rfl) K2.out ?_
  try simp only [Act.put]
  refine wpAnyH_skip 9 24 rfl (by rfl) (by kernel_rfl) (by kernel_rfl) (by kernel_rfl) (fun _ _ _ h => h) (by kernel_rfl) K2.out ?_
  try simp only [Act.put]
  refine wpAnyH_skip 10 25 rfl (by rfl) (by kernel_rfl) (by kernel_rfl) (by kernel_rfl) (fun _ _ _ h => h) (by kernel_rfl) K2.out ?_
  try simp only [Act.put]
  refine wpAnyH_skip 11 26 rfl (by rfl) (by kernel_rfl) (by kernel_rfl) (by kernel_rfl) (fun _ _ _ h => h) (by kernel_rfl) K2.out ?_
  try simp only [Act.put]
  refine wpAnyH_skip 12 27 rfl (by rfl) (by kernel_rfl) (by kernel_rfl) (by kernel_rfl) (fun _ _ _ h => h) (by kernel_rfl) K2.out ?_
  try simp only [Act.put]
  refine wpAnyH_take (i := 13) (oi := _) (v := ?_) rfl (by kernel_rfl) (by kernel_rfl) (by kernel_rfl) (fun _ _ _ h => h) (Or.inl ⟨by kernel_rfl, ?_⟩) K2.out ?_
  rotate_left 1
  ·intro w' hSw; obtain ⟨s1, s2, s3⟩ := hSw; go_simp; (try with_reducible rfl)
  try simp only [Act.put]
  refine wpAnyH_ready (rs := [14]) (by kernel_rfl) (by simp) ?_
  refine AllReadyH.cons (o := _) rfl (fun K hK => ?_) AllReadyH.nil
  go_simp
  go_at_call 52; refine (CW.out _ _ _ T2.out.rd.blk).mono ?_; rintro e' w2 ⟨rfl, hr⟩; have T3 := Lib.hid (T2.out.mark hr); clear hr
  have K3 : Hid (w2.cell? ⟨g, off + 1, none⟩ = some (.string m) ∧ w2.cell? ⟨g, off + 3, none⟩ = some (.string t) ∧ w2.cell? ⟨g, off, none⟩ = some (.string a)) := ⟨T3.out.rd.words 1 m rfl, T3.out.rd.words 3 t rfl, T3.out.rd.words 0 a rfl⟩
  refine hK.out _ _ K3.out (fun hHeld => ?_)
  clear hK K
  try simp only [Act.put]
  refine wpAnyH_done (by kernel_rfl) ?_ _
  refine NoPanic.normal ?_
  go_simp
  obtain ⟨tyq, cs, hB, hi, hat⟩ := T3.out.rd.tabs.turns_any
  have HB := Lib.hid hB
  have HX := Lib.hid hi
  have HA := Lib.hid hat
  clear hB hi hat K2 K3 T1 T2 bm bt
  go_wp2_with (refine wpList_load_row rfl turnsT _ rfl 6 rfl tyq cs (0, 0) _ HB.out Tryz.underlying127 rfl HX.out ?_)
  clear HB HX
  go_loopw [31] (fun i wr => ∃ k : Nat, i = .int .i64 (k : Int) ∧ k ≤ 3 ∧ TX w0 w wr y ((b || !rs.isSome) || !false) g off [a, m, c, t] w.heap.size (inC 0 0 0 0 0) ∧ turnF c rv (turnL.drop k) = turnF c rv turnL) (fun i _ => 3 - (Lib.intOf i).toNat)
  case atStart => exact ⟨0, rfl, by decide, T3.out, rfl⟩
  case round =>
   obtain ⟨k, rfl, hk, hR, hD⟩ := hrel
   have HR := Lib.hid hR
   have HD := Lib.hid hD
   have HK := Lib.hid hk
   clear hR hD hk T3 T0
   by_cases h7 : k < 3
   ·obtain ⟨nm, op, e1, e2, e3⟩ := HA.out k h7
    have HS := Lib.hid e2
    have i1 : (k : Int) < 3 := by omega
    have HW := Lib.hid h7
    have HD2 : Hid ((turnC c nm op rv [16, 32, 64]).or (turnF c rv (turnL.drop (k + 1))) = turnF c rv turnL) := by
     have := HD.out
     rwa [drop_at e1] at this
    clear h7 e1 e2 HD
    have HN : Hid (∀ o', TX w0 w (wr.alloc o') y ((b || !rs.isSome) || !false) g off [a, m, c, t] w.heap.size (inC 0 0 0 0 0)) := fun o' => HR.out.on (below_alloc _ _)
    go_upto_region 6 with fail
    have H2 := Lib.hid (HN.out (.cells #[.string nm, .int .i64 op] 126))
    have HT2 : Hid (Blk (wr.alloc (.cells #[.string nm, .int .i64 op] 126)) wr.heap.size 126 #[.string nm, .int .i64 op]) := Blk.new _ _ _
    obtain ⟨tyq, ts, hB, hi, hat⟩ := H2.out.rd.tabs.turnBits_any
    have HB := Lib.hid hB
    have HX := Lib.hid hi
    have HAB := Lib.hid hat
    clear hB hi hat HR HN
    go_wp2_with (refine wpList_load_row rfl turnBitsT _ rfl 7 rfl tyq ts (0, 0) _ HB.out Tryz.underlying128 rfl HX.out ?_)
    clear HB HX
    obtain ⟨wo, hwo⟩ : ∃ x, x = wr := ⟨_, rfl⟩
    subst hwo
    obtain ⟨tz, htz⟩ : ∃ tz, wo.heap.size = tz := ⟨_, rfl⟩
    rw [htz] at HT2 ⊢
    generalize hwq : wo.alloc (.cells #[.string nm, .int .i64 op] 126) = wq at *
    clear hwq htz
    go_loopw [35] (fun i w2 => ∃ j : Nat, i = .int .i64 (j : Int) ∧ j ≤ 3 ∧ TX w0 w w2 y ((b || !rs.isSome) || !false) g off [a, m, c, t] w.heap.size (inC 0 0 0 0 0) ∧ Blk w2 tz 126 #[.string nm, .int .i64 op] ∧ turnC c nm op rv ([16, 32, 64].drop j) = turnC c nm op rv [16, 32, 64]) (fun i _ => 3 - (Lib.intOf i).toNat)
    case atStart => exact ⟨0, rfl, by decide, H2.out, HT2.out, rfl⟩
    case round =>
     obtain ⟨jj, rfl, hj, hX, hT, hE⟩ := hrel
     have HE := Lib.hid hE
     have HJ := Lib.hid hj
     have HX := Lib.hid hX
     have HT := Lib.hid hT
     clear hE hj hX hT H2 HT2
     by_cases h8 : jj < 3
     ·obtain ⟨bn, b1, b2⟩ := HAB.out jj h8
      have i2 : (jj : Int) < 3 := by omega
      have HW2 := Lib.hid h8
      have HE2 : Hid (turnC c nm op rv (bn :: [16, 32, 64].drop (jj + 1)) = turnC c nm op rv [16, 32, 64]) := by
       have := HE.out
       rwa [drop_at b1] at this
      have HBN : Hid (0 ≤ bn ∧ bn ≤ 64) := by
       show 0 ≤ bn ∧ bn ≤ 64
       have := List.mem_of_getElem? b1
       simp only [List.mem_cons, List.not_mem_nil, or_false] at this
       omega
      clear h8 b1 HE
      have hdz := dec_size bn (by have := HBN.out; omega) (by have := HBN.out; omega)
      have b4 : ¬ 9223372036854775807 < nm.size + (dec bn).size := by have := HS.out; omega
      have CI := Lib.hid (fun w (hw : Tabs w) => itoa_any bn (by have := HBN.out; omega) (by have := HBN.out; omega) w hw.pow)
      clear hdz
      by_cases hc : sameT c (nm ++ dec bn) = true
      ·have bq : (c.toList == (nm ++ dec bn).toList) = true := (same_beq _ _).trans hc
       have HP : Hid (turnF c rv turnL = some ⟨op, rv, 0, 0, bn⟩) := by
        rw [← HD2.out, ← HE2.out, turnC, if_pos hc]
        exact rfl
       clear hc HE2 HD2
       generalize dec bn = dm at *
       go_upto_region 9 with fail
       have J0 := Lib.hid (HX.out.on (below_drew _))
       have K0 := Lib.hid (blk_on HT.out (below_drew _))
       have L0 : Hid (wr.drew.cell? ⟨g, off + 2, none⟩ = some (.string c) ∧ wr.drew.cell? ⟨tz, 0, none⟩ = some (.string nm)) := ⟨J0.out.rd.words 2 c rfl, K0.out.cell 0⟩
       go_region_held3 (fun W => W.cell? ⟨g, off + 2, none⟩ = some (.string c) ∧ W.cell? ⟨tz, 0, none⟩ = some (.string nm))
        (first | with_reducible exact L0.out | with_reducible exact L1.out)
        (first | (go_at_call 86; refine (CI.out _ J0.out.rd.tabs).mono ?_; rintro e w2 ⟨rfl, hb⟩; have J1 := Lib.hid (J0.out.on hb); have K1 := Lib.hid (blk_on K0.out hb); clear hb; have L1 : Hid (w2.cell? ⟨g, off + 2, none⟩ = some (.string c) ∧ w2.cell? ⟨tz, 0, none⟩ = some (.string nm)) := ⟨J1.out.rd.words 2 c rfl, K1.out.cell 0⟩))
       have t1 := K1.out.cell 1
       have r0 := J1.out.slot.cell 0; have r1 := J1.out.slot.cell 1; have r2 := J1.out.slot.cell 2; have r3 := J1.out.slot.cell 3; have r4 := J1.out.slot.cell 4; have s0 := J1.out.slot.frozen 0; have s1 := J1.out.slot.frozen 1; have s2 := J1.out.slot.frozen 2; have s3 := J1.out.slot.frozen 3; have s4 := J1.out.slot.frozen 4
       go_wp2_with fail
       have H9 := Lib.hid (J1.out.all (.int .i64 op) (.int .i64 rv) (.int .i64 0) (.int .i64 0) (.int .i64 bn))
       refine bodyPost_ret (results_cell_row rfl _ _ w.heap.size inT _ (0, 0) _ rfl H9.out.2 Tryz.underlying38 rfl (by kernel_rfl)) rfl ?_
       rw [HG.out]
       exact gives_two (x := ⟨op, rv, 0, 0, bn⟩) rfl HV.out (by rw [HP.out]; simpa using H9.out.1) (fun z hz => by rw [HP.out] at hz; cases hz; rfl)
      ·have bq : (c.toList == (nm ++ dec bn).toList) = false := (same_beq _ _).trans (by simpa using hc)
       have HE3 : Hid (turnC c nm op rv ([16, 32, 64].drop (jj + 1)) = turnC c nm op rv [16, 32, 64]) := by
        rw [← HE2.out, turnC, if_neg hc]
        exact rfl
       clear HE2 hc
       generalize dec bn = dm at *
       go_upto_region 9 with fail
       have J0 := Lib.hid (HX.out.on (below_drew _))
       have K0 := Lib.hid (blk_on HT.out (below_drew _))
       have L0 : Hid (wr.drew.cell? ⟨g, off + 2, none⟩ = some (.string c) ∧ wr.drew.cell? ⟨tz, 0, none⟩ = some (.string nm)) := ⟨J0.out.rd.words 2 c rfl, K0.out.cell 0⟩
       go_region_held3 (fun W => W.cell? ⟨g, off + 2, none⟩ = some (.string c) ∧ W.cell? ⟨tz, 0, none⟩ = some (.string nm))
        (first | with_reducible exact L0.out | with_reducible exact L1.out)
        (first | (go_at_call 86; refine (CI.out _ J0.out.rd.tabs).mono ?_; rintro e w2 ⟨rfl, hb⟩; have J1 := Lib.hid (J0.out.on hb); have K1 := Lib.hid (blk_on K0.out hb); clear hb; have L1 : Hid (w2.cell? ⟨g, off + 2, none⟩ = some (.string c) ∧ w2.cell? ⟨tz, 0, none⟩ = some (.string nm)) := ⟨J1.out.rd.words 2 c rfl, K1.out.cell 0⟩))
       go_wp2_with fail
       go_roundw
       case rel => exact ⟨jj + 1, rfl, HW2.out, J1.out, K1.out, HE3.out⟩
       case measure =>
        have := HW2.out
        simp only [Lib.intOf]
        omega
     ·have hj3 : jj = 3 := by have := HJ.out; omega
      subst hj3
      have HD3 : Hid (turnF c rv (turnL.drop (k + 1)) = turnF c rv turnL) := by
       have h1 := HD2.out
       rw [← HE.out] at h1
       exact h1
      clear h8 HE HJ HD2
      go_wp2_with fail
      go_roundw
      case rel => exact ⟨k + 1, rfl, HW.out, HX.out, HD3.out⟩
      case measure =>
       have := HW.out
       simp only [Lib.intOf]
       omega
   ·have hk7 : k = 3 := by have := HK.out; omega
    subst hk7
    have HF : Hid (turnF c rv turnL = none) := by
     rw [← HD.out]
     exact rfl
    have r0 := HR.out.slot.cell 0; have r1 := HR.out.slot.cell 1; have r2 := HR.out.slot.cell 2; have r3 := HR.out.slot.cell 3; have r4 := HR.out.slot.cell 4; have s0 := HR.out.slot.frozen 0; have s1 := HR.out.slot.frozen 1; have s2 := HR.out.slot.frozen 2; have s3 := HR.out.slot.frozen 3; have s4 := HR.out.slot.frozen 4
    have y0 := HR.out.rd.blk.cell 0; have y1 := HR.out.rd.blk.frozen 0
    have neyw : ¬ y = w.heap.size := fun e => by have := HR.out.hy; omega
    have newy : ¬ w.heap.size = y := fun e => by have := HR.out.hy; omega
    clear h7 HD HK
    go_wp2_with fail
    have H9 := Lib.hid (HR.out.wrong.all (.int .i64 0) (.int .i64 0) (.int .i64 0) (.int .i64 0) (.int .i64 0))
    refine bodyPost_ret (results_cell_row rfl _ _ w.heap.size inT _ (0, 0) _ rfl H9.out.2 Tryz.underlying38 rfl (by kernel_rfl)) rfl ?_
    rw [HG.out]
    exact gives_two (x := ⟨0, 0, 0, 0, 0⟩) rfl HV.out (by rw [HF.out]; simpa using H9.out.1) (fun z hz => by rw [HF.out] at hz; cases hz)
 ·go_enter Tryz.func59, Tryz.ntmps59
  go_upto_region 2 with (go_at_call 50; refine (CR.out _ _ T0.out.rd.blk).mono ?_; rintro e w1 ⟨rfl, hr⟩; have T1 := Lib.hid (T0.out.mark hr); clear hr)
  have T2 := Lib.hid (T1.out.on (below_drew w1))
  have K2 : Hid (w1.drew.cell? ⟨g, off + 1, none⟩ = some (.string m) ∧ w1.drew.cell? ⟨g, off + 3, none⟩ = some (.string t) ∧ w1.drew.cell? ⟨g, off, none⟩ = some (.string a)) := ⟨T2.out.rd.words 1 m rfl, T2.out.rd.words 3 t rfl, T2.out.rd.words 0 a rfl⟩
  clear a0
  go_region_held3 (fun W' => W'.cell? ⟨g, off + 1, none⟩ = some (.string m) ∧ W'.cell? ⟨g, off + 3, none⟩ = some (.string t) ∧ W'.cell? ⟨g, off, none⟩ = some (.string a))
   (first | with_reducible exact K2.out | with_reducible exact K3.out)
   (first | (go_at_call 52; refine (CW.out _ _ _ T2.out.rd.blk).mono ?_; rintro e' w2 ⟨rfl, hr⟩; have T3 := Lib.hid (T2.out.mark hr); clear hr; have K3 : Hid (w2.cell? ⟨g, off + 1, none⟩ = some (.string m) ∧ w2.cell? ⟨g, off + 3, none⟩ = some (.string t) ∧ w2.cell? ⟨g, off, none⟩ = some (.string a)) := ⟨T3.out.rd.words 1 m rfl, T3.out.rd.words 3 t rfl, T3.out.rd.words 0 a rfl⟩))
  obtain ⟨tyq, cs, hB, hi, hat⟩ := T3.out.rd.tabs.turns_any
  have HB := Lib.hid hB
  have HX := Lib.hid hi
  have HA := Lib.hid hat
  clear hB hi hat K2 K3 T1 T2 bm bt
  go_wp2_with (refine wpList_load_row rfl turnsT _ rfl 6 rfl tyq cs (0, 0) _ HB.out Tryz.underlying127 rfl HX.out ?_)
  clear HB HX
  go_loopw [31] (fun i wr => ∃ k : Nat, i = .int .i64 (k : Int) ∧ k ≤ 3 ∧ TX w0 w wr y ((b || !rs.isSome) || !q2) g off [a, m, c, t] w.heap.size (inC 0 0 0 0 0) ∧ turnF c rv (turnL.drop k) = turnF c rv turnL) (fun i _ => 3 - (Lib.intOf i).toNat)
  case atStart => exact ⟨0, rfl, by decide, T3.out, rfl⟩
  case round =>
   obtain ⟨k, rfl, hk, hR, hD⟩ := hrel
   have HR := Lib.hid hR
   have HD := Lib.hid hD
   have HK := Lib.hid hk
   clear hR hD hk T3 T0
   by_cases h7 : k < 3
   ·obtain ⟨nm, op, e1, e2, e3⟩ := HA.out k h7
    have HS := Lib.hid e2
    have i1 : (k : Int) < 3 := by omega
    have HW := Lib.hid h7
    have HD2 : Hid ((turnC c nm op rv [16, 32, 64]).or (turnF c rv (turnL.drop (k + 1))) = turnF c rv turnL) := by
     have := HD.out
     rwa [drop_at e1] at this
    clear h7 e1 e2 HD
    have HN : Hid (∀ o', TX w0 w (wr.alloc o') y ((b || !rs.isSome) || !q2) g off [a, m, c, t] w.heap.size (inC 0 0 0 0 0)) := fun o' => HR.out.on (below_alloc _ _)
    go_upto_region 6 with fail
    have H2 := Lib.hid (HN.out (.cells #[.string nm, .int .i64 op] 126))
    have HT2 : Hid (Blk (wr.alloc (.cells #[.string nm, .int .i64 op] 126)) wr.heap.size 126 #[.string nm, .int .i64 op]) := Blk.new _ _ _
    obtain ⟨tyq, ts, hB, hi, hat⟩ := H2.out.rd.tabs.turnBits_any
    have HB := Lib.hid hB
    have HX := Lib.hid hi
    have HAB := Lib.hid hat
    clear hB hi hat HR HN
    go_wp2_with (refine wpList_load_row rfl turnBitsT _ rfl 7 rfl tyq ts (0, 0) _ HB.out Tryz.underlying128 rfl HX.out ?_)
    clear HB HX
    obtain ⟨wo, hwo⟩ : ∃ x, x = wr := ⟨_, rfl⟩
    subst hwo
    obtain ⟨tz, htz⟩ : ∃ tz, wo.heap.size = tz := ⟨_, rfl⟩
    rw [htz] at HT2 ⊢
    generalize hwq : wo.alloc (.cells #[.string nm, .int .i64 op] 126) = wq at *
    clear hwq htz
    go_loopw [35] (fun i w2 => ∃ j : Nat, i = .int .i64 (j : Int) ∧ j ≤ 3 ∧ TX w0 w w2 y ((b || !rs.isSome) || !q2) g off [a, m, c, t] w.heap.size (inC 0 0 0 0 0) ∧ Blk w2 tz 126 #[.string nm, .int .i64 op] ∧ turnC c nm op rv ([16, 32, 64].drop j) = turnC c nm op rv [16, 32, 64]) (fun i _ => 3 - (Lib.intOf i).toNat)
    case atStart => exact ⟨0, rfl, by decide, H2.out, HT2.out, rfl⟩
    case round =>
     obtain ⟨jj, rfl, hj, hX, hT, hE⟩ := hrel
     have HE := Lib.hid hE
     have HJ := Lib.hid hj
     have HX := Lib.hid hX
     have HT := Lib.hid hT
     clear hE hj hX hT H2 HT2
     by_cases h8 : jj < 3
     ·obtain ⟨bn, b1, b2⟩ := HAB.out jj h8
      have i2 : (jj : Int) < 3 := by omega
      have HW2 := Lib.hid h8
      have HE2 : Hid (turnC c nm op rv (bn :: [16, 32, 64].drop (jj + 1)) = turnC c nm op rv [16, 32, 64]) := by
       have := HE.out
       rwa [drop_at b1] at this
      have HBN : Hid (0 ≤ bn ∧ bn ≤ 64) := by
       show 0 ≤ bn ∧ bn ≤ 64
       have := List.mem_of_getElem? b1
       simp only [List.mem_cons, List.not_mem_nil, or_false] at this
       omega
      clear h8 b1 HE
      have hdz := dec_size bn (by have := HBN.out; omega) (by have := HBN.out; omega)
      have b4 : ¬ 9223372036854775807 < nm.size + (dec bn).size := by have := HS.out; omega
      have CI := Lib.hid (fun w (hw : Tabs w) => itoa_any bn (by have := HBN.out; omega) (by have := HBN.out; omega) w hw.pow)
      clear hdz
      by_cases hc : sameT c (nm ++ dec bn) = true
      ·have bq : (c.toList == (nm ++ dec bn).toList) = true := (same_beq _ _).trans hc
       have HP : Hid (turnF c rv turnL = some ⟨op, rv, 0, 0, bn⟩) := by
        rw [← HD2.out, ← HE2.out, turnC, if_pos hc]
        exact rfl
       clear hc HE2 HD2
       generalize dec bn = dm at *
       go_upto_region 9 with fail
       have J0 := Lib.hid (HX.out.on (below_drew _))
       have K0 := Lib.hid (blk_on HT.out (below_drew _))
       have L0 : Hid (wr.drew.cell? ⟨g, off + 2, none⟩ = some (.string c) ∧ wr.drew.cell? ⟨tz, 0, none⟩ = some (.string nm)) := ⟨J0.out.rd.words 2 c rfl, K0.out.cell 0⟩
       go_region_held3 (fun W => W.cell? ⟨g, off + 2, none⟩ = some (.string c) ∧ W.cell? ⟨tz, 0, none⟩ = some (.string nm))
        (first | with_reducible exact L0.out | with_reducible exact L1.out)
        (first | (go_at_call 86; refine (CI.out _ J0.out.rd.tabs).mono ?_; rintro e w2 ⟨rfl, hb⟩; have J1 := Lib.hid (J0.out.on hb); have K1 := Lib.hid (blk_on K0.out hb); clear hb; have L1 : Hid (w2.cell? ⟨g, off + 2, none⟩ = some (.string c) ∧ w2.cell? ⟨tz, 0, none⟩ = some (.string nm)) := ⟨J1.out.rd.words 2 c rfl, K1.out.cell 0⟩))
       have t1 := K1.out.cell 1
       have r0 := J1.out.slot.cell 0; have r1 := J1.out.slot.cell 1; have r2 := J1.out.slot.cell 2; have r3 := J1.out.slot.cell 3; have r4 := J1.out.slot.cell 4; have s0 := J1.out.slot.frozen 0; have s1 := J1.out.slot.frozen 1; have s2 := J1.out.slot.frozen 2; have s3 := J1.out.slot.frozen 3; have s4 := J1.out.slot.frozen 4
       go_wp2_with fail
       have H9 := Lib.hid (J1.out.all (.int .i64 op) (.int .i64 rv) (.int .i64 0) (.int .i64 0) (.int .i64 bn))
       refine bodyPost_ret (results_cell_row rfl _ _ w.heap.size inT _ (0, 0) _ rfl H9.out.2 Tryz.underlying38 rfl (by kernel_rfl)) rfl ?_
       rw [HG.out]
       exact gives_two (x := ⟨op, rv, 0, 0, bn⟩) rfl HV.out (by rw [HP.out]; simpa using H9.out.1) (fun z hz => by rw [HP.out] at hz; cases hz; rfl)
      ·have bq : (c.toList == (nm ++ dec bn).toList) = false := (same_beq _ _).trans (by simpa using hc)
       have HE3 : Hid (turnC c nm op rv ([16, 32, 64].drop (jj + 1)) = turnC c nm op rv [16, 32, 64]) := by
        rw [← HE2.out, turnC, if_neg hc]
        exact rfl
       clear HE2 hc
       generalize dec bn = dm at *
       go_upto_region 9 with fail
       have J0 := Lib.hid (HX.out.on (below_drew _))
       have K0 := Lib.hid (blk_on HT.out (below_drew _))
       have L0 : Hid (wr.drew.cell? ⟨g, off + 2, none⟩ = some (.string c) ∧ wr.drew.cell? ⟨tz, 0, none⟩ = some (.string nm)) := ⟨J0.out.rd.words 2 c rfl, K0.out.cell 0⟩
       go_region_held3 (fun W => W.cell? ⟨g, off + 2, none⟩ = some (.string c) ∧ W.cell? ⟨tz, 0, none⟩ = some (.string nm))
        (first | with_reducible exact L0.out | with_reducible exact L1.out)
        (first | (go_at_call 86; refine (CI.out _ J0.out.rd.tabs).mono ?_; rintro e w2 ⟨rfl, hb⟩; have J1 := Lib.hid (J0.out.on hb); have K1 := Lib.hid (blk_on K0.out hb); clear hb; have L1 : Hid (w2.cell? ⟨g, off + 2, none⟩ = some (.string c) ∧ w2.cell? ⟨tz, 0, none⟩ = some (.string nm)) := ⟨J1.out.rd.words 2 c rfl, K1.out.cell 0⟩))
       go_wp2_with fail
       go_roundw
       case rel => exact ⟨jj + 1, rfl, HW2.out, J1.out, K1.out, HE3.out⟩
       case measure =>
        have := HW2.out
        simp only [Lib.intOf]
        omega
     ·have hj3 : jj = 3 := by have := HJ.out; omega
      subst hj3
      have HD3 : Hid (turnF c rv (turnL.drop (k + 1)) = turnF c rv turnL) := by
       have h1 := HD2.out
       rw [← HE.out] at h1
       exact h1
      clear h8 HE HJ HD2
      go_wp2_with fail
      go_roundw
      case rel => exact ⟨k + 1, rfl, HW.out, HX.out, HD3.out⟩
      case measure =>
       have := HW.out
       simp only [Lib.intOf]
       omega
   ·have hk7 : k = 3 := by have := HK.out; omega
    subst hk7
    have HF : Hid (turnF c rv turnL = none) := by
     rw [← HD.out]
     exact rfl
    have r0 := HR.out.slot.cell 0; have r1 := HR.out.slot.cell 1; have r2 := HR.out.slot.cell 2; have r3 := HR.out.slot.cell 3; have r4 := HR.out.slot.cell 4; have s0 := HR.out.slot.frozen 0; have s1 := HR.out.slot.frozen 1; have s2 := HR.out.slot.frozen 2; have s3 := HR.out.slot.frozen 3; have s4 := HR.out.slot.frozen 4
    have y0 := HR.out.rd.blk.cell 0; have y1 := HR.out.rd.blk.frozen 0
    have neyw : ¬ y = w.heap.size := fun e => by have := HR.out.hy; omega
    have newy : ¬ w.heap.size = y := fun e => by have := HR.out.hy; omega
    clear h7 HD HK
    go_wp2_with fail
    have H9 := Lib.hid (HR.out.wrong.all (.int .i64 0) (.int .i64 0) (.int .i64 0) (.int .i64 0) (.int .i64 0))
    refine bodyPost_ret (results_cell_row rfl _ _ w.heap.size inT _ (0, 0) _ rfl H9.out.2 Tryz.underlying38 rfl (by kernel_rfl)) rfl ?_
    rw [HG.out]
    exact gives_two (x := ⟨0, 0, 0, 0, 0⟩) rfl HV.out (by rw [HF.out]; simpa using H9.out.1) (fun z hz => by rw [HF.out] at hz; cases hz)
end Go.Proofs.YtemiklbkfogjeaaGreatDoor
