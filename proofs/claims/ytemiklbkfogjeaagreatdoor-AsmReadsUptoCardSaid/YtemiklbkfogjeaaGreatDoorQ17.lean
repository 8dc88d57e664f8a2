/-
  Package asm, reading: wide. Package asm, reading: a line of one slot.
-/
import Derived.Test.YtemiklbkfogjeaaGreatDoorQ16
import Derived.Test.YtemiklbkfogjeaaGreatDoorQ08
namespace Go.Proofs.YtemiklbkfogjeaaGreatDoor
open Go Go.RowKit Go.Maps
set_option linter.unusedVariables false
set_option linter.unusedSimpArgs false
set_option maxRecDepth 100000
abbrev pairT : TypeId := 66
abbrev pairX (o d s f m o' d' s' f' m' : Int) : Array Value := #[.int .i64 o, .int .i64 d, .int .i64 s, .int .i64 f, .int .i64 m, .int .i64 o', .int .i64 d', .int .i64 s', .int .i64 f', .int .i64 m']
abbrev pairC (x y : Slot) : Array Value := #[.int .i64 x.o, .int .i64 x.d, .int .i64 x.s, .int .i64 x.f, .int .i64 x.m, .int .i64 y.o, .int .i64 y.d, .int .i64 y.s, .int .i64 y.f, .int .i64 y.m]
def slot0 : Slot := ⟨0, 0, 0, 0, 0⟩
def wide4 (a m x : ByteArray) : Option (Slot × Slot) := if sameT m eqT = true then (regS a wholeT).bind fun d : Nat => (digN 18446744073709551615 x).map fun n : Nat => ((⟨24, (d : Int), 0, 0, wrap32 (n : Int)⟩ : Slot), (⟨0, 0, 0, 0, wrap32 ((n : Int) / 4294967296)⟩ : Slot)) else none
def wide5 (a m p x : ByteArray) : Option (Slot × Slot) := if sameT m eqT = true then (regS a wholeT).bind fun d : Nat => if sameT p mapT = true then (immS x).map fun n => ((⟨24, (d : Int), 1, 0, n⟩ : Slot), slot0) else none else none
def GivesW (w : World) (y : Nat) (b : Bool) (S : Option (Slot × Slot)) (e : Ending) (w' : World) : Prop :=
 ∃ x x' : Slot, e = .returned (.agg (pairC x x')) ∧ RD w w' y (b || !S.isSome) ∧ ∀ z, S = some z → (x, x') = z
/-- As TX, with two slots. -/
structure TY (w0 w W : World) (y : Nat) (b : Bool) (g off : Nat) (L : List ByteArray) (z : Nat) (C : Array Value) : Prop where
 rd : Rd w0 W y b g off L
 r : RD w W y b
 slot : Blk W z pairT C
 hz : w.heap.size ≤ z
 hy : y < w.heap.size
 wle : w0.heap.size ≤ w.heap.size
section
variable {w0 w W W' : World} {y g off z : Nat} {b b' : Bool} {L : List ByteArray} {C : Array Value}
theorem TY.on (h : TY w0 w W y b g off L z C) (hb : Below W.heap.size W W') : TY w0 w W' y b g off L z C := ⟨h.rd.on hb, h.r.on hb, blk_on h.slot hb, h.hz, h.hy, h.wle⟩
theorem TY.mark (h : TY w0 w W y b g off L z C) (hr : RD W W' y b') : TY w0 w W' y b' g off L z C :=
 ⟨h.rd.mark hr, h.r.then hr, h.slot.keeps hr.keeps (fun e => by have : z = y := e; have := h.hz; have := h.hy; omega), h.hz, h.hy, h.wle⟩
theorem TY.wrong (h : TY w0 w W y b g off L z C) : TY w0 w (W.setCell ⟨y, 0, none⟩ (.bool true)) y true g off L z C := h.mark (RD.start h.rd.blk).wrong
theorem TY.start {w0 w : World} (h : Rd w0 w y b g off L) : TY w0 w (w.alloc (.cells (pairX 0 0 0 0 0 0 0 0 0 0) pairT)) y b g off L w.heap.size (pairX 0 0 0 0 0 0 0 0 0 0) :=
 ⟨h.on (below_alloc w _), (RD.start h.blk).on (below_alloc w _), Blk.new w _ _, Nat.le_refl _, h.blk.lt, h.below.size⟩
/-- A block of this call's own is written: the words and the mark lie. -/
theorem TY.other (h : TY w0 w W y b g off L z C) {q : Nat} (hq : w.heap.size ≤ q) (hzq : q ≠ z) (hgq : g ≠ q) (i : Nat) (v : Value) : TY w0 w (W.setCell ⟨q, i, none⟩ v) y b g off L z C := by
 have hyq : y ≠ q := by have := h.hy; omega
 have hk : Keeps (fun k => k = q) W (W.setCell ⟨q, i, none⟩ v) := (Keeps.refl (fun k : Nat => k = q) W).setCell (p := ⟨q, i, none⟩) (.inl rfl) v
 refine ⟨h.rd.keeps hk (fun k e => ?_) (h.rd.blk.keeps hk hyq), ⟨h.r.blk.keeps hk hyq, h.r.keeps.setCell (p := ⟨q, i, none⟩) (.inr hq) v⟩, h.slot.keeps hk (fun e => hzq e.symm), h.hz, h.hy, h.wle⟩
 subst e
 exact ⟨Nat.le_trans h.wle hq, fun e => hgq e.symm⟩
theorem TY.all {r0 r1 r2 r3 r4 r5 r6 r7 r8 r9 : Value} (h : TY w0 w W y b g off L z #[r0, r1, r2, r3, r4, r5, r6, r7, r8, r9]) (a0 a1 a2 a3 a4 a5 a6 a7 a8 a9 : Value) :
  RD w ((((((((((W.setCell ⟨z, 0, none⟩ a0).setCell ⟨z, 1, none⟩ a1).setCell ⟨z, 2, none⟩ a2).setCell ⟨z, 3, none⟩ a3).setCell ⟨z, 4, none⟩ a4).setCell ⟨z, 5, none⟩ a5).setCell ⟨z, 6, none⟩ a6).setCell ⟨z, 7, none⟩ a7).setCell ⟨z, 8, none⟩ a8).setCell ⟨z, 9, none⟩ a9) y b ∧ Blk ((((((((((W.setCell ⟨z, 0, none⟩ a0).setCell ⟨z, 1, none⟩ a1).setCell ⟨z, 2, none⟩ a2).setCell ⟨z, 3, none⟩ a3).setCell ⟨z, 4, none⟩ a4).setCell ⟨z, 5, none⟩ a5).setCell ⟨z, 6, none⟩ a6).setCell ⟨z, 7, none⟩ a7).setCell ⟨z, 8, none⟩ a8).setCell ⟨z, 9, none⟩ a9) z pairT #[a0, a1, a2, a3, a4, a5, a6, a7, a8, a9] := by
 have hzy : z ≠ y := by have := h.hz; have := h.hy; omega
 have hk : Keeps (fun k => k = z) W ((((((((((W.setCell ⟨z, 0, none⟩ a0).setCell ⟨z, 1, none⟩ a1).setCell ⟨z, 2, none⟩ a2).setCell ⟨z, 3, none⟩ a3).setCell ⟨z, 4, none⟩ a4).setCell ⟨z, 5, none⟩ a5).setCell ⟨z, 6, none⟩ a6).setCell ⟨z, 7, none⟩ a7).setCell ⟨z, 8, none⟩ a8).setCell ⟨z, 9, none⟩ a9) := (((((((((((Keeps.refl (fun k : Nat => k = z) W).setCell (p := ⟨z, 0, none⟩) (.inl rfl) a0).setCell (p := ⟨z, 1, none⟩) (.inl rfl) a1).setCell (p := ⟨z, 2, none⟩) (.inl rfl) a2).setCell (p := ⟨z, 3, none⟩) (.inl rfl) a3).setCell (p := ⟨z, 4, none⟩) (.inl rfl) a4).setCell (p := ⟨z, 5, none⟩) (.inl rfl) a5).setCell (p := ⟨z, 6, none⟩) (.inl rfl) a6).setCell (p := ⟨z, 7, none⟩) (.inl rfl) a7).setCell (p := ⟨z, 8, none⟩) (.inl rfl) a8).setCell (p := ⟨z, 9, none⟩) (.inl rfl) a9)
 refine ⟨⟨h.rd.blk.keeps hk (fun e => hzy e.symm), ?_⟩, ?_⟩
 ·exact h.r.keeps.trans (hk.mono fun k e => by subst e; exact .inr ⟨h.hz, h.slot.lt⟩)
 ·have h1 : Blk _ z pairT #[a0, r1, r2, r3, r4, r5, r6, r7, r8, r9] := h.slot.set_ 0 a0
  have h2 : Blk _ z pairT #[a0, a1, r2, r3, r4, r5, r6, r7, r8, r9] := h1.set_ 1 a1
  have h3 : Blk _ z pairT #[a0, a1, a2, r3, r4, r5, r6, r7, r8, r9] := h2.set_ 2 a2
  have h4 : Blk _ z pairT #[a0, a1, a2, a3, r4, r5, r6, r7, r8, r9] := h3.set_ 3 a3
  have h5 : Blk _ z pairT #[a0, a1, a2, a3, a4, r5, r6, r7, r8, r9] := h4.set_ 4 a4
  have h6 : Blk _ z pairT #[a0, a1, a2, a3, a4, a5, r6, r7, r8, r9] := h5.set_ 5 a5
  have h7 : Blk _ z pairT #[a0, a1, a2, a3, a4, a5, a6, r7, r8, r9] := h6.set_ 6 a6
  have h8 : Blk _ z pairT #[a0, a1, a2, a3, a4, a5, a6, a7, r8, r9] := h7.set_ 7 a7
  have h9 : Blk _ z pairT #[a0, a1, a2, a3, a4, a5, a6, a7, a8, r9] := h8.set_ 8 a8
  exact h9.set_ 9 a9
end
set_option maxHeartbeats 8000000 in
/-- A line that ends with ll and has too few words or too many, or no = where one should stand. -/
theorem wide_no {w0 w : World} {y g off : Nat} {b : Bool} {L : List ByteArray} (h : Rd w0 w y b g off L) (n cc : Nat) (hn : n < 4 ∨ 5 < n ∨ ((n = 4 ∨ n = 5) ∧ ∃ m, L[1]? = some m ∧ sameT m eqT = false)) :
  Calls Tryz.prog 24 #[rp y, .slice (some ⟨g, off, none⟩) n cc] w (GivesW w y b none) := by
 have T0 := Lib.hid (TY.start h)
 rcases hn with hn | hn | ⟨hn, m, hm, hs⟩
 ·have i1 : (n : Int) < 4 := by omega
  have b1 : decide ((n : Int) < 4) = true := decide_eq_true i1
  have b2 : decide (n < 4) = true := decide_eq_true hn
  clear h
  have y0 := T0.out.rd.blk.cell 0; have y1 := T0.out.rd.blk.frozen 0
  have r0 := T0.out.slot.cell 0; have s0 := T0.out.slot.frozen 0; have r1 := T0.out.slot.cell 1; have s1 := T0.out.slot.frozen 1; have r2 := T0.out.slot.cell 2; have s2 := T0.out.slot.frozen 2; have r3 := T0.out.slot.cell 3; have s3 := T0.out.slot.frozen 3; have r4 := T0.out.slot.cell 4; have s4 := T0.out.slot.frozen 4; have r5 := T0.out.slot.cell 5; have s5 := T0.out.slot.frozen 5; have r6 := T0.out.slot.cell 6; have s6 := T0.out.slot.frozen 6; have r7 := T0.out.slot.cell 7; have s7 := T0.out.slot.frozen 7; have r8 := T0.out.slot.cell 8; have s8 := T0.out.slot.frozen 8; have r9 := T0.out.slot.cell 9; have s9 := T0.out.slot.frozen 9
  have neyw : ¬ y = w.heap.size := fun e => by have := T0.out.hy; omega
  have newy : ¬ w.heap.size = y := fun e => by have := T0.out.hy; omega
  go_enter Tryz.func24, Tryz.ntmps24
  go_wp2_with fail
  have H9 := Lib.hid (T0.out.wrong.all (.int .i64 0) (.int .i64 0) (.int .i64 0) (.int .i64 0) (.int .i64 0) (.int .i64 0) (.int .i64 0) (.int .i64 0) (.int .i64 0) (.int .i64 0))
  exact bodyPost_ret (results_cell_row rfl _ _ w.heap.size pairT _ (0, 0) _ rfl H9.out.2 Tryz.underlying66 rfl (by kernel_rfl)) rfl ⟨slot0, slot0, rfl, by simpa using H9.out.1, fun z hz => by cases hz⟩
 ·have i1 : ¬ (n : Int) < 4 := by omega
  have b1 : decide ((n : Int) < 4) = false := decide_eq_false i1
  have b2 : decide (n < 4) = false := decide_eq_false (by omega)
  have i3 : (5 : Int) < n := by omega
  have b3 : decide ((5 : Int) < (n : Int)) = true := decide_eq_true i3
  have b4 : decide (5 < n) = true := decide_eq_true hn
  clear h
  have y0 := T0.out.rd.blk.cell 0; have y1 := T0.out.rd.blk.frozen 0
  have r0 := T0.out.slot.cell 0; have s0 := T0.out.slot.frozen 0; have r1 := T0.out.slot.cell 1; have s1 := T0.out.slot.frozen 1; have r2 := T0.out.slot.cell 2; have s2 := T0.out.slot.frozen 2; have r3 := T0.out.slot.cell 3; have s3 := T0.out.slot.frozen 3; have r4 := T0.out.slot.cell 4; have s4 := T0.out.slot.frozen 4; have r5 := T0.out.slot.cell 5; have s5 := T0.out.slot.frozen 5; have r6 := T0.out.slot.cell 6; have s6 := T0.out.slot.frozen 6; have r7 := T0.out.slot.cell 7; have s7 := T0.out.slot.frozen 7; have r8 := T0.out.slot.cell 8; have s8 := T0.out.slot.frozen 8; have r9 := T0.out.slot.cell 9; have s9 := T0.out.slot.frozen 9
  have neyw : ¬ y = w.heap.size := fun e => by have := T0.out.hy; omega
  have newy : ¬ w.heap.size = y := fun e => by have := T0.out.hy; omega
  go_enter Tryz.func24, Tryz.ntmps24
  go_wp2_with fail
  have H9 := Lib.hid (T0.out.wrong.all (.int .i64 0) (.int .i64 0) (.int .i64 0) (.int .i64 0) (.int .i64 0) (.int .i64 0) (.int .i64 0) (.int .i64 0) (.int .i64 0) (.int .i64 0))
  exact bodyPost_ret (results_cell_row rfl _ _ w.heap.size pairT _ (0, 0) _ rfl H9.out.2 Tryz.underlying66 rfl (by kernel_rfl)) rfl ⟨slot0, slot0, rfl, by simpa using H9.out.1, fun z hz => by cases hz⟩
 ·have d1 := T0.out.rd.words 1 m hm
  have bq : (m.toList == [61]) = false := (same_const m [61]).trans hs
  have bn : (m.toList != [61]) = true := by rw [bne, bq]; rfl
  clear h hm hs
  rcases hn with rfl | rfl
  all_goals
   have y0 := T0.out.rd.blk.cell 0; have y1 := T0.out.rd.blk.frozen 0
   have r0 := T0.out.slot.cell 0; have s0 := T0.out.slot.frozen 0; have r1 := T0.out.slot.cell 1; have s1 := T0.out.slot.frozen 1; have r2 := T0.out.slot.cell 2; have s2 := T0.out.slot.frozen 2; have r3 := T0.out.slot.cell 3; have s3 := T0.out.slot.frozen 3; have r4 := T0.out.slot.cell 4; have s4 := T0.out.slot.frozen 4; have r5 := T0.out.slot.cell 5; have s5 := T0.out.slot.frozen 5; have r6 := T0.out.slot.cell 6; have s6 := T0.out.slot.frozen 6; have r7 := T0.out.slot.cell 7; have s7 := T0.out.slot.frozen 7; have r8 := T0.out.slot.cell 8; have s8 := T0.out.slot.frozen 8; have r9 := T0.out.slot.cell 9; have s9 := T0.out.slot.frozen 9
   have neyw : ¬ y = w.heap.size := fun e => by have := T0.out.hy; omega
   have newy : ¬ w.heap.size = y := fun e => by have := T0.out.hy; omega
   go_enter Tryz.func24, Tryz.ntmps24
   go_wp2_with fail
   have H9 := Lib.hid (T0.out.wrong.all (.int .i64 0) (.int .i64 0) (.int .i64 0) (.int .i64 0) (.int .i64 0) (.int .i64 0) (.int .i64 0) (.int .i64 0) (.int .i64 0) (.int .i64 0))
   exact bodyPost_ret (results_cell_row rfl _ _ w.heap.size pairT _ (0, 0) _ rfl H9.out.2 Tryz.underlying66 rfl (by kernel_rfl)) rfl ⟨slot0, slot0, rfl, by simpa using H9.out.1, fun z hz => by cases hz⟩
set_option maxHeartbeats 16000000 in
theorem wide4_any {w0 w : World} {y g off : Nat} {b : Bool} (a m x l : ByteArray) (h : Rd w0 w y b g off [a, m, x, l]) (hs : sameT m eqT = true) (n cc : Nat) (hn : n = 4) :
  Calls Tryz.prog 24 #[rp y, .slice (some ⟨g, off, none⟩) n cc] w (GivesW w y b (wide4 a m x)) := by
 subst hn
 have T0 := Lib.hid (TY.start h)
 have d0 : (w.alloc (.cells (pairX 0 0 0 0 0 0 0 0 0 0) pairT)).cell? ⟨g, off, none⟩ = some (.string a) := T0.out.rd.words 0 a rfl
 have d1 := T0.out.rd.words 1 m rfl
 have bq : (m.toList == [61]) = true := (same_const m [61]).trans hs
 have bn : (m.toList != [61]) = false := by rw [bne, bq]; rfl
 have CW := Lib.hid (fun w' b' ok (hb : Blk w' y rdT #[.bool b']) => want_any hb ok)
 have CR := Lib.hid (fun w' b' (hb : Blk w' y rdT #[.bool b']) => register_any hb a wholeT (h.small a (by simp)) (by decide))
 have HV : Hid (∀ r, regS a wholeT = some r → regV a wholeT = r) := fun r => regS_val
 obtain ⟨v, hv1, hv2⟩ := digA_eq 18446744073709551615 x
 have CD0 := fun w => digits_any x 18446744073709551615 (by decide) (by decide) w
 rw [hv1] at CD0
 have CD := Lib.hid CD0
 have HD := Lib.hid hv2
 have hvle : v ≤ 18446744073709551615 := by
  have h1 := hv1
  unfold digA at h1
  injection h1 with h1
  injection h1 with h1
  simp only [Array.mk.injEq, List.cons.injEq, Value.int.injEq] at h1
  have h2 : ((digS 18446744073709551615 x).getD 0 : Nat) = v := by have := h1.1.2; omega
  have h3 := digS_le (most := 18446744073709551615) (m := 0) (s := x) (by decide)
  omega
 obtain ⟨x1, hx1⟩ : ∃ k, wrap32 (v : Int) = k := ⟨_, rfl⟩
 obtain ⟨x2, hx2⟩ : ∃ k, wrap32 ((v : Int) / 4294967296) = k := ⟨_, rfl⟩
 have CL := fun (d : Int) w => lay_any d (v : Int) (by omega) w
 unfold layV at CL
 rw [hx1, hx2] at CL
 have CL := Lib.hid CL
 have HG : Hid (wide4 a m x = (regS a wholeT).bind fun d : Nat => (digN 18446744073709551615 x).map fun n : Nat => ((⟨24, (d : Int), 0, 0, wrap32 (n : Int)⟩ : Slot), (⟨0, 0, 0, 0, wrap32 ((n : Int) / 4294967296)⟩ : Slot))) := if_pos hs
 have HX : Hid (∀ k, digN 18446744073709551615 x = some k → wrap32 (k : Int) = x1 ∧ wrap32 ((k : Int) / 4294967296) = x2) := fun k hk => by
  rw [hv2 k hk]
  exact ⟨hx1, hx2⟩
 clear h hs hv1 hv2 CD0 hvle hx1 hx2 HD
 generalize wide4 a m x = tR at *
 generalize digN 18446744073709551615 x = dn at *
 generalize regV a wholeT = rv at *
 generalize regS a wholeT = rs at *
 go_enter Tryz.func24, Tryz.ntmps24
 go_upto_region 4 with fail
 clear d1 bq bn
 go_wp2_with (first
  | (go_at_call 50; refine (CR.out _ _ T0.out.rd.blk).mono ?_; rintro e w1 ⟨rfl, hr⟩; have T1 := Lib.hid (T0.out.mark hr); clear hr; have d2 : w1.cell? ⟨g, off + 2, none⟩ = some (.string x) := T1.out.rd.words 2 x rfl)
  | (go_at_call 51; refine (CD.out _).mono ?_; rintro e w2 ⟨rfl, pos, rfl⟩; have T2 : Hid (TY w0 w (w1.iter x pos) y _ g off _ _ _) := T1.out.on (below_alloc w1 _))
  | (go_at_call 52; refine (CW.out _ _ _ T2.out.rd.blk).mono ?_; rintro e' w3 ⟨rfl, hr⟩; have T3 := Lib.hid (T2.out.mark hr); clear hr)
  | (go_at_call 53; refine (CL.out _ _).mono ?_; rintro e w4 ⟨rfl, hb⟩; have T4 := Lib.hid (T3.out.on hb); clear hb; have r0 := T4.out.slot.cell 0; have s0 := T4.out.slot.frozen 0; have r1 := T4.out.slot.cell 1; have s1 := T4.out.slot.frozen 1; have r2 := T4.out.slot.cell 2; have s2 := T4.out.slot.frozen 2; have r3 := T4.out.slot.cell 3; have s3 := T4.out.slot.frozen 3; have r4 := T4.out.slot.cell 4; have s4 := T4.out.slot.frozen 4; have r5 := T4.out.slot.cell 5; have s5 := T4.out.slot.frozen 5; have r6 := T4.out.slot.cell 6; have s6 := T4.out.slot.frozen 6; have r7 := T4.out.slot.cell 7; have s7 := T4.out.slot.frozen 7; have r8 := T4.out.slot.cell 8; have s8 := T4.out.slot.frozen 8; have r9 := T4.out.slot.cell 9; have s9 := T4.out.slot.frozen 9))
 have H9 := Lib.hid (T4.out.all (.int .i64 24) (.int .i64 rv) (.int .i64 0) (.int .i64 0) (.int .i64 x1) (.int .i64 0) (.int .i64 0) (.int .i64 0) (.int .i64 0) (.int .i64 x2))
 refine bodyPost_ret (results_cell_row rfl _ _ w.heap.size pairT _ (0, 0) _ rfl H9.out.2 Tryz.underlying66 rfl (by kernel_rfl)) rfl ⟨⟨24, rv, 0, 0, x1⟩, ⟨0, 0, 0, 0, x2⟩, rfl, ?_, fun z hz => ?_⟩
 ·rw [HG.out]
  have h9 := H9.out.1
  cases b <;> cases rs <;> cases dn <;> simpa using h9
 ·rw [HG.out] at hz
  obtain ⟨r, hr, hz⟩ := Option.bind_eq_some_iff.1 hz
  obtain ⟨k, hk, rfl⟩ := Option.map_eq_some_iff.1 hz
  rw [HV.out r hr, (HX.out k hk).1, (HX.out k hk).2]
set_option maxHeartbeats 2000000 in
theorem wide5_any {w0 w : World} {y g off : Nat} {b : Bool} (a m p x l : ByteArray) (h : Rd w0 w y b g off [a, m, p, x, l]) (hs : sameT m eqT = true) (n cc : Nat) (hn : n = 5) :
  Calls Tryz.prog 24 #[rp y, .slice (some ⟨g, off, none⟩) n cc] w (GivesW w y b (wide5 a m p x)) := by
 subst hn
 have T0 := Lib.hid (TY.start h)
 have d0 : (w.alloc (.cells (pairX 0 0 0 0 0 0 0 0 0 0) pairT)).cell? ⟨g, off, none⟩ = some (.string a) := T0.out.rd.words 0 a rfl
 have d1 := T0.out.rd.words 1 m rfl
 have bq : (m.toList == [61]) = true := (same_const m [61]).trans hs
 have bn : (m.toList != [61]) = false := by rw [bne, bq]; rfl
 have bp : (p.toList == [109, 97, 112]) = sameT p mapT := same_const p [109, 97, 112]
 have CW := Lib.hid (fun w' b' ok (hb : Blk w' y rdT #[.bool b']) => want_any hb ok)
 have CR := Lib.hid (fun w' b' (hb : Blk w' y rdT #[.bool b']) => register_any hb a wholeT (h.small a (by simp)) (by decide))
 have CI := Lib.hid (fun w' b' (hb : Blk w' y rdT #[.bool b']) => immR_any hb x (h.small x (by simp)))
 have HV : Hid (∀ r, regS a wholeT = some r → regV a wholeT = r) := fun r => regS_val
 have CL := fun (d : Int) w => lay_any d 0 (by decide) w
 unfold layV at CL
 have e1 : wrap32 (0 : Int) = 0 := by unfold wrap32; omega
 have e2 : wrap32 ((0 : Int) / 4294967296) = 0 := by unfold wrap32; omega
 rw [e1, e2] at CL
 have CL := Lib.hid CL
 have HG : Hid (wide5 a m p x = (regS a wholeT).bind fun d : Nat => if sameT p mapT = true then (immS x).map fun n => ((⟨24, (d : Int), 1, 0, n⟩ : Slot), slot0) else none) := if_pos hs
 have HI : Hid (∀ k, immS x = some k → (immS x).getD 0 = k) := fun k hk => by rw [hk]; rfl
 have HGL : Hid (g < w.heap.size) := h.lt
 clear h hs e1 e2
 generalize wide5 a m p x = tR at *
 generalize (immS x).getD 0 = iv at *
 generalize immS x = im at *
 generalize sameT p mapT = sp at *
 generalize regV a wholeT = rv at *
 generalize regS a wholeT = rs at *
 go_enter Tryz.func24, Tryz.ntmps24
 go_upto_region 4 with fail
 clear d1 bq bn
 go_upto_region 11 with (first
  | (go_at_call 50; refine (CR.out _ _ T0.out.rd.blk).mono ?_; rintro e w1 ⟨rfl, hr⟩; have T1 := Lib.hid (T0.out.mark hr); clear hr; have d2 : w1.cell? ⟨g, off + 2, none⟩ = some (.string p) := T1.out.rd.words 2 p rfl)
  | (go_at_call 52; refine (CW.out _ _ _ T1.out.rd.blk).mono ?_; rintro e' w3 ⟨rfl, hr⟩; have T3 := Lib.hid (T1.out.mark hr); clear hr)
  | (go_at_call 53; refine (CL.out _ _).mono ?_; rintro e w4 ⟨rfl, hb⟩; have T4 := Lib.hid (T3.out.on hb); clear hb))
 obtain ⟨q, hq⟩ : ∃ q, w4.heap.size = q := ⟨_, rfl⟩
 have T5 := Lib.hid (T4.out.on (below_alloc w4 (.cells (pairX 24 rv 0 0 0 0 0 0 0 0) pairT)))
 have B5 : Hid (Blk (w4.alloc (.cells (pairX 24 rv 0 0 0 0 0 0 0 0) pairT)) q pairT (pairX 24 rv 0 0 0 0 0 0 0 0)) := by rw [← hq]; exact Blk.new w4 _ _
 have HQW : Hid (w.heap.size ≤ q) := by rw [← hq]; exact Nat.le_of_lt T4.out.slot.lt
 have HQZ : Hid (q ≠ w.heap.size) := by rw [← hq]; exact fun e => by have := T4.out.slot.lt; omega
 have HGQ : Hid (g ≠ q) := by rw [← hq]; exact fun e => by have := T4.out.rd.lt; omega
 have HQY : Hid (q ≠ y) := by rw [← hq]; exact fun e => by have := T4.out.rd.blk.lt; omega
 rw [hq]
 generalize hW5 : w4.alloc (.cells (pairX 24 rv 0 0 0 0 0 0 0 0) pairT) = W5 at *
 clear hW5 hq
 have f2 := B5.out.frozen 2
 have c2 := B5.out.cell 2
 have T6 := Lib.hid (T5.out.other HQW.out HQZ.out HGQ.out 2 (.int .i64 1))
 have B6 : Hid (Blk (W5.setCell ⟨q, 2, none⟩ (.int .i64 1)) q pairT (pairX 24 rv 1 0 0 0 0 0 0 0)) := B5.out.set_ 2 (.int .i64 1)
 have d3 := T6.out.rd.words 3 x rfl
 go_upto_region 13 with (go_at_call 54; refine (CI.out _ _ T6.out.rd.blk).mono ?_; rintro e' w7 ⟨rfl, hr⟩; have T7 := Lib.hid (T6.out.mark hr); have B7 := Lib.hid (B6.out.keeps hr.keeps (fun e => HQY.out e)); clear hr; have f4 := B7.out.frozen 4; have k4 := B7.out.cell 4)
 have T8 := Lib.hid (T7.out.other HQW.out HQZ.out HGQ.out 4 (.int .i64 iv))
 have B8 : Hid (Blk (w7.setCell ⟨q, 4, none⟩ (.int .i64 iv)) q pairT (pairX 24 rv 1 0 iv 0 0 0 0 0)) := B7.out.set_ 4 (.int .i64 iv)
 clear f4 k4 d3 f2 c2 T7 B7
 generalize hW8 : w7.setCell ⟨q, 4, none⟩ (.int .i64 iv) = W8 at *
 clear hW8
 have k0 := B8.out.cell 0; have k1 := B8.out.cell 1; have k2 := B8.out.cell 2; have k3 := B8.out.cell 3; have k4 := B8.out.cell 4; have k5 := B8.out.cell 5; have k6 := B8.out.cell 6; have k7 := B8.out.cell 7; have k8 := B8.out.cell 8; have k9 := B8.out.cell 9
 have r0 := T8.out.slot.cell 0; have s0 := T8.out.slot.frozen 0; have r1 := T8.out.slot.cell 1; have s1 := T8.out.slot.frozen 1; have r2 := T8.out.slot.cell 2; have s2 := T8.out.slot.frozen 2; have r3 := T8.out.slot.cell 3; have s3 := T8.out.slot.frozen 3; have r4 := T8.out.slot.cell 4; have s4 := T8.out.slot.frozen 4; have r5 := T8.out.slot.cell 5; have s5 := T8.out.slot.frozen 5; have r6 := T8.out.slot.cell 6; have s6 := T8.out.slot.frozen 6; have r7 := T8.out.slot.cell 7; have s7 := T8.out.slot.frozen 7; have r8 := T8.out.slot.cell 8; have s8 := T8.out.slot.frozen 8; have r9 := T8.out.slot.cell 9; have s9 := T8.out.slot.frozen 9
 go_wp2_with fail
 have H9 := Lib.hid (T8.out.all (.int .i64 24) (.int .i64 rv) (.int .i64 1) (.int .i64 0) (.int .i64 iv) (.int .i64 0) (.int .i64 0) (.int .i64 0) (.int .i64 0) (.int .i64 0))
 refine bodyPost_ret (results_cell_row rfl _ _ w.heap.size pairT _ (0, 0) _ rfl H9.out.2 Tryz.underlying66 rfl (by kernel_rfl)) rfl ⟨⟨24, rv, 1, 0, iv⟩, slot0, rfl, ?_, fun z hz => ?_⟩
 ·rw [HG.out]
  have h9 := H9.out.1
  cases b <;> cases rs <;> cases sp <;> cases im <;> simpa using h9
 ·rw [HG.out] at hz
  obtain ⟨r, hr, hz⟩ := Option.bind_eq_some_iff.1 hz
  cases sp
  ·cases hz
  ·rw [if_pos rfl] at hz
   obtain ⟨k, hk, rfl⟩ := Option.map_eq_some_iff.1 hz
   rw [HV.out r hr, HI.out k hk]
/-- The slot that a line's words say, of at most eight words. -/
def oneR : List ByteArray → Option Slot
 | [a] => if sameT a exitT = true then some ⟨149, 0, 0, 0, 0⟩ else none
 | [a, x] => if sameT a callT = true then (immS x).map fun m => (⟨133, 0, 0, 0, m⟩ : Slot) else if sameT a gotoT = true then (furtherS x).map fun f => (⟨5, 0, 0, f, 0⟩ : Slot) else none
 | [a, m, c] => aluR a m c
 | [a, m, c, t] => turnR a m c t
 | [a, m, p0, p1, p2, p3] => if sameT a ifT = true then jumpR m p0 p1 p2 p3 else if sameT m eqT = true then loadR a p0 p1 p2 p3 else storeR a m p0 p1 p2 p3
 | [a, p0, p1, p2, p3, k, s] => if sameT a lockW = true then lockR p0 p1 p2 p3 k s none else none
 | [a, p0, p1, p2, p3, k, s, f] => if sameT a lockW = true then lockR p0 p1 p2 p3 k s (some f) else none
 | _ => none
theorem sameT_eq {a c : ByteArray} (h : sameT a c = true) : a = c := by
 unfold sameT at h
 have h := of_decide_eq_true h
 obtain ⟨a⟩ := a
 obtain ⟨c⟩ := c
 exact congrArg ByteArray.mk (Array.toList_inj.1 h)
/-- A line's first word is one of five that say what it is, or none of them. -/
theorem first_ways (a : ByteArray) :
  (sameT a exitT = true ∧ sameT a callT = false ∧ sameT a gotoT = false ∧ sameT a ifT = false ∧ sameT a lockW = false) ∨
  (sameT a exitT = false ∧ sameT a callT = true ∧ sameT a gotoT = false ∧ sameT a ifT = false ∧ sameT a lockW = false) ∨
  (sameT a exitT = false ∧ sameT a callT = false ∧ sameT a gotoT = true ∧ sameT a ifT = false ∧ sameT a lockW = false) ∨
  (sameT a exitT = false ∧ sameT a callT = false ∧ sameT a gotoT = false ∧ sameT a ifT = true ∧ sameT a lockW = false) ∨
  (sameT a exitT = false ∧ sameT a callT = false ∧ sameT a gotoT = false ∧ sameT a ifT = false ∧ sameT a lockW = true) ∨
  (sameT a exitT = false ∧ sameT a callT = false ∧ sameT a gotoT = false ∧ sameT a ifT = false ∧ sameT a lockW = false) := by
 rcases h1 : sameT a exitT with _ | _
 ·rcases h2 : sameT a callT with _ | _
  ·rcases h3 : sameT a gotoT with _ | _
   ·rcases h4 : sameT a ifT with _ | _
    ·rcases h5 : sameT a lockW with _ | _ <;> simp
    ·rw [sameT_eq h4]; decide
   ·rw [sameT_eq h3]; decide
  ·rw [sameT_eq h2]; decide
 ·rw [sameT_eq h1]; decide
end Go.Proofs.YtemiklbkfogjeaaGreatDoor
