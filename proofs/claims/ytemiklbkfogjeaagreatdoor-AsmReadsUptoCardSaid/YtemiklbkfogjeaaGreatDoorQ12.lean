/-
  strings.CutSuffix. Package asm, reading: a place.
-/
import Derived.Test.YtemiklbkfogjeaaGreatDoorQ11
namespace Go.Proofs.YtemiklbkfogjeaaGreatDoor
open Go Go.RowKit Go.Maps
set_option linter.unusedVariables false
set_option linter.unusedSimpArgs false
set_option maxRecDepth 100000
def ends (s p : ByteArray) : Bool := decide (p.size ≤ s.size) && sameT (s.extract (s.size - p.size) s.size) p
def ahead (s p : ByteArray) : ByteArray := if ends s p = true then s.extract 0 (s.size - p.size) else s
set_option maxHeartbeats 1000000 in
theorem hasSuffixL_any (s p : ByteArray) (hs : s.size ≤ 4611686018427387904) (hp : p.size ≤ 4611686018427387904) (w : World) :
  Calls Tryz.prog 129 #[.string s, .string p] w fun e w' => e = .returned (.bool (ends s p)) ∧ w = w' := by
 by_cases h : p.size ≤ s.size
 ·have g1 : decide (p.size ≤ s.size) = true := by simpa using h
  have hh : (p.size : Int) ≤ (s.size : Int) := by omega
  have e1 : IntKind.i64.wrap ((s.size : Int) - (p.size : Int)) = ((s.size - p.size : Nat) : Int) := by rw [IntWalk.i64_in _ (by omega)]; omega
  have e : ((s.extract (s.size - p.size) s.size).toList == p.toList) = ends s p := by
   rw [same_beq]
   unfold ends
   rw [g1, Bool.true_and]
  have i1 : s.size - p.size ≤ s.size := Nat.sub_le _ _
  generalize s.size - p.size = k at *
  generalize ends s p = b at *
  cases b
  all_goals
   go_enter Tryz.func129, Tryz.ntmps129
   go_wp2_with fail
   go_ret
   exact ⟨rfl, rfl⟩
 ·have g1 : decide (p.size ≤ s.size) = false := by simpa using h
  have e : ends s p = false := by unfold ends; rw [g1]; rfl
  rw [e]
  clear e
  go_enter Tryz.func129, Tryz.ntmps129
  go_wp2_with fail
  go_ret
  exact ⟨rfl, rfl⟩
theorem ends_le {s p : ByteArray} (h : ends s p = true) : p.size ≤ s.size := by
 unfold ends at h
 rw [Bool.and_eq_true, decide_eq_true_eq] at h
 exact h.1
set_option maxHeartbeats 1000000 in
theorem cutSuffixL_any (s p : ByteArray) (hs : s.size ≤ 4611686018427387904) (hp : p.size ≤ 4611686018427387904) (w : World) :
  Calls Tryz.prog 120 #[.string s, .string p] w fun e w' => e = .returned (.tuple #[.string (ahead s p), .bool (ends s p)]) ∧ w = w' := by
 have C0 := Lib.hid (fun w => hasSuffixL_any s p hs hp w)
 have HB : Hid (ahead s p = if ends s p = true then s.extract 0 (s.size - p.size) else s) := rfl
 have hle : ends s p = true → p.size ≤ s.size := ends_le
 generalize ends s p = b at *
 cases b
 ·rw [if_neg (by decide)] at HB
  clear hle hs hp
  go_enter Tryz.func120, Tryz.ntmps120
  go_wp2_with (go_at_call 129; refine (C0.out _).mono ?_; rintro e w1 ⟨rfl, rfl⟩)
  go_ret2
  exact ⟨by rw [HB.out]; rfl, rfl⟩
 ·rw [if_pos rfl] at HB
  have hle' : p.size ≤ s.size := hle rfl
  have e1 : IntKind.i64.wrap ((s.size : Int) - (p.size : Int)) = ((s.size - p.size : Nat) : Int) := by rw [IntWalk.i64_in _ (by omega)]; omega
  have i1 : s.size - p.size ≤ s.size := Nat.sub_le _ _
  generalize s.size - p.size = k at *
  clear hle hs hp hle'
  go_enter Tryz.func120, Tryz.ntmps120
  go_wp2_with (go_at_call 129; refine (C0.out _).mono ?_; rintro e w1 ⟨rfl, rfl⟩)
  go_ret2
  exact ⟨by rw [HB.out]; rfl, rfl⟩
theorem cutSuffix_any (s p : ByteArray) (hs : s.size ≤ 4611686018427387904) (hp : p.size ≤ 4611686018427387904) (w : World) :
  Calls Tryz.prog 112 #[.string s, .string p] w fun e w' => e = .returned (.tuple #[.string (ahead s p), .bool (ends s p)]) ∧ w = w' := by
 have C0 := Lib.hid (fun w => cutSuffixL_any s p hs hp w)
 go_enter Tryz.func112, Tryz.ntmps112
 go_wp2_with (go_at_call 120; refine (C0.out _).mono ?_; rintro e w1 ⟨rfl, rfl⟩)
 go_ret2
 exact ⟨rfl, rfl⟩
abbrev openT : ByteArray := ⟨#[42, 41, 40]⟩
abbrev closeT : ByteArray := ⟨#[41]⟩
abbrev starT : ByteArray := ⟨#[42, 40]⟩
abbrev plusW : ByteArray := ⟨#[43]⟩
structure Plc where
 md : Int
 sz : Int
 base : Int
 off : Int
def moveR (p0 : ByteArray) : List (ByteArray × Int × Int) → Option (Int × Int)
 | [] => none
 | (nm, md, sz) :: l => if sameT p0 (starT ++ nm) = true then some (md, sz) else moveR p0 l
def okR (p1 p2 p3 : ByteArray) : Bool := begins p1 openT && ends p3 closeT && (sameT p2 plusW || sameT p2 minusW)
def placeR (p0 p1 p2 p3 : ByteArray) : Option Plc :=
 if okR p1 p2 p3 = true then (regS (behind p1 openT) wholeT).bind fun b => (signS (sameT p2 minusW) (ahead p3 closeT) 16).bind fun f => (moveR p0 moveL).map fun x => ⟨x.1, x.2, b, f⟩ else none
def GivesP (w : World) (y : Nat) (b : Bool) (S : Option Plc) (e : Ending) (w' : World) : Prop :=
 ∃ (nm : ByteArray) (x : Plc), e = .returned (.tuple #[.agg #[.string nm, .int .i64 x.md, .int .i64 x.sz], .int .i64 x.base, .int .i64 x.off]) ∧ RD w w' y (b || !S.isSome) ∧ ∀ z, S = some z → x = z
/-- Three results, of which the first lies in a cell. -/
theorem results_cell3 {P : Program} {fn : Func} {p t1 t2 : Tmp} {ty : TypeId} (h : fn.results = #[.cell p ty, .tmp t1, .tmp t2]) (tmps : Array Value) (w : World) (g : Nat) (t : TypeId) (cs : Array Value) (fr : Nat × Nat) (d : TypeDesc)
  (hp : tmps.getD p undef = .pointer (some ⟨g, 0, none⟩)) (hg : w.heap[g]? = some (.cells cs t fr))
  (hu : P.underlying ty = some d) (hd : (match d with | .struct _ | .array _ _ => true | _ => false) = true) (hi : (P.info? ty).map (·.size) = some cs.size) :
  (results fn tmps).run P w = .ok (.tuple #[.agg cs, tmps.getD t1 undef, tmps.getD t2 undef]) w := by
 have hp' : tmps[p]?.getD undef = .pointer (some ⟨g, 0, none⟩) := by simpa using hp
 simp [results, h, hp', asAddr, run_loadVar_row w g t ty cs fr d hg hu hd hi]
def plcOf (ok : Bool) (rs : Option Nat) (ss : Option Int) (mv : Option (Int × Int)) : Option Plc :=
 if ok = true then rs.bind fun b => ss.bind fun f => mv.map fun x => ⟨x.1, x.2, b, f⟩ else none
theorem plc_mark (b ok : Bool) (rs : Option Nat) (ss : Option Int) (mv : Option (Int × Int)) : ((((b || !ok) || !rs.isSome) || !ss.isSome) || !mv.isSome) = (b || !(plcOf ok rs ss mv).isSome) := by
 unfold plcOf
 cases b <;> cases ok <;> cases rs <;> cases ss <;> cases mv <;> rfl
theorem plc_val {ok : Bool} {rs : Option Nat} {ss : Option Int} {mv : Option (Int × Int)} {z : Plc} (h : plcOf ok rs ss mv = some z) : ∃ r f x, rs = some r ∧ ss = some f ∧ mv = some x ∧ z = ⟨x.1, x.2, r, f⟩ := by
 unfold plcOf at h
 cases ok
 ·cases h
 cases rs with
 | none => cases h
 | some r =>
  cases ss with
  | none => cases h
  | some f =>
   cases mv with
   | none => cases h
   | some x => cases h; exact ⟨r, f, x, rfl, rfl, rfl, rfl⟩
set_option maxHeartbeats 16000000 in
theorem placeR_any {w0 w : World} {y g off : Nat} {b : Bool} (p0 p1 p2 p3 : ByteArray) (L : List ByteArray) (h : Rd w0 w y b g off (p0 :: p1 :: p2 :: p3 :: L)) (n cc : Nat) (hn : 4 ≤ n) :
  Calls Tryz.prog 83 #[rp y, .slice (some ⟨g, off, none⟩) n cc] w (GivesP w y b (placeR p0 p1 p2 p3)) := by
 have H := Lib.hid h
 have i1 : (1 : Int) < n := by omega
 have i2 : (2 : Int) < n := by omega
 have i3 : (3 : Int) < n := by omega
 have i0 : (0 : Int) < n := by omega
 have j1 : 1 < n := by omega
 have j2 : 2 < n := by omega
 have j3 : 3 < n := by omega
 have j0 : 0 < n := by omega
 have a1 : ∀ o, (w.alloc o).cell? ⟨g, off + 1, none⟩ = some (.string p1) := fun o => (h.on (below_alloc w o)).words 1 p1 rfl
 have a2 : ∀ o, (w.alloc o).cell? ⟨g, off + 2, none⟩ = some (.string p2) := fun o => (h.on (below_alloc w o)).words 2 p2 rfl
 have a3 : ∀ o, (w.alloc o).cell? ⟨g, off + 3, none⟩ = some (.string p3) := fun o => (h.on (below_alloc w o)).words 3 p3 rfl
 have C1 := Lib.hid (fun w => cutPrefix_any p1 openT (h.small p1 (by simp)) (by decide) w)
 have C2 := Lib.hid (fun w => cutSuffix_any p3 closeT (h.small p3 (by simp)) (by decide) w)
 have CW := Lib.hid (fun w' b' ok (hb : Blk w' y rdT #[.bool b']) => want_any hb ok)
 have CR := Lib.hid (fun w' b' (hb : Blk w' y rdT #[.bool b']) => register_any hb (behind p1 openT) wholeT (Nat.le_trans (behind_le _ _) (h.small p1 (by simp))) (by decide))
 have CN := Lib.hid (fun w' b' (hb : Blk w' y rdT #[.bool b']) => number_any hb (sameT p2 minusW) (ahead p3 closeT) 16 (.inl rfl))
 have bp : (p2.toList == [43]) = sameT p2 plusW := same_const p2 [43]
 have bm : (p2.toList == [45]) = sameT p2 minusW := same_const p2 [45]
 have HV : Hid (∀ r, regS (behind p1 openT) wholeT = some r → regV (behind p1 openT) wholeT = r) := fun r => regS_val
 have HPE : Hid (placeR p0 p1 p2 p3 = plcOf (okR p1 p2 p3) (regS (behind p1 openT) wholeT) (signS (sameT p2 minusW) (ahead p3 closeT) 16) (moveR p0 moveL)) := rfl
 have HOK : Hid (okR p1 p2 p3 = (begins p1 openT && ends p3 closeT && (sameT p2 plusW || sameT p2 minusW))) := rfl
 have RB : Hid (Blk (w.alloc (.cells #[.string ⟨#[]⟩, .int .i64 0, .int .i64 0] 115)) w.heap.size 115 #[.string ⟨#[]⟩, .int .i64 0, .int .i64 0]) := Blk.new _ _ _
 have HYL : Hid (y < w.heap.size) := h.blk.lt
 have n0 : ∀ nm : ByteArray, nm.size ≤ 3 → ¬ 9223372036854775807 < 2 + nm.size := fun nm h => by omega
 have HN0 := Lib.hid n0
 clear n0 h hn
 generalize okR p1 p2 p3 = okk at *
 generalize regV (behind p1 openT) wholeT = rv at *
 generalize regS (behind p1 openT) wholeT = rs at *
 generalize behind p1 openT = bh at *
 generalize ahead p3 closeT = ah at *
 generalize begins p1 openT = q1 at *
 generalize ends p3 closeT = q2 at *
 generalize sameT p2 plusW = q3 at *
 generalize sameT p2 minusW = q4 at *
 generalize signS q4 ah 16 = ss at *
 cases q1
 focus
  have hok : okk = false := HOK.out
 rotate_left 1
 cases q2
 focus
  have hok : okk = false := HOK.out
 rotate_left 1
 focus
  cases q3
  rotate_left
 focus
  have hok : okk = true := HOK.out
 rotate_left 1
 cases q4
 focus
  have hok : okk = false := HOK.out
 rotate_left 1
 focus
  have hok : okk = true := HOK.out
 rotate_left 1
 all_goals
  go_enter Tryz.func83, Tryz.ntmps83
  go_upto_region 6 with (first
   | (go_at_call 78; refine (C1.out _).mono ?_; rintro e w2 ⟨rfl, rfl⟩)
   | (go_at_call 112; refine (C2.out _).mono ?_; rintro e w2 ⟨rfl, rfl⟩)
   | (go_at_call 52; refine (CW.out _ _ _ (H.out.on (below_alloc _ _)).blk).mono ?_; rintro e w3 ⟨rfl, hr⟩; have D1 := Lib.hid ((H.out.on (below_alloc _ _)).mark hr); have R1 := Lib.hid (RD.then ((RD.start H.out.blk).on (below_alloc _ _)) hr); have B1 := Lib.hid (RB.out.keeps hr.keeps (fun e => by have h1 : w.heap.size = y := e; have := HYL.out; omega)); clear hr; have e2 : w3.cell? ⟨g, off + 2, none⟩ = some (.string p2) := D1.out.words 2 p2 rfl)
   | (go_at_call 50; refine (CR.out _ _ D1.out.blk).mono ?_; rintro e w4 ⟨rfl, hr⟩; have D2 := Lib.hid (D1.out.mark hr); have R2 := Lib.hid (R1.out.then hr); have B2 := Lib.hid (B1.out.keeps hr.keeps (fun e => by have h1 : w.heap.size = y := e; have := HYL.out; omega)); clear hr; have e2 : w4.cell? ⟨g, off + 2, none⟩ = some (.string p2) := D2.out.words 2 p2 rfl)
   | (go_at_call 79; refine (CN.out _ _ D2.out.blk).mono ?_; rintro e w5 ⟨rfl, hr⟩; have D3 := Lib.hid (D2.out.mark hr); have R3 := Lib.hid (R2.out.then hr); have B3 := Lib.hid (B2.out.keeps hr.keeps (fun e => by have h1 : w.heap.size = y := e; have := HYL.out; omega)); clear hr))
  clear a1 a2 a3 C1 C2 CW CR CN bp bm e2 HOK R1 R2 B1 B2 D1 D2 H RB
  obtain ⟨tyq, cs, hB, hi, hat⟩ := D3.out.tabs.moves_any
  have HB := Lib.hid hB
  have HX := Lib.hid hi
  have HA := Lib.hid hat
  clear hB hi hat
  go_wp2_with (refine wpList_load_row rfl movesT _ rfl 8 rfl tyq cs (0, 0) _ HB.out Tryz.underlying141 rfl HX.out ?_)
  clear HB HX
  go_loopw [14, 58] (fun _ i wr => ∃ k : Nat, i = .int .i64 (k : Int) ∧ k ≤ 7 ∧ Rd w0 wr y (((b || !okk) || !rs.isSome) || !ss.isSome) g off (p0 :: p1 :: p2 :: p3 :: L) ∧ RD w wr y (((b || !okk) || !rs.isSome) || !ss.isSome) ∧ Blk wr w.heap.size 115 #[.string ⟨#[]⟩, .int .i64 0, .int .i64 0] ∧ moveR p0 (moveL.drop k) = moveR p0 moveL) (fun _ i _ => 7 - (Lib.intOf i).toNat)
  case atStart => exact ⟨0, rfl, by decide, by rw [hok]; exact D3.out, by rw [hok]; exact R3.out, B3.out, rfl⟩
  case round =>
   obtain ⟨k, rfl, hk, hR, hR2, hR3, hD⟩ := hrel
   have HR := Lib.hid hR
   have HR2 := Lib.hid hR2
   have HR3 := Lib.hid hR3
   have HD := Lib.hid hD
   have HK := Lib.hid hk
   clear hR hR2 hR3 hD hk D3 R3 B3
   by_cases h7 : k < 7
   ·obtain ⟨nm, md, sz, e1, e2, e3⟩ := HA.out k h7
    have q1 : (k : Int) < 7 := by omega
    have HW := Lib.hid h7
    have HD2 : Hid (moveR p0 ((nm, md, sz) :: moveL.drop (k + 1)) = moveR p0 moveL) := by
     have := HD.out
     rwa [drop_at e1] at this
    have n0 := HN0.out nm e2
    clear h7 e1 e2 HD
    have d0 : ∀ o', (wr.alloc o').cell? ⟨g, off, none⟩ = some (.string p0) := fun o' => (HR.out.on (below_alloc wr o')).words 0 p0 rfl
    go_upto_region 9 with fail
    by_cases hq : sameT p0 (starT ++ nm) = true
    ·have bq : (p0.toList == (starT ++ nm).toList) = true := (same_beq _ _).trans hq
     have HP : Hid (moveR p0 moveL = some (md, sz)) := by
      rw [← HD2.out, moveR, if_pos hq]
      exact rfl
     clear hq HD2
     go_quiet (fail)
     obtain ⟨W2, hW2⟩ : ∃ W, (wr.alloc (.cells #[.string nm, .int .i64 md, .int .i64 sz] 115)).drewN nq = W := ⟨_, rfl⟩
     have bw : Below wr.heap.size wr W2 := by rw [← hW2]; exact (below_alloc wr _).on (below_drewN _ nq)
     have T : Hid (Blk W2 wr.heap.size 115 #[.string nm, .int .i64 md, .int .i64 sz]) := by rw [← hW2]; exact blk_on (Blk.new _ _ _) (below_drewN _ nq)
     rw [hW2]
     have D := Lib.hid (HR.out.on bw)
     have D2 := Lib.hid (HR2.out.on bw)
     have D3 := Lib.hid (blk_on HR3.out bw)
     have ne5 : ¬ wr.heap.size = w.heap.size := fun e => by have := HR3.out.lt; omega
     have ne6 : ¬ w.heap.size = wr.heap.size := fun e => by have := HR3.out.lt; omega
     clear hW2 bw d0
     have t0 := T.out.cell 0; have t1 := T.out.cell 1; have t2 := T.out.cell 2
     have r0 := D3.out.cell 0; have r1 := D3.out.cell 1; have r2 := D3.out.cell 2; have s0 := D3.out.frozen 0; have s1 := D3.out.frozen 1; have s2 := D3.out.frozen 2
     have HYL2 : Hid (¬ y = w.heap.size) := fun e => by have := HYL.out; omega
     go_wp2_with fail
     have F3 : Hid (Blk (((W2.setCell ⟨w.heap.size, 0, none⟩ (.string nm)).setCell ⟨w.heap.size, 1, none⟩ (.int .i64 md)).setCell ⟨w.heap.size, 2, none⟩ (.int .i64 sz)) w.heap.size 115 #[.string nm, .int .i64 md, .int .i64 sz]) := ((D3.out.set_ 0 (.string nm)).set_ 1 (.int .i64 md)).set_ 2 (.int .i64 sz)
     have F2 : Hid (RD w (((W2.setCell ⟨w.heap.size, 0, none⟩ (.string nm)).setCell ⟨w.heap.size, 1, none⟩ (.int .i64 md)).setCell ⟨w.heap.size, 2, none⟩ (.int .i64 sz)) y (((b || !okk) || !rs.isSome) || !ss.isSome)) :=
      ⟨((D2.out.blk.far (p := ⟨w.heap.size, 0, none⟩) HYL2.out _).far (p := ⟨w.heap.size, 1, none⟩) HYL2.out _).far (p := ⟨w.heap.size, 2, none⟩) HYL2.out _, ((D2.out.keeps.setCell (p := ⟨w.heap.size, 0, none⟩) (.inr (Nat.le_refl _)) _).setCell (p := ⟨w.heap.size, 1, none⟩) (.inr (Nat.le_refl _)) _).setCell (p := ⟨w.heap.size, 2, none⟩) (.inr (Nat.le_refl _)) _⟩
     refine bodyPost_ret (results_cell3 rfl _ _ w.heap.size 115 _ (0, 0) _ rfl F3.out Tryz.underlying115 rfl (by kernel_rfl)) rfl ?_
     refine ⟨nm, ⟨md, sz, rv, ss.getD 0⟩, rfl, ?_, fun z hz => ?_⟩
     ·rw [HPE.out, ← plc_mark, HP.out]
      have := F2.out
      simpa using this
     ·rw [HPE.out] at hz
      obtain ⟨r, f, x, h1, h2, h3, rfl⟩ := plc_val hz
      rw [HP.out] at h3
      cases h3
      rw [HV.out r h1, h2]
      rfl
    ·have bq : (p0.toList == (starT ++ nm).toList) = false := (same_beq _ _).trans (by simpa using hq)
     have HD3 : Hid (moveR p0 (moveL.drop (k + 1)) = moveR p0 moveL) := by
      rw [← HD2.out, moveR, if_neg hq]
      exact rfl
     clear hq HD2
     go_quiet (fail)
     have bw : Hid (Below wr.heap.size wr ((wr.alloc (.cells #[.string nm, .int .i64 md, .int .i64 sz] 115)).drewN nq)) := (below_alloc wr _).on (below_drewN _ nq)
     go_wp2_with fail
     go_roundw
     case rel => exact ⟨k + 1, rfl, HW.out, HR.out.on bw.out, HR2.out.on bw.out, blk_on HR3.out bw.out, HD3.out⟩
     case measure =>
      have := HW.out
      simp only [Lib.intOf]
      omega
   ·have hk7 : k = 7 := by have := HK.out; omega
    subst hk7
    have HF : Hid (moveR p0 moveL = none) := by
     rw [← HD.out]
     exact rfl
    have r0 := HR3.out.cell 0; have r1 := HR3.out.cell 1; have r2 := HR3.out.cell 2; have s0 := HR3.out.frozen 0; have s1 := HR3.out.frozen 1; have s2 := HR3.out.frozen 2
    have y0 := HR2.out.blk.cell 0; have y1 := HR2.out.blk.frozen 0
    have ne7 : ¬ y = w.heap.size := fun e => by have := HYL.out; omega
    have ne8 : ¬ w.heap.size = y := fun e => by have := HYL.out; omega
    clear h7 HD HK
    go_wp2_with fail
    have HM := Lib.hid HR2.out.wrong
    have F3 : Hid (Blk ((((wr.setCell ⟨y, 0, none⟩ (.bool true)).setCell ⟨w.heap.size, 0, none⟩ (.string ⟨#[]⟩)).setCell ⟨w.heap.size, 1, none⟩ (.int .i64 0)).setCell ⟨w.heap.size, 2, none⟩ (.int .i64 0)) w.heap.size 115 #[.string ⟨#[]⟩, .int .i64 0, .int .i64 0]) := (((HR3.out.far (p := ⟨y, 0, none⟩) ne8 _).set_ 0 (.string ⟨#[]⟩)).set_ 1 (.int .i64 0)).set_ 2 (.int .i64 0)
    have F2 : Hid (RD w ((((wr.setCell ⟨y, 0, none⟩ (.bool true)).setCell ⟨w.heap.size, 0, none⟩ (.string ⟨#[]⟩)).setCell ⟨w.heap.size, 1, none⟩ (.int .i64 0)).setCell ⟨w.heap.size, 2, none⟩ (.int .i64 0)) y true) :=
     ⟨((HM.out.blk.far (p := ⟨w.heap.size, 0, none⟩) ne7 _).far (p := ⟨w.heap.size, 1, none⟩) ne7 _).far (p := ⟨w.heap.size, 2, none⟩) ne7 _, ((HM.out.keeps.setCell (p := ⟨w.heap.size, 0, none⟩) (.inr (Nat.le_refl _)) _).setCell (p := ⟨w.heap.size, 1, none⟩) (.inr (Nat.le_refl _)) _).setCell (p := ⟨w.heap.size, 2, none⟩) (.inr (Nat.le_refl _)) _⟩
    refine bodyPost_ret (results_cell3 rfl _ _ w.heap.size 115 _ (0, 0) _ rfl F3.out Tryz.underlying115 rfl (by kernel_rfl)) rfl ?_
    refine ⟨⟨#[]⟩, ⟨0, 0, rv, ss.getD 0⟩, rfl, ?_, fun z hz => ?_⟩
    ·rw [HPE.out, ← plc_mark, HF.out]
     have := F2.out
     simpa using this
    ·rw [HPE.out] at hz
     obtain ⟨r, f, x, h1, h2, h3, rfl⟩ := plc_val hz
     rw [HF.out] at h3
     cases h3
end Go.Proofs.YtemiklbkfogjeaaGreatDoor
