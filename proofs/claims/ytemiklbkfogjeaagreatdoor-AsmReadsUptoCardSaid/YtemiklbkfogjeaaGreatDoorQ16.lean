/-
  Package asm, reading: lock.
-/
import Derived.Test.YtemiklbkfogjeaaGreatDoorQ15
namespace Go.Proofs.YtemiklbkfogjeaaGreatDoor
open Go Go.RowKit Go.Maps
set_option linter.unusedVariables false
set_option linter.unusedSimpArgs false
set_option maxRecDepth 100000
def lockF (k : ByteArray) (fe : Bool) : List (ByteArray × Int × Bool) → Option Int
 | [] => none
 | (nm, i, fo) :: l => if sameT nm k = true ∧ (fe = true → fo = true) then some (if fe = true then i + 1 else i) else lockF k fe l
def okF : Option ByteArray → Bool
 | none => true
 | some f => sameT f fetchT
/-- What stands behind a place that was read. -/
def lockX (x : Plc) (k : ByteArray) (fe okf : Bool) (rs : Option Nat) : Option Slot :=
 if (x.md == 96 && lockedS x.sz) = true then rs.bind fun r => if okf = true then (lockF k fe lockL).map fun m => (⟨bits .or .i64 (bits .or .i64 192 x.sz) 3, x.base, (r : Int), x.off, m⟩ : Slot) else none else none
def lockR (p0 p1 p2 p3 k s : ByteArray) (f : Option ByteArray) : Option Slot := (placeR p0 p1 p2 p3).bind fun x => lockX x k f.isSome (okF f) (regS s wholeT)
theorem gives_lock {w W : World} {y : Nat} {b lk okf fe : Bool} {ps : Option Plc} {md sz bs of : Int} {k : ByteArray} {rs : Option Nat} {rv : Nat} {x : Slot} {e : Ending} (he : e = .returned (.agg (inC x.o x.d x.s x.f x.m)))
  (hp : ∀ z, ps = some z → (⟨md, sz, bs, of⟩ : Plc) = z) (hv : ∀ r, rs = some r → rv = r) (hl : (md == 96 && lockedS sz) = lk) (h : RD w W y (((((b || !ps.isSome) || !lk) || !rs.isSome) || !okf) || !(lockF k fe lockL).isSome))
  (hx : ∀ m, lockF k fe lockL = some m → x = ⟨bits .or .i64 (bits .or .i64 192 sz) 3, bs, (rv : Int), of, m⟩) : GivesI w y b (ps.bind fun x => lockX x k fe okf rs) e W := by
 refine gives_sto (x0 := ⟨md, sz, bs, of⟩) he hp ?_ (fun z hz => ?_)
 ·have e : ((((((b || !ps.isSome) || !lk) || !rs.isSome) || !okf) || !(lockF k fe lockL).isSome)) = ((b || !ps.isSome) || !(lockX ⟨md, sz, bs, of⟩ k fe okf rs).isSome) := by
   unfold lockX
   simp only [hl]
   cases b <;> cases ps.isSome <;> cases lk <;> cases rs <;> cases okf <;> simp
  rw [← e]
  exact h
 ·unfold lockX at hz
  simp only [hl] at hz
  cases lk
  ·cases hz
  ·rw [if_pos rfl] at hz
   obtain ⟨r, hr, hz⟩ := Option.bind_eq_some_iff.1 hz
   cases okf
   ·cases hz
   ·rw [if_pos rfl] at hz
    obtain ⟨m, hm, rfl⟩ := Option.map_eq_some_iff.1 hz
    rw [hx m hm, hv r hr]
set_option maxHeartbeats 16000000 in
theorem lockR7_any {w0 w : World} {y g off : Nat} {b : Bool} (i p0 p1 p2 p3 k s : ByteArray) (h : Rd w0 w y b g off [i, p0, p1, p2, p3, k, s]) (n cc : Nat) (hn : n = 7) (hcc : n ≤ cc) :
  Calls Tryz.prog 57 #[rp y, .slice (some ⟨g, off, none⟩) n cc] w (GivesI w y b (lockR p0 p1 p2 p3 k s none)) := by
 subst hn
 have CW := Lib.hid (fun w' b' ok (hb : Blk w' y rdT #[.bool b']) => want_any hb ok)
 have CR := Lib.hid (fun w' b' (hb : Blk w' y rdT #[.bool b']) => register_any hb s wholeT (h.small s (by simp)) (by decide))
 have CK := Lib.hid (fun sz w => locked_any sz w)
 have HV : Hid (∀ r, regS s wholeT = some r → regV s wholeT = r) := fun r => regS_val
 have T0 := Lib.hid (TX.start h)
 have CP := Lib.hid (placeR_any p0 p1 p2 p3 [k, s] (T0.out.rd.sub 1) 6 (cc - 1) (by decide))
 have sl := slice_1 g off 7 cc (by decide) hcc
 have HG : Hid (lockR p0 p1 p2 p3 k s none = (placeR p0 p1 p2 p3).bind fun x => lockX x k false true (regS s wholeT)) := rfl
 have HGL : Hid (g < w.heap.size) := h.lt
 have HB0 : Hid (w0.heap.size ≤ w.heap.size) := h.below.size
 clear h hcc
 generalize lockR p0 p1 p2 p3 k s none = tR at *
 generalize placeR p0 p1 p2 p3 = ps at *
 generalize regV s wholeT = rv at *
 generalize regS s wholeT = rs at *
 go_enter Tryz.func57, Tryz.ntmps57
 go_upto_region 2 with (go_at_call 83; refine CP.out.mono ?_; rintro e w1 ⟨nm, ⟨md, sz, bs, of⟩, rfl, hr, hx⟩; have T1 := Lib.hid (T0.out.mark hr); have HX := Lib.hid hx; clear hr hx; simp only)
 have T2 := Lib.hid (T1.out.on (below_alloc w1 (.cells (mvC nm md sz) mvT)))
 have M2 : Hid (Blk (w1.alloc (.cells (mvC nm md sz) mvT)) w1.heap.size mvT (mvC nm md sz)) := Blk.new w1 _ _
 have HMZ : Hid (w1.heap.size ≠ y) := fun e => by have := T1.out.rd.blk.lt; omega
 obtain ⟨mz, hmz⟩ : ∃ mz, w1.heap.size = mz := ⟨_, rfl⟩
 rw [hmz] at M2 HMZ ⊢
 generalize hW2 : w1.alloc (.cells (mvC nm md sz) mvT) = W2 at *
 clear hW2 hmz
 have m1 := M2.out.cell 1
 have m2 := M2.out.cell 2
 by_cases h96 : md = 96
 focus
  subst h96
  have CK1 := CK.out sz
  obtain ⟨lk, hlk⟩ : ∃ lk, lockedS sz = lk := ⟨_, rfl⟩
  rw [hlk] at CK1
  have CK := Lib.hid CK1
  have HLK : Hid (((96 : Int) == 96 && lockedS sz) = lk) := hlk
  clear hlk CK1
  go_upto_region 3 with (first
   | (go_at_call 84; refine (CK.out _).mono ?_; rintro e w3 ⟨rfl, rfl⟩)
   | (go_at_call 52; refine (CW.out _ _ _ T2.out.rd.blk).mono ?_; rintro e' w3 ⟨rfl, hr⟩; have T3 := Lib.hid (T2.out.mark hr); have M3 := Lib.hid (M2.out.keeps hr.keeps (fun e => HMZ.out e)); clear hr))
 rotate_left 1
 focus
  have b96 : (md == 96) = false := by simpa using h96
  have HLK : Hid ((md == 96 && lockedS sz) = false) := by rw [b96]; rfl
  clear CK
  go_upto_region 3 with (first
   | (go_at_call 52; refine (CW.out _ _ _ T2.out.rd.blk).mono ?_; rintro e' w3 ⟨rfl, hr⟩; have T3 := Lib.hid (T2.out.mark hr); have M3 := Lib.hid (M2.out.keeps hr.keeps (fun e => HMZ.out e)); clear hr))
 rotate_left 1
 all_goals
  clear m1 m2
  have T4 := Lib.hid (T3.out.on (below_drew w3))
  have M4 := Lib.hid (blk_on M3.out (below_drew w3))
  have K4 : Hid (w3.drew.cell? ⟨g, off + 6, none⟩ = some (.string s) ∧ w3.drew.cell? ⟨mz, 2, none⟩ = some (.int .i64 sz)) := ⟨T4.out.rd.words 6 s rfl, M4.out.cell 2⟩
  have T4a := Lib.hid (T4.out.on (below_alloc w3.drew (.cells (inC 0 0 0 0 0) inT)))
  have M4a := Lib.hid (blk_on M4.out (below_alloc w3.drew (.cells (inC 0 0 0 0 0) inT)))
  have Z4a : Hid (Blk (w3.drew.alloc (.cells (inC 0 0 0 0 0) inT)) w3.heap.size inT (inC 0 0 0 0 0)) := Blk.new _ _ _
  have K4a : Hid ((w3.drew.alloc (.cells (inC 0 0 0 0 0) inT)).cell? ⟨g, off + 6, none⟩ = some (.string s) ∧ (w3.drew.alloc (.cells (inC 0 0 0 0 0) inT)).cell? ⟨mz, 2, none⟩ = some (.int .i64 sz)) := ⟨T4a.out.rd.words 6 s rfl, M4a.out.cell 2⟩
  have K4b : Hid ((w3.alloc (.cells (inC 0 0 0 0 0) inT)).drew.cell? ⟨g, off + 6, none⟩ = some (.string s) ∧ (w3.alloc (.cells (inC 0 0 0 0 0) inT)).drew.cell? ⟨mz, 2, none⟩ = some (.int .i64 sz)) := K4a.out
  have HZG : Hid (w3.heap.size ≠ g) := fun e => by have := T3.out.rd.lt; omega
  have HZM : Hid (w3.heap.size ≠ mz) := fun e => by have := M3.out.lt; omega
  have HZY : Hid (w3.heap.size ≠ y) := fun e => by have := T3.out.rd.blk.lt; omega
  have HZW : Hid (w.heap.size < w3.heap.size) := T3.out.slot.lt
  go_region_held3 (fun W' => W'.cell? ⟨g, off + 6, none⟩ = some (.string s) ∧ W'.cell? ⟨mz, 2, none⟩ = some (.int .i64 sz))
   (first | with_reducible exact K4.out | with_reducible exact K4a.out | with_reducible exact K4b.out | with_reducible exact K5.out | with_reducible exact K6.out _ | with_reducible exact K7.out _ _ _ _ _)
   (first | (go_at_call 50; first
    | (refine (CR.out _ _ T4a.out.rd.blk).mono ?_; rintro e' w5 ⟨rfl, hr⟩; have T5 := Lib.hid (T4a.out.mark hr); have M5 := Lib.hid (M4a.out.keeps hr.keeps (fun e => HMZ.out e)); have Z5 := Lib.hid (Z4a.out.keeps hr.keeps (fun e => HZY.out e)); clear hr; have K5 : Hid (w5.cell? ⟨g, off + 6, none⟩ = some (.string s) ∧ w5.cell? ⟨mz, 2, none⟩ = some (.int .i64 sz)) := ⟨T5.out.rd.words 6 s rfl, M5.out.cell 2⟩; have K7 : Hid (∀ v0 v1 v2 v3 v4, (((((w5.setCell ⟨w3.heap.size, 0, none⟩ v0).setCell ⟨w3.heap.size, 1, none⟩ v1).setCell ⟨w3.heap.size, 2, none⟩ v2).setCell ⟨w3.heap.size, 3, none⟩ v3).setCell ⟨w3.heap.size, 4, none⟩ v4).cell? ⟨g, off + 6, none⟩ = some (.string s) ∧ (((((w5.setCell ⟨w3.heap.size, 0, none⟩ v0).setCell ⟨w3.heap.size, 1, none⟩ v1).setCell ⟨w3.heap.size, 2, none⟩ v2).setCell ⟨w3.heap.size, 3, none⟩ v3).setCell ⟨w3.heap.size, 4, none⟩ v4).cell? ⟨mz, 2, none⟩ = some (.int .i64 sz)) := fun v0 v1 v2 v3 v4 => ⟨cells_keep5 T5.out.rd.lt (fun e => HZG.out e.symm) K5.out.1 v0 v1 v2 v3 v4, cells_keep5 M5.out.lt (fun e => HZM.out e.symm) K5.out.2 v0 v1 v2 v3 v4⟩; have r0 := Z5.out.cell 0; have r1 := Z5.out.cell 1; have r2 := Z5.out.cell 2; have r3 := Z5.out.cell 3; have r4 := Z5.out.cell 4; have s0 := Z5.out.frozen 0; have s1 := Z5.out.frozen 1; have s2 := Z5.out.frozen 2; have s3 := Z5.out.frozen 3; have s4 := Z5.out.frozen 4)
    | (refine (CR.out _ _ T4.out.rd.blk).mono ?_; rintro e' w5 ⟨rfl, hr⟩; have T5 := Lib.hid (T4.out.mark hr); have M5 := Lib.hid (M4.out.keeps hr.keeps (fun e => HMZ.out e)); clear hr; have K5 : Hid (w5.cell? ⟨g, off + 6, none⟩ = some (.string s) ∧ w5.cell? ⟨mz, 2, none⟩ = some (.int .i64 sz)) := ⟨T5.out.rd.words 6 s rfl, M5.out.cell 2⟩; have K6 : Hid (∀ o, (w5.alloc o).cell? ⟨g, off + 6, none⟩ = some (.string s) ∧ (w5.alloc o).cell? ⟨mz, 2, none⟩ = some (.int .i64 sz)) := fun o => ⟨(T5.out.on (below_alloc _ o)).rd.words 6 s rfl, (blk_on M5.out (below_alloc _ o)).cell 2⟩)))
 all_goals first
  |have tq := b96
   clear tq
   first
    | (have Z : Hid (RZ w (w5.alloc (.cells (inC (bits .or .i64 (bits .or .i64 192 sz) 3) bs rv of 0) inT)) y (((b || !ps.isSome) || !false) || !rs.isSome) w5.heap.size w.heap.size (inC (bits .or .i64 (bits .or .i64 192 sz) 3) bs rv of 0) (inC 0 0 0 0 0)) := T5.out.slots _
       have D := Lib.hid (T5.out.rd.on (below_alloc w5 (.cells (inC (bits .or .i64 (bits .or .i64 192 sz) 3) bs rv of 0) inT)))
       obtain ⟨W, hW⟩ : ∃ W, w5.alloc (.cells (inC (bits .or .i64 (bits .or .i64 192 sz) 3) bs rv of 0) inT) = W := ⟨_, rfl⟩
       rw [hW] at Z D ⊢
       obtain ⟨z, hz⟩ : ∃ z, w5.heap.size = z := ⟨_, rfl⟩
       rw [hz] at Z ⊢)
    | (have Z := Lib.hid (RZ.allz (⟨T5.out.r, Z5.out, T5.out.slot, Nat.le_of_lt HZW.out, Nat.le_refl _, T5.out.hy, fun e => by have := HZW.out; omega⟩ : RZ w w5 y (((b || !ps.isSome) || !false) || !rs.isSome) w3.heap.size w.heap.size (inC 0 0 0 0 0) (inC 0 0 0 0 0)) (.int .i64 (bits .or .i64 (bits .or .i64 192 sz) 3)) (.int .i64 bs) (.int .i64 rv) (.int .i64 of) (.int .i64 0))
       have D := Lib.hid (T5.out.rd.keeps (keeps5 w5 w3.heap.size (.int .i64 (bits .or .i64 (bits .or .i64 192 sz) 3)) (.int .i64 bs) (.int .i64 rv) (.int .i64 of) (.int .i64 0)) (fun k hk => by subst hk; exact ⟨Nat.le_trans HB0.out (Nat.le_of_lt HZW.out), HZG.out⟩) Z.out.rd.blk)
       obtain ⟨W, hW⟩ : ∃ W, (((((w5.setCell ⟨w3.heap.size, 0, none⟩ (.int .i64 (bits .or .i64 (bits .or .i64 192 sz) 3))).setCell ⟨w3.heap.size, 1, none⟩ (.int .i64 bs)).setCell ⟨w3.heap.size, 2, none⟩ (.int .i64 rv)).setCell ⟨w3.heap.size, 3, none⟩ (.int .i64 of)).setCell ⟨w3.heap.size, 4, none⟩ (.int .i64 0)) = W := ⟨_, rfl⟩
       rw [hW] at Z D ⊢
       obtain ⟨z, hz⟩ : ∃ z, w3.heap.size = z := ⟨_, rfl⟩
       rw [hz] at Z ⊢)
   clear hW hz T4 T4a M4 M4a Z4a K4 K4a K4b K5 T5 M5 T3 M3 HZG HZM HZY HZW T1 T2 M2
   try clear K6
   try clear K7 Z5 r0 r1 r2 r3 r4 s0 s1 s2 s3 s4
   go_upto_region 6 with (go_at_call 52; refine (CW.out _ _ _ Z.out.rd.blk).mono ?_; rintro e' W7 ⟨rfl, hr⟩; have Z7 := Lib.hid (Z.out.mark hr); have D7 := Lib.hid (D.out.mark hr); clear hr)
   skip
   obtain ⟨tyq, cs, hB, hi, hat⟩ := D7.out.tabs.locks_any
   have HB := Lib.hid hB
   have HXX := Lib.hid hi
   have HA := Lib.hid hat
   clear hB hi hat Z D
   go_wp2_with (refine wpList_load_row rfl locksT _ rfl 4 rfl tyq cs (0, 0) _ HB.out Tryz.underlying120 rfl HXX.out ?_)
   clear HB HXX
   go_loopw [11, 56] (fun _ i' wr => ∃ j : Nat, i' = .int .i64 (j : Int) ∧ j ≤ 6 ∧ RZ w wr y ((((b || !ps.isSome) || !false) || !rs.isSome) || !true) z w.heap.size (inC (bits .or .i64 (bits .or .i64 192 sz) 3) bs rv of 0) (inC 0 0 0 0 0) ∧ Rd w0 wr y ((((b || !ps.isSome) || !false) || !rs.isSome) || !true) g off [i, p0, p1, p2, p3, k, s] ∧ lockF k false (lockL.drop j) = lockF k false lockL) (fun _ i' _ => 6 - (Lib.intOf i').toNat)
   case atStart => exact ⟨0, rfl, by decide, Z7.out, D7.out, rfl⟩
   case round =>
    obtain ⟨j, rfl, hk, hR, hR2, hD⟩ := hrel
    have HR := Lib.hid hR
    have HR2 := Lib.hid hR2
    have HD := Lib.hid hD
    have HK := Lib.hid hk
    clear hR hR2 hD hk Z7 D7
    by_cases h7 : j < 6
    ·obtain ⟨nm', im, fo, e1, e2, e3⟩ := HA.out j h7
     have i1 : (j : Int) < 6 := by omega
     have HW := Lib.hid h7
     have HD2 : Hid (lockF k false ((nm', im, fo) :: lockL.drop (j + 1)) = lockF k false lockL) := by
      have := HD.out
      rwa [drop_at e1] at this
     have eim : IntKind.i64.wrap (im + 1) = im + 1 := IntWalk.i64_in _ (by omega)
     clear h7 e1 e2 HD
     have d5 : ∀ o', (wr.alloc o').cell? ⟨g, off + 5, none⟩ = some (.string k) := fun o' => (HR2.out.on (below_alloc wr o')).words 5 k rfl
     go_upto_region 9 with fail
     by_cases hq : sameT nm' k = true
     ·have bq : (nm'.toList == k.toList) = true := (same_beq _ _).trans hq
      have bq2 : nm'.toList = k.toList := by simpa using bq
      have HP : Hid (lockF k false lockL = some im) := by
       rw [← HD2.out, lockF, if_pos ⟨hq, by simp⟩]
       exact rfl
      clear hq HD2
      go_quiet (fail)
      obtain ⟨W8, hW8⟩ : ∃ W, (wr.alloc (.cells #[.string nm', .int .i64 im, .bool fo] 119)).drewN nq = W := ⟨_, rfl⟩
      have bw : Below wr.heap.size wr W8 := by rw [← hW8]; exact (below_alloc wr _).on (below_drewN _ nq)
      have T : Hid (Blk W8 wr.heap.size 119 #[.string nm', .int .i64 im, .bool fo]) := by rw [← hW8]; exact blk_on (Blk.new _ _ _) (below_drewN _ nq)
      rw [hW8]
      have Z := Lib.hid (HR.out.on bw)
      clear hW8 bw d5
      have t1 := T.out.cell 1
      have g0 := Z.out.sl.cell 0; have g1 := Z.out.sl.cell 1; have g2 := Z.out.sl.cell 2; have g3 := Z.out.sl.cell 3; have g4 := Z.out.sl.cell 4
      have r0 := Z.out.rs.cell 0; have r1 := Z.out.rs.cell 1; have r2 := Z.out.rs.cell 2; have r3 := Z.out.rs.cell 3; have r4 := Z.out.rs.cell 4; have s0 := Z.out.rs.frozen 0; have s1 := Z.out.rs.frozen 1; have s2 := Z.out.rs.frozen 2; have s3 := Z.out.rs.frozen 3; have s4 := Z.out.rs.frozen 4
      have f4 := Z.out.sl.frozen 4
      have ne5 : ¬ wr.heap.size = z := fun e => by have := HR.out.sl.lt; omega
      have ne6 : ¬ z = wr.heap.size := fun e => by have := HR.out.sl.lt; omega
      have ne7 : ¬ z = w.heap.size := Z.out.ne
      have ne8 : ¬ w.heap.size = z := fun e => Z.out.ne e.symm
      go_wp2_with fail
      have H9 := Lib.hid ((Z.out.set 4 (.int .i64 im)).all (.int .i64 (bits .or .i64 (bits .or .i64 192 sz) 3)) (.int .i64 bs) (.int .i64 rv) (.int .i64 of) (.int .i64 im))
      refine bodyPost_ret (results_cell_row rfl _ _ w.heap.size inT _ (0, 0) _ rfl H9.out.rs Tryz.underlying38 rfl (by kernel_rfl)) rfl ?_
      rw [HG.out]
      exact gives_lock (x := ⟨bits .or .i64 (bits .or .i64 192 sz) 3, bs, (rv : Int), of, im⟩) rfl HX.out HV.out HLK.out (by rw [HP.out]; simpa using H9.out.rd) (fun m hm => by rw [HP.out] at hm; cases hm; rfl)
     ·have bq : (nm'.toList == k.toList) = false := (same_beq _ _).trans (by simpa using hq)
      have bq2 : ¬ nm'.toList = k.toList := by simpa using bq
      have HD3 : Hid (lockF k false (lockL.drop (j + 1)) = lockF k false lockL) := by
       rw [← HD2.out, lockF, if_neg (fun h => hq h.1)]
       exact rfl
      clear hq HD2
      go_quiet (fail)
      have bw : Hid (Below wr.heap.size wr ((wr.alloc (.cells #[.string nm', .int .i64 im, .bool fo] 119)).drewN nq)) := (below_alloc wr _).on (below_drewN _ nq)
      go_wp2_with fail
      go_roundw
      case rel => exact ⟨j + 1, rfl, HW.out, HR.out.on bw.out, HR2.out.on bw.out, HD3.out⟩
      case measure =>
       have := HW.out
       simp only [Lib.intOf]
       omega
    ·have hk7 : j = 6 := by have := HK.out; omega
     subst hk7
     have HF : Hid (lockF k false lockL = none) := by
      rw [← HD.out]
      exact rfl
     have g0 := HR.out.sl.cell 0; have g1 := HR.out.sl.cell 1; have g2 := HR.out.sl.cell 2; have g3 := HR.out.sl.cell 3; have g4 := HR.out.sl.cell 4
     have r0 := HR.out.rs.cell 0; have r1 := HR.out.rs.cell 1; have r2 := HR.out.rs.cell 2; have r3 := HR.out.rs.cell 3; have r4 := HR.out.rs.cell 4; have s0 := HR.out.rs.frozen 0; have s1 := HR.out.rs.frozen 1; have s2 := HR.out.rs.frozen 2; have s3 := HR.out.rs.frozen 3; have s4 := HR.out.rs.frozen 4
     have y0 := HR.out.rd.blk.cell 0; have y1 := HR.out.rd.blk.frozen 0
     have neyz : ¬ y = z := fun e => by have := HR.out.hz; have := HR.out.hy; omega
     have nezy : ¬ z = y := fun e => by have := HR.out.hz; have := HR.out.hy; omega
     have neyw : ¬ y = w.heap.size := fun e => by have := HR.out.hy; omega
     have newy : ¬ w.heap.size = y := fun e => by have := HR.out.hy; omega
     clear h7 HD HK
     go_wp2_with fail
     have H9 := Lib.hid (HR.out.wrong.all (.int .i64 (bits .or .i64 (bits .or .i64 192 sz) 3)) (.int .i64 bs) (.int .i64 rv) (.int .i64 of) (.int .i64 0))
     refine bodyPost_ret (results_cell_row rfl _ _ w.heap.size inT _ (0, 0) _ rfl H9.out.rs Tryz.underlying38 rfl (by kernel_rfl)) rfl ?_
     rw [HG.out]
     exact gives_lock (x := ⟨bits .or .i64 (bits .or .i64 192 sz) 3, bs, (rv : Int), of, 0⟩) rfl HX.out HV.out HLK.out (by rw [HF.out]; simpa using H9.out.rd) (fun m hm => by rw [HF.out] at hm; cases hm)
  |skip
   first
    | (have Z : Hid (RZ w (w5.alloc (.cells (inC (bits .or .i64 (bits .or .i64 192 sz) 3) bs rv of 0) inT)) y (((b || !ps.isSome) || !lk) || !rs.isSome) w5.heap.size w.heap.size (inC (bits .or .i64 (bits .or .i64 192 sz) 3) bs rv of 0) (inC 0 0 0 0 0)) := T5.out.slots _
       have D := Lib.hid (T5.out.rd.on (below_alloc w5 (.cells (inC (bits .or .i64 (bits .or .i64 192 sz) 3) bs rv of 0) inT)))
       obtain ⟨W, hW⟩ : ∃ W, w5.alloc (.cells (inC (bits .or .i64 (bits .or .i64 192 sz) 3) bs rv of 0) inT) = W := ⟨_, rfl⟩
       rw [hW] at Z D ⊢
       obtain ⟨z, hz⟩ : ∃ z, w5.heap.size = z := ⟨_, rfl⟩
       rw [hz] at Z ⊢)
    | (have Z := Lib.hid (RZ.allz (⟨T5.out.r, Z5.out, T5.out.slot, Nat.le_of_lt HZW.out, Nat.le_refl _, T5.out.hy, fun e => by have := HZW.out; omega⟩ : RZ w w5 y (((b || !ps.isSome) || !lk) || !rs.isSome) w3.heap.size w.heap.size (inC 0 0 0 0 0) (inC 0 0 0 0 0)) (.int .i64 (bits .or .i64 (bits .or .i64 192 sz) 3)) (.int .i64 bs) (.int .i64 rv) (.int .i64 of) (.int .i64 0))
       have D := Lib.hid (T5.out.rd.keeps (keeps5 w5 w3.heap.size (.int .i64 (bits .or .i64 (bits .or .i64 192 sz) 3)) (.int .i64 bs) (.int .i64 rv) (.int .i64 of) (.int .i64 0)) (fun k hk => by subst hk; exact ⟨Nat.le_trans HB0.out (Nat.le_of_lt HZW.out), HZG.out⟩) Z.out.rd.blk)
       obtain ⟨W, hW⟩ : ∃ W, (((((w5.setCell ⟨w3.heap.size, 0, none⟩ (.int .i64 (bits .or .i64 (bits .or .i64 192 sz) 3))).setCell ⟨w3.heap.size, 1, none⟩ (.int .i64 bs)).setCell ⟨w3.heap.size, 2, none⟩ (.int .i64 rv)).setCell ⟨w3.heap.size, 3, none⟩ (.int .i64 of)).setCell ⟨w3.heap.size, 4, none⟩ (.int .i64 0)) = W := ⟨_, rfl⟩
       rw [hW] at Z D ⊢
       obtain ⟨z, hz⟩ : ∃ z, w3.heap.size = z := ⟨_, rfl⟩
       rw [hz] at Z ⊢)
   clear hW hz T4 T4a M4 M4a Z4a K4 K4a K4b K5 T5 M5 T3 M3 HZG HZM HZY HZW T1 T2 M2
   try clear K6
   try clear K7 Z5 r0 r1 r2 r3 r4 s0 s1 s2 s3 s4
   go_upto_region 6 with (go_at_call 52; refine (CW.out _ _ _ Z.out.rd.blk).mono ?_; rintro e' W7 ⟨rfl, hr⟩; have Z7 := Lib.hid (Z.out.mark hr); have D7 := Lib.hid (D.out.mark hr); clear hr)
   skip
   obtain ⟨tyq, cs, hB, hi, hat⟩ := D7.out.tabs.locks_any
   have HB := Lib.hid hB
   have HXX := Lib.hid hi
   have HA := Lib.hid hat
   clear hB hi hat Z D
   go_wp2_with (refine wpList_load_row rfl locksT _ rfl 4 rfl tyq cs (0, 0) _ HB.out Tryz.underlying120 rfl HXX.out ?_)
   clear HB HXX
   go_loopw [11, 56] (fun _ i' wr => ∃ j : Nat, i' = .int .i64 (j : Int) ∧ j ≤ 6 ∧ RZ w wr y ((((b || !ps.isSome) || !lk) || !rs.isSome) || !true) z w.heap.size (inC (bits .or .i64 (bits .or .i64 192 sz) 3) bs rv of 0) (inC 0 0 0 0 0) ∧ Rd w0 wr y ((((b || !ps.isSome) || !lk) || !rs.isSome) || !true) g off [i, p0, p1, p2, p3, k, s] ∧ lockF k false (lockL.drop j) = lockF k false lockL) (fun _ i' _ => 6 - (Lib.intOf i').toNat)
   case atStart => exact ⟨0, rfl, by decide, Z7.out, D7.out, rfl⟩
   case round =>
    obtain ⟨j, rfl, hk, hR, hR2, hD⟩ := hrel
    have HR := Lib.hid hR
    have HR2 := Lib.hid hR2
    have HD := Lib.hid hD
    have HK := Lib.hid hk
    clear hR hR2 hD hk Z7 D7
    by_cases h7 : j < 6
    ·obtain ⟨nm', im, fo, e1, e2, e3⟩ := HA.out j h7
     have i1 : (j : Int) < 6 := by omega
     have HW := Lib.hid h7
     have HD2 : Hid (lockF k false ((nm', im, fo) :: lockL.drop (j + 1)) = lockF k false lockL) := by
      have := HD.out
      rwa [drop_at e1] at this
     have eim : IntKind.i64.wrap (im + 1) = im + 1 := IntWalk.i64_in _ (by omega)
     clear h7 e1 e2 HD
     have d5 : ∀ o', (wr.alloc o').cell? ⟨g, off + 5, none⟩ = some (.string k) := fun o' => (HR2.out.on (below_alloc wr o')).words 5 k rfl
     go_upto_region 9 with fail
     by_cases hq : sameT nm' k = true
     ·have bq : (nm'.toList == k.toList) = true := (same_beq _ _).trans hq
      have bq2 : nm'.toList = k.toList := by simpa using bq
      have HP : Hid (lockF k false lockL = some im) := by
       rw [← HD2.out, lockF, if_pos ⟨hq, by simp⟩]
       exact rfl
      clear hq HD2
      go_quiet (fail)
      obtain ⟨W8, hW8⟩ : ∃ W, (wr.alloc (.cells #[.string nm', .int .i64 im, .bool fo] 119)).drewN nq = W := ⟨_, rfl⟩
      have bw : Below wr.heap.size wr W8 := by rw [← hW8]; exact (below_alloc wr _).on (below_drewN _ nq)
      have T : Hid (Blk W8 wr.heap.size 119 #[.string nm', .int .i64 im, .bool fo]) := by rw [← hW8]; exact blk_on (Blk.new _ _ _) (below_drewN _ nq)
      rw [hW8]
      have Z := Lib.hid (HR.out.on bw)
      clear hW8 bw d5
      have t1 := T.out.cell 1
      have g0 := Z.out.sl.cell 0; have g1 := Z.out.sl.cell 1; have g2 := Z.out.sl.cell 2; have g3 := Z.out.sl.cell 3; have g4 := Z.out.sl.cell 4
      have r0 := Z.out.rs.cell 0; have r1 := Z.out.rs.cell 1; have r2 := Z.out.rs.cell 2; have r3 := Z.out.rs.cell 3; have r4 := Z.out.rs.cell 4; have s0 := Z.out.rs.frozen 0; have s1 := Z.out.rs.frozen 1; have s2 := Z.out.rs.frozen 2; have s3 := Z.out.rs.frozen 3; have s4 := Z.out.rs.frozen 4
      have f4 := Z.out.sl.frozen 4
      have ne5 : ¬ wr.heap.size = z := fun e => by have := HR.out.sl.lt; omega
      have ne6 : ¬ z = wr.heap.size := fun e => by have := HR.out.sl.lt; omega
      have ne7 : ¬ z = w.heap.size := Z.out.ne
      have ne8 : ¬ w.heap.size = z := fun e => Z.out.ne e.symm
      go_wp2_with fail
      have H9 := Lib.hid ((Z.out.set 4 (.int .i64 im)).all (.int .i64 (bits .or .i64 (bits .or .i64 192 sz) 3)) (.int .i64 bs) (.int .i64 rv) (.int .i64 of) (.int .i64 im))
      refine bodyPost_ret (results_cell_row rfl _ _ w.heap.size inT _ (0, 0) _ rfl H9.out.rs Tryz.underlying38 rfl (by kernel_rfl)) rfl ?_
      rw [HG.out]
      exact gives_lock (x := ⟨bits .or .i64 (bits .or .i64 192 sz) 3, bs, (rv : Int), of, im⟩) rfl HX.out HV.out HLK.out (by rw [HP.out]; simpa using H9.out.rd) (fun m hm => by rw [HP.out] at hm; cases hm; rfl)
     ·have bq : (nm'.toList == k.toList) = false := (same_beq _ _).trans (by simpa using hq)
      have bq2 : ¬ nm'.toList = k.toList := by simpa using bq
      have HD3 : Hid (lockF k false (lockL.drop (j + 1)) = lockF k false lockL) := by
       rw [← HD2.out, lockF, if_neg (fun h => hq h.1)]
       exact rfl
      clear hq HD2
      go_quiet (fail)
      have bw : Hid (Below wr.heap.size wr ((wr.alloc (.cells #[.string nm', .int .i64 im, .bool fo] 119)).drewN nq)) := (below_alloc wr _).on (below_drewN _ nq)
      go_wp2_with fail
      go_roundw
      case rel => exact ⟨j + 1, rfl, HW.out, HR.out.on bw.out, HR2.out.on bw.out, HD3.out⟩
      case measure =>
       have := HW.out
       simp only [Lib.intOf]
       omega
    ·have hk7 : j = 6 := by have := HK.out; omega
     subst hk7
     have HF : Hid (lockF k false lockL = none) := by
      rw [← HD.out]
      exact rfl
     have g0 := HR.out.sl.cell 0; have g1 := HR.out.sl.cell 1; have g2 := HR.out.sl.cell 2; have g3 := HR.out.sl.cell 3; have g4 := HR.out.sl.cell 4
     have r0 := HR.out.rs.cell 0; have r1 := HR.out.rs.cell 1; have r2 := HR.out.rs.cell 2; have r3 := HR.out.rs.cell 3; have r4 := HR.out.rs.cell 4; have s0 := HR.out.rs.frozen 0; have s1 := HR.out.rs.frozen 1; have s2 := HR.out.rs.frozen 2; have s3 := HR.out.rs.frozen 3; have s4 := HR.out.rs.frozen 4
     have y0 := HR.out.rd.blk.cell 0; have y1 := HR.out.rd.blk.frozen 0
     have neyz : ¬ y = z := fun e => by have := HR.out.hz; have := HR.out.hy; omega
     have nezy : ¬ z = y := fun e => by have := HR.out.hz; have := HR.out.hy; omega
     have neyw : ¬ y = w.heap.size := fun e => by have := HR.out.hy; omega
     have newy : ¬ w.heap.size = y := fun e => by have := HR.out.hy; omega
     clear h7 HD HK
     go_wp2_with fail
     have H9 := Lib.hid (HR.out.wrong.all (.int .i64 (bits .or .i64 (bits .or .i64 192 sz) 3)) (.int .i64 bs) (.int .i64 rv) (.int .i64 of) (.int .i64 0))
     refine bodyPost_ret (results_cell_row rfl _ _ w.heap.size inT _ (0, 0) _ rfl H9.out.rs Tryz.underlying38 rfl (by kernel_rfl)) rfl ?_
     rw [HG.out]
     exact gives_lock (x := ⟨bits .or .i64 (bits .or .i64 192 sz) 3, bs, (rv : Int), of, 0⟩) rfl HX.out HV.out HLK.out (by rw [HF.out]; simpa using H9.out.rd) (fun m hm => by rw [HF.out] at hm; cases hm)
set_option maxHeartbeats 16000000 in
theorem lockR8_any {w0 w : World} {y g off : Nat} {b : Bool} (i p0 p1 p2 p3 k s f : ByteArray) (h : Rd w0 w y b g off [i, p0, p1, p2, p3, k, s, f]) (n cc : Nat) (hn : n = 8) (hcc : n ≤ cc) :
  Calls Tryz.prog 57 #[rp y, .slice (some ⟨g, off, none⟩) n cc] w (GivesI w y b (lockR p0 p1 p2 p3 k s (some f))) := by
 subst hn
 have CW := Lib.hid (fun w' b' ok (hb : Blk w' y rdT #[.bool b']) => want_any hb ok)
 have CR := Lib.hid (fun w' b' (hb : Blk w' y rdT #[.bool b']) => register_any hb s wholeT (h.small s (by simp)) (by decide))
 have CK := Lib.hid (fun sz w => locked_any sz w)
 have HV : Hid (∀ r, regS s wholeT = some r → regV s wholeT = r) := fun r => regS_val
 have T0 := Lib.hid (TX.start h)
 have CP := Lib.hid (placeR_any p0 p1 p2 p3 [k, s, f] (T0.out.rd.sub 1) 7 (cc - 1) (by decide))
 have sl := slice_1 g off 8 cc (by decide) hcc
 have bf : (f.toList == [102, 101, 116, 99, 104]) = sameT f fetchT := same_const f [102, 101, 116, 99, 104]
 have HG : Hid (lockR p0 p1 p2 p3 k s (some f) = (placeR p0 p1 p2 p3).bind fun x => lockX x k true (sameT f fetchT) (regS s wholeT)) := rfl
 have HGL : Hid (g < w.heap.size) := h.lt
 have HB0 : Hid (w0.heap.size ≤ w.heap.size) := h.below.size
 clear h hcc
 generalize lockR p0 p1 p2 p3 k s (some f) = tR at *
 generalize placeR p0 p1 p2 p3 = ps at *
 generalize regV s wholeT = rv at *
 generalize regS s wholeT = rs at *
 generalize sameT f fetchT = okf at *
 go_enter Tryz.func57, Tryz.ntmps57
 go_upto_region 2 with (go_at_call 83; refine CP.out.mono ?_; rintro e w1 ⟨nm, ⟨md, sz, bs, of⟩, rfl, hr, hx⟩; have T1 := Lib.hid (T0.out.mark hr); have HX := Lib.hid hx; clear hr hx; simp only)
 have T2 := Lib.hid (T1.out.on (below_alloc w1 (.cells (mvC nm md sz) mvT)))
 have M2 : Hid (Blk (w1.alloc (.cells (mvC nm md sz) mvT)) w1.heap.size mvT (mvC nm md sz)) := Blk.new w1 _ _
 have HMZ : Hid (w1.heap.size ≠ y) := fun e => by have := T1.out.rd.blk.lt; omega
 obtain ⟨mz, hmz⟩ : ∃ mz, w1.heap.size = mz := ⟨_, rfl⟩
 rw [hmz] at M2 HMZ ⊢
 generalize hW2 : w1.alloc (.cells (mvC nm md sz) mvT) = W2 at *
 clear hW2 hmz
 have m1 := M2.out.cell 1
 have m2 := M2.out.cell 2
 by_cases h96 : md = 96
 focus
  subst h96
  have CK1 := CK.out sz
  obtain ⟨lk, hlk⟩ : ∃ lk, lockedS sz = lk := ⟨_, rfl⟩
  rw [hlk] at CK1
  have CK := Lib.hid CK1
  have HLK : Hid (((96 : Int) == 96 && lockedS sz) = lk) := hlk
  clear hlk CK1
  go_upto_region 3 with (first
   | (go_at_call 84; refine (CK.out _).mono ?_; rintro e w3 ⟨rfl, rfl⟩)
   | (go_at_call 52; refine (CW.out _ _ _ T2.out.rd.blk).mono ?_; rintro e' w3 ⟨rfl, hr⟩; have T3 := Lib.hid (T2.out.mark hr); have M3 := Lib.hid (M2.out.keeps hr.keeps (fun e => HMZ.out e)); clear hr))
 rotate_left 1
 focus
  have b96 : (md == 96) = false := by simpa using h96
  have HLK : Hid ((md == 96 && lockedS sz) = false) := by rw [b96]; rfl
  clear CK
  go_upto_region 3 with (first
   | (go_at_call 52; refine (CW.out _ _ _ T2.out.rd.blk).mono ?_; rintro e' w3 ⟨rfl, hr⟩; have T3 := Lib.hid (T2.out.mark hr); have M3 := Lib.hid (M2.out.keeps hr.keeps (fun e => HMZ.out e)); clear hr))
 rotate_left 1
 all_goals
  clear m1 m2
  have T4 := Lib.hid (T3.out.on (below_drew w3))
  have M4 := Lib.hid (blk_on M3.out (below_drew w3))
  have K4 : Hid (w3.drew.cell? ⟨g, off + 6, none⟩ = some (.string s) ∧ w3.drew.cell? ⟨mz, 2, none⟩ = some (.int .i64 sz)) := ⟨T4.out.rd.words 6 s rfl, M4.out.cell 2⟩
  have T4a := Lib.hid (T4.out.on (below_alloc w3.drew (.cells (inC 0 0 0 0 0) inT)))
  have M4a := Lib.hid (blk_on M4.out (below_alloc w3.drew (.cells (inC 0 0 0 0 0) inT)))
  have Z4a : Hid (Blk (w3.drew.alloc (.cells (inC 0 0 0 0 0) inT)) w3.heap.size inT (inC 0 0 0 0 0)) := Blk.new _ _ _
  have K4a : Hid ((w3.drew.alloc (.cells (inC 0 0 0 0 0) inT)).cell? ⟨g, off + 6, none⟩ = some (.string s) ∧ (w3.drew.alloc (.cells (inC 0 0 0 0 0) inT)).cell? ⟨mz, 2, none⟩ = some (.int .i64 sz)) := ⟨T4a.out.rd.words 6 s rfl, M4a.out.cell 2⟩
  have K4b : Hid ((w3.alloc (.cells (inC 0 0 0 0 0) inT)).drew.cell? ⟨g, off + 6, none⟩ = some (.string s) ∧ (w3.alloc (.cells (inC 0 0 0 0 0) inT)).drew.cell? ⟨mz, 2, none⟩ = some (.int .i64 sz)) := K4a.out
  have HZG : Hid (w3.heap.size ≠ g) := fun e => by have := T3.out.rd.lt; omega
  have HZM : Hid (w3.heap.size ≠ mz) := fun e => by have := M3.out.lt; omega
  have HZY : Hid (w3.heap.size ≠ y) := fun e => by have := T3.out.rd.blk.lt; omega
  have HZW : Hid (w.heap.size < w3.heap.size) := T3.out.slot.lt
  go_region_held3 (fun W' => W'.cell? ⟨g, off + 6, none⟩ = some (.string s) ∧ W'.cell? ⟨mz, 2, none⟩ = some (.int .i64 sz))
   (first | with_reducible exact K4.out | with_reducible exact K4a.out | with_reducible exact K4b.out | with_reducible exact K5.out | with_reducible exact K6.out _ | with_reducible exact K7.out _ _ _ _ _)
   (first | (go_at_call 50; first
    | (refine (CR.out _ _ T4a.out.rd.blk).mono ?_; rintro e' w5 ⟨rfl, hr⟩; have T5 := Lib.hid (T4a.out.mark hr); have M5 := Lib.hid (M4a.out.keeps hr.keeps (fun e => HMZ.out e)); have Z5 := Lib.hid (Z4a.out.keeps hr.keeps (fun e => HZY.out e)); clear hr; have K5 : Hid (w5.cell? ⟨g, off + 6, none⟩ = some (.string s) ∧ w5.cell? ⟨mz, 2, none⟩ = some (.int .i64 sz)) := ⟨T5.out.rd.words 6 s rfl, M5.out.cell 2⟩; have K7 : Hid (∀ v0 v1 v2 v3 v4, (((((w5.setCell ⟨w3.heap.size, 0, none⟩ v0).setCell ⟨w3.heap.size, 1, none⟩ v1).setCell ⟨w3.heap.size, 2, none⟩ v2).setCell ⟨w3.heap.size, 3, none⟩ v3).setCell ⟨w3.heap.size, 4, none⟩ v4).cell? ⟨g, off + 6, none⟩ = some (.string s) ∧ (((((w5.setCell ⟨w3.heap.size, 0, none⟩ v0).setCell ⟨w3.heap.size, 1, none⟩ v1).setCell ⟨w3.heap.size, 2, none⟩ v2).setCell ⟨w3.heap.size, 3, none⟩ v3).setCell ⟨w3.heap.size, 4, none⟩ v4).cell? ⟨mz, 2, none⟩ = some (.int .i64 sz)) := fun v0 v1 v2 v3 v4 => ⟨cells_keep5 T5.out.rd.lt (fun e => HZG.out e.symm) K5.out.1 v0 v1 v2 v3 v4, cells_keep5 M5.out.lt (fun e => HZM.out e.symm) K5.out.2 v0 v1 v2 v3 v4⟩; have r0 := Z5.out.cell 0; have r1 := Z5.out.cell 1; have r2 := Z5.out.cell 2; have r3 := Z5.out.cell 3; have r4 := Z5.out.cell 4; have s0 := Z5.out.frozen 0; have s1 := Z5.out.frozen 1; have s2 := Z5.out.frozen 2; have s3 := Z5.out.frozen 3; have s4 := Z5.out.frozen 4)
    | (refine (CR.out _ _ T4.out.rd.blk).mono ?_; rintro e' w5 ⟨rfl, hr⟩; have T5 := Lib.hid (T4.out.mark hr); have M5 := Lib.hid (M4.out.keeps hr.keeps (fun e => HMZ.out e)); clear hr; have K5 : Hid (w5.cell? ⟨g, off + 6, none⟩ = some (.string s) ∧ w5.cell? ⟨mz, 2, none⟩ = some (.int .i64 sz)) := ⟨T5.out.rd.words 6 s rfl, M5.out.cell 2⟩; have K6 : Hid (∀ o, (w5.alloc o).cell? ⟨g, off + 6, none⟩ = some (.string s) ∧ (w5.alloc o).cell? ⟨mz, 2, none⟩ = some (.int .i64 sz)) := fun o => ⟨(T5.out.on (below_alloc _ o)).rd.words 6 s rfl, (blk_on M5.out (below_alloc _ o)).cell 2⟩)))
 all_goals first
  |have tq := b96
   clear tq
   first
    | (have Z : Hid (RZ w (w5.alloc (.cells (inC (bits .or .i64 (bits .or .i64 192 sz) 3) bs rv of 0) inT)) y (((b || !ps.isSome) || !false) || !rs.isSome) w5.heap.size w.heap.size (inC (bits .or .i64 (bits .or .i64 192 sz) 3) bs rv of 0) (inC 0 0 0 0 0)) := T5.out.slots _
       have D := Lib.hid (T5.out.rd.on (below_alloc w5 (.cells (inC (bits .or .i64 (bits .or .i64 192 sz) 3) bs rv of 0) inT)))
       obtain ⟨W, hW⟩ : ∃ W, w5.alloc (.cells (inC (bits .or .i64 (bits .or .i64 192 sz) 3) bs rv of 0) inT) = W := ⟨_, rfl⟩
       rw [hW] at Z D ⊢
       obtain ⟨z, hz⟩ : ∃ z, w5.heap.size = z := ⟨_, rfl⟩
       rw [hz] at Z ⊢)
    | (have Z := Lib.hid (RZ.allz (⟨T5.out.r, Z5.out, T5.out.slot, Nat.le_of_lt HZW.out, Nat.le_refl _, T5.out.hy, fun e => by have := HZW.out; omega⟩ : RZ w w5 y (((b || !ps.isSome) || !false) || !rs.isSome) w3.heap.size w.heap.size (inC 0 0 0 0 0) (inC 0 0 0 0 0)) (.int .i64 (bits .or .i64 (bits .or .i64 192 sz) 3)) (.int .i64 bs) (.int .i64 rv) (.int .i64 of) (.int .i64 0))
       have D := Lib.hid (T5.out.rd.keeps (keeps5 w5 w3.heap.size (.int .i64 (bits .or .i64 (bits .or .i64 192 sz) 3)) (.int .i64 bs) (.int .i64 rv) (.int .i64 of) (.int .i64 0)) (fun k hk => by subst hk; exact ⟨Nat.le_trans HB0.out (Nat.le_of_lt HZW.out), HZG.out⟩) Z.out.rd.blk)
       obtain ⟨W, hW⟩ : ∃ W, (((((w5.setCell ⟨w3.heap.size, 0, none⟩ (.int .i64 (bits .or .i64 (bits .or .i64 192 sz) 3))).setCell ⟨w3.heap.size, 1, none⟩ (.int .i64 bs)).setCell ⟨w3.heap.size, 2, none⟩ (.int .i64 rv)).setCell ⟨w3.heap.size, 3, none⟩ (.int .i64 of)).setCell ⟨w3.heap.size, 4, none⟩ (.int .i64 0)) = W := ⟨_, rfl⟩
       rw [hW] at Z D ⊢
       obtain ⟨z, hz⟩ : ∃ z, w3.heap.size = z := ⟨_, rfl⟩
       rw [hz] at Z ⊢)
   clear hW hz T4 T4a M4 M4a Z4a K4 K4a K4b K5 T5 M5 T3 M3 HZG HZM HZY HZW T1 T2 M2
   try clear K6
   try clear K7 Z5 r0 r1 r2 r3 r4 s0 s1 s2 s3 s4
   have d7 : W.cell? ⟨g, off + 7, none⟩ = some (.string f) := D.out.words 7 f rfl
   go_upto_region 6 with (go_at_call 52; refine (CW.out _ _ _ Z.out.rd.blk).mono ?_; rintro e' W7 ⟨rfl, hr⟩; have Z7 := Lib.hid (Z.out.mark hr); have D7 := Lib.hid (D.out.mark hr); clear hr)
   clear d7
   obtain ⟨tyq, cs, hB, hi, hat⟩ := D7.out.tabs.locks_any
   have HB := Lib.hid hB
   have HXX := Lib.hid hi
   have HA := Lib.hid hat
   clear hB hi hat Z D
   go_wp2_with (refine wpList_load_row rfl locksT _ rfl 4 rfl tyq cs (0, 0) _ HB.out Tryz.underlying120 rfl HXX.out ?_)
   clear HB HXX
   go_loopw [11, 56] (fun _ i' wr => ∃ j : Nat, i' = .int .i64 (j : Int) ∧ j ≤ 6 ∧ RZ w wr y ((((b || !ps.isSome) || !false) || !rs.isSome) || !okf) z w.heap.size (inC (bits .or .i64 (bits .or .i64 192 sz) 3) bs rv of 0) (inC 0 0 0 0 0) ∧ Rd w0 wr y ((((b || !ps.isSome) || !false) || !rs.isSome) || !okf) g off [i, p0, p1, p2, p3, k, s, f] ∧ lockF k true (lockL.drop j) = lockF k true lockL) (fun _ i' _ => 6 - (Lib.intOf i').toNat)
   case atStart => exact ⟨0, rfl, by decide, Z7.out, D7.out, rfl⟩
   case round =>
    obtain ⟨j, rfl, hk, hR, hR2, hD⟩ := hrel
    have HR := Lib.hid hR
    have HR2 := Lib.hid hR2
    have HD := Lib.hid hD
    have HK := Lib.hid hk
    clear hR hR2 hD hk Z7 D7
    by_cases h7 : j < 6
    ·obtain ⟨nm', im, fo, e1, e2, e3⟩ := HA.out j h7
     have i1 : (j : Int) < 6 := by omega
     have HW := Lib.hid h7
     have HD2 : Hid (lockF k true ((nm', im, fo) :: lockL.drop (j + 1)) = lockF k true lockL) := by
      have := HD.out
      rwa [drop_at e1] at this
     have eim : IntKind.i64.wrap (im + 1) = im + 1 := IntWalk.i64_in _ (by omega)
     clear h7 e1 e2 HD
     have d5 : ∀ o', (wr.alloc o').cell? ⟨g, off + 5, none⟩ = some (.string k) := fun o' => (HR2.out.on (below_alloc wr o')).words 5 k rfl
     go_upto_region 9 with fail
     by_cases hq : sameT nm' k = true
     ·have bq : (nm'.toList == k.toList) = true := (same_beq _ _).trans hq
      have bq2 : nm'.toList = k.toList := by simpa using bq
      cases fo
      ·have HD3 : Hid (lockF k true (lockL.drop (j + 1)) = lockF k true lockL) := by
        rw [← HD2.out, lockF, if_neg (fun h => by simpa using h.2 rfl)]
        exact rfl
       clear hq HD2
       go_quiet (fail)
       have bw : Hid (Below wr.heap.size wr ((wr.alloc (.cells #[.string nm', .int .i64 im, .bool false] 119)).drewN nq)) := (below_alloc wr _).on (below_drewN _ nq)
       go_wp2_with fail
       go_roundw
       case rel => exact ⟨j + 1, rfl, HW.out, HR.out.on bw.out, HR2.out.on bw.out, HD3.out⟩
       case measure =>
        have := HW.out
        simp only [Lib.intOf]
        omega
      ·have HP : Hid (lockF k true lockL = some (im + 1)) := by
        rw [← HD2.out, lockF, if_pos ⟨hq, by simp⟩]
        exact rfl
       clear hq HD2
       go_quiet (fail)
       obtain ⟨W8, hW8⟩ : ∃ W, (wr.alloc (.cells #[.string nm', .int .i64 im, .bool true] 119)).drewN nq = W := ⟨_, rfl⟩
       have bw : Below wr.heap.size wr W8 := by rw [← hW8]; exact (below_alloc wr _).on (below_drewN _ nq)
       have T : Hid (Blk W8 wr.heap.size 119 #[.string nm', .int .i64 im, .bool true]) := by rw [← hW8]; exact blk_on (Blk.new _ _ _) (below_drewN _ nq)
       rw [hW8]
       have Z := Lib.hid (HR.out.on bw)
       clear hW8 bw d5
       have t1 := T.out.cell 1
       have g0 := Z.out.sl.cell 0; have g1 := Z.out.sl.cell 1; have g2 := Z.out.sl.cell 2; have g3 := Z.out.sl.cell 3; have g4 := Z.out.sl.cell 4
       have r0 := Z.out.rs.cell 0; have r1 := Z.out.rs.cell 1; have r2 := Z.out.rs.cell 2; have r3 := Z.out.rs.cell 3; have r4 := Z.out.rs.cell 4; have s0 := Z.out.rs.frozen 0; have s1 := Z.out.rs.frozen 1; have s2 := Z.out.rs.frozen 2; have s3 := Z.out.rs.frozen 3; have s4 := Z.out.rs.frozen 4
       have f4 := Z.out.sl.frozen 4
       have ne5 : ¬ wr.heap.size = z := fun e => by have := HR.out.sl.lt; omega
       have ne6 : ¬ z = wr.heap.size := fun e => by have := HR.out.sl.lt; omega
       have ne7 : ¬ z = w.heap.size := Z.out.ne
       have ne8 : ¬ w.heap.size = z := fun e => Z.out.ne e.symm
       go_wp2_with fail
       have H9 := Lib.hid (((Z.out.set 4 (.int .i64 im)).set 4 (.int .i64 (im + 1))).all (.int .i64 (bits .or .i64 (bits .or .i64 192 sz) 3)) (.int .i64 bs) (.int .i64 rv) (.int .i64 of) (.int .i64 (im + 1)))
       refine bodyPost_ret (results_cell_row rfl _ _ w.heap.size inT _ (0, 0) _ rfl H9.out.rs Tryz.underlying38 rfl (by kernel_rfl)) rfl ?_
       rw [HG.out]
       exact gives_lock (x := ⟨bits .or .i64 (bits .or .i64 192 sz) 3, bs, (rv : Int), of, im + 1⟩) rfl HX.out HV.out HLK.out (by rw [HP.out]; simpa using H9.out.rd) (fun m hm => by rw [HP.out] at hm; cases hm; rfl)
     ·have bq : (nm'.toList == k.toList) = false := (same_beq _ _).trans (by simpa using hq)
      have bq2 : ¬ nm'.toList = k.toList := by simpa using bq
      have HD3 : Hid (lockF k true (lockL.drop (j + 1)) = lockF k true lockL) := by
       rw [← HD2.out, lockF, if_neg (fun h => hq h.1)]
       exact rfl
      clear hq HD2
      go_quiet (fail)
      have bw : Hid (Below wr.heap.size wr ((wr.alloc (.cells #[.string nm', .int .i64 im, .bool fo] 119)).drewN nq)) := (below_alloc wr _).on (below_drewN _ nq)
      go_wp2_with fail
      go_roundw
      case rel => exact ⟨j + 1, rfl, HW.out, HR.out.on bw.out, HR2.out.on bw.out, HD3.out⟩
      case measure =>
       have := HW.out
       simp only [Lib.intOf]
       omega
    ·have hk7 : j = 6 := by have := HK.out; omega
     subst hk7
     have HF : Hid (lockF k true lockL = none) := by
      rw [← HD.out]
      exact rfl
     have g0 := HR.out.sl.cell 0; have g1 := HR.out.sl.cell 1; have g2 := HR.out.sl.cell 2; have g3 := HR.out.sl.cell 3; have g4 := HR.out.sl.cell 4
     have r0 := HR.out.rs.cell 0; have r1 := HR.out.rs.cell 1; have r2 := HR.out.rs.cell 2; have r3 := HR.out.rs.cell 3; have r4 := HR.out.rs.cell 4; have s0 := HR.out.rs.frozen 0; have s1 := HR.out.rs.frozen 1; have s2 := HR.out.rs.frozen 2; have s3 := HR.out.rs.frozen 3; have s4 := HR.out.rs.frozen 4
     have y0 := HR.out.rd.blk.cell 0; have y1 := HR.out.rd.blk.frozen 0
     have neyz : ¬ y = z := fun e => by have := HR.out.hz; have := HR.out.hy; omega
     have nezy : ¬ z = y := fun e => by have := HR.out.hz; have := HR.out.hy; omega
     have neyw : ¬ y = w.heap.size := fun e => by have := HR.out.hy; omega
     have newy : ¬ w.heap.size = y := fun e => by have := HR.out.hy; omega
     clear h7 HD HK
     go_wp2_with fail
     have H9 := Lib.hid (HR.out.wrong.all (.int .i64 (bits .or .i64 (bits .or .i64 192 sz) 3)) (.int .i64 bs) (.int .i64 rv) (.int .i64 of) (.int .i64 0))
     refine bodyPost_ret (results_cell_row rfl _ _ w.heap.size inT _ (0, 0) _ rfl H9.out.rs Tryz.underlying38 rfl (by kernel_rfl)) rfl ?_
     rw [HG.out]
     exact gives_lock (x := ⟨bits .or .i64 (bits .or .i64 192 sz) 3, bs, (rv : Int), of, 0⟩) rfl HX.out HV.out HLK.out (by rw [HF.out]; simpa using H9.out.rd) (fun m hm => by rw [HF.out] at hm; cases hm)
  |skip
   first
    | (have Z : Hid (RZ w (w5.alloc (.cells (inC (bits .or .i64 (bits .or .i64 192 sz) 3) bs rv of 0) inT)) y (((b || !ps.isSome) || !lk) || !rs.isSome) w5.heap.size w.heap.size (inC (bits .or .i64 (bits .or .i64 192 sz) 3) bs rv of 0) (inC 0 0 0 0 0)) := T5.out.slots _
       have D := Lib.hid (T5.out.rd.on (below_alloc w5 (.cells (inC (bits .or .i64 (bits .or .i64 192 sz) 3) bs rv of 0) inT)))
       obtain ⟨W, hW⟩ : ∃ W, w5.alloc (.cells (inC (bits .or .i64 (bits .or .i64 192 sz) 3) bs rv of 0) inT) = W := ⟨_, rfl⟩
       rw [hW] at Z D ⊢
       obtain ⟨z, hz⟩ : ∃ z, w5.heap.size = z := ⟨_, rfl⟩
       rw [hz] at Z ⊢)
    | (have Z := Lib.hid (RZ.allz (⟨T5.out.r, Z5.out, T5.out.slot, Nat.le_of_lt HZW.out, Nat.le_refl _, T5.out.hy, fun e => by have := HZW.out; omega⟩ : RZ w w5 y (((b || !ps.isSome) || !lk) || !rs.isSome) w3.heap.size w.heap.size (inC 0 0 0 0 0) (inC 0 0 0 0 0)) (.int .i64 (bits .or .i64 (bits .or .i64 192 sz) 3)) (.int .i64 bs) (.int .i64 rv) (.int .i64 of) (.int .i64 0))
       have D := Lib.hid (T5.out.rd.keeps (keeps5 w5 w3.heap.size (.int .i64 (bits .or .i64 (bits .or .i64 192 sz) 3)) (.int .i64 bs) (.int .i64 rv) (.int .i64 of) (.int .i64 0)) (fun k hk => by subst hk; exact ⟨Nat.le_trans HB0.out (Nat.le_of_lt HZW.out), HZG.out⟩) Z.out.rd.blk)
       obtain ⟨W, hW⟩ : ∃ W, (((((w5.setCell ⟨w3.heap.size, 0, none⟩ (.int .i64 (bits .or .i64 (bits .or .i64 192 sz) 3))).setCell ⟨w3.heap.size, 1, none⟩ (.int .i64 bs)).setCell ⟨w3.heap.size, 2, none⟩ (.int .i64 rv)).setCell ⟨w3.heap.size, 3, none⟩ (.int .i64 of)).setCell ⟨w3.heap.size, 4, none⟩ (.int .i64 0)) = W := ⟨_, rfl⟩
       rw [hW] at Z D ⊢
       obtain ⟨z, hz⟩ : ∃ z, w3.heap.size = z := ⟨_, rfl⟩
       rw [hz] at Z ⊢)
   clear hW hz T4 T4a M4 M4a Z4a K4 K4a K4b K5 T5 M5 T3 M3 HZG HZM HZY HZW T1 T2 M2
   try clear K6
   try clear K7 Z5 r0 r1 r2 r3 r4 s0 s1 s2 s3 s4
   have d7 : W.cell? ⟨g, off + 7, none⟩ = some (.string f) := D.out.words 7 f rfl
   go_upto_region 6 with (go_at_call 52; refine (CW.out _ _ _ Z.out.rd.blk).mono ?_; rintro e' W7 ⟨rfl, hr⟩; have Z7 := Lib.hid (Z.out.mark hr); have D7 := Lib.hid (D.out.mark hr); clear hr)
   clear d7
   obtain ⟨tyq, cs, hB, hi, hat⟩ := D7.out.tabs.locks_any
   have HB := Lib.hid hB
   have HXX := Lib.hid hi
   have HA := Lib.hid hat
   clear hB hi hat Z D
   go_wp2_with (refine wpList_load_row rfl locksT _ rfl 4 rfl tyq cs (0, 0) _ HB.out Tryz.underlying120 rfl HXX.out ?_)
   clear HB HXX
   go_loopw [11, 56] (fun _ i' wr => ∃ j : Nat, i' = .int .i64 (j : Int) ∧ j ≤ 6 ∧ RZ w wr y ((((b || !ps.isSome) || !lk) || !rs.isSome) || !okf) z w.heap.size (inC (bits .or .i64 (bits .or .i64 192 sz) 3) bs rv of 0) (inC 0 0 0 0 0) ∧ Rd w0 wr y ((((b || !ps.isSome) || !lk) || !rs.isSome) || !okf) g off [i, p0, p1, p2, p3, k, s, f] ∧ lockF k true (lockL.drop j) = lockF k true lockL) (fun _ i' _ => 6 - (Lib.intOf i').toNat)
   case atStart => exact ⟨0, rfl, by decide, Z7.out, D7.out, rfl⟩
   case round =>
    obtain ⟨j, rfl, hk, hR, hR2, hD⟩ := hrel
    have HR := Lib.hid hR
    have HR2 := Lib.hid hR2
    have HD := Lib.hid hD
    have HK := Lib.hid hk
    clear hR hR2 hD hk Z7 D7
    by_cases h7 : j < 6
    ·obtain ⟨nm', im, fo, e1, e2, e3⟩ := HA.out j h7
     have i1 : (j : Int) < 6 := by omega
     have HW := Lib.hid h7
     have HD2 : Hid (lockF k true ((nm', im, fo) :: lockL.drop (j + 1)) = lockF k true lockL) := by
      have := HD.out
      rwa [drop_at e1] at this
     have eim : IntKind.i64.wrap (im + 1) = im + 1 := IntWalk.i64_in _ (by omega)
     clear h7 e1 e2 HD
     have d5 : ∀ o', (wr.alloc o').cell? ⟨g, off + 5, none⟩ = some (.string k) := fun o' => (HR2.out.on (below_alloc wr o')).words 5 k rfl
     go_upto_region 9 with fail
     by_cases hq : sameT nm' k = true
     ·have bq : (nm'.toList == k.toList) = true := (same_beq _ _).trans hq
      have bq2 : nm'.toList = k.toList := by simpa using bq
      cases fo
      ·have HD3 : Hid (lockF k true (lockL.drop (j + 1)) = lockF k true lockL) := by
        rw [← HD2.out, lockF, if_neg (fun h => by simpa using h.2 rfl)]
        exact rfl
       clear hq HD2
       go_quiet (fail)
       have bw : Hid (Below wr.heap.size wr ((wr.alloc (.cells #[.string nm', .int .i64 im, .bool false] 119)).drewN nq)) := (below_alloc wr _).on (below_drewN _ nq)
       go_wp2_with fail
       go_roundw
       case rel => exact ⟨j + 1, rfl, HW.out, HR.out.on bw.out, HR2.out.on bw.out, HD3.out⟩
       case measure =>
        have := HW.out
        simp only [Lib.intOf]
        omega
      ·have HP : Hid (lockF k true lockL = some (im + 1)) := by
        rw [← HD2.out, lockF, if_pos ⟨hq, by simp⟩]
        exact rfl
       clear hq HD2
       go_quiet (fail)
       obtain ⟨W8, hW8⟩ : ∃ W, (wr.alloc (.cells #[.string nm', .int .i64 im, .bool true] 119)).drewN nq = W := ⟨_, rfl⟩
       have bw : Below wr.heap.size wr W8 := by rw [← hW8]; exact (below_alloc wr _).on (below_drewN _ nq)
       have T : Hid (Blk W8 wr.heap.size 119 #[.string nm', .int .i64 im, .bool true]) := by rw [← hW8]; exact blk_on (Blk.new _ _ _) (below_drewN _ nq)
       rw [hW8]
       have Z := Lib.hid (HR.out.on bw)
       clear hW8 bw d5
       have t1 := T.out.cell 1
       have g0 := Z.out.sl.cell 0; have g1 := Z.out.sl.cell 1; have g2 := Z.out.sl.cell 2; have g3 := Z.out.sl.cell 3; have g4 := Z.out.sl.cell 4
       have r0 := Z.out.rs.cell 0; have r1 := Z.out.rs.cell 1; have r2 := Z.out.rs.cell 2; have r3 := Z.out.rs.cell 3; have r4 := Z.out.rs.cell 4; have s0 := Z.out.rs.frozen 0; have s1 := Z.out.rs.frozen 1; have s2 := Z.out.rs.frozen 2; have s3 := Z.out.rs.frozen 3; have s4 := Z.out.rs.frozen 4
       have f4 := Z.out.sl.frozen 4
       have ne5 : ¬ wr.heap.size = z := fun e => by have := HR.out.sl.lt; omega
       have ne6 : ¬ z = wr.heap.size := fun e => by have := HR.out.sl.lt; omega
       have ne7 : ¬ z = w.heap.size := Z.out.ne
       have ne8 : ¬ w.heap.size = z := fun e => Z.out.ne e.symm
       go_wp2_with fail
       have H9 := Lib.hid (((Z.out.set 4 (.int .i64 im)).set 4 (.int .i64 (im + 1))).all (.int .i64 (bits .or .i64 (bits .or .i64 192 sz) 3)) (.int .i64 bs) (.int .i64 rv) (.int .i64 of) (.int .i64 (im + 1)))
       refine bodyPost_ret (results_cell_row rfl _ _ w.heap.size inT _ (0, 0) _ rfl H9.out.rs Tryz.underlying38 rfl (by kernel_rfl)) rfl ?_
       rw [HG.out]
       exact gives_lock (x := ⟨bits .or .i64 (bits .or .i64 192 sz) 3, bs, (rv : Int), of, im + 1⟩) rfl HX.out HV.out HLK.out (by rw [HP.out]; simpa using H9.out.rd) (fun m hm => by rw [HP.out] at hm; cases hm; rfl)
     ·have bq : (nm'.toList == k.toList) = false := (same_beq _ _).trans (by simpa using hq)
      have bq2 : ¬ nm'.toList = k.toList := by simpa using bq
      have HD3 : Hid (lockF k true (lockL.drop (j + 1)) = lockF k true lockL) := by
       rw [← HD2.out, lockF, if_neg (fun h => hq h.1)]
       exact rfl
      clear hq HD2
      go_quiet (fail)
      have bw : Hid (Below wr.heap.size wr ((wr.alloc (.cells #[.string nm', .int .i64 im, .bool fo] 119)).drewN nq)) := (below_alloc wr _).on (below_drewN _ nq)
      go_wp2_with fail
      go_roundw
      case rel => exact ⟨j + 1, rfl, HW.out, HR.out.on bw.out, HR2.out.on bw.out, HD3.out⟩
      case measure =>
       have := HW.out
       simp only [Lib.intOf]
       omega
    ·have hk7 : j = 6 := by have := HK.out; omega
     subst hk7
     have HF : Hid (lockF k true lockL = none) := by
      rw [← HD.out]
      exact rfl
     have g0 := HR.out.sl.cell 0; have g1 := HR.out.sl.cell 1; have g2 := HR.out.sl.cell 2; have g3 := HR.out.sl.cell 3; have g4 := HR.out.sl.cell 4
     have r0 := HR.out.rs.cell 0; have r1 := HR.out.rs.cell 1; have r2 := HR.out.rs.cell 2; have r3 := HR.out.rs.cell 3; have r4 := HR.out.rs.cell 4; have s0 := HR.out.rs.frozen 0; have s1 := HR.out.rs.frozen 1; have s2 := HR.out.rs.frozen 2; have s3 := HR.out.rs.frozen 3; have s4 := HR.out.rs.frozen 4
     have y0 := HR.out.rd.blk.cell 0; have y1 := HR.out.rd.blk.frozen 0
     have neyz : ¬ y = z := fun e => by have := HR.out.hz; have := HR.out.hy; omega
     have nezy : ¬ z = y := fun e => by have := HR.out.hz; have := HR.out.hy; omega
     have neyw : ¬ y = w.heap.size := fun e => by have := HR.out.hy; omega
     have newy : ¬ w.heap.size = y := fun e => by have := HR.out.hy; omega
     clear h7 HD HK
     go_wp2_with fail
     have H9 := Lib.hid (HR.out.wrong.all (.int .i64 (bits .or .i64 (bits .or .i64 192 sz) 3)) (.int .i64 bs) (.int .i64 rv) (.int .i64 of) (.int .i64 0))
     refine bodyPost_ret (results_cell_row rfl _ _ w.heap.size inT _ (0, 0) _ rfl H9.out.rs Tryz.underlying38 rfl (by kernel_rfl)) rfl ?_
     rw [HG.out]
     exact gives_lock (x := ⟨bits .or .i64 (bits .or .i64 192 sz) 3, bs, (rv : Int), of, 0⟩) rfl HX.out HV.out HLK.out (by rw [HF.out]; simpa using H9.out.rd) (fun m hm => by rw [HF.out] at hm; cases hm)
end Go.Proofs.YtemiklbkfogjeaaGreatDoor
