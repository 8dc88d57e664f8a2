/-
  Package asm, reading: load, store. Package asm, reading: store.
-/
import Derived.Test.YtemiklbkfogjeaaGreatDoorQ14
namespace Go.Proofs.YtemiklbkfogjeaaGreatDoor
open Go Go.RowKit Go.Maps
set_option linter.unusedVariables false
set_option linter.unusedSimpArgs false
set_option maxRecDepth 100000
theorem sizeSl (w : World) : (sizeOf (Tryz.prog.elem strsT)).run Tryz.prog w = .ok 1 w := by kernel_rfl
theorem elemSl : Tryz.prog.underlying strsT = some (.slice (Tryz.prog.elem strsT)) := by kernel_rfl
theorem slice_at (g o n c q : Nat) (hq : q < n) (hc : n ≤ c) (w : World) : (Instr.slice strsT (.slice (some ⟨g, o, none⟩) n c) (some (.int .i64 (q : Int))) none none).run Tryz.prog w = .ok (.slice (some ⟨g, o + q, none⟩) (n - q) (c - q)) w := by
 rw [run_slice_l (ht := elemSl) (h0 := by omega) (h1 := by omega), sizeSl]
 have h : ¬ c = q := by omega
 by_cases h0 : q = 0
 ·simp [Result.andThen, sliced, Addr.add, h, h0]
 ·simp [Result.andThen, sliced, Addr.add, h, h0]
theorem slice_2 (g o c : Nat) (hc : 6 ≤ c) (w : World) : (Instr.slice strsT (.slice (some ⟨g, o, none⟩) 6 c) (some (.int .i64 2)) none none).run Tryz.prog w = .ok (.slice (some ⟨g, o + 2, none⟩) 4 (c - 2)) w := slice_at g o 6 c 2 (by decide) hc w
theorem slice_1 (g o n c : Nat) (hn : 1 < n) (hc : n ≤ c) (w : World) : (Instr.slice strsT (.slice (some ⟨g, o, none⟩) n c) (some (.int .i64 1)) none none).run Tryz.prog w = .ok (.slice (some ⟨g, o + 1, none⟩) (n - 1) (c - 1)) w := slice_at g o n c 1 hn hc w
theorem cells_keep5 {W : World} {g i z : Nat} {v : Value} (hlt : g < W.heap.size) (hne : g ≠ z) (h : W.cell? ⟨g, i, none⟩ = some v) (v0 v1 v2 v3 v4 : Value) : (((((W.setCell ⟨z, 0, none⟩ v0).setCell ⟨z, 1, none⟩ v1).setCell ⟨z, 2, none⟩ v2).setCell ⟨z, 3, none⟩ v3).setCell ⟨z, 4, none⟩ v4).cell? ⟨g, i, none⟩ = some v :=
 cell_keeps (keeps5 W z v0 v1 v2 v3 v4) hlt hne h
abbrev mvT : TypeId := 115
abbrev mvC (nm : ByteArray) (md sz : Int) : Array Value := #[.string nm, .int .i64 md, .int .i64 sz]
def loadR (a p0 p1 p2 p3 : ByteArray) : Option Slot := (placeR p0 p1 p2 p3).bind fun x => (regS a wholeT).map fun d : Nat => (⟨bits .or .i64 (bits .or .i64 x.md x.sz) 1, (d : Int), x.base, x.off, 0⟩ : Slot)
theorem gives_plc {w W : World} {y : Nat} {b : Bool} {ps : Option Plc} {x0 : Plc} {rs : Option Nat} {rv : Nat} {F : Plc → Nat → Slot} {e : Ending} (he : e = .returned (.agg (inC (F x0 rv).o (F x0 rv).d (F x0 rv).s (F x0 rv).f (F x0 rv).m)))
  (hp : ∀ z, ps = some z → x0 = z) (hv : ∀ r, rs = some r → rv = r) (h : RD w W y ((b || !ps.isSome) || !rs.isSome)) : GivesI w y b (ps.bind fun x => rs.map fun d => F x d) e W := by
 refine ⟨F x0 rv, he, ?_, fun z hz => ?_⟩
 ·rcases ps with _ | p
  ·cases b <;> simpa using h
  ·rcases rs with _ | r
   ·cases b <;> simpa using h
   ·cases b <;> simpa using h
 ·obtain ⟨p, h1, hz⟩ := Option.bind_eq_some_iff.1 hz
  obtain ⟨r, h2, rfl⟩ := Option.map_eq_some_iff.1 hz
  rw [hp p h1, hv r h2]
set_option maxHeartbeats 8000000 in
theorem loadR_any {w0 w : World} {y g off : Nat} {b : Bool} (a q p0 p1 p2 p3 : ByteArray) (h : Rd w0 w y b g off [a, q, p0, p1, p2, p3]) (n cc : Nat) (hn : n = 6) (hcc : n ≤ cc) :
  Calls Tryz.prog 60 #[rp y, .slice (some ⟨g, off, none⟩) n cc] w (GivesI w y b (loadR a p0 p1 p2 p3)) := by
 subst hn
 have CR := Lib.hid (fun w' b' (hb : Blk w' y rdT #[.bool b']) => register_any hb a wholeT (h.small a (by simp)) (by decide))
 have HV : Hid (∀ r, regS a wholeT = some r → regV a wholeT = r) := fun r => regS_val
 have T0 := Lib.hid (TX.start h)
 have HGL : Hid (g < w.heap.size) := h.lt
 have CP := Lib.hid (placeR_any p0 p1 p2 p3 [] (T0.out.rd.sub 2) 4 (cc - 2) (by decide))
 have sl := slice_2 g off cc hcc
 have HG : Hid (loadR a p0 p1 p2 p3 = (placeR p0 p1 p2 p3).bind fun x => (regS a wholeT).map fun d : Nat => (⟨bits .or .i64 (bits .or .i64 x.md x.sz) 1, (d : Int), x.base, x.off, 0⟩ : Slot)) := rfl
 clear h hcc
 generalize loadR a p0 p1 p2 p3 = tR at *
 generalize placeR p0 p1 p2 p3 = ps at *
 generalize regV a wholeT = rv at *
 generalize regS a wholeT = rs at *
 go_enter Tryz.func60, Tryz.ntmps60
 go_upto_region 2 with (go_at_call 83; refine CP.out.mono ?_; rintro e w1 ⟨nm, ⟨md, sz, bs, of⟩, rfl, hr, hx⟩; have T1 := Lib.hid (T0.out.mark hr); have HX := Lib.hid hx; clear hr hx; simp only)
 have T1a := Lib.hid (T1.out.on (below_alloc w1 (.cells (mvC nm md sz) mvT)))
 have M1a : Hid (Blk (w1.alloc (.cells (mvC nm md sz) mvT)) w1.heap.size mvT (mvC nm md sz)) := Blk.new w1 _ _
 have HMZ : Hid (w1.heap.size ≠ y) := fun e => by have := T1.out.rd.blk.lt; omega
 have HMW : Hid (w1.heap.size ≠ w.heap.size) := fun e => by have := T1.out.slot.lt; omega
 have HGW : Hid (g ≠ w.heap.size) := fun e => by have := HGL.out; omega
 obtain ⟨mz, hmz⟩ : ∃ mz, w1.heap.size = mz := ⟨_, rfl⟩
 rw [hmz] at M1a HMZ HMW ⊢
 obtain ⟨W1, hW1⟩ : ∃ W1, w1.alloc (.cells (mvC nm md sz) mvT) = W1 := ⟨_, rfl⟩
 rw [hW1] at T1a M1a ⊢
 clear hW1 hmz T1
 have T2 := Lib.hid (T1a.out.on (below_drew W1))
 have M2 := Lib.hid (blk_on M1a.out (below_drew W1))
 have K2 : Hid (W1.drew.cell? ⟨g, off, none⟩ = some (.string a) ∧ W1.drew.cell? ⟨mz, 1, none⟩ = some (.int .i64 md) ∧ W1.drew.cell? ⟨mz, 2, none⟩ = some (.int .i64 sz)) := ⟨T2.out.rd.words 0 a rfl, M2.out.cell 1, M2.out.cell 2⟩
 go_region_held3 (fun W' => W'.cell? ⟨g, off, none⟩ = some (.string a) ∧ W'.cell? ⟨mz, 1, none⟩ = some (.int .i64 md) ∧ W'.cell? ⟨mz, 2, none⟩ = some (.int .i64 sz))
  (first | with_reducible exact K2.out | with_reducible exact K3.out | with_reducible exact K6.out _ _ _ _ _)
  (first | (go_at_call 50; refine (CR.out _ _ T2.out.rd.blk).mono ?_; rintro e' w3 ⟨rfl, hr⟩; have T3 := Lib.hid (T2.out.mark hr); have M3 := Lib.hid (M2.out.keeps hr.keeps (fun e => HMZ.out e)); clear hr; have K3 : Hid (w3.cell? ⟨g, off, none⟩ = some (.string a) ∧ w3.cell? ⟨mz, 1, none⟩ = some (.int .i64 md) ∧ w3.cell? ⟨mz, 2, none⟩ = some (.int .i64 sz)) := ⟨T3.out.rd.words 0 a rfl, M3.out.cell 1, M3.out.cell 2⟩; have K6 : Hid (∀ v0 v1 v2 v3 v4, (((((w3.setCell ⟨w.heap.size, 0, none⟩ v0).setCell ⟨w.heap.size, 1, none⟩ v1).setCell ⟨w.heap.size, 2, none⟩ v2).setCell ⟨w.heap.size, 3, none⟩ v3).setCell ⟨w.heap.size, 4, none⟩ v4).cell? ⟨g, off, none⟩ = some (.string a) ∧ (((((w3.setCell ⟨w.heap.size, 0, none⟩ v0).setCell ⟨w.heap.size, 1, none⟩ v1).setCell ⟨w.heap.size, 2, none⟩ v2).setCell ⟨w.heap.size, 3, none⟩ v3).setCell ⟨w.heap.size, 4, none⟩ v4).cell? ⟨mz, 1, none⟩ = some (.int .i64 md) ∧ (((((w3.setCell ⟨w.heap.size, 0, none⟩ v0).setCell ⟨w.heap.size, 1, none⟩ v1).setCell ⟨w.heap.size, 2, none⟩ v2).setCell ⟨w.heap.size, 3, none⟩ v3).setCell ⟨w.heap.size, 4, none⟩ v4).cell? ⟨mz, 2, none⟩ = some (.int .i64 sz)) := fun v0 v1 v2 v3 v4 => ⟨cells_keep5 T3.out.rd.lt HGW.out K3.out.1 v0 v1 v2 v3 v4, cells_keep5 M3.out.lt HMW.out K3.out.2.1 v0 v1 v2 v3 v4, cells_keep5 M3.out.lt HMW.out K3.out.2.2 v0 v1 v2 v3 v4⟩; have r0 := T3.out.slot.cell 0; have r1 := T3.out.slot.cell 1; have r2 := T3.out.slot.cell 2; have r3 := T3.out.slot.cell 3; have r4 := T3.out.slot.cell 4; have s0 := T3.out.slot.frozen 0; have s1 := T3.out.slot.frozen 1; have s2 := T3.out.slot.frozen 2; have s3 := T3.out.slot.frozen 3; have s4 := T3.out.slot.frozen 4))
 go_wp2_with fail
 have H9 := Lib.hid (T3.out.all (.int .i64 (bits .or .i64 (bits .or .i64 md sz) 1)) (.int .i64 rv) (.int .i64 bs) (.int .i64 of) (.int .i64 0))
 refine bodyPost_ret (results_cell_row rfl _ _ w.heap.size inT _ (0, 0) _ rfl H9.out.2 Tryz.underlying38 rfl (by kernel_rfl)) rfl ?_
 rw [HG.out]
 exact gives_plc (x0 := ⟨md, sz, bs, of⟩) rfl HX.out HV.out H9.out.1
def storeR (p0 p1 p2 p3 q c : ByteArray) : Option Slot := (placeR p0 p1 p2 p3).bind fun x => if (x.md == 96 && sameT q eqT) = true then (if (secS c wholeT 0 0).ok = true then some ⟨if (secS c wholeT 0 0).reg = true then bits .or .i64 (bits .or .i64 x.md x.sz) 3 else bits .or .i64 (bits .or .i64 x.md x.sz) 2, x.base, (secS c wholeT 0 0).src, x.off, (secS c wholeT 0 0).imm⟩ else none) else none
theorem gives_sto {w W : World} {y : Nat} {b : Bool} {ps : Option Plc} {x0 : Plc} {F : Plc → Option Slot} {x : Slot} {e : Ending} (he : e = .returned (.agg (inC x.o x.d x.s x.f x.m)))
  (hp : ∀ z, ps = some z → x0 = z) (h : RD w W y ((b || !ps.isSome) || !(F x0).isSome)) (hx : ∀ z, F x0 = some z → x = z) : GivesI w y b (ps.bind F) e W := by
 refine ⟨x, he, ?_, fun z hz => ?_⟩
 ·rcases ps with _ | p
  ·cases b <;> simpa using h
  ·have := hp p rfl
   subst this
   cases b <;> simpa using h
 ·obtain ⟨p, h1, hz⟩ := Option.bind_eq_some_iff.1 hz
  rw [← hp p h1] at hz
  exact hx z hz
theorem sto_mark (b p q s : Bool) (A : Slot) : (((b || p) || !q) || !s) = ((b || p) || !(if q = true then (if s = true then some A else none) else none : Option Slot).isSome) := by
 cases b <;> cases p <;> cases q <;> cases s <;> rfl
theorem TX.slots {w0 w W : World} {y g off z : Nat} {b : Bool} {L : List ByteArray} {C : Array Value} (h : TX w0 w W y b g off L z C) (X : Array Value) : RZ w (W.alloc (.cells X inT)) y b W.heap.size z X C :=
 ⟨h.r.on (below_alloc _ _), Blk.new W inT X, blk_on h.slot (below_alloc _ _), Nat.le_trans h.hz (Nat.le_of_lt h.slot.lt), h.hz, h.hy, fun e => by have := h.slot.lt; omega⟩
set_option maxHeartbeats 8000000 in
theorem storeR_any {w0 w : World} {y g off : Nat} {b : Bool} (p0 p1 p2 p3 q c : ByteArray) (h : Rd w0 w y b g off [p0, p1, p2, p3, q, c]) (n cc : Nat) (hn : n = 6) :
  Calls Tryz.prog 61 #[rp y, .slice (some ⟨g, off, none⟩) n cc] w (GivesI w y b (storeR p0 p1 p2 p3 q c)) := by
 subst hn
 have CW := Lib.hid (fun w' b' ok (hb : Blk w' y rdT #[.bool b']) => want_any hb ok)
 have CS := Lib.hid (fun z w' b' op dst src off' imm (hb : Blk w' y rdT #[.bool b']) (hi : Blk w' z inT (inC op dst src off' imm)) => second_any hb hi c wholeT (h.small c (by simp)) (by decide))
 have T0 := Lib.hid (TX.start h)
 have CP := Lib.hid (placeR_any p0 p1 p2 p3 [q, c] T0.out.rd 6 cc (by decide))
 have bq : (q.toList == [61]) = sameT q eqT := same_const q [61]
 have HG : Hid (storeR p0 p1 p2 p3 q c = (placeR p0 p1 p2 p3).bind fun x => if (x.md == 96 && sameT q eqT) = true then (if (secS c wholeT 0 0).ok = true then some ⟨if (secS c wholeT 0 0).reg = true then bits .or .i64 (bits .or .i64 x.md x.sz) 3 else bits .or .i64 (bits .or .i64 x.md x.sz) 2, x.base, (secS c wholeT 0 0).src, x.off, (secS c wholeT 0 0).imm⟩ else none) else none) := rfl
 have HGL : Hid (g < w.heap.size) := h.lt
 clear h
 generalize storeR p0 p1 p2 p3 q c = tR at *
 generalize placeR p0 p1 p2 p3 = ps at *
 generalize sameT q eqT = q1 at *
 have CSQ := Lib.hid (fun z w' b' op dst off' (hb : Blk w' y rdT #[.bool b']) (hi : Blk w' z inT (inC op dst 0 off' 0)) => CS.out z w' b' op dst 0 off' 0 hb hi)
 clear CS
 generalize secS c wholeT 0 0 = S at *
 obtain ⟨sreg, ssrc, simm, sok⟩ := S
 simp only at CSQ HG
 go_enter Tryz.func61, Tryz.ntmps61
 go_upto_region 2 with (go_at_call 83; refine CP.out.mono ?_; rintro e w1 ⟨nm, ⟨md, sz, bs, of⟩, rfl, hr, hx⟩; have T1 := Lib.hid (T0.out.mark hr); have HX := Lib.hid hx; clear hr hx; simp only)
 have T2 := Lib.hid (T1.out.on (below_alloc w1 (.cells (mvC nm md sz) mvT)))
 have M2 : Hid (Blk (w1.alloc (.cells (mvC nm md sz) mvT)) w1.heap.size mvT (mvC nm md sz)) := Blk.new w1 _ _
 have HMZ : Hid (w1.heap.size ≠ y) := fun e => by have := T1.out.rd.blk.lt; omega
 obtain ⟨mz, hmz⟩ : ∃ mz, w1.heap.size = mz := ⟨_, rfl⟩
 rw [hmz] at M2 HMZ ⊢
 generalize hW2 : w1.alloc (.cells (mvC nm md sz) mvT) = W2 at *
 clear hW2 hmz
 have m1 := M2.out.cell 1
 have d4 : W2.cell? ⟨g, off + 4, none⟩ = some (.string q) := T2.out.rd.words 4 q rfl
 by_cases h96 : md = 96
 ·subst h96
  cases sreg
  ·go_upto_region 3 with (go_at_call 52; refine (CW.out _ _ _ T2.out.rd.blk).mono ?_; rintro e' w3 ⟨rfl, hr⟩; have T3 := Lib.hid (T2.out.mark hr); have M3 := Lib.hid (M2.out.keeps hr.keeps (fun e => HMZ.out e)); clear hr)
   clear m1 d4
   have m1 := M3.out.cell 1
   have m2 := M3.out.cell 2
   have Z4 : Hid (RZ w (w3.alloc (.cells (inC (bits .or .i64 (bits .or .i64 96 sz) 2) bs 0 of 0) inT)) y ((b || !ps.isSome) || !q1) w3.heap.size w.heap.size (inC (bits .or .i64 (bits .or .i64 96 sz) 2) bs 0 of 0) (inC 0 0 0 0 0)) := T3.out.slots _
   have D4 := Lib.hid (T3.out.rd.on (below_alloc w3 (.cells (inC (bits .or .i64 (bits .or .i64 96 sz) 2) bs 0 of 0) inT)))
   have M4 := Lib.hid (blk_on M3.out (below_alloc w3 (.cells (inC (bits .or .i64 (bits .or .i64 96 sz) 2) bs 0 of 0) inT)))
   have HM3 : Hid (mz ≠ w3.heap.size) := fun e => by have := M3.out.lt; omega
   go_upto_region 4 with fail
   clear m1 m2
   obtain ⟨z, hz⟩ : ∃ z, w3.heap.size = z := ⟨_, rfl⟩
   rw [hz] at Z4 HM3 ⊢
   generalize hW4 : w3.alloc (.cells (inC (bits .or .i64 (bits .or .i64 96 sz) 2) bs 0 of 0) inT) = W4 at *
   clear hW4 hz
   have d5 : W4.cell? ⟨g, off + 5, none⟩ = some (.string c) := D4.out.words 5 c rfl
   have ne7 : ¬ z = w.heap.size := Z4.out.ne
   have ne8 : ¬ w.heap.size = z := fun e => Z4.out.ne e.symm
   go_wp2_with (go_at_call 82; refine (CSQ.out _ _ _ _ _ _ Z4.out.rd.blk Z4.out.sl).mono ?_; rintro e' w5 ⟨rfl, hr⟩; have Z5 := Lib.hid (Z4.out.second hr); have M5 := Lib.hid (M4.out.keeps hr.keeps (fun e => e.elim HMZ.out HM3.out)); clear hr; have g0 := Z5.out.sl.cell 0; have g1 := Z5.out.sl.cell 1; have g2 := Z5.out.sl.cell 2; have g3 := Z5.out.sl.cell 3; have g4 := Z5.out.sl.cell 4; have r0 := Z5.out.rs.cell 0; have r1 := Z5.out.rs.cell 1; have r2 := Z5.out.rs.cell 2; have r3 := Z5.out.rs.cell 3; have r4 := Z5.out.rs.cell 4; have s0 := Z5.out.rs.frozen 0; have s1 := Z5.out.rs.frozen 1; have s2 := Z5.out.rs.frozen 2; have s3 := Z5.out.rs.frozen 3; have s4 := Z5.out.rs.frozen 4)
   have H9 := Lib.hid (Z5.out.all (.int .i64 (bits .or .i64 (bits .or .i64 96 sz) 2)) (.int .i64 bs) (.int .i64 ssrc) (.int .i64 of) (.int .i64 simm))
   refine bodyPost_ret (results_cell_row rfl _ _ w.heap.size inT _ (0, 0) _ rfl H9.out.rs Tryz.underlying38 rfl (by kernel_rfl)) rfl ?_
   rw [HG.out]
   refine gives_sto (x0 := ⟨96, sz, bs, of⟩) (x := ⟨(bits .or .i64 (bits .or .i64 96 sz) 2), bs, ssrc, of, simm⟩) rfl HX.out ?_ (fun z hz => ?_)
   ·have h9 := H9.out.rd
    rw [sto_mark _ _ _ _ ⟨(bits .or .i64 (bits .or .i64 96 sz) 2), bs, ssrc, of, simm⟩] at h9
    exact h9
   ·cases q1 <;> cases sok <;> simp at hz; exact hz
  ·go_upto_region 3 with (go_at_call 52; refine (CW.out _ _ _ T2.out.rd.blk).mono ?_; rintro e' w3 ⟨rfl, hr⟩; have T3 := Lib.hid (T2.out.mark hr); have M3 := Lib.hid (M2.out.keeps hr.keeps (fun e => HMZ.out e)); clear hr)
   clear m1 d4
   have m1 := M3.out.cell 1
   have m2 := M3.out.cell 2
   have Z4 : Hid (RZ w (w3.alloc (.cells (inC (bits .or .i64 (bits .or .i64 96 sz) 2) bs 0 of 0) inT)) y ((b || !ps.isSome) || !q1) w3.heap.size w.heap.size (inC (bits .or .i64 (bits .or .i64 96 sz) 2) bs 0 of 0) (inC 0 0 0 0 0)) := T3.out.slots _
   have D4 := Lib.hid (T3.out.rd.on (below_alloc w3 (.cells (inC (bits .or .i64 (bits .or .i64 96 sz) 2) bs 0 of 0) inT)))
   have M4 := Lib.hid (blk_on M3.out (below_alloc w3 (.cells (inC (bits .or .i64 (bits .or .i64 96 sz) 2) bs 0 of 0) inT)))
   have HM3 : Hid (mz ≠ w3.heap.size) := fun e => by have := M3.out.lt; omega
   go_upto_region 4 with fail
   clear m1 m2
   obtain ⟨z, hz⟩ : ∃ z, w3.heap.size = z := ⟨_, rfl⟩
   rw [hz] at Z4 HM3 ⊢
   generalize hW4 : w3.alloc (.cells (inC (bits .or .i64 (bits .or .i64 96 sz) 2) bs 0 of 0) inT) = W4 at *
   clear hW4 hz
   have d5 : W4.cell? ⟨g, off + 5, none⟩ = some (.string c) := D4.out.words 5 c rfl
   have ne7 : ¬ z = w.heap.size := Z4.out.ne
   have ne8 : ¬ w.heap.size = z := fun e => Z4.out.ne e.symm
   go_wp2_with (go_at_call 82; refine (CSQ.out _ _ _ _ _ _ Z4.out.rd.blk Z4.out.sl).mono ?_; rintro e' w5 ⟨rfl, hr⟩; have Z5 := Lib.hid (Z4.out.second hr); have M5 := Lib.hid (M4.out.keeps hr.keeps (fun e => e.elim HMZ.out HM3.out)); clear hr; have g0 := Z5.out.sl.cell 0; have g1 := Z5.out.sl.cell 1; have g2 := Z5.out.sl.cell 2; have g3 := Z5.out.sl.cell 3; have g4 := Z5.out.sl.cell 4; have r0 := Z5.out.rs.cell 0; have r1 := Z5.out.rs.cell 1; have r2 := Z5.out.rs.cell 2; have r3 := Z5.out.rs.cell 3; have r4 := Z5.out.rs.cell 4; have s0 := Z5.out.rs.frozen 0; have s1 := Z5.out.rs.frozen 1; have s2 := Z5.out.rs.frozen 2; have s3 := Z5.out.rs.frozen 3; have s4 := Z5.out.rs.frozen 4; have m1 := M5.out.cell 1; have m2 := M5.out.cell 2; have f0 := Z5.out.sl.frozen 0)
   have H9 := Lib.hid ((Z5.out.set 0 (.int .i64 (bits .or .i64 (bits .or .i64 96 sz) 3))).all (.int .i64 (bits .or .i64 (bits .or .i64 96 sz) 3)) (.int .i64 bs) (.int .i64 ssrc) (.int .i64 of) (.int .i64 simm))
   refine bodyPost_ret (results_cell_row rfl _ _ w.heap.size inT _ (0, 0) _ rfl H9.out.rs Tryz.underlying38 rfl (by kernel_rfl)) rfl ?_
   rw [HG.out]
   refine gives_sto (x0 := ⟨96, sz, bs, of⟩) (x := ⟨(bits .or .i64 (bits .or .i64 96 sz) 3), bs, ssrc, of, simm⟩) rfl HX.out ?_ (fun z hz => ?_)
   ·have h9 := H9.out.rd
    rw [sto_mark _ _ _ _ ⟨(bits .or .i64 (bits .or .i64 96 sz) 3), bs, ssrc, of, simm⟩] at h9
    exact h9
   ·cases q1 <;> cases sok <;> simp at hz; exact hz
 ·have b96 : (md == 96) = false := by simpa using h96
  cases sreg
  ·go_upto_region 3 with (go_at_call 52; refine (CW.out _ _ _ T2.out.rd.blk).mono ?_; rintro e' w3 ⟨rfl, hr⟩; have T3 := Lib.hid (T2.out.mark hr); have M3 := Lib.hid (M2.out.keeps hr.keeps (fun e => HMZ.out e)); clear hr)
   clear m1 d4
   have m1 := M3.out.cell 1
   have m2 := M3.out.cell 2
   have Z4 : Hid (RZ w (w3.alloc (.cells (inC (bits .or .i64 (bits .or .i64 md sz) 2) bs 0 of 0) inT)) y ((b || !ps.isSome) || !false) w3.heap.size w.heap.size (inC (bits .or .i64 (bits .or .i64 md sz) 2) bs 0 of 0) (inC 0 0 0 0 0)) := T3.out.slots _
   have D4 := Lib.hid (T3.out.rd.on (below_alloc w3 (.cells (inC (bits .or .i64 (bits .or .i64 md sz) 2) bs 0 of 0) inT)))
   have M4 := Lib.hid (blk_on M3.out (below_alloc w3 (.cells (inC (bits .or .i64 (bits .or .i64 md sz) 2) bs 0 of 0) inT)))
   have HM3 : Hid (mz ≠ w3.heap.size) := fun e => by have := M3.out.lt; omega
   go_upto_region 4 with fail
   clear m1 m2
   obtain ⟨z, hz⟩ : ∃ z, w3.heap.size = z := ⟨_, rfl⟩
   rw [hz] at Z4 HM3 ⊢
   generalize hW4 : w3.alloc (.cells (inC (bits .or .i64 (bits .or .i64 md sz) 2) bs 0 of 0) inT) = W4 at *
   clear hW4 hz
   have d5 : W4.cell? ⟨g, off + 5, none⟩ = some (.string c) := D4.out.words 5 c rfl
   have ne7 : ¬ z = w.heap.size := Z4.out.ne
   have ne8 : ¬ w.heap.size = z := fun e => Z4.out.ne e.symm
   go_wp2_with (go_at_call 82; refine (CSQ.out _ _ _ _ _ _ Z4.out.rd.blk Z4.out.sl).mono ?_; rintro e' w5 ⟨rfl, hr⟩; have Z5 := Lib.hid (Z4.out.second hr); have M5 := Lib.hid (M4.out.keeps hr.keeps (fun e => e.elim HMZ.out HM3.out)); clear hr; have g0 := Z5.out.sl.cell 0; have g1 := Z5.out.sl.cell 1; have g2 := Z5.out.sl.cell 2; have g3 := Z5.out.sl.cell 3; have g4 := Z5.out.sl.cell 4; have r0 := Z5.out.rs.cell 0; have r1 := Z5.out.rs.cell 1; have r2 := Z5.out.rs.cell 2; have r3 := Z5.out.rs.cell 3; have r4 := Z5.out.rs.cell 4; have s0 := Z5.out.rs.frozen 0; have s1 := Z5.out.rs.frozen 1; have s2 := Z5.out.rs.frozen 2; have s3 := Z5.out.rs.frozen 3; have s4 := Z5.out.rs.frozen 4)
   have H9 := Lib.hid (Z5.out.all (.int .i64 (bits .or .i64 (bits .or .i64 md sz) 2)) (.int .i64 bs) (.int .i64 ssrc) (.int .i64 of) (.int .i64 simm))
   refine bodyPost_ret (results_cell_row rfl _ _ w.heap.size inT _ (0, 0) _ rfl H9.out.rs Tryz.underlying38 rfl (by kernel_rfl)) rfl ?_
   rw [HG.out]
   refine gives_sto (x0 := ⟨md, sz, bs, of⟩) (x := ⟨(bits .or .i64 (bits .or .i64 md sz) 2), bs, ssrc, of, simm⟩) rfl HX.out ?_ (fun z hz => ?_)
   ·have h9 := H9.out.rd
    simp only [b96, Bool.false_and]
    rw [sto_mark _ _ _ _ ⟨(bits .or .i64 (bits .or .i64 md sz) 2), bs, ssrc, of, simm⟩] at h9
    exact h9
   ·simp [b96] at hz
  ·go_upto_region 3 with (go_at_call 52; refine (CW.out _ _ _ T2.out.rd.blk).mono ?_; rintro e' w3 ⟨rfl, hr⟩; have T3 := Lib.hid (T2.out.mark hr); have M3 := Lib.hid (M2.out.keeps hr.keeps (fun e => HMZ.out e)); clear hr)
   clear m1 d4
   have m1 := M3.out.cell 1
   have m2 := M3.out.cell 2
   have Z4 : Hid (RZ w (w3.alloc (.cells (inC (bits .or .i64 (bits .or .i64 md sz) 2) bs 0 of 0) inT)) y ((b || !ps.isSome) || !false) w3.heap.size w.heap.size (inC (bits .or .i64 (bits .or .i64 md sz) 2) bs 0 of 0) (inC 0 0 0 0 0)) := T3.out.slots _
   have D4 := Lib.hid (T3.out.rd.on (below_alloc w3 (.cells (inC (bits .or .i64 (bits .or .i64 md sz) 2) bs 0 of 0) inT)))
   have M4 := Lib.hid (blk_on M3.out (below_alloc w3 (.cells (inC (bits .or .i64 (bits .or .i64 md sz) 2) bs 0 of 0) inT)))
   have HM3 : Hid (mz ≠ w3.heap.size) := fun e => by have := M3.out.lt; omega
   go_upto_region 4 with fail
   clear m1 m2
   obtain ⟨z, hz⟩ : ∃ z, w3.heap.size = z := ⟨_, rfl⟩
   rw [hz] at Z4 HM3 ⊢
   generalize hW4 : w3.alloc (.cells (inC (bits .or .i64 (bits .or .i64 md sz) 2) bs 0 of 0) inT) = W4 at *
   clear hW4 hz
   have d5 : W4.cell? ⟨g, off + 5, none⟩ = some (.string c) := D4.out.words 5 c rfl
   have ne7 : ¬ z = w.heap.size := Z4.out.ne
   have ne8 : ¬ w.heap.size = z := fun e => Z4.out.ne e.symm
   go_wp2_with (go_at_call 82; refine (CSQ.out _ _ _ _ _ _ Z4.out.rd.blk Z4.out.sl).mono ?_; rintro e' w5 ⟨rfl, hr⟩; have Z5 := Lib.hid (Z4.out.second hr); have M5 := Lib.hid (M4.out.keeps hr.keeps (fun e => e.elim HMZ.out HM3.out)); clear hr; have g0 := Z5.out.sl.cell 0; have g1 := Z5.out.sl.cell 1; have g2 := Z5.out.sl.cell 2; have g3 := Z5.out.sl.cell 3; have g4 := Z5.out.sl.cell 4; have r0 := Z5.out.rs.cell 0; have r1 := Z5.out.rs.cell 1; have r2 := Z5.out.rs.cell 2; have r3 := Z5.out.rs.cell 3; have r4 := Z5.out.rs.cell 4; have s0 := Z5.out.rs.frozen 0; have s1 := Z5.out.rs.frozen 1; have s2 := Z5.out.rs.frozen 2; have s3 := Z5.out.rs.frozen 3; have s4 := Z5.out.rs.frozen 4; have m1 := M5.out.cell 1; have m2 := M5.out.cell 2; have f0 := Z5.out.sl.frozen 0)
   have H9 := Lib.hid ((Z5.out.set 0 (.int .i64 (bits .or .i64 (bits .or .i64 md sz) 3))).all (.int .i64 (bits .or .i64 (bits .or .i64 md sz) 3)) (.int .i64 bs) (.int .i64 ssrc) (.int .i64 of) (.int .i64 simm))
   refine bodyPost_ret (results_cell_row rfl _ _ w.heap.size inT _ (0, 0) _ rfl H9.out.rs Tryz.underlying38 rfl (by kernel_rfl)) rfl ?_
   rw [HG.out]
   refine gives_sto (x0 := ⟨md, sz, bs, of⟩) (x := ⟨(bits .or .i64 (bits .or .i64 md sz) 3), bs, ssrc, of, simm⟩) rfl HX.out ?_ (fun z hz => ?_)
   ·have h9 := H9.out.rd
    simp only [b96, Bool.false_and]
    rw [sto_mark _ _ _ _ ⟨(bits .or .i64 (bits .or .i64 md sz) 3), bs, ssrc, of, simm⟩] at h9
    exact h9
   ·simp [b96] at hz
end Go.Proofs.YtemiklbkfogjeaaGreatDoor
