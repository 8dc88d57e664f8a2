/-
  Package asm, reading: jump.
-/
import Derived.Test.YtemiklbkfogjeaaGreatDoorQ12
namespace Go.Proofs.YtemiklbkfogjeaaGreatDoor
open Go Go.RowKit Go.Maps
set_option linter.unusedVariables false
set_option linter.unusedSimpArgs false
set_option maxRecDepth 100000
def jumpQ (a : ByteArray) : Int := if begins a lowerT = true then 6 else 5
def testR (q d f : Int) (m c : ByteArray) : List (ByteArray × Int) → Option Slot
 | [] => none
 | (nm, k) :: l => if sameT nm m = true then secR q (bits .or .i64 q k) d f c else testR q d f m c l
def jmpOf (ok : Bool) (rs : Option Nat) (fs : Option Int) (F : Nat → Int → Option Slot) : Option Slot :=
 if ok = true then rs.bind fun d => fs.bind fun f => F d f else none
def jumpR (a m c t e : ByteArray) : Option Slot := jmpOf (sameT t gotoT) (regS a (letterS (jumpQ a))) (furtherS e) fun d f => testR (jumpQ a) d f m c testL
theorem far_val {s : ByteArray} {f : Int} (h : furtherS s = some f) : furtherV s = f := by
 unfold furtherS at h
 unfold furtherV
 split at h
 ·rename_i h1
  rw [if_pos h1, h]
  rfl
 ·rename_i h1
  rw [if_neg h1]
  split at h
  ·rw [h]; rfl
  ·cases h
theorem gives_jmp {w W : World} {y : Nat} {b ok : Bool} {rs : Option Nat} {fs : Option Int} {rv : Nat} {fv : Int} {F : Nat → Int → Option Slot} {x : Slot} {e : Ending} (he : e = .returned (.agg (inC x.o x.d x.s x.f x.m))) (hv : ∀ r, rs = some r → rv = r) (hf : ∀ f, fs = some f → fv = f)
  (h : RD w W y ((((b || !ok) || !rs.isSome) || !fs.isSome) || !(F rv fv).isSome)) (hx : ∀ z, F rv fv = some z → x = z) : GivesI w y b (jmpOf ok rs fs F) e W := by
 refine ⟨x, he, ?_, fun z hz => ?_⟩
 ·unfold jmpOf
  rcases rs with _ | r
  ·cases b <;> cases ok <;> simpa using h
  ·rcases fs with _ | f
   ·cases b <;> cases ok <;> simpa using h
   ·have h1 := hv r rfl
    have h2 := hf f rfl
    subst h1 h2
    cases b <;> cases ok <;> simpa using h
 ·unfold jmpOf at hz
  cases ok
  ·cases hz
  ·rw [if_pos rfl] at hz
   obtain ⟨r, hr, hz⟩ := Option.bind_eq_some_iff.1 hz
   obtain ⟨f, hf', hz⟩ := Option.bind_eq_some_iff.1 hz
   have h1 := hv r hr
   have h2 := hf f hf'
   subst h1 h2
   exact hx z hz
set_option maxHeartbeats 16000000 in
theorem jumpR_any {w0 w : World} {y g off : Nat} {b : Bool} (i a m c t e : ByteArray) (h : Rd w0 w y b g off [i, a, m, c, t, e]) (n cc : Nat) (hn : n = 6) :
  Calls Tryz.prog 56 #[rp y, .slice (some ⟨g, off, none⟩) n cc] w (GivesI w y b (jumpR a m c t e)) := by
 subst hn
 have H := Lib.hid h
 have a1 : ∀ o, (w.alloc o).cell? ⟨g, off + 1, none⟩ = some (.string a) := fun o => (h.on (below_alloc w o)).words 1 a rfl
 have a4 : ∀ o, (w.alloc o).cell? ⟨g, off + 4, none⟩ = some (.string t) := fun o => (h.on (below_alloc w o)).words 4 t rfl
 have CH : Hid (∀ w, Calls Tryz.prog 80 #[.string a, .string lowerT] w fun e w' => e = .returned (.bool (begins a lowerT)) ∧ w = w') := fun w => hasPrefix_any a lowerT (h.small a (by simp)) (by decide) w
 have CW := Lib.hid (fun w' b' ok (hb : Blk w' y rdT #[.bool b']) => want_any hb ok)
 have CR := Lib.hid (fun q w' b' (hb : Blk w' y rdT #[.bool b']) => register_any hb a (letterS q) (h.small a (by simp)) (Nat.le_trans (letterS_size _) (by decide)))
 have CF := Lib.hid (fun w' b' (hb : Blk w' y rdT #[.bool b']) => further_any hb e (h.small e (by simp)))
 have RB : Hid (Blk (w.alloc (.cells (inC 0 0 0 0 0) inT)) w.heap.size inT (inC 0 0 0 0 0)) := Blk.new _ _ _
 have HYL : Hid (y < w.heap.size) := h.blk.lt
 have CS := Lib.hid (fun q z w' b' op dst src off imm (hb : Blk w' y rdT #[.bool b']) (hi : Blk w' z inT (inC op dst src off imm)) => second_any hb hi c (letterS q) (h.small c (by simp)) (Nat.le_trans (letterS_size _) (by decide)))
 have AE : Hid (∀ q, jumpQ a = q → jumpR a m c t e = jmpOf (sameT t gotoT) (regS a (letterS q)) (furtherS e) fun d f => testR q d f m c testL) := by
  intro q hq
  unfold jumpR
  rw [hq]
 have bt : (t.toList == [103, 111, 116, 111]) = sameT t gotoT := same_const t [103, 111, 116, 111]
 have HFV : Hid (∀ f, furtherS e = some f → furtherV e = f) := fun f => far_val
 have HHL : Hid (g < w.heap.size) := h.lt
 generalize furtherV e = fv at *
 generalize furtherS e = fs at *
 generalize sameT t gotoT = tg at *
 by_cases hb : begins a lowerT = true
 focus
  rw [hb] at CH
  have HQ : Hid (jumpQ a = 6) := if_pos hb
  clear h hb
 rotate_left 1
 focus
  have hb' : begins a lowerT = false := by simpa using hb
  rw [hb'] at CH
  have HQ : Hid (jumpQ a = 5) := if_neg hb
  clear h hb hb'
 rotate_left 1
 all_goals
  go_enter Tryz.func56, Tryz.ntmps56
  go_upto_region 6 with (first
   | (go_at_call 80; refine (CH.out _).mono ?_; rintro e w2 ⟨rfl, rfl⟩)
   | (go_at_call 81; refine (letterOf_any _ _).mono ?_; rintro e w2 ⟨rfl, rfl⟩)
   | (go_at_call 52; refine (CW.out _ _ _ (H.out.on (below_alloc _ _)).blk).mono ?_; rintro e' w1 ⟨rfl, hr⟩; have D1 := Lib.hid ((H.out.on (below_alloc _ _)).mark hr); have R1 := Lib.hid (RD.then ((RD.start H.out.blk).on (below_alloc _ _)) hr); have B1 := Lib.hid (RB.out.keeps hr.keeps (fun e => by have h1 : w.heap.size = y := e; have := HYL.out; omega)); have SZ1L : Hid (w.heap.size < w1.heap.size) := B1.out.lt; have SZ1 : Hid (w.heap.size ≤ w1.heap.size) := Nat.le_of_lt B1.out.lt; clear hr))
  have D2 := Lib.hid (D1.out.on (below_drew w1))
  have R2 := Lib.hid (R1.out.on (below_drew w1))
  have B2 := Lib.hid (blk_on B1.out (below_drew w1))
  have NEa : Hid (w1.heap.size ≠ g) := fun e => by have := HHL.out; have := SZ1.out; omega
  have K2 : Hid (w1.drew.cell? ⟨g, off + 1, none⟩ = some (.string a) ∧ w1.drew.cell? ⟨g, off + 5, none⟩ = some (.string e)) := ⟨D2.out.words 1 a rfl, D2.out.words 5 e rfl⟩
  have D2a := Lib.hid (D2.out.on (below_alloc _ (.cells (inC 0 0 0 0 0) inT)))
  have R2a := Lib.hid (R2.out.on (below_alloc _ (.cells (inC 0 0 0 0 0) inT)))
  have B2a := Lib.hid (blk_on B2.out (below_alloc _ (.cells (inC 0 0 0 0 0) inT)))
  have Z2a : Hid (Blk (w1.drew.alloc (.cells (inC 0 0 0 0 0) inT)) w1.heap.size inT (inC 0 0 0 0 0)) := Blk.new _ _ _
  have K2a : Hid ((w1.drew.alloc (.cells (inC 0 0 0 0 0) inT)).cell? ⟨g, off + 1, none⟩ = some (.string a) ∧ (w1.drew.alloc (.cells (inC 0 0 0 0 0) inT)).cell? ⟨g, off + 5, none⟩ = some (.string e)) := ⟨D2a.out.words 1 a rfl, D2a.out.words 5 e rfl⟩
  have K2b : Hid ((w1.alloc (.cells (inC 0 0 0 0 0) inT)).drew.cell? ⟨g, off + 1, none⟩ = some (.string a) ∧ (w1.alloc (.cells (inC 0 0 0 0 0) inT)).drew.cell? ⟨g, off + 5, none⟩ = some (.string e)) := K2a.out
  clear a1 a4 bt
  go_region_held3 (fun W' => W'.cell? ⟨g, off + 1, none⟩ = some (.string a) ∧ W'.cell? ⟨g, off + 5, none⟩ = some (.string e))
   (first | with_reducible exact K2.out | with_reducible exact K2a.out | with_reducible exact K2b.out | with_reducible exact K3.out | with_reducible exact K3a.out | with_reducible exact K4.out | with_reducible exact K5.out _ | with_reducible exact K6.out _ NEa.out _ _ _ _ _ | with_reducible exact K6.out _ NEb.out _ _ _ _ _)
   (first
    | (go_at_call 50; first
     | (refine (CR.out _ _ _ D2.out.blk).mono ?_; rintro e' w2 ⟨rfl, hr⟩; have D3 := Lib.hid (D2.out.mark hr); have R3 := Lib.hid (R2.out.then hr); have B3 := Lib.hid (B2.out.keeps hr.keeps (fun e => by have h1 : w.heap.size = y := e; have := HYL.out; omega)); clear hr; have NEb : Hid (w2.heap.size ≠ g) := fun e => (by have := HHL.out; have := B3.out.lt; omega); have K3 : Hid (w2.cell? ⟨g, off + 1, none⟩ = some (.string a) ∧ w2.cell? ⟨g, off + 5, none⟩ = some (.string e)) := ⟨D3.out.words 1 a rfl, D3.out.words 5 e rfl⟩; have D3a := Lib.hid (D3.out.on (below_alloc _ (.cells (inC 0 0 0 0 0) inT))); have R3a := Lib.hid (R3.out.on (below_alloc _ (.cells (inC 0 0 0 0 0) inT))); have B3a := Lib.hid (blk_on B3.out (below_alloc _ (.cells (inC 0 0 0 0 0) inT))); have Z3a : Hid (Blk (w2.alloc (.cells (inC 0 0 0 0 0) inT)) w2.heap.size inT (inC 0 0 0 0 0)) := Blk.new _ _ _; have K3a : Hid ((w2.alloc (.cells (inC 0 0 0 0 0) inT)).cell? ⟨g, off + 1, none⟩ = some (.string a) ∧ (w2.alloc (.cells (inC 0 0 0 0 0) inT)).cell? ⟨g, off + 5, none⟩ = some (.string e)) := ⟨D3a.out.words 1 a rfl, D3a.out.words 5 e rfl⟩)
     | (refine (CR.out _ _ _ D2a.out.blk).mono ?_; rintro e' w2 ⟨rfl, hr⟩; have D3 := Lib.hid (D2a.out.mark hr); have R3 := Lib.hid (R2a.out.then hr); have B3 := Lib.hid (B2a.out.keeps hr.keeps (fun e => by have h1 : w.heap.size = y := e; have := HYL.out; omega)); have ZB3 := Lib.hid (Z2a.out.keeps hr.keeps (fun e => by have h1 : w1.heap.size = y := e; have := HYL.out; have := SZ1.out; omega)); clear hr; have NEb : Hid (w2.heap.size ≠ g) := fun e => (by have := HHL.out; have := B3.out.lt; omega); have K3 : Hid (w2.cell? ⟨g, off + 1, none⟩ = some (.string a) ∧ w2.cell? ⟨g, off + 5, none⟩ = some (.string e)) := ⟨D3.out.words 1 a rfl, D3.out.words 5 e rfl⟩))
    | (go_at_call 55; first
     | (refine (CF.out _ _ D3.out.blk).mono ?_; rintro e' w3 ⟨rfl, hr⟩; have D4 := Lib.hid (D3.out.mark hr); have R4 := Lib.hid (R3.out.then hr); have B4 := Lib.hid (B3.out.keeps hr.keeps (fun e => by have h1 : w.heap.size = y := e; have := HYL.out; omega)); have SZ3 : Hid (w.heap.size < w3.heap.size) := B4.out.lt; (try have ZB4 := Lib.hid (ZB3.out.keeps hr.keeps (fun e => by have h1 : w1.heap.size = y := e; have := HYL.out; have := SZ1.out; omega))); clear hr; have K4 : Hid (w3.cell? ⟨g, off + 1, none⟩ = some (.string a) ∧ w3.cell? ⟨g, off + 5, none⟩ = some (.string e)) := ⟨D4.out.words 1 a rfl, D4.out.words 5 e rfl⟩; have K6 : Hid (∀ z, z ≠ g → ∀ v0 v1 v2 v3 v4, (((((w3.setCell ⟨z, 0, none⟩ v0).setCell ⟨z, 1, none⟩ v1).setCell ⟨z, 2, none⟩ v2).setCell ⟨z, 3, none⟩ v3).setCell ⟨z, 4, none⟩ v4).cell? ⟨g, off + 1, none⟩ = some (.string a) ∧ (((((w3.setCell ⟨z, 0, none⟩ v0).setCell ⟨z, 1, none⟩ v1).setCell ⟨z, 2, none⟩ v2).setCell ⟨z, 3, none⟩ v3).setCell ⟨z, 4, none⟩ v4).cell? ⟨g, off + 5, none⟩ = some (.string e)) := fun z hz v0 v1 v2 v3 v4 => ⟨cell_keeps (keeps5 w3 z v0 v1 v2 v3 v4) D4.out.lt (fun h => hz h.symm) K4.out.1, cell_keeps (keeps5 w3 z v0 v1 v2 v3 v4) D4.out.lt (fun h => hz h.symm) K4.out.2⟩; have K5 : Hid (∀ o, (w3.alloc o).cell? ⟨g, off + 1, none⟩ = some (.string a) ∧ (w3.alloc o).cell? ⟨g, off + 5, none⟩ = some (.string e)) := fun o => ⟨(D4.out.on (below_alloc _ o)).words 1 a rfl, (D4.out.on (below_alloc _ o)).words 5 e rfl⟩; (try (have r0 := ZB4.out.cell 0; have r1 := ZB4.out.cell 1; have r2 := ZB4.out.cell 2; have r3 := ZB4.out.cell 3; have r4 := ZB4.out.cell 4; have s0 := ZB4.out.frozen 0; have s1 := ZB4.out.frozen 1; have s2 := ZB4.out.frozen 2; have s3 := ZB4.out.frozen 3; have s4 := ZB4.out.frozen 4)))
     | (refine (CF.out _ _ D3a.out.blk).mono ?_; rintro e' w3 ⟨rfl, hr⟩; have D4 := Lib.hid (D3a.out.mark hr); have R4 := Lib.hid (R3a.out.then hr); have B4 := Lib.hid (B3a.out.keeps hr.keeps (fun e => by have h1 : w.heap.size = y := e; have := HYL.out; omega)); have SZ3 : Hid (w.heap.size < w3.heap.size) := B4.out.lt; have ZB4 := Lib.hid (Z3a.out.keeps hr.keeps (fun e => by have h1 : w2.heap.size = y := e; have := HYL.out; have := B3.out.lt; omega)); clear hr; have K4 : Hid (w3.cell? ⟨g, off + 1, none⟩ = some (.string a) ∧ w3.cell? ⟨g, off + 5, none⟩ = some (.string e)) := ⟨D4.out.words 1 a rfl, D4.out.words 5 e rfl⟩; have K6 : Hid (∀ z, z ≠ g → ∀ v0 v1 v2 v3 v4, (((((w3.setCell ⟨z, 0, none⟩ v0).setCell ⟨z, 1, none⟩ v1).setCell ⟨z, 2, none⟩ v2).setCell ⟨z, 3, none⟩ v3).setCell ⟨z, 4, none⟩ v4).cell? ⟨g, off + 1, none⟩ = some (.string a) ∧ (((((w3.setCell ⟨z, 0, none⟩ v0).setCell ⟨z, 1, none⟩ v1).setCell ⟨z, 2, none⟩ v2).setCell ⟨z, 3, none⟩ v3).setCell ⟨z, 4, none⟩ v4).cell? ⟨g, off + 5, none⟩ = some (.string e)) := fun z hz v0 v1 v2 v3 v4 => ⟨cell_keeps (keeps5 w3 z v0 v1 v2 v3 v4) D4.out.lt (fun h => hz h.symm) K4.out.1, cell_keeps (keeps5 w3 z v0 v1 v2 v3 v4) D4.out.lt (fun h => hz h.symm) K4.out.2⟩; have r0 := ZB4.out.cell 0; have r1 := ZB4.out.cell 1; have r2 := ZB4.out.cell 2; have r3 := ZB4.out.cell 3; have r4 := ZB4.out.cell 4; have s0 := ZB4.out.frozen 0; have s1 := ZB4.out.frozen 1; have s2 := ZB4.out.frozen 2; have s3 := ZB4.out.frozen 3; have s4 := ZB4.out.frozen 4)))
 all_goals first
  |have tq := (HQ.out : jumpQ a = 6)
   clear tq
   have HV : Hid (∀ r, regS a (letterS 6) = some r → regV a (letterS 6) = r) := fun r => regS_val
   generalize regV a (letterS 6) = rv at *
   first
    | (have Z : Hid (RZ w (w3.alloc (.cells (inC 6 rv 0 fv 0) inT)) y (((b || !tg) || !(regS a (letterS 6)).isSome) || !fs.isSome) w3.heap.size w.heap.size (inC 6 rv 0 fv 0) (inC 0 0 0 0 0)) := ⟨R4.out.on (below_alloc _ _), Blk.new w3 inT (inC 6 rv 0 fv 0), blk_on B4.out (below_alloc _ _), Nat.le_of_lt SZ3.out, Nat.le_refl _, HYL.out, fun e => by have := SZ3.out; omega⟩
       have D := Lib.hid (D4.out.on (below_alloc w3 (.cells (inC 6 rv 0 fv 0) inT)))
       obtain ⟨W, hW⟩ : ∃ W, w3.alloc (.cells (inC 6 rv 0 fv 0) inT) = W := ⟨_, rfl⟩
       rw [hW] at Z D ⊢
       obtain ⟨z, hz⟩ : ∃ z, w3.heap.size = z := ⟨_, rfl⟩
       rw [hz] at Z ⊢)
    | (have Z := Lib.hid (RZ.allz (⟨R4.out, ZB4.out, B4.out, SZ1.out, Nat.le_refl _, HYL.out, fun e => by have := SZ1L.out; omega⟩ : RZ w w3 y (((b || !tg) || !(regS a (letterS 6)).isSome) || !fs.isSome) w1.heap.size w.heap.size (inC 0 0 0 0 0) (inC 0 0 0 0 0)) (.int .i64 6) (.int .i64 rv) (.int .i64 0) (.int .i64 fv) (.int .i64 0))
       have D := Lib.hid (D4.out.keeps (keeps5 w3 w1.heap.size (.int .i64 6) (.int .i64 rv) (.int .i64 0) (.int .i64 fv) (.int .i64 0)) (fun k hk => by subst hk; exact ⟨Nat.le_trans H.out.below.size SZ1.out, NEa.out⟩) Z.out.rd.blk)
       obtain ⟨W, hW⟩ : ∃ W, (((((w3.setCell ⟨w1.heap.size, 0, none⟩ (.int .i64 6)).setCell ⟨w1.heap.size, 1, none⟩ (.int .i64 rv)).setCell ⟨w1.heap.size, 2, none⟩ (.int .i64 0)).setCell ⟨w1.heap.size, 3, none⟩ (.int .i64 fv)).setCell ⟨w1.heap.size, 4, none⟩ (.int .i64 0)) = W := ⟨_, rfl⟩
       rw [hW] at Z D ⊢
       obtain ⟨z, hz⟩ : ∃ z, w1.heap.size = z := ⟨_, rfl⟩
       rw [hz] at Z ⊢)
    | (have Z := Lib.hid (RZ.allz (⟨R4.out, ZB4.out, B4.out, Nat.le_of_lt B3.out.lt, Nat.le_refl _, HYL.out, fun e => by have := B3.out.lt; omega⟩ : RZ w w3 y (((b || !tg) || !(regS a (letterS 6)).isSome) || !fs.isSome) w2.heap.size w.heap.size (inC 0 0 0 0 0) (inC 0 0 0 0 0)) (.int .i64 6) (.int .i64 rv) (.int .i64 0) (.int .i64 fv) (.int .i64 0))
       have D := Lib.hid (D4.out.keeps (keeps5 w3 w2.heap.size (.int .i64 6) (.int .i64 rv) (.int .i64 0) (.int .i64 fv) (.int .i64 0)) (fun k hk => by subst hk; exact ⟨Nat.le_trans H.out.below.size (Nat.le_of_lt B3.out.lt), NEb.out⟩) Z.out.rd.blk)
       obtain ⟨W, hW⟩ : ∃ W, (((((w3.setCell ⟨w2.heap.size, 0, none⟩ (.int .i64 6)).setCell ⟨w2.heap.size, 1, none⟩ (.int .i64 rv)).setCell ⟨w2.heap.size, 2, none⟩ (.int .i64 0)).setCell ⟨w2.heap.size, 3, none⟩ (.int .i64 fv)).setCell ⟨w2.heap.size, 4, none⟩ (.int .i64 0)) = W := ⟨_, rfl⟩
       rw [hW] at Z D ⊢
       obtain ⟨z, hz⟩ : ∃ z, w2.heap.size = z := ⟨_, rfl⟩
       rw [hz] at Z ⊢)
   clear hW hz D2 R2 B2 D2a R2a B2a Z2a K2 K2a K2b NEa D1 R1 B1 D3 R3 B3 D4 R4 B4 K3 K4
   have ne1 : ¬ z = w.heap.size := Z.out.ne
   have ne2 : ¬ w.heap.size = z := fun e => Z.out.ne e.symm
   have ne3 : ¬ g = z := fun e => by have := HHL.out; have := Z.out.hz; omega
   have ne4 : ¬ z = g := fun e => by have := HHL.out; have := Z.out.hz; omega
   have ne7 : ¬ y = w.heap.size := fun e => by have := HYL.out; omega
   have ne8 : ¬ w.heap.size = y := fun e => by have := HYL.out; omega
   have ne9 : ¬ y = z := fun e => by have := HYL.out; have := Z.out.hz; omega
   have ne10 : ¬ z = y := fun e => by have := HYL.out; have := Z.out.hz; omega
   obtain ⟨tyq, cs, hB, hi, hat⟩ := D.out.tabs.tests_any
   have HB := Lib.hid hB
   have HX := Lib.hid hi
   have HA := Lib.hid hat
   clear hB hi hat
   go_wp2_with (refine wpList_load_row rfl testsT _ rfl 3 rfl tyq cs (0, 0) _ HB.out Tryz.underlying111 rfl HX.out ?_)
   clear HB HX
   go_loopw [9, 36] (fun _ i' wr => ∃ k : Nat, i' = .int .i64 (k : Int) ∧ k ≤ 11 ∧ RZ w wr y (((b || !tg) || !(regS a (letterS 6)).isSome) || !fs.isSome) z w.heap.size (inC 6 rv 0 fv 0) (inC 0 0 0 0 0) ∧ Rd w0 wr y (((b || !tg) || !(regS a (letterS 6)).isSome) || !fs.isSome) g off [i, a, m, c, t, e] ∧ testR 6 rv fv m c (testL.drop k) = testR 6 rv fv m c testL) (fun _ i' _ => 11 - (Lib.intOf i').toNat)
   case atStart => exact ⟨0, rfl, by decide, Z.out, D.out, rfl⟩
   case round =>
    obtain ⟨k, rfl, hk, hR, hR2, hD⟩ := hrel
    have HR := Lib.hid hR
    have HR2 := Lib.hid hR2
    have HD := Lib.hid hD
    have HK := Lib.hid hk
    clear hR hR2 hD hk Z D
    by_cases h7 : k < 11
    ·obtain ⟨nm, md, e1, e2, e3⟩ := HA.out k h7
     have i1 : (k : Int) < 11 := by omega
     have HW := Lib.hid h7
     have HD2 : Hid (testR 6 rv fv m c ((nm, md) :: testL.drop (k + 1)) = testR 6 rv fv m c testL) := by
      have := HD.out
      rwa [drop_at e1] at this
     clear h7 e1 e2 HD
     have d1 : ∀ o', (wr.alloc o').cell? ⟨g, off + 2, none⟩ = some (.string m) := fun o' => (HR2.out.on (below_alloc wr o')).words 2 m rfl
     go_upto_region 10 with fail
     by_cases hq : sameT nm m = true
     ·have bq : (nm.toList == m.toList) = true := (same_beq _ _).trans hq
      have CSQ := Lib.hid (fun w' b' op (hb : Blk w' y rdT #[.bool b']) (hi : Blk w' z inT (inC op rv 0 fv 0)) => CS.out 6 z w' b' op rv 0 fv 0 hb hi)
      have HP : Hid (testR 6 rv fv m c testL = if (secS c (letterS 6) 0 0).ok = true then some ⟨if (secS c (letterS 6) 0 0).reg = true then bits .or .i64 (bits .or .i64 6 md) 8 else bits .or .i64 6 md, rv, (secS c (letterS 6) 0 0).src, fv, (secS c (letterS 6) 0 0).imm⟩ else none) := by
       rw [← HD2.out, testR, if_pos hq]
       exact rfl
      clear CS
      generalize secS c (letterS 6) 0 0 = S at *
      obtain ⟨sreg, ssrc, simm, sok⟩ := S
      simp only at CSQ HP
      clear hq HD2
      go_quiet (fail)
      obtain ⟨W2, hW2⟩ : ∃ W, (wr.alloc (.cells #[.string nm, .int .i64 md] 110)).drewN nq = W := ⟨_, rfl⟩
      have bw : Below wr.heap.size wr W2 := by rw [← hW2]; exact (below_alloc wr _).on (below_drewN _ nq)
      have T : Hid (Blk W2 wr.heap.size 110 #[.string nm, .int .i64 md]) := by rw [← hW2]; exact blk_on (Blk.new _ _ _) (below_drewN _ nq)
      rw [hW2]
      have Z := Lib.hid (HR.out.on bw)
      have D := Lib.hid (HR2.out.on bw)
      clear hW2 bw d1
      have t1 := T.out.cell 1
      have d2 : W2.cell? ⟨g, off + 3, none⟩ = some (.string c) := D.out.words 3 c rfl
      have g0 := Z.out.sl.cell 0; have g1 := Z.out.sl.cell 1; have g2 := Z.out.sl.cell 2; have g3 := Z.out.sl.cell 3; have g4 := Z.out.sl.cell 4; have f0 := Z.out.sl.frozen 0; have f2 := Z.out.sl.frozen 2; have f3 := Z.out.sl.frozen 3
      have ne5 : ¬ wr.heap.size = z := fun e => by have := HR.out.sl.lt; omega
      have ne6 : ¬ z = wr.heap.size := fun e => by have := HR.out.sl.lt; omega
      obtain ⟨p, ep⟩ : ∃ p, bits .or .i64 6 md = p := ⟨_, rfl⟩
      rw [ep] at HP
      have Z3 : Hid (RZ w (W2.setCell ⟨z, 0, none⟩ (.int .i64 p)) y (((b || !tg) || !(regS a (letterS 6)).isSome) || !fs.isSome) z w.heap.size (inC p rv 0 fv 0) (inC 0 0 0 0 0)) := Z.out.set 0 (.int .i64 p)
      have BK : Hid ((if sok = true then some (⟨if sreg = true then bits .or .i64 p 8 else p, rv, ssrc, fv, simm⟩ : Slot) else none).isSome = sok) := by cases sok <;> rfl
      cases sreg
      ·go_wp2_with (go_at_call 82; refine (CSQ.out _ _ p Z3.out.rd.blk Z3.out.sl).mono ?_; rintro e' w5 ⟨rfl, hr⟩; have Z5 := Lib.hid (Z3.out.second hr); clear hr; have g0 := Z5.out.sl.cell 0; have g1 := Z5.out.sl.cell 1; have g2 := Z5.out.sl.cell 2; have g3 := Z5.out.sl.cell 3; have g4 := Z5.out.sl.cell 4; have r0 := Z5.out.rs.cell 0; have r1 := Z5.out.rs.cell 1; have r2 := Z5.out.rs.cell 2; have r3 := Z5.out.rs.cell 3; have r4 := Z5.out.rs.cell 4; have s0 := Z5.out.rs.frozen 0; have s1 := Z5.out.rs.frozen 1; have s2 := Z5.out.rs.frozen 2; have s3 := Z5.out.rs.frozen 3; have s4 := Z5.out.rs.frozen 4)
       have H9 := Lib.hid (Z5.out.all (.int .i64 p) (.int .i64 rv) (.int .i64 ssrc) (.int .i64 fv) (.int .i64 simm))
       refine bodyPost_ret (results_cell_row rfl _ _ w.heap.size inT _ (0, 0) _ rfl H9.out.rs Tryz.underlying38 rfl (by kernel_rfl)) rfl ?_
       rw [AE.out 6 HQ.out]
       exact gives_jmp (x := ⟨p, rv, ssrc, fv, simm⟩) rfl HV.out HFV.out (by rw [HP.out, BK.out]; exact H9.out.rd) (fun z hz => by rw [HP.out] at hz; cases sok <;> simp at hz; exact hz)
      ·go_wp2_with (go_at_call 82; refine (CSQ.out _ _ p Z3.out.rd.blk Z3.out.sl).mono ?_; rintro e' w5 ⟨rfl, hr⟩; have Z5 := Lib.hid (Z3.out.second hr); clear hr; have g0 := Z5.out.sl.cell 0; have g1 := Z5.out.sl.cell 1; have g2 := Z5.out.sl.cell 2; have g3 := Z5.out.sl.cell 3; have g4 := Z5.out.sl.cell 4; have r0 := Z5.out.rs.cell 0; have r1 := Z5.out.rs.cell 1; have r2 := Z5.out.rs.cell 2; have r3 := Z5.out.rs.cell 3; have r4 := Z5.out.rs.cell 4; have s0 := Z5.out.rs.frozen 0; have s1 := Z5.out.rs.frozen 1; have s2 := Z5.out.rs.frozen 2; have s3 := Z5.out.rs.frozen 3; have s4 := Z5.out.rs.frozen 4; have f0 := Z5.out.sl.frozen 0)
       have H9 := Lib.hid ((Z5.out.set 0 (.int .i64 (bits .or .i64 p 8))).all (.int .i64 (bits .or .i64 p 8)) (.int .i64 rv) (.int .i64 ssrc) (.int .i64 fv) (.int .i64 simm))
       refine bodyPost_ret (results_cell_row rfl _ _ w.heap.size inT _ (0, 0) _ rfl H9.out.rs Tryz.underlying38 rfl (by kernel_rfl)) rfl ?_
       rw [AE.out 6 HQ.out]
       exact gives_jmp (x := ⟨bits .or .i64 p 8, rv, ssrc, fv, simm⟩) rfl HV.out HFV.out (by rw [HP.out, BK.out]; exact H9.out.rd) (fun z hz => by rw [HP.out] at hz; cases sok <;> simp at hz; exact hz)
     ·have bq : (nm.toList == m.toList) = false := (same_beq _ _).trans (by simpa using hq)
      have HD3 : Hid (testR 6 rv fv m c (testL.drop (k + 1)) = testR 6 rv fv m c testL) := by
       rw [← HD2.out, testR, if_neg hq]
       exact rfl
      clear hq HD2
      go_quiet (fail)
      have bw : Hid (Below wr.heap.size wr ((wr.alloc (.cells #[.string nm, .int .i64 md] 110)).drewN nq)) := (below_alloc wr _).on (below_drewN _ nq)
      go_wp2_with fail
      go_roundw
      case rel => exact ⟨k + 1, rfl, HW.out, HR.out.on bw.out, HR2.out.on bw.out, HD3.out⟩
      case measure =>
       have := HW.out
       simp only [Lib.intOf]
       omega
    ·have hk7 : k = 11 := by have := HK.out; omega
     subst hk7
     have HF : Hid (testR 6 rv fv m c testL = none) := by
      rw [← HD.out]
      exact rfl
     have g0 := HR.out.sl.cell 0; have g1 := HR.out.sl.cell 1; have g2 := HR.out.sl.cell 2; have g3 := HR.out.sl.cell 3; have g4 := HR.out.sl.cell 4
     have r0 := HR.out.rs.cell 0; have r1 := HR.out.rs.cell 1; have r2 := HR.out.rs.cell 2; have r3 := HR.out.rs.cell 3; have r4 := HR.out.rs.cell 4; have s0 := HR.out.rs.frozen 0; have s1 := HR.out.rs.frozen 1; have s2 := HR.out.rs.frozen 2; have s3 := HR.out.rs.frozen 3; have s4 := HR.out.rs.frozen 4
     have y0 := HR.out.rd.blk.cell 0; have y1 := HR.out.rd.blk.frozen 0
     clear h7 HD HK
     go_wp2_with fail
     have H9 := Lib.hid (HR.out.wrong.all (.int .i64 6) (.int .i64 rv) (.int .i64 0) (.int .i64 fv) (.int .i64 0))
     refine bodyPost_ret (results_cell_row rfl _ _ w.heap.size inT _ (0, 0) _ rfl H9.out.rs Tryz.underlying38 rfl (by kernel_rfl)) rfl ?_
     rw [AE.out 6 HQ.out]
     exact gives_jmp (x := ⟨6, rv, 0, fv, 0⟩) rfl HV.out HFV.out (by rw [HF.out]; simpa using H9.out.rd) (fun z hz => by rw [HF.out] at hz; cases hz)
  |have HV : Hid (∀ r, regS a (letterS 5) = some r → regV a (letterS 5) = r) := fun r => regS_val
   generalize regV a (letterS 5) = rv at *
   first
    | (have Z : Hid (RZ w (w3.alloc (.cells (inC 5 rv 0 fv 0) inT)) y (((b || !tg) || !(regS a (letterS 5)).isSome) || !fs.isSome) w3.heap.size w.heap.size (inC 5 rv 0 fv 0) (inC 0 0 0 0 0)) := ⟨R4.out.on (below_alloc _ _), Blk.new w3 inT (inC 5 rv 0 fv 0), blk_on B4.out (below_alloc _ _), Nat.le_of_lt SZ3.out, Nat.le_refl _, HYL.out, fun e => by have := SZ3.out; omega⟩
       have D := Lib.hid (D4.out.on (below_alloc w3 (.cells (inC 5 rv 0 fv 0) inT)))
       obtain ⟨W, hW⟩ : ∃ W, w3.alloc (.cells (inC 5 rv 0 fv 0) inT) = W := ⟨_, rfl⟩
       rw [hW] at Z D ⊢
       obtain ⟨z, hz⟩ : ∃ z, w3.heap.size = z := ⟨_, rfl⟩
       rw [hz] at Z ⊢)
    | (have Z := Lib.hid (RZ.allz (⟨R4.out, ZB4.out, B4.out, SZ1.out, Nat.le_refl _, HYL.out, fun e => by have := SZ1L.out; omega⟩ : RZ w w3 y (((b || !tg) || !(regS a (letterS 5)).isSome) || !fs.isSome) w1.heap.size w.heap.size (inC 0 0 0 0 0) (inC 0 0 0 0 0)) (.int .i64 5) (.int .i64 rv) (.int .i64 0) (.int .i64 fv) (.int .i64 0))
       have D := Lib.hid (D4.out.keeps (keeps5 w3 w1.heap.size (.int .i64 5) (.int .i64 rv) (.int .i64 0) (.int .i64 fv) (.int .i64 0)) (fun k hk => by subst hk; exact ⟨Nat.le_trans H.out.below.size SZ1.out, NEa.out⟩) Z.out.rd.blk)
       obtain ⟨W, hW⟩ : ∃ W, (((((w3.setCell ⟨w1.heap.size, 0, none⟩ (.int .i64 5)).setCell ⟨w1.heap.size, 1, none⟩ (.int .i64 rv)).setCell ⟨w1.heap.size, 2, none⟩ (.int .i64 0)).setCell ⟨w1.heap.size, 3, none⟩ (.int .i64 fv)).setCell ⟨w1.heap.size, 4, none⟩ (.int .i64 0)) = W := ⟨_, rfl⟩
       rw [hW] at Z D ⊢
       obtain ⟨z, hz⟩ : ∃ z, w1.heap.size = z := ⟨_, rfl⟩
       rw [hz] at Z ⊢)
    | (have Z := Lib.hid (RZ.allz (⟨R4.out, ZB4.out, B4.out, Nat.le_of_lt B3.out.lt, Nat.le_refl _, HYL.out, fun e => by have := B3.out.lt; omega⟩ : RZ w w3 y (((b || !tg) || !(regS a (letterS 5)).isSome) || !fs.isSome) w2.heap.size w.heap.size (inC 0 0 0 0 0) (inC 0 0 0 0 0)) (.int .i64 5) (.int .i64 rv) (.int .i64 0) (.int .i64 fv) (.int .i64 0))
       have D := Lib.hid (D4.out.keeps (keeps5 w3 w2.heap.size (.int .i64 5) (.int .i64 rv) (.int .i64 0) (.int .i64 fv) (.int .i64 0)) (fun k hk => by subst hk; exact ⟨Nat.le_trans H.out.below.size (Nat.le_of_lt B3.out.lt), NEb.out⟩) Z.out.rd.blk)
       obtain ⟨W, hW⟩ : ∃ W, (((((w3.setCell ⟨w2.heap.size, 0, none⟩ (.int .i64 5)).setCell ⟨w2.heap.size, 1, none⟩ (.int .i64 rv)).setCell ⟨w2.heap.size, 2, none⟩ (.int .i64 0)).setCell ⟨w2.heap.size, 3, none⟩ (.int .i64 fv)).setCell ⟨w2.heap.size, 4, none⟩ (.int .i64 0)) = W := ⟨_, rfl⟩
       rw [hW] at Z D ⊢
       obtain ⟨z, hz⟩ : ∃ z, w2.heap.size = z := ⟨_, rfl⟩
       rw [hz] at Z ⊢)
   clear hW hz D2 R2 B2 D2a R2a B2a Z2a K2 K2a K2b NEa D1 R1 B1 D3 R3 B3 D4 R4 B4 K3 K4
   have ne1 : ¬ z = w.heap.size := Z.out.ne
   have ne2 : ¬ w.heap.size = z := fun e => Z.out.ne e.symm
   have ne3 : ¬ g = z := fun e => by have := HHL.out; have := Z.out.hz; omega
   have ne4 : ¬ z = g := fun e => by have := HHL.out; have := Z.out.hz; omega
   have ne7 : ¬ y = w.heap.size := fun e => by have := HYL.out; omega
   have ne8 : ¬ w.heap.size = y := fun e => by have := HYL.out; omega
   have ne9 : ¬ y = z := fun e => by have := HYL.out; have := Z.out.hz; omega
   have ne10 : ¬ z = y := fun e => by have := HYL.out; have := Z.out.hz; omega
   obtain ⟨tyq, cs, hB, hi, hat⟩ := D.out.tabs.tests_any
   have HB := Lib.hid hB
   have HX := Lib.hid hi
   have HA := Lib.hid hat
   clear hB hi hat
   go_wp2_with (refine wpList_load_row rfl testsT _ rfl 3 rfl tyq cs (0, 0) _ HB.out Tryz.underlying111 rfl HX.out ?_)
   clear HB HX
   go_loopw [9, 36] (fun _ i' wr => ∃ k : Nat, i' = .int .i64 (k : Int) ∧ k ≤ 11 ∧ RZ w wr y (((b || !tg) || !(regS a (letterS 5)).isSome) || !fs.isSome) z w.heap.size (inC 5 rv 0 fv 0) (inC 0 0 0 0 0) ∧ Rd w0 wr y (((b || !tg) || !(regS a (letterS 5)).isSome) || !fs.isSome) g off [i, a, m, c, t, e] ∧ testR 5 rv fv m c (testL.drop k) = testR 5 rv fv m c testL) (fun _ i' _ => 11 - (Lib.intOf i').toNat)
   case atStart => exact ⟨0, rfl, by decide, Z.out, D.out, rfl⟩
   case round =>
    obtain ⟨k, rfl, hk, hR, hR2, hD⟩ := hrel
    have HR := Lib.hid hR
    have HR2 := Lib.hid hR2
    have HD := Lib.hid hD
    have HK := Lib.hid hk
    clear hR hR2 hD hk Z D
    by_cases h7 : k < 11
    ·obtain ⟨nm, md, e1, e2, e3⟩ := HA.out k h7
     have i1 : (k : Int) < 11 := by omega
     have HW := Lib.hid h7
     have HD2 : Hid (testR 5 rv fv m c ((nm, md) :: testL.drop (k + 1)) = testR 5 rv fv m c testL) := by
      have := HD.out
      rwa [drop_at e1] at this
     clear h7 e1 e2 HD
     have d1 : ∀ o', (wr.alloc o').cell? ⟨g, off + 2, none⟩ = some (.string m) := fun o' => (HR2.out.on (below_alloc wr o')).words 2 m rfl
     go_upto_region 10 with fail
     by_cases hq : sameT nm m = true
     ·have bq : (nm.toList == m.toList) = true := (same_beq _ _).trans hq
      have CSQ := Lib.hid (fun w' b' op (hb : Blk w' y rdT #[.bool b']) (hi : Blk w' z inT (inC op rv 0 fv 0)) => CS.out 5 z w' b' op rv 0 fv 0 hb hi)
      have HP : Hid (testR 5 rv fv m c testL = if (secS c (letterS 5) 0 0).ok = true then some ⟨if (secS c (letterS 5) 0 0).reg = true then bits .or .i64 (bits .or .i64 5 md) 8 else bits .or .i64 5 md, rv, (secS c (letterS 5) 0 0).src, fv, (secS c (letterS 5) 0 0).imm⟩ else none) := by
       rw [← HD2.out, testR, if_pos hq]
       exact rfl
      clear CS
      generalize secS c (letterS 5) 0 0 = S at *
      obtain ⟨sreg, ssrc, simm, sok⟩ := S
      simp only at CSQ HP
      clear hq HD2
      go_quiet (fail)
      obtain ⟨W2, hW2⟩ : ∃ W, (wr.alloc (.cells #[.string nm, .int .i64 md] 110)).drewN nq = W := ⟨_, rfl⟩
      have bw : Below wr.heap.size wr W2 := by rw [← hW2]; exact (below_alloc wr _).on (below_drewN _ nq)
      have T : Hid (Blk W2 wr.heap.size 110 #[.string nm, .int .i64 md]) := by rw [← hW2]; exact blk_on (Blk.new _ _ _) (below_drewN _ nq)
      rw [hW2]
      have Z := Lib.hid (HR.out.on bw)
      have D := Lib.hid (HR2.out.on bw)
      clear hW2 bw d1
      have t1 := T.out.cell 1
      have d2 : W2.cell? ⟨g, off + 3, none⟩ = some (.string c) := D.out.words 3 c rfl
      have g0 := Z.out.sl.cell 0; have g1 := Z.out.sl.cell 1; have g2 := Z.out.sl.cell 2; have g3 := Z.out.sl.cell 3; have g4 := Z.out.sl.cell 4; have f0 := Z.out.sl.frozen 0; have f2 := Z.out.sl.frozen 2; have f3 := Z.out.sl.frozen 3
      have ne5 : ¬ wr.heap.size = z := fun e => by have := HR.out.sl.lt; omega
      have ne6 : ¬ z = wr.heap.size := fun e => by have := HR.out.sl.lt; omega
      obtain ⟨p, ep⟩ : ∃ p, bits .or .i64 5 md = p := ⟨_, rfl⟩
      rw [ep] at HP
      have Z3 : Hid (RZ w (W2.setCell ⟨z, 0, none⟩ (.int .i64 p)) y (((b || !tg) || !(regS a (letterS 5)).isSome) || !fs.isSome) z w.heap.size (inC p rv 0 fv 0) (inC 0 0 0 0 0)) := Z.out.set 0 (.int .i64 p)
      have BK : Hid ((if sok = true then some (⟨if sreg = true then bits .or .i64 p 8 else p, rv, ssrc, fv, simm⟩ : Slot) else none).isSome = sok) := by cases sok <;> rfl
      cases sreg
      ·go_wp2_with (go_at_call 82; refine (CSQ.out _ _ p Z3.out.rd.blk Z3.out.sl).mono ?_; rintro e' w5 ⟨rfl, hr⟩; have Z5 := Lib.hid (Z3.out.second hr); clear hr; have g0 := Z5.out.sl.cell 0; have g1 := Z5.out.sl.cell 1; have g2 := Z5.out.sl.cell 2; have g3 := Z5.out.sl.cell 3; have g4 := Z5.out.sl.cell 4; have r0 := Z5.out.rs.cell 0; have r1 := Z5.out.rs.cell 1; have r2 := Z5.out.rs.cell 2; have r3 := Z5.out.rs.cell 3; have r4 := Z5.out.rs.cell 4; have s0 := Z5.out.rs.frozen 0; have s1 := Z5.out.rs.frozen 1; have s2 := Z5.out.rs.frozen 2; have s3 := Z5.out.rs.frozen 3; have s4 := Z5.out.rs.frozen 4)
       have H9 := Lib.hid (Z5.out.all (.int .i64 p) (.int .i64 rv) (.int .i64 ssrc) (.int .i64 fv) (.int .i64 simm))
       refine bodyPost_ret (results_cell_row rfl _ _ w.heap.size inT _ (0, 0) _ rfl H9.out.rs Tryz.underlying38 rfl (by kernel_rfl)) rfl ?_
       rw [AE.out 5 HQ.out]
       exact gives_jmp (x := ⟨p, rv, ssrc, fv, simm⟩) rfl HV.out HFV.out (by rw [HP.out, BK.out]; exact H9.out.rd) (fun z hz => by rw [HP.out] at hz; cases sok <;> simp at hz; exact hz)
      ·go_wp2_with (go_at_call 82; refine (CSQ.out _ _ p Z3.out.rd.blk Z3.out.sl).mono ?_; rintro e' w5 ⟨rfl, hr⟩; have Z5 := Lib.hid (Z3.out.second hr); clear hr; have g0 := Z5.out.sl.cell 0; have g1 := Z5.out.sl.cell 1; have g2 := Z5.out.sl.cell 2; have g3 := Z5.out.sl.cell 3; have g4 := Z5.out.sl.cell 4; have r0 := Z5.out.rs.cell 0; have r1 := Z5.out.rs.cell 1; have r2 := Z5.out.rs.cell 2; have r3 := Z5.out.rs.cell 3; have r4 := Z5.out.rs.cell 4; have s0 := Z5.out.rs.frozen 0; have s1 := Z5.out.rs.frozen 1; have s2 := Z5.out.rs.frozen 2; have s3 := Z5.out.rs.frozen 3; have s4 := Z5.out.rs.frozen 4; have f0 := Z5.out.sl.frozen 0)
       have H9 := Lib.hid ((Z5.out.set 0 (.int .i64 (bits .or .i64 p 8))).all (.int .i64 (bits .or .i64 p 8)) (.int .i64 rv) (.int .i64 ssrc) (.int .i64 fv) (.int .i64 simm))
       refine bodyPost_ret (results_cell_row rfl _ _ w.heap.size inT _ (0, 0) _ rfl H9.out.rs Tryz.underlying38 rfl (by kernel_rfl)) rfl ?_
       rw [AE.out 5 HQ.out]
       exact gives_jmp (x := ⟨bits .or .i64 p 8, rv, ssrc, fv, simm⟩) rfl HV.out HFV.out (by rw [HP.out, BK.out]; exact H9.out.rd) (fun z hz => by rw [HP.out] at hz; cases sok <;> simp at hz; exact hz)
     ·have bq : (nm.toList == m.toList) = false := (same_beq _ _).trans (by simpa using hq)
      have HD3 : Hid (testR 5 rv fv m c (testL.drop (k + 1)) = testR 5 rv fv m c testL) := by
       rw [← HD2.out, testR, if_neg hq]
       exact rfl
      clear hq HD2
      go_quiet (fail)
      have bw : Hid (Below wr.heap.size wr ((wr.alloc (.cells #[.string nm, .int .i64 md] 110)).drewN nq)) := (below_alloc wr _).on (below_drewN _ nq)
      go_wp2_with fail
      go_roundw
      case rel => exact ⟨k + 1, rfl, HW.out, HR.out.on bw.out, HR2.out.on bw.out, HD3.out⟩
      case measure =>
       have := HW.out
       simp only [Lib.intOf]
       omega
    ·have hk7 : k = 11 := by have := HK.out; omega
     subst hk7
     have HF : Hid (testR 5 rv fv m c testL = none) := by
      rw [← HD.out]
      exact rfl
     have g0 := HR.out.sl.cell 0; have g1 := HR.out.sl.cell 1; have g2 := HR.out.sl.cell 2; have g3 := HR.out.sl.cell 3; have g4 := HR.out.sl.cell 4
     have r0 := HR.out.rs.cell 0; have r1 := HR.out.rs.cell 1; have r2 := HR.out.rs.cell 2; have r3 := HR.out.rs.cell 3; have r4 := HR.out.rs.cell 4; have s0 := HR.out.rs.frozen 0; have s1 := HR.out.rs.frozen 1; have s2 := HR.out.rs.frozen 2; have s3 := HR.out.rs.frozen 3; have s4 := HR.out.rs.frozen 4
     have y0 := HR.out.rd.blk.cell 0; have y1 := HR.out.rd.blk.frozen 0
     clear h7 HD HK
     go_wp2_with fail
     have H9 := Lib.hid (HR.out.wrong.all (.int .i64 5) (.int .i64 rv) (.int .i64 0) (.int .i64 fv) (.int .i64 0))
     refine bodyPost_ret (results_cell_row rfl _ _ w.heap.size inT _ (0, 0) _ rfl H9.out.rs Tryz.underlying38 rfl (by kernel_rfl)) rfl ?_
     rw [AE.out 5 HQ.out]
     exact gives_jmp (x := ⟨5, rv, 0, fv, 0⟩) rfl HV.out HFV.out (by rw [HF.out]; simpa using H9.out.rd) (fun z hz => by rw [HF.out] at hz; cases hz)
end Go.Proofs.YtemiklbkfogjeaaGreatDoor
