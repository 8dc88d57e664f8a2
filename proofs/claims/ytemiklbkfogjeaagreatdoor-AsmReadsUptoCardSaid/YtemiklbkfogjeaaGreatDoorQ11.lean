/-
  Package asm, reading: alu.
-/
import Derived.Test.YtemiklbkfogjeaaGreatDoorQ10
import Derived.Deep.QuietTactic
import Derived.BigQuiet
namespace Go.Proofs.YtemiklbkfogjeaaGreatDoor
open Go Go.RowKit Go.Maps
set_option linter.unusedVariables false
set_option linter.unusedSimpArgs false
set_option maxRecDepth 100000
def sameT (a b : ByteArray) : Bool := decide (a.data.toList = b.data.toList)
theorem same_beq (a b : ByteArray) : (a.toList == b.toList) = sameT a b := list_beq a b
theorem same_const (a : ByteArray) (l : List UInt8) : (a.toList == l) = sameT a ⟨l.toArray⟩ := by
 have := list_beq a ⟨l.toArray⟩
 rw [toList_data ⟨l.toArray⟩] at this
 exact this
def aluQ (a : ByteArray) : Int := if begins a lowerT = true then 4 else 7
def secR (q p d x : Int) (c : ByteArray) : Option Slot :=
 if (secS c (letterS q) 0 0).ok = true then some ⟨if (secS c (letterS q) 0 0).reg = true then bits .or .i64 p 8 else p, d, (secS c (letterS q) 0 0).src, x, (secS c (letterS q) 0 0).imm⟩ else none
def operR (q d : Int) (m c : ByteArray) : List (ByteArray × Int × Int) → Option Slot
 | [] => none
 | (nm, k, x) :: l => if sameT nm m = true then secR q (bits .or .i64 q k) d x c else operR q d m c l
def aluR (a m c : ByteArray) : Option Slot := (regS a (letterS (aluQ a))).bind fun d =>
 if sameT m eqT = true ∧ sameT c (minusW ++ a) = true then some ⟨bits .or .i64 (aluQ a) 128, (d : Int), 0, 0, 0⟩
 else if sameT m eqT = true ∧ begins c ⟨#[40]⟩ = true then extG (aluQ a) (bits .or .i64 (aluQ a) 184) d c [8, 16, 32]
 else operR (aluQ a) d m c operL
theorem below_drewN (W : World) (k : Nat) : Below W.heap.size W (W.drewN k) := ⟨rfl, rfl, rfl, Nat.le_refl _, fun _ _ => rfl⟩
theorem Rd.pow {w0 w w' : World} {y g off : Nat} {b : Bool} {L : List ByteArray} (h : Rd w0 w y b g off L) (hk : Keeps (isY y) w w') : Pow w' :=
 (h.tabs0.below (h.below.trans (hk.below (fun k hk => by have : k = y := hk; subst this; exact h.hy) h.below.size))).pow
theorem bind_mark {b : Bool} {rs : Option Nat} {rv : Nat} {F : Nat → Option Slot} (hv : ∀ r, rs = some r → rv = r) : ((b || !rs.isSome) || !(F rv).isSome) = (b || !(rs.bind F).isSome) := by
 rcases rs with _ | r
 ·cases b <;> rfl
 ·rw [hv r rfl]
  cases b <;> simp
theorem gives_bind {w W : World} {y : Nat} {b : Bool} {rs : Option Nat} {rv : Nat} {F : Nat → Option Slot} {x : Slot} {e : Ending} (he : e = .returned (.agg (inC x.o x.d x.s x.f x.m))) (hv : ∀ r, rs = some r → rv = r) (h : RD w W y ((b || !rs.isSome) || !(F rv).isSome)) (hx : ∀ z, F rv = some z → x = z) : GivesI w y b (rs.bind F) e W := by
 refine ⟨x, he, ?_, fun z hz => ?_⟩
 ·rw [bind_mark hv] at h
  exact h
 ·obtain ⟨r, hr, hz⟩ := Option.bind_eq_some_iff.1 hz
  have e := hv r hr
  exact hx z (by rw [e]; exact hz)
set_option maxHeartbeats 16000000 in
theorem aluR_any {w0 w : World} {y g off : Nat} {b : Bool} (a m c : ByteArray) (h : Rd w0 w y b g off [a, m, c]) (n cc : Nat) (hn : n = 3) :
  Calls Tryz.prog 58 #[rp y, .slice (some ⟨g, off, none⟩) n cc] w (GivesI w y b (aluR a m c)) := by
 subst hn
 have H := Lib.hid h
 have a0 : ∀ o, (w.alloc o).cell? ⟨g, off, none⟩ = some (.string a) := fun o => (h.on (below_alloc w o)).words 0 a rfl
 have CH : Hid (∀ w, Calls Tryz.prog 80 #[.string a, .string lowerT] w fun e w' => e = .returned (.bool (begins a lowerT)) ∧ w = w') := fun w => hasPrefix_any a lowerT (h.small a (by simp)) (by decide) w
 have CH2 : Hid (∀ w, Calls Tryz.prog 80 #[.string c, .string ⟨#[40]⟩] w fun e w' => e = .returned (.bool (begins c ⟨#[40]⟩)) ∧ w = w') := fun w => hasPrefix_any c ⟨#[40]⟩ (h.small c (by simp)) (by decide) w
 have n1 : ¬ 9223372036854775807 < 1 + a.size := by have := h.small a (by simp); omega
 have CR := Lib.hid (fun q w' b' (hb : Blk w' y rdT #[.bool b']) => register_any hb a (letterS q) (h.small a (by simp)) (Nat.le_trans (letterS_size _) (by decide)))
 have RB : Hid (Blk (w.alloc (.cells (inC 0 0 0 0 0) inT)) w.heap.size inT (inC 0 0 0 0 0)) := Blk.new _ _ _
 have HNE : Hid (¬ isY y w.heap.size) := fun e => by have h1 : w.heap.size = y := e; have := h.blk.lt; omega
 have HYL : Hid (y < w.heap.size) := h.blk.lt
 have CE := Lib.hid (fun q d (hq : q = 4 ∨ q = 7) w' b' (hb : Blk w' y rdT #[.bool b']) ht => extend_any (w := w') (b := b') hb q d hq c (h.small c (by simp)) ht)
 have CS := Lib.hid (fun q z w' b' op dst src off imm (hb : Blk w' y rdT #[.bool b']) (hi : Blk w' z inT (inC op dst src off imm)) => second_any hb hi c (letterS q) (h.small c (by simp)) (Nat.le_trans (letterS_size _) (by decide)))
 have aluEq : ∀ q, aluQ a = q → aluR a m c = (regS a (letterS q)).bind fun d =>
   if sameT m eqT = true ∧ sameT c (minusW ++ a) = true then some ⟨bits .or .i64 q 128, (d : Int), 0, 0, 0⟩
   else if sameT m eqT = true ∧ begins c ⟨#[40]⟩ = true then extG q (bits .or .i64 q 184) d c [8, 16, 32]
   else operR q d m c operL := by
  intro q hq
  unfold aluR
  rw [hq]
 have AE := Lib.hid aluEq
 by_cases hb : begins a lowerT = true
 ·rw [hb] at CH
  have HQ : Hid (aluQ a = 4) := if_pos hb
  clear h hb aluEq
  go_enter Tryz.func58, Tryz.ntmps58
  go_upto_region 6 with (first
   | (go_at_call 80; refine (CH.out _).mono ?_; rintro e w2 ⟨rfl, rfl⟩)
   | (go_at_call 81; refine (letterOf_any _ _).mono ?_; rintro e w2 ⟨rfl, rfl⟩)
   | (go_at_call 50; refine (CR.out _ _ _ (H.out.on (below_alloc _ _)).blk).mono ?_; rintro e w3 ⟨rfl, hr⟩; have H1 := Lib.hid ((H.out.on (below_alloc _ _)).mark hr); have RD1 := Lib.hid (RD.then ((RD.start H.out.blk).on (below_alloc _ _)) hr); have R1 := Lib.hid (RB.out.keeps hr.keeps HNE.out); have SZ : Hid (w.heap.size ≤ w3.heap.size) := (Nat.le_trans (by simp) hr.keeps.size); clear hr))
  have W1 := Lib.hid (fun o => H1.out.on (below_alloc _ o))
  have d0 : ∀ o, (w3.alloc o).cell? ⟨g, off, none⟩ = some (.string a) := fun o => (W1.out o).words 0 a rfl
  have d1 : ∀ o, (w3.alloc o).cell? ⟨g, off + 1, none⟩ = some (.string m) := fun o => (W1.out o).words 1 m rfl
  have d2 : ∀ o, (w3.alloc o).cell? ⟨g, off + 2, none⟩ = some (.string c) := fun o => (W1.out o).words 2 c rfl
  have HV : Hid (∀ r, regS a (letterS 4) = some r → regV a (letterS 4) = r) := fun r => regS_val
  generalize regV a (letterS 4) = rv at *
  have ZA : Hid (∀ k, RZ w ((w3.alloc (.cells (inC 4 rv 0 0 0) inT)).drewN k) y (b || !(regS a (letterS 4)).isSome) w3.heap.size w.heap.size (inC 4 rv 0 0 0) (inC 0 0 0 0 0)) := fun k =>
   ⟨RD1.out.on ((below_alloc _ _).on (below_drewN _ k)), blk_on (Blk.new _ _ _) (below_drewN _ k), blk_on R1.out ((below_alloc _ _).on (below_drewN _ k)), SZ.out, Nat.le_refl _, HYL.out, fun e => by have := R1.out.lt; omega⟩
  have DA : Hid (∀ k, Rd w0 ((w3.alloc (.cells (inC 4 rv 0 0 0) inT)).drewN k) y (b || !(regS a (letterS 4)).isSome) g off [a, m, c]) := fun k => (W1.out _).on (below_drewN _ k)
  have ne1 : ¬ w3.heap.size = w.heap.size := fun e => by have := R1.out.lt; omega
  have ne2 : ¬ w.heap.size = w3.heap.size := fun e => by have := R1.out.lt; omega
  have ne3 : ¬ g = w3.heap.size := fun e => by have := H1.out.lt; omega
  have ne4 : ¬ w3.heap.size = g := fun e => by have := H1.out.lt; omega
  have ne7 : ¬ y = w.heap.size := fun e => by have := HYL.out; omega
  have ne8 : ¬ w.heap.size = y := fun e => by have := HYL.out; omega
  have ne9 : ¬ y = w3.heap.size := fun e => by have := HYL.out; have := SZ.out; omega
  have ne10 : ¬ w3.heap.size = y := fun e => by have := HYL.out; have := SZ.out; omega
  by_cases hm : sameT m eqT = true
  ·have bm : (m.toList == [61]) = true := (same_const m [61]).trans hm
   by_cases hc : sameT c (minusW ++ a) = true
   ·have bc : (c.toList == (minusW ++ a).toList) = true := (same_beq _ _).trans hc
    go_quiet (fail)
    go_upto_region 7 with fail
    obtain ⟨W, hW⟩ : ∃ W, (w3.alloc (.cells (inC 4 rv 0 0 0) inT)).drewN nq = W := ⟨_, rfl⟩
    have Z := Lib.hid (ZA.out nq)
    have D := Lib.hid (DA.out nq)
    rw [hW] at Z D ⊢
    clear ZA DA hW
    have g0 := Z.out.sl.cell 0; have g1 := Z.out.sl.cell 1; have g2 := Z.out.sl.cell 2; have g3 := Z.out.sl.cell 3; have g4 := Z.out.sl.cell 4; have f0 := Z.out.sl.frozen 0; have f2 := Z.out.sl.frozen 2; have f3 := Z.out.sl.frozen 3
    have r0 := Z.out.rs.cell 0; have r1 := Z.out.rs.cell 1; have r2 := Z.out.rs.cell 2; have r3 := Z.out.rs.cell 3; have r4 := Z.out.rs.cell 4; have s0 := Z.out.rs.frozen 0; have s1 := Z.out.rs.frozen 1; have s2 := Z.out.rs.frozen 2; have s3 := Z.out.rs.frozen 3; have s4 := Z.out.rs.frozen 4
    clear d0 d1 d2
    go_wp2_with fail
    have H9 := Lib.hid ((Z.out.set 0 (.int .i64 (bits .or .i64 4 128))).all (.int .i64 (bits .or .i64 4 128)) (.int .i64 rv) (.int .i64 0) (.int .i64 0) (.int .i64 0))
    refine bodyPost_ret (results_cell_row rfl _ _ w.heap.size inT _ (0, 0) _ rfl H9.out.rs Tryz.underlying38 rfl (by kernel_rfl)) rfl ?_
    rw [AE.out 4 HQ.out]
    exact gives_bind (x := ⟨bits .or .i64 4 128, rv, 0, 0, 0⟩) rfl HV.out (by simp only [hm, hc, and_self, if_true]; simpa using H9.out.rd) (fun z hz => by simp only [hm, hc, and_self, if_true] at hz; injection hz)
   ·have bc : (c.toList == (minusW ++ a).toList) = false := (same_beq _ _).trans (by simpa using hc)
    by_cases hp : begins c ⟨#[40]⟩ = true
    ·rw [hp] at CH2
     go_quiet (fail)
     go_upto_region 9 with fail
     obtain ⟨W, hW⟩ : ∃ W, (w3.alloc (.cells (inC 4 rv 0 0 0) inT)).drewN nq = W := ⟨_, rfl⟩
     have Z := Lib.hid (ZA.out nq)
     have D := Lib.hid (DA.out nq)
     rw [hW] at Z D ⊢
     clear ZA DA hW
     have d1' : W.cell? ⟨g, off + 1, none⟩ = some (.string m) := D.out.words 1 m rfl
     have d2' : W.cell? ⟨g, off + 2, none⟩ = some (.string c) := D.out.words 2 c rfl
     clear d0 d1 d2
     go_upto_region 10 with (go_at_call 80; refine (CH2.out _).mono ?_; rintro e w5 ⟨rfl, rfl⟩)
     have Z0 := Lib.hid (Z.out.on (below_drew W))
     have D0 := Lib.hid (D.out.on (below_drew W))
     have r0 := Z0.out.rs.cell 0; have r1 := Z0.out.rs.cell 1; have r2 := Z0.out.rs.cell 2; have r3 := Z0.out.rs.cell 3; have r4 := Z0.out.rs.cell 4; have s0 := Z0.out.rs.frozen 0; have s1 := Z0.out.rs.frozen 1; have s2 := Z0.out.rs.frozen 2; have s3 := Z0.out.rs.frozen 3; have s4 := Z0.out.rs.frozen 4
     have K0 : Hid (W.drew.cell? ⟨w3.heap.size, 0, none⟩ = some (.int .i64 4) ∧ W.drew.cell? ⟨w3.heap.size, 1, none⟩ = some (.int .i64 rv) ∧ W.drew.cell? ⟨w3.heap.size, 2, none⟩ = some (.int .i64 0) ∧ W.drew.cell? ⟨w3.heap.size, 3, none⟩ = some (.int .i64 0) ∧ W.drew.cell? ⟨w3.heap.size, 4, none⟩ = some (.int .i64 0) ∧ W.drew.cell? ⟨g, off + 2, none⟩ = some (.string c)) := ⟨Z0.out.sl.cell 0, Z0.out.sl.cell 1, Z0.out.sl.cell 2, Z0.out.sl.cell 3, Z0.out.sl.cell 4, D0.out.words 2 c rfl⟩
     go_region_held3 (fun W' => W'.cell? ⟨w3.heap.size, 0, none⟩ = some (.int .i64 4) ∧ W'.cell? ⟨w3.heap.size, 1, none⟩ = some (.int .i64 rv) ∧ W'.cell? ⟨w3.heap.size, 2, none⟩ = some (.int .i64 0) ∧ W'.cell? ⟨w3.heap.size, 3, none⟩ = some (.int .i64 0) ∧ W'.cell? ⟨w3.heap.size, 4, none⟩ = some (.int .i64 0) ∧ W'.cell? ⟨g, off + 2, none⟩ = some (.string c))
      (first | with_reducible exact K0.out | with_reducible exact K5.out | with_reducible exact K9.out)
      (first
       | (go_at_call 85; refine (CE.out 4 rv (by decide) _ _ Z0.out.rd.blk (fun w' hk => D0.out.pow hk)).mono ?_; rintro e w5 ⟨x, rfl, hr, hx⟩; have Z5 := Lib.hid (Z0.out.mark hr); have D5 := Lib.hid (D0.out.mark hr); have K5 : Hid (w5.cell? ⟨w3.heap.size, 0, none⟩ = some (.int .i64 4) ∧ w5.cell? ⟨w3.heap.size, 1, none⟩ = some (.int .i64 rv) ∧ w5.cell? ⟨w3.heap.size, 2, none⟩ = some (.int .i64 0) ∧ w5.cell? ⟨w3.heap.size, 3, none⟩ = some (.int .i64 0) ∧ w5.cell? ⟨w3.heap.size, 4, none⟩ = some (.int .i64 0) ∧ w5.cell? ⟨g, off + 2, none⟩ = some (.string c)) := ⟨Z5.out.sl.cell 0, Z5.out.sl.cell 1, Z5.out.sl.cell 2, Z5.out.sl.cell 3, Z5.out.sl.cell 4, D5.out.words 2 c rfl⟩; have HXX := Lib.hid hx; clear hr hx; have H9 := Lib.hid (Z5.out.all (.int .i64 x.o) (.int .i64 x.d) (.int .i64 x.s) (.int .i64 x.f) (.int .i64 x.m)); have D9 := Lib.hid (D5.out.keeps (S := fun k => k = w.heap.size) ((((((Keeps.refl (fun k : Nat => k = w.heap.size) w5).setCell (p := ⟨w.heap.size, 0, none⟩) (.inl rfl) (.int .i64 x.o)).setCell (p := ⟨w.heap.size, 1, none⟩) (.inl rfl) (.int .i64 x.d)).setCell (p := ⟨w.heap.size, 2, none⟩) (.inl rfl) (.int .i64 x.s)).setCell (p := ⟨w.heap.size, 3, none⟩) (.inl rfl) (.int .i64 x.f)).setCell (p := ⟨w.heap.size, 4, none⟩) (.inl rfl) (.int .i64 x.m)) (fun k e => by subst e; exact ⟨H.out.below.size, fun e => by have := H.out.lt; omega⟩) H9.out.rd.blk); have K9 : Hid ((((((w5.setCell ⟨w.heap.size, 0, none⟩ (.int .i64 x.o)).setCell ⟨w.heap.size, 1, none⟩ (.int .i64 x.d)).setCell ⟨w.heap.size, 2, none⟩ (.int .i64 x.s)).setCell ⟨w.heap.size, 3, none⟩ (.int .i64 x.f)).setCell ⟨w.heap.size, 4, none⟩ (.int .i64 x.m)).cell? ⟨w3.heap.size, 0, none⟩ = some (.int .i64 4) ∧ (((((w5.setCell ⟨w.heap.size, 0, none⟩ (.int .i64 x.o)).setCell ⟨w.heap.size, 1, none⟩ (.int .i64 x.d)).setCell ⟨w.heap.size, 2, none⟩ (.int .i64 x.s)).setCell ⟨w.heap.size, 3, none⟩ (.int .i64 x.f)).setCell ⟨w.heap.size, 4, none⟩ (.int .i64 x.m)).cell? ⟨w3.heap.size, 1, none⟩ = some (.int .i64 rv) ∧ (((((w5.setCell ⟨w.heap.size, 0, none⟩ (.int .i64 x.o)).setCell ⟨w.heap.size, 1, none⟩ (.int .i64 x.d)).setCell ⟨w.heap.size, 2, none⟩ (.int .i64 x.s)).setCell ⟨w.heap.size, 3, none⟩ (.int .i64 x.f)).setCell ⟨w.heap.size, 4, none⟩ (.int .i64 x.m)).cell? ⟨w3.heap.size, 2, none⟩ = some (.int .i64 0) ∧ (((((w5.setCell ⟨w.heap.size, 0, none⟩ (.int .i64 x.o)).setCell ⟨w.heap.size, 1, none⟩ (.int .i64 x.d)).setCell ⟨w.heap.size, 2, none⟩ (.int .i64 x.s)).setCell ⟨w.heap.size, 3, none⟩ (.int .i64 x.f)).setCell ⟨w.heap.size, 4, none⟩ (.int .i64 x.m)).cell? ⟨w3.heap.size, 3, none⟩ = some (.int .i64 0) ∧ (((((w5.setCell ⟨w.heap.size, 0, none⟩ (.int .i64 x.o)).setCell ⟨w.heap.size, 1, none⟩ (.int .i64 x.d)).setCell ⟨w.heap.size, 2, none⟩ (.int .i64 x.s)).setCell ⟨w.heap.size, 3, none⟩ (.int .i64 x.f)).setCell ⟨w.heap.size, 4, none⟩ (.int .i64 x.m)).cell? ⟨w3.heap.size, 4, none⟩ = some (.int .i64 0) ∧ (((((w5.setCell ⟨w.heap.size, 0, none⟩ (.int .i64 x.o)).setCell ⟨w.heap.size, 1, none⟩ (.int .i64 x.d)).setCell ⟨w.heap.size, 2, none⟩ (.int .i64 x.s)).setCell ⟨w.heap.size, 3, none⟩ (.int .i64 x.f)).setCell ⟨w.heap.size, 4, none⟩ (.int .i64 x.m)).cell? ⟨g, off + 2, none⟩ = some (.string c)) := ⟨H9.out.sl.cell 0, H9.out.sl.cell 1, H9.out.sl.cell 2, H9.out.sl.cell 3, H9.out.sl.cell 4, D9.out.words 2 c rfl⟩; have r0 := Z5.out.rs.cell 0; have r1 := Z5.out.rs.cell 1; have r2 := Z5.out.rs.cell 2; have r3 := Z5.out.rs.cell 3; have r4 := Z5.out.rs.cell 4; have s0 := Z5.out.rs.frozen 0; have s1 := Z5.out.rs.frozen 1; have s2 := Z5.out.rs.frozen 2; have s3 := Z5.out.rs.frozen 3; have s4 := Z5.out.rs.frozen 4))
     go_wp2_with fail
     refine bodyPost_ret (results_cell_row rfl _ _ w.heap.size inT _ (0, 0) _ rfl H9.out.rs Tryz.underlying38 rfl (by kernel_rfl)) rfl ?_
     rw [AE.out 4 HQ.out]
     exact gives_bind (x := x) rfl HV.out (by simp only [hm, hc, hp, and_false, and_self, if_false, if_true, Bool.false_eq_true]; exact H9.out.rd) (fun z hz => by simp only [hm, hc, hp, and_false, and_self, if_false, if_true, Bool.false_eq_true] at hz; exact HXX.out z hz)
    ·have hp' : begins c ⟨#[40]⟩ = false := by simpa using hp
     rw [hp'] at CH2
     go_quiet (fail)
     go_upto_region 9 with fail
     obtain ⟨W, hW⟩ : ∃ W, (w3.alloc (.cells (inC 4 rv 0 0 0) inT)).drewN nq = W := ⟨_, rfl⟩
     have Z := Lib.hid (ZA.out nq)
     have D := Lib.hid (DA.out nq)
     rw [hW] at Z D ⊢
     clear ZA DA hW
     have d1' : W.cell? ⟨g, off + 1, none⟩ = some (.string m) := D.out.words 1 m rfl
     have d2' : W.cell? ⟨g, off + 2, none⟩ = some (.string c) := D.out.words 2 c rfl
     obtain ⟨tyq, cs, hB, hi, hat⟩ := D.out.tabs.operators_any
     have HB := Lib.hid hB
     have HX := Lib.hid hi
     have HA := Lib.hid hat
     clear hB hi hat
     clear d0 d1 d2
     go_wp2_with (first
      | (refine wpList_load_row rfl operatorsT _ rfl 5 rfl tyq cs (0, 0) _ HB.out Tryz.underlying124 rfl HX.out ?_)
      | (go_at_call 80; refine (CH2.out _).mono ?_; rintro e w5 ⟨rfl, rfl⟩))
     clear HB HX
     go_loopw [9, 62] (fun _ i wr => ∃ k : Nat, i = .int .i64 (k : Int) ∧ k ≤ 14 ∧ RZ w wr y (b || !(regS a (letterS 4)).isSome) w3.heap.size w.heap.size (inC 4 rv 0 0 0) (inC 0 0 0 0 0) ∧ Rd w0 wr y (b || !(regS a (letterS 4)).isSome) g off [a, m, c] ∧ operR 4 rv m c (operL.drop k) = operR 4 rv m c operL) (fun _ i _ => 14 - (Lib.intOf i).toNat)
     case atStart => exact ⟨0, rfl, by decide, Z.out, D.out, rfl⟩
     case round =>
      obtain ⟨k, rfl, hk, hR, hR2, hD⟩ := hrel
      have HR := Lib.hid hR
      have HR2 := Lib.hid hR2
      have HD := Lib.hid hD
      have HK := Lib.hid hk
      clear hR hR2 hD hk Z D
      by_cases h7 : k < 14
      ·obtain ⟨nm, md, sz, e1, e2, e3⟩ := HA.out k h7
       have i1 : (k : Int) < 14 := by omega
       have HW := Lib.hid h7
       have HD2 : Hid (operR 4 rv m c ((nm, md, sz) :: operL.drop (k + 1)) = operR 4 rv m c operL) := by
        have := HD.out
        rwa [drop_at e1] at this
       clear h7 e1 e2 HD
       have HN := Lib.hid (fun o' => HR2.out.on (below_alloc wr o'))
       have HNZ := Lib.hid (fun o' => HR.out.on (below_alloc wr o'))
       have HC : Hid (∀ cs, Blk (wr.alloc (.cells cs 123)) wr.heap.size 123 cs) := fun cs => Blk.new _ _ _
       have d1 : ∀ o', (wr.alloc o').cell? ⟨g, off + 1, none⟩ = some (.string m) := fun o' => (HN.out o').words 1 m rfl
       go_upto_region 14 with fail
       have NZ : Hid (∀ k', RZ w ((wr.alloc (.cells #[.string nm, .int .i64 md, .int .i64 sz] 123)).drewN k') y (b || !(regS a (letterS 4)).isSome) w3.heap.size w.heap.size (inC 4 rv 0 0 0) (inC 0 0 0 0 0)) := fun k' => (HNZ.out _).on (below_drewN _ k')
       have ND : Hid (∀ k', Rd w0 ((wr.alloc (.cells #[.string nm, .int .i64 md, .int .i64 sz] 123)).drewN k') y (b || !(regS a (letterS 4)).isSome) g off [a, m, c]) := fun k' => (HN.out _).on (below_drewN _ k')
       have NT : Hid (∀ k', Blk ((wr.alloc (.cells #[.string nm, .int .i64 md, .int .i64 sz] 123)).drewN k') wr.heap.size 123 #[.string nm, .int .i64 md, .int .i64 sz]) := fun k' => blk_on (HC.out _) (below_drewN _ k')
       by_cases hq : sameT nm m = true
       ·have bq : (nm.toList == m.toList) = true := (same_beq _ _).trans hq
        have CSQ := Lib.hid (fun w' b' op sz' (hb : Blk w' y rdT #[.bool b']) (hi : Blk w' w3.heap.size inT (inC op rv 0 sz' 0)) => CS.out 4 w3.heap.size w' b' op rv 0 sz' 0 hb hi)
        have HP : Hid (operR 4 rv m c operL = if (secS c (letterS 4) 0 0).ok = true then some ⟨if (secS c (letterS 4) 0 0).reg = true then bits .or .i64 (bits .or .i64 4 md) 8 else bits .or .i64 4 md, rv, (secS c (letterS 4) 0 0).src, sz, (secS c (letterS 4) 0 0).imm⟩ else none) := by
         rw [← HD2.out, operR, if_pos hq]
         exact rfl
        clear CS
        generalize secS c (letterS 4) 0 0 = S at *
        obtain ⟨sreg, ssrc, simm, sok⟩ := S
        simp only at CSQ HP
        clear hq HD2
        go_quiet (fail)
        obtain ⟨W2, hW2⟩ : ∃ W, (wr.alloc (.cells #[.string nm, .int .i64 md, .int .i64 sz] 123)).drewN nq = W := ⟨_, rfl⟩
        have Z := Lib.hid (NZ.out nq)
        have D := Lib.hid (ND.out nq)
        have T := Lib.hid (NT.out nq)
        rw [hW2] at Z D T ⊢
        clear NZ ND NT hW2 HN HNZ HC d1
        have t1 := T.out.cell 1
        have t2 := T.out.cell 2
        have d2 : W2.cell? ⟨g, off + 2, none⟩ = some (.string c) := D.out.words 2 c rfl
        have g0 := Z.out.sl.cell 0; have g1 := Z.out.sl.cell 1; have g2 := Z.out.sl.cell 2; have g3 := Z.out.sl.cell 3; have g4 := Z.out.sl.cell 4; have f0 := Z.out.sl.frozen 0; have f2 := Z.out.sl.frozen 2; have f3 := Z.out.sl.frozen 3
        have ne5 : ¬ wr.heap.size = w3.heap.size := fun e => by have := HR.out.sl.lt; omega
        have ne6 : ¬ w3.heap.size = wr.heap.size := fun e => by have := HR.out.sl.lt; omega
        obtain ⟨p, ep⟩ : ∃ p, bits .or .i64 4 md = p := ⟨_, rfl⟩
        rw [ep] at HP
        have Z3 : Hid (RZ w ((W2.setCell ⟨w3.heap.size, 0, none⟩ (.int .i64 p)).setCell ⟨w3.heap.size, 3, none⟩ (.int .i64 sz)) y (b || !(regS a (letterS 4)).isSome) w3.heap.size w.heap.size (inC p rv 0 sz 0) (inC 0 0 0 0 0)) := (Z.out.set 0 (.int .i64 p)).set 3 (.int .i64 sz)
        have BK : Hid ((if sok = true then some (⟨if sreg = true then bits .or .i64 p 8 else p, rv, ssrc, sz, simm⟩ : Slot) else none).isSome = sok) := by cases sok <;> rfl
        cases sreg
        ·go_wp2_with (go_at_call 82; refine (CSQ.out _ _ p sz Z3.out.rd.blk Z3.out.sl).mono ?_; rintro e w5 ⟨rfl, hr⟩; have Z5 := Lib.hid (Z3.out.second hr); clear hr; have g0 := Z5.out.sl.cell 0; have g1 := Z5.out.sl.cell 1; have g2 := Z5.out.sl.cell 2; have g3 := Z5.out.sl.cell 3; have g4 := Z5.out.sl.cell 4; have r0 := Z5.out.rs.cell 0; have r1 := Z5.out.rs.cell 1; have r2 := Z5.out.rs.cell 2; have r3 := Z5.out.rs.cell 3; have r4 := Z5.out.rs.cell 4; have s0 := Z5.out.rs.frozen 0; have s1 := Z5.out.rs.frozen 1; have s2 := Z5.out.rs.frozen 2; have s3 := Z5.out.rs.frozen 3; have s4 := Z5.out.rs.frozen 4)
         have H9 := Lib.hid (Z5.out.all (.int .i64 p) (.int .i64 rv) (.int .i64 ssrc) (.int .i64 sz) (.int .i64 simm))
         refine bodyPost_ret (results_cell_row rfl _ _ w.heap.size inT _ (0, 0) _ rfl H9.out.rs Tryz.underlying38 rfl (by kernel_rfl)) rfl ?_
         rw [AE.out 4 HQ.out]
         exact gives_bind (x := ⟨p, rv, ssrc, sz, simm⟩) rfl HV.out (by simp only [hm, hc, hp', and_false, if_false, Bool.false_eq_true]; rw [HP.out, BK.out]; exact H9.out.rd) (fun z hz => by simp only [hm, hc, hp', and_false, if_false, Bool.false_eq_true] at hz; rw [HP.out] at hz; cases sok <;> simp at hz; exact hz)
        ·go_wp2_with (go_at_call 82; refine (CSQ.out _ _ p sz Z3.out.rd.blk Z3.out.sl).mono ?_; rintro e w5 ⟨rfl, hr⟩; have Z5 := Lib.hid (Z3.out.second hr); clear hr; have g0 := Z5.out.sl.cell 0; have g1 := Z5.out.sl.cell 1; have g2 := Z5.out.sl.cell 2; have g3 := Z5.out.sl.cell 3; have g4 := Z5.out.sl.cell 4; have r0 := Z5.out.rs.cell 0; have r1 := Z5.out.rs.cell 1; have r2 := Z5.out.rs.cell 2; have r3 := Z5.out.rs.cell 3; have r4 := Z5.out.rs.cell 4; have s0 := Z5.out.rs.frozen 0; have s1 := Z5.out.rs.frozen 1; have s2 := Z5.out.rs.frozen 2; have s3 := Z5.out.rs.frozen 3; have s4 := Z5.out.rs.frozen 4; have f0 := Z5.out.sl.frozen 0)
         have H9 := Lib.hid ((Z5.out.set 0 (.int .i64 (bits .or .i64 p 8))).all (.int .i64 (bits .or .i64 p 8)) (.int .i64 rv) (.int .i64 ssrc) (.int .i64 sz) (.int .i64 simm))
         refine bodyPost_ret (results_cell_row rfl _ _ w.heap.size inT _ (0, 0) _ rfl H9.out.rs Tryz.underlying38 rfl (by kernel_rfl)) rfl ?_
         rw [AE.out 4 HQ.out]
         exact gives_bind (x := ⟨bits .or .i64 p 8, rv, ssrc, sz, simm⟩) rfl HV.out (by simp only [hm, hc, hp', and_false, if_false, Bool.false_eq_true]; rw [HP.out, BK.out]; exact H9.out.rd) (fun z hz => by simp only [hm, hc, hp', and_false, if_false, Bool.false_eq_true] at hz; rw [HP.out] at hz; cases sok <;> simp at hz; exact hz)
       ·have bq : (nm.toList == m.toList) = false := (same_beq _ _).trans (by simpa using hq)
        have HD3 : Hid (operR 4 rv m c (operL.drop (k + 1)) = operR 4 rv m c operL) := by
         rw [← HD2.out, operR, if_neg hq]
         exact rfl
        clear hq HD2
        go_quiet (fail)
        have Z := Lib.hid (NZ.out nq)
        have D := Lib.hid (ND.out nq)
        clear NZ ND NT HN HNZ HC d1
        go_wp2_with fail
        go_roundw
        case rel => exact ⟨k + 1, rfl, HW.out, Z.out, D.out, HD3.out⟩
        case measure =>
         have := HW.out
         simp only [Lib.intOf]
         omega
      ·have hk7 : k = 14 := by have := HK.out; omega
       subst hk7
       have HF : Hid (operR 4 rv m c operL = none) := by
        rw [← HD.out]
        exact rfl
       have g0 := HR.out.sl.cell 0; have g1 := HR.out.sl.cell 1; have g2 := HR.out.sl.cell 2; have g3 := HR.out.sl.cell 3; have g4 := HR.out.sl.cell 4
       have r0 := HR.out.rs.cell 0; have r1 := HR.out.rs.cell 1; have r2 := HR.out.rs.cell 2; have r3 := HR.out.rs.cell 3; have r4 := HR.out.rs.cell 4; have s0 := HR.out.rs.frozen 0; have s1 := HR.out.rs.frozen 1; have s2 := HR.out.rs.frozen 2; have s3 := HR.out.rs.frozen 3; have s4 := HR.out.rs.frozen 4
       have y0 := HR.out.rd.blk.cell 0; have y1 := HR.out.rd.blk.frozen 0
       clear h7 HD HK
       go_wp2_with fail
       have H9 := Lib.hid (HR.out.wrong.all (.int .i64 4) (.int .i64 rv) (.int .i64 0) (.int .i64 0) (.int .i64 0))
       refine bodyPost_ret (results_cell_row rfl _ _ w.heap.size inT _ (0, 0) _ rfl H9.out.rs Tryz.underlying38 rfl (by kernel_rfl)) rfl ?_
       rw [AE.out 4 HQ.out]
       exact gives_bind (x := ⟨4, rv, 0, 0, 0⟩) rfl HV.out (by simp only [hm, hc, hp', and_false, if_false, Bool.false_eq_true]; rw [HF.out]; simpa using H9.out.rd) (fun z hz => by simp only [hm, hc, hp', and_false, if_false, Bool.false_eq_true] at hz; rw [HF.out] at hz; cases hz)
  ·have hm' : sameT m eqT = false := by simpa using hm
   have bm : (m.toList == [61]) = false := (same_const m [61]).trans hm'
   go_quiet (fail)
   go_upto_region 9 with fail
   obtain ⟨W, hW⟩ : ∃ W, (w3.alloc (.cells (inC 4 rv 0 0 0) inT)).drewN nq = W := ⟨_, rfl⟩
   have Z := Lib.hid (ZA.out nq)
   have D := Lib.hid (DA.out nq)
   rw [hW] at Z D ⊢
   clear ZA DA hW
   have d1' : W.cell? ⟨g, off + 1, none⟩ = some (.string m) := D.out.words 1 m rfl
   obtain ⟨tyq, cs, hB, hi, hat⟩ := D.out.tabs.operators_any
   have HB := Lib.hid hB
   have HX := Lib.hid hi
   have HA := Lib.hid hat
   clear hB hi hat
   clear d0 d1 d2
   go_wp2_with (first
    | (refine wpList_load_row rfl operatorsT _ rfl 5 rfl tyq cs (0, 0) _ HB.out Tryz.underlying124 rfl HX.out ?_)
    | fail)
   clear HB HX
   go_loopw [9, 62] (fun _ i wr => ∃ k : Nat, i = .int .i64 (k : Int) ∧ k ≤ 14 ∧ RZ w wr y (b || !(regS a (letterS 4)).isSome) w3.heap.size w.heap.size (inC 4 rv 0 0 0) (inC 0 0 0 0 0) ∧ Rd w0 wr y (b || !(regS a (letterS 4)).isSome) g off [a, m, c] ∧ operR 4 rv m c (operL.drop k) = operR 4 rv m c operL) (fun _ i _ => 14 - (Lib.intOf i).toNat)
   case atStart => exact ⟨0, rfl, by decide, Z.out, D.out, rfl⟩
   case round =>
    obtain ⟨k, rfl, hk, hR, hR2, hD⟩ := hrel
    have HR := Lib.hid hR
    have HR2 := Lib.hid hR2
    have HD := Lib.hid hD
    have HK := Lib.hid hk
    clear hR hR2 hD hk Z D
    by_cases h7 : k < 14
    ·obtain ⟨nm, md, sz, e1, e2, e3⟩ := HA.out k h7
     have i1 : (k : Int) < 14 := by omega
     have HW := Lib.hid h7
     have HD2 : Hid (operR 4 rv m c ((nm, md, sz) :: operL.drop (k + 1)) = operR 4 rv m c operL) := by
      have := HD.out
      rwa [drop_at e1] at this
     clear h7 e1 e2 HD
     have HN := Lib.hid (fun o' => HR2.out.on (below_alloc wr o'))
     have HNZ := Lib.hid (fun o' => HR.out.on (below_alloc wr o'))
     have HC : Hid (∀ cs, Blk (wr.alloc (.cells cs 123)) wr.heap.size 123 cs) := fun cs => Blk.new _ _ _
     have d1 : ∀ o', (wr.alloc o').cell? ⟨g, off + 1, none⟩ = some (.string m) := fun o' => (HN.out o').words 1 m rfl
     go_upto_region 14 with fail
     have NZ : Hid (∀ k', RZ w ((wr.alloc (.cells #[.string nm, .int .i64 md, .int .i64 sz] 123)).drewN k') y (b || !(regS a (letterS 4)).isSome) w3.heap.size w.heap.size (inC 4 rv 0 0 0) (inC 0 0 0 0 0)) := fun k' => (HNZ.out _).on (below_drewN _ k')
     have ND : Hid (∀ k', Rd w0 ((wr.alloc (.cells #[.string nm, .int .i64 md, .int .i64 sz] 123)).drewN k') y (b || !(regS a (letterS 4)).isSome) g off [a, m, c]) := fun k' => (HN.out _).on (below_drewN _ k')
     have NT : Hid (∀ k', Blk ((wr.alloc (.cells #[.string nm, .int .i64 md, .int .i64 sz] 123)).drewN k') wr.heap.size 123 #[.string nm, .int .i64 md, .int .i64 sz]) := fun k' => blk_on (HC.out _) (below_drewN _ k')
     by_cases hq : sameT nm m = true
     ·have bq : (nm.toList == m.toList) = true := (same_beq _ _).trans hq
      have CSQ := Lib.hid (fun w' b' op sz' (hb : Blk w' y rdT #[.bool b']) (hi : Blk w' w3.heap.size inT (inC op rv 0 sz' 0)) => CS.out 4 w3.heap.size w' b' op rv 0 sz' 0 hb hi)
      have HP : Hid (operR 4 rv m c operL = if (secS c (letterS 4) 0 0).ok = true then some ⟨if (secS c (letterS 4) 0 0).reg = true then bits .or .i64 (bits .or .i64 4 md) 8 else bits .or .i64 4 md, rv, (secS c (letterS 4) 0 0).src, sz, (secS c (letterS 4) 0 0).imm⟩ else none) := by
       rw [← HD2.out, operR, if_pos hq]
       exact rfl
      clear CS
      generalize secS c (letterS 4) 0 0 = S at *
      obtain ⟨sreg, ssrc, simm, sok⟩ := S
      simp only at CSQ HP
      clear hq HD2
      go_quiet (fail)
      obtain ⟨W2, hW2⟩ : ∃ W, (wr.alloc (.cells #[.string nm, .int .i64 md, .int .i64 sz] 123)).drewN nq = W := ⟨_, rfl⟩
      have Z := Lib.hid (NZ.out nq)
      have D := Lib.hid (ND.out nq)
      have T := Lib.hid (NT.out nq)
      rw [hW2] at Z D T ⊢
      clear NZ ND NT hW2 HN HNZ HC d1
      have t1 := T.out.cell 1
      have t2 := T.out.cell 2
      have d2 : W2.cell? ⟨g, off + 2, none⟩ = some (.string c) := D.out.words 2 c rfl
      have g0 := Z.out.sl.cell 0; have g1 := Z.out.sl.cell 1; have g2 := Z.out.sl.cell 2; have g3 := Z.out.sl.cell 3; have g4 := Z.out.sl.cell 4; have f0 := Z.out.sl.frozen 0; have f2 := Z.out.sl.frozen 2; have f3 := Z.out.sl.frozen 3
      have ne5 : ¬ wr.heap.size = w3.heap.size := fun e => by have := HR.out.sl.lt; omega
      have ne6 : ¬ w3.heap.size = wr.heap.size := fun e => by have := HR.out.sl.lt; omega
      obtain ⟨p, ep⟩ : ∃ p, bits .or .i64 4 md = p := ⟨_, rfl⟩
      rw [ep] at HP
      have Z3 : Hid (RZ w ((W2.setCell ⟨w3.heap.size, 0, none⟩ (.int .i64 p)).setCell ⟨w3.heap.size, 3, none⟩ (.int .i64 sz)) y (b || !(regS a (letterS 4)).isSome) w3.heap.size w.heap.size (inC p rv 0 sz 0) (inC 0 0 0 0 0)) := (Z.out.set 0 (.int .i64 p)).set 3 (.int .i64 sz)
      have BK : Hid ((if sok = true then some (⟨if sreg = true then bits .or .i64 p 8 else p, rv, ssrc, sz, simm⟩ : Slot) else none).isSome = sok) := by cases sok <;> rfl
      cases sreg
      ·go_wp2_with (go_at_call 82; refine (CSQ.out _ _ p sz Z3.out.rd.blk Z3.out.sl).mono ?_; rintro e w5 ⟨rfl, hr⟩; have Z5 := Lib.hid (Z3.out.second hr); clear hr; have g0 := Z5.out.sl.cell 0; have g1 := Z5.out.sl.cell 1; have g2 := Z5.out.sl.cell 2; have g3 := Z5.out.sl.cell 3; have g4 := Z5.out.sl.cell 4; have r0 := Z5.out.rs.cell 0; have r1 := Z5.out.rs.cell 1; have r2 := Z5.out.rs.cell 2; have r3 := Z5.out.rs.cell 3; have r4 := Z5.out.rs.cell 4; have s0 := Z5.out.rs.frozen 0; have s1 := Z5.out.rs.frozen 1; have s2 := Z5.out.rs.frozen 2; have s3 := Z5.out.rs.frozen 3; have s4 := Z5.out.rs.frozen 4)
       have H9 := Lib.hid (Z5.out.all (.int .i64 p) (.int .i64 rv) (.int .i64 ssrc) (.int .i64 sz) (.int .i64 simm))
       refine bodyPost_ret (results_cell_row rfl _ _ w.heap.size inT _ (0, 0) _ rfl H9.out.rs Tryz.underlying38 rfl (by kernel_rfl)) rfl ?_
       rw [AE.out 4 HQ.out]
       exact gives_bind (x := ⟨p, rv, ssrc, sz, simm⟩) rfl HV.out (by simp only [hm', false_and, if_false, Bool.false_eq_true]; rw [HP.out, BK.out]; exact H9.out.rd) (fun z hz => by simp only [hm', false_and, if_false, Bool.false_eq_true] at hz; rw [HP.out] at hz; cases sok <;> simp at hz; exact hz)
      ·go_wp2_with (go_at_call 82; refine (CSQ.out _ _ p sz Z3.out.rd.blk Z3.out.sl).mono ?_; rintro e w5 ⟨rfl, hr⟩; have Z5 := Lib.hid (Z3.out.second hr); clear hr; have g0 := Z5.out.sl.cell 0; have g1 := Z5.out.sl.cell 1; have g2 := Z5.out.sl.cell 2; have g3 := Z5.out.sl.cell 3; have g4 := Z5.out.sl.cell 4; have r0 := Z5.out.rs.cell 0; have r1 := Z5.out.rs.cell 1; have r2 := Z5.out.rs.cell 2; have r3 := Z5.out.rs.cell 3; have r4 := Z5.out.rs.cell 4; have s0 := Z5.out.rs.frozen 0; have s1 := Z5.out.rs.frozen 1; have s2 := Z5.out.rs.frozen 2; have s3 := Z5.out.rs.frozen 3; have s4 := Z5.out.rs.frozen 4; have f0 := Z5.out.sl.frozen 0)
       have H9 := Lib.hid ((Z5.out.set 0 (.int .i64 (bits .or .i64 p 8))).all (.int .i64 (bits .or .i64 p 8)) (.int .i64 rv) (.int .i64 ssrc) (.int .i64 sz) (.int .i64 simm))
       refine bodyPost_ret (results_cell_row rfl _ _ w.heap.size inT _ (0, 0) _ rfl H9.out.rs Tryz.underlying38 rfl (by kernel_rfl)) rfl ?_
       rw [AE.out 4 HQ.out]
       exact gives_bind (x := ⟨bits .or .i64 p 8, rv, ssrc, sz, simm⟩) rfl HV.out (by simp only [hm', false_and, if_false, Bool.false_eq_true]; rw [HP.out, BK.out]; exact H9.out.rd) (fun z hz => by simp only [hm', false_and, if_false, Bool.false_eq_true] at hz; rw [HP.out] at hz; cases sok <;> simp at hz; exact hz)
     ·have bq : (nm.toList == m.toList) = false := (same_beq _ _).trans (by simpa using hq)
      have HD3 : Hid (operR 4 rv m c (operL.drop (k + 1)) = operR 4 rv m c operL) := by
       rw [← HD2.out, operR, if_neg hq]
       exact rfl
      clear hq HD2
      go_quiet (fail)
      have Z := Lib.hid (NZ.out nq)
      have D := Lib.hid (ND.out nq)
      clear NZ ND NT HN HNZ HC d1
      go_wp2_with fail
      go_roundw
      case rel => exact ⟨k + 1, rfl, HW.out, Z.out, D.out, HD3.out⟩
      case measure =>
       have := HW.out
       simp only [Lib.intOf]
       omega
    ·have hk7 : k = 14 := by have := HK.out; omega
     subst hk7
     have HF : Hid (operR 4 rv m c operL = none) := by
      rw [← HD.out]
      exact rfl
     have g0 := HR.out.sl.cell 0; have g1 := HR.out.sl.cell 1; have g2 := HR.out.sl.cell 2; have g3 := HR.out.sl.cell 3; have g4 := HR.out.sl.cell 4
     have r0 := HR.out.rs.cell 0; have r1 := HR.out.rs.cell 1; have r2 := HR.out.rs.cell 2; have r3 := HR.out.rs.cell 3; have r4 := HR.out.rs.cell 4; have s0 := HR.out.rs.frozen 0; have s1 := HR.out.rs.frozen 1; have s2 := HR.out.rs.frozen 2; have s3 := HR.out.rs.frozen 3; have s4 := HR.out.rs.frozen 4
     have y0 := HR.out.rd.blk.cell 0; have y1 := HR.out.rd.blk.frozen 0
     clear h7 HD HK
     go_wp2_with fail
     have H9 := Lib.hid (HR.out.wrong.all (.int .i64 4) (.int .i64 rv) (.int .i64 0) (.int .i64 0) (.int .i64 0))
     refine bodyPost_ret (results_cell_row rfl _ _ w.heap.size inT _ (0, 0) _ rfl H9.out.rs Tryz.underlying38 rfl (by kernel_rfl)) rfl ?_
     rw [AE.out 4 HQ.out]
     exact gives_bind (x := ⟨4, rv, 0, 0, 0⟩) rfl HV.out (by simp only [hm', false_and, if_false, Bool.false_eq_true]; rw [HF.out]; simpa using H9.out.rd) (fun z hz => by simp only [hm', false_and, if_false, Bool.false_eq_true] at hz; rw [HF.out] at hz; cases hz)
 ·have hb' : begins a lowerT = false := by simpa using hb
  rw [hb'] at CH
  have HQ : Hid (aluQ a = 7) := if_neg hb
  clear h hb hb' aluEq
  go_enter Tryz.func58, Tryz.ntmps58
  go_upto_region 6 with (first
   | (go_at_call 80; refine (CH.out _).mono ?_; rintro e w2 ⟨rfl, rfl⟩)
   | (go_at_call 81; refine (letterOf_any _ _).mono ?_; rintro e w2 ⟨rfl, rfl⟩)
   | (go_at_call 50; refine (CR.out _ _ _ (H.out.on (below_alloc _ _)).blk).mono ?_; rintro e w3 ⟨rfl, hr⟩; have H1 := Lib.hid ((H.out.on (below_alloc _ _)).mark hr); have RD1 := Lib.hid (RD.then ((RD.start H.out.blk).on (below_alloc _ _)) hr); have R1 := Lib.hid (RB.out.keeps hr.keeps HNE.out); have SZ : Hid (w.heap.size ≤ w3.heap.size) := (Nat.le_trans (by simp) hr.keeps.size); clear hr))
  have W1 := Lib.hid (fun o => H1.out.on (below_alloc _ o))
  have d0 : ∀ o, (w3.alloc o).cell? ⟨g, off, none⟩ = some (.string a) := fun o => (W1.out o).words 0 a rfl
  have d1 : ∀ o, (w3.alloc o).cell? ⟨g, off + 1, none⟩ = some (.string m) := fun o => (W1.out o).words 1 m rfl
  have d2 : ∀ o, (w3.alloc o).cell? ⟨g, off + 2, none⟩ = some (.string c) := fun o => (W1.out o).words 2 c rfl
  have HV : Hid (∀ r, regS a (letterS 7) = some r → regV a (letterS 7) = r) := fun r => regS_val
  generalize regV a (letterS 7) = rv at *
  have ZA : Hid (∀ k, RZ w ((w3.alloc (.cells (inC 7 rv 0 0 0) inT)).drewN k) y (b || !(regS a (letterS 7)).isSome) w3.heap.size w.heap.size (inC 7 rv 0 0 0) (inC 0 0 0 0 0)) := fun k =>
   ⟨RD1.out.on ((below_alloc _ _).on (below_drewN _ k)), blk_on (Blk.new _ _ _) (below_drewN _ k), blk_on R1.out ((below_alloc _ _).on (below_drewN _ k)), SZ.out, Nat.le_refl _, HYL.out, fun e => by have := R1.out.lt; omega⟩
  have DA : Hid (∀ k, Rd w0 ((w3.alloc (.cells (inC 7 rv 0 0 0) inT)).drewN k) y (b || !(regS a (letterS 7)).isSome) g off [a, m, c]) := fun k => (W1.out _).on (below_drewN _ k)
  have ne1 : ¬ w3.heap.size = w.heap.size := fun e => by have := R1.out.lt; omega
  have ne2 : ¬ w.heap.size = w3.heap.size := fun e => by have := R1.out.lt; omega
  have ne3 : ¬ g = w3.heap.size := fun e => by have := H1.out.lt; omega
  have ne4 : ¬ w3.heap.size = g := fun e => by have := H1.out.lt; omega
  have ne7 : ¬ y = w.heap.size := fun e => by have := HYL.out; omega
  have ne8 : ¬ w.heap.size = y := fun e => by have := HYL.out; omega
  have ne9 : ¬ y = w3.heap.size := fun e => by have := HYL.out; have := SZ.out; omega
  have ne10 : ¬ w3.heap.size = y := fun e => by have := HYL.out; have := SZ.out; omega
  by_cases hm : sameT m eqT = true
  ·have bm : (m.toList == [61]) = true := (same_const m [61]).trans hm
   by_cases hc : sameT c (minusW ++ a) = true
   ·have bc : (c.toList == (minusW ++ a).toList) = true := (same_beq _ _).trans hc
    go_quiet (fail)
    go_upto_region 7 with fail
    obtain ⟨W, hW⟩ : ∃ W, (w3.alloc (.cells (inC 7 rv 0 0 0) inT)).drewN nq = W := ⟨_, rfl⟩
    have Z := Lib.hid (ZA.out nq)
    have D := Lib.hid (DA.out nq)
    rw [hW] at Z D ⊢
    clear ZA DA hW
    have g0 := Z.out.sl.cell 0; have g1 := Z.out.sl.cell 1; have g2 := Z.out.sl.cell 2; have g3 := Z.out.sl.cell 3; have g4 := Z.out.sl.cell 4; have f0 := Z.out.sl.frozen 0; have f2 := Z.out.sl.frozen 2; have f3 := Z.out.sl.frozen 3
    have r0 := Z.out.rs.cell 0; have r1 := Z.out.rs.cell 1; have r2 := Z.out.rs.cell 2; have r3 := Z.out.rs.cell 3; have r4 := Z.out.rs.cell 4; have s0 := Z.out.rs.frozen 0; have s1 := Z.out.rs.frozen 1; have s2 := Z.out.rs.frozen 2; have s3 := Z.out.rs.frozen 3; have s4 := Z.out.rs.frozen 4
    clear d0 d1 d2
    go_wp2_with fail
    have H9 := Lib.hid ((Z.out.set 0 (.int .i64 (bits .or .i64 7 128))).all (.int .i64 (bits .or .i64 7 128)) (.int .i64 rv) (.int .i64 0) (.int .i64 0) (.int .i64 0))
    refine bodyPost_ret (results_cell_row rfl _ _ w.heap.size inT _ (0, 0) _ rfl H9.out.rs Tryz.underlying38 rfl (by kernel_rfl)) rfl ?_
    rw [AE.out 7 HQ.out]
    exact gives_bind (x := ⟨bits .or .i64 7 128, rv, 0, 0, 0⟩) rfl HV.out (by simp only [hm, hc, and_self, if_true]; simpa using H9.out.rd) (fun z hz => by simp only [hm, hc, and_self, if_true] at hz; injection hz)
   ·have bc : (c.toList == (minusW ++ a).toList) = false := (same_beq _ _).trans (by simpa using hc)
    by_cases hp : begins c ⟨#[40]⟩ = true
    ·rw [hp] at CH2
     go_quiet (fail)
     go_upto_region 9 with fail
     obtain ⟨W, hW⟩ : ∃ W, (w3.alloc (.cells (inC 7 rv 0 0 0) inT)).drewN nq = W := ⟨_, rfl⟩
     have Z := Lib.hid (ZA.out nq)
     have D := Lib.hid (DA.out nq)
     rw [hW] at Z D ⊢
     clear ZA DA hW
     have d1' : W.cell? ⟨g, off + 1, none⟩ = some (.string m) := D.out.words 1 m rfl
     have d2' : W.cell? ⟨g, off + 2, none⟩ = some (.string c) := D.out.words 2 c rfl
     clear d0 d1 d2
     go_upto_region 10 with (go_at_call 80; refine (CH2.out _).mono ?_; rintro e w5 ⟨rfl, rfl⟩)
     have Z0 := Lib.hid (Z.out.on (below_drew W))
     have D0 := Lib.hid (D.out.on (below_drew W))
     have r0 := Z0.out.rs.cell 0; have r1 := Z0.out.rs.cell 1; have r2 := Z0.out.rs.cell 2; have r3 := Z0.out.rs.cell 3; have r4 := Z0.out.rs.cell 4; have s0 := Z0.out.rs.frozen 0; have s1 := Z0.out.rs.frozen 1; have s2 := Z0.out.rs.frozen 2; have s3 := Z0.out.rs.frozen 3; have s4 := Z0.out.rs.frozen 4
     have K0 : Hid (W.drew.cell? ⟨w3.heap.size, 0, none⟩ = some (.int .i64 7) ∧ W.drew.cell? ⟨w3.heap.size, 1, none⟩ = some (.int .i64 rv) ∧ W.drew.cell? ⟨w3.heap.size, 2, none⟩ = some (.int .i64 0) ∧ W.drew.cell? ⟨w3.heap.size, 3, none⟩ = some (.int .i64 0) ∧ W.drew.cell? ⟨w3.heap.size, 4, none⟩ = some (.int .i64 0) ∧ W.drew.cell? ⟨g, off + 2, none⟩ = some (.string c)) := ⟨Z0.out.sl.cell 0, Z0.out.sl.cell 1, Z0.out.sl.cell 2, Z0.out.sl.cell 3, Z0.out.sl.cell 4, D0.out.words 2 c rfl⟩
     go_region_held3 (fun W' => W'.cell? ⟨w3.heap.size, 0, none⟩ = some (.int .i64 7) ∧ W'.cell? ⟨w3.heap.size, 1, none⟩ = some (.int .i64 rv) ∧ W'.cell? ⟨w3.heap.size, 2, none⟩ = some (.int .i64 0) ∧ W'.cell? ⟨w3.heap.size, 3, none⟩ = some (.int .i64 0) ∧ W'.cell? ⟨w3.heap.size, 4, none⟩ = some (.int .i64 0) ∧ W'.cell? ⟨g, off + 2, none⟩ = some (.string c))
      (first | with_reducible exact K0.out | with_reducible exact K5.out | with_reducible exact K9.out)
      (first
       | (go_at_call 85; refine (CE.out 7 rv (by decide) _ _ Z0.out.rd.blk (fun w' hk => D0.out.pow hk)).mono ?_; rintro e w5 ⟨x, rfl, hr, hx⟩; have Z5 := Lib.hid (Z0.out.mark hr); have D5 := Lib.hid (D0.out.mark hr); have K5 : Hid (w5.cell? ⟨w3.heap.size, 0, none⟩ = some (.int .i64 7) ∧ w5.cell? ⟨w3.heap.size, 1, none⟩ = some (.int .i64 rv) ∧ w5.cell? ⟨w3.heap.size, 2, none⟩ = some (.int .i64 0) ∧ w5.cell? ⟨w3.heap.size, 3, none⟩ = some (.int .i64 0) ∧ w5.cell? ⟨w3.heap.size, 4, none⟩ = some (.int .i64 0) ∧ w5.cell? ⟨g, off + 2, none⟩ = some (.string c)) := ⟨Z5.out.sl.cell 0, Z5.out.sl.cell 1, Z5.out.sl.cell 2, Z5.out.sl.cell 3, Z5.out.sl.cell 4, D5.out.words 2 c rfl⟩; have HXX := Lib.hid hx; clear hr hx; have H9 := Lib.hid (Z5.out.all (.int .i64 x.o) (.int .i64 x.d) (.int .i64 x.s) (.int .i64 x.f) (.int .i64 x.m)); have D9 := Lib.hid (D5.out.keeps (S := fun k => k = w.heap.size) ((((((Keeps.refl (fun k : Nat => k = w.heap.size) w5).setCell (p := ⟨w.heap.size, 0, none⟩) (.inl rfl) (.int .i64 x.o)).setCell (p := ⟨w.heap.size, 1, none⟩) (.inl rfl) (.int .i64 x.d)).setCell (p := ⟨w.heap.size, 2, none⟩) (.inl rfl) (.int .i64 x.s)).setCell (p := ⟨w.heap.size, 3, none⟩) (.inl rfl) (.int .i64 x.f)).setCell (p := ⟨w.heap.size, 4, none⟩) (.inl rfl) (.int .i64 x.m)) (fun k e => by subst e; exact ⟨H.out.below.size, fun e => by have := H.out.lt; omega⟩) H9.out.rd.blk); have K9 : Hid ((((((w5.setCell ⟨w.heap.size, 0, none⟩ (.int .i64 x.o)).setCell ⟨w.heap.size, 1, none⟩ (.int .i64 x.d)).setCell ⟨w.heap.size, 2, none⟩ (.int .i64 x.s)).setCell ⟨w.heap.size, 3, none⟩ (.int .i64 x.f)).setCell ⟨w.heap.size, 4, none⟩ (.int .i64 x.m)).cell? ⟨w3.heap.size, 0, none⟩ = some (.int .i64 7) ∧ (((((w5.setCell ⟨w.heap.size, 0, none⟩ (.int .i64 x.o)).setCell ⟨w.heap.size, 1, none⟩ (.int .i64 x.d)).setCell ⟨w.heap.size, 2, none⟩ (.int .i64 x.s)).setCell ⟨w.heap.size, 3, none⟩ (.int .i64 x.f)).setCell ⟨w.heap.size, 4, none⟩ (.int .i64 x.m)).cell? ⟨w3.heap.size, 1, none⟩ = some (.int .i64 rv) ∧ (((((w5.setCell ⟨w.heap.size, 0, none⟩ (.int .i64 x.o)).setCell ⟨w.heap.size, 1, none⟩ (.int .i64 x.d)).setCell ⟨w.heap.size, 2, none⟩ (.int .i64 x.s)).setCell ⟨w.heap.size, 3, none⟩ (.int .i64 x.f)).setCell ⟨w.heap.size, 4, none⟩ (.int .i64 x.m)).cell? ⟨w3.heap.size, 2, none⟩ = some (.int .i64 0) ∧ (((((w5.setCell ⟨w.heap.size, 0, none⟩ (.int .i64 x.o)).setCell ⟨w.heap.size, 1, none⟩ (.int .i64 x.d)).setCell ⟨w.heap.size, 2, none⟩ (.int .i64 x.s)).setCell ⟨w.heap.size, 3, none⟩ (.int .i64 x.f)).setCell ⟨w.heap.size, 4, none⟩ (.int .i64 x.m)).cell? ⟨w3.heap.size, 3, none⟩ = some (.int .i64 0) ∧ (((((w5.setCell ⟨w.heap.size, 0, none⟩ (.int .i64 x.o)).setCell ⟨w.heap.size, 1, none⟩ (.int .i64 x.d)).setCell ⟨w.heap.size, 2, none⟩ (.int .i64 x.s)).setCell ⟨w.heap.size, 3, none⟩ (.int .i64 x.f)).setCell ⟨w.heap.size, 4, none⟩ (.int .i64 x.m)).cell? ⟨w3.heap.size, 4, none⟩ = some (.int .i64 0) ∧ (((((w5.setCell ⟨w.heap.size, 0, none⟩ (.int .i64 x.o)).setCell ⟨w.heap.size, 1, none⟩ (.int .i64 x.d)).setCell ⟨w.heap.size, 2, none⟩ (.int .i64 x.s)).setCell ⟨w.heap.size, 3, none⟩ (.int .i64 x.f)).setCell ⟨w.heap.size, 4, none⟩ (.int .i64 x.m)).cell? ⟨g, off + 2, none⟩ = some (.string c)) := ⟨H9.out.sl.cell 0, H9.out.sl.cell 1, H9.out.sl.cell 2, H9.out.sl.cell 3, H9.out.sl.cell 4, D9.out.words 2 c rfl⟩; have r0 := Z5.out.rs.cell 0; have r1 := Z5.out.rs.cell 1; have r2 := Z5.out.rs.cell 2; have r3 := Z5.out.rs.cell 3; have r4 := Z5.out.rs.cell 4; have s0 := Z5.out.rs.frozen 0; have s1 := Z5.out.rs.frozen 1; have s2 := Z5.out.rs.frozen 2; have s3 := Z5.out.rs.frozen 3; have s4 := Z5.out.rs.frozen 4))
     go_wp2_with fail
     refine bodyPost_ret (results_cell_row rfl _ _ w.heap.size inT _ (0, 0) _ rfl H9.out.rs Tryz.underlying38 rfl (by kernel_rfl)) rfl ?_
     rw [AE.out 7 HQ.out]
     exact gives_bind (x := x) rfl HV.out (by simp only [hm, hc, hp, and_false, and_self, if_false, if_true, Bool.false_eq_true]; exact H9.out.rd) (fun z hz => by simp only [hm, hc, hp, and_false, and_self, if_false, if_true, Bool.false_eq_true] at hz; exact HXX.out z hz)
    ·have hp' : begins c ⟨#[40]⟩ = false := by simpa using hp
     rw [hp'] at CH2
     go_quiet (fail)
     go_upto_region 9 with fail
     obtain ⟨W, hW⟩ : ∃ W, (w3.alloc (.cells (inC 7 rv 0 0 0) inT)).drewN nq = W := ⟨_, rfl⟩
     have Z := Lib.hid (ZA.out nq)
     have D := Lib.hid (DA.out nq)
     rw [hW] at Z D ⊢
     clear ZA DA hW
     have d1' : W.cell? ⟨g, off + 1, none⟩ = some (.string m) := D.out.words 1 m rfl
     have d2' : W.cell? ⟨g, off + 2, none⟩ = some (.string c) := D.out.words 2 c rfl
     obtain ⟨tyq, cs, hB, hi, hat⟩ := D.out.tabs.operators_any
     have HB := Lib.hid hB
     have HX := Lib.hid hi
     have HA := Lib.hid hat
     clear hB hi hat
     clear d0 d1 d2
     go_wp2_with (first
      | (refine wpList_load_row rfl operatorsT _ rfl 5 rfl tyq cs (0, 0) _ HB.out Tryz.underlying124 rfl HX.out ?_)
      | (go_at_call 80; refine (CH2.out _).mono ?_; rintro e w5 ⟨rfl, rfl⟩))
     clear HB HX
     go_loopw [9, 62] (fun _ i wr => ∃ k : Nat, i = .int .i64 (k : Int) ∧ k ≤ 14 ∧ RZ w wr y (b || !(regS a (letterS 7)).isSome) w3.heap.size w.heap.size (inC 7 rv 0 0 0) (inC 0 0 0 0 0) ∧ Rd w0 wr y (b || !(regS a (letterS 7)).isSome) g off [a, m, c] ∧ operR 7 rv m c (operL.drop k) = operR 7 rv m c operL) (fun _ i _ => 14 - (Lib.intOf i).toNat)
     case atStart => exact ⟨0, rfl, by decide, Z.out, D.out, rfl⟩
     case round =>
      obtain ⟨k, rfl, hk, hR, hR2, hD⟩ := hrel
      have HR := Lib.hid hR
      have HR2 := Lib.hid hR2
      have HD := Lib.hid hD
      have HK := Lib.hid hk
      clear hR hR2 hD hk Z D
      by_cases h7 : k < 14
      ·obtain ⟨nm, md, sz, e1, e2, e3⟩ := HA.out k h7
       have i1 : (k : Int) < 14 := by omega
       have HW := Lib.hid h7
       have HD2 : Hid (operR 7 rv m c ((nm, md, sz) :: operL.drop (k + 1)) = operR 7 rv m c operL) := by
        have := HD.out
        rwa [drop_at e1] at this
       clear h7 e1 e2 HD
       have HN := Lib.hid (fun o' => HR2.out.on (below_alloc wr o'))
       have HNZ := Lib.hid (fun o' => HR.out.on (below_alloc wr o'))
       have HC : Hid (∀ cs, Blk (wr.alloc (.cells cs 123)) wr.heap.size 123 cs) := fun cs => Blk.new _ _ _
       have d1 : ∀ o', (wr.alloc o').cell? ⟨g, off + 1, none⟩ = some (.string m) := fun o' => (HN.out o').words 1 m rfl
       go_upto_region 14 with fail
       have NZ : Hid (∀ k', RZ w ((wr.alloc (.cells #[.string nm, .int .i64 md, .int .i64 sz] 123)).drewN k') y (b || !(regS a (letterS 7)).isSome) w3.heap.size w.heap.size (inC 7 rv 0 0 0) (inC 0 0 0 0 0)) := fun k' => (HNZ.out _).on (below_drewN _ k')
       have ND : Hid (∀ k', Rd w0 ((wr.alloc (.cells #[.string nm, .int .i64 md, .int .i64 sz] 123)).drewN k') y (b || !(regS a (letterS 7)).isSome) g off [a, m, c]) := fun k' => (HN.out _).on (below_drewN _ k')
       have NT : Hid (∀ k', Blk ((wr.alloc (.cells #[.string nm, .int .i64 md, .int .i64 sz] 123)).drewN k') wr.heap.size 123 #[.string nm, .int .i64 md, .int .i64 sz]) := fun k' => blk_on (HC.out _) (below_drewN _ k')
       by_cases hq : sameT nm m = true
       ·have bq : (nm.toList == m.toList) = true := (same_beq _ _).trans hq
        have CSQ := Lib.hid (fun w' b' op sz' (hb : Blk w' y rdT #[.bool b']) (hi : Blk w' w3.heap.size inT (inC op rv 0 sz' 0)) => CS.out 7 w3.heap.size w' b' op rv 0 sz' 0 hb hi)
        have HP : Hid (operR 7 rv m c operL = if (secS c (letterS 7) 0 0).ok = true then some ⟨if (secS c (letterS 7) 0 0).reg = true then bits .or .i64 (bits .or .i64 7 md) 8 else bits .or .i64 7 md, rv, (secS c (letterS 7) 0 0).src, sz, (secS c (letterS 7) 0 0).imm⟩ else none) := by
         rw [← HD2.out, operR, if_pos hq]
         exact rfl
        clear CS
        generalize secS c (letterS 7) 0 0 = S at *
        obtain ⟨sreg, ssrc, simm, sok⟩ := S
        simp only at CSQ HP
        clear hq HD2
        go_quiet (fail)
        obtain ⟨W2, hW2⟩ : ∃ W, (wr.alloc (.cells #[.string nm, .int .i64 md, .int .i64 sz] 123)).drewN nq = W := ⟨_, rfl⟩
        have Z := Lib.hid (NZ.out nq)
        have D := Lib.hid (ND.out nq)
        have T := Lib.hid (NT.out nq)
        rw [hW2] at Z D T ⊢
        clear NZ ND NT hW2 HN HNZ HC d1
        have t1 := T.out.cell 1
        have t2 := T.out.cell 2
        have d2 : W2.cell? ⟨g, off + 2, none⟩ = some (.string c) := D.out.words 2 c rfl
        have g0 := Z.out.sl.cell 0; have g1 := Z.out.sl.cell 1; have g2 := Z.out.sl.cell 2; have g3 := Z.out.sl.cell 3; have g4 := Z.out.sl.cell 4; have f0 := Z.out.sl.frozen 0; have f2 := Z.out.sl.frozen 2; have f3 := Z.out.sl.frozen 3
        have ne5 : ¬ wr.heap.size = w3.heap.size := fun e => by have := HR.out.sl.lt; omega
        have ne6 : ¬ w3.heap.size = wr.heap.size := fun e => by have := HR.out.sl.lt; omega
        obtain ⟨p, ep⟩ : ∃ p, bits .or .i64 7 md = p := ⟨_, rfl⟩
        rw [ep] at HP
        have Z3 : Hid (RZ w ((W2.setCell ⟨w3.heap.size, 0, none⟩ (.int .i64 p)).setCell ⟨w3.heap.size, 3, none⟩ (.int .i64 sz)) y (b || !(regS a (letterS 7)).isSome) w3.heap.size w.heap.size (inC p rv 0 sz 0) (inC 0 0 0 0 0)) := (Z.out.set 0 (.int .i64 p)).set 3 (.int .i64 sz)
        have BK : Hid ((if sok = true then some (⟨if sreg = true then bits .or .i64 p 8 else p, rv, ssrc, sz, simm⟩ : Slot) else none).isSome = sok) := by cases sok <;> rfl
        cases sreg
        ·go_wp2_with (go_at_call 82; refine (CSQ.out _ _ p sz Z3.out.rd.blk Z3.out.sl).mono ?_; rintro e w5 ⟨rfl, hr⟩; have Z5 := Lib.hid (Z3.out.second hr); clear hr; have g0 := Z5.out.sl.cell 0; have g1 := Z5.out.sl.cell 1; have g2 := Z5.out.sl.cell 2; have g3 := Z5.out.sl.cell 3; have g4 := Z5.out.sl.cell 4; have r0 := Z5.out.rs.cell 0; have r1 := Z5.out.rs.cell 1; have r2 := Z5.out.rs.cell 2; have r3 := Z5.out.rs.cell 3; have r4 := Z5.out.rs.cell 4; have s0 := Z5.out.rs.frozen 0; have s1 := Z5.out.rs.frozen 1; have s2 := Z5.out.rs.frozen 2; have s3 := Z5.out.rs.frozen 3; have s4 := Z5.out.rs.frozen 4)
         have H9 := Lib.hid (Z5.out.all (.int .i64 p) (.int .i64 rv) (.int .i64 ssrc) (.int .i64 sz) (.int .i64 simm))
         refine bodyPost_ret (results_cell_row rfl _ _ w.heap.size inT _ (0, 0) _ rfl H9.out.rs Tryz.underlying38 rfl (by kernel_rfl)) rfl ?_
         rw [AE.out 7 HQ.out]
         exact gives_bind (x := ⟨p, rv, ssrc, sz, simm⟩) rfl HV.out (by simp only [hm, hc, hp', and_false, if_false, Bool.false_eq_true]; rw [HP.out, BK.out]; exact H9.out.rd) (fun z hz => by simp only [hm, hc, hp', and_false, if_false, Bool.false_eq_true] at hz; rw [HP.out] at hz; cases sok <;> simp at hz; exact hz)
        ·go_wp2_with (go_at_call 82; refine (CSQ.out _ _ p sz Z3.out.rd.blk Z3.out.sl).mono ?_; rintro e w5 ⟨rfl, hr⟩; have Z5 := Lib.hid (Z3.out.second hr); clear hr; have g0 := Z5.out.sl.cell 0; have g1 := Z5.out.sl.cell 1; have g2 := Z5.out.sl.cell 2; have g3 := Z5.out.sl.cell 3; have g4 := Z5.out.sl.cell 4; have r0 := Z5.out.rs.cell 0; have r1 := Z5.out.rs.cell 1; have r2 := Z5.out.rs.cell 2; have r3 := Z5.out.rs.cell 3; have r4 := Z5.out.rs.cell 4; have s0 := Z5.out.rs.frozen 0; have s1 := Z5.out.rs.frozen 1; have s2 := Z5.out.rs.frozen 2; have s3 := Z5.out.rs.frozen 3; have s4 := Z5.out.rs.frozen 4; have f0 := Z5.out.sl.frozen 0)
         have H9 := Lib.hid ((Z5.out.set 0 (.int .i64 (bits .or .i64 p 8))).all (.int .i64 (bits .or .i64 p 8)) (.int .i64 rv) (.int .i64 ssrc) (.int .i64 sz) (.int .i64 simm))
         refine bodyPost_ret (results_cell_row rfl _ _ w.heap.size inT _ (0, 0) _ rfl H9.out.rs Tryz.underlying38 rfl (by kernel_rfl)) rfl ?_
         rw [AE.out 7 HQ.out]
         exact gives_bind (x := ⟨bits .or .i64 p 8, rv, ssrc, sz, simm⟩) rfl HV.out (by simp only [hm, hc, hp', and_false, if_false, Bool.false_eq_true]; rw [HP.out, BK.out]; exact H9.out.rd) (fun z hz => by simp only [hm, hc, hp', and_false, if_false, Bool.false_eq_true] at hz; rw [HP.out] at hz; cases sok <;> simp at hz; exact hz)
       ·have bq : (nm.toList == m.toList) = false := (same_beq _ _).trans (by simpa using hq)
        have HD3 : Hid (operR 7 rv m c (operL.drop (k + 1)) = operR 7 rv m c operL) := by
         rw [← HD2.out, operR, if_neg hq]
         exact rfl
        clear hq HD2
        go_quiet (fail)
        have Z := Lib.hid (NZ.out nq)
        have D := Lib.hid (ND.out nq)
        clear NZ ND NT HN HNZ HC d1
        go_wp2_with fail
        go_roundw
        case rel => exact ⟨k + 1, rfl, HW.out, Z.out, D.out, HD3.out⟩
        case measure =>
         have := HW.out
         simp only [Lib.intOf]
         omega
      ·have hk7 : k = 14 := by have := HK.out; omega
       subst hk7
       have HF : Hid (operR 7 rv m c operL = none) := by
        rw [← HD.out]
        exact rfl
       have g0 := HR.out.sl.cell 0; have g1 := HR.out.sl.cell 1; have g2 := HR.out.sl.cell 2; have g3 := HR.out.sl.cell 3; have g4 := HR.out.sl.cell 4
       have r0 := HR.out.rs.cell 0; have r1 := HR.out.rs.cell 1; have r2 := HR.out.rs.cell 2; have r3 := HR.out.rs.cell 3; have r4 := HR.out.rs.cell 4; have s0 := HR.out.rs.frozen 0; have s1 := HR.out.rs.frozen 1; have s2 := HR.out.rs.frozen 2; have s3 := HR.out.rs.frozen 3; have s4 := HR.out.rs.frozen 4
       have y0 := HR.out.rd.blk.cell 0; have y1 := HR.out.rd.blk.frozen 0
       clear h7 HD HK
       go_wp2_with fail
       have H9 := Lib.hid (HR.out.wrong.all (.int .i64 7) (.int .i64 rv) (.int .i64 0) (.int .i64 0) (.int .i64 0))
       refine bodyPost_ret (results_cell_row rfl _ _ w.heap.size inT _ (0, 0) _ rfl H9.out.rs Tryz.underlying38 rfl (by kernel_rfl)) rfl ?_
       rw [AE.out 7 HQ.out]
       exact gives_bind (x := ⟨7, rv, 0, 0, 0⟩) rfl HV.out (by simp only [hm, hc, hp', and_false, if_false, Bool.false_eq_true]; rw [HF.out]; simpa using H9.out.rd) (fun z hz => by simp only [hm, hc, hp', and_false, if_false, Bool.false_eq_true] at hz; rw [HF.out] at hz; cases hz)
  ·have hm' : sameT m eqT = false := by simpa using hm
   have bm : (m.toList == [61]) = false := (same_const m [61]).trans hm'
   go_quiet (fail)
   go_upto_region 9 with fail
   obtain ⟨W, hW⟩ : ∃ W, (w3.alloc (.cells (inC 7 rv 0 0 0) inT)).drewN nq = W := ⟨_, rfl⟩
   have Z := Lib.hid (ZA.out nq)
   have D := Lib.hid (DA.out nq)
   rw [hW] at Z D ⊢
   clear ZA DA hW
   have d1' : W.cell? ⟨g, off + 1, none⟩ = some (.string m) := D.out.words 1 m rfl
   obtain ⟨tyq, cs, hB, hi, hat⟩ := D.out.tabs.operators_any
   have HB := Lib.hid hB
   have HX := Lib.hid hi
   have HA := Lib.hid hat
   clear hB hi hat
   clear d0 d1 d2
   go_wp2_with (first
    | (refine wpList_load_row rfl operatorsT _ rfl 5 rfl tyq cs (0, 0) _ HB.out Tryz.underlying124 rfl HX.out ?_)
    | fail)
   clear HB HX
   go_loopw [9, 62] (fun _ i wr => ∃ k : Nat, i = .int .i64 (k : Int) ∧ k ≤ 14 ∧ RZ w wr y (b || !(regS a (letterS 7)).isSome) w3.heap.size w.heap.size (inC 7 rv 0 0 0) (inC 0 0 0 0 0) ∧ Rd w0 wr y (b || !(regS a (letterS 7)).isSome) g off [a, m, c] ∧ operR 7 rv m c (operL.drop k) = operR 7 rv m c operL) (fun _ i _ => 14 - (Lib.intOf i).toNat)
   case atStart => exact ⟨0, rfl, by decide, Z.out, D.out, rfl⟩
   case round =>
    obtain ⟨k, rfl, hk, hR, hR2, hD⟩ := hrel
    have HR := Lib.hid hR
    have HR2 := Lib.hid hR2
    have HD := Lib.hid hD
    have HK := Lib.hid hk
    clear hR hR2 hD hk Z D
    by_cases h7 : k < 14
    ·obtain ⟨nm, md, sz, e1, e2, e3⟩ := HA.out k h7
     have i1 : (k : Int) < 14 := by omega
     have HW := Lib.hid h7
     have HD2 : Hid (operR 7 rv m c ((nm, md, sz) :: operL.drop (k + 1)) = operR 7 rv m c operL) := by
      have := HD.out
      rwa [drop_at e1] at this
     clear h7 e1 e2 HD
     have HN := Lib.hid (fun o' => HR2.out.on (below_alloc wr o'))
     have HNZ := Lib.hid (fun o' => HR.out.on (below_alloc wr o'))
     have HC : Hid (∀ cs, Blk (wr.alloc (.cells cs 123)) wr.heap.size 123 cs) := fun cs => Blk.new _ _ _
     have d1 : ∀ o', (wr.alloc o').cell? ⟨g, off + 1, none⟩ = some (.string m) := fun o' => (HN.out o').words 1 m rfl
     go_upto_region 14 with fail
     have NZ : Hid (∀ k', RZ w ((wr.alloc (.cells #[.string nm, .int .i64 md, .int .i64 sz] 123)).drewN k') y (b || !(regS a (letterS 7)).isSome) w3.heap.size w.heap.size (inC 7 rv 0 0 0) (inC 0 0 0 0 0)) := fun k' => (HNZ.out _).on (below_drewN _ k')
     have ND : Hid (∀ k', Rd w0 ((wr.alloc (.cells #[.string nm, .int .i64 md, .int .i64 sz] 123)).drewN k') y (b || !(regS a (letterS 7)).isSome) g off [a, m, c]) := fun k' => (HN.out _).on (below_drewN _ k')
     have NT : Hid (∀ k', Blk ((wr.alloc (.cells #[.string nm, .int .i64 md, .int .i64 sz] 123)).drewN k') wr.heap.size 123 #[.string nm, .int .i64 md, .int .i64 sz]) := fun k' => blk_on (HC.out _) (below_drewN _ k')
     by_cases hq : sameT nm m = true
     ·have bq : (nm.toList == m.toList) = true := (same_beq _ _).trans hq
      have CSQ := Lib.hid (fun w' b' op sz' (hb : Blk w' y rdT #[.bool b']) (hi : Blk w' w3.heap.size inT (inC op rv 0 sz' 0)) => CS.out 7 w3.heap.size w' b' op rv 0 sz' 0 hb hi)
      have HP : Hid (operR 7 rv m c operL = if (secS c (letterS 7) 0 0).ok = true then some ⟨if (secS c (letterS 7) 0 0).reg = true then bits .or .i64 (bits .or .i64 7 md) 8 else bits .or .i64 7 md, rv, (secS c (letterS 7) 0 0).src, sz, (secS c (letterS 7) 0 0).imm⟩ else none) := by
       rw [← HD2.out, operR, if_pos hq]
       exact rfl
      clear CS
      generalize secS c (letterS 7) 0 0 = S at *
      obtain ⟨sreg, ssrc, simm, sok⟩ := S
      simp only at CSQ HP
      clear hq HD2
      go_quiet (fail)
      obtain ⟨W2, hW2⟩ : ∃ W, (wr.alloc (.cells #[.string nm, .int .i64 md, .int .i64 sz] 123)).drewN nq = W := ⟨_, rfl⟩
      have Z := Lib.hid (NZ.out nq)
      have D := Lib.hid (ND.out nq)
      have T := Lib.hid (NT.out nq)
      rw [hW2] at Z D T ⊢
      clear NZ ND NT hW2 HN HNZ HC d1
      have t1 := T.out.cell 1
      have t2 := T.out.cell 2
      have d2 : W2.cell? ⟨g, off + 2, none⟩ = some (.string c) := D.out.words 2 c rfl
      have g0 := Z.out.sl.cell 0; have g1 := Z.out.sl.cell 1; have g2 := Z.out.sl.cell 2; have g3 := Z.out.sl.cell 3; have g4 := Z.out.sl.cell 4; have f0 := Z.out.sl.frozen 0; have f2 := Z.out.sl.frozen 2; have f3 := Z.out.sl.frozen 3
      have ne5 : ¬ wr.heap.size = w3.heap.size := fun e => by have := HR.out.sl.lt; omega
      have ne6 : ¬ w3.heap.size = wr.heap.size := fun e => by have := HR.out.sl.lt; omega
      obtain ⟨p, ep⟩ : ∃ p, bits .or .i64 7 md = p := ⟨_, rfl⟩
      rw [ep] at HP
      have Z3 : Hid (RZ w ((W2.setCell ⟨w3.heap.size, 0, none⟩ (.int .i64 p)).setCell ⟨w3.heap.size, 3, none⟩ (.int .i64 sz)) y (b || !(regS a (letterS 7)).isSome) w3.heap.size w.heap.size (inC p rv 0 sz 0) (inC 0 0 0 0 0)) := (Z.out.set 0 (.int .i64 p)).set 3 (.int .i64 sz)
      have BK : Hid ((if sok = true then some (⟨if sreg = true then bits .or .i64 p 8 else p, rv, ssrc, sz, simm⟩ : Slot) else none).isSome = sok) := by cases sok <;> rfl
      cases sreg
      ·go_wp2_with (go_at_call 82; refine (CSQ.out _ _ p sz Z3.out.rd.blk Z3.out.sl).mono ?_; rintro e w5 ⟨rfl, hr⟩; have Z5 := Lib.hid (Z3.out.second hr); clear hr; have g0 := Z5.out.sl.cell 0; have g1 := Z5.out.sl.cell 1; have g2 := Z5.out.sl.cell 2; have g3 := Z5.out.sl.cell 3; have g4 := Z5.out.sl.cell 4; have r0 := Z5.out.rs.cell 0; have r1 := Z5.out.rs.cell 1; have r2 := Z5.out.rs.cell 2; have r3 := Z5.out.rs.cell 3; have r4 := Z5.out.rs.cell 4; have s0 := Z5.out.rs.frozen 0; have s1 := Z5.out.rs.frozen 1; have s2 := Z5.out.rs.frozen 2; have s3 := Z5.out.rs.frozen 3; have s4 := Z5.out.rs.frozen 4)
       have H9 := Lib.hid (Z5.out.all (.int .i64 p) (.int .i64 rv) (.int .i64 ssrc) (.int .i64 sz) (.int .i64 simm))
       refine bodyPost_ret (results_cell_row rfl _ _ w.heap.size inT _ (0, 0) _ rfl H9.out.rs Tryz.underlying38 rfl (by kernel_rfl)) rfl ?_
       rw [AE.out 7 HQ.out]
       exact gives_bind (x := ⟨p, rv, ssrc, sz, simm⟩) rfl HV.out (by simp only [hm', false_and, if_false, Bool.false_eq_true]; rw [HP.out, BK.out]; exact H9.out.rd) (fun z hz => by simp only [hm', false_and, if_false, Bool.false_eq_true] at hz; rw [HP.out] at hz; cases sok <;> simp at hz; exact hz)
      ·go_wp2_with (go_at_call 82; refine (CSQ.out _ _ p sz Z3.out.rd.blk Z3.out.sl).mono ?_; rintro e w5 ⟨rfl, hr⟩; have Z5 := Lib.hid (Z3.out.second hr); clear hr; have g0 := Z5.out.sl.cell 0; have g1 := Z5.out.sl.cell 1; have g2 := Z5.out.sl.cell 2; have g3 := Z5.out.sl.cell 3; have g4 := Z5.out.sl.cell 4; have r0 := Z5.out.rs.cell 0; have r1 := Z5.out.rs.cell 1; have r2 := Z5.out.rs.cell 2; have r3 := Z5.out.rs.cell 3; have r4 := Z5.out.rs.cell 4; have s0 := Z5.out.rs.frozen 0; have s1 := Z5.out.rs.frozen 1; have s2 := Z5.out.rs.frozen 2; have s3 := Z5.out.rs.frozen 3; have s4 := Z5.out.rs.frozen 4; have f0 := Z5.out.sl.frozen 0)
       have H9 := Lib.hid ((Z5.out.set 0 (.int .i64 (bits .or .i64 p 8))).all (.int .i64 (bits .or .i64 p 8)) (.int .i64 rv) (.int .i64 ssrc) (.int .i64 sz) (.int .i64 simm))
       refine bodyPost_ret (results_cell_row rfl _ _ w.heap.size inT _ (0, 0) _ rfl H9.out.rs Tryz.underlying38 rfl (by kernel_rfl)) rfl ?_
       rw [AE.out 7 HQ.out]
       exact gives_bind (x := ⟨bits .or .i64 p 8, rv, ssrc, sz, simm⟩) rfl HV.out (by simp only [hm', false_and, if_false, Bool.false_eq_true]; rw [HP.out, BK.out]; exact H9.out.rd) (fun z hz => by simp only [hm', false_and, if_false, Bool.false_eq_true] at hz; rw [HP.out] at hz; cases sok <;> simp at hz; exact hz)
     ·have bq : (nm.toList == m.toList) = false := (same_beq _ _).trans (by simpa using hq)
      have HD3 : Hid (operR 7 rv m c (operL.drop (k + 1)) = operR 7 rv m c operL) := by
       rw [← HD2.out, operR, if_neg hq]
       exact rfl
      clear hq HD2
      go_quiet (fail)
      have Z := Lib.hid (NZ.out nq)
      have D := Lib.hid (ND.out nq)
      clear NZ ND NT HN HNZ HC d1
      go_wp2_with fail
      go_roundw
      case rel => exact ⟨k + 1, rfl, HW.out, Z.out, D.out, HD3.out⟩
      case measure =>
       have := HW.out
       simp only [Lib.intOf]
       omega
    ·have hk7 : k = 14 := by have := HK.out; omega
     subst hk7
     have HF : Hid (operR 7 rv m c operL = none) := by
      rw [← HD.out]
      exact rfl
     have g0 := HR.out.sl.cell 0; have g1 := HR.out.sl.cell 1; have g2 := HR.out.sl.cell 2; have g3 := HR.out.sl.cell 3; have g4 := HR.out.sl.cell 4
     have r0 := HR.out.rs.cell 0; have r1 := HR.out.rs.cell 1; have r2 := HR.out.rs.cell 2; have r3 := HR.out.rs.cell 3; have r4 := HR.out.rs.cell 4; have s0 := HR.out.rs.frozen 0; have s1 := HR.out.rs.frozen 1; have s2 := HR.out.rs.frozen 2; have s3 := HR.out.rs.frozen 3; have s4 := HR.out.rs.frozen 4
     have y0 := HR.out.rd.blk.cell 0; have y1 := HR.out.rd.blk.frozen 0
     clear h7 HD HK
     go_wp2_with fail
     have H9 := Lib.hid (HR.out.wrong.all (.int .i64 7) (.int .i64 rv) (.int .i64 0) (.int .i64 0) (.int .i64 0))
     refine bodyPost_ret (results_cell_row rfl _ _ w.heap.size inT _ (0, 0) _ rfl H9.out.rs Tryz.underlying38 rfl (by kernel_rfl)) rfl ?_
     rw [AE.out 7 HQ.out]
     exact gives_bind (x := ⟨7, rv, 0, 0, 0⟩) rfl HV.out (by simp only [hm', false_and, if_false, Bool.false_eq_true]; rw [HF.out]; simpa using H9.out.rd) (fun z hz => by simp only [hm', false_and, if_false, Bool.false_eq_true] at hz; rw [HF.out] at hz; cases hz)
end Go.Proofs.YtemiklbkfogjeaaGreatDoor
