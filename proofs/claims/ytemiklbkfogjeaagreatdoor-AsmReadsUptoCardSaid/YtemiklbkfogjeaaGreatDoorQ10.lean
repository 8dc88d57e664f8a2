/-
  Package asm, reading: where a line's words and the reader's mark lie. Package asm, reading: extend.
-/
import Derived.Test.YtemiklbkfogjeaaGreatDoorQ09
namespace Go.Proofs.YtemiklbkfogjeaaGreatDoor
open Go Go.RowKit Go.Maps
set_option linter.unusedVariables false
set_option linter.unusedSimpArgs false
set_option maxRecDepth 100000
/-- The reader's mark is b, the words L lie in g from off on, the tables lie; all of w0 is as it was. -/
structure Rd (w0 w : World) (y : Nat) (b : Bool) (g off : Nat) (L : List ByteArray) : Prop where
 below : Below w0.heap.size w0 w
 hy : w0.heap.size ≤ y
 tabs0 : Tabs w0
 blk : Blk w y rdT #[.bool b]
 words : ∀ i s, L[i]? = some s → w.cell? ⟨g, off + i, none⟩ = some (.string s)
 lt : g < w.heap.size
 ne : g ≠ y
 small : ∀ s ∈ L, s.size ≤ 4611686018427387904
section
variable {w0 w w' : World} {y g off : Nat} {b b' : Bool} {L : List ByteArray}
theorem Rd.tabs (h : Rd w0 w y b g off L) : Tabs w := h.tabs0.below h.below
theorem Rd.on (h : Rd w0 w y b g off L) (hb : Below w.heap.size w w') : Rd w0 w' y b g off L :=
 ⟨h.below.on hb, h.hy, h.tabs0, blk_on h.blk hb, fun i s hi => (hb.cell (p := ⟨g, off + i, none⟩) h.lt).trans (h.words i s hi), Nat.lt_of_lt_of_le h.lt hb.size, h.ne, h.small⟩
theorem Rd.keeps (h : Rd w0 w y b g off L) {S : Nat → Prop} (hk : Keeps S w w') (hS : ∀ k, S k → w0.heap.size ≤ k ∧ k ≠ g) (hb : Blk w' y rdT #[.bool b']) : Rd w0 w' y b' g off L := by
 refine ⟨h.below.trans (hk.below (fun k hk => (hS k hk).1) h.below.size), h.hy, h.tabs0, hb, fun i s hi => ?_, Nat.lt_of_lt_of_le h.lt hk.size, h.ne, h.small⟩
 have h1 := h.words i s hi
 have hblk := hk.block g h.lt (fun hs => (hS g hs).2 rfl)
 unfold World.cell? at h1 ⊢
 rw [hblk]
 exact h1
theorem Rd.mark (h : Rd w0 w y b g off L) (hr : RD w w' y b') : Rd w0 w' y b' g off L :=
 h.keeps hr.keeps (fun k hk => by have : k = y := hk; subst this; exact ⟨h.hy, fun e => h.ne e.symm⟩) hr.blk
theorem Rd.sub (h : Rd w0 w y b g off L) (k : Nat) : Rd w0 w y b g (off + k) (L.drop k) :=
 ⟨h.below, h.hy, h.tabs0, h.blk, fun i s hi => by rw [List.getElem?_drop] at hi; have := h.words _ s hi; rw [Nat.add_assoc]; exact this, h.lt, h.ne, fun s hs => h.small s (List.mem_of_mem_drop hs)⟩
end
theorem RD.start {w : World} {y : Nat} {b : Bool} (h : Blk w y rdT #[.bool b]) : RD w w y b := ⟨h, Keeps.refl _ _⟩
theorem RD.on {w w1 w2 : World} {y : Nat} {b : Bool} (h : RD w w1 y b) (hb : Below w1.heap.size w1 w2) : RD w w2 y b :=
 ⟨blk_on h.blk hb, h.keeps.trans (Below.keeps hb (fun k h1 h2 => absurd h2 (Nat.not_lt.2 h1)))⟩
/-- The reader's mark, a slot of the call's own in z, another one in zr; all else is as it was. -/
structure RZ (w W : World) (y : Nat) (b : Bool) (z zr : Nat) (X R : Array Value) : Prop where
 rd : RD w W y b
 sl : Blk W z inT X
 rs : Blk W zr inT R
 hz : w.heap.size ≤ z
 hr : w.heap.size ≤ zr
 hy : y < w.heap.size
 ne : z ≠ zr
section
variable {w W W' : World} {y z zr : Nat} {b b' : Bool} {X R : Array Value}
theorem RZ.on (h : RZ w W y b z zr X R) (hb : Below W.heap.size W W') : RZ w W' y b z zr X R := ⟨h.rd.on hb, blk_on h.sl hb, blk_on h.rs hb, h.hz, h.hr, h.hy, h.ne⟩
theorem RZ.mark (h : RZ w W y b z zr X R) (hr : RD W W' y b') : RZ w W' y b' z zr X R :=
 ⟨h.rd.then hr, h.sl.keeps hr.keeps (fun e => by have : z = y := e; have := h.hz; have := h.hy; omega), h.rs.keeps hr.keeps (fun e => by have : zr = y := e; have := h.hr; have := h.hy; omega), h.hz, h.hr, h.hy, h.ne⟩
theorem RZ.set (h : RZ w W y b z zr X R) (i : Nat) (v : Value) : RZ w (W.setCell ⟨z, i, none⟩ v) y b z zr (X.setIfInBounds i v) R :=
 ⟨⟨h.rd.blk.far (p := ⟨z, i, none⟩) (by have := h.hz; have := h.hy; show y ≠ z; omega) v, h.rd.keeps.setCell (p := ⟨z, i, none⟩) (.inr h.hz) v⟩, h.sl.set_ i v, h.rs.far (p := ⟨z, i, none⟩) (fun e => h.ne e.symm) v, h.hz, h.hr, h.hy, h.ne⟩
theorem RZ.setr (h : RZ w W y b z zr X R) (i : Nat) (v : Value) : RZ w (W.setCell ⟨zr, i, none⟩ v) y b z zr X (R.setIfInBounds i v) :=
 ⟨⟨h.rd.blk.far (p := ⟨zr, i, none⟩) (by have := h.hr; have := h.hy; show y ≠ zr; omega) v, h.rd.keeps.setCell (p := ⟨zr, i, none⟩) (.inr h.hr) v⟩, h.sl.far (p := ⟨zr, i, none⟩) h.ne v, h.rs.set_ i v, h.hz, h.hr, h.hy, h.ne⟩
theorem RD.wrong {b : Bool} (h : RD w W y b) : RD w (W.setCell ⟨y, 0, none⟩ (.bool true)) y true :=
 ⟨by have := h.blk.set_ 0 (.bool true); simpa using this, h.keeps.setCell (p := ⟨y, 0, none⟩) (.inl rfl) (.bool true)⟩
theorem RZ.wrong (h : RZ w W y b z zr X R) : RZ w (W.setCell ⟨y, 0, none⟩ (.bool true)) y true z zr X R :=
 ⟨h.rd.wrong, h.sl.far (p := ⟨y, 0, none⟩) (by have := h.hz; have := h.hy; show z ≠ y; omega) _, h.rs.far (p := ⟨y, 0, none⟩) (by have := h.hr; have := h.hy; show zr ≠ y; omega) _, h.hz, h.hr, h.hy, h.ne⟩
theorem RZ.second {op dst src off imm : Int} (h : RZ w W y b z zr X R) (hr : RI W W' y z b' op dst src off imm) : RZ w W' y b' z zr (inC op dst src off imm) R :=
 ⟨⟨hr.blk, h.rd.keeps.trans (hr.keeps.mono fun k hk => by
   rcases hk with rfl | rfl
   ·exact .inl rfl
   ·exact .inr ⟨h.hz, h.sl.lt⟩)⟩, hr.slot, h.rs.keeps hr.keeps (fun e => by
   rcases e with e | e
   ·have := h.hr; have := h.hy; omega
   ·exact h.ne e.symm), h.hz, h.hr, h.hy, h.ne⟩
theorem RZ.all {r0 r1 r2 r3 r4 : Value} (h : RZ w W y b z zr X #[r0, r1, r2, r3, r4]) (a0 a1 a2 a3 a4 : Value) : RZ w (((((W.setCell ⟨zr, 0, none⟩ a0).setCell ⟨zr, 1, none⟩ a1).setCell ⟨zr, 2, none⟩ a2).setCell ⟨zr, 3, none⟩ a3).setCell ⟨zr, 4, none⟩ a4) y b z zr X #[a0, a1, a2, a3, a4] := by
 have h1 : RZ w _ y b z zr X #[a0, r1, r2, r3, r4] := h.setr 0 a0
 have h2 : RZ w _ y b z zr X #[a0, a1, r2, r3, r4] := h1.setr 1 a1
 have h3 : RZ w _ y b z zr X #[a0, a1, a2, r3, r4] := h2.setr 2 a2
 have h4 : RZ w _ y b z zr X #[a0, a1, a2, a3, r4] := h3.setr 3 a3
 exact h4.setr 4 a4
end
theorem cell_keeps {S : Nat → Prop} {W W' : World} (hk : Keeps S W W') {g i : Nat} {v : Value} (hlt : g < W.heap.size) (hS : ¬ S g) (h : W.cell? ⟨g, i, none⟩ = some v) : W'.cell? ⟨g, i, none⟩ = some v := by
 unfold World.cell? at *
 rw [hk.block g hlt hS]
 exact h
theorem keeps5 (W : World) (z : Nat) (v0 v1 v2 v3 v4 : Value) : Keeps (fun k => k = z) W (((((W.setCell ⟨z, 0, none⟩ v0).setCell ⟨z, 1, none⟩ v1).setCell ⟨z, 2, none⟩ v2).setCell ⟨z, 3, none⟩ v3).setCell ⟨z, 4, none⟩ v4) :=
 (((((Keeps.refl (fun k : Nat => k = z) W).setCell (p := ⟨z, 0, none⟩) (.inl rfl) v0).setCell (p := ⟨z, 1, none⟩) (.inl rfl) v1).setCell (p := ⟨z, 2, none⟩) (.inl rfl) v2).setCell (p := ⟨z, 3, none⟩) (.inl rfl) v3).setCell (p := ⟨z, 4, none⟩) (.inl rfl) v4
theorem RZ.allz {w W : World} {y z zr : Nat} {b : Bool} {R : Array Value} {r0 r1 r2 r3 r4 : Value} (h : RZ w W y b z zr #[r0, r1, r2, r3, r4] R) (a0 a1 a2 a3 a4 : Value) : RZ w (((((W.setCell ⟨z, 0, none⟩ a0).setCell ⟨z, 1, none⟩ a1).setCell ⟨z, 2, none⟩ a2).setCell ⟨z, 3, none⟩ a3).setCell ⟨z, 4, none⟩ a4) y b z zr #[a0, a1, a2, a3, a4] R := by
 have h1 : RZ w _ y b z zr #[a0, r1, r2, r3, r4] R := h.set 0 a0
 have h2 : RZ w _ y b z zr #[a0, a1, r2, r3, r4] R := h1.set 1 a1
 have h3 : RZ w _ y b z zr #[a0, a1, a2, r3, r4] R := h2.set 2 a2
 have h4 : RZ w _ y b z zr #[a0, a1, a2, a3, r4] R := h3.set 3 a3
 exact h4.set 4 a4
theorem at_three : ∀ k : Nat, k < 3 → ∃ n : Int, [(8 : Int), 16, 32][k]? = some n ∧ (0 ≤ n ∧ n ≤ 32) ∧ ∀ w, (Instr.index turnBitsT (.agg #[.int .i64 8, .int .i64 16, .int .i64 32]) (.int .i64 (k : Int))).run Tryz.prog w = .ok (.int .i64 n) w
 | 0, _ => ⟨_, rfl, by decide, fun w => by kernel_rfl⟩
 | 1, _ => ⟨_, rfl, by decide, fun w => by kernel_rfl⟩
 | 2, _ => ⟨_, rfl, by decide, fun w => by kernel_rfl⟩
 | k + 3, h => absurd h (by omega)
/-- What extend makes of a word. -/
def extG (q p d : Int) (s : ByteArray) : List Int → Option Slot
 | [] => none
 | n :: l => if begins s (signT n) = true ∧ extendsS q n = true then (regS (behind s (signT n)) (letterS q)).map fun r : Nat => (⟨p, d, (r : Int), n, 0⟩ : Slot) else extG q p d s l
/-- A slot is answered: this one, if there is one and the mark is not set for it. -/
def GivesI (w : World) (y : Nat) (b : Bool) (S : Option Slot) (e : Ending) (w' : World) : Prop :=
 ∃ x : Slot, e = .returned (.agg (inC x.o x.d x.s x.f x.m)) ∧ RD w w' y (b || !S.isSome) ∧ ∀ z, S = some z → x = z
theorem regS_val {s p : ByteArray} {n : Nat} (h : regS s p = some n) : regV s p = n := by
 unfold regS at h
 split at h
 ·unfold digN at h
  split at h
  ·cases h
  ·unfold regV; rw [h]; rfl
 ·cases h
set_option maxHeartbeats 4000000 in
theorem extend_any {w : World} {y : Nat} {b : Bool} (h : Blk w y rdT #[.bool b]) (q d : Int) (hq : q = 4 ∨ q = 7) (s : ByteArray) (hs : s.size ≤ 4611686018427387904) (hTK : ∀ w', Keeps (isY y) w w' → Pow w') :
  Calls Tryz.prog 85 #[rp y, .agg (inC q d 0 0 0), .string s] w (GivesI w y b (extG q (bits .or .i64 q 184) d s [8, 16, 32])) := by
 obtain ⟨p, ep⟩ : ∃ x, bits .or .i64 q 184 = x := ⟨_, rfl⟩
 rw [ep]
 have CG := Lib.hid (fun n (hn : 0 ≤ n ∧ n ≤ 32) w hw => signOf_any n (by omega) (by omega) w hw)
 have CP := Lib.hid (fun n (hn : 0 ≤ n ∧ n ≤ 32) w => cutPrefix_any s (signT n) hs (Nat.le_trans (signT_size n (by omega) (by omega)) (by decide)) w)
 have CX := Lib.hid (fun n w => extends_any q n w)
 have CL := Lib.hid (fun w => letterOf_any q w)
 have CR := Lib.hid (fun n w' (hb : Blk w' y rdT #[.bool b]) => register_any hb (behind s (signT n)) (letterS q) (Nat.le_trans (behind_le _ _) hs) (Nat.le_trans (letterS_size _) (by decide)))
 have HT := Lib.hid hTK
 have hlt := h.lt
 have R0 : Hid (RZ w ((w.alloc (.cells (inC p d 0 0 0) inT)).alloc (.cells (inC 0 0 0 0 0) inT)) y b w.heap.size (w.heap.size + 1) (inC p d 0 0 0) (inC 0 0 0 0 0)) :=
  ⟨(RD.start h).on ((below_alloc w _).alloc (by simp) _), (Blk.new w inT _).alloc _, heap_alloc2_new w _ _, Nat.le_refl _, Nat.le_succ _, h.lt, Nat.ne_of_lt (Nat.lt_succ_self _)⟩
 clear h hs hTK hq
 go_enter Tryz.func85, Tryz.ntmps85
 go_wp2
 go_loopw [9, 10, 11, 19] (fun _ _ _ i wr => ∃ k : Nat, i = .int .i64 (k : Int) ∧ k ≤ 3 ∧ RZ w wr y b w.heap.size (w.heap.size + 1) (inC p d 0 0 0) (inC 0 0 0 0 0) ∧ extG q p d s ([8, 16, 32].drop k) = extG q p d s [8, 16, 32]) (fun _ _ _ i _ => 3 - (Lib.intOf i).toNat)
 case atStart => exact ⟨0, rfl, by decide, R0.out, rfl⟩
 case round =>
  obtain ⟨k, rfl, hk, hR, hD⟩ := hrel
  have HR := Lib.hid hR
  have HD := Lib.hid hD
  have HK := Lib.hid hk
  clear hR hD hk R0
  by_cases h7 : k < 3
  ·obtain ⟨n, e1, e2, e3⟩ := at_three k h7
   have i1 : (k : Int) < 3 := by omega
   have HW := Lib.hid h7
   have HD2 : Hid (extG q p d s (n :: [8, 16, 32].drop (k + 1)) = extG q p d s [8, 16, 32]) := by
    have := HD.out
    rwa [drop_at e1] at this
   have CG := Lib.hid (CG.out n e2)
   have CP := Lib.hid (CP.out n e2)
   have CX := Lib.hid (CX.out n)
   have CR := Lib.hid (CR.out n)
   clear h7 e1 e2 HD
   by_cases hq : begins s (signT n) = true ∧ extendsS q n = true
   ·obtain ⟨q1, q2⟩ := hq
    rw [q1] at CP
    rw [q2] at CX
    have HP : Hid (extG q p d s [8, 16, 32] = (regS (behind s (signT n)) (letterS q)).map fun r : Nat => (⟨p, d, (r : Int), n, 0⟩ : Slot)) := by
     rw [← HD2.out, extG, if_pos ⟨q1, q2⟩]
     exact rfl
    clear q1 q2 HD2
    generalize signT n = sg at *
    have HV : Hid (∀ r, regS (behind s sg) (letterS q) = some r → regV (behind s sg) (letterS q) = r) := fun r => regS_val
    generalize regV (behind s sg) (letterS q) = rv at *
    generalize regS (behind s sg) (letterS q) = rs at *
    generalize behind s sg = bh at *
    generalize letterS q = lt at *
    go_wp2_with (first
     | (go_at_call 104; refine (CG.out _ (HT.out _ HR.out.rd.keeps)).mono ?_; rintro e w1 ⟨rfl, hb⟩; have H1 := Lib.hid (HR.out.on hb); clear hb; have f3 := H1.out.sl.frozen 3; have c3 := H1.out.sl.cell 3)
     | (go_at_call 78; refine (CP.out _).mono ?_; rintro e w2 ⟨rfl, rfl⟩)
     | (go_at_call 103; refine (CX.out _).mono ?_; rintro e w2 ⟨rfl, rfl⟩)
     | (go_at_call 81; refine (CL.out _).mono ?_; rintro e w2 ⟨rfl, rfl⟩)
     | (go_at_call 50; have H2 := Lib.hid (H1.out.set 3 (.int .i64 n)); refine (CR.out _ H2.out.rd.blk).mono ?_; rintro e w3 ⟨rfl, hr⟩; have H3 := Lib.hid (H2.out.mark hr); clear hr; have f2 := H3.out.sl.frozen 2; have g0 := H3.out.sl.cell 0; have g1 := H3.out.sl.cell 1; have g2 := H3.out.sl.cell 2; have g3 := H3.out.sl.cell 3; have g4 := H3.out.sl.cell 4; have r0 := H3.out.rs.cell 0; have r1 := H3.out.rs.cell 1; have r2 := H3.out.rs.cell 2; have r3 := H3.out.rs.cell 3; have r4 := H3.out.rs.cell 4; have s0 := H3.out.rs.frozen 0; have s1 := H3.out.rs.frozen 1; have s2 := H3.out.rs.frozen 2; have s3 := H3.out.rs.frozen 3; have s4 := H3.out.rs.frozen 4))
    have H5 := Lib.hid ((H3.out.set 2 (.int .i64 (rv : Int))).all (.int .i64 p) (.int .i64 d) (.int .i64 (rv : Int)) (.int .i64 n) (.int .i64 0))
    exact bodyPost_ret (results_cell_row rfl _ _ (w.heap.size + 1) inT _ (0, 0) _ rfl H5.out.rs Tryz.underlying38 rfl (by kernel_rfl)) rfl ⟨⟨p, d, rv, n, 0⟩, rfl, by rw [HP.out, Option.isSome_map]; exact H5.out.rd, fun z hz => by
     rw [HP.out] at hz
     obtain ⟨r, hr, rfl⟩ := Option.map_eq_some_iff.1 hz
     rw [HV.out r hr]⟩
   ·have HD3 : Hid (extG q p d s ([8, 16, 32].drop (k + 1)) = extG q p d s [8, 16, 32]) := by
     rw [← HD2.out, extG, if_neg hq]
     exact rfl
    clear HD2
    by_cases q1 : begins s (signT n) = true
    ·have q2 : extendsS q n = false := by
      cases h : extendsS q n
      ·rfl
      ·exact absurd ⟨q1, h⟩ hq
     rw [q1] at CP
     rw [q2] at CX
     clear q1 q2 hq CR
     generalize signT n = sg at *
     generalize behind s sg = bh at *
     go_wp2_with (first
      | (go_at_call 104; refine (CG.out _ (HT.out _ HR.out.rd.keeps)).mono ?_; rintro e w1 ⟨rfl, hb⟩; have H1 := Lib.hid (HR.out.on hb); clear hb)
      | (go_at_call 78; refine (CP.out _).mono ?_; rintro e w2 ⟨rfl, rfl⟩)
      | (go_at_call 103; refine (CX.out _).mono ?_; rintro e w2 ⟨rfl, rfl⟩))
     go_roundw
     case rel => exact ⟨k + 1, rfl, HW.out, H1.out, HD3.out⟩
     case measure =>
      have := HW.out
      simp only [Lib.intOf]
      omega
    ·have q1' : begins s (signT n) = false := by simpa using q1
     rw [q1'] at CP
     clear q1 q1' hq CR
     generalize signT n = sg at *
     generalize behind s sg = bh at *
     go_wp2_with (first
      | (go_at_call 104; refine (CG.out _ (HT.out _ HR.out.rd.keeps)).mono ?_; rintro e w1 ⟨rfl, hb⟩; have H1 := Lib.hid (HR.out.on hb); clear hb)
      | (go_at_call 78; refine (CP.out _).mono ?_; rintro e w2 ⟨rfl, rfl⟩)
      | (go_at_call 103; refine (CX.out _).mono ?_; rintro e w2 ⟨rfl, rfl⟩))
     go_roundw
     case rel => exact ⟨k + 1, rfl, HW.out, H1.out, HD3.out⟩
     case measure =>
      have := HW.out
      simp only [Lib.intOf]
      omega
  ·have hk7 : k = 3 := by have := HK.out; omega
   subst hk7
   have HF : Hid (extG q p d s [8, 16, 32] = none) := by
    rw [← HD.out]
    exact rfl
   have g0 := HR.out.sl.cell 0; have g1 := HR.out.sl.cell 1; have g2 := HR.out.sl.cell 2; have g3 := HR.out.sl.cell 3; have g4 := HR.out.sl.cell 4
   have r0 := HR.out.rs.cell 0; have r1 := HR.out.rs.cell 1; have r2 := HR.out.rs.cell 2; have r3 := HR.out.rs.cell 3; have r4 := HR.out.rs.cell 4
   have s0 := HR.out.rs.frozen 0; have s1 := HR.out.rs.frozen 1; have s2 := HR.out.rs.frozen 2; have s3 := HR.out.rs.frozen 3; have s4 := HR.out.rs.frozen 4
   have y0 := HR.out.rd.blk.cell 0; have y1 := HR.out.rd.blk.frozen 0
   clear h7 HD HK
   go_wp2_with fail
   have H5 := Lib.hid (HR.out.wrong.all (.int .i64 p) (.int .i64 d) (.int .i64 0) (.int .i64 0) (.int .i64 0))
   exact bodyPost_ret (results_cell_row rfl _ _ (w.heap.size + 1) inT _ (0, 0) _ rfl H5.out.rs Tryz.underlying38 rfl (by kernel_rfl)) rfl ⟨⟨p, d, 0, 0, 0⟩, rfl, by rw [HF.out]; simpa using H5.out.rd, fun z hz => by rw [HF.out] at hz; cases hz⟩
end Go.Proofs.YtemiklbkfogjeaaGreatDoor
