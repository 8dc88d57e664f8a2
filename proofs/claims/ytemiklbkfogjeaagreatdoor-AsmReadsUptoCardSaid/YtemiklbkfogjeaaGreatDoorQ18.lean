/-
  Package asm, reading: a line of one slot, by how many words it has. Package asm, reading: a line of one slot, by how many words it has. Package asm, reading: a line of one slot, by how many words it has.
-/
import Derived.Test.YtemiklbkfogjeaaGreatDoorQ17
namespace Go.Proofs.YtemiklbkfogjeaaGreatDoor
open Go Go.RowKit Go.Maps
set_option linter.unusedVariables false
set_option linter.unusedSimpArgs false
set_option maxRecDepth 100000
set_option maxHeartbeats 16000000 in
theorem one1_any {w0 w : World} {y g off : Nat} {b : Bool} (a : ByteArray) (h : Rd w0 w y b g off [a]) (n cc : Nat) (hn : n = 1) (hcc : n ≤ cc) :
  Calls Tryz.prog 25 #[rp y, .slice (some ⟨g, off, none⟩) n cc] w (GivesI w y b (oneR [a])) := by
 subst hn
 have T0 := Lib.hid (TX.start h)
 have a0 : (w.alloc (.cells (inC 0 0 0 0 0) inT)).cell? ⟨g, off, none⟩ = some (.string a) := T0.out.rd.words 0 a rfl
 have b1 : (a.toList == [101, 120, 105, 116]) = sameT a exitT := same_const a [101, 120, 105, 116]
 have b2 : (a.toList == [99, 97, 108, 108]) = sameT a callT := same_const a [99, 97, 108, 108]
 have b3 : (a.toList == [103, 111, 116, 111]) = sameT a gotoT := same_const a [103, 111, 116, 111]
 have b4 : (a.toList == [105, 102]) = sameT a ifT := same_const a [105, 102]
 have b5 : (a.toList == [108, 111, 99, 107]) = sameT a lockW := same_const a [108, 111, 99, 107]
 have HB : Hid (Blk w y rdT #[.bool b]) := h.blk
 clear h
 rcases first_ways a with ⟨h1, h2, h3, h4, h5⟩ | ⟨h1, h2, h3, h4, h5⟩ | ⟨h1, h2, h3, h4, h5⟩ | ⟨h1, h2, h3, h4, h5⟩ | ⟨h1, h2, h3, h4, h5⟩ | ⟨h1, h2, h3, h4, h5⟩
 ·rw [h1] at b1
  rw [h2] at b2
  rw [h3] at b3
  rw [h4] at b4
  rw [h5] at b5
  have HG : Hid (oneR [a] = some ⟨149, 0, 0, 0, 0⟩) := by simp [Hid, oneR, h1, h2, h3, h4, h5]
  clear h1 h2 h3 h4 h5
  have r0 := T0.out.slot.cell 0; have s0 := T0.out.slot.frozen 0
  have r1 := T0.out.slot.cell 1; have s1 := T0.out.slot.frozen 1
  have r2 := T0.out.slot.cell 2; have s2 := T0.out.slot.frozen 2
  have r3 := T0.out.slot.cell 3; have s3 := T0.out.slot.frozen 3
  have r4 := T0.out.slot.cell 4; have s4 := T0.out.slot.frozen 4
  go_enter Tryz.func25, Tryz.ntmps25
  go_wp2_with fail
  exact bodyPost_ret (results_cell_row rfl _ _ w.heap.size inT _ (0, 0) _ rfl (Blk.new w inT #[.int .i64 149, .int .i64 0, .int .i64 0, .int .i64 0, .int .i64 0]) Tryz.underlying38 rfl (by kernel_rfl)) rfl ⟨⟨149, 0, 0, 0, 0⟩, rfl, by rw [HG.out]; simpa using (RD.start HB.out).on (below_alloc w _), fun z hz => by rw [HG.out] at hz; cases hz; rfl⟩
 all_goals
  rw [h1] at b1
  rw [h2] at b2
  rw [h3] at b3
  rw [h4] at b4
  rw [h5] at b5
  have HG : Hid (oneR [a] = none) := by simp [Hid, oneR, h1, h2, h3, h4, h5]
  clear h1 h2 h3 h4 h5
  have r0 := T0.out.slot.cell 0; have s0 := T0.out.slot.frozen 0
  have r1 := T0.out.slot.cell 1; have s1 := T0.out.slot.frozen 1
  have r2 := T0.out.slot.cell 2; have s2 := T0.out.slot.frozen 2
  have r3 := T0.out.slot.cell 3; have s3 := T0.out.slot.frozen 3
  have r4 := T0.out.slot.cell 4; have s4 := T0.out.slot.frozen 4
  have y0 := T0.out.rd.blk.cell 0; have y1 := T0.out.rd.blk.frozen 0
  have neyw : ¬ y = w.heap.size := fun e => by have := T0.out.hy; omega
  have newy : ¬ w.heap.size = y := fun e => by have := T0.out.hy; omega
  go_enter Tryz.func25, Tryz.ntmps25
  go_wp2_with fail
  have H9 := Lib.hid (T0.out.wrong.all (.int .i64 0) (.int .i64 0) (.int .i64 0) (.int .i64 0) (.int .i64 0))
  exact bodyPost_ret (results_cell_row rfl _ _ w.heap.size inT _ (0, 0) _ rfl H9.out.2 Tryz.underlying38 rfl (by kernel_rfl)) rfl ⟨⟨0, 0, 0, 0, 0⟩, rfl, by rw [HG.out]; simpa using H9.out.1, fun z hz => by rw [HG.out] at hz; cases hz⟩
set_option maxHeartbeats 16000000 in
theorem one2_any {w0 w : World} {y g off : Nat} {b : Bool} (a x : ByteArray) (h : Rd w0 w y b g off [a, x]) (n cc : Nat) (hn : n = 2) (hcc : n ≤ cc) :
  Calls Tryz.prog 25 #[rp y, .slice (some ⟨g, off, none⟩) n cc] w (GivesI w y b (oneR [a, x])) := by
 subst hn
 have T0 := Lib.hid (TX.start h)
 have a0 : (w.alloc (.cells (inC 0 0 0 0 0) inT)).cell? ⟨g, off, none⟩ = some (.string a) := T0.out.rd.words 0 a rfl
 have a1 := T0.out.rd.words 1 x rfl
 have CI := Lib.hid (fun w' b' (hb : Blk w' y rdT #[.bool b']) => immR_any hb x (h.small x (by simp)))
 have CF := Lib.hid (fun w' b' (hb : Blk w' y rdT #[.bool b']) => further_any hb x (h.small x (by simp)))
 have HI : Hid (∀ k, immS x = some k → (immS x).getD 0 = k) := fun k hk => by rw [hk]; rfl
 have HFV : Hid (∀ f, furtherS x = some f → furtherV x = f) := fun f => far_val
 have b1 : (a.toList == [101, 120, 105, 116]) = sameT a exitT := same_const a [101, 120, 105, 116]
 have b2 : (a.toList == [99, 97, 108, 108]) = sameT a callT := same_const a [99, 97, 108, 108]
 have b3 : (a.toList == [103, 111, 116, 111]) = sameT a gotoT := same_const a [103, 111, 116, 111]
 have b4 : (a.toList == [105, 102]) = sameT a ifT := same_const a [105, 102]
 have b5 : (a.toList == [108, 111, 99, 107]) = sameT a lockW := same_const a [108, 111, 99, 107]
 have HB : Hid (Blk w y rdT #[.bool b]) := h.blk
 clear h
 rcases first_ways a with ⟨h1, h2, h3, h4, h5⟩ | ⟨h1, h2, h3, h4, h5⟩ | ⟨h1, h2, h3, h4, h5⟩ | ⟨h1, h2, h3, h4, h5⟩ | ⟨h1, h2, h3, h4, h5⟩ | ⟨h1, h2, h3, h4, h5⟩
 rotate_left 1
 ·rw [h1] at b1
  rw [h2] at b2
  rw [h3] at b3
  rw [h4] at b4
  rw [h5] at b5
  have HG : Hid (oneR [a, x] = (immS x).map fun m => (⟨133, 0, 0, 0, m⟩ : Slot)) := by simp [Hid, oneR, h1, h2, h3, h4, h5]
  clear h1 h2 h3 h4 h5
  generalize (immS x).getD 0 = v at *
  generalize immS x = im at *
  go_enter Tryz.func25, Tryz.ntmps25
  go_wp2_with (first | (go_at_call 54; refine (CI.out _ _ T0.out.rd.blk).mono ?_; rintro e w1 ⟨rfl, hr⟩; have T1 := Lib.hid (T0.out.mark hr); clear hr; have r0 := T1.out.slot.cell 0; have s0 := T1.out.slot.frozen 0; have r1 := T1.out.slot.cell 1; have s1 := T1.out.slot.frozen 1; have r2 := T1.out.slot.cell 2; have s2 := T1.out.slot.frozen 2; have r3 := T1.out.slot.cell 3; have s3 := T1.out.slot.frozen 3; have r4 := T1.out.slot.cell 4; have s4 := T1.out.slot.frozen 4))
  have H9 := Lib.hid (T1.out.all (.int .i64 133) (.int .i64 0) (.int .i64 0) (.int .i64 0) (.int .i64 v))
  exact bodyPost_ret (results_cell_row rfl _ _ w.heap.size inT _ (0, 0) _ rfl H9.out.2 Tryz.underlying38 rfl (by kernel_rfl)) rfl ⟨⟨133, 0, 0, 0, v⟩, rfl, by rw [HG.out, Option.isSome_map]; exact H9.out.1, fun z hz => by
   rw [HG.out] at hz
   obtain ⟨k, hk, rfl⟩ := Option.map_eq_some_iff.1 hz
   rw [HI.out k hk]⟩
 ·rw [h1] at b1
  rw [h2] at b2
  rw [h3] at b3
  rw [h4] at b4
  rw [h5] at b5
  have HG : Hid (oneR [a, x] = (furtherS x).map fun f => (⟨5, 0, 0, f, 0⟩ : Slot)) := by simp [Hid, oneR, h1, h2, h3, h4, h5]
  clear h1 h2 h3 h4 h5
  generalize furtherV x = v at *
  generalize furtherS x = im at *
  go_enter Tryz.func25, Tryz.ntmps25
  go_wp2_with (first | (go_at_call 55; refine (CF.out _ _ T0.out.rd.blk).mono ?_; rintro e w1 ⟨rfl, hr⟩; have T1 := Lib.hid (T0.out.mark hr); clear hr; have r0 := T1.out.slot.cell 0; have s0 := T1.out.slot.frozen 0; have r1 := T1.out.slot.cell 1; have s1 := T1.out.slot.frozen 1; have r2 := T1.out.slot.cell 2; have s2 := T1.out.slot.frozen 2; have r3 := T1.out.slot.cell 3; have s3 := T1.out.slot.frozen 3; have r4 := T1.out.slot.cell 4; have s4 := T1.out.slot.frozen 4))
  have H9 := Lib.hid (T1.out.all (.int .i64 5) (.int .i64 0) (.int .i64 0) (.int .i64 v) (.int .i64 0))
  exact bodyPost_ret (results_cell_row rfl _ _ w.heap.size inT _ (0, 0) _ rfl H9.out.2 Tryz.underlying38 rfl (by kernel_rfl)) rfl ⟨⟨5, 0, 0, v, 0⟩, rfl, by rw [HG.out, Option.isSome_map]; exact H9.out.1, fun z hz => by
   rw [HG.out] at hz
   obtain ⟨k, hk, rfl⟩ := Option.map_eq_some_iff.1 hz
   rw [HFV.out k hk]⟩
 all_goals
  rw [h1] at b1
  rw [h2] at b2
  rw [h3] at b3
  rw [h4] at b4
  rw [h5] at b5
  have HG : Hid (oneR [a, x] = none) := by simp [Hid, oneR, h1, h2, h3, h4, h5]
  clear h1 h2 h3 h4 h5
  have r0 := T0.out.slot.cell 0; have s0 := T0.out.slot.frozen 0
  have r1 := T0.out.slot.cell 1; have s1 := T0.out.slot.frozen 1
  have r2 := T0.out.slot.cell 2; have s2 := T0.out.slot.frozen 2
  have r3 := T0.out.slot.cell 3; have s3 := T0.out.slot.frozen 3
  have r4 := T0.out.slot.cell 4; have s4 := T0.out.slot.frozen 4
  have y0 := T0.out.rd.blk.cell 0; have y1 := T0.out.rd.blk.frozen 0
  have neyw : ¬ y = w.heap.size := fun e => by have := T0.out.hy; omega
  have newy : ¬ w.heap.size = y := fun e => by have := T0.out.hy; omega
  go_enter Tryz.func25, Tryz.ntmps25
  go_wp2_with fail
  have H9 := Lib.hid (T0.out.wrong.all (.int .i64 0) (.int .i64 0) (.int .i64 0) (.int .i64 0) (.int .i64 0))
  exact bodyPost_ret (results_cell_row rfl _ _ w.heap.size inT _ (0, 0) _ rfl H9.out.2 Tryz.underlying38 rfl (by kernel_rfl)) rfl ⟨⟨0, 0, 0, 0, 0⟩, rfl, by rw [HG.out]; simpa using H9.out.1, fun z hz => by rw [HG.out] at hz; cases hz⟩
set_option maxHeartbeats 16000000 in
theorem one3_any {w0 w : World} {y g off : Nat} {b : Bool} (a m c : ByteArray) (h : Rd w0 w y b g off [a, m, c]) (n cc : Nat) (hn : n = 3) (hcc : n ≤ cc) :
  Calls Tryz.prog 25 #[rp y, .slice (some ⟨g, off, none⟩) n cc] w (GivesI w y b (oneR [a, m, c])) := by
 subst hn
 have T0 := Lib.hid (TX.start h)
 have a0 : (w.alloc (.cells (inC 0 0 0 0 0) inT)).cell? ⟨g, off, none⟩ = some (.string a) := T0.out.rd.words 0 a rfl
 have C := Lib.hid (aluR_any a m c T0.out.rd 3 cc rfl)
 have b1 : (a.toList == [101, 120, 105, 116]) = sameT a exitT := same_const a [101, 120, 105, 116]
 have b2 : (a.toList == [99, 97, 108, 108]) = sameT a callT := same_const a [99, 97, 108, 108]
 have b3 : (a.toList == [103, 111, 116, 111]) = sameT a gotoT := same_const a [103, 111, 116, 111]
 have b4 : (a.toList == [105, 102]) = sameT a ifT := same_const a [105, 102]
 have b5 : (a.toList == [108, 111, 99, 107]) = sameT a lockW := same_const a [108, 111, 99, 107]
 have HB : Hid (Blk w y rdT #[.bool b]) := h.blk
 clear h
 rcases first_ways a with ⟨h1, h2, h3, h4, h5⟩ | ⟨h1, h2, h3, h4, h5⟩ | ⟨h1, h2, h3, h4, h5⟩ | ⟨h1, h2, h3, h4, h5⟩ | ⟨h1, h2, h3, h4, h5⟩ | ⟨h1, h2, h3, h4, h5⟩
 all_goals
  rw [h1] at b1
  rw [h2] at b2
  rw [h3] at b3
  rw [h4] at b4
  rw [h5] at b5
  have HG : Hid (oneR [a, m, c] = aluR a m c) := by simp [Hid, oneR, h1, h2, h3, h4, h5]
  clear h1 h2 h3 h4 h5
  generalize aluR a m c = tR at *
  go_enter Tryz.func25, Tryz.ntmps25
  go_wp2_with (first | (go_at_call 58; refine C.out.mono ?_; rintro e w1 ⟨⟨o, d, s', f', m'⟩, rfl, hr, hx⟩; have T1 := Lib.hid (T0.out.mark hr); have HX := Lib.hid hx; clear hr hx; simp only; have r0 := T1.out.slot.cell 0; have s0 := T1.out.slot.frozen 0; have r1 := T1.out.slot.cell 1; have s1 := T1.out.slot.frozen 1; have r2 := T1.out.slot.cell 2; have s2 := T1.out.slot.frozen 2; have r3 := T1.out.slot.cell 3; have s3 := T1.out.slot.frozen 3; have r4 := T1.out.slot.cell 4; have s4 := T1.out.slot.frozen 4))
  have H9 := Lib.hid (T1.out.all (.int .i64 o) (.int .i64 d) (.int .i64 s') (.int .i64 f') (.int .i64 m'))
  exact bodyPost_ret (results_cell_row rfl _ _ w.heap.size inT _ (0, 0) _ rfl H9.out.2 Tryz.underlying38 rfl (by kernel_rfl)) rfl ⟨⟨o, d, s', f', m'⟩, rfl, by rw [HG.out]; exact H9.out.1, by rw [HG.out]; exact HX.out⟩
set_option maxHeartbeats 16000000 in
theorem one4_any {w0 w : World} {y g off : Nat} {b : Bool} (a m c t : ByteArray) (h : Rd w0 w y b g off [a, m, c, t]) (n cc : Nat) (hn : n = 4) (hcc : n ≤ cc) :
  Calls Tryz.prog 25 #[rp y, .slice (some ⟨g, off, none⟩) n cc] w (GivesI w y b (oneR [a, m, c, t])) := by
 subst hn
 have T0 := Lib.hid (TX.start h)
 have a0 : (w.alloc (.cells (inC 0 0 0 0 0) inT)).cell? ⟨g, off, none⟩ = some (.string a) := T0.out.rd.words 0 a rfl
 have C := Lib.hid (turnR_any a m c t T0.out.rd 4 cc rfl)
 have b1 : (a.toList == [101, 120, 105, 116]) = sameT a exitT := same_const a [101, 120, 105, 116]
 have b2 : (a.toList == [99, 97, 108, 108]) = sameT a callT := same_const a [99, 97, 108, 108]
 have b3 : (a.toList == [103, 111, 116, 111]) = sameT a gotoT := same_const a [103, 111, 116, 111]
 have b4 : (a.toList == [105, 102]) = sameT a ifT := same_const a [105, 102]
 have b5 : (a.toList == [108, 111, 99, 107]) = sameT a lockW := same_const a [108, 111, 99, 107]
 have HB : Hid (Blk w y rdT #[.bool b]) := h.blk
 clear h
 rcases first_ways a with ⟨h1, h2, h3, h4, h5⟩ | ⟨h1, h2, h3, h4, h5⟩ | ⟨h1, h2, h3, h4, h5⟩ | ⟨h1, h2, h3, h4, h5⟩ | ⟨h1, h2, h3, h4, h5⟩ | ⟨h1, h2, h3, h4, h5⟩
 all_goals
  rw [h1] at b1
  rw [h2] at b2
  rw [h3] at b3
  rw [h4] at b4
  rw [h5] at b5
  have HG : Hid (oneR [a, m, c, t] = turnR a m c t) := by simp [Hid, oneR, h1, h2, h3, h4, h5]
  clear h1 h2 h3 h4 h5
  generalize turnR a m c t = tR at *
  go_enter Tryz.func25, Tryz.ntmps25
  go_wp2_with (first | (go_at_call 59; refine C.out.mono ?_; rintro e w1 ⟨⟨o, d, s', f', m'⟩, rfl, hr, hx⟩; have T1 := Lib.hid (T0.out.mark hr); have HX := Lib.hid hx; clear hr hx; simp only; have r0 := T1.out.slot.cell 0; have s0 := T1.out.slot.frozen 0; have r1 := T1.out.slot.cell 1; have s1 := T1.out.slot.frozen 1; have r2 := T1.out.slot.cell 2; have s2 := T1.out.slot.frozen 2; have r3 := T1.out.slot.cell 3; have s3 := T1.out.slot.frozen 3; have r4 := T1.out.slot.cell 4; have s4 := T1.out.slot.frozen 4))
  have H9 := Lib.hid (T1.out.all (.int .i64 o) (.int .i64 d) (.int .i64 s') (.int .i64 f') (.int .i64 m'))
  exact bodyPost_ret (results_cell_row rfl _ _ w.heap.size inT _ (0, 0) _ rfl H9.out.2 Tryz.underlying38 rfl (by kernel_rfl)) rfl ⟨⟨o, d, s', f', m'⟩, rfl, by rw [HG.out]; exact H9.out.1, by rw [HG.out]; exact HX.out⟩
set_option maxHeartbeats 16000000 in
theorem one5_any {w0 w : World} {y g off : Nat} {b : Bool} (a m c t v : ByteArray) (h : Rd w0 w y b g off [a, m, c, t, v]) (n cc : Nat) (hn : n = 5) (hcc : n ≤ cc) :
  Calls Tryz.prog 25 #[rp y, .slice (some ⟨g, off, none⟩) n cc] w (GivesI w y b (oneR [a, m, c, t, v])) := by
 subst hn
 have T0 := Lib.hid (TX.start h)
 have a0 : (w.alloc (.cells (inC 0 0 0 0 0) inT)).cell? ⟨g, off, none⟩ = some (.string a) := T0.out.rd.words 0 a rfl
 have b1 : (a.toList == [101, 120, 105, 116]) = sameT a exitT := same_const a [101, 120, 105, 116]
 have b2 : (a.toList == [99, 97, 108, 108]) = sameT a callT := same_const a [99, 97, 108, 108]
 have b3 : (a.toList == [103, 111, 116, 111]) = sameT a gotoT := same_const a [103, 111, 116, 111]
 have b4 : (a.toList == [105, 102]) = sameT a ifT := same_const a [105, 102]
 have b5 : (a.toList == [108, 111, 99, 107]) = sameT a lockW := same_const a [108, 111, 99, 107]
 have HB : Hid (Blk w y rdT #[.bool b]) := h.blk
 clear h
 rcases first_ways a with ⟨h1, h2, h3, h4, h5⟩ | ⟨h1, h2, h3, h4, h5⟩ | ⟨h1, h2, h3, h4, h5⟩ | ⟨h1, h2, h3, h4, h5⟩ | ⟨h1, h2, h3, h4, h5⟩ | ⟨h1, h2, h3, h4, h5⟩
 all_goals
  rw [h1] at b1
  rw [h2] at b2
  rw [h3] at b3
  rw [h4] at b4
  rw [h5] at b5
  have HG : Hid (oneR [a, m, c, t, v] = none) := by simp [Hid, oneR, h1, h2, h3, h4, h5]
  clear h1 h2 h3 h4 h5
  have r0 := T0.out.slot.cell 0; have s0 := T0.out.slot.frozen 0
  have r1 := T0.out.slot.cell 1; have s1 := T0.out.slot.frozen 1
  have r2 := T0.out.slot.cell 2; have s2 := T0.out.slot.frozen 2
  have r3 := T0.out.slot.cell 3; have s3 := T0.out.slot.frozen 3
  have r4 := T0.out.slot.cell 4; have s4 := T0.out.slot.frozen 4
  have y0 := T0.out.rd.blk.cell 0; have y1 := T0.out.rd.blk.frozen 0
  have neyw : ¬ y = w.heap.size := fun e => by have := T0.out.hy; omega
  have newy : ¬ w.heap.size = y := fun e => by have := T0.out.hy; omega
  go_enter Tryz.func25, Tryz.ntmps25
  go_wp2_with fail
  have H9 := Lib.hid (T0.out.wrong.all (.int .i64 0) (.int .i64 0) (.int .i64 0) (.int .i64 0) (.int .i64 0))
  exact bodyPost_ret (results_cell_row rfl _ _ w.heap.size inT _ (0, 0) _ rfl H9.out.2 Tryz.underlying38 rfl (by kernel_rfl)) rfl ⟨⟨0, 0, 0, 0, 0⟩, rfl, by rw [HG.out]; simpa using H9.out.1, fun z hz => by rw [HG.out] at hz; cases hz⟩
set_option maxHeartbeats 16000000 in
theorem one6_any {w0 w : World} {y g off : Nat} {b : Bool} (a m p0 p1 p2 p3 : ByteArray) (h : Rd w0 w y b g off [a, m, p0, p1, p2, p3]) (n cc : Nat) (hn : n = 6) (hcc : n ≤ cc) :
  Calls Tryz.prog 25 #[rp y, .slice (some ⟨g, off, none⟩) n cc] w (GivesI w y b (oneR [a, m, p0, p1, p2, p3])) := by
 subst hn
 have T0 := Lib.hid (TX.start h)
 have a0 : (w.alloc (.cells (inC 0 0 0 0 0) inT)).cell? ⟨g, off, none⟩ = some (.string a) := T0.out.rd.words 0 a rfl
 have a1 := T0.out.rd.words 1 m rfl
 have bq : (m.toList == [61]) = sameT m eqT := same_const m [61]
 have CJ := Lib.hid (jumpR_any a m p0 p1 p2 p3 T0.out.rd 6 cc rfl)
 have CL := Lib.hid (loadR_any a m p0 p1 p2 p3 T0.out.rd 6 cc rfl hcc)
 have CS := Lib.hid (storeR_any a m p0 p1 p2 p3 T0.out.rd 6 cc rfl)
 have b1 : (a.toList == [101, 120, 105, 116]) = sameT a exitT := same_const a [101, 120, 105, 116]
 have b2 : (a.toList == [99, 97, 108, 108]) = sameT a callT := same_const a [99, 97, 108, 108]
 have b3 : (a.toList == [103, 111, 116, 111]) = sameT a gotoT := same_const a [103, 111, 116, 111]
 have b4 : (a.toList == [105, 102]) = sameT a ifT := same_const a [105, 102]
 have b5 : (a.toList == [108, 111, 99, 107]) = sameT a lockW := same_const a [108, 111, 99, 107]
 have HB : Hid (Blk w y rdT #[.bool b]) := h.blk
 clear h
 rcases first_ways a with ⟨h1, h2, h3, h4, h5⟩ | ⟨h1, h2, h3, h4, h5⟩ | ⟨h1, h2, h3, h4, h5⟩ | ⟨h1, h2, h3, h4, h5⟩ | ⟨h1, h2, h3, h4, h5⟩ | ⟨h1, h2, h3, h4, h5⟩
 rotate_left 3
 ·rw [h1] at b1
  rw [h2] at b2
  rw [h3] at b3
  rw [h4] at b4
  rw [h5] at b5
  have HG : Hid (oneR [a, m, p0, p1, p2, p3] = jumpR m p0 p1 p2 p3) := by simp [Hid, oneR, h1, h2, h3, h4, h5]
  clear h1 h2 h3 h4 h5
  generalize jumpR m p0 p1 p2 p3 = tR at *
  go_enter Tryz.func25, Tryz.ntmps25
  go_wp2_with (first | (go_at_call 56; refine CJ.out.mono ?_; rintro e w1 ⟨⟨o, d, s', f', m'⟩, rfl, hr, hx⟩; have T1 := Lib.hid (T0.out.mark hr); have HX := Lib.hid hx; clear hr hx; simp only; have r0 := T1.out.slot.cell 0; have s0 := T1.out.slot.frozen 0; have r1 := T1.out.slot.cell 1; have s1 := T1.out.slot.frozen 1; have r2 := T1.out.slot.cell 2; have s2 := T1.out.slot.frozen 2; have r3 := T1.out.slot.cell 3; have s3 := T1.out.slot.frozen 3; have r4 := T1.out.slot.cell 4; have s4 := T1.out.slot.frozen 4))
  have H9 := Lib.hid (T1.out.all (.int .i64 o) (.int .i64 d) (.int .i64 s') (.int .i64 f') (.int .i64 m'))
  exact bodyPost_ret (results_cell_row rfl _ _ w.heap.size inT _ (0, 0) _ rfl H9.out.2 Tryz.underlying38 rfl (by kernel_rfl)) rfl ⟨⟨o, d, s', f', m'⟩, rfl, by rw [HG.out]; exact H9.out.1, by rw [HG.out]; exact HX.out⟩
 all_goals
  rw [h1] at b1
  rw [h2] at b2
  rw [h3] at b3
  rw [h4] at b4
  rw [h5] at b5
  by_cases hm : sameT m eqT = true
  ·have HG : Hid (oneR [a, m, p0, p1, p2, p3] = loadR a p0 p1 p2 p3) := by simp [Hid, oneR, h4, hm]
   rw [hm] at bq
   clear h1 h2 h3 h4 h5 hm
   generalize loadR a p0 p1 p2 p3 = tR at *
   go_enter Tryz.func25, Tryz.ntmps25
   go_wp2_with (first | (go_at_call 60; refine CL.out.mono ?_; rintro e w1 ⟨⟨o, d, s', f', m'⟩, rfl, hr, hx⟩; have T1 := Lib.hid (T0.out.mark hr); have HX := Lib.hid hx; clear hr hx; simp only; have r0 := T1.out.slot.cell 0; have s0 := T1.out.slot.frozen 0; have r1 := T1.out.slot.cell 1; have s1 := T1.out.slot.frozen 1; have r2 := T1.out.slot.cell 2; have s2 := T1.out.slot.frozen 2; have r3 := T1.out.slot.cell 3; have s3 := T1.out.slot.frozen 3; have r4 := T1.out.slot.cell 4; have s4 := T1.out.slot.frozen 4))
   have H9 := Lib.hid (T1.out.all (.int .i64 o) (.int .i64 d) (.int .i64 s') (.int .i64 f') (.int .i64 m'))
   exact bodyPost_ret (results_cell_row rfl _ _ w.heap.size inT _ (0, 0) _ rfl H9.out.2 Tryz.underlying38 rfl (by kernel_rfl)) rfl ⟨⟨o, d, s', f', m'⟩, rfl, by rw [HG.out]; exact H9.out.1, by rw [HG.out]; exact HX.out⟩
  ·have hm' : sameT m eqT = false := by simpa using hm
   have HG : Hid (oneR [a, m, p0, p1, p2, p3] = storeR a m p0 p1 p2 p3) := by simp [Hid, oneR, h4, hm']
   rw [hm'] at bq
   clear h1 h2 h3 h4 h5 hm hm'
   generalize storeR a m p0 p1 p2 p3 = tR at *
   go_enter Tryz.func25, Tryz.ntmps25
   go_wp2_with (first | (go_at_call 61; refine CS.out.mono ?_; rintro e w1 ⟨⟨o, d, s', f', m'⟩, rfl, hr, hx⟩; have T1 := Lib.hid (T0.out.mark hr); have HX := Lib.hid hx; clear hr hx; simp only; have r0 := T1.out.slot.cell 0; have s0 := T1.out.slot.frozen 0; have r1 := T1.out.slot.cell 1; have s1 := T1.out.slot.frozen 1; have r2 := T1.out.slot.cell 2; have s2 := T1.out.slot.frozen 2; have r3 := T1.out.slot.cell 3; have s3 := T1.out.slot.frozen 3; have r4 := T1.out.slot.cell 4; have s4 := T1.out.slot.frozen 4))
   have H9 := Lib.hid (T1.out.all (.int .i64 o) (.int .i64 d) (.int .i64 s') (.int .i64 f') (.int .i64 m'))
   exact bodyPost_ret (results_cell_row rfl _ _ w.heap.size inT _ (0, 0) _ rfl H9.out.2 Tryz.underlying38 rfl (by kernel_rfl)) rfl ⟨⟨o, d, s', f', m'⟩, rfl, by rw [HG.out]; exact H9.out.1, by rw [HG.out]; exact HX.out⟩
set_option maxHeartbeats 16000000 in
theorem one7_any {w0 w : World} {y g off : Nat} {b : Bool} (a p0 p1 p2 p3 k s : ByteArray) (h : Rd w0 w y b g off [a, p0, p1, p2, p3, k, s]) (n cc : Nat) (hn : n = 7) (hcc : n ≤ cc) :
  Calls Tryz.prog 25 #[rp y, .slice (some ⟨g, off, none⟩) n cc] w (GivesI w y b (oneR [a, p0, p1, p2, p3, k, s])) := by
 subst hn
 have T0 := Lib.hid (TX.start h)
 have a0 : (w.alloc (.cells (inC 0 0 0 0 0) inT)).cell? ⟨g, off, none⟩ = some (.string a) := T0.out.rd.words 0 a rfl
 have C := Lib.hid (lockR7_any a p0 p1 p2 p3 k s T0.out.rd 7 cc rfl hcc)
 have b1 : (a.toList == [101, 120, 105, 116]) = sameT a exitT := same_const a [101, 120, 105, 116]
 have b2 : (a.toList == [99, 97, 108, 108]) = sameT a callT := same_const a [99, 97, 108, 108]
 have b3 : (a.toList == [103, 111, 116, 111]) = sameT a gotoT := same_const a [103, 111, 116, 111]
 have b4 : (a.toList == [105, 102]) = sameT a ifT := same_const a [105, 102]
 have b5 : (a.toList == [108, 111, 99, 107]) = sameT a lockW := same_const a [108, 111, 99, 107]
 have HB : Hid (Blk w y rdT #[.bool b]) := h.blk
 clear h
 rcases first_ways a with ⟨h1, h2, h3, h4, h5⟩ | ⟨h1, h2, h3, h4, h5⟩ | ⟨h1, h2, h3, h4, h5⟩ | ⟨h1, h2, h3, h4, h5⟩ | ⟨h1, h2, h3, h4, h5⟩ | ⟨h1, h2, h3, h4, h5⟩
 rotate_left 4
 ·rw [h1] at b1
  rw [h2] at b2
  rw [h3] at b3
  rw [h4] at b4
  rw [h5] at b5
  have HG : Hid (oneR [a, p0, p1, p2, p3, k, s] = lockR p0 p1 p2 p3 k s none) := by simp [Hid, oneR, h1, h2, h3, h4, h5]
  clear h1 h2 h3 h4 h5
  generalize lockR p0 p1 p2 p3 k s none = tR at *
  go_enter Tryz.func25, Tryz.ntmps25
  go_wp2_with (first | (go_at_call 57; refine C.out.mono ?_; rintro e w1 ⟨⟨o, d, s', f', m'⟩, rfl, hr, hx⟩; have T1 := Lib.hid (T0.out.mark hr); have HX := Lib.hid hx; clear hr hx; simp only; have r0 := T1.out.slot.cell 0; have s0 := T1.out.slot.frozen 0; have r1 := T1.out.slot.cell 1; have s1 := T1.out.slot.frozen 1; have r2 := T1.out.slot.cell 2; have s2 := T1.out.slot.frozen 2; have r3 := T1.out.slot.cell 3; have s3 := T1.out.slot.frozen 3; have r4 := T1.out.slot.cell 4; have s4 := T1.out.slot.frozen 4))
  have H9 := Lib.hid (T1.out.all (.int .i64 o) (.int .i64 d) (.int .i64 s') (.int .i64 f') (.int .i64 m'))
  exact bodyPost_ret (results_cell_row rfl _ _ w.heap.size inT _ (0, 0) _ rfl H9.out.2 Tryz.underlying38 rfl (by kernel_rfl)) rfl ⟨⟨o, d, s', f', m'⟩, rfl, by rw [HG.out]; exact H9.out.1, by rw [HG.out]; exact HX.out⟩
 all_goals
  rw [h1] at b1
  rw [h2] at b2
  rw [h3] at b3
  rw [h4] at b4
  rw [h5] at b5
  have HG : Hid (oneR [a, p0, p1, p2, p3, k, s] = none) := by simp [Hid, oneR, h1, h2, h3, h4, h5]
  clear h1 h2 h3 h4 h5
  have r0 := T0.out.slot.cell 0; have s0 := T0.out.slot.frozen 0
  have r1 := T0.out.slot.cell 1; have s1 := T0.out.slot.frozen 1
  have r2 := T0.out.slot.cell 2; have s2 := T0.out.slot.frozen 2
  have r3 := T0.out.slot.cell 3; have s3 := T0.out.slot.frozen 3
  have r4 := T0.out.slot.cell 4; have s4 := T0.out.slot.frozen 4
  have y0 := T0.out.rd.blk.cell 0; have y1 := T0.out.rd.blk.frozen 0
  have neyw : ¬ y = w.heap.size := fun e => by have := T0.out.hy; omega
  have newy : ¬ w.heap.size = y := fun e => by have := T0.out.hy; omega
  go_enter Tryz.func25, Tryz.ntmps25
  go_wp2_with fail
  have H9 := Lib.hid (T0.out.wrong.all (.int .i64 0) (.int .i64 0) (.int .i64 0) (.int .i64 0) (.int .i64 0))
  exact bodyPost_ret (results_cell_row rfl _ _ w.heap.size inT _ (0, 0) _ rfl H9.out.2 Tryz.underlying38 rfl (by kernel_rfl)) rfl ⟨⟨0, 0, 0, 0, 0⟩, rfl, by rw [HG.out]; simpa using H9.out.1, fun z hz => by rw [HG.out] at hz; cases hz⟩
set_option maxHeartbeats 16000000 in
theorem one8_any {w0 w : World} {y g off : Nat} {b : Bool} (a p0 p1 p2 p3 k s f : ByteArray) (h : Rd w0 w y b g off [a, p0, p1, p2, p3, k, s, f]) (n cc : Nat) (hn : n = 8) (hcc : n ≤ cc) :
  Calls Tryz.prog 25 #[rp y, .slice (some ⟨g, off, none⟩) n cc] w (GivesI w y b (oneR [a, p0, p1, p2, p3, k, s, f])) := by
 subst hn
 have T0 := Lib.hid (TX.start h)
 have a0 : (w.alloc (.cells (inC 0 0 0 0 0) inT)).cell? ⟨g, off, none⟩ = some (.string a) := T0.out.rd.words 0 a rfl
 have C := Lib.hid (lockR8_any a p0 p1 p2 p3 k s f T0.out.rd 8 cc rfl hcc)
 have b1 : (a.toList == [101, 120, 105, 116]) = sameT a exitT := same_const a [101, 120, 105, 116]
 have b2 : (a.toList == [99, 97, 108, 108]) = sameT a callT := same_const a [99, 97, 108, 108]
 have b3 : (a.toList == [103, 111, 116, 111]) = sameT a gotoT := same_const a [103, 111, 116, 111]
 have b4 : (a.toList == [105, 102]) = sameT a ifT := same_const a [105, 102]
 have b5 : (a.toList == [108, 111, 99, 107]) = sameT a lockW := same_const a [108, 111, 99, 107]
 have HB : Hid (Blk w y rdT #[.bool b]) := h.blk
 clear h
 rcases first_ways a with ⟨h1, h2, h3, h4, h5⟩ | ⟨h1, h2, h3, h4, h5⟩ | ⟨h1, h2, h3, h4, h5⟩ | ⟨h1, h2, h3, h4, h5⟩ | ⟨h1, h2, h3, h4, h5⟩ | ⟨h1, h2, h3, h4, h5⟩
 rotate_left 4
 ·rw [h1] at b1
  rw [h2] at b2
  rw [h3] at b3
  rw [h4] at b4
  rw [h5] at b5
  have HG : Hid (oneR [a, p0, p1, p2, p3, k, s, f] = lockR p0 p1 p2 p3 k s (some f)) := by simp [Hid, oneR, h1, h2, h3, h4, h5]
  clear h1 h2 h3 h4 h5
  generalize lockR p0 p1 p2 p3 k s (some f) = tR at *
  go_enter Tryz.func25, Tryz.ntmps25
  go_wp2_with (first | (go_at_call 57; refine C.out.mono ?_; rintro e w1 ⟨⟨o, d, s', f', m'⟩, rfl, hr, hx⟩; have T1 := Lib.hid (T0.out.mark hr); have HX := Lib.hid hx; clear hr hx; simp only; have r0 := T1.out.slot.cell 0; have s0 := T1.out.slot.frozen 0; have r1 := T1.out.slot.cell 1; have s1 := T1.out.slot.frozen 1; have r2 := T1.out.slot.cell 2; have s2 := T1.out.slot.frozen 2; have r3 := T1.out.slot.cell 3; have s3 := T1.out.slot.frozen 3; have r4 := T1.out.slot.cell 4; have s4 := T1.out.slot.frozen 4))
  have H9 := Lib.hid (T1.out.all (.int .i64 o) (.int .i64 d) (.int .i64 s') (.int .i64 f') (.int .i64 m'))
  exact bodyPost_ret (results_cell_row rfl _ _ w.heap.size inT _ (0, 0) _ rfl H9.out.2 Tryz.underlying38 rfl (by kernel_rfl)) rfl ⟨⟨o, d, s', f', m'⟩, rfl, by rw [HG.out]; exact H9.out.1, by rw [HG.out]; exact HX.out⟩
 all_goals
  rw [h1] at b1
  rw [h2] at b2
  rw [h3] at b3
  rw [h4] at b4
  rw [h5] at b5
  have HG : Hid (oneR [a, p0, p1, p2, p3, k, s, f] = none) := by simp [Hid, oneR, h1, h2, h3, h4, h5]
  clear h1 h2 h3 h4 h5
  have r0 := T0.out.slot.cell 0; have s0 := T0.out.slot.frozen 0
  have r1 := T0.out.slot.cell 1; have s1 := T0.out.slot.frozen 1
  have r2 := T0.out.slot.cell 2; have s2 := T0.out.slot.frozen 2
  have r3 := T0.out.slot.cell 3; have s3 := T0.out.slot.frozen 3
  have r4 := T0.out.slot.cell 4; have s4 := T0.out.slot.frozen 4
  have y0 := T0.out.rd.blk.cell 0; have y1 := T0.out.rd.blk.frozen 0
  have neyw : ¬ y = w.heap.size := fun e => by have := T0.out.hy; omega
  have newy : ¬ w.heap.size = y := fun e => by have := T0.out.hy; omega
  go_enter Tryz.func25, Tryz.ntmps25
  go_wp2_with fail
  have H9 := Lib.hid (T0.out.wrong.all (.int .i64 0) (.int .i64 0) (.int .i64 0) (.int .i64 0) (.int .i64 0))
  exact bodyPost_ret (results_cell_row rfl _ _ w.heap.size inT _ (0, 0) _ rfl H9.out.2 Tryz.underlying38 rfl (by kernel_rfl)) rfl ⟨⟨0, 0, 0, 0, 0⟩, rfl, by rw [HG.out]; simpa using H9.out.1, fun z hz => by rw [HG.out] at hz; cases hz⟩
end Go.Proofs.YtemiklbkfogjeaaGreatDoor
