/-
  Layer 14: one deed on both tables: the same answer, and both hold the same afterwards.
-/
import Derived.Test.YtmohbdbofehamaaONone
namespace Go.Proofs.Ytmohbdbofehamaa
open Go Go.RowKit Go.Maps OSt
set_option linter.unusedVariables false
set_option linter.unusedSimpArgs false
set_option maxRecDepth 100000
/-- Deed d stands at D. -/
def DeedAt (W : World) (D : Nat) (kd n m : Int) (p : ByteArray) : Prop := Blk W D deedT (deedC kd n m p)
theorem DeedAt.cells {W : World} {D : Nat} {kd n m : Int} {p : ByteArray} (h : DeedAt W D kd n m p) : W.cell? ⟨D, 0, none⟩ = some (.int .i64 kd) ∧ W.cell? ⟨D, 1, none⟩ = some (.int .i64 n) ∧ W.cell? ⟨D, 3, none⟩ = some (.string p) := ⟨h.cell 0, h.cell 1, h.cell 3⟩
theorem ints_nil (W : World) : Calls Try.prog 9 #[.slice none 0 0, .slice none 0 0] W fun e w' => e = .returned (.bool true) ∧ Keeps (fun _ => False) W w' := ints_same (A := none) (B := none) (L := []) (c := 0) (d := 0) (b1 := 0) (b2 := 0) (RowI.nil _ _ _) (RowI.nil _ _ _) (by decide)
theorem dead_le (s : OSt) (id : Nat) : (s.dead id).length ≤ 1 := by unfold dead; split <;> simp
theorem closeL_le (s : OSt) (fd : Int) : (closeL s fd).length ≤ 1000000 := by unfold closeL; split; simp; exact Nat.le_trans (dead_le _ _) (by decide)
theorem dropL_le (s : OSt) (j : Int) : (dropL s j).length ≤ 1000000 := by unfold dropL; split; exact Nat.le_trans (dead_le _ _) (by decide); simp
theorem unpinL_le (s : OSt) (p : ByteArray) : (unpinL s p).length ≤ 1000000 := by unfold unpinL; split; exact Nat.le_trans (dead_le _ _) (by decide); simp
/-- What a deed leaves. -/
def DoPost (B : Nat) (w0 : World) (x y n : Nat) (w' : World) : Prop := ∃ s', OOk (n + 1) s' ∧ BothO B w0 x y s' s' w'
section
variable {B x y n : Nat} {w0 w : World} {s : OSt}
set_option maxHeartbeats 2000000 in
theorem do0_any (h : BothO B w0 x y s s w) (ho : OOk n s) (hn : n ≤ 100000) (N M : Int) (p : ByteArray) (hp : p.size ≤ maxLen) (hN : -9223372036854775808 ≤ N ∧ N ≤ 9223372036854775807) :
    Calls Try.prog 8 #[tp x, tp y, .agg (deedC 0 N M p)] w fun e w' => e = .returned (.bool true) ∧ DoPost B w0 x y n w' := by
  have K1 := h.start.quiet ((Keeps.refl (fun _ => False) w).alloc (.cells (deedC 0 N M p) deedT))
  have D1 : DeedAt (w.alloc (.cells (deedC 0 N M p) deedT)) w.heap.size 0 N M p := Blk.new _ _ _
  have HOK : Hid (OOk (n + 1) (addS s N)) := ok_add ho N
  have CP : Hid (Calls Try.prog 13 #[tp x, .int .i64 N] (w.alloc (.cells (deedC 0 N M p) deedT)) fun e w' => e = .returned (.tuple #[.int .i64 (addN s), .int .i64 (addP s), .int .i64 (openE s)]) ∧ BothK B w0 x y w'.heap.size w.heap.size (addS s N) s w' ∧ DeedAt w' w.heap.size 0 N M p) := (K1.fcall fun P hg => add_any hg ho hn N).mono fun e w' ⟨he, hk, hd⟩ => ⟨he, hk, hd _ _ _ (Nat.le_refl _) D1⟩
  have CQ : Hid (∀ w3 KP, BothK B w0 x y KP w.heap.size (addS s N) s w3 → Calls Try.prog 22 #[tp y, .int .i64 N] w3 fun e w' => e = .returned (.tuple #[.int .i64 (addN s), .int .i64 (addP s), .int .i64 (openE s)]) ∧ BothO B w0 x y (addS s N) (addS s N) w') := fun w3 KP hk => (hk.gcall fun Q hg => xadd_any hg ho hn N).mono fun e w' ⟨he, hk', _⟩ => ⟨he, hk'.done⟩
  obtain ⟨e0, e1, e3⟩ := D1.cells
  have DD := Lib.hid D1
  clear h ho hn hp hN K1 D1
  generalize addS s N = s1 at *
  generalize addN s = r0 at *
  generalize addP s = r1 at *
  generalize openE s = r2 at *
  have HSZ : Hid ((w.alloc (.cells (deedC 0 N M p) deedT)).heap.size = w.heap.size + 1) := by unfold Hid; simp
  go_enter Try.func8, Try.ntmps8
  go_upto_region 30 with (first
    | (go_at_call 13; refine CP.out.mono ?_; rintro e w3 ⟨rfl, h3, d3⟩; have H3 := Lib.hid h3; obtain ⟨e30, e31, e33⟩ := d3.cells; clear h3 d3)
    | (go_at_call 22; refine (CQ.out _ _ H3.out).mono ?_; rintro e w4 ⟨rfl, h4⟩; have H4 := Lib.hid h4; clear h4))
  clear e0 e1 e3 e30 e31 e33
  go_wp2_with (go_at_call 9; refine (ints_nil _).mono ?_; rintro e w5 ⟨rfl, h5⟩; have H5 := Lib.hid (H4.out.quiet h5); clear h5)
  go_ret
  exact ⟨rfl, _, HOK.out, H5.out⟩
set_option maxHeartbeats 2000000 in
theorem do1_any (h : BothO B w0 x y s s w) (ho : OOk n s) (hn : n ≤ 100000) (N M : Int) (p : ByteArray) (hp : p.size ≤ maxLen) (hN : -9223372036854775808 ≤ N ∧ N ≤ 9223372036854775807) :
    Calls Try.prog 8 #[tp x, tp y, .agg (deedC 1 N M p)] w fun e w' => e = .returned (.bool true) ∧ DoPost B w0 x y n w' := by
  have K1 := h.start.quiet ((Keeps.refl (fun _ => False) w).alloc (.cells (deedC 1 N M p) deedT))
  have D1 : DeedAt (w.alloc (.cells (deedC 1 N M p) deedT)) w.heap.size 1 N M p := Blk.new _ _ _
  have HOK : Hid (OOk (n + 1) (s)) := ho.mono (Nat.le_succ n)
  have CP : Hid (Calls Try.prog 20 #[tp x, .int .i64 N] (w.alloc (.cells (deedC 1 N M p) deedT)) fun e w' => e = .returned (.tuple #[.int .i64 (getN s N), .int .i64 ((s.fdId N : Int)), .int .i64 (fdE s N)]) ∧ BothK B w0 x y w'.heap.size w.heap.size (s) s w' ∧ DeedAt w' w.heap.size 1 N M p) := (K1.fcall fun P hg => get_any hg ho hn N).mono fun e w' ⟨he, hk, hd⟩ => ⟨he, hk, hd _ _ _ (Nat.le_refl _) D1⟩
  have CQ : Hid (∀ w3 KP, BothK B w0 x y KP w.heap.size (s) s w3 → Calls Try.prog 23 #[tp y, .int .i64 N] w3 fun e w' => e = .returned (.tuple #[.int .i64 (getN s N), .int .i64 ((s.fdId N : Int)), .int .i64 (fdE s N)]) ∧ BothO B w0 x y (s) (s) w') := fun w3 KP hk => (hk.gcall fun Q hg => xget_any hg ho hn N).mono fun e w' ⟨he, hk', _⟩ => ⟨he, hk'.done⟩
  obtain ⟨e0, e1, e3⟩ := D1.cells
  have DD := Lib.hid D1
  clear h ho hn hp hN K1 D1
  generalize getN s N = r0 at *
  generalize (s.fdId N : Int) = r1 at *
  generalize fdE s N = r2 at *
  have HSZ : Hid ((w.alloc (.cells (deedC 1 N M p) deedT)).heap.size = w.heap.size + 1) := by unfold Hid; simp
  go_enter Try.func8, Try.ntmps8
  go_upto_region 30 with (first
    | (go_at_call 20; refine CP.out.mono ?_; rintro e w3 ⟨rfl, h3, d3⟩; have H3 := Lib.hid h3; obtain ⟨e30, e31, e33⟩ := d3.cells; clear h3 d3)
    | (go_at_call 23; refine (CQ.out _ _ H3.out).mono ?_; rintro e w4 ⟨rfl, h4⟩; have H4 := Lib.hid h4; clear h4))
  clear e0 e1 e3 e30 e31 e33
  go_wp2_with (go_at_call 9; refine (ints_nil _).mono ?_; rintro e w5 ⟨rfl, h5⟩; have H5 := Lib.hid (H4.out.quiet h5); clear h5)
  go_ret
  exact ⟨rfl, _, HOK.out, H5.out⟩
set_option maxHeartbeats 2000000 in
theorem do2_any (h : BothO B w0 x y s s w) (ho : OOk n s) (hn : n ≤ 100000) (N M : Int) (p : ByteArray) (hp : p.size ≤ maxLen) (hN : -9223372036854775808 ≤ N ∧ N ≤ 9223372036854775807) :
    Calls Try.prog 8 #[tp x, tp y, .agg (deedC 2 N M p)] w fun e w' => e = .returned (.bool true) ∧ DoPost B w0 x y n w' := by
  have K1 := h.start.quiet ((Keeps.refl (fun _ => False) w).alloc (.cells (deedC 2 N M p) deedT))
  have D1 : DeedAt (w.alloc (.cells (deedC 2 N M p) deedT)) w.heap.size 2 N M p := Blk.new _ _ _
  have HOK : Hid (OOk (n + 1) (dupS s N)) := (ok_dup ho N).mono (Nat.le_succ n)
  have CP : Hid (Calls Try.prog 14 #[tp x, .int .i64 N] (w.alloc (.cells (deedC 2 N M p) deedT)) fun e w' => e = .returned (.tuple #[.int .i64 (dupN s N), .int .i64 (dupE s N)]) ∧ BothK B w0 x y w'.heap.size w.heap.size (dupS s N) s w' ∧ DeedAt w' w.heap.size 2 N M p) := (K1.fcall fun P hg => dup_any hg ho hn N).mono fun e w' ⟨he, hk, hd⟩ => ⟨he, hk, hd _ _ _ (Nat.le_refl _) D1⟩
  have CQ : Hid (∀ w3 KP, BothK B w0 x y KP w.heap.size (dupS s N) s w3 → Calls Try.prog 24 #[tp y, .int .i64 N] w3 fun e w' => e = .returned (.tuple #[.int .i64 (dupN s N), .int .i64 (dupE s N)]) ∧ BothO B w0 x y (dupS s N) (dupS s N) w') := fun w3 KP hk => (hk.gcall fun Q hg => xdup_any hg ho hn N).mono fun e w' ⟨he, hk', _⟩ => ⟨he, hk'.done⟩
  obtain ⟨e0, e1, e3⟩ := D1.cells
  have DD := Lib.hid D1
  clear h ho hn hp hN K1 D1
  generalize dupS s N = s1 at *
  generalize dupN s N = r0 at *
  generalize dupE s N = r1 at *
  have HSZ : Hid ((w.alloc (.cells (deedC 2 N M p) deedT)).heap.size = w.heap.size + 1) := by unfold Hid; simp
  go_enter Try.func8, Try.ntmps8
  go_upto_region 30 with (first
    | (go_at_call 14; refine CP.out.mono ?_; rintro e w3 ⟨rfl, h3, d3⟩; have H3 := Lib.hid h3; obtain ⟨e30, e31, e33⟩ := d3.cells; clear h3 d3)
    | (go_at_call 24; refine (CQ.out _ _ H3.out).mono ?_; rintro e w4 ⟨rfl, h4⟩; have H4 := Lib.hid h4; clear h4))
  clear e0 e1 e3 e30 e31 e33
  go_wp2_with (go_at_call 9; refine (ints_nil _).mono ?_; rintro e w5 ⟨rfl, h5⟩; have H5 := Lib.hid (H4.out.quiet h5); clear h5)
  go_ret
  exact ⟨rfl, _, HOK.out, H5.out⟩
set_option maxHeartbeats 2000000 in
theorem do3_any (h : BothO B w0 x y s s w) (ho : OOk n s) (hn : n ≤ 100000) (N M : Int) (p : ByteArray) (hp : p.size ≤ maxLen) (hN : -9223372036854775808 ≤ N ∧ N ≤ 9223372036854775807) :
    Calls Try.prog 8 #[tp x, tp y, .agg (deedC 3 N M p)] w fun e w' => e = .returned (.bool true) ∧ DoPost B w0 x y n w' := by
  have K1 := h.start.quiet ((Keeps.refl (fun _ => False) w).alloc (.cells (deedC 3 N M p) deedT))
  have D1 : DeedAt (w.alloc (.cells (deedC 3 N M p) deedT)) w.heap.size 3 N M p := Blk.new _ _ _
  have HOK : Hid (OOk (n + 1) (closeS s N)) := (ok_close ho N).mono (Nat.le_succ n)
  have CP : Hid (Calls Try.prog 17 #[tp x, .int .i64 N] (w.alloc (.cells (deedC 3 N M p) deedT)) fun e w' => ∃ A c, e = .returned (.tuple #[.slice A (closeL s N).length c, .int .i64 (fdE s N)]) ∧ RowI w.heap.size w' A (closeL s N) ∧ BothK B w0 x y w'.heap.size w.heap.size (closeS s N) s w' ∧ DeedAt w' w.heap.size 3 N M p) := (K1.fcall (Φ := fun e w' => ∃ A c, e = .returned (.tuple #[.slice A (closeL s N).length c, .int .i64 (fdE s N)]) ∧ RowI w.heap.size w' A (closeL s N)) fun P hg => (close_any hg ho hn N).mono fun e w' ⟨A, c, he, hr, hg'⟩ => ⟨⟨A, c, he, hr.mono (by simp)⟩, hg'⟩).mono fun e w' ⟨⟨A, c, he, hr⟩, hk, hd⟩ => ⟨A, c, he, hr, hk, hd _ _ _ (Nat.le_refl _) D1⟩
  have CQ : Hid (∀ w3 KP, BothK B w0 x y KP w.heap.size (closeS s N) s w3 → Calls Try.prog 25 #[tp y, .int .i64 N] w3 fun e w' => (∃ A c, e = .returned (.tuple #[.slice A (closeL s N).length c, .int .i64 (fdE s N)]) ∧ RowI w3.heap.size w' A (closeL s N)) ∧ BothO B w0 x y (closeS s N) (closeS s N) w' ∧ ∀ A, RowI w.heap.size w3 A (closeL s N) → RowI w.heap.size w' A (closeL s N)) := fun w3 KP hk => (hk.gcall (Φ := fun e w' => ∃ A c, e = .returned (.tuple #[.slice A (closeL s N).length c, .int .i64 (fdE s N)]) ∧ RowI w3.heap.size w' A (closeL s N)) fun Q hg => (xclose_any hg ho hn N).mono fun e w' ⟨A, c, he, hr, hg'⟩ => ⟨⟨A, c, he, hr⟩, hg'⟩).mono fun e w' ⟨he, hk', _, hr⟩ => ⟨he, hk'.done, fun A => hr A _⟩
  have CS : Hid (∀ W A B c d b1 b2, RowI b1 W A (closeL s N) → RowI b2 W B (closeL s N) → Calls Try.prog 9 #[.slice A (closeL s N).length c, .slice B (closeL s N).length d] W fun e w' => e = .returned (.bool true) ∧ Keeps (fun _ => False) W w') := fun W A B c d b1 b2 h1 h2 => ints_same h1 h2 (closeL_le s N)
  obtain ⟨e0, e1, e3⟩ := D1.cells
  have DD := Lib.hid D1
  clear h ho hn hp hN K1 D1
  generalize closeS s N = s1 at *
  generalize fdE s N = r0 at *
  generalize closeL s N = L at *
  have HSZ : Hid ((w.alloc (.cells (deedC 3 N M p) deedT)).heap.size = w.heap.size + 1) := by unfold Hid; simp
  go_enter Try.func8, Try.ntmps8
  go_upto_region 30 with (first
    | (go_at_call 17; refine CP.out.mono ?_; rintro e w3 ⟨A, c, rfl, r3, h3, d3⟩; have H3 := Lib.hid h3; have R3 := Lib.hid r3; obtain ⟨e30, e31, e33⟩ := d3.cells; clear h3 d3 r3)
    | (go_at_call 25; refine (CQ.out _ _ H3.out).mono ?_; rintro e w4 ⟨⟨A', c', rfl, r4⟩, h4, r5⟩; have H4 := Lib.hid h4; have CT := Lib.hid (CS.out _ A A' c c' _ _ (r5 A R3.out) r4); clear h4 r4 r5))
  clear e0 e1 e3 e30 e31 e33
  go_wp2_with (go_at_call 9; refine CT.out.mono ?_; rintro e w5 ⟨rfl, h5⟩; have H5 := Lib.hid (H4.out.quiet h5); clear h5)
  go_ret
  exact ⟨rfl, _, HOK.out, H5.out⟩
set_option maxHeartbeats 2000000 in
theorem do5_any (h : BothO B w0 x y s s w) (ho : OOk n s) (hn : n ≤ 100000) (N M : Int) (p : ByteArray) (hp : p.size ≤ maxLen) (hN : -9223372036854775808 ≤ N ∧ N ≤ 9223372036854775807) :
    Calls Try.prog 8 #[tp x, tp y, .agg (deedC 5 N M p)] w fun e w' => e = .returned (.bool true) ∧ DoPost B w0 x y n w' := by
  have K1 := h.start.quiet ((Keeps.refl (fun _ => False) w).alloc (.cells (deedC 5 N M p) deedT))
  have D1 : DeedAt (w.alloc (.cells (deedC 5 N M p) deedT)) w.heap.size 5 N M p := Blk.new _ _ _
  have HOK : Hid (OOk (n + 1) (dropS s N)) := (ok_drop ho N).mono (Nat.le_succ n)
  have CP : Hid (Calls Try.prog 19 #[tp x, .int .i64 N] (w.alloc (.cells (deedC 5 N M p) deedT)) fun e w' => ∃ A c, e = .returned (.tuple #[.slice A (dropL s N).length c, .int .i64 (dropE s N)]) ∧ RowI w.heap.size w' A (dropL s N) ∧ BothK B w0 x y w'.heap.size w.heap.size (dropS s N) s w' ∧ DeedAt w' w.heap.size 5 N M p) := (K1.fcall (Φ := fun e w' => ∃ A c, e = .returned (.tuple #[.slice A (dropL s N).length c, .int .i64 (dropE s N)]) ∧ RowI w.heap.size w' A (dropL s N)) fun P hg => (drop_any hg ho hn N hN).mono fun e w' ⟨A, c, he, hr, hg'⟩ => ⟨⟨A, c, he, hr.mono (by simp)⟩, hg'⟩).mono fun e w' ⟨⟨A, c, he, hr⟩, hk, hd⟩ => ⟨A, c, he, hr, hk, hd _ _ _ (Nat.le_refl _) D1⟩
  have CQ : Hid (∀ w3 KP, BothK B w0 x y KP w.heap.size (dropS s N) s w3 → Calls Try.prog 27 #[tp y, .int .i64 N] w3 fun e w' => (∃ A c, e = .returned (.tuple #[.slice A (dropL s N).length c, .int .i64 (dropE s N)]) ∧ RowI w3.heap.size w' A (dropL s N)) ∧ BothO B w0 x y (dropS s N) (dropS s N) w' ∧ ∀ A, RowI w.heap.size w3 A (dropL s N) → RowI w.heap.size w' A (dropL s N)) := fun w3 KP hk => (hk.gcall (Φ := fun e w' => ∃ A c, e = .returned (.tuple #[.slice A (dropL s N).length c, .int .i64 (dropE s N)]) ∧ RowI w3.heap.size w' A (dropL s N)) fun Q hg => (xdrop_any hg ho hn N).mono fun e w' ⟨A, c, he, hr, hg'⟩ => ⟨⟨A, c, he, hr⟩, hg'⟩).mono fun e w' ⟨he, hk', _, hr⟩ => ⟨he, hk'.done, fun A => hr A _⟩
  have CS : Hid (∀ W A B c d b1 b2, RowI b1 W A (dropL s N) → RowI b2 W B (dropL s N) → Calls Try.prog 9 #[.slice A (dropL s N).length c, .slice B (dropL s N).length d] W fun e w' => e = .returned (.bool true) ∧ Keeps (fun _ => False) W w') := fun W A B c d b1 b2 h1 h2 => ints_same h1 h2 (dropL_le s N)
  obtain ⟨e0, e1, e3⟩ := D1.cells
  have DD := Lib.hid D1
  clear h ho hn hp hN K1 D1
  generalize dropS s N = s1 at *
  generalize dropE s N = r0 at *
  generalize dropL s N = L at *
  have HSZ : Hid ((w.alloc (.cells (deedC 5 N M p) deedT)).heap.size = w.heap.size + 1) := by unfold Hid; simp
  go_enter Try.func8, Try.ntmps8
  go_upto_region 30 with (first
    | (go_at_call 19; refine CP.out.mono ?_; rintro e w3 ⟨A, c, rfl, r3, h3, d3⟩; have H3 := Lib.hid h3; have R3 := Lib.hid r3; obtain ⟨e30, e31, e33⟩ := d3.cells; clear h3 d3 r3)
    | (go_at_call 27; refine (CQ.out _ _ H3.out).mono ?_; rintro e w4 ⟨⟨A', c', rfl, r4⟩, h4, r5⟩; have H4 := Lib.hid h4; have CT := Lib.hid (CS.out _ A A' c c' _ _ (r5 A R3.out) r4); clear h4 r4 r5))
  clear e0 e1 e3 e30 e31 e33
  go_wp2_with (go_at_call 9; refine CT.out.mono ?_; rintro e w5 ⟨rfl, h5⟩; have H5 := Lib.hid (H4.out.quiet h5); clear h5)
  go_ret
  exact ⟨rfl, _, HOK.out, H5.out⟩
set_option maxHeartbeats 2000000 in
theorem do7_any (h : BothO B w0 x y s s w) (ho : OOk n s) (hn : n ≤ 100000) (N M : Int) (p : ByteArray) (hp : p.size ≤ maxLen) (hN : -9223372036854775808 ≤ N ∧ N ≤ 9223372036854775807) :
    Calls Try.prog 8 #[tp x, tp y, .agg (deedC 7 N M p)] w fun e w' => e = .returned (.bool true) ∧ DoPost B w0 x y n w' := by
  have K1 := h.start.quiet ((Keeps.refl (fun _ => False) w).alloc (.cells (deedC 7 N M p) deedT))
  have D1 : DeedAt (w.alloc (.cells (deedC 7 N M p) deedT)) w.heap.size 7 N M p := Blk.new _ _ _
  have HOK : Hid (OOk (n + 1) (unpinS s p)) := (ok_unpin ho p).mono (Nat.le_succ n)
  have CP : Hid (Calls Try.prog 18 #[tp x, .string p] (w.alloc (.cells (deedC 7 N M p) deedT)) fun e w' => ∃ A c, e = .returned (.tuple #[.slice A (unpinL s p).length c, .int .i64 (pathE s p)]) ∧ RowI w.heap.size w' A (unpinL s p) ∧ BothK B w0 x y w'.heap.size w.heap.size (unpinS s p) s w' ∧ DeedAt w' w.heap.size 7 N M p) := (K1.fcall (Φ := fun e w' => ∃ A c, e = .returned (.tuple #[.slice A (unpinL s p).length c, .int .i64 (pathE s p)]) ∧ RowI w.heap.size w' A (unpinL s p)) fun P hg => (unpin_any hg ho hn p hp).mono fun e w' ⟨A, c, he, hr, hg'⟩ => ⟨⟨A, c, he, hr.mono (by simp)⟩, hg'⟩).mono fun e w' ⟨⟨A, c, he, hr⟩, hk, hd⟩ => ⟨A, c, he, hr, hk, hd _ _ _ (Nat.le_refl _) D1⟩
  have CQ : Hid (∀ w3 KP, BothK B w0 x y KP w.heap.size (unpinS s p) s w3 → Calls Try.prog 29 #[tp y, .string p] w3 fun e w' => (∃ A c, e = .returned (.tuple #[.slice A (unpinL s p).length c, .int .i64 (pathE s p)]) ∧ RowI w3.heap.size w' A (unpinL s p)) ∧ BothO B w0 x y (unpinS s p) (unpinS s p) w' ∧ ∀ A, RowI w.heap.size w3 A (unpinL s p) → RowI w.heap.size w' A (unpinL s p)) := fun w3 KP hk => (hk.gcall (Φ := fun e w' => ∃ A c, e = .returned (.tuple #[.slice A (unpinL s p).length c, .int .i64 (pathE s p)]) ∧ RowI w3.heap.size w' A (unpinL s p)) fun Q hg => (xunpin_any hg ho hn p hp).mono fun e w' ⟨A, c, he, hr, hg'⟩ => ⟨⟨A, c, he, hr⟩, hg'⟩).mono fun e w' ⟨he, hk', _, hr⟩ => ⟨he, hk'.done, fun A => hr A _⟩
  have CS : Hid (∀ W A B c d b1 b2, RowI b1 W A (unpinL s p) → RowI b2 W B (unpinL s p) → Calls Try.prog 9 #[.slice A (unpinL s p).length c, .slice B (unpinL s p).length d] W fun e w' => e = .returned (.bool true) ∧ Keeps (fun _ => False) W w') := fun W A B c d b1 b2 h1 h2 => ints_same h1 h2 (unpinL_le s p)
  obtain ⟨e0, e1, e3⟩ := D1.cells
  have DD := Lib.hid D1
  clear h ho hn hp hN K1 D1
  generalize unpinS s p = s1 at *
  generalize pathE s p = r0 at *
  generalize unpinL s p = L at *
  have HSZ : Hid ((w.alloc (.cells (deedC 7 N M p) deedT)).heap.size = w.heap.size + 1) := by unfold Hid; simp
  go_enter Try.func8, Try.ntmps8
  go_upto_region 30 with (first
    | (go_at_call 18; refine CP.out.mono ?_; rintro e w3 ⟨A, c, rfl, r3, h3, d3⟩; have H3 := Lib.hid h3; have R3 := Lib.hid r3; obtain ⟨e30, e31, e33⟩ := d3.cells; clear h3 d3 r3)
    | (go_at_call 29; refine (CQ.out _ _ H3.out).mono ?_; rintro e w4 ⟨⟨A', c', rfl, r4⟩, h4, r5⟩; have H4 := Lib.hid h4; have CT := Lib.hid (CS.out _ A A' c c' _ _ (r5 A R3.out) r4); clear h4 r4 r5))
  clear e0 e1 e3 e30 e31 e33
  go_wp2_with (go_at_call 9; refine CT.out.mono ?_; rintro e w5 ⟨rfl, h5⟩; have H5 := Lib.hid (H4.out.quiet h5); clear h5)
  go_ret
  exact ⟨rfl, _, HOK.out, H5.out⟩
set_option maxHeartbeats 2000000 in
theorem do8_any (h : BothO B w0 x y s s w) (ho : OOk n s) (hn : n ≤ 100000) (N M : Int) (p : ByteArray) (hp : p.size ≤ maxLen) (hN : -9223372036854775808 ≤ N ∧ N ≤ 9223372036854775807) :
    Calls Try.prog 8 #[tp x, tp y, .agg (deedC 8 N M p)] w fun e w' => e = .returned (.bool true) ∧ DoPost B w0 x y n w' := by
  have K1 := h.start.quiet ((Keeps.refl (fun _ => False) w).alloc (.cells (deedC 8 N M p) deedT))
  have D1 : DeedAt (w.alloc (.cells (deedC 8 N M p) deedT)) w.heap.size 8 N M p := Blk.new _ _ _
  have HOK : Hid (OOk (n + 1) (opS s p)) := (ok_op ho p).mono (Nat.le_succ n)
  have CP : Hid (Calls Try.prog 21 #[tp x, .string p] (w.alloc (.cells (deedC 8 N M p) deedT)) fun e w' => e = .returned (.tuple #[.int .i64 (opN s p), .int .i64 (opE s p)]) ∧ BothK B w0 x y w'.heap.size w.heap.size (opS s p) s w' ∧ DeedAt w' w.heap.size 8 N M p) := (K1.fcall fun P hg => open_any hg ho hn p hp).mono fun e w' ⟨he, hk, hd⟩ => ⟨he, hk, hd _ _ _ (Nat.le_refl _) D1⟩
  have CQ : Hid (∀ w3 KP, BothK B w0 x y KP w.heap.size (opS s p) s w3 → Calls Try.prog 30 #[tp y, .string p] w3 fun e w' => e = .returned (.tuple #[.int .i64 (opN s p), .int .i64 (opE s p)]) ∧ BothO B w0 x y (opS s p) (opS s p) w') := fun w3 KP hk => (hk.gcall fun Q hg => xopen_any hg ho hn p hp).mono fun e w' ⟨he, hk', _⟩ => ⟨he, hk'.done⟩
  obtain ⟨e0, e1, e3⟩ := D1.cells
  have DD := Lib.hid D1
  clear h ho hn hp hN K1 D1
  generalize opS s p = s1 at *
  generalize opN s p = r0 at *
  generalize opE s p = r1 at *
  have HSZ : Hid ((w.alloc (.cells (deedC 8 N M p) deedT)).heap.size = w.heap.size + 1) := by unfold Hid; simp
  go_enter Try.func8, Try.ntmps8
  go_upto_region 30 with (first
    | (go_at_call 21; refine CP.out.mono ?_; rintro e w3 ⟨rfl, h3, d3⟩; have H3 := Lib.hid h3; obtain ⟨e30, e31, e33⟩ := d3.cells; clear h3 d3)
    | (go_at_call 30; refine (CQ.out _ _ H3.out).mono ?_; rintro e w4 ⟨rfl, h4⟩; have H4 := Lib.hid h4; clear h4))
  clear e0 e1 e3 e30 e31 e33
  go_wp2_with (go_at_call 9; refine (ints_nil _).mono ?_; rintro e w5 ⟨rfl, h5⟩; have H5 := Lib.hid (H4.out.quiet h5); clear h5)
  go_ret
  exact ⟨rfl, _, HOK.out, H5.out⟩
set_option maxHeartbeats 2000000 in
theorem do4_any (h : BothO B w0 x y s s w) (ho : OOk n s) (hn : n ≤ 100000) (N M : Int) (p : ByteArray) (hp : p.size ≤ maxLen) (hN : -9223372036854775808 ≤ N ∧ N ≤ 9223372036854775807) :
    Calls Try.prog 8 #[tp x, tp y, .agg (deedC 4 N M p)] w fun e w' => e = .returned (.bool true) ∧ DoPost B w0 x y n w' := by
  have K1 := h.start.quiet ((Keeps.refl (fun _ => False) w).alloc (.cells (deedC 4 N M p) deedT))
  have D1 : DeedAt (w.alloc (.cells (deedC 4 N M p) deedT)) w.heap.size 4 N M p := Blk.new _ _ _
  have HOK : Hid (OOk (n + 1) (holdS s N)) := ok_hold ho N
  have CP : Hid (Calls Try.prog 16 #[tp x, .int .i64 N] (w.alloc (.cells (deedC 4 N M p) deedT)).drew fun e w' => e = .returned (.int .i64 (holdE s N)) ∧ BothK B w0 x y w'.heap.size w.heap.size (holdS s N) s w' ∧ DeedAt w' w.heap.size 4 N M p) := (K1.drew.fcall fun P hg => hold_any hg ho hn N hN).mono fun e w' ⟨he, hk, hd⟩ => ⟨he, hk, hd _ _ _ (Nat.le_refl _) D1⟩
  have CQ : Hid (∀ w3 KP, BothK B w0 x y KP w.heap.size (holdS s N) s w3 → DeedAt w3 w.heap.size 4 N M p → Calls Try.prog 26 #[tp y, .int .i64 N] w3 fun e w' => e = .returned (.int .i64 (holdE s N)) ∧ BothO B w0 x y (holdS s N) (holdS s N) w' ∧ DeedAt w' w.heap.size 4 N M p) := fun w3 KP hk hd => (hk.gcall fun Q hg => xhold_any hg ho hn N).mono fun e w' ⟨he, hk', hd', _⟩ => ⟨he, hk'.done, hd' _ _ _ (Nat.le_refl _) hd⟩
  obtain ⟨e0, e1, e3⟩ := D1.cells
  have DD := Lib.hid D1
  clear h ho hn hp hN K1 D1
  generalize holdS s N = s1 at *
  generalize holdE s N = r0 at *
  have HSZ : Hid ((w.alloc (.cells (deedC 4 N M p) deedT)).heap.size = w.heap.size + 1) := by unfold Hid; simp
  go_enter Try.func8, Try.ntmps8
  go_upto_region 18 with fail
  have S0 : Hid ((w.alloc (.cells (deedC 4 N M p) deedT)).cell? ⟨w.heap.size, 1, none⟩ = some (.int .i64 N)) := DD.out.cells.2.1
  go_region_held3 (fun W => W.cell? ⟨w.heap.size, 1, none⟩ = some (.int .i64 N))
    (first | exact S0.out | exact S1.out | exact S2.out)
    (first
      | (go_at_call 16; refine CP.out.mono ?_; rintro e w3 ⟨rfl, h3, d3⟩; have H3 := Lib.hid h3; have D3 := Lib.hid d3; have S1 : Hid (w3.cell? ⟨w.heap.size, 1, none⟩ = some (.int .i64 N)) := d3.cells.2.1; clear h3 d3)
      | (go_at_call 26; refine (CQ.out _ _ H3.out D3.out).mono ?_; rintro e w4 ⟨rfl, h4, d4⟩; have H4 := Lib.hid h4; have S2 : Hid (w4.cell? ⟨w.heap.size, 1, none⟩ = some (.int .i64 N)) := d4.cells.2.1; clear h4 d4))
  clear e0 e1 e3 S0 S1 S2
  go_wp2_with (go_at_call 9; refine (ints_nil _).mono ?_; rintro e w5 ⟨rfl, h5⟩; have H5 := Lib.hid (H4.out.quiet h5); clear h5)
  go_ret
  exact ⟨rfl, _, HOK.out, H5.out⟩
set_option maxHeartbeats 2000000 in
theorem do6_any (h : BothO B w0 x y s s w) (ho : OOk n s) (hn : n ≤ 100000) (N M : Int) (p : ByteArray) (hp : p.size ≤ maxLen) (hN : -9223372036854775808 ≤ N ∧ N ≤ 9223372036854775807) :
    Calls Try.prog 8 #[tp x, tp y, .agg (deedC 6 N M p)] w fun e w' => e = .returned (.bool true) ∧ DoPost B w0 x y n w' := by
  have K1 := h.start.quiet ((Keeps.refl (fun _ => False) w).alloc (.cells (deedC 6 N M p) deedT))
  have D1 : DeedAt (w.alloc (.cells (deedC 6 N M p) deedT)) w.heap.size 6 N M p := Blk.new _ _ _
  have HOK : Hid (OOk (n + 1) (pinS s p N)) := ok_pin ho p N
  have CP : Hid (Calls Try.prog 15 #[tp x, .string p, .int .i64 N] (w.alloc (.cells (deedC 6 N M p) deedT)).drew fun e w' => e = .returned (.int .i64 (pinBad s p N)) ∧ BothK B w0 x y w'.heap.size w.heap.size (pinS s p N) s w' ∧ DeedAt w' w.heap.size 6 N M p) := (K1.drew.fcall fun P hg => pin_any hg ho hn p hp N).mono fun e w' ⟨he, hk, hd⟩ => ⟨he, hk, hd _ _ _ (Nat.le_refl _) D1⟩
  have CQ : Hid (∀ w3 KP, BothK B w0 x y KP w.heap.size (pinS s p N) s w3 → DeedAt w3 w.heap.size 6 N M p → Calls Try.prog 28 #[tp y, .string p, .int .i64 N] w3 fun e w' => e = .returned (.int .i64 (pinBad s p N)) ∧ BothO B w0 x y (pinS s p N) (pinS s p N) w' ∧ DeedAt w' w.heap.size 6 N M p) := fun w3 KP hk hd => (hk.gcall fun Q hg => xpin_any hg ho hn p hp N).mono fun e w' ⟨he, hk', hd', _⟩ => ⟨he, hk'.done, hd' _ _ _ (Nat.le_refl _) hd⟩
  obtain ⟨e0, e1, e3⟩ := D1.cells
  have DD := Lib.hid D1
  clear h ho hn hp hN K1 D1
  generalize pinS s p N = s1 at *
  generalize pinBad s p N = r0 at *
  have HSZ : Hid ((w.alloc (.cells (deedC 6 N M p) deedT)).heap.size = w.heap.size + 1) := by unfold Hid; simp
  go_enter Try.func8, Try.ntmps8
  go_upto_region 23 with fail
  have S0 : Hid ((w.alloc (.cells (deedC 6 N M p) deedT)).cell? ⟨w.heap.size, 1, none⟩ = some (.int .i64 N) ∧ (w.alloc (.cells (deedC 6 N M p) deedT)).cell? ⟨w.heap.size, 3, none⟩ = some (.string p)) := ⟨DD.out.cells.2.1, DD.out.cells.2.2⟩
  go_region_held3 (fun W => W.cell? ⟨w.heap.size, 1, none⟩ = some (.int .i64 N) ∧ W.cell? ⟨w.heap.size, 3, none⟩ = some (.string p))
    (first | exact S0.out | exact S1.out | exact S2.out)
    (first
      | (go_at_call 15; refine CP.out.mono ?_; rintro e w3 ⟨rfl, h3, d3⟩; have H3 := Lib.hid h3; have D3 := Lib.hid d3; have S1 : Hid (w3.cell? ⟨w.heap.size, 1, none⟩ = some (.int .i64 N) ∧ w3.cell? ⟨w.heap.size, 3, none⟩ = some (.string p)) := ⟨d3.cells.2.1, d3.cells.2.2⟩; clear h3 d3)
      | (go_at_call 28; refine (CQ.out _ _ H3.out D3.out).mono ?_; rintro e w4 ⟨rfl, h4, d4⟩; have H4 := Lib.hid h4; have S2 : Hid (w4.cell? ⟨w.heap.size, 1, none⟩ = some (.int .i64 N) ∧ w4.cell? ⟨w.heap.size, 3, none⟩ = some (.string p)) := ⟨d4.cells.2.1, d4.cells.2.2⟩; clear h4 d4))
  clear e0 e1 e3 S0 S1 S2
  go_wp2_with (go_at_call 9; refine (ints_nil _).mono ?_; rintro e w5 ⟨rfl, h5⟩; have H5 := Lib.hid (H4.out.quiet h5); clear h5)
  go_ret
  exact ⟨rfl, _, HOK.out, H5.out⟩
set_option maxHeartbeats 2000000 in
theorem do9_any (h : BothO B w0 x y s s w) (ho : OOk n s) (kd N M : Int) (p : ByteArray) (hk : ∀ j : Int, 0 ≤ j → j ≤ 8 → (kd == j) = false) :
    Calls Try.prog 8 #[tp x, tp y, .agg (deedC kd N M p)] w fun e w' => e = .returned (.bool true) ∧ DoPost B w0 x y n w' := by
  have H4 := Lib.hid (h.quiet ((Keeps.refl (fun _ => False) w).alloc (.cells (deedC kd N M p) deedT)))
  have D1 : DeedAt (w.alloc (.cells (deedC kd N M p) deedT)) w.heap.size kd N M p := Blk.new _ _ _
  have HOK : Hid (OOk (n + 1) s) := ho.mono (Nat.le_succ n)
  obtain ⟨e0, e1, e3⟩ := D1.cells
  have z0 := hk 0 (by decide) (by decide)
  have z1 := hk 1 (by decide) (by decide)
  have z2 := hk 2 (by decide) (by decide)
  have z3 := hk 3 (by decide) (by decide)
  have z4 := hk 4 (by decide) (by decide)
  have z5 := hk 5 (by decide) (by decide)
  have z6 := hk 6 (by decide) (by decide)
  have z7 := hk 7 (by decide) (by decide)
  have z8 := hk 8 (by decide) (by decide)
  clear h ho D1 e1 e3 hk
  go_enter Try.func8, Try.ntmps8
  go_wp2_with (go_at_call 9; refine (ints_nil _).mono ?_; rintro e w5 ⟨rfl, h5⟩; have H5 := Lib.hid (H4.out.quiet h5); clear h5)
  go_ret
  exact ⟨rfl, _, HOK.out, H5.out⟩
theorem do_any (h : BothO B w0 x y s s w) (ho : OOk n s) (hn : n ≤ 100000) (kd N M : Int) (p : ByteArray) (hp : p.size ≤ maxLen) (hN : -9223372036854775808 ≤ N ∧ N ≤ 9223372036854775807) :
    Calls Try.prog 8 #[tp x, tp y, .agg (deedC kd N M p)] w fun e w' => e = .returned (.bool true) ∧ DoPost B w0 x y n w' := by
  by_cases hk : ∀ j : Int, 0 ≤ j → j ≤ 8 → (kd == j) = false
  · exact do9_any h ho kd N M p hk
  · have : 0 ≤ kd ∧ kd ≤ 8 := Classical.byContradiction fun hc => hk fun j h1 h2 => by
      rw [beq_eq_false_iff_ne]; omega
    have hc : kd = 0 ∨ kd = 1 ∨ kd = 2 ∨ kd = 3 ∨ kd = 4 ∨ kd = 5 ∨ kd = 6 ∨ kd = 7 ∨ kd = 8 := by omega
    rcases hc with rfl | rfl | rfl | rfl | rfl | rfl | rfl | rfl | rfl
    · exact do0_any h ho hn N M p hp hN
    · exact do1_any h ho hn N M p hp hN
    · exact do2_any h ho hn N M p hp hN
    · exact do3_any h ho hn N M p hp hN
    · exact do4_any h ho hn N M p hp hN
    · exact do5_any h ho hn N M p hp hN
    · exact do6_any h ho hn N M p hp hN
    · exact do7_any h ho hn N M p hp hN
    · exact do8_any h ho hn N M p hp hN
end
end Go.Proofs.Ytmohbdbofehamaa
