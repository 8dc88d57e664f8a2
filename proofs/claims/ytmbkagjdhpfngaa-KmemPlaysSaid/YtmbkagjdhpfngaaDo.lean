/-
  One deed on both memories: the same answer, and both hold the same afterwards.
-/
import Derived.Test.YtmbkagjdhpfngaaSame
import Derived.Deep.RegionHeld3
namespace Go.Proofs.Ytmbkagjdhpfngaa
open Go Go.RowKit Go.Maps
set_option linter.unusedVariables false
/-- Both memories lie apart, in blocks from B on; the one holds mk, the other mx. -/
def Apart (B : Nat) (w0 : World) (bm bx : Nat) (mk mx : PS) (w : World) (S T : Nat → Prop) : Prop :=
  KSide w S bm mk ∧ XSide w T bx mx ∧ (∀ b, S b → ¬ T b) ∧ (∀ b, S b → B ≤ b) ∧ (∀ b, T b → B ≤ b) ∧ Below B w0 w ∧ B ≤ w.heap.size
def Both (B : Nat) (w0 : World) (bm bx : Nat) (mk mx : PS) (w : World) : Prop := ∃ S T, Apart B w0 bm bx mk mx w S T
/-- .. and block db, none of theirs, holds cs. -/
def BothD (B : Nat) (w0 : World) (bm bx : Nat) (mk mx : PS) (db : Nat) (cs : Array Value) (w : World) : Prop :=
  ∃ S T, Apart B w0 bm bx mk mx w S T ∧ Blk w db 31 cs ∧ ¬ S db ∧ ¬ T db
section
variable {B : Nat} {w0 w w' : World} {bm bx : Nat} {m m' mk mx : PS} {db : Nat} {cs : Array Value} {S T U : Nat → Prop} {f : FuncId} {args : Array Value} {e0 : Ending}
theorem KSide.keeps (h : KSide w S bm m) (k : Keeps U w w') (hd : ∀ b, S b → ¬ U b) : KSide w' S bm m := by
  obtain ⟨st, rl, mv, rv, hk, hv⟩ := h
  exact ⟨st, rl, mv, rv, hk.keeps k hd, hv⟩
theorem XSide.keeps (h : XSide w T bx m) (k : Keeps U w w') (hd : ∀ b, T b → ¬ U b) : XSide w' T bx m := by
  obtain ⟨rb, gb, lv, hk⟩ := h
  exact ⟨rb, gb, lv, hk.keeps k hd⟩
theorem KSide.lt (h : KSide w S bm m) : ∀ b, S b → b < w.heap.size := by
  obtain ⟨st, rl, mv, rv, hk, hv⟩ := h
  exact hk.lt
theorem XSide.lt (h : XSide w T bx m) : ∀ b, T b → b < w.heap.size := by
  obtain ⟨rb, gb, lv, hk⟩ := h
  exact hk.lt
theorem Apart.quiet (h : Apart B w0 bm bx mk mx w S T) (k : Keeps (fun _ => False) w w') : Apart B w0 bm bx mk mx w' S T := by
  obtain ⟨h1, h2, h3, h4, h5, h6, h7⟩ := h
  exact ⟨h1.keeps k (fun _ _ h => h), h2.keeps k (fun _ _ h => h), h3, h4, h5, h6.trans (k.below (fun _ h => h.elim) h7), Nat.le_trans h7 k.size⟩
theorem Apart.kcall (h : Apart B w0 bm bx m mx w S T) (c : KCall f args bm m m' e0) :
    Calls Try.prog f args w fun e w' => e = e0 ∧ Apart B w0 bm bx m' mx w' (more S w w') T ∧ Keeps S w w' := by
  obtain ⟨h1, h2, h3, h4, h5, h6, h7⟩ := h
  refine (c w S h1).mono ?_
  rintro e w' ⟨rfl, hk, kk⟩
  refine ⟨rfl, ⟨hk, h2.keeps kk (fun b hb hs => h3 b hs hb), ?_, ?_, h5, h6.trans (kk.below h4 h7), Nat.le_trans h7 kk.size⟩, kk⟩
  · rintro b (hs | ⟨hs, _⟩) ht
    · exact h3 b hs ht
    · have := h2.lt b ht; omega
  · rintro b (hs | ⟨hs, _⟩)
    · exact h4 b hs
    · omega
theorem Apart.xcall (h : Apart B w0 bm bx mk m w S T) (c : XCall f args bx m m' e0) :
    Calls Try.prog f args w fun e w' => e = e0 ∧ Apart B w0 bm bx mk m' w' S (more T w w') ∧ Keeps T w w' := by
  obtain ⟨h1, h2, h3, h4, h5, h6, h7⟩ := h
  refine (c w T h2).mono ?_
  rintro e w' ⟨rfl, hk, kk⟩
  refine ⟨rfl, ⟨h1.keeps kk h3, hk, ?_, h4, ?_, h6.trans (kk.below h5 h7), Nat.le_trans h7 kk.size⟩, kk⟩
  · rintro b hs (ht | ⟨ht, _⟩)
    · exact h3 b hs ht
    · have := h1.lt b hs; omega
  · rintro b (hs | ⟨hs, _⟩)
    · exact h5 b hs
    · omega
theorem BothD.c (h : BothD B w0 bm bx mk mx db cs w) (i : Nat) : w.cell? ⟨db, i, none⟩ = cs[i]? := by
  obtain ⟨S, T, _, hb, _⟩ := h
  exact hb.cell i
theorem BothD.out (h : BothD B w0 bm bx mk mx db cs w) : Both B w0 bm bx mk mx w := by
  obtain ⟨S, T, h1, _⟩ := h
  exact ⟨S, T, h1⟩
theorem Both.enter (h : Both B w0 bm bx mk mx w) (cs : Array Value) : BothD B w0 bm bx mk mx w.heap.size cs (w.alloc (.cells cs 31)) := by
  obtain ⟨S, T, h1⟩ := h
  exact ⟨S, T, h1.quiet ((Keeps.refl _ w).alloc _), Blk.new w _ _, fun hs => by have := h1.1.lt _ hs; omega, fun hs => by have := h1.2.1.lt _ hs; omega⟩
theorem BothD.drew (h : BothD B w0 bm bx mk mx db cs w) : BothD B w0 bm bx mk mx db cs w.drew := by
  obtain ⟨S, T, h1, h2, h3, h4⟩ := h
  exact ⟨S, T, h1.quiet (Keeps.refl _ w).drew, h2, h3, h4⟩
theorem BothD.kcall (h : BothD B w0 bm bx m mx db cs w) (c : KCall f args bm m m' e0) : Calls Try.prog f args w fun e w' => e = e0 ∧ BothD B w0 bm bx m' mx db cs w' := by
  obtain ⟨S, T, h1, h2, h3, h4⟩ := h
  refine (h1.kcall c).mono ?_
  rintro e w' ⟨rfl, h5, kk⟩
  refine ⟨rfl, _, _, h5, h2.keeps kk h3, ?_, h4⟩
  rintro (hs | ⟨hs, _⟩)
  · exact h3 hs
  · have := h2.lt; omega
theorem BothD.xcall (h : BothD B w0 bm bx mk m db cs w) (c : XCall f args bx m m' e0) : Calls Try.prog f args w fun e w' => e = e0 ∧ BothD B w0 bm bx mk m' db cs w' := by
  obtain ⟨S, T, h1, h2, h3, h4⟩ := h
  refine (h1.xcall c).mono ?_
  rintro e w' ⟨rfl, h5, kk⟩
  refine ⟨rfl, _, _, h5, h2.keeps kk h4, h3, ?_⟩
  rintro (hs | ⟨hs, _⟩)
  · exact h4 hs
  · have := h2.lt; omega
end
def DoPost (B : Nat) (w0 : World) (bm bx : Nat) (m : PS) (e : Ending) (w' : World) : Prop := e = .returned (.bool true) ∧ ∃ m' : PS, m'.made ≤ m.made + 1 ∧ Both B w0 bm bx m' m' w'
section
variable {B : Nat} {w0 w : World} {bm bx : Nat} {m : PS}
set_option maxRecDepth 100000 in
set_option maxHeartbeats 2000000 in
theorem do_alloc (h : Both B w0 bm bx m m w) (N M At U : Int) (Sx : ByteArray) (hp : Pair2 isU64 10 #[.pointer (some ⟨bm, 0, none⟩), .int .i64 N, .int .i64 M] 11 #[.pointer (some ⟨bx, 0, none⟩), .int .i64 N, .int .i64 M] bm bx m) :
    Calls Try.prog 5 #[.pointer (some ⟨bm, 0, none⟩), .pointer (some ⟨bx, 0, none⟩), .agg #[.int .i64 0, .int .i64 N, .int .i64 M, .int .u64 At, .int .u64 U, .string Sx]] w (DoPost B w0 bm bx m) := by
  obtain ⟨m', v, a, ⟨x, rfl⟩, hm, ck, cx⟩ := hp
  have h1 := h.enter #[.int .i64 0, .int .i64 N, .int .i64 M, .int .u64 At, .int .u64 U, .string Sx]
  clear h
  have HM := Lib.hid hm
  clear hm
  have H1 := Lib.hid h1
  clear h1
  have CK := Lib.hid ck
  have CX := Lib.hid cx
  clear ck cx
  go_enter Try.func5, Try.ntmps5
  go_wp2_with (first
    | (go_at_call 10; refine (H1.out.kcall CK.out).mono ?_; rintro e w1 ⟨rfl, h2⟩; have d1 : w1.cell? ⟨w.heap.size, 1, none⟩ = some (.int .i64 N) := h2.c 1; have d2 : w1.cell? ⟨w.heap.size, 2, none⟩ = some (.int .i64 M) := h2.c 2; have H2 := Lib.hid h2; clear h2)
    | (go_at_call 11; refine (H2.out.xcall CX.out).mono ?_; rintro e w2 ⟨rfl, h3⟩; have H3 := Lib.hid h3; clear h3))
  go_ret
  exact ⟨rfl, m', HM.out, H3.out.out⟩
set_option maxRecDepth 100000 in
set_option maxHeartbeats 2000000 in
theorem do_fail (h : Both B w0 bm bx m m w) (N M At U : Int) (Sx : ByteArray) (hp : Pair1 12 #[.pointer (some ⟨bm, 0, none⟩), .int .i64 N] 13 #[.pointer (some ⟨bx, 0, none⟩), .int .i64 N] bm bx m) :
    Calls Try.prog 5 #[.pointer (some ⟨bm, 0, none⟩), .pointer (some ⟨bx, 0, none⟩), .agg #[.int .i64 1, .int .i64 N, .int .i64 M, .int .u64 At, .int .u64 U, .string Sx]] w (DoPost B w0 bm bx m) := by
  obtain ⟨m', a, hm, ck, cx⟩ := hp
  have h1 := h.enter #[.int .i64 1, .int .i64 N, .int .i64 M, .int .u64 At, .int .u64 U, .string Sx]
  clear h
  have HM := Lib.hid hm
  clear hm
  have h1d := h1.drew
  have H1 := Lib.hid h1d
  clear h1 h1d
  have CK := Lib.hid ck
  have CX := Lib.hid cx
  clear ck cx
  go_enter Try.func5, Try.ntmps5
  go_wp2_with fail
  go_region_held3 (fun W => W.cell? ⟨w.heap.size, 1, none⟩ = some (.int .i64 N))
    (first | exact H1.out.c 1 | exact H3.out.c 1 | exact H2.out.c 1)
    (first | (go_at_call 12; refine (H1.out.kcall CK.out).mono ?_; rintro e w1 ⟨rfl, h2⟩; have H2 := Lib.hid h2; clear h2) | (go_at_call 13; refine (H2.out.xcall CX.out).mono ?_; rintro e w2 ⟨rfl, h3⟩; have H3 := Lib.hid h3; clear h3))
  go_wp2_with fail
  go_ret
  exact ⟨rfl, m', HM.out, H3.out.out⟩
set_option maxRecDepth 100000 in
set_option maxHeartbeats 2000000 in
theorem do_free (h : Both B w0 bm bx m m w) (N M At U : Int) (Sx : ByteArray) (hp : Pair1 14 #[.pointer (some ⟨bm, 0, none⟩), .int .u64 At] 15 #[.pointer (some ⟨bx, 0, none⟩), .int .u64 At] bm bx m) :
    Calls Try.prog 5 #[.pointer (some ⟨bm, 0, none⟩), .pointer (some ⟨bx, 0, none⟩), .agg #[.int .i64 2, .int .i64 N, .int .i64 M, .int .u64 At, .int .u64 U, .string Sx]] w (DoPost B w0 bm bx m) := by
  obtain ⟨m', a, hm, ck, cx⟩ := hp
  have h1 := h.enter #[.int .i64 2, .int .i64 N, .int .i64 M, .int .u64 At, .int .u64 U, .string Sx]
  clear h
  have HM := Lib.hid hm
  clear hm
  have h1d := h1.drew
  have H1 := Lib.hid h1d
  clear h1 h1d
  have CK := Lib.hid ck
  have CX := Lib.hid cx
  clear ck cx
  go_enter Try.func5, Try.ntmps5
  go_wp2_with fail
  go_region_held3 (fun W => W.cell? ⟨w.heap.size, 3, none⟩ = some (.int .u64 At))
    (first | exact H1.out.c 3 | exact H3.out.c 3 | exact H2.out.c 3)
    (first | (go_at_call 14; refine (H1.out.kcall CK.out).mono ?_; rintro e w1 ⟨rfl, h2⟩; have H2 := Lib.hid h2; clear h2) | (go_at_call 15; refine (H2.out.xcall CX.out).mono ?_; rintro e w2 ⟨rfl, h3⟩; have H3 := Lib.hid h3; clear h3))
  go_wp2_with fail
  go_ret
  exact ⟨rfl, m', HM.out, H3.out.out⟩
set_option maxRecDepth 100000 in
set_option maxHeartbeats 2000000 in
theorem do_retire (h : Both B w0 bm bx m m w) (N M At U : Int) (Sx : ByteArray) (hp : Pair1 16 #[.pointer (some ⟨bm, 0, none⟩), .int .u64 At] 17 #[.pointer (some ⟨bx, 0, none⟩), .int .u64 At] bm bx m) :
    Calls Try.prog 5 #[.pointer (some ⟨bm, 0, none⟩), .pointer (some ⟨bx, 0, none⟩), .agg #[.int .i64 3, .int .i64 N, .int .i64 M, .int .u64 At, .int .u64 U, .string Sx]] w (DoPost B w0 bm bx m) := by
  obtain ⟨m', a, hm, ck, cx⟩ := hp
  have h1 := h.enter #[.int .i64 3, .int .i64 N, .int .i64 M, .int .u64 At, .int .u64 U, .string Sx]
  clear h
  have HM := Lib.hid hm
  clear hm
  have h1d := h1.drew
  have H1 := Lib.hid h1d
  clear h1 h1d
  have CK := Lib.hid ck
  have CX := Lib.hid cx
  clear ck cx
  go_enter Try.func5, Try.ntmps5
  go_wp2_with fail
  go_region_held3 (fun W => W.cell? ⟨w.heap.size, 3, none⟩ = some (.int .u64 At))
    (first | exact H1.out.c 3 | exact H3.out.c 3 | exact H2.out.c 3)
    (first | (go_at_call 16; refine (H1.out.kcall CK.out).mono ?_; rintro e w1 ⟨rfl, h2⟩; have H2 := Lib.hid h2; clear h2) | (go_at_call 17; refine (H2.out.xcall CX.out).mono ?_; rintro e w2 ⟨rfl, h3⟩; have H3 := Lib.hid h3; clear h3))
  go_wp2_with fail
  go_ret
  exact ⟨rfl, m', HM.out, H3.out.out⟩
set_option maxRecDepth 100000 in
set_option maxHeartbeats 2000000 in
theorem do_grace (h : Both B w0 bm bx m m w) (N M At U : Int) (Sx : ByteArray) (hp : ∃ m' : PS, m'.made ≤ m.made + 1 ∧ KCall 18 #[.pointer (some ⟨bm, 0, none⟩)] bm m m' (.returned (.tuple #[])) ∧ XCall 19 #[.pointer (some ⟨bx, 0, none⟩)] bx m m' (.returned (.tuple #[]))) :
    Calls Try.prog 5 #[.pointer (some ⟨bm, 0, none⟩), .pointer (some ⟨bx, 0, none⟩), .agg #[.int .i64 4, .int .i64 N, .int .i64 M, .int .u64 At, .int .u64 U, .string Sx]] w (DoPost B w0 bm bx m) := by
  obtain ⟨m', hm, ck, cx⟩ := hp
  have h1 := h.enter #[.int .i64 4, .int .i64 N, .int .i64 M, .int .u64 At, .int .u64 U, .string Sx]
  clear h
  have HM := Lib.hid hm
  clear hm
  have H1 := Lib.hid h1
  clear h1
  have CK := Lib.hid ck
  have CX := Lib.hid cx
  clear ck cx
  go_enter Try.func5, Try.ntmps5
  go_wp2_with (first
    | (go_at_call 18; refine (H1.out.kcall CK.out).mono ?_; rintro e w1 ⟨rfl, h2⟩; have H2 := Lib.hid h2; clear h2)
    | (go_at_call 19; refine (H2.out.xcall CX.out).mono ?_; rintro e w2 ⟨rfl, h3⟩; have H3 := Lib.hid h3; clear h3))
  go_ret
  exact ⟨rfl, m', HM.out, H3.out.out⟩
set_option maxRecDepth 100000 in
set_option maxHeartbeats 2000000 in
theorem do_read (h : Both B w0 bm bx m m w) (N M At U : Int) (Sx : ByteArray) (hp : Pair2 isU64 20 #[.pointer (some ⟨bm, 0, none⟩), .int .u64 At, .int .i64 N] 21 #[.pointer (some ⟨bx, 0, none⟩), .int .u64 At, .int .i64 N] bm bx m) :
    Calls Try.prog 5 #[.pointer (some ⟨bm, 0, none⟩), .pointer (some ⟨bx, 0, none⟩), .agg #[.int .i64 5, .int .i64 N, .int .i64 M, .int .u64 At, .int .u64 U, .string Sx]] w (DoPost B w0 bm bx m) := by
  obtain ⟨m', v, a, ⟨x, rfl⟩, hm, ck, cx⟩ := hp
  have h1 := h.enter #[.int .i64 5, .int .i64 N, .int .i64 M, .int .u64 At, .int .u64 U, .string Sx]
  clear h
  have HM := Lib.hid hm
  clear hm
  have H1 := Lib.hid h1
  clear h1
  have CK := Lib.hid ck
  have CX := Lib.hid cx
  clear ck cx
  go_enter Try.func5, Try.ntmps5
  go_wp2_with (first
    | (go_at_call 20; refine (H1.out.kcall CK.out).mono ?_; rintro e w1 ⟨rfl, h2⟩; have d3 : w1.cell? ⟨w.heap.size, 3, none⟩ = some (.int .u64 At) := h2.c 3; have d1 : w1.cell? ⟨w.heap.size, 1, none⟩ = some (.int .i64 N) := h2.c 1; have H2 := Lib.hid h2; clear h2)
    | (go_at_call 21; refine (H2.out.xcall CX.out).mono ?_; rintro e w2 ⟨rfl, h3⟩; have H3 := Lib.hid h3; clear h3))
  go_ret
  exact ⟨rfl, m', HM.out, H3.out.out⟩
set_option maxRecDepth 100000 in
set_option maxHeartbeats 2000000 in
theorem do_write (h : Both B w0 bm bx m m w) (N M At U : Int) (Sx : ByteArray) (hp : Pair1 22 #[.pointer (some ⟨bm, 0, none⟩), .int .u64 At, .int .i64 N, .int .u64 U] 23 #[.pointer (some ⟨bx, 0, none⟩), .int .u64 At, .int .i64 N, .int .u64 U] bm bx m) :
    Calls Try.prog 5 #[.pointer (some ⟨bm, 0, none⟩), .pointer (some ⟨bx, 0, none⟩), .agg #[.int .i64 6, .int .i64 N, .int .i64 M, .int .u64 At, .int .u64 U, .string Sx]] w (DoPost B w0 bm bx m) := by
  obtain ⟨m', a, hm, ck, cx⟩ := hp
  have h1 := h.enter #[.int .i64 6, .int .i64 N, .int .i64 M, .int .u64 At, .int .u64 U, .string Sx]
  clear h
  have HM := Lib.hid hm
  clear hm
  have h1d := h1.drew
  have H1 := Lib.hid h1d
  clear h1 h1d
  have CK := Lib.hid ck
  have CX := Lib.hid cx
  clear ck cx
  go_enter Try.func5, Try.ntmps5
  go_wp2_with fail
  go_region_held3 (fun W => W.cell? ⟨w.heap.size, 3, none⟩ = some (.int .u64 At) ∧ W.cell? ⟨w.heap.size, 1, none⟩ = some (.int .i64 N) ∧ W.cell? ⟨w.heap.size, 4, none⟩ = some (.int .u64 U))
    (first | exact ⟨H1.out.c 3, H1.out.c 1, H1.out.c 4⟩ | exact ⟨H3.out.c 3, H3.out.c 1, H3.out.c 4⟩ | exact ⟨H2.out.c 3, H2.out.c 1, H2.out.c 4⟩)
    (first | (go_at_call 22; refine (H1.out.kcall CK.out).mono ?_; rintro e w1 ⟨rfl, h2⟩; have H2 := Lib.hid h2; clear h2) | (go_at_call 23; refine (H2.out.xcall CX.out).mono ?_; rintro e w2 ⟨rfl, h3⟩; have H3 := Lib.hid h3; clear h3))
  go_wp2_with fail
  go_ret
  exact ⟨rfl, m', HM.out, H3.out.out⟩
set_option maxRecDepth 100000 in
set_option maxHeartbeats 2000000 in
theorem do_bytes (h : Both B w0 bm bx m m w) (N M At U : Int) (Sx : ByteArray) (hp : Pair2 isStr 24 #[.pointer (some ⟨bm, 0, none⟩), .int .u64 At, .int .i64 N] 25 #[.pointer (some ⟨bx, 0, none⟩), .int .u64 At, .int .i64 N] bm bx m) :
    Calls Try.prog 5 #[.pointer (some ⟨bm, 0, none⟩), .pointer (some ⟨bx, 0, none⟩), .agg #[.int .i64 7, .int .i64 N, .int .i64 M, .int .u64 At, .int .u64 U, .string Sx]] w (DoPost B w0 bm bx m) := by
  obtain ⟨m', v, a, ⟨x, rfl⟩, hm, ck, cx⟩ := hp
  have h1 := h.enter #[.int .i64 7, .int .i64 N, .int .i64 M, .int .u64 At, .int .u64 U, .string Sx]
  clear h
  have HM := Lib.hid hm
  clear hm
  have H1 := Lib.hid h1
  clear h1
  have CK := Lib.hid ck
  have CX := Lib.hid cx
  clear ck cx
  go_enter Try.func5, Try.ntmps5
  go_wp2_with (first
    | (go_at_call 24; refine (H1.out.kcall CK.out).mono ?_; rintro e w1 ⟨rfl, h2⟩; have d3 : w1.cell? ⟨w.heap.size, 3, none⟩ = some (.int .u64 At) := h2.c 3; have d1 : w1.cell? ⟨w.heap.size, 1, none⟩ = some (.int .i64 N) := h2.c 1; have H2 := Lib.hid h2; clear h2)
    | (go_at_call 25; refine (H2.out.xcall CX.out).mono ?_; rintro e w2 ⟨rfl, h3⟩; have H3 := Lib.hid h3; clear h3))
  go_ret
  exact ⟨rfl, m', HM.out, H3.out.out⟩
set_option maxRecDepth 100000 in
set_option maxHeartbeats 2000000 in
theorem do_put (h : Both B w0 bm bx m m w) (N M At U : Int) (Sx : ByteArray) (hp : Pair1 26 #[.pointer (some ⟨bm, 0, none⟩), .int .u64 At, .string Sx] 27 #[.pointer (some ⟨bx, 0, none⟩), .int .u64 At, .string Sx] bm bx m) :
    Calls Try.prog 5 #[.pointer (some ⟨bm, 0, none⟩), .pointer (some ⟨bx, 0, none⟩), .agg #[.int .i64 8, .int .i64 N, .int .i64 M, .int .u64 At, .int .u64 U, .string Sx]] w (DoPost B w0 bm bx m) := by
  obtain ⟨m', a, hm, ck, cx⟩ := hp
  have h1 := h.enter #[.int .i64 8, .int .i64 N, .int .i64 M, .int .u64 At, .int .u64 U, .string Sx]
  clear h
  have HM := Lib.hid hm
  clear hm
  have h1d := h1.drew
  have H1 := Lib.hid h1d
  clear h1 h1d
  have CK := Lib.hid ck
  have CX := Lib.hid cx
  clear ck cx
  go_enter Try.func5, Try.ntmps5
  go_wp2_with fail
  go_region_held3 (fun W => W.cell? ⟨w.heap.size, 3, none⟩ = some (.int .u64 At) ∧ W.cell? ⟨w.heap.size, 5, none⟩ = some (.string Sx))
    (first | exact ⟨H1.out.c 3, H1.out.c 5⟩ | exact ⟨H3.out.c 3, H3.out.c 5⟩ | exact ⟨H2.out.c 3, H2.out.c 5⟩)
    (first | (go_at_call 26; refine (H1.out.kcall CK.out).mono ?_; rintro e w1 ⟨rfl, h2⟩; have H2 := Lib.hid h2; clear h2) | (go_at_call 27; refine (H2.out.xcall CX.out).mono ?_; rintro e w2 ⟨rfl, h3⟩; have H3 := Lib.hid h3; clear h3))
  go_wp2_with fail
  go_ret
  exact ⟨rfl, m', HM.out, H3.out.out⟩
set_option maxRecDepth 100000 in
set_option maxHeartbeats 2000000 in
theorem do_size (h : Both B w0 bm bx m m w) (N M At U : Int) (Sx : ByteArray) (kd : Int) (k0 : (kd == 0) = false) (k1 : (kd == 1) = false) (k2 : (kd == 2) = false) (k3 : (kd == 3) = false) (k4 : (kd == 4) = false) (k5 : (kd == 5) = false) (k6 : (kd == 6) = false) (k7 : (kd == 7) = false) (k8 : (kd == 8) = false) (hp : Pair2 isI64 28 #[.pointer (some ⟨bm, 0, none⟩), .int .u64 At] 29 #[.pointer (some ⟨bx, 0, none⟩), .int .u64 At] bm bx m) :
    Calls Try.prog 5 #[.pointer (some ⟨bm, 0, none⟩), .pointer (some ⟨bx, 0, none⟩), .agg #[.int .i64 kd, .int .i64 N, .int .i64 M, .int .u64 At, .int .u64 U, .string Sx]] w (DoPost B w0 bm bx m) := by
  obtain ⟨m', v, a, ⟨x, rfl⟩, hm, ck, cx⟩ := hp
  have h1 := h.enter #[.int .i64 kd, .int .i64 N, .int .i64 M, .int .u64 At, .int .u64 U, .string Sx]
  clear h
  have HM := Lib.hid hm
  clear hm
  have H1 := Lib.hid h1
  clear h1
  have CK := Lib.hid ck
  have CX := Lib.hid cx
  clear ck cx
  go_enter Try.func5, Try.ntmps5
  go_wp2_with (first
    | (go_at_call 28; refine (H1.out.kcall CK.out).mono ?_; rintro e w1 ⟨rfl, h2⟩; have d3 : w1.cell? ⟨w.heap.size, 3, none⟩ = some (.int .u64 At) := h2.c 3; have H2 := Lib.hid h2; clear h2)
    | (go_at_call 29; refine (H2.out.xcall CX.out).mono ?_; rintro e w2 ⟨rfl, h3⟩; have H3 := Lib.hid h3; clear h3))
  go_ret
  exact ⟨rfl, m', HM.out, H3.out.out⟩
end
end Go.Proofs.Ytmbkagjdhpfngaa
