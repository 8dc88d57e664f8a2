/-
  The reference's right sides, guessed. What the reference's lines want of a slot: plain words, in a room of their own. The reference's words of a line: numbers, registers, places.
-/
import Derived.Test.YtemiklbkfogjeaaGreatDoorQ27
import Derived.Test.YtemiklbkfogjeaaGreatDoorQ25
import Derived.Test.YtemiklbkfogjeaaGreatDoorQ01
import Derived.Deep.QuietTactic
import Derived.BigQuiet
import Derived.OwnWalk
namespace Go.Proofs.YtemiklbkfogjeaaGreatDoor
open Go Go.RowKit Go.Maps
set_option linter.unusedVariables false
set_option linter.unusedSimpArgs false
set_option maxRecDepth 100000
abbrev minT : ByteArray := ⟨#[45]⟩
def endsNames : List ByteArray := [⟨#[108, 101, 49, 54]⟩, ⟨#[108, 101, 51, 50]⟩, ⟨#[108, 101, 54, 52]⟩, ⟨#[98, 101, 49, 54]⟩, ⟨#[98, 101, 51, 50]⟩, ⟨#[98, 101, 54, 52]⟩, ⟨#[98, 115, 119, 97, 112, 49, 54]⟩, ⟨#[98, 115, 119, 97, 112, 51, 50]⟩, ⟨#[98, 115, 119, 97, 112, 54, 52]⟩]
def endOp (k : Int) : Int := if k < 3 then 212 else if k < 6 then 220 else 215
def endBits (k : Int) : Int := if k % 3 = 0 then 16 else if k % 3 = 1 then 32 else 64
abbrev ext8 : ByteArray := ⟨#[40, 115, 56, 41]⟩
abbrev ext16 : ByteArray := ⟨#[40, 115, 49, 54, 41]⟩
abbrev ext32 : ByteArray := ⟨#[40, 115, 51, 50, 41]⟩
/-- What stands behind the loop, or in it. -/
def tailG (w0 w2 : ByteArray) (lead : UInt8) (cl : Int) : Slot :=
 if begins w2 ext8 = true then ⟨184 + cl, regR w0 lead, regR (headR w2 ext8) lead, 8, 0⟩
 else if begins w2 ext16 = true then ⟨184 + cl, regR w0 lead, regR (headR w2 ext16) lead, 16, 0⟩
 else if begins w2 ext32 = true then ⟨184 + cl, regR w0 lead, regR (headR w2 ext32) lead, 32, 0⟩
 else ⟨if (opdR w2 lead).2.2 = true then 176 + cl + 8 else 176 + cl, regR w0 lead, (opdR w2 lead).1, 0, (opdR w2 lead).2.1⟩
def sidesG (L : List ByteArray) (lead : UInt8) (cl : Int) : Slot := match L with
 | w0 :: w1 :: w2 :: r =>
  if begins w2 minT = true ∧ r.length = 0 ∧ regR (headR w2 minT) lead = regR w0 lead then ⟨128 + cl, regR w0 lead, 0, 0, 0⟩
  else if r.length = 1 ∧ 0 ≤ findR w2 endsNames 0 then ⟨endOp (findR w2 endsNames 0), regR w0 lead, 0, 0, endBits (findR w2 endsNames 0)⟩
  else if r.length = 3 then ⟨(if (atR (w2 :: r)).sign = true then 129 else 97) + (atR (w2 :: r)).size, regR w0 lead, (atR (w2 :: r)).reg, (atR (w2 :: r)).off, 0⟩
  else tailG w0 w2 lead cl
 | _ => zeroS
/-- What lies while sides runs: the slot answered, the slot x, the words. -/
structure SA (w : World) (b o : Nat) (L : List ByteArray) (p d : Int) (wr : World) : Prop where
 below : Below w.heap.size w wr
 res : Blk wr w.heap.size isT' #[.int .i64 0, .int .i64 0, .int .i64 0, .int .i64 0, .int .i64 0]
 x : Blk wr (w.heap.size + 1) isT' #[.int .i64 p, .int .i64 d, .int .i64 0, .int .i64 0, .int .i64 0]
 words : StrsAt wr (some ⟨b, o, none⟩) L
 hb : b < w.heap.size
theorem SA.grow {w : World} {b o : Nat} {L : List ByteArray} {p d : Int} {wr wr' : World} (h : SA w b o L p d wr) (k : Below wr.heap.size wr wr') : SA w b o L p d wr' :=
 ⟨below_on' h.below k, blk_on' h.res k, blk_on' h.x k, h.words.below k, h.hb⟩
theorem SA.start {w : World} {b o : Nat} {L : List ByteArray} (h : StrsAt w (some ⟨b, o, none⟩) L) (hb : b < w.heap.size) (p d : Int) : SA w b o L p d ((w.alloc (.cells #[.int .i64 0, .int .i64 0, .int .i64 0, .int .i64 0, .int .i64 0] 38)).alloc (.cells #[.int .i64 p, .int .i64 d, .int .i64 0, .int .i64 0, .int .i64 0] 38)) := by
 have b1 : Below w.heap.size w (w.alloc (.cells #[.int .i64 0, .int .i64 0, .int .i64 0, .int .i64 0, .int .i64 0] 38)) := newI_below w
 have b2 : Below w.heap.size w ((w.alloc (.cells #[.int .i64 0, .int .i64 0, .int .i64 0, .int .i64 0, .int .i64 0] 38)).alloc (.cells #[.int .i64 p, .int .i64 d, .int .i64 0, .int .i64 0, .int .i64 0] 38)) := b1.alloc b1.size _
 refine ⟨b2, (Blk.new w _ _).alloc _, ?_, h.below b2, hb⟩
 have := Blk.new (w.alloc (.cells #[.int .i64 0, .int .i64 0, .int .i64 0, .int .i64 0, .int .i64 0] 38)) 38 #[.int .i64 p, .int .i64 d, .int .i64 0, .int .i64 0, .int .i64 0]
 simpa using this
theorem SA.end_ {w : World} {b o : Nat} {L : List ByteArray} {p d : Int} {wr : World} (h : SA w b o L p d wr) (a0 a1 a2 a3 a4 : Value) :
  Below w.heap.size w (((((wr.setCell ⟨w.heap.size, 0, none⟩ a0).setCell ⟨w.heap.size, 1, none⟩ a1).setCell ⟨w.heap.size, 2, none⟩ a2).setCell ⟨w.heap.size, 3, none⟩ a3).setCell ⟨w.heap.size, 4, none⟩ a4) ∧ Blk (((((wr.setCell ⟨w.heap.size, 0, none⟩ a0).setCell ⟨w.heap.size, 1, none⟩ a1).setCell ⟨w.heap.size, 2, none⟩ a2).setCell ⟨w.heap.size, 3, none⟩ a3).setCell ⟨w.heap.size, 4, none⟩ a4) w.heap.size isT' #[a0, a1, a2, a3, a4] :=
 own_five (Nat.le_refl _) h.below h.res a0 a1 a2 a3 a4
/-- A word of them, and the slot's cells. -/
theorem SA.word {w : World} {b o : Nat} {L : List ByteArray} {p d : Int} {wr : World} (h : SA w b o L p d wr) (i : Nat) (s : ByteArray) (hs : L[i]? = some s) : wr.cell? ⟨b, o + i, none⟩ = some (.string s) := by
 obtain ⟨b', o', e, _, hc⟩ := h.words i s hs
 cases e
 exact hc
theorem list_three {L : List ByteArray} (h : 3 ≤ L.length) : ∃ w0 w1 w2 r, L = w0 :: w1 :: w2 :: r := by
 match L, h with
 | w0 :: w1 :: w2 :: r, _ => exact ⟨w0, w1, w2, r, rfl⟩
/-! ### the walk -/
theorem below_alloc' (w : World) (x : Obj) : Below w.heap.size w (w.alloc x) := (Below.refl _ w).alloc (Nat.le_refl _) x
/-- What the calls answer that sides makes, whatever the world: the words are w0 and w2. -/
structure SC (w0 w2 : ByteArray) (lead : UInt8) (d : Int) (b1 : Bool) (h1 : ByteArray) (e1 : Int) (fi : Int) : Prop where
 c0 : ∀ W, Calls Tryz.prog 34 #[.string w0, .int .u8 (lead.toNat : Int)] W fun e w' => e = .returned (.int .i64 d) ∧ W = w'
 ch : ∀ W, Calls Tryz.prog 36 #[.string w2, .string ⟨#[45]⟩] W fun e w' => e = .returned (.tuple #[.string h1, .bool b1]) ∧ W = w'
 c1 : ∀ W, Calls Tryz.prog 34 #[.string h1, .int .u8 (lead.toNat : Int)] W fun e w' => e = .returned (.int .i64 e1) ∧ W = w'
 cf : ∀ W : World, Calls Tryz.prog 37 #[.slice (some ⟨W.heap.size, 0, none⟩) 9 9, .string w2] (W.alloc (.cells #[.string ⟨#[108, 101, 49, 54]⟩, .string ⟨#[108, 101, 51, 50]⟩, .string ⟨#[108, 101, 54, 52]⟩, .string ⟨#[98, 101, 49, 54]⟩, .string ⟨#[98, 101, 51, 50]⟩, .string ⟨#[98, 101, 54, 52]⟩, .string ⟨#[98, 115, 119, 97, 112, 49, 54]⟩, .string ⟨#[98, 115, 119, 97, 112, 51, 50]⟩, .string ⟨#[98, 115, 119, 97, 112, 54, 52]⟩] 9)) fun e w' => e = .returned (.int .i64 fi) ∧ W.alloc (.cells #[.string ⟨#[108, 101, 49, 54]⟩, .string ⟨#[108, 101, 51, 50]⟩, .string ⟨#[108, 101, 54, 52]⟩, .string ⟨#[98, 101, 49, 54]⟩, .string ⟨#[98, 101, 51, 50]⟩, .string ⟨#[98, 101, 54, 52]⟩, .string ⟨#[98, 115, 119, 97, 112, 49, 54]⟩, .string ⟨#[98, 115, 119, 97, 112, 51, 50]⟩, .string ⟨#[98, 115, 119, 97, 112, 54, 52]⟩] 9) = w'
theorem sc_any (w0 w2 : ByteArray) (lead : UInt8) (h0 : w0.size ≤ 4611686018427387904) (h2 : w2.size ≤ 4611686018427387904) : SC w0 w2 lead (regR w0 lead) (begins w2 minT) (headR w2 minT) (regR (headR w2 minT) lead) (findR w2 endsNames 0) where
 c0 W := regOf04_any w0 lead h0 W
 ch W := head04_any w2 minT h2 (by decide) W
 c1 W := regOf04_any (headR w2 minT) lead (Nat.le_trans (headR_le _ _) h2) W
 cf W := find04_any _ 9 endsNames w2 (by decide) _ (strs_lit W endsNames)
set_option maxHeartbeats 8000000 in
theorem sides_minus (b o c n : Nat) (w0 w1 w2 : ByteArray) (r : List ByteArray) (hn : n = r.length + 3) (hc : n ≤ c) (hc2 : c ≤ 9223372036854775807) (lead : UInt8) (cl : Int) (hcl : 0 ≤ cl ∧ cl ≤ 7) (w : World) (hA : StrsAt w (some ⟨b, o, none⟩) (w0 :: w1 :: w2 :: r)) (hb : b < w.heap.size)
  {d : Int} {b1 : Bool} {h1 : ByteArray} {e1 fi : Int} (sc : SC w0 w2 lead d b1 h1 e1 fi) (h3 : r.length = 0) (hb1 : b1 = true) (he1 : e1 = d) :
  Calls Tryz.prog 35 #[.slice (some ⟨b, o, none⟩) n c, .int .u8 (lead.toNat : Int), .int .i64 cl] w (SaysI w ⟨128 + cl, d, 0, 0, 0⟩) := by
 have C0 := Lib.hid sc.c0
 have CH := Lib.hid sc.ch
 have C1 := Lib.hid sc.c1
 have CF := Lib.hid sc.cf
 have c0 : (w.alloc (.cells #[.int .i64 0, .int .i64 0, .int .i64 0, .int .i64 0, .int .i64 0] 38)).cell? ⟨b, o, none⟩ = some (.string w0) := by
  obtain ⟨b', o', e, h1, h2⟩ := (hA.below (newI_below w)) 0 w0 rfl
  cases e; exact h2
 have S0 := Lib.hid (SA.start hA hb (176 + cl) d)
 have a1 : IntKind.i64.wrap (176 + cl) = 176 + cl := IntWalk.i64_in _ (by omega)
 have a2 : IntKind.i64.wrap (128 + cl) = 128 + cl := IntWalk.i64_in _ (by omega)
 have i0 : (0 : Int) < (n : Int) := by omega
 have i2 : (2 : Int) < (n : Int) := by omega
 have n3 : ((n : Int) == 3) = true := by simp; omega
 have n3' : (n == 3) = true := by simp; omega
 have ee : (e1 == d) = true := by simp [he1]
 subst hb1
 clear h3 he1
 clear sc hA hb hn
 go_enter Tryz.func35, Tryz.ntmps35
 go_upto_region 3 with (go_at_call 34; refine (C0.out _).mono ?_; rintro e w1 ⟨rfl, rfl⟩)
 obtain ⟨W2, hW2⟩ : ∃ W2, ((w.alloc (.cells #[.int .i64 0, .int .i64 0, .int .i64 0, .int .i64 0, .int .i64 0] 38)).alloc (.cells #[.int .i64 (176 + cl), .int .i64 d, .int .i64 0, .int .i64 0, .int .i64 0] 38)) = W2 := ⟨_, rfl⟩
 rw [hW2] at S0 ⊢
 clear hW2 c0
 have q2 : W2.cell? ⟨b, o + 2, none⟩ = some (.string w2) := S0.out.word 2 w2 rfl
 have z0 := S0.out.res.frozen 0
 have z1 := S0.out.res.frozen 1
 have z2 := S0.out.res.frozen 2
 have z3 := S0.out.res.frozen 3
 have z4 := S0.out.res.frozen 4
 have k0 := S0.out.res.cell 0
 have k1 := S0.out.res.cell 1
 have k2 := S0.out.res.cell 2
 have k3 := S0.out.res.cell 3
 have k4 := S0.out.res.cell 4
 go_wp2_with (first
  | (go_at_call 36; refine (CH.out _).mono ?_; rintro e w1 ⟨rfl, rfl⟩)
  | (go_at_call 34; refine (C1.out _).mono ?_; rintro e w1 ⟨rfl, rfl⟩))
 have H9 := Lib.hid (S0.out.end_ (.int .i64 (128 + cl)) (.int .i64 d) (.int .i64 0) (.int .i64 0) (.int .i64 0))
 refine bodyPost_ret (results_cell_row rfl _ _ w.heap.size isT' _ (0, 0) _ rfl H9.out.2 Tryz.underlying38 rfl (by kernel_rfl)) rfl ?_
 exact ⟨rfl, H9.out.1⟩
set_option maxHeartbeats 8000000 in
theorem sides_turn (b o c n : Nat) (w0 w1 w2 : ByteArray) (r : List ByteArray) (hn : n = r.length + 3) (hc : n ≤ c) (hc2 : c ≤ 9223372036854775807) (lead : UInt8) (cl : Int) (hcl : 0 ≤ cl ∧ cl ≤ 7) (w : World) (hA : StrsAt w (some ⟨b, o, none⟩) (w0 :: w1 :: w2 :: r)) (hb : b < w.heap.size)
  {d : Int} {b1 : Bool} {h1 : ByteArray} {e1 fi : Int} (sc : SC w0 w2 lead d b1 h1 e1 fi) (h4 : r.length = 1) (hfi : fi = 0 ∨ fi = 1 ∨ fi = 2 ∨ fi = 3 ∨ fi = 4 ∨ fi = 5 ∨ fi = 6 ∨ fi = 7 ∨ fi = 8) :
  Calls Tryz.prog 35 #[.slice (some ⟨b, o, none⟩) n c, .int .u8 (lead.toNat : Int), .int .i64 cl] w (SaysI w ⟨endOp fi, d, 0, 0, endBits fi⟩) := by
 have C0 := Lib.hid sc.c0
 have CH := Lib.hid sc.ch
 have C1 := Lib.hid sc.c1
 have CF := Lib.hid sc.cf
 have c0 : (w.alloc (.cells #[.int .i64 0, .int .i64 0, .int .i64 0, .int .i64 0, .int .i64 0] 38)).cell? ⟨b, o, none⟩ = some (.string w0) := by
  obtain ⟨b', o', e, h1, h2⟩ := (hA.below (newI_below w)) 0 w0 rfl
  cases e; exact h2
 have S0 := Lib.hid (SA.start hA hb (176 + cl) d)
 have a1 : IntKind.i64.wrap (176 + cl) = 176 + cl := IntWalk.i64_in _ (by omega)
 have a2 : IntKind.i64.wrap (128 + cl) = 128 + cl := IntWalk.i64_in _ (by omega)
 have i0 : (0 : Int) < (n : Int) := by omega
 have i2 : (2 : Int) < (n : Int) := by omega
 have n3 : ((n : Int) == 3) = false := by simp; omega
 have n3' : (n == 3) = false := by simp; omega
 have n4 : ((n : Int) == 4) = true := by simp; omega
 have n4' : (n == 4) = true := by simp; omega
 have n6 : ((n : Int) == 6) = false := by simp; omega
 have n6' : (n == 6) = false := by simp; omega
 clear h4
 clear sc hA hb hn
 go_enter Tryz.func35, Tryz.ntmps35
 go_upto_region 3 with (go_at_call 34; refine (C0.out _).mono ?_; rintro e w1 ⟨rfl, rfl⟩)
 obtain ⟨W2, hW2⟩ : ∃ W2, ((w.alloc (.cells #[.int .i64 0, .int .i64 0, .int .i64 0, .int .i64 0, .int .i64 0] 38)).alloc (.cells #[.int .i64 (176 + cl), .int .i64 d, .int .i64 0, .int .i64 0, .int .i64 0] 38)) = W2 := ⟨_, rfl⟩
 rw [hW2] at S0 ⊢
 clear hW2 c0
 have q2 : W2.cell? ⟨b, o + 2, none⟩ = some (.string w2) := S0.out.word 2 w2 rfl
 have S3 := Lib.hid ((S0.out.grow (below_alloc' W2 (.cells #[.string ⟨#[108, 101, 49, 54]⟩, .string ⟨#[108, 101, 51, 50]⟩, .string ⟨#[108, 101, 54, 52]⟩, .string ⟨#[98, 101, 49, 54]⟩, .string ⟨#[98, 101, 51, 50]⟩, .string ⟨#[98, 101, 54, 52]⟩, .string ⟨#[98, 115, 119, 97, 112, 49, 54]⟩, .string ⟨#[98, 115, 119, 97, 112, 51, 50]⟩, .string ⟨#[98, 115, 119, 97, 112, 54, 52]⟩] 9))).grow (below_alloc' _ (.cells #[.int .i64 212, .int .i64 220, .int .i64 215] 3)))
 have S2 := Lib.hid (S0.out.grow (below_alloc' W2 (.cells #[.string ⟨#[108, 101, 49, 54]⟩, .string ⟨#[108, 101, 51, 50]⟩, .string ⟨#[108, 101, 54, 52]⟩, .string ⟨#[98, 101, 49, 54]⟩, .string ⟨#[98, 101, 51, 50]⟩, .string ⟨#[98, 101, 54, 52]⟩, .string ⟨#[98, 115, 119, 97, 112, 49, 54]⟩, .string ⟨#[98, 115, 119, 97, 112, 51, 50]⟩, .string ⟨#[98, 115, 119, 97, 112, 54, 52]⟩] 9)))
 have q3 : (W2.alloc (.cells #[.string ⟨#[108, 101, 49, 54]⟩, .string ⟨#[108, 101, 51, 50]⟩, .string ⟨#[108, 101, 54, 52]⟩, .string ⟨#[98, 101, 49, 54]⟩, .string ⟨#[98, 101, 51, 50]⟩, .string ⟨#[98, 101, 54, 52]⟩, .string ⟨#[98, 115, 119, 97, 112, 49, 54]⟩, .string ⟨#[98, 115, 119, 97, 112, 51, 50]⟩, .string ⟨#[98, 115, 119, 97, 112, 54, 52]⟩] 9)).cell? ⟨b, o + 2, none⟩ = some (.string w2) := S2.out.word 2 w2 rfl
 have z0 := S3.out.res.frozen 0
 have z1 := S3.out.res.frozen 1
 have z2 := S3.out.res.frozen 2
 have z3 := S3.out.res.frozen 3
 have z4 := S3.out.res.frozen 4
 have k0 := S3.out.res.cell 0
 have k1 := S3.out.res.cell 1
 have k2 := S3.out.res.cell 2
 have k3 := S3.out.res.cell 3
 have k4 := S3.out.res.cell 4
 rcases hfi with rfl | rfl | rfl | rfl | rfl | rfl | rfl | rfl | rfl
 all_goals
  cases b1
  all_goals
   go_wp2_with (first
    | (go_at_call 36; refine (CH.out _).mono ?_; rintro e w1 ⟨rfl, rfl⟩)
    | (go_at_call 37; refine (CF.out _).mono ?_; rintro e w3 ⟨rfl, rfl⟩))
   refine bodyPost_ret (results_cell_row rfl _ _ w.heap.size isT' _ (0, 0) _ rfl (S3.out.end_ _ _ _ _ _).2 Tryz.underlying38 rfl (by kernel_rfl)) rfl ?_
   exact ⟨rfl, (S3.out.end_ _ _ _ _ _).1⟩
set_option maxHeartbeats 8000000 in
theorem sides_load (b o c n : Nat) (w0 w1 w2 : ByteArray) (r : List ByteArray) (hn : n = r.length + 3) (hc : n ≤ c) (hc2 : c ≤ 9223372036854775807) (lead : UInt8) (cl : Int) (hcl : 0 ≤ cl ∧ cl ≤ 7) (w : World) (hA : StrsAt w (some ⟨b, o, none⟩) (w0 :: w1 :: w2 :: r)) (hb : b < w.heap.size)
  {d : Int} {b1 : Bool} {h1 : ByteArray} {e1 fi : Int} (sc : SC w0 w2 lead d b1 h1 e1 fi) {A : AtA} (hs : -1000 ≤ A.size ∧ A.size ≤ 24) (h6 : r.length = 3) (ca : ∀ W, StrsAt W (some ⟨b, o, none⟩) (w0 :: w1 :: w2 :: r) → Calls Tryz.prog 62 #[.slice (some ⟨b, o + 2, none⟩) (n - 2) (c - 2)] W fun e w' => e = .returned (.tuple #[.int .i64 A.size, .bool A.sign, .int .i64 A.reg, .int .i64 A.off]) ∧ Below W.heap.size W w') :
  Calls Tryz.prog 35 #[.slice (some ⟨b, o, none⟩) n c, .int .u8 (lead.toNat : Int), .int .i64 cl] w (SaysI w ⟨(if A.sign = true then 129 else 97) + A.size, d, A.reg, A.off, 0⟩) := by
 have C0 := Lib.hid sc.c0
 have CH := Lib.hid sc.ch
 have C1 := Lib.hid sc.c1
 have CF := Lib.hid sc.cf
 have c0 : (w.alloc (.cells #[.int .i64 0, .int .i64 0, .int .i64 0, .int .i64 0, .int .i64 0] 38)).cell? ⟨b, o, none⟩ = some (.string w0) := by
  obtain ⟨b', o', e, h1, h2⟩ := (hA.below (newI_below w)) 0 w0 rfl
  cases e; exact h2
 have S0 := Lib.hid (SA.start hA hb (176 + cl) d)
 have a1 : IntKind.i64.wrap (176 + cl) = 176 + cl := IntWalk.i64_in _ (by omega)
 have a2 : IntKind.i64.wrap (128 + cl) = 128 + cl := IntWalk.i64_in _ (by omega)
 have i0 : (0 : Int) < (n : Int) := by omega
 have i2 : (2 : Int) < (n : Int) := by omega
 have n3 : ((n : Int) == 3) = false := by simp; omega
 have n3' : (n == 3) = false := by simp; omega
 have n4 : ((n : Int) == 4) = false := by simp; omega
 have n4' : (n == 4) = false := by simp; omega
 have n6 : ((n : Int) == 6) = true := by simp; omega
 have n6' : (n == 6) = true := by simp; omega
 have hn6 : n = 6 := by omega
 have CA := Lib.hid ca
 have e5 : IntKind.i64.wrap ((n : Int) - 2) = ((n - 2 : Nat) : Int) := by rw [IntWalk.i64_in _ (by omega)]; omega
 have e6 : IntKind.i64.wrap ((c : Int) - 2) = ((c - 2 : Nat) : Int) := by rw [IntWalk.i64_in _ (by omega)]; omega
 have l1 : (2 : Int) ≤ (n : Int) := by omega
 have l2 : (n : Int) ≤ (c : Int) := by omega
 have e7 : IntKind.i64.wrap (129 + A.size) = 129 + A.size := IntWalk.i64_in _ (by omega)
 have e8 : IntKind.i64.wrap (97 + A.size) = 97 + A.size := IntWalk.i64_in _ (by omega)
 obtain ⟨sz, sg, rg, of⟩ := A
 clear ca h6 hs hn6
 clear sc hA hb hn
 go_enter Tryz.func35, Tryz.ntmps35
 go_upto_region 3 with (go_at_call 34; refine (C0.out _).mono ?_; rintro e w1 ⟨rfl, rfl⟩)
 obtain ⟨W2, hW2⟩ : ∃ W2, ((w.alloc (.cells #[.int .i64 0, .int .i64 0, .int .i64 0, .int .i64 0, .int .i64 0] 38)).alloc (.cells #[.int .i64 (176 + cl), .int .i64 d, .int .i64 0, .int .i64 0, .int .i64 0] 38)) = W2 := ⟨_, rfl⟩
 rw [hW2] at S0 ⊢
 clear hW2 c0
 have q2 : W2.cell? ⟨b, o + 2, none⟩ = some (.string w2) := S0.out.word 2 w2 rfl
 cases sg
 all_goals
  cases b1
  all_goals
   go_wp2_with (first
    | (go_at_call 36; refine (CH.out _).mono ?_; rintro e w1 ⟨rfl, rfl⟩)
    | (go_at_call 62; refine (CA.out _ S0.out.words).mono ?_; rintro e w3 ⟨rfl, hb⟩; have S3 := Lib.hid (S0.out.grow hb); clear hb; have z0 := S3.out.res.frozen 0; have z1 := S3.out.res.frozen 1; have z2 := S3.out.res.frozen 2; have z3 := S3.out.res.frozen 3; have z4 := S3.out.res.frozen 4; have k0 := S3.out.res.cell 0; have k1 := S3.out.res.cell 1; have k2 := S3.out.res.cell 2; have k3 := S3.out.res.cell 3; have k4 := S3.out.res.cell 4))
   refine bodyPost_ret (results_cell_row rfl _ _ w.heap.size isT' _ (0, 0) _ rfl (S3.out.end_ _ _ _ _ _).2 Tryz.underlying38 rfl (by kernel_rfl)) rfl ?_
   exact ⟨rfl, (S3.out.end_ _ _ _ _ _).1⟩
end Go.Proofs.YtemiklbkfogjeaaGreatDoor
namespace Go.Proofs.YtemiklbkfogjeaaGreatDoor.Ln
open Go Go.RowKit
set_option linter.unusedVariables false
set_option linter.unusedSimpArgs false
set_option maxRecDepth 100000
def turnB (o s f m : Int) : Bool := ((o == 212) || ((o == 220) || (o == 215))) && ((s == 0) && ((f == 0) && ((m == 16) || ((m == 32) || (m == 64)))))
def CB (b : Nat) (o d s f m : Int) (w : World) : Prop := w.cell? ⟨b, 0, none⟩ = some (.int .i64 o) ∧ w.cell? ⟨b, 1, none⟩ = some (.int .i64 d) ∧ w.cell? ⟨b, 2, none⟩ = some (.int .i64 s) ∧ w.cell? ⟨b, 3, none⟩ = some (.int .i64 f) ∧ w.cell? ⟨b, 4, none⟩ = some (.int .i64 m)
theorem CB.below {w w' : World} {b : Nat} {o d s f m : Int} (h : CB b o d s f m w) (hb : Below w.heap.size w w') (hlt : b < w.heap.size) : CB b o d s f m w' := by
 obtain ⟨h0, h1, h2, h3, h4⟩ := h
 exact ⟨by rw [hb.cell (by simpa using hlt)]; exact h0, by rw [hb.cell (by simpa using hlt)]; exact h1, by rw [hb.cell (by simpa using hlt)]; exact h2, by rw [hb.cell (by simpa using hlt)]; exact h3, by rw [hb.cell (by simpa using hlt)]; exact h4⟩
theorem ret_str {a b : ByteArray} (h : a.data = b.data) : Ending.returned (.string a) = .returned (.string b) := by rw [ByteArray.ext h]
def digL (n : Int) : List UInt8 := if n < 0 then [45] ++ decL (-n).toNat else decL n.toNat
theorem digL_len (n : Int) (h : -10000000000 < n ∧ n < 10000000000) : (digL n).length ≤ 11 := by
 unfold digL
 split
 ·have := decL_len 9 (-n).toNat (by show (-n).toNat < 10000000000; omega)
  simp; omega
 ·have := decL_len 9 n.toNat (by show n.toNat < 10000000000; omega)
  omega
theorem digL_pos (n : Int) : 0 < (digL n).length := by
 unfold digL
 split
 ·simp
 ·exact decL_pos _
set_option maxHeartbeats 400000 in
theorem digits_any (n : Int) (h : -10000000000 < n ∧ n < 10000000000) (w : World) :
  Calls Tryz.prog 44 #[.int .i64 n] w fun e w' => e = .returned (.string (tx (digL n))) ∧ Below w.heap.size w w' := by
 by_cases hn : n < 0
 ·have g1 : decide (n < 0) = true := by simpa using hn
  have e1 : digL n = [45] ++ decL (-n).toNat := by unfold digL; rw [if_pos hn]
  have e3 : IntKind.u64.wrap (-IntKind.u64.wrap n) = (((-n).toNat : Nat) : Int) := by rw [IntKind.wrap_u64, IntKind.wrap_u64]; omega
  have CU := Lib.hid (udigits_any (-n).toNat (by omega))
  have hs : (tx (decL (-n).toNat)).size ≤ 10 := by rw [tx_size]; exact decL_len 9 _ (by show (-n).toNat < 10000000000; omega)
  rw [e1]
  have HH := Lib.hid h
  clear e1 h hn
  generalize (-n).toNat = m at *
  go_enter Tryz.func44, Tryz.ntmps44
  go_wp2_with (go_at_call 42; refine (CU.out _).mono ?_; rintro e w1 ⟨rfl, hb⟩; have HB := Lib.hid hb; clear hb)
  go_ret
  exact ⟨ret_str (by simp [tx, ByteArray.data_append]), HB.out⟩
 ·have g1 : decide (n < 0) = false := by simpa using hn
  obtain ⟨m, rfl⟩ := Int.eq_ofNat_of_zero_le (show 0 ≤ n by omega)
  have e1 : digL (m : Int) = decL m := by unfold digL; rw [if_neg hn]; rfl
  have e3 : IntKind.u64.wrap (m : Int) = (m : Int) := by rw [IntKind.wrap_u64]; omega
  have CU := Lib.hid (udigits_any m (by omega))
  have hs : (tx (decL m)).size ≤ 10 := by rw [tx_size]; exact decL_len 9 _ (by show m < 10000000000; omega)
  rw [e1]
  clear e1 hn
  go_enter Tryz.func44, Tryz.ntmps44
  go_wp2_with (go_at_call 42; refine (CU.out _).mono ?_; rintro e w1 ⟨rfl, hb⟩; have HB := Lib.hid hb; clear hb)
  go_ret
  exact ⟨ret_str (by simp [tx, ByteArray.data_append]), HB.out⟩
def regIn (n : Int) : Bool := decide (0 ≤ n) && decide (n ≤ 10)
/-- A register's name; none, if it is none. -/
def regL (lead : List UInt8) (n : Int) : List UInt8 := if regIn n then lead ++ digL n else []
theorem regL_len (lead : List UInt8) (n : Int) : (regL lead n).length ≤ lead.length + 11 := by
 unfold regL regIn
 split
 ·rename_i h
  simp at h
  have := digL_len n (by omega)
  simp; omega
 ·simp
theorem regL_empty (lead : List UInt8) (n : Int) : (regL lead n = []) ↔ regIn n = false := by
 unfold regL
 cases h : regIn n
 ·simp
 ·have := digL_pos n
  simp
  intro _ hn
  rw [hn] at this
  simp at this
set_option maxHeartbeats 1000000 in
theorem reg_any (lead : List UInt8) (hl : lead.length ≤ 10) (n : Int) (w : World) :
  Calls Tryz.prog 40 #[.string (tx lead), .int .i64 n] w fun e w' => e = .returned (.string (tx (regL lead n))) ∧ Below w.heap.size w w' := by
 have hr : regIn n = (decide (0 ≤ n) && decide (n ≤ 10)) := rfl
 by_cases h0 : n < 0
 ·have g1 : decide (n < 0) = true := by simpa using h0
  have e1 : regL lead n = [] := by unfold regL; rw [if_neg (by rw [hr]; simp; omega)]
  rw [e1]
  clear e1 hr
  go_enter Tryz.func40, Tryz.ntmps40
  go_wp2_with fail
  go_ret
  exact ⟨rfl, Below.refl _ w⟩
 ·have g1 : decide (n < 0) = false := by simpa using h0
  by_cases h1 : 10 < n
  ·have g2 : decide (10 < n) = true := by simpa using h1
   have e1 : regL lead n = [] := by unfold regL; rw [if_neg (by rw [hr]; simp; omega)]
   rw [e1]
   clear e1 hr
   go_enter Tryz.func40, Tryz.ntmps40
   go_wp2_with fail
   go_ret
   exact ⟨rfl, Below.refl _ w⟩
  ·have g2 : decide (10 < n) = false := by simpa using h1
   have e1 : regL lead n = lead ++ digL n := by unfold regL; rw [if_pos (by rw [hr]; simp; omega)]
   have CD := Lib.hid (digits_any n (by omega))
   have hs : (tx (digL n)).size ≤ 11 := by rw [tx_size]; exact digL_len n (by omega)
   have hs2 : (tx lead).size ≤ 10 := by rw [tx_size]; exact hl
   rw [e1]
   clear e1 hr
   go_enter Tryz.func40, Tryz.ntmps40
   go_wp2_with (go_at_call 44; refine (CD.out _).mono ?_; rintro e w1 ⟨rfl, hb⟩; have HB := Lib.hid hb; clear hb)
   go_ret
   exact ⟨ret_str (by simp [tx, ByteArray.data_append]), HB.out⟩
def signedL (n : Int) : List UInt8 := if n < 0 then digL n else [43] ++ digL n
theorem signedL_len (n : Int) (h : -10000000000 < n ∧ n < 10000000000) : (signedL n).length ≤ 12 := by
 have := digL_len n h
 unfold signedL
 split
 ·omega
 ·simp; omega
set_option maxHeartbeats 1000000 in
theorem signed_any (n : Int) (h : -10000000000 < n ∧ n < 10000000000) (w : World) :
  Calls Tryz.prog 93 #[.int .i64 n] w fun e w' => e = .returned (.string (tx (signedL n))) ∧ Below w.heap.size w w' := by
 have CD := Lib.hid (digits_any n h)
 have hs : (tx (digL n)).size ≤ 11 := by rw [tx_size]; exact digL_len n h
 unfold signedL
 cases h1 : decide (n < 0)
 ·have hn : ¬ n < 0 := of_decide_eq_false h1
  rw [if_neg hn]
  clear hn h
  go_enter Tryz.func93, Tryz.ntmps93
  go_wp2_with (go_at_call 44; refine (CD.out _).mono ?_; rintro e w1 ⟨rfl, hb⟩; have HB := Lib.hid hb; clear hb)
  go_ret
  exact ⟨ret_str (by simp [tx, ByteArray.data_append]), HB.out⟩
 ·have hn : n < 0 := of_decide_eq_true h1
  rw [if_pos hn]
  clear hn h
  go_enter Tryz.func93, Tryz.ntmps93
  go_wp2_with (go_at_call 44; refine (CD.out _).mono ?_; rintro e w1 ⟨rfl, hb⟩; have HB := Lib.hid hb; clear hb)
  go_ret
  exact ⟨rfl, HB.out⟩
def immIn (n : Int) : Bool := decide (-2147483648 ≤ n) && decide (n ≤ 2147483647)
def offIn (n : Int) : Bool := decide (-32768 ≤ n) && decide (n ≤ 32767)
theorem imm04_any (n : Int) (w : World) :
  Calls Tryz.prog 41 #[.int .i64 n] w fun e w' => e = .returned (.bool (immIn n)) ∧ w = w' := by
 unfold immIn
 cases h1 : decide (-2147483648 ≤ n) <;> cases h2 : decide (n ≤ 2147483647)
 all_goals
  go_enter Tryz.func41, Tryz.ntmps41
  go_wp2_with fail
  go_ret
  exact ⟨rfl, rfl⟩
theorem off04_any (n : Int) (w : World) :
  Calls Tryz.prog 90 #[.int .i64 n] w fun e w' => e = .returned (.bool (offIn n)) ∧ w = w' := by
 unfold offIn
 cases h1 : decide (-32768 ≤ n) <;> cases h2 : decide (n ≤ 32767)
 all_goals
  go_enter Tryz.func90, Tryz.ntmps90
  go_wp2_with fail
  go_ret
  exact ⟨rfl, rfl⟩
end Go.Proofs.YtemiklbkfogjeaaGreatDoor.Ln
