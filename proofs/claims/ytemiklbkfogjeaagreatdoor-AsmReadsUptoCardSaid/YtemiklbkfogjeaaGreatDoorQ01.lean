/-
  Lay64 of package insn: two rounds that write an array. Lists of slots as they lie; their bytes; rows that the call itself made. Package asm, writing: numbers as texts, registers, offsets. Package asm: a word's number, read rune by rune.
-/
import Derived.Test.YtemiklbkfogjeaaGreatDoorQ00
import Derived.OwnWalk
import Derived.Laws.MakeOwn
import Derived.Maps.AppendAt
import Derived.Lib.BufferRead
import Derived.Lib.SlBytesRow
import Derived.Shelf.Bytes.SlSmallAll
import Derived.Test.YtemiklbkfogjeaaGreatDoorShelf
import Derived.Lib.ItoaLen
import Derived.Test.YtemiklbkfogjeaaGreatDoorRows
import Derived.WalkKit
import Derived.Lib.Hide
import Derived.Lib.Strings
import Derived.IntWalk
import Derived.WalkSpells
import Derived.BigQuiet
import Derived.Laws.RangeAny
import Derived.Outline
namespace Go.Proofs.YtemiklbkfogjeaaGreatDoor
open Go Go.RowKit
set_option linter.unusedVariables false
set_option linter.unusedSimpArgs false
def layC (d a b : Int) : Array Value := #[.int .i64 24, .int .i64 d, .int .i64 0, .int .i64 0, .int .i64 a, .int .i64 0, .int .i64 0, .int .i64 0, .int .i64 0, .int .i64 b]
def LayAt (w wr : World) (d a b : Int) : Prop := Below w.heap.size w wr ∧ Blk wr w.heap.size 66 #[.int .i64 0, .int .i64 0, .int .i64 0, .int .i64 0, .int .i64 0, .int .i64 0, .int .i64 0, .int .i64 0, .int .i64 0, .int .i64 0] ∧ Blk wr (w.heap.size + 1) 66 (layC d a b)
theorem LayAt.set4 {w wr : World} {d a b : Int} (h : LayAt w wr d a b) (x : Int) : LayAt w (wr.setCell ⟨w.heap.size + 1, 4, none⟩ (.int .i64 x)) d x b :=
 ⟨h.1.setCell (by simp) _, h.2.1.far (by simp) _, by simpa [layC] using h.2.2.set_ 4 (.int .i64 x)⟩
theorem LayAt.set9 {w wr : World} {d a b : Int} (h : LayAt w wr d a b) (x : Int) : LayAt w (wr.setCell ⟨w.heap.size + 1, 9, none⟩ (.int .i64 x)) d a x :=
 ⟨h.1.setCell (by simp) _, h.2.1.far (by simp) _, by simpa [layC] using h.2.2.set_ 9 (.int .i64 x)⟩
set_option maxHeartbeats 1000000 in
theorem lay_any (d n : Int) (hn : 0 ≤ n ∧ n ≤ 18446744073709551615) (w : World) :
  Calls Tryz.prog 53 #[.int .i64 d, .int .u64 n] w fun e w' => e = .returned (layV d n) ∧ Below w.heap.size w w' := by
 have e1 := wrap3264 n
 have e2 := wrap3264 (n / 4294967296)
 have h0 : LayAt w ((w.alloc (.cells #[.int .i64 0, .int .i64 0, .int .i64 0, .int .i64 0, .int .i64 0, .int .i64 0, .int .i64 0, .int .i64 0, .int .i64 0, .int .i64 0] 66)).alloc (.cells #[.int .i64 24, .int .i64 d, .int .i64 0, .int .i64 0, .int .i64 0, .int .i64 0, .int .i64 0, .int .i64 0, .int .i64 0, .int .i64 0] 66)) d 0 0 :=
  ⟨((Below.refl _ w).alloc (Nat.le_refl _) _).alloc (by simp) _, (Blk.new w _ _).alloc _, by have := Blk.new (w.alloc (.cells #[.int .i64 0, .int .i64 0, .int .i64 0, .int .i64 0, .int .i64 0, .int .i64 0, .int .i64 0, .int .i64 0, .int .i64 0, .int .i64 0] 66)) 66 (layC d 0 0); simpa [layC] using this⟩
 have H0 := Lib.hid h0
 clear h0
 go_enter Tryz.func53, Tryz.ntmps53
 go_wp2_with fail
 go_loopw [10] (fun i wr => (i = .int .i64 0 ∧ LayAt w wr d 0 0) ∨ (i = .int .i64 1 ∧ LayAt w wr d (wrap32 n) 0) ∨ (i = .int .i64 2 ∧ LayAt w wr d (wrap32 n) (wrap32 (n / 4294967296)))) (fun i _ => 2 - (intOf i).toNat)
 case atStart => exact .inl ⟨rfl, H0.out⟩
 case round =>
  clear H0
  rcases hrel with ⟨rfl, h⟩ | ⟨rfl, h⟩ | ⟨rfl, h⟩
  ·have c4 : wr.cell? ⟨w.heap.size + 1, 4, none⟩ = some (.int .i64 0) := h.2.2.cell 4
   have f4 : wr.frozen? ⟨w.heap.size + 1, 4, none⟩ = false := h.2.2.frozen 4
   have H := Lib.hid h
   clear h
   go_wp2_with fail
   go_roundw
   case rel => exact .inr (.inl ⟨rfl, H.out.set4 _⟩)
   case measure => simp [intOf]
  ·have c9 : wr.cell? ⟨w.heap.size + 1, 9, none⟩ = some (.int .i64 0) := h.2.2.cell 9
   have f9 : wr.frozen? ⟨w.heap.size + 1, 9, none⟩ = false := h.2.2.frozen 9
   have H := Lib.hid h
   clear h
   go_wp2_with fail
   go_roundw
   case rel => exact .inr (.inr ⟨rfl, H.out.set9 _⟩)
   case measure => simp [intOf]
  ·have hb := h.2.2
   have hc := h.2.1
   have H := Lib.hid h
   clear h
   obtain ⟨x, hx⟩ : ∃ x, wrap32 n = x := ⟨_, rfl⟩
   obtain ⟨y, hy⟩ : ∃ y, wrap32 (n / 4294967296) = y := ⟨_, rfl⟩
   have HV : Hid (layV d n = .agg (layC d x y)) := by unfold layV layC Hid; rw [hx, hy]
   rw [hx, hy] at H hb
   clear hx hy e1 e2
   have r0 : wr.cell? ⟨w.heap.size + 1, 0, none⟩ = some (.int .i64 24) := hb.cell 0
   have r1 : wr.cell? ⟨w.heap.size + 1, 1, none⟩ = some (.int .i64 d) := hb.cell 1
   have r2 : wr.cell? ⟨w.heap.size + 1, 2, none⟩ = some (.int .i64 0) := hb.cell 2
   have r3 : wr.cell? ⟨w.heap.size + 1, 3, none⟩ = some (.int .i64 0) := hb.cell 3
   have r4 : wr.cell? ⟨w.heap.size + 1, 4, none⟩ = some (.int .i64 x) := hb.cell 4
   have r5 : wr.cell? ⟨w.heap.size + 1, 5, none⟩ = some (.int .i64 0) := hb.cell 5
   have r6 : wr.cell? ⟨w.heap.size + 1, 6, none⟩ = some (.int .i64 0) := hb.cell 6
   have r7 : wr.cell? ⟨w.heap.size + 1, 7, none⟩ = some (.int .i64 0) := hb.cell 7
   have r8 : wr.cell? ⟨w.heap.size + 1, 8, none⟩ = some (.int .i64 0) := hb.cell 8
   have r9 : wr.cell? ⟨w.heap.size + 1, 9, none⟩ = some (.int .i64 y) := hb.cell 9
   have q0 : wr.cell? ⟨w.heap.size, 0, none⟩ = some (.int .i64 0) := hc.cell 0
   have q1 : wr.cell? ⟨w.heap.size, 1, none⟩ = some (.int .i64 0) := hc.cell 1
   have q2 : wr.cell? ⟨w.heap.size, 2, none⟩ = some (.int .i64 0) := hc.cell 2
   have q3 : wr.cell? ⟨w.heap.size, 3, none⟩ = some (.int .i64 0) := hc.cell 3
   have q4 : wr.cell? ⟨w.heap.size, 4, none⟩ = some (.int .i64 0) := hc.cell 4
   have q5 : wr.cell? ⟨w.heap.size, 5, none⟩ = some (.int .i64 0) := hc.cell 5
   have q6 : wr.cell? ⟨w.heap.size, 6, none⟩ = some (.int .i64 0) := hc.cell 6
   have q7 : wr.cell? ⟨w.heap.size, 7, none⟩ = some (.int .i64 0) := hc.cell 7
   have q8 : wr.cell? ⟨w.heap.size, 8, none⟩ = some (.int .i64 0) := hc.cell 8
   have q9 : wr.cell? ⟨w.heap.size, 9, none⟩ = some (.int .i64 0) := hc.cell 9
   have f0 : ∀ i, wr.frozen? ⟨w.heap.size, i, none⟩ = false := fun i => hc.frozen i
   have hz := (((((((((hc.set_ 0 (.int .i64 24)).set_ 1 (.int .i64 d)).set_ 2 (.int .i64 0)).set_ 3 (.int .i64 0)).set_ 4 (.int .i64 x)).set_ 5 (.int .i64 0)).set_ 6 (.int .i64 0)).set_ 7 (.int .i64 0)).set_ 8 (.int .i64 0)).set_ 9 (.int .i64 y)
   have HZ := Lib.hid hz
   clear hb hc hz
   go_wp2_with fail
   refine bodyPost_ret (results_cell_row rfl _ _ w.heap.size 66 (layC d x y) (0, 0) _ rfl (by simpa [Blk, layC] using HZ.out) Tryz.underlying66 rfl (by kernel_rfl)) rfl ⟨by rw [HV.out], ?_⟩
   exact (((((((((H.out.1.setCell (by simp) _).setCell (by simp) _).setCell (by simp) _).setCell (by simp) _).setCell (by simp) _).setCell (by simp) _).setCell (by simp) _).setCell (by simp) _).setCell (by simp) _).setCell (by simp) _
structure Slot where
 o : Int
 d : Int
 s : Int
 f : Int
 m : Int
def Slot.V (x : Slot) : Value := insV x.o x.d x.s x.f x.m
def Slot.Ok (x : Slot) : Prop := Fits x.o x.d x.s x.f x.m
instance (x : Slot) : Decidable x.Ok := by unfold Slot.Ok; infer_instance
def Slot.cells (x : Slot) : List Value := [.int .i64 x.o, .int .i64 x.d, .int .i64 x.s, .int .i64 x.f, .int .i64 x.m]
def Cells5 (w : World) (b o : Nat) (x : Slot) : Prop :=
 w.cell? ⟨b, o, none⟩ = some (.int .i64 x.o) ∧ w.cell? ⟨b, o + 1, none⟩ = some (.int .i64 x.d) ∧ w.cell? ⟨b, o + 2, none⟩ = some (.int .i64 x.s) ∧ w.cell? ⟨b, o + 3, none⟩ = some (.int .i64 x.f) ∧ w.cell? ⟨b, o + 4, none⟩ = some (.int .i64 x.m)
/-- n slots lie behind A. -/
def Slots (w : World) (A : Option Addr) (n : Nat) (X : Nat → Slot) : Prop := ∀ i, i < n → ∃ b off, A = some ⟨b, off, none⟩ ∧ b < w.heap.size ∧ Cells5 w b (off + i * 5) (X i)
theorem Cells5.below {w w' : World} {b o : Nat} {x : Slot} (h : Cells5 w b o x) (hb : Below w.heap.size w w') (hlt : b < w.heap.size) : Cells5 w' b o x := by
 obtain ⟨h0, h1, h2, h3, h4⟩ := h
 exact ⟨by rw [hb.cell (by simpa using hlt)]; exact h0, by rw [hb.cell (by simpa using hlt)]; exact h1, by rw [hb.cell (by simpa using hlt)]; exact h2, by rw [hb.cell (by simpa using hlt)]; exact h3, by rw [hb.cell (by simpa using hlt)]; exact h4⟩
theorem Slots.below {w w' : World} {A : Option Addr} {n : Nat} {X : Nat → Slot} (h : Slots w A n X) (hb : Below w.heap.size w w') : Slots w' A n X := by
 intro i hi
 obtain ⟨b, off, rfl, hlt, hc⟩ := h i hi
 exact ⟨b, off, rfl, Nat.lt_of_lt_of_le hlt hb.size, hc.below hb hlt⟩
theorem Cells5.new (w : World) (x : Slot) (t : TypeId) : Cells5 (w.alloc (.cells #[.int .i64 x.o, .int .i64 x.d, .int .i64 x.s, .int .i64 x.f, .int .i64 x.m] t)) w.heap.size 0 x :=
 ⟨(Blk.new w _ _).cell 0, (Blk.new w _ _).cell 1, (Blk.new w _ _).cell 2, (Blk.new w _ _).cell 3, (Blk.new w _ _).cell 4⟩
def byteV (b : UInt8) : Value := .int .u8 (b.toNat : Int)
def bstr (l : List UInt8) : ByteArray := ⟨l.toArray⟩
theorem bstr_size (l : List UInt8) : (bstr l).size = l.length := by simp [bstr, ByteArray.size]
def u8 (n : Int) : UInt8 := UInt8.ofNat (n % 256).toNat
theorem byteV_u8 (n : Int) : byteV (u8 n) = .int .u8 (n % 256) := by
 unfold byteV u8
 rw [UInt8.toNat_ofNat']
 congr 1
 omega
/-- A slot's eight bytes. -/
def Slot.bytes (x : Slot) : List UInt8 := [u8 x.o, u8 (x.s * 16 + x.d), u8 x.f, u8 (x.f / 256), u8 x.m, u8 (x.m / 256), u8 (x.m / 65536), u8 (x.m / 16777216)]
theorem Slot.bytes_length (x : Slot) : x.bytes.length = 8 := rfl
theorem Slot.bytes_cells (x : Slot) (h : x.Ok) : (cellsE x.o x.d x.s x.f x.m).toList = x.bytes.map byteV := by
 obtain ⟨h1, h2, h3, h4, h5⟩ := h
 simp only [cellsE, Slot.bytes, List.map_cons, List.map_nil, byteV_u8]
 rw [show x.o % 256 = x.o by omega, show (x.s * 16 + x.d) % 256 = x.s * 16 + x.d by omega]
def encAll (X : Nat → Slot) (n : Nat) : List UInt8 := (List.range n).flatMap fun i => (X i).bytes
theorem encAll_succ (X : Nat → Slot) (n : Nat) : encAll X (n + 1) = encAll X n ++ (X n).bytes := by simp [encAll, List.range_succ]
theorem encAll_length (X : Nat → Slot) (n : Nat) : (encAll X n).length = n * 8 := by
 induction n with
 | zero => rfl
 | succ n ih => rw [encAll_succ, List.length_append, ih, Slot.bytes_length]; omega
def AllOk (X : Nat → Slot) (n : Nat) : Prop := ∀ i, i < n → (X i).Ok
open Classical in
/-- What Encode answers. -/
noncomputable def encAns (X : Nat → Slot) (n : Nat) : Ending := if AllOk X n then .returned (.tuple #[.string (bstr (encAll X n)), .int .i64 0]) else .returned (.tuple #[.string (bstr []), .int .i64 30])
theorem encAns_ok {X : Nat → Slot} {n : Nat} (h : AllOk X n) : encAns X n = .returned (.tuple #[.string (bstr (encAll X n)), .int .i64 0]) := if_pos h
theorem encAns_bad {X : Nat → Slot} {n : Nat} (h : ¬ AllOk X n) : encAns X n = .returned (.tuple #[.string (bstr []), .int .i64 30]) := if_neg h
theorem info8 : (Tryz.prog.info? 5).map (fun i => (i.zero, i.size, i.bytes)) = some (some (.int .u8 0), 1, 1) := by kernel_rfl
theorem info37 : (Tryz.prog.info? 38).map (fun i => (i.zero, i.size, i.bytes)) = some (some (.agg #[.int .i64 0, .int .i64 0, .int .i64 0, .int .i64 0, .int .i64 0]), 5, 40) := by kernel_rfl
theorem made_own {P : Program} {t e : TypeId} {z : Value} {size bytes : Nat} (ht : P.underlying t = some (.slice e)) (hi : (P.info? e).map (fun i => (i.zero, i.size, i.bytes)) = some (some z, size, bytes)) (n : Nat) (hn : (bytes : Int) * n ≤ 140737488355328) (hb : 0 < bytes) (w : World) :
  ∃ v w', (Instr.makeSlice t (.int .i64 0) (.int .i64 (n : Int))).run P w = .ok v w' ∧ Below w.heap.size w w' ∧ w'.ownsRow w.heap.size e size v 0 [] := by
 obtain ⟨i, hi, hz, hsz, hby⟩ := info_parts hi
 have hn' : (n : Int) ≤ 140737488355328 := by
  have : (1 : Int) * n ≤ bytes * n := Int.mul_le_mul_of_nonneg_right (by omega) (by omega)
  omega
 refine ⟨_, _, run_make (P := P) w t e i z ht hi hz .i64 .i64 0 n (Int.le_refl _) (by omega) (by rw [hby]; omega) (by omega), (Below.refl _ w).alloc (Nat.le_refl _) _, by simp, .inr ⟨w.heap.size, n, _, by simp, Nat.le_refl _, heap_alloc_new w _, by omega, by unfold maxLen; omega, by rw [size_madeCells, hsz]; simp, by simp⟩⟩
theorem ownsRow_below {w w' : World} {base : Nat} {e : TypeId} {size : Nat} {v : Value} {n : Nat} {xs : List Value} (h : w.ownsRow base e size v n xs) (hb : Below w.heap.size w w') : w'.ownsRow base e size v n xs := by
 refine ⟨h.1, ?_⟩
 rcases h.2 with hn | ⟨g, cap, cur, rfl, h1, h2, rest⟩
 ·exact .inl hn
 ·have hlt : g < w.heap.size := by
   rcases Nat.lt_or_ge g w.heap.size with hlt | hge
   ·exact hlt
   ·rw [Array.getElem?_eq_none hge] at h2; cases h2
  exact .inr ⟨g, cap, cur, rfl, h1, (hb.block g hlt).trans h2, rest⟩
theorem own_form_any {w : World} {base : Nat} {e : TypeId} {s : Nat} {v : Value} {n : Nat} {xs : List Value} (h : w.ownsRow base e s v n xs) :
  ∃ A c, v = .slice A n c ∧ (0 < n → ∃ g, A = some ⟨g, 0, none⟩ ∧ g < w.heap.size ∧ ∀ j u, xs[j]? = some u → w.cell? ⟨g, j, none⟩ = some u) := by
 rcases h.2 with ⟨rfl, rfl⟩ | ⟨g, cap, cur, rfl, hb, hg, h1, h2, h3, h4⟩
 ·exact ⟨none, 0, rfl, fun h => by omega⟩
 ·refine ⟨_, cap, rfl, fun _ => ⟨g, rfl, ?_, fun j u hu => ?_⟩⟩
  ·rcases Nat.lt_or_ge g w.heap.size with hlt | hge
   ·exact hlt
   ·rw [Array.getElem?_eq_none hge] at hg; cases hg
  ·have := h.cells (g := g) rfl j u hu
   rwa [show (⟨g, 0, none⟩ : Addr).add j = ⟨g, j, none⟩ by unfold Addr.add; split <;> simp_all] at this
theorem own_str {w : World} {base : Nat} {v : Value} {ys : List UInt8} (h : w.ownsRow base 5 1 v ys.length (ys.map byteV)) :
  (convert 53 9 v).run Tryz.prog w = .ok (.string (bstr ys)) w := by
 rcases Nat.eq_zero_or_pos ys.length with h0 | h0
 ·have : ys = [] := List.length_eq_zero_iff.1 h0
  subst this
  rcases h.2 with ⟨rfl, _⟩ | ⟨g, cap, cur, rfl, _⟩
  ·have e : (convert 53 9 (.slice none 0 0)).run Tryz.prog w = .ok (.string (bstr [])) w := by kernel_rfl
   exact e
  ·have := Lib.run_convert_whole (P := Tryz.prog) w 53 5 9 Tryz.underlying53 Tryz.underlying5 Tryz.underlying9 g 0 (bstr []) (fun i hi => by rw [bstr_size] at hi; exact absurd hi (by simp)) cap
   rw [bstr_size] at this
   exact this
 ·obtain ⟨A, c, rfl, hc⟩ := own_form_any h
  obtain ⟨g, rfl, _, hcell⟩ := hc h0
  have := Lib.run_convert_whole (P := Tryz.prog) w 53 5 9 Tryz.underlying53 Tryz.underlying5 Tryz.underlying9 g 0 (bstr ys) (fun i hi => by
   have hi' : i < ys.length := by rw [← bstr_size]; exact hi
   have := hcell i (byteV ys[i]) (by rw [List.getElem?_map, List.getElem?_eq_getElem hi']; rfl)
   rw [Nat.zero_add]
   exact this) c
  rw [bstr_size] at this
  exact this
end Go.Proofs.YtemiklbkfogjeaaGreatDoor
namespace Go.Proofs.YtemiklbkfogjeaaGreatDoor
open Go Go.RowKit Go.Maps
set_option linter.unusedVariables false
set_option linter.unusedSimpArgs false
set_option maxRecDepth 100000
abbrev Pow (w : World) : Prop := Lib.TabIs Tryz.prog w "internal/strconv.uint64pow10" .u64 Lib.pow10Tab
theorem var_below {P : Program} {w w' : World} {name : String} {cs : Array Value} (h : w.var? P name = some cs) (hb : Below w.heap.size w w') : w'.var? P name = some cs := by
 unfold World.var? at *
 rw [Option.bind_eq_some_iff] at *
 obtain ⟨g, hg, h⟩ := h
 refine ⟨g, hg, ?_⟩
 have hlt : g < w.heap.size := by
  rcases Nat.lt_or_ge g w.heap.size with hlt | hge
  ·exact hlt
  ·rw [Array.getElem?_eq_none hge] at h; cases h
 rw [hb.block g hlt]
 exact h
theorem Pow.below {w w' : World} (h : Pow w) (hb : Below w.heap.size w w') : Pow w' := var_below h hb
theorem below_grow (w : World) (k : Nat) (os : Array Obj) : Below w.heap.size w (Sort.grow (w.drewN k) os) := by
 refine ⟨rfl, rfl, rfl, ?_, fun i hi => ?_⟩
 ·show w.heap.size ≤ (w.heap ++ os).size
  rw [Array.size_append]; omega
 ·show (w.heap ++ os)[i]? = w.heap[i]?
  rw [Array.getElem?_append_left hi]
/-- A number as a text. -/
def dec (n : Int) : ByteArray := bstr (Lib.itoa n)
theorem dec_size (n : Int) (h0 : -9223372036854775808 ≤ n) (h1 : n ≤ 9223372036854775807) : (dec n).size ≤ 21 := by
 unfold dec
 rw [bstr_size]
 exact Lib.itoa_length_le n h0 h1
/-- A text of a call's own; all that was there is as it was. -/
def SaysT (w : World) (s : ByteArray) (e : Ending) (w' : World) : Prop := e = .returned (.string s) ∧ Below w.heap.size w w'
theorem itoa_any (n : Int) (h0 : -9223372036854775808 ≤ n) (h1 : n ≤ 9223372036854775807) (w : World) (hT : Pow w) :
  Calls Tryz.prog 86 #[.int .i64 n] w (SaysT w (dec n)) := by
 refine (Tryz.strconv_Itoa n h0 h1 w hT).mono ?_
 rintro e w' ⟨rfl, k, os, rfl⟩
 exact ⟨rfl, below_grow w k os⟩
/-- A register's name. -/
def regT (p : ByteArray) (n : Int) : ByteArray := p ++ dec n
theorem size_app (a b : ByteArray) : (a ++ b).size = a.size + b.size := ByteArray.size_append
theorem regT_size (p : ByteArray) (n : Int) (h0 : -9223372036854775808 ≤ n) (h1 : n ≤ 9223372036854775807) : (regT p n).size ≤ p.size + 21 := by
 unfold regT
 rw [size_app]
 have := dec_size n h0 h1
 omega
theorem regW_any (p : ByteArray) (hp : p.size ≤ 100) (n : Int) (h0 : -9223372036854775808 ≤ n) (h1 : n ≤ 9223372036854775807) (w : World) (hT : Pow w) :
  Calls Tryz.prog 96 #[.string p, .int .i64 n] w (SaysT w (regT p n)) := by
 have C := Lib.hid (itoa_any n h0 h1 w hT)
 have hd := dec_size n h0 h1
 have b0 : ¬ 9223372036854775807 < p.size + (dec n).size := by omega
 clear hT hd h0 h1 hp
 unfold regT
 generalize dec n = d at *
 go_enter Tryz.func96, Tryz.ntmps96
 go_wp2_with (go_at_call 86; refine C.out.mono ?_; rintro e w1 ⟨rfl, hb⟩; have HB := Lib.hid hb; clear hb)
 go_ret
 exact ⟨rfl, HB.out⟩
/-- What stands ahead of a register of whose lowest bits the sign is taken along. -/
def signT (n : Int) : ByteArray := ⟨#[40, 115]⟩ ++ dec n ++ ⟨#[41]⟩
theorem signT_size (n : Int) (h0 : -9223372036854775808 ≤ n) (h1 : n ≤ 9223372036854775807) : (signT n).size ≤ 24 := by
 unfold signT
 rw [size_app, size_app]
 have := dec_size n h0 h1
 show 2 + _ + 1 ≤ 24
 omega
theorem signOf_any (n : Int) (h0 : -9223372036854775808 ≤ n) (h1 : n ≤ 9223372036854775807) (w : World) (hT : Pow w) :
  Calls Tryz.prog 104 #[.int .i64 n] w (SaysT w (signT n)) := by
 have C := Lib.hid (itoa_any n h0 h1 w hT)
 have hd := dec_size n h0 h1
 have b0 : ¬ 9223372036854775807 < 2 + (dec n).size := by omega
 have b1 : ¬ 9223372036854775807 < 2 + (dec n).size + 1 := by omega
 clear hT hd h0 h1
 unfold signT
 generalize dec n = d at *
 go_enter Tryz.func104, Tryz.ntmps104
 go_wp2_with (go_at_call 86; refine C.out.mono ?_; rintro e w1 ⟨rfl, hb⟩; have HB := Lib.hid hb; clear hb)
 go_ret
 exact ⟨rfl, HB.out⟩
/-- The sign and the size of an offset. -/
def partsT (n : Int) : ByteArray × ByteArray := if n < 0 then (⟨#[45]⟩, dec (-n)) else (⟨#[43]⟩, dec n)
theorem parts_any (n : Int) (h0 : -9223372036854775807 ≤ n) (h1 : n ≤ 9223372036854775807) (w : World) (hT : Pow w) :
  Calls Tryz.prog 119 #[.int .i64 n] w fun e w' => e = .returned (.tuple #[.string (partsT n).1, .string (partsT n).2]) ∧ Below w.heap.size w w' := by
 unfold partsT
 by_cases h : n < 0
 ·have C := Lib.hid (itoa_any (-n) (by omega) (by omega) w hT)
  have e1 : IntKind.i64.wrap (-n) = -n := IntWalk.i64_in _ (by omega)
  have b0 : decide (n < 0) = true := decide_eq_true h
  rw [if_pos h]
  clear hT h0 h1 h
  generalize dec (-n) = d at *
  go_enter Tryz.func119, Tryz.ntmps119
  go_wp2_with (go_at_call 86; refine C.out.mono ?_; rintro e w1 ⟨rfl, hb⟩; have HB := Lib.hid hb; clear hb)
  go_ret2
  exact ⟨rfl, HB.out⟩
 ·have C := Lib.hid (itoa_any n (by omega) (by omega) w hT)
  have b0 : decide (n < 0) = false := decide_eq_false h
  rw [if_neg h]
  clear hT h0 h1 h
  generalize dec n = d at *
  go_enter Tryz.func119, Tryz.ntmps119
  go_wp2_with (go_at_call 86; refine C.out.mono ?_; rintro e w1 ⟨rfl, hb⟩; have HB := Lib.hid hb; clear hb)
  go_ret2
  exact ⟨rfl, HB.out⟩
theorem partsT_size (n : Int) (h0 : -9223372036854775807 ≤ n) (h1 : n ≤ 9223372036854775807) : (partsT n).1.size ≤ 1 ∧ (partsT n).2.size ≤ 21 := by
 unfold partsT
 by_cases h : n < 0
 ·rw [if_pos h]
  exact ⟨Nat.le_refl _, dec_size _ (by omega) (by omega)⟩
 ·rw [if_neg h]
  exact ⟨Nat.le_refl _, dec_size _ (by omega) (by omega)⟩
def farT (n : Int) : ByteArray := (partsT n).1 ++ (partsT n).2
theorem farT_size (n : Int) (h0 : -9223372036854775807 ≤ n) (h1 : n ≤ 9223372036854775807) : (farT n).size ≤ 22 := by
 have := partsT_size n h0 h1
 unfold farT
 rw [size_app]
 omega
theorem farW_any (n : Int) (h0 : -9223372036854775807 ≤ n) (h1 : n ≤ 9223372036854775807) (w : World) (hT : Pow w) :
  Calls Tryz.prog 106 #[.int .i64 n] w (SaysT w (farT n)) := by
 have C := Lib.hid (parts_any n h0 h1 w hT)
 have hd := partsT_size n h0 h1
 have b0 : ¬ 9223372036854775807 < (partsT n).1.size + (partsT n).2.size := by omega
 unfold farT
 clear hT hd h0 h1
 generalize (partsT n).1 = a at *
 generalize (partsT n).2 = b at *
 go_enter Tryz.func106, Tryz.ntmps106
 go_wp2_with (go_at_call 119; refine C.out.mono ?_; rintro e w1 ⟨rfl, hb⟩; have HB := Lib.hid hb; clear hb)
 go_ret
 exact ⟨rfl, HB.out⟩
end Go.Proofs.YtemiklbkfogjeaaGreatDoor
namespace Go.Proofs.YtemiklbkfogjeaaGreatDoor
open Go Go.RowKit
set_option linter.unusedVariables false
set_option linter.unusedSimpArgs false
set_option maxRecDepth 100000
/-- The number that bytes are, behind n; none: they are none. -/
def digL (most : Nat) : Nat → Bool → List UInt8 → Option Nat
 | n, _, [] => some n
 | n, first, b :: r => if b.toNat < 48 ∨ 57 < b.toNat ∨ (first = false ∧ n = 0) ∨ (most - (b.toNat - 48)) / 10 < n then none else digL most (n * 10 + (b.toNat - 48)) false r
def digS (most : Nat) (s : ByteArray) : Option Nat := digL most 0 true s.data.toList
theorem digL_no {most n : Nat} {first : Bool} {b : UInt8} {r : List UInt8} (h : b.toNat < 48 ∨ 57 < b.toNat ∨ (first = false ∧ n = 0) ∨ (most - (b.toNat - 48)) / 10 < n) : digL most n first (b :: r) = none := by rw [digL, if_pos h]
theorem digL_yes {most n : Nat} {first : Bool} {b : UInt8} {r : List UInt8} (h : ¬ (b.toNat < 48 ∨ 57 < b.toNat ∨ (first = false ∧ n = 0) ∨ (most - (b.toNat - 48)) / 10 < n)) : digL most n first (b :: r) = digL most (n * 10 + (b.toNat - 48)) false r := by rw [digL, if_neg h]
theorem drop_cons {s : ByteArray} {pos : Nat} (h : pos < s.size) : s.data.toList.drop pos = (s[pos]'h) :: s.data.toList.drop (pos + 1) := by
 rw [List.drop_eq_getElem_cons (by rw [← Lib.size_eq]; exact h)]
 rfl
def digA (s : ByteArray) (o : Option Nat) : Ending := .returned (.tuple #[.int .u64 ((o.getD 0 : Nat) : Int), .bool (o.isSome && !s.toList.isEmpty)])
set_option maxHeartbeats 2000000 in
theorem digits_any (s : ByteArray) (most : Nat) (h9 : 9 ≤ most) (hm : most ≤ 18446744073709551615) (w : World) :
  Calls Tryz.prog 51 #[.string s, .int .u64 most] w fun e w' => e = digA s (digS most s) ∧ ∃ pos, w' = w.iter s pos := by
 go_enter Tryz.func51, Tryz.ntmps51
 go_wp2
 go_loopw [6, 7, 8, 9] (fun n _ _ _ wr => ∃ (pos m : Nat), wr = w.iter s pos ∧ n = .int .u64 m ∧ pos ≤ s.size ∧ m ≤ most ∧ digL most m (pos == 0) (s.data.toList.drop pos) = digS most s) (fun _ _ _ _ wr => s.size - wr.iterPos w.heap.size)
 case atStart => exact ⟨0, 0, rfl, rfl, Nat.zero_le _, Nat.zero_le _, by rw [List.drop_zero]; rfl⟩
 case round =>
  obtain ⟨pos, m, rfl, rfl, hp0, hmm, hd⟩ := hrel
  have HD := Lib.hid hd
  clear hd
  by_cases hp : pos < s.size
  ·have hnx : ∀ ty, (Instr.next (.pointer (some ⟨w.heap.size, 0, none⟩)) true ty).run Tryz.prog (w.iter s pos) = _ := fun ty => run_next_any w s pos ty hp
   have HDC := Lib.hid (drop_cons hp)
   rw [HDC.out] at HD
   by_cases ha : 128 ≤ (s[pos]'hp).toNat
   ·obtain ⟨r1, r2⟩ := decode_high s pos hp ha
    have r3 := decode_le s pos
    have HX : Hid (digS most s = none) := by rw [← HD.out]; exact digL_no (.inr (.inl (by omega)))
    generalize Utf8.decode s pos = dc at *
    obtain ⟨rn, wd⟩ := dc
    have b1 : decide (rn < 48) = false := decide_eq_false (by have : 128 ≤ rn := r1; omega)
    have b2 : decide (57 < rn) = true := decide_eq_true (by have : 128 ≤ rn := r1; omega)
    have i1 : ¬ (rn : Int) < 48 := by have : 128 ≤ rn := r1; omega
    have i2 : (57 : Int) < (rn : Int) := by have : 128 ≤ rn := r1; omega
    clear HD HDC r1 r2 r3 ha hp hp0 hmm
    go_wp2_with fail
    go_ret2
    exact ⟨by rw [HX.out]; rfl, _, rfl⟩
   ·have hda := decode_ascii s pos hp (by omega)
    rw [hda] at hnx
    have hu := (s[pos]'hp).toNat_lt
    generalize hus : (s[pos]'hp) = u at *
    have HPS := Lib.hid (And.intro hp (And.intro hp0 hmm))
    clear hda hus
    have hnx' : ∀ ty, (Instr.next (.pointer (some ⟨w.heap.size, 0, none⟩)) true ty).run Tryz.prog (w.iter s pos) = .ok (.tuple #[.bool true, .int .i64 pos, .int .i32 (u.toNat : Int)]) (w.iter s (pos + 1)) := hnx
    clear hnx
    by_cases c1 : u.toNat < 48
    ·have HX : Hid (digS most s = none) := by rw [← HD.out]; exact digL_no (.inl c1)
     have b1 : decide (u.toNat < 48) = true := decide_eq_true c1
     have i1 : (u.toNat : Int) < 48 := by omega
     clear HD HDC c1 hu ha hp hp0 hmm
     go_wp2_with fail
     go_ret2
     exact ⟨by rw [HX.out]; rfl, _, rfl⟩
    have b1 : decide (u.toNat < 48) = false := decide_eq_false c1
    have i1 : ¬ (u.toNat : Int) < 48 := by omega
    by_cases c2 : 57 < u.toNat
    ·have HX : Hid (digS most s = none) := by rw [← HD.out]; exact digL_no (.inr (.inl c2))
     have b2 : decide (57 < u.toNat) = true := decide_eq_true c2
     have i2 : (57 : Int) < (u.toNat : Int) := by omega
     clear HD HDC c1 c2 hu ha hp hp0 hmm
     go_wp2_with fail
     go_ret2
     exact ⟨by rw [HX.out]; rfl, _, rfl⟩
    have b2 : decide (57 < u.toNat) = false := decide_eq_false c2
    have i2 : ¬ (57 : Int) < (u.toNat : Int) := by omega
    obtain ⟨d, hd⟩ : ∃ d, u.toNat - 48 = d := ⟨_, rfl⟩
    have e1 : IntKind.i32.wrap ((u.toNat : Int) - 48) = (d : Int) := by rw [IntWalk.i32_in _ (by omega)]; omega
    have e2 : IntKind.u64.wrap (d : Int) = (d : Int) := IntWalk.u64_in _ (by omega)
    obtain ⟨q, hq⟩ : ∃ q, most - d = q := ⟨_, rfl⟩
    have e3 : IntKind.u64.wrap ((most : Int) - (d : Int)) = (q : Int) := by rw [IntWalk.u64_in _ (by omega)]; omega
    obtain ⟨z, hz⟩ : ∃ z, q / 10 = z := ⟨_, rfl⟩
    have e4 : Int.tdiv (q : Int) 10 = (z : Int) := by rw [Int.tdiv_eq_ediv_of_nonneg (by omega)]; omega
    have e4' : (q : Int) / 10 = (z : Int) := by omega
    have e7 : IntKind.u64.wrap (z : Int) = (z : Int) := IntWalk.u64_in _ (by omega)
    have HL : Hid (∀ first r, digL most m first (u :: r) = if (first = false ∧ m = 0) ∨ z < m then none else digL most (m * 10 + d) false r) := by
     intro first r
     by_cases hc : (first = false ∧ m = 0) ∨ z < m
     ·rw [if_pos hc]
      rcases hc with hc | hc
      ·exact digL_no (.inr (.inr (.inl hc)))
      ·exact digL_no (.inr (.inr (.inr (by rw [hd, hq, hz]; exact hc))))
     ·rw [if_neg hc, digL_yes, hd]
      rintro (h1 | h1 | h1 | h1)
      ·exact c1 h1
      ·exact c2 h1
      ·exact hc (.inl h1)
      ·rw [hd, hq, hz] at h1; exact hc (.inr h1)
    have HZ : Hid (z * 10 + d ≤ most) := by unfold Hid; omega
    clear c1 c2 hu ha
    have go : (0 < pos ∧ m = 0) ∨ (¬ (0 < pos ∧ m = 0) ∧ z < m) ∨ (¬ (0 < pos ∧ m = 0) ∧ ¬ z < m) := by omega
    have hcl : True := trivial
    clear hd hq hz
    rcases go with ⟨h1, rfl⟩ | ⟨h1, h2⟩ | ⟨h1, h2⟩
    ·have HX : Hid (digS most s = none) := by unfold Hid; rw [← HD.out, HL.out, if_pos (.inl ⟨by simp; omega, rfl⟩)]
     have b3 : decide (0 < pos) = true := decide_eq_true h1
     have i3 : (0 : Int) < (pos : Int) := by omega
     clear HD HDC HL h1 hp hp0 hmm
     go_wp2_with fail
     go_ret2
     exact ⟨by rw [HX.out]; rfl, _, rfl⟩
    ·have HX : Hid (digS most s = none) := by unfold Hid; rw [← HD.out, HL.out, if_pos (.inr h2)]
     have b4 : decide (z < m) = true := decide_eq_true h2
     have i4 : (z : Int) < (m : Int) := by omega
     have hw : (decide (0 < pos) = false ∧ ¬ (0 : Int) < (pos : Int)) ∨ (decide (0 < pos) = true ∧ (0 : Int) < (pos : Int) ∧ (m == 0) = false ∧ ((m : Int) == 0) = false) := by
      by_cases h : 0 < pos
      ·exact .inr ⟨decide_eq_true h, by omega, by simp; omega, by simp; omega⟩
      ·exact .inl ⟨decide_eq_false h, by omega⟩
     clear HD HDC HL h1 h2 hp hp0 hmm
     rcases hw with ⟨b3, i3⟩ | ⟨b3, i3, b5, i5⟩
     ·go_wp2_with fail
      go_ret2
      exact ⟨by rw [HX.out]; rfl, _, rfl⟩
     ·go_wp2_with fail
      go_ret2
      exact ⟨by rw [HX.out]; rfl, _, rfl⟩
    ·have HX : Hid (digL most (m * 10 + d) false (s.data.toList.drop (pos + 1)) = digS most s) := by
      have hc : ¬ (((pos == 0) = false ∧ m = 0) ∨ z < m) := by
       rintro (⟨h3, h4⟩ | h3)
       ·exact h1 ⟨by simp at h3; omega, h4⟩
       ·exact h2 h3
      unfold Hid
      rw [← HD.out, HL.out, if_neg hc]
     have b4 : decide (z < m) = false := decide_eq_false h2
     have i4 : ¬ (z : Int) < (m : Int) := by omega
     have e5 : IntKind.u64.wrap ((m : Int) * 10) = ((m * 10 : Nat) : Int) := by have := HZ.out; rw [IntWalk.u64_in _ (by omega)]; omega
     have e6 : IntKind.u64.wrap (((m * 10 : Nat) : Int) + (d : Int)) = ((m * 10 + d : Nat) : Int) := by have := HZ.out; rw [IntWalk.u64_in _ (by omega)]; omega
     have HB : Hid (m * 10 + d ≤ most) := by have := HZ.out; unfold Hid; omega
     have hw : (decide (0 < pos) = false ∧ ¬ (0 : Int) < (pos : Int)) ∨ (decide (0 < pos) = true ∧ (0 : Int) < (pos : Int) ∧ (m == 0) = false ∧ ((m : Int) == 0) = false) := by
      by_cases h : 0 < pos
      ·exact .inr ⟨decide_eq_true h, by omega, by simp; omega, by simp; omega⟩
      ·exact .inl ⟨decide_eq_false h, by omega⟩
     generalize m * 10 = m10 at *
     clear HD HDC HL h1 h2 hp hp0 hmm
     rcases hw with ⟨b3, i3⟩ | ⟨b3, i3, b5, i5⟩
     ·go_wp2_with fail
      go_roundw
      case rel => exact ⟨pos + 1, m10 + d, rfl, rfl, HPS.out.1, HB.out, HX.out⟩
      case measure => simp; have := HPS.out.1; omega
     ·go_wp2_with fail
      go_roundw
      case rel => exact ⟨pos + 1, m10 + d, rfl, rfl, HPS.out.1, HB.out, HX.out⟩
      case measure => simp; have := HPS.out.1; omega
  ·have hnx : ∀ ty, (Instr.next (.pointer (some ⟨w.heap.size, 0, none⟩)) true ty).run Tryz.prog (w.iter s pos) = _ := fun ty => run_next_end w s pos ty hp
   have HX : Hid (digS most s = some m) := by
    rw [← HD.out, List.drop_of_length_le (by rw [← Lib.size_eq]; omega)]
    rfl
   clear HD hp hp0 hmm
   go_wp2_with fail
   go_ret2
   exact ⟨by rw [HX.out]; rfl, _, rfl⟩
end Go.Proofs.YtemiklbkfogjeaaGreatDoor
