/-
  Lists of slots as they lie; their bytes; rows that the call itself made.
-/
import Derived.Test.YtkopbjjpghbkoaaDoorILay
import Derived.OwnWalk
import Derived.Laws.MakeOwn
import Derived.Maps.AppendAt
import Derived.Lib.BufferRead
import Derived.Lib.SlBytesRow
import Derived.Shelf.Bytes.SlSmallAll
namespace Go.Proofs.YtkopbjjpghbkoaaDoor
open Go Go.RowKit
set_option linter.unusedVariables false
structure Slot where
  o : Int
  d : Int
  s : Int
  f : Int
  m : Int
def Slot.V (x : Slot) : Value := insV x.o x.d x.s x.f x.m
def Slot.Ok (x : Slot) : Prop := Fits x.o x.d x.s x.f x.m
instance (x : Slot) : Decidable x.Ok := by unfold Slot.Ok; infer_instance
def Slot.cells (x : Slot) : List Value := [.int .i64 x.o, .int .i64 x.d, .int .i64 x.s, .int .i64 x.f, .int .i64 x.m]
def Cells5 (w : World) (b o : Nat) (x : Slot) : Prop :=
  w.cell? ⟨b, o, none⟩ = some (.int .i64 x.o) ∧ w.cell? ⟨b, o + 1, none⟩ = some (.int .i64 x.d) ∧ w.cell? ⟨b, o + 2, none⟩ = some (.int .i64 x.s) ∧ w.cell? ⟨b, o + 3, none⟩ = some (.int .i64 x.f) ∧ w.cell? ⟨b, o + 4, none⟩ = some (.int .i64 x.m)
/-- n slots lie behind A. -/
def Slots (w : World) (A : Option Addr) (n : Nat) (X : Nat → Slot) : Prop := ∀ i, i < n → ∃ b off, A = some ⟨b, off, none⟩ ∧ b < w.heap.size ∧ Cells5 w b (off + i * 5) (X i)
theorem Cells5.below {w w' : World} {b o : Nat} {x : Slot} (h : Cells5 w b o x) (hb : Below w.heap.size w w') (hlt : b < w.heap.size) : Cells5 w' b o x := by
  obtain ⟨h0, h1, h2, h3, h4⟩ := h
  exact ⟨by rw [hb.cell (by simpa using hlt)]; exact h0, by rw [hb.cell (by simpa using hlt)]; exact h1, by rw [hb.cell (by simpa using hlt)]; exact h2, by rw [hb.cell (by simpa using hlt)]; exact h3, by rw [hb.cell (by simpa using hlt)]; exact h4⟩
theorem Slots.below {w w' : World} {A : Option Addr} {n : Nat} {X : Nat → Slot} (h : Slots w A n X) (hb : Below w.heap.size w w') : Slots w' A n X := by
  intro i hi
  obtain ⟨b, off, rfl, hlt, hc⟩ := h i hi
  exact ⟨b, off, rfl, Nat.lt_of_lt_of_le hlt hb.size, hc.below hb hlt⟩
theorem Cells5.new (w : World) (x : Slot) (t : TypeId) : Cells5 (w.alloc (.cells #[.int .i64 x.o, .int .i64 x.d, .int .i64 x.s, .int .i64 x.f, .int .i64 x.m] t)) w.heap.size 0 x :=
  ⟨(Blk.new w _ _).cell 0, (Blk.new w _ _).cell 1, (Blk.new w _ _).cell 2, (Blk.new w _ _).cell 3, (Blk.new w _ _).cell 4⟩
def byteV (b : UInt8) : Value := .int .u8 (b.toNat : Int)
def bstr (l : List UInt8) : ByteArray := ⟨l.toArray⟩
theorem bstr_size (l : List UInt8) : (bstr l).size = l.length := by simp [bstr, ByteArray.size]
def u8 (n : Int) : UInt8 := UInt8.ofNat (n % 256).toNat
theorem byteV_u8 (n : Int) : byteV (u8 n) = .int .u8 (n % 256) := by
  unfold byteV u8
  rw [UInt8.toNat_ofNat']
  congr 1
  omega
/-- A slot's eight bytes. -/
def Slot.bytes (x : Slot) : List UInt8 := [u8 x.o, u8 (x.s * 16 + x.d), u8 x.f, u8 (x.f / 256), u8 x.m, u8 (x.m / 256), u8 (x.m / 65536), u8 (x.m / 16777216)]
theorem Slot.bytes_length (x : Slot) : x.bytes.length = 8 := rfl
theorem Slot.bytes_cells (x : Slot) (h : x.Ok) : (cellsE x.o x.d x.s x.f x.m).toList = x.bytes.map byteV := by
  obtain ⟨h1, h2, h3, h4, h5⟩ := h
  simp only [cellsE, Slot.bytes, List.map_cons, List.map_nil, byteV_u8]
  rw [show x.o % 256 = x.o by omega, show (x.s * 16 + x.d) % 256 = x.s * 16 + x.d by omega]
def encAll (X : Nat → Slot) (n : Nat) : List UInt8 := (List.range n).flatMap fun i => (X i).bytes
theorem encAll_succ (X : Nat → Slot) (n : Nat) : encAll X (n + 1) = encAll X n ++ (X n).bytes := by simp [encAll, List.range_succ]
theorem encAll_length (X : Nat → Slot) (n : Nat) : (encAll X n).length = n * 8 := by
  induction n with
  | zero => rfl
  | succ n ih => rw [encAll_succ, List.length_append, ih, Slot.bytes_length]; omega
def AllOk (X : Nat → Slot) (n : Nat) : Prop := ∀ i, i < n → (X i).Ok
open Classical in
/-- What Encode answers. -/
noncomputable def encAns (X : Nat → Slot) (n : Nat) : Ending := if AllOk X n then .returned (.tuple #[.string (bstr (encAll X n)), .int .i64 0]) else .returned (.tuple #[.string (bstr []), .int .i64 30])
theorem encAns_ok {X : Nat → Slot} {n : Nat} (h : AllOk X n) : encAns X n = .returned (.tuple #[.string (bstr (encAll X n)), .int .i64 0]) := if_pos h
theorem encAns_bad {X : Nat → Slot} {n : Nat} (h : ¬ AllOk X n) : encAns X n = .returned (.tuple #[.string (bstr []), .int .i64 30]) := if_neg h
theorem info8 : (Tryd.prog.info? 5).map (fun i => (i.zero, i.size, i.bytes)) = some (some (.int .u8 0), 1, 1) := by kernel_rfl
theorem info37 : (Tryd.prog.info? 37).map (fun i => (i.zero, i.size, i.bytes)) = some (some (.agg #[.int .i64 0, .int .i64 0, .int .i64 0, .int .i64 0, .int .i64 0]), 5, 40) := by kernel_rfl
theorem made_own {P : Program} {t e : TypeId} {z : Value} {size bytes : Nat} (ht : P.underlying t = some (.slice e)) (hi : (P.info? e).map (fun i => (i.zero, i.size, i.bytes)) = some (some z, size, bytes)) (n : Nat) (hn : (bytes : Int) * n ≤ 140737488355328) (hb : 0 < bytes) (w : World) :
    ∃ v w', (Instr.makeSlice t (.int .i64 0) (.int .i64 (n : Int))).run P w = .ok v w' ∧ Below w.heap.size w w' ∧ w'.ownsRow w.heap.size e size v 0 [] := by
  obtain ⟨i, hi, hz, hsz, hby⟩ := info_parts hi
  have hn' : (n : Int) ≤ 140737488355328 := by
    have : (1 : Int) * n ≤ bytes * n := Int.mul_le_mul_of_nonneg_right (by omega) (by omega)
    omega
  refine ⟨_, _, run_make (P := P) w t e i z ht hi hz .i64 .i64 0 n (Int.le_refl _) (by omega) (by rw [hby]; omega) (by omega), (Below.refl _ w).alloc (Nat.le_refl _) _, by simp, .inr ⟨w.heap.size, n, _, by simp, Nat.le_refl _, heap_alloc_new w _, by omega, by unfold maxLen; omega, by rw [size_madeCells, hsz]; simp, by simp⟩⟩
theorem ownsRow_below {w w' : World} {base : Nat} {e : TypeId} {size : Nat} {v : Value} {n : Nat} {xs : List Value} (h : w.ownsRow base e size v n xs) (hb : Below w.heap.size w w') : w'.ownsRow base e size v n xs := by
  refine ⟨h.1, ?_⟩
  rcases h.2 with hn | ⟨g, cap, cur, rfl, h1, h2, rest⟩
  · exact .inl hn
  · have hlt : g < w.heap.size := by
      rcases Nat.lt_or_ge g w.heap.size with hlt | hge
      · exact hlt
      · rw [Array.getElem?_eq_none hge] at h2; cases h2
    exact .inr ⟨g, cap, cur, rfl, h1, (hb.block g hlt).trans h2, rest⟩
theorem own_form_any {w : World} {base : Nat} {e : TypeId} {s : Nat} {v : Value} {n : Nat} {xs : List Value} (h : w.ownsRow base e s v n xs) :
    ∃ A c, v = .slice A n c ∧ (0 < n → ∃ g, A = some ⟨g, 0, none⟩ ∧ g < w.heap.size ∧ ∀ j u, xs[j]? = some u → w.cell? ⟨g, j, none⟩ = some u) := by
  rcases h.2 with ⟨rfl, rfl⟩ | ⟨g, cap, cur, rfl, hb, hg, h1, h2, h3, h4⟩
  · exact ⟨none, 0, rfl, fun h => by omega⟩
  · refine ⟨_, cap, rfl, fun _ => ⟨g, rfl, ?_, fun j u hu => ?_⟩⟩
    · rcases Nat.lt_or_ge g w.heap.size with hlt | hge
      · exact hlt
      · rw [Array.getElem?_eq_none hge] at hg; cases hg
    · have := h.cells (g := g) rfl j u hu
      rwa [show (⟨g, 0, none⟩ : Addr).add j = ⟨g, j, none⟩ by unfold Addr.add; split <;> simp_all] at this
theorem own_str {w : World} {base : Nat} {v : Value} {ys : List UInt8} (h : w.ownsRow base 5 1 v ys.length (ys.map byteV)) :
    (convert 45 9 v).run Tryd.prog w = .ok (.string (bstr ys)) w := by
  rcases Nat.eq_zero_or_pos ys.length with h0 | h0
  · have : ys = [] := List.length_eq_zero_iff.1 h0
    subst this
    rcases h.2 with ⟨rfl, _⟩ | ⟨g, cap, cur, rfl, _⟩
    · have e : (convert 45 9 (.slice none 0 0)).run Tryd.prog w = .ok (.string (bstr [])) w := by kernel_rfl
      exact e
    · have := Lib.run_convert_whole (P := Tryd.prog) w 45 5 9 Tryd.underlying45 Tryd.underlying5 Tryd.underlying9 g 0 (bstr []) (fun i hi => by rw [bstr_size] at hi; exact absurd hi (by simp)) cap
      rw [bstr_size] at this
      exact this
  · obtain ⟨A, c, rfl, hc⟩ := own_form_any h
    obtain ⟨g, rfl, _, hcell⟩ := hc h0
    have := Lib.run_convert_whole (P := Tryd.prog) w 45 5 9 Tryd.underlying45 Tryd.underlying5 Tryd.underlying9 g 0 (bstr ys) (fun i hi => by
      have hi' : i < ys.length := by rw [← bstr_size]; exact hi
      have := hcell i (byteV ys[i]) (by rw [List.getElem?_map, List.getElem?_eq_getElem hi']; rfl)
      rw [Nat.zero_add]
      exact this) c
    rw [bstr_size] at this
    exact this
end Go.Proofs.YtkopbjjpghbkoaaDoor
