/-
  The reference's Decode: the same slots, or the same error.
-/
import Derived.Test.YtkopbjjpghbkoaaDoorIRefEnc
import Derived.Test.YtkopbjjpghbkoaaDoorIDec
import Derived.Deep.RegionLaw
namespace Go.Proofs.YtkopbjjpghbkoaaDoor
open Go Go.RowKit
set_option linter.unusedVariables false
theorem chunk2 (s : ByteArray) (p : Nat) (h : p + 2 ≤ s.size) : s.extract p (p + 2) = ⟨#[bAt s p, bAt s (p + 1)]⟩ := by
  have hs : s.data.size = s.size := rfl
  apply ByteArray.ext
  rw [ByteArray.data_extract]
  apply Array.ext_getElem?
  intro i
  rw [Array.getElem?_extract]
  have get : ∀ j, p + j < s.data.size → s.data[p + j]? = some (bAt s (p + j)) := fun j hj => by rw [Array.getElem?_eq_getElem hj]; simp [bAt, Array.getD]; intro h; omega
  match i with
  | 0 => rw [if_pos (by omega)]; exact (get 0 (by omega)).trans rfl
  | 1 => rw [if_pos (by omega)]; exact (get 1 (by omega)).trans rfl
  | i + 2 => rw [if_neg (by omega)]; rfl
theorem chunk4 (s : ByteArray) (p : Nat) (h : p + 4 ≤ s.size) : s.extract p (p + 4) = ⟨#[bAt s p, bAt s (p + 1), bAt s (p + 2), bAt s (p + 3)]⟩ := by
  have hs : s.data.size = s.size := rfl
  apply ByteArray.ext
  rw [ByteArray.data_extract]
  apply Array.ext_getElem?
  intro i
  rw [Array.getElem?_extract]
  have get : ∀ j, p + j < s.data.size → s.data[p + j]? = some (bAt s (p + j)) := fun j hj => by rw [Array.getElem?_eq_getElem hj]; simp [bAt, Array.getD]; intro h; omega
  match i with
  | 0 => rw [if_pos (by omega)]; exact (get 0 (by omega)).trans rfl
  | 1 => rw [if_pos (by omega)]; exact (get 1 (by omega)).trans rfl
  | 2 => rw [if_pos (by omega)]; exact (get 2 (by omega)).trans rfl
  | 3 => rw [if_pos (by omega)]; exact (get 3 (by omega)).trans rfl
  | i + 4 => rw [if_neg (by omega)]; rfl
theorem rdecode_bad (s : ByteArray) (hs : s.size ≤ 1048576) (hm : s.size % 8 ≠ 0) (w : World) :
    Calls Tryd.prog 11 #[.string s] w fun e w' => e = .returned (.tuple #[.slice none 0 0, .int .i64 30]) ∧ w = w' := by
  have t1 : ((s.size : Int).tmod 8 != 0) = true := by
    rw [Int.tmod_eq_emod_of_nonneg (by omega)]
    simp; omega
  have t2 : ((s.size : Int) % 8 != 0) = true := by simp; omega
  have t3 : ¬ (s.size : Int).tmod 8 = 0 := by
    rw [Int.tmod_eq_emod_of_nonneg (by omega)]; omega
  go_enter Tryd.func11, Tryd.ntmps11
  go_wp2_with fail
  go_ret2
  exact ⟨rfl, rfl⟩
theorem index_at (s : ByteArray) (p : Nat) (i : Int) (hi : i = p) (h : p < s.size) (w : World) : (Instr.index 9 (.string s) (.int .i64 i)).run Tryd.prog w = .ok (.int .u8 ((bAt s p).toNat : Int)) w := by
  subst hi
  rw [run_index_string _ _ _ _ _ Tryd.underlying9, dif_pos ⟨by omega, by omega⟩]
  have e : s[(p : Int).toNat]'(by omega) = bAt s p := by
    have hs : s.data.size = s.size := rfl
    show s.data[(p : Int).toNat]'(by omega) = s.data.getD p 0
    simp [Array.getD, h]
  rw [e]
theorem slice_at (s : ByteArray) (p q : Nat) (i j : Int) (hi : i = p) (hj : j = q) (h : p ≤ q) (h2 : q ≤ s.size) (w : World) : (Instr.slice 9 (.string s) (some (.int .i64 i)) (some (.int .i64 j)) none).run Tryd.prog w = .ok (.string (s.extract p q)) w := by
  subst hi; subst hj
  exact run_slice_string _ _ _ _ _ _ _ Tryd.underlying9 (by omega) (by omega) (by omega)
theorem and15_i64 (b : UInt8) : bits .and .i64 (b.toNat : Int) 15 = (b.toNat : Int) % 16 := by
  have h := byte_u8 b
  have hx : b.toNat &&& 15 = b.toNat % 16 := Nat.and_two_pow_sub_one_eq_mod b.toNat 4
  have e : BitVec.ofInt 64 (b.toNat : Int) &&& BitVec.ofInt 64 15 = BitVec.ofNat 64 (b.toNat % 16) := by
    rw [BitVec.ofInt_natCast, show BitVec.ofInt 64 15 = BitVec.ofNat 64 15 from rfl, ← BitVec.ofNat_and, hx]
  show IntKind.i64.wrap ((BitVec.ofInt 64 (b.toNat : Int) &&& BitVec.ofInt 64 15).toNat : Int) = _
  rw [e, BitVec.toNat_ofNat, Nat.mod_eq_of_lt (by omega), IntKind.wrap_i64]
  omega
theorem dec_raw (s : ByteArray) (p : Nat) : [.int .i64 (IntKind.i64.wrap ((bAt s p).toNat : Int)), .int .i64 (bits .and .i64 (IntKind.i64.wrap ((bAt s (p + 1)).toNat : Int)) 15), .int .i64 (IntKind.i64.wrap ((bAt s (p + 1)).toNat : Int) / 16), .int .i64 (IntKind.i64.wrap (IntKind.i16.wrap (((bAt s (p + 3)).toNat : Int) * 256 + ((bAt s (p + 2)).toNat : Int)))), .int .i64 (IntKind.i64.wrap (IntKind.i32.wrap (((((bAt s (p + 7)).toNat : Int) * 256 + ((bAt s (p + 6)).toNat : Int)) * 256 + ((bAt s (p + 5)).toNat : Int)) * 256 + ((bAt s (p + 4)).toNat : Int))))] = (decAt s p).cells := by
  unfold decAt decS Slot.cells
  rw [w64_byte, w64_byte, and15_i64, w64_i16, w64_i32, Int.add_comm (((bAt s (p + 3)).toNat : Int) * 256)]
  rw [show ((((bAt s (p + 7)).toNat : Int) * 256 + ((bAt s (p + 6)).toNat : Int)) * 256 + ((bAt s (p + 5)).toNat : Int)) * 256 + ((bAt s (p + 4)).toNat : Int) = ((bAt s (p + 4)).toNat : Int) + (bAt s (p + 5)).toNat * 256 + (bAt s (p + 6)).toNat * 65536 + (bAt s (p + 7)).toNat * 16777216 by omega]
theorem dec_append {w0 wr : World} {s : ByteArray} {p k : Nat} {v : Value} (hk : k < 1048576) (hs : w0.heap.size ≤ wr.heap.size) (hb : Below w0.heap.size w0 wr) (ho : wr.ownsRow w0.heap.size 37 5 v k (decAll s k)) (hp : p = 8 * k) :
    ∃ v' w', (Builtin.append_ #[22, 22] 22 #[v, .slice (some ⟨wr.heap.size, 0, none⟩) 1 1]).run Tryd.prog (wr.alloc (.cells #[.int .i64 (IntKind.i64.wrap ((bAt s p).toNat : Int)), .int .i64 (bits .and .i64 (IntKind.i64.wrap ((bAt s (p + 1)).toNat : Int)) 15), .int .i64 (IntKind.i64.wrap ((bAt s (p + 1)).toNat : Int) / 16), .int .i64 (IntKind.i64.wrap (IntKind.i16.wrap (((bAt s (p + 3)).toNat : Int) * 256 + ((bAt s (p + 2)).toNat : Int)))), .int .i64 (IntKind.i64.wrap (IntKind.i32.wrap (((((bAt s (p + 7)).toNat : Int) * 256 + ((bAt s (p + 6)).toNat : Int)) * 256 + ((bAt s (p + 5)).toNat : Int)) * 256 + ((bAt s (p + 4)).toNat : Int))))] 37)).drew = .ok v' w' ∧ Below w0.heap.size w0 w' ∧ w'.ownsRow w0.heap.size 37 5 v' (k + 1) (decAll s (k + 1)) := by
  obtain ⟨i0, hi, hz0, hz1, hz2⟩ := info_parts info37
  have e : (wr.alloc (.cells #[.int .i64 (IntKind.i64.wrap ((bAt s p).toNat : Int)), .int .i64 (bits .and .i64 (IntKind.i64.wrap ((bAt s (p + 1)).toNat : Int)) 15), .int .i64 (IntKind.i64.wrap ((bAt s (p + 1)).toNat : Int) / 16), .int .i64 (IntKind.i64.wrap (IntKind.i16.wrap (((bAt s (p + 3)).toNat : Int) * 256 + ((bAt s (p + 2)).toNat : Int)))), .int .i64 (IntKind.i64.wrap (IntKind.i32.wrap (((((bAt s (p + 7)).toNat : Int) * 256 + ((bAt s (p + 6)).toNat : Int)) * 256 + ((bAt s (p + 5)).toNat : Int)) * 256 + ((bAt s (p + 4)).toNat : Int))))] 37)).drew.heap.size = wr.heap.size + 1 := by
    show (wr.alloc _).heap.size = _
    simp
  obtain ⟨v', w', hrun, ho', hg, _, _⟩ := run_append_own_at (P := Tryd.prog) (wr.alloc (.cells #[.int .i64 (IntKind.i64.wrap ((bAt s p).toNat : Int)), .int .i64 (bits .and .i64 (IntKind.i64.wrap ((bAt s (p + 1)).toNat : Int)) 15), .int .i64 (IntKind.i64.wrap ((bAt s (p + 1)).toNat : Int) / 16), .int .i64 (IntKind.i64.wrap (IntKind.i16.wrap (((bAt s (p + 3)).toNat : Int) * 256 + ((bAt s (p + 2)).toNat : Int)))), .int .i64 (IntKind.i64.wrap (IntKind.i32.wrap (((((bAt s (p + 7)).toNat : Int) * 256 + ((bAt s (p + 6)).toNat : Int)) * 256 + ((bAt s (p + 5)).toNat : Int)) * 256 + ((bAt s (p + 4)).toNat : Int))))] 37)).drew w0.heap.size 22 22 37 i0 _ 5 40 Tryd.underlying22 hi hz0 hz1 hz2 rfl (by decide) v k _ (ownsRow_below ((ho.alloc _)) ((Below.refl _ _).drew)) ⟨wr.heap.size, 0, none⟩ 1 1
    [.int .i64 (IntKind.i64.wrap ((bAt s p).toNat : Int)), .int .i64 (bits .and .i64 (IntKind.i64.wrap ((bAt s (p + 1)).toNat : Int)) 15), .int .i64 (IntKind.i64.wrap ((bAt s (p + 1)).toNat : Int) / 16), .int .i64 (IntKind.i64.wrap (IntKind.i16.wrap (((bAt s (p + 3)).toNat : Int) * 256 + ((bAt s (p + 2)).toNat : Int)))), .int .i64 (IntKind.i64.wrap (IntKind.i32.wrap (((((bAt s (p + 7)).toNat : Int) * 256 + ((bAt s (p + 6)).toNat : Int)) * 256 + ((bAt s (p + 5)).toNat : Int)) * 256 + ((bAt s (p + 4)).toNat : Int))))] rfl (fun j u hj => (new_cells wr #[.int .i64 (IntKind.i64.wrap ((bAt s p).toNat : Int)), .int .i64 (bits .and .i64 (IntKind.i64.wrap ((bAt s (p + 1)).toNat : Int)) 15), .int .i64 (IntKind.i64.wrap ((bAt s (p + 1)).toNat : Int) / 16), .int .i64 (IntKind.i64.wrap (IntKind.i16.wrap (((bAt s (p + 3)).toNat : Int) * 256 + ((bAt s (p + 2)).toNat : Int)))), .int .i64 (IntKind.i64.wrap (IntKind.i32.wrap (((((bAt s (p + 7)).toNat : Int) * 256 + ((bAt s (p + 6)).toNat : Int)) * 256 + ((bAt s (p + 5)).toNat : Int)) * 256 + ((bAt s (p + 4)).toNat : Int))))] 37 j u hj)) (by intro u hu; simp only [List.mem_cons, List.not_mem_nil, or_false] at hu; rcases hu with rfl | rfl | rfl | rfl | rfl <;> rfl) (by unfold maxLen; omega) (by omega) (by rw [e]; omega)
  refine ⟨v', w', hrun, (((hb.alloc hs _).drew)).grown hg (by rw [e]; omega) (fun j e => (ho.lt j e).1), ?_⟩
  rw [decAll_succ, ← hp, ← dec_raw]
  exact ho'
end Go.Proofs.YtkopbjjpghbkoaaDoor
