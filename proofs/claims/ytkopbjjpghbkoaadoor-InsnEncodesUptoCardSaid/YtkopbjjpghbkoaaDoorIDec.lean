/-
  Decode of package insn: the slots of any bytes, or the error.
-/
import Derived.Test.YtkopbjjpghbkoaaDoorISlotOf
namespace Go.Proofs.YtkopbjjpghbkoaaDoor
open Go Go.RowKit
set_option linter.unusedVariables false
def bAt (s : ByteArray) (i : Nat) : UInt8 := s.data.getD i 0
def decAt (s : ByteArray) (p : Nat) : Slot := decS (bAt s p) (bAt s (p + 1)) (bAt s (p + 2)) (bAt s (p + 3)) (bAt s (p + 4)) (bAt s (p + 5)) (bAt s (p + 6)) (bAt s (p + 7))
theorem chunk8 (s : ByteArray) (p : Nat) (h : p + 8 ≤ s.size) : s.extract p (p + 8) = ⟨#[bAt s p, bAt s (p + 1), bAt s (p + 2), bAt s (p + 3), bAt s (p + 4), bAt s (p + 5), bAt s (p + 6), bAt s (p + 7)]⟩ := by
  have hs : s.data.size = s.size := rfl
  apply ByteArray.ext
  rw [ByteArray.data_extract]
  apply Array.ext_getElem?
  intro i
  rw [Array.getElem?_extract]
  have get : ∀ j, p + j < s.data.size → s.data[p + j]? = some (bAt s (p + j)) := fun j hj => by rw [Array.getElem?_eq_getElem hj]; simp [bAt, Array.getD]; intro h; omega
  match i with
  | 0 => rw [if_pos (by omega)]; exact (get 0 (by omega)).trans rfl
  | 1 => rw [if_pos (by omega)]; exact (get 1 (by omega)).trans rfl
  | 2 => rw [if_pos (by omega)]; exact (get 2 (by omega)).trans rfl
  | 3 => rw [if_pos (by omega)]; exact (get 3 (by omega)).trans rfl
  | 4 => rw [if_pos (by omega)]; exact (get 4 (by omega)).trans rfl
  | 5 => rw [if_pos (by omega)]; exact (get 5 (by omega)).trans rfl
  | 6 => rw [if_pos (by omega)]; exact (get 6 (by omega)).trans rfl
  | 7 => rw [if_pos (by omega)]; exact (get 7 (by omega)).trans rfl
  | i + 8 => rw [if_neg (by omega)]; rfl
def decAll (s : ByteArray) (n : Nat) : List Value := (List.range n).flatMap fun k => (decAt s (8 * k)).cells
theorem decAll_succ (s : ByteArray) (n : Nat) : decAll s (n + 1) = decAll s n ++ (decAt s (8 * n)).cells := by simp [decAll, List.range_succ]
theorem decode_bad (s : ByteArray) (hs : s.size ≤ 1048576) (hm : s.size % 8 ≠ 0) (w : World) :
    Calls Tryd.prog 10 #[.string s] w fun e w' => e = .returned (.tuple #[.slice none 0 0, .int .i64 30]) ∧ w = w' := by
  have t1 : ((s.size : Int).tmod 8 != 0) = true := by
    rw [Int.tmod_eq_emod_of_nonneg (by omega)]
    simp; omega
  have t2 : ((s.size : Int) % 8 != 0) = true := by simp; omega
  have t3 : ¬ (s.size : Int).tmod 8 = 0 := by
    rw [Int.tmod_eq_emod_of_nonneg (by omega)]; omega
  go_enter Tryd.func10, Tryd.ntmps10
  go_wp2_with fail
  go_ret2
  exact ⟨rfl, rfl⟩
set_option maxRecDepth 100000 in
set_option maxHeartbeats 2000000 in
theorem decode_ok (s : ByteArray) (n : Nat) (hs : s.size = 8 * n) (hn : n ≤ 1048576) (w : World) :
    Calls Tryd.prog 10 #[.string s] w fun e w' => ∃ v, e = .returned (.tuple #[v, .int .i64 0]) ∧ Below w.heap.size w w' ∧ w'.ownsRow w.heap.size 37 5 v n (decAll s n) := by
  have t0 : (s.size : Int).tmod 8 = 0 := by rw [Int.tmod_eq_emod_of_nonneg (by omega)]; omega
  have t1 : ((s.size : Int).tmod 8 != 0) = false := by rw [t0]; rfl
  have t4 : (s.size : Int).tdiv 8 = (n : Int) := by rw [Int.tdiv_eq_ediv_of_nonneg (by omega)]; omega
  obtain ⟨v0, w0, hmk, hb0, ho0⟩ := made_own (P := Tryd.prog) Tryd.underlying22 info37 n (by omega) (by decide) w
  have HB0 := Lib.hid hb0
  have HO0 := Lib.hid ho0
  have HS := Lib.hid hs
  clear hb0 ho0
  obtain ⟨i0, hi, hz0, hz1, hz2⟩ := info_parts info37
  have HI := Lib.hid (And.intro hi (And.intro hz0 (And.intro hz1 hz2))); clear hi hz0 hz1 hz2
  have hle : s.size ≤ 8388608 := by omega
  clear hs
  go_enter Tryd.func10, Tryd.ntmps10
  go_wp2_with fail
  clear hmk t0 t1 t4
  go_loopw [4, 5] (fun v i wr => ∃ k p : Nat, k ≤ n ∧ p = 8 * k ∧ i = .int .i64 p ∧ Below w.heap.size w wr ∧ wr.ownsRow w.heap.size 37 5 v k (decAll s k)) (fun _ i _ => 8 * n - (intOf i).toNat)
  case atStart => exact ⟨0, 0, by omega, rfl, rfl, HB0.out, HO0.out⟩
  case round =>
    clear HB0 HO0
    obtain ⟨k, p, hk, hp, rfl, hb, ho⟩ := hrel
    have HB := Lib.hid hb
    have HO := Lib.hid ho
    have HP := Lib.hid hp
    clear hb ho
    by_cases hkn : k < n
    · have hp8 : p + 8 ≤ s.size := by have := HS.out; omega
      have g1 : decide (p < s.size) = true := by simp; omega
      have i1 : (p : Int) ≤ (p : Int) + 8 := by omega
      have i2 : (p : Int) + 8 ≤ (s.size : Int) := by omega
      have i3 : ((p : Int) + 8).toNat = p + 8 := by omega
      have hch := chunk8 s p hp8
      have CS := Lib.hid (fun w => slotOf_any (bAt s p) (bAt s (p + 1)) (bAt s (p + 2)) (bAt s (p + 3)) (bAt s (p + 4)) (bAt s (p + 5)) (bAt s (p + 6)) (bAt s (p + 7)) w)
      rw [← hch] at CS
      clear hch hp
      obtain ⟨x, hx⟩ : ∃ x, decS (bAt s p) (bAt s (p + 1)) (bAt s (p + 2)) (bAt s (p + 3)) (bAt s (p + 4)) (bAt s (p + 5)) (bAt s (p + 6)) (bAt s (p + 7)) = x := ⟨_, rfl⟩
      rw [hx] at CS
      have HX : Hid (decAt s p = x) := hx
      clear hx
      unfold Slot.V insV at CS
      go_wp2_with (first
        | (go_at_call 26; refine (CS.out _).mono ?_; rintro e w3 ⟨rfl, hb3⟩; have HB3 := Lib.hid hb3; clear hb3)
        | (at_builtin; refine wpList_append_own_at _ rfl _ _ 22 rfl w.heap.size 37 i0 (.agg #[.int .i64 0, .int .i64 0, .int .i64 0, .int .i64 0, .int .i64 0]) 5 40 Tryd.underlying22 HI.out.1 HI.out.2.1 HI.out.2.2.1 HI.out.2.2.2 rfl (by decide) _ _ _ rfl ((ownsRow_below HO.out HB3.out).alloc _) ⟨w3.heap.size, 0, none⟩ 1 1 x.cells rfl rfl (new_cells w3 #[.int .i64 x.o, .int .i64 x.d, .int .i64 x.s, .int .i64 x.f, .int .i64 x.m] 37) (by intro u hu; simp [Slot.cells] at hu; rcases hu with rfl | rfl | rfl | rfl | rfl <;> rfl) (by unfold maxLen; omega) (by omega) (by have := HB3.out.size; have := HB.out.size; simp; omega) ?_; intro v' w5 hown5 hgrow5 _ hat5; have HO5 := Lib.hid hown5; have HG5 := Lib.hid hgrow5; have HAT := Lib.hid hat5; clear hown5 hgrow5 hat5))
      go_roundw
      case rel =>
        refine ⟨k + 1, p + 8, by omega, by have := HP.out; omega, by go_num, ?_, ?_⟩
        · have s3 := HB3.out.size
          have s1 := HB.out.size
          exact (((HB.out.trans (HB3.out.mono s1)).alloc (by omega) _)).grown HG5.out (by simp; omega) (fun j e => (HO.out.lt j e).1)
        · rw [decAll_succ, ← HP.out, HX.out]
          exact HO5.out
      case measure => have := HP.out; simp [intOf]; omega
    · have : k = n := by omega
      subst this
      have g1 : decide (p < s.size) = false := by have := HP.out; have := HS.out; simp; omega
      clear hp
      go_wp2_with fail
      go_ret2
      exact ⟨_, rfl, HB.out, HO.out⟩
end Go.Proofs.YtkopbjjpghbkoaaDoor
