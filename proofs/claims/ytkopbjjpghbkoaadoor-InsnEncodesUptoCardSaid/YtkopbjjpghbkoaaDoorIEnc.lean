/-
  Encode of package insn: the bytes of any list of slots, or the error.
-/
import Derived.Test.YtkopbjjpghbkoaaDoorISlots
namespace Go.Proofs.YtkopbjjpghbkoaaDoor
open Go Go.RowKit
set_option linter.unusedVariables false
/-- A round's memory, put together. -/
theorem enc_row {w5 : World} {B : Nat} {X : Nat → Slot} {k : Nat} {v' : Value} (hx : (X k).Ok) (h : w5.ownsRow B 5 1 v' (k * 8 + 8) ((encAll X k).map byteV ++ (cellsE (X k).o (X k).d (X k).s (X k).f (X k).m).toList)) :
    w5.ownsRow B 5 1 v' ((k + 1) * 8) ((encAll X (k + 1)).map byteV) := by
  rw [(X k).bytes_cells hx, ← List.map_append, ← encAll_succ] at h
  rw [show (k + 1) * 8 = k * 8 + 8 by omega]
  exact h
theorem new_cells (w : World) (cs : Array Value) (t : TypeId) (j : Nat) (u : Value) (h : cs.toList[j]? = some u) : (w.alloc (.cells cs t)).cell? ((⟨w.heap.size, 0, none⟩ : Addr).add j) = some u := by
  rw [show (⟨w.heap.size, 0, none⟩ : Addr).add j = ⟨w.heap.size, j, none⟩ by unfold Addr.add; split <;> simp_all, (Blk.new w t cs).cell j]
  simpa using h
theorem cellsE_one (o d s f m : Int) (u : Value) (h : u ∈ (cellsE o d s f m).toList) : u.oneCell' = true := by
  simp only [cellsE, List.mem_cons, List.not_mem_nil, or_false] at h
  rcases h with rfl | rfl | rfl | rfl | rfl | rfl | rfl | rfl <;> rfl
set_option maxRecDepth 100000 in
set_option maxHeartbeats 4000000 in
theorem encode_any (A : Option Addr) (n c : Nat) (X : Nat → Slot) (hn : n ≤ 1048576) (w : World) (h : Slots w A n X) :
    Calls Tryd.prog 8 #[.slice A n c] w fun e w' => e = encAns X n ∧ Below w.heap.size w w' := by
  have H := Lib.hid h
  clear h
  obtain ⟨v0, w0, hmk, hb0, ho0⟩ := made_own (P := Tryd.prog) Tryd.underlying45 info8 (8 * n) (by omega) (by decide) w
  rw [show ((8 * n : Nat) : Int) = 8 * (n : Int) by omega] at hmk
  have e8' : wrap64 (8 * (n : Int)) = 8 * (n : Int) := by unfold wrap64; omega
  have HB0 := Lib.hid hb0
  have HO0 := Lib.hid ho0
  clear hb0 ho0
  obtain ⟨i0, hi, hz0, hz1, hz2⟩ := info_parts info8
  have HI := Lib.hid (And.intro hi (And.intro hz0 (And.intro hz1 hz2))); clear hi hz0 hz1 hz2
  go_enter Tryd.func8, Tryd.ntmps8
  go_wp2_with fail
  clear hmk e8'
  go_loopw [4, 14] (fun v i wr => ∃ k : Nat, k ≤ n ∧ i = .int .i64 k ∧ Below w.heap.size w wr ∧ AllOk X k ∧ wr.ownsRow w.heap.size 5 1 v (k * 8) ((encAll X k).map byteV)) (fun _ i _ => n - (intOf i).toNat)
  case atStart => exact ⟨0, by omega, rfl, HB0.out, fun i hi => by omega, HO0.out⟩
  case round =>
    clear HB0 HO0
    obtain ⟨k, hk, rfl, hb, hok, ho⟩ := hrel
    have HB := Lib.hid hb
    have HOK := Lib.hid hok
    have HO := Lib.hid ho
    clear hb hok ho
    by_cases hkn : k < n
    · obtain ⟨b, off, rfl, hlt, hc⟩ := (H.out.below HB.out) k hkn
      obtain ⟨c0, c1, c2, c3, c4⟩ := hc
      have g1 : decide (k < n) = true := by simpa using hkn
      have i2 : (k : Int) < (n : Int) := by omega
      obtain ⟨x, hx⟩ : ∃ x, X k = x := ⟨_, rfl⟩
      rw [hx] at c0 c1 c2 c3 c4
      have HX := Lib.hid hx
      clear hx hlt
      have n5 := Cells5.new wr x 37
      have N5 := Lib.hid n5
      clear n5
      by_cases hfit : x.Ok
      · have hd : decide (Fits x.o x.d x.s x.f x.m) = true := decide_eq_true hfit
        have hlt : wr.heap.size < (wr.alloc (.cells #[.int .i64 x.o, .int .i64 x.d, .int .i64 x.s, .int .i64 x.f, .int .i64 x.m] 37)).heap.size := by simp
        have CF := Lib.hid (fits_any x.o x.d x.s x.f x.m (wr.alloc (.cells #[.int .i64 x.o, .int .i64 x.d, .int .i64 x.s, .int .i64 x.f, .int .i64 x.m] 37)))
        have CB := Lib.hid (fun w => bytesOf_any x.o x.d x.s x.f x.m hfit w)
        have HF := Lib.hid hfit
        have HLT := Lib.hid hlt
        clear hfit hlt
        unfold insV at CF CB
        unfold cellsE at CB
        go_wp2_with (first
          | (go_at_call 23; refine CF.out.mono ?_; rintro e w2 ⟨rfl, hb2⟩; obtain ⟨d0, d1, d2, d3, d4⟩ := N5.out.below hb2 HLT.out; have HB2 := Lib.hid hb2; clear hb2)
          | (go_at_call 24; refine (CB.out _).mono ?_; rintro e w3 ⟨rfl, hb3⟩; have HB3 := Lib.hid hb3; clear hb3)
          | (at_builtin; refine wpList_append_own_at _ rfl _ _ 45 rfl w.heap.size 5 i0 (.int .u8 0) 1 1 Tryd.underlying45 HI.out.1 HI.out.2.1 HI.out.2.2.1 HI.out.2.2.2 rfl (by decide) _ _ _ rfl ((ownsRow_below (ownsRow_below (HO.out.alloc _) HB2.out) HB3.out).alloc _) ⟨w3.heap.size, 0, none⟩ 8 8 (cellsE x.o x.d x.s x.f x.m).toList rfl rfl (new_cells w3 (cellsE x.o x.d x.s x.f x.m) 46) (cellsE_one _ _ _ _ _) (by unfold maxLen; omega) (by omega) (by have := HB3.out.size; have := HB2.out.size; have := HB.out.size; simp at *; omega) ?_; intro v' w5 hown5 hgrow5 _ hat5; have HO5 := Lib.hid hown5; have HG5 := Lib.hid hgrow5; have HAT := Lib.hid hat5; clear hown5 hgrow5 hat5))
        go_roundw
        case rel =>
          refine ⟨k + 1, by omega, by go_num, ?_, ?_, ?_⟩
          · have s3 := HB3.out.size
            have s2 := HB2.out.size
            have s1 := HB.out.size
            simp at s2
            exact (((((HB.out.alloc s1 _).trans (HB2.out.mono (by simp; omega))).trans (HB3.out.mono (by omega))).alloc (by omega) _)).grown HG5.out (by simp; omega) (fun j e => (HO.out.lt j e).1)
          · intro i hi
            rcases Nat.lt_or_ge i k with h1 | h1
            · exact HOK.out i h1
            · rw [show i = k by omega, HX.out]; exact HF.out
          · have hk8 := HO5.out
            rw [← HX.out] at hk8
            exact enc_row (by rw [HX.out]; exact HF.out) hk8
        case measure => simp [intOf]; omega
      · have hd : decide (Fits x.o x.d x.s x.f x.m) = false := decide_eq_false hfit
        have CF := Lib.hid (fits_any x.o x.d x.s x.f x.m (wr.alloc (.cells #[.int .i64 x.o, .int .i64 x.d, .int .i64 x.s, .int .i64 x.f, .int .i64 x.m] 37)))
        have HF := Lib.hid hfit
        clear hfit
        unfold insV at CF
        go_wp2_with (go_at_call 23; refine CF.out.mono ?_; rintro e w2 ⟨rfl, hb2⟩; have HB2 := Lib.hid hb2; clear hb2)
        go_ret2
        refine ⟨(encAns_bad (fun hall => HF.out (by have := hall k hkn; rw [HX.out] at this; exact this))).symm, ?_⟩
        have s1 := HB.out.size
        exact (HB.out.alloc s1 _).trans (HB2.out.mono (by simp; omega))
    · have : k = n := by omega
      subst this
      have g1 : decide (k < k) = false := by simp
      have ho := HO.out
      rw [← encAll_length X k] at ho
      have hcv := own_str ho
      clear ho
      go_wp2_with fail
      go_ret2
      exact ⟨(encAns_ok HOK.out).symm, HB.out⟩
end Go.Proofs.YtkopbjjpghbkoaaDoor
