/-
  Package trie: a prefix's bits, one by one. Package trie: a key's first bits, cut out. Package trie: a key is read: its length, its form.
-/
import Derived.Test.YtomhflaofipccaaP1
import Derived.Test.YtomhflaofipccaaP20
import Derived.Test.YtomhflaofipccaaP6
import Derived.Test.YtomhflaofipccaaP8
import Derived.Shelf.Small.Bits
import Derived.Lib.BitFns
import Derived.BigQuiet
import Derived.Deep.QuietTactic
import Derived.Deep.Cut
import Derived.Outline
import Derived.Lib.BufferWrite
import Derived.Laws.MakeOwn
import Derived.StillTailTactics
namespace Go.Proofs.Ytomhflaofipccaa
open Go Go.RowKit Go.Maps Go.Shelf
set_option linter.unusedVariables false
set_option linter.unusedSimpArgs false
set_option maxRecDepth 100000
theorem Keeps.drewN' {S : Nat → Prop} {a w : World} (h : Keeps S a w) (n : Nat) : Keeps S a (w.drewN n) := ⟨h.os, h.tape, h.output, h.size, h.block⟩
/-- Nothing that was there has turned. -/
abbrev Qt (w w' : World) : Prop := Keeps (fun _ => False) w w'
def lzRen : Go.Shelf.Ren := ⟨fun | 126 => 58 | 131 => 56 | n => n, fun | 3 => 3 | 5 => 5 | 9 => 9 | n => n, fun | n => n⟩
theorem lzLaid : Go.Proofs.Lays.n131 Try.prog lzRen := {
  mixed := by kernel_rfl
  f126 := Try.func58.trans (congrArg some (by kernel_rfl))
  f131 := Try.func56.trans (congrArg some (by kernel_rfl))
  t3 := Try.underlying3
  a3 := Try.isAgg3
  z3 := Try.sizeOf3
  v3 := Try.zeroValue3
  t5 := Try.underlying5
  a5 := Try.isAgg5
  z5 := Try.sizeOf5
  v5 := Try.zeroValue5
  t9 := Try.underlying9
  a9 := Try.isAgg9
  z9 := Try.sizeOf9
  v9 := Try.zeroValue9 }
theorem lz_any (x : Nat) (h : x ≤ 255) (w : World) :
    Calls Try.prog 56 #[.int .u8 (x : Int)] w fun e w' => e = .returned (.int .i64 (8 - (Lib.bitLen x : Int))) ∧ w = w' :=
  (Any.bits_LeadingZeros8 lzLaid (x : Int) w (by omega) (by omega)).mono (by rintro e w' ⟨rfl, rfl⟩; exact ⟨by simp, rfl⟩)
theorem and_one : ∀ y : Fin 256, bits BinOp.and IntKind.i64 (wrap64 ((y.val : Nat) : Int)) 1 = ((y.val % 2 : Nat) : Int) := by decide +kernel
theorem get_byt (f : ByteArray) (i : Nat) (h : i < f.size) : f[i].toNat = byt f i := by
  unfold byt
  rw [List.getD_eq_getElem?_getD, Array.getElem?_toList, Array.getElem?_eq_getElem h]
  rfl
theorem bit_val (f : ByteArray) (n : Nat) : ((byt f (4 + n / 8) / 2 ^ (7 - n % 8) % 2 : Nat) : Int) = if bitB f n then 1 else 0 := by
  unfold bitB
  rw [Nat.testBit_eq_decide_div_mod_eq]
  generalize byt f (4 + n / 8) / 2 ^ (7 - n % 8) = X
  rcases Nat.mod_two_eq_zero_or_one X with h | h <;> simp [h]
def bitI (f : ByteArray) (n : Nat) : Int := if bitB f n then 1 else 0
set_option maxHeartbeats 1000000 in
theorem bit_any (f : ByteArray) (L : Int) (n : Nat) (hn : 4 + n / 8 < f.size) (hs : n ≤ 1048576) (w : World) :
    Calls Try.prog 39 #[.agg #[.string f, .int .i64 L], .int .i64 n] w fun e w' => e = .returned (.int .i64 (bitI f n)) ∧ Qt w w' := by
  go_enter Try.func39, Try.ntmps39
  go_wp2_with fail
  go_ret
  refine ⟨ret_int ?_, (Keeps.refl _ w).alloc _⟩
  rw [get_byt]
  unfold bitI
  rw [← bit_val]
  have hx := byt_lt f (4 + n / 8)
  have hy : byt f (4 + n / 8) / 2 ^ (7 - n % 8) < 256 := Nat.lt_of_le_of_lt (Nat.div_le_self _ _) hx
  have := and_one ⟨_, hy⟩
  simp only [Int.natCast_ediv, Int.natCast_pow, Int.cast_ofNat_Int] at this ⊢
  exact this
theorem xor_byte : ∀ a b : Fin 256, bits BinOp.xor IntKind.u8 ((a.val : Nat) : Int) ((b.val : Nat) : Int) = ((a.val ^^^ b.val : Nat) : Int) := by decide +kernel
theorem len_byte : ∀ d : Fin 256, d.val ≠ 0 → 1 ≤ Lib.bitLen d.val ∧ Lib.bitLen d.val ≤ 8 ∧ d.val.testBit (Lib.bitLen d.val - 1) = true ∧ ∀ t : Fin 8, Lib.bitLen d.val ≤ t.val → d.val.testBit t.val = false := by decide +kernel
section
variable {f g : ByteArray} {q m : Nat}
/-- A byte that is the same. -/
theorem agree_byte (h : Agree f g (8 * q)) (hd : byt f (4 + q) ^^^ byt g (4 + q) = 0) : Agree f g (8 * (q + 1)) := fun i hi => by
  by_cases e : i < 8 * q
  · exact h i e
  · have hb : byt f (4 + q) = byt g (4 + q) := by
      apply Nat.eq_of_testBit_eq
      intro t
      have := congrArg (fun x => x.testBit t) hd
      simpa using this
    unfold bitB
    rw [show 4 + i / 8 = 4 + q by omega, hb]
/-- .. that differs: at its first bit that does. -/
theorem share_byte (h : Agree f g (8 * q)) (hq : 8 * q < m) (hd : byt f (4 + q) ^^^ byt g (4 + q) ≠ 0) : share f g m = min m (8 * q + (8 - Lib.bitLen (byt f (4 + q) ^^^ byt g (4 + q)))) := by
  have hlt : byt f (4 + q) ^^^ byt g (4 + q) < 256 := Nat.xor_lt_two_pow (n := 8) (byt_lt f _) (byt_lt g _)
  obtain ⟨l1, l2, l3, l4⟩ := len_byte ⟨_, hlt⟩ hd
  simp only at l1 l2 l3 l4
  have hbit : ∀ t, t < 8 → ((bitB f (8 * q + t) = bitB g (8 * q + t)) ↔ (byt f (4 + q) ^^^ byt g (4 + q)).testBit (7 - t) = false) := fun t ht => by
    unfold bitB
    rw [show 4 + (8 * q + t) / 8 = 4 + q by omega, show 7 - (8 * q + t) % 8 = 7 - t by omega, Nat.testBit_xor]
    cases (byt f (4 + q)).testBit (7 - t) <;> cases (byt g (4 + q)).testBit (7 - t) <;> simp
  generalize byt f (4 + q) ^^^ byt g (4 + q) = d at *
  generalize Lib.bitLen d = z at *
  refine share_eq (Nat.min_le_left _ _) (fun i hi => ?_) (fun hk => ?_)
  · by_cases e : i < 8 * q
    · exact h i e
    · have := (hbit (i - 8 * q) (by omega)).2 (l4 ⟨7 - (i - 8 * q), by omega⟩ (by show z ≤ 7 - (i - 8 * q); omega))
      rwa [show 8 * q + (i - 8 * q) = i by omega] at this
  · rw [show min m (8 * q + (8 - z)) = 8 * q + (8 - z) by omega]
    intro hb
    have := (hbit (8 - z) (by omega)).1 hb
    rw [show 7 - (8 - z) = z - 1 by omega, l3] at this
    cases this
end
set_option maxHeartbeats 2000000 in
theorem same_any (f g : ByteArray) (lf lg k : Nat) (hk1 : k ≤ lf) (hk2 : k ≤ lg) (hf : lf ≤ 8 * (f.size - 4)) (hg : lg ≤ 8 * (g.size - 4)) (hs : lf ≤ 1048576) (hs2 : lg ≤ 1048576) (ha : Agree f g k) (w : World) :
    Calls Try.prog 38 #[.agg #[.string f, .int .i64 lf], .agg #[.string g, .int .i64 lg], .int .i64 k] w fun e w' => e = .returned (.int .i64 (share f g (min lf lg))) ∧ Qt w w' := by
  obtain ⟨m, hm⟩ : ∃ m, min lf lg = m := ⟨_, rfl⟩
  have em : min (lf : Int) (lg : Int) = (m : Int) := by omega
  obtain ⟨q0, hq0⟩ : ∃ q0, k / 8 = q0 := ⟨_, rfl⟩
  have ek : (k : Int) - (k : Int) % 8 = 8 * (q0 : Int) := by omega
  have HA : Hid (Agree f g (8 * q0)) := ha.mono (by omega)
  have hb1 : m ≤ 8 * (f.size - 4) := by omega
  have hb2 : m ≤ 8 * (g.size - 4) := by omega
  have hb3 : 8 * q0 ≤ m := by omega
  have hb4 : m ≤ 1048576 := by omega
  rw [hm]
  clear hm hk1 hk2 hf hg ha hq0
  go_enter Try.func38, Try.ntmps38
  go_wp2_with fail
  go_loopw [8] (fun i wr => ∃ q : Nat, i = .int .i64 (8 * (q : Int)) ∧ 8 * q ≤ m + 8 ∧ (8 * q ≤ m → Agree f g (8 * q)) ∧ (m < 8 * q → Agree f g m) ∧ Qt w wr ∧ wr.cell? ⟨w.heap.size, 0, none⟩ = some (.string f) ∧ wr.cell? ⟨w.heap.size + 1, 0, none⟩ = some (.string g)) (fun i _ => m + 8 - (intOf i).toNat)
  case atStart =>
    refine ⟨q0, ?_, by omega, fun _ => HA.out, fun h => by omega, ((Keeps.refl _ w).alloc _).alloc _, ?_, ?_⟩
    · rfl
    · exact ((Blk.new w _ _).alloc _).cell 0
    · simp
  case round =>
    obtain ⟨q, rfl, hq, h1, h2, hw, c0, c1⟩ := hrel
    have H1 := Lib.hid h1; have H2 := Lib.hid h2; have HW := Lib.hid hw
    have HC : Hid (wr.cell? ⟨w.heap.size, 0, none⟩ = some (.string f) ∧ wr.cell? ⟨w.heap.size + 1, 0, none⟩ = some (.string g)) := ⟨c0, c1⟩
    clear h1 h2 hw
    have e8 : 8 * (q : Int) / 8 = (q : Int) := by omega
    by_cases hlt : 8 * q < m
    · have g1 : decide (8 * (q : Int) < (m : Int)) = true := by simp; omega
      have i1 : 4 + q < f.size := by omega
      have i2 : 4 + q < g.size := by omega
      have exor : bits BinOp.xor IntKind.u8 (f[4 + q].toNat : Int) (g[4 + q].toNat : Int) = ((byt f (4 + q) ^^^ byt g (4 + q) : Nat) : Int) := by
        rw [get_byt, get_byt]; exact xor_byte ⟨_, byt_lt f _⟩ ⟨_, byt_lt g _⟩
      have hd := @agree_byte f g q (H1.out (by omega))
      have hs := @share_byte f g q m (H1.out (by omega)) hlt
      have hdl : byt f (4 + q) ^^^ byt g (4 + q) < 256 := Nat.xor_lt_two_pow (n := 8) (byt_lt f _) (byt_lt g _)
      have HD := Lib.hid hd; have HS := Lib.hid hs
      clear hd hs
      generalize byt f (4 + q) ^^^ byt g (4 + q) = d at *
      have hqb : q ≤ 1048576 := by omega
      have w1 : IntKind.i64.wrap (q : Int) = (q : Int) := IntWalk.i64_in _ (by omega)
      have w2 : IntKind.i64.wrap (4 + (q : Int)) = 4 + (q : Int) := IntWalk.i64_in _ (by omega)
      have w3 : (0 : Int) ≤ 4 + (q : Int) := by omega
      have w4 : (4 + (q : Int)).toNat = 4 + q := by omega
      have w5 : 4 + (q : Int) < (f.size : Int) := by omega
      have w6 : 4 + (q : Int) < (g.size : Int) := by omega
      by_cases hd0 : d = 0
      · have n0 : ((d : Int) != 0) = false := by simp [hd0]
        have HD0 := Lib.hid hd0; clear hd0
        go_wp2_with fail
        go_quiet (fail)
        go_wp2_with fail
        go_roundw
        case rel => exact ⟨q + 1, by go_num, by omega, fun _ => HD.out HD0.out, fun h => (HD.out HD0.out).mono (by omega), HW.out.drewN' _, HC.out.1, HC.out.2⟩
        case measure => simp [intOf]; omega
      · have n0 : ((d : Int) != 0) = true := by simp [hd0]
        have hl : d ≤ 255 := by omega
        have hz := (len_byte ⟨d, hdl⟩ hd0).2.1
        have hz1 := (len_byte ⟨d, hdl⟩ hd0).1
        simp only at hz hz1
        have HS1 : Hid (share f g m = min m (8 * q + (8 - Lib.bitLen d))) := HS.out hd0
        have CL := Lib.hid (lz_any d hl)
        have HD0 := Lib.hid hd0; clear hd0
        generalize Lib.bitLen d = z at *
        go_wp2_with fail
        go_quiet (fail)
        go_wp2_with (go_at_call 56; refine (CL.out _).mono ?_; rintro e w1 ⟨rfl, rfl⟩)
        go_ret
        exact ⟨ret_int (by rw [HS1.out]; omega), HW.out.drewN' nq⟩
    · have g1 : decide (8 * (q : Int) < (m : Int)) = false := by simp; omega
      have HM : Hid (Agree f g m) := by
        by_cases e : 8 * q = m
        · exact e ▸ H1.out (by omega)
        · exact H2.out (by omega)
      go_wp2_with fail
      go_ret
      exact ⟨ret_int (by rw [share_eq (Nat.le_refl m) HM.out (fun h => by omega)]), HW.out⟩
end Go.Proofs.Ytomhflaofipccaa
namespace Go.Proofs.Ytomhflaofipccaa
open Go Go.RowKit Go.Maps
set_option linter.unusedVariables false
set_option linter.unusedSimpArgs false
set_option maxRecDepth 100000
/-- A row's bytes while the length is written: the first j of it. -/
def lenL (K n j : Nat) : List UInt8 := (List.range K).map fun i => if i < j then UInt8.ofNat (n / 256 ^ i % 256) else 0
theorem lenL_length (K n j : Nat) : (lenL K n j).length = K := by simp [lenL]
theorem lenL_set (K n j : Nat) (h : j < K) : (lenL K n j).set j (UInt8.ofNat (n / 256 ^ j % 256)) = lenL K n (j + 1) := by
  refine List.ext_getElem (by simp [lenL]) fun i h1 h2 => ?_
  rw [List.getElem_set]
  simp only [lenL, List.getElem_map, List.getElem_range]
  by_cases e : j = i
  · subst e; simp
  · rw [if_neg e]
    by_cases hi : i < j
    · rw [if_pos hi, if_pos (by omega)]
    · rw [if_neg hi, if_neg (by omega)]
theorem byteV_set (l : List UInt8) (j : Nat) (b : UInt8) : (l.map byteV).toArray.setIfInBounds j (byteV b) = ((l.set j b).map byteV).toArray := by
  rw [List.setIfInBounds_toArray, List.map_set]
theorem byteV_nat (x : Nat) (h : x < 256) : Value.int .u8 (x : Int) = byteV (UInt8.ofNat x) := by
  unfold byteV
  rw [UInt8.toNat_ofNat_of_lt' (by simpa using h)]
theorem andNot_top : ∀ (x : Fin 256) (r : Fin 8), bits BinOp.andNot IntKind.u8 ((x.val : Nat) : Int) (255 / 2 ^ r.val) = ((top x.val r.val : Nat) : Int) := by decide +kernel
/-- What stands in the row behind the copy. -/
def midL (key : ByteArray) (n q : Nat) : List UInt8 := setAt (lenL key.size n 4) 4 ((key.data.toList.drop 4).take q)
theorem kl_length (key : ByteArray) : key.data.toList.length = key.size := by rw [Array.length_toList]; rfl
theorem midL_length (key : ByteArray) (n q : Nat) (h : 4 + q ≤ key.size) : (midL key n q).length = key.size := by
  unfold midL
  rw [setAt_length _ _ _ (by rw [lenL_length, List.length_take, List.length_drop, kl_length]; omega), lenL_length]
theorem midL_get (key : ByteArray) (n q i : Nat) (h : 4 + q ≤ key.size) (hi : i < key.size) : (midL key n q).getD i 0 = if i < 4 then UInt8.ofNat (n / 256 ^ i % 256) else if i < 4 + q then key.data.toList.getD i 0 else 0 := by
  have hk := kl_length key
  have hl : ((key.data.toList.drop 4).take q).length = q := by rw [List.length_take, List.length_drop]; omega
  unfold midL setAt
  rw [hl]
  simp only [List.getD_eq_getElem?_getD, List.append_assoc]
  by_cases h4 : i < 4
  · rw [if_pos h4, List.getElem?_append_left (by rw [List.length_take, lenL_length]; omega), List.getElem?_take, if_pos h4]
    simp [lenL, hi, h4]
  · rw [if_neg h4, List.getElem?_append_right (by rw [List.length_take, lenL_length]; omega), List.length_take, lenL_length, show min 4 key.size = 4 by omega]
    by_cases hq : i < 4 + q
    · rw [if_pos hq, List.getElem?_append_left (by rw [hl]; omega), List.getElem?_take, if_pos (by omega), List.getElem?_drop, show 4 + (i - 4) = i by omega]
    · rw [if_neg hq, List.getElem?_append_right (by rw [hl]; omega), hl, List.getElem?_drop, show 4 + q + (i - 4 - q) = i by omega]
      simp [lenL, hi, h4]
theorem byt_bstr (l : List UInt8) (i : Nat) : byt (bstr l) i = (l.getD i 0).toNat := by unfold byt bstr; simp
theorem cut_even (key : ByteArray) (n q : Nat) (h : 4 + q ≤ key.size) (h0 : n = 8 * q) : bstr (midL key n q) = cutB key n := by
  refine ba_ext (by rw [bstr_size, midL_length _ _ _ h, cutB_size]) fun i hi => ?_
  rw [bstr_size, midL_length _ _ _ h] at hi
  rw [byt_bstr, midL_get _ _ _ _ h hi, cutB_byt _ _ _ hi]
  unfold cutN
  by_cases h4 : i < 4
  · rw [if_pos h4, if_pos h4, UInt8.toNat_ofNat_of_lt' (by have := Nat.mod_lt (n / 256 ^ i) (show 0 < 256 by decide); simpa using this)]
  · rw [if_neg h4, if_neg h4]
    by_cases hq : i < 4 + q
    · rw [if_pos hq, show min 8 (n - 8 * (i - 4)) = 8 by omega]
      unfold top byt; simp
    · rw [if_neg hq, show min 8 (n - 8 * (i - 4)) = 0 by omega]
      have := byt_lt key i
      unfold top; simp; omega
theorem cut_odd (key : ByteArray) (n q r : Nat) (h : 4 + q < key.size) (h0 : n = 8 * q + r) (hr : r < 8) : bstr ((midL key n q).set (4 + q) (UInt8.ofNat (top (byt key (4 + q)) r))) = cutB key n := by
  have hl : (midL key n q).length = key.size := midL_length _ _ _ (by omega)
  refine ba_ext (by rw [bstr_size, List.length_set, hl, cutB_size]) fun i hi => ?_
  rw [bstr_size, List.length_set, hl] at hi
  rw [byt_bstr, cutB_byt _ _ _ hi]
  have hg := midL_get key n q i (by omega) hi
  rw [List.getD_eq_getElem?_getD] at hg ⊢
  rw [List.getElem?_set]
  unfold cutN
  by_cases e : 4 + q = i
  · subst e
    rw [if_pos rfl, if_pos (by omega), if_neg (by omega), show min 8 (n - 8 * (4 + q - 4)) = r by omega]
    have : top (byt key (4 + q)) r < 256 := Nat.lt_of_le_of_lt (top_le _ _) (byt_lt _ _)
    simp only [Option.getD_some]
    rw [UInt8.toNat_ofNat_of_lt' (by simpa using this)]
  · rw [if_neg e, hg]
    by_cases h4 : i < 4
    · rw [if_pos h4, if_pos h4, UInt8.toNat_ofNat_of_lt' (by have := Nat.mod_lt (n / 256 ^ i) (show 0 < 256 by decide); simpa using this)]
    · rw [if_neg h4, if_neg h4]
      by_cases hq : i < 4 + q
      · rw [if_pos hq, show min 8 (n - 8 * (i - 4)) = 8 by omega]
        unfold top byt; simp
      · rw [if_neg hq, show min 8 (n - 8 * (i - 4)) = 0 by omega]
        have := byt_lt key i
        unfold top; simp; omega
theorem size8' (w : World) : (sizeOf (Try.prog.elem 42)).run Try.prog w = .ok 1 w := by kernel_rfl
theorem elem8' : Try.prog.underlying 42 = some (.slice (Try.prog.elem 42)) := by kernel_rfl
theorem slice_four (g K : Nat) (hK : 5 ≤ K) (w : World) : (Instr.slice 42 (.slice (some ⟨g, 0, none⟩) K K) (some (.int .i64 4)) none none).run Try.prog w = .ok (.slice (some ⟨g, 4, none⟩) (K - 4) (K - 4)) w := by
  rw [run_slice_l (ht := elem8') (h0 := by omega) (h1 := by omega), size8']
  by_cases h : K = 4
  · omega
  · simp [Result.andThen, sliced, Addr.add]
    omega
set_option maxHeartbeats 2000000 in
theorem cut_any (key : ByteArray) (n : Nat) (h5 : 5 ≤ key.size) (h2 : key.size ≤ 260) (hn : n ≤ 8 * (key.size - 4)) (w : World) :
    Calls Try.prog 51 #[.string key, .int .i64 n] w fun e w' => e = .returned (.agg #[.string (cutB key n), .int .i64 n]) ∧ Qt w w' := by
  obtain ⟨K, hK⟩ : ∃ K, key.size = K := ⟨_, rfl⟩
  obtain ⟨i0, hi, hz0, hz1, hz2⟩ := info_parts info8
  obtain ⟨M, hM⟩ : ∃ M, M = madeCells (Value.int .u8 0).cells ((key.size : Int).toNat * i0.size) := ⟨_, rfl⟩
  have hmk : ∀ W : World, (Instr.makeSlice 42 (.int .i64 (key.size : Int)) (.int .i64 (key.size : Int))).run Try.prog W = .ok (.slice (some ⟨W.heap.size, 0, none⟩) key.size key.size) (W.alloc (.cells M 5)) := fun W => by
    have h := run_make (P := Try.prog) W 42 5 i0 (.int .u8 0) Try.underlying42 hi hz0 .i64 .i64 (key.size : Int) (key.size : Int) (by omega) (by omega) (by rw [hz2]; omega) (by omega)
    rw [← hM] at h
    simpa using h
  have hML : Hid (M = ((lenL K n 0).map byteV).toArray) := by
    refine Array.ext (by rw [hM, size_madeCells, hz1]; simp [Value.cells, lenL_length, hK]) fun i h1 h2 => ?_
    simp [hM, madeCells, Nat.mod_one, lenL, byteV, Value.cells]
  rw [hK] at hmk h5 h2 hn
  have HK := Lib.hid hK
  clear hM hi hz0 hz1 hz2
  have hn3 : n ≤ 2048 := by omega
  go_enter Try.func51, Try.ntmps51
  go_wp2_with fail
  go_loopw [12] (fun i wr => ∃ j : Nat, i = .int .i64 j ∧ j ≤ 4 ∧ Qt w wr ∧ Blk wr w.heap.size 64 #[.string ⟨#[]⟩, .int .i64 0] ∧ Blk wr (w.heap.size + 1) 5 ((lenL K n j).map byteV).toArray) (fun i _ => 4 - (intOf i).toNat)
  case atStart =>
    refine ⟨0, rfl, by omega, ((Keeps.refl _ w).alloc _).alloc _, (Blk.new w _ _).alloc _, ?_⟩
    rw [hML.out]
    have := Blk.new (w.alloc (.cells #[.string ⟨#[]⟩, .int .i64 0] 64)) 5 ((lenL K n 0).map byteV).toArray
    rw [show (w.alloc (.cells #[.string ⟨#[]⟩, .int .i64 0] 64)).heap.size = w.heap.size + 1 by simp] at this
    exact this
  case round =>
    obtain ⟨j, rfl, hj, hw, h0, h1⟩ := hrel
    have HW := Lib.hid hw; have H0 := Lib.hid h0; have H1 := Lib.hid h1
    by_cases hlt : j < 4
    · have g1 : decide ((j : Int) < 4) = true := by simp; omega
      have cf : wr.frozen? ⟨w.heap.size + 1, j, none⟩ = false := h1.frozen j
      have hjl : j < (lenL K n j).length := by rw [lenL_length]; omega
      have cc : wr.cell? ⟨w.heap.size + 1, j, none⟩ = some (byteV (lenL K n j)[j]) := by rw [h1.cell j]; simp [hjl]
      have hv : Value.int .u8 ((n : Int) / 2 ^ (8 * j) % 256) = byteV (UInt8.ofNat (n / 256 ^ j % 256)) := by
        rw [← byteV_nat _ (Nat.mod_lt _ (by decide)), show (256 : Nat) = 2 ^ 8 from rfl, ← Nat.pow_mul]
        simp
      have HV := Lib.hid hv; clear hv
      clear hw h0 h1
      go_wp2_with fail
      go_roundw
      case rel =>
        rw [HV.out]
        refine ⟨j + 1, by go_num, by omega, HW.out.setCell (.inr (by simp)) _, H0.out.far (by simp) _, ?_⟩
        have := H1.out.set_ j (byteV (UInt8.ofNat (n / 256 ^ j % 256)))
        rwa [byteV_set, lenL_set _ _ _ (by omega)] at this
      case measure => simp [intOf]; omega
    · obtain rfl : j = 4 := by omega
      obtain ⟨q, hq⟩ : ∃ q, n / 8 = q := ⟨_, rfl⟩
      obtain ⟨r, hr⟩ : ∃ r, n % 8 = r := ⟨_, rfl⟩
      have eq1 : (n : Int) / 8 = (q : Int) := by omega
      have er1 : (n : Int) % 8 = (r : Int) := by omega
      have hr8 : r < 8 := by omega
      have hq1 : 4 + q ≤ K := by omega
      have HN : Hid (n = 8 * q + r) := (by omega : n = 8 * q + r)
      have hs1 := slice_four (w.heap.size + 1) K h5
      have hs2 : ∀ W, (Instr.slice 9 (.string key) (some (.int .i64 4)) (some (.int .i64 (4 + (q : Int)))) none).run Try.prog W = .ok (.string (key.extract 4 (4 + q))) W := fun W =>
        run_slice_string _ _ _ _ _ _ _ Try.underlying9 (by omega) (by omega) (by rw [hK]; omega)
      have hsub : key.extract 4 (4 + q) = bstr ((key.data.toList.drop 4).take q) := by
        have := bstr_extract key.data.toList 4 q
        rwa [show bstr key.data.toList = key by unfold bstr; simp] at this
      have hcp : ∃ W3, (∀ ty, (Builtin.copy_ #[42, 9] ty #[.slice (some ⟨w.heap.size + 1, 4, none⟩) (K - 4) (K - 4), .string (key.extract 4 (4 + q))]).run Try.prog wr.drew = .ok (goInt ((key.extract 4 (4 + q)).size : Int)) W3) ∧ Blk W3 (w.heap.size + 1) 5 ((midL key n q).map byteV).toArray ∧ Keeps (fun b => b = w.heap.size + 1) wr.drew W3 := by
        have hlen : ((key.data.toList.drop 4).take q).length = q := by rw [List.length_take, List.length_drop, kl_length]; omega
        have hr := fun ty => Lib.run_copy_row_string (P := Try.prog) wr.drew 42 9 ty 5 (w.heap.size + 1) 4 (K - 4) (K - 4) (bstr ((key.data.toList.drop 4).take q)) ((lenL K n 4).map byteV).toArray 5 Try.underlying42 size8 (show Blk wr.drew _ _ _ from h1) (by rw [bstr_size, hlen]; omega) (by rw [bstr_size, hlen]; simp [lenL_length]; omega)
        rw [hsub]
        refine ⟨_, hr, ?_, setRow_keeps _ _ _⟩
        have e : (midL key n q).map byteV = (((lenL K n 4).map byteV).toArray.toList.take 4 ++ Lib.byteCells (bstr ((key.data.toList.drop 4).take q)).data.toList ++ ((lenL K n 4).map byteV).toArray.toList.drop (4 + (bstr ((key.data.toList.drop 4).take q)).size)) := by
          rw [bstr_size]
          unfold midL
          rw [hK]
          simp only [setAt, List.map_append]
          rw [List.map_take, List.map_drop (l := lenL K n 4)]
          rfl
        rw [e]
        exact setRow_heap wr.drew _ _ _ _ _ (show Blk wr.drew _ _ _ from h1)
      obtain ⟨W3, hcp, hb3, hk3⟩ := hcp
      have HB3 := Lib.hid hb3
      have HW3 : Hid (Qt w W3) := (HW.out.drew).trans (hk3.mono fun b e => .inr ⟨by omega, by rw [e]; exact h1.lt⟩)
      have HR3 : Hid (Blk W3 w.heap.size 64 #[.string ⟨#[]⟩, .int .i64 0]) := Blk.keeps (show Blk wr.drew _ _ _ from h0) hk3 (by omega)
      generalize key.extract 4 (4 + q) = sub at *
      clear hw h0 h1 hb3 hk3 hsub hq hr
      go_wp2_with fail
      go_still_tail 5, (by kernel_rfl)
      change wpList _ _ _ _ _ wr.drew
      by_cases hr0 : r = 0
      · have er0 : (n : Int) % 8 = 0 := by omega
        clear er1
        have hcv := conv_blk (cap := K) HB3.out
        rw [midL_length _ _ _ (by rw [hK]; exact hq1), hK] at hcv
        have HC : Hid (bstr (midL key n q) = cutB key n) := cut_even key n q (by rw [hK]; exact hq1) (by have := HN.out; omega)
        have hf0 := HR3.out.frozen 0
        have hf1 := HR3.out.frozen 1
        have hc0 : W3.cell? ⟨w.heap.size, 0, none⟩ = some (.string ⟨#[]⟩) := HR3.out.cell 0
        have hc1 : W3.cell? ⟨w.heap.size, 1, none⟩ = some (.int .i64 0) := HR3.out.cell 1
        go_wp2_with fail
        refine bodyPost_ret (results_cell_row rfl _ _ w.heap.size 64 _ (0, 0) _ rfl ((HR3.out.set_ 0 _).set_ 1 _) Try.underlying64 rfl (by kernel_rfl)) rfl ⟨?_, (HW3.out.setCell (.inr (Nat.le_refl _)) _).setCell (.inr (Nat.le_refl _)) _⟩
        rw [← HC.out]
        rfl
      · have g2 : decide (0 < (r : Int)) = true := by simp; omega
        have hx := byt_lt key (4 + q)
        have hi1 : 4 + q < key.size := by have := HN.out; omega
        have hi2 : 4 + (q : Int) < (K : Int) := by have := HN.out; omega
        have hi0 : (0 : Int) ≤ 4 + (q : Int) := by omega
        have hi5 : 4 + q < (midL key n q).length := by rw [midL_length _ _ _ (by rw [hK]; exact hq1)]; exact hi1
        have HI5 := Lib.hid hi5; clear hi5
        have hi3 : (4 + (q : Int)).toNat = 4 + q := by omega
        have hi4 : IntKind.i64.wrap (4 + (q : Int)) = 4 + (q : Int) := IntWalk.i64_in _ (by omega)
        have hv : bits BinOp.andNot IntKind.u8 (key[4 + q].toNat : Int) (255 / 2 ^ r) = ((top (byt key (4 + q)) r : Nat) : Int) := by
          rw [get_byt]; exact andNot_top ⟨_, hx⟩ ⟨r, hr8⟩
        go_wp2_with fail
        generalize (n : Int) % 8 = rr at *
        go_still_tail 9, (by kernel_rfl)
        change wpList _ _ _ _ _ W3.drew
        have HB4 : Hid (Blk W3.drew (w.heap.size + 1) 5 ((midL key n q).map byteV).toArray) := HB3.out
        have HR4 : Hid (Blk W3.drew w.heap.size 64 #[.string ⟨#[]⟩, .int .i64 0]) := HR3.out
        have HW4 : Hid (Qt w W3.drew) := HW3.out.drew
        generalize W3.drew = W4 at *
        have hml : (midL key n q).length = K := by rw [midL_length _ _ _ (by rw [hK]; exact hq1), hK]
        have hf4 := HB4.out.frozen (4 + q)
        have hc4 : W4.cell? ⟨w.heap.size + 1, 4 + q, none⟩ = some (byteV ((midL key n q)[4 + q]'(HI5.out))) := by rw [HB4.out.cell, List.getElem?_toArray, List.getElem?_map, List.getElem?_eq_getElem HI5.out]; rfl
        have HV : Hid (Value.int .u8 ((top (byt key (4 + q)) r : Nat) : Int) = byteV (UInt8.ofNat (top (byt key (4 + q)) r))) := Lib.hid (byteV_nat _ (Nat.lt_of_le_of_lt (top_le _ _) hx))
        have HC : Hid (bstr ((midL key n q).set (4 + q) (UInt8.ofNat (top (byt key (4 + q)) r))) = cutB key n) := cut_odd key n q r hi1 HN.out hr8
        generalize top (byt key (4 + q)) r = tt at *
        have HB5 : Hid (Blk (W4.setCell ⟨w.heap.size + 1, 4 + q, none⟩ (.int .u8 (tt : Int))) (w.heap.size + 1) 5 (((midL key n q).set (4 + q) (UInt8.ofNat tt)).map byteV).toArray) := by
          have := HB4.out.set_ (4 + q) (byteV (UInt8.ofNat tt))
          rw [byteV_set] at this
          rw [HV.out]; exact this
        have HR5 : Hid (Blk (W4.setCell ⟨w.heap.size + 1, 4 + q, none⟩ (.int .u8 (tt : Int))) w.heap.size 64 #[.string ⟨#[]⟩, .int .i64 0]) := HR4.out.far (by simp) _
        have HW5 : Hid (Qt w (W4.setCell ⟨w.heap.size + 1, 4 + q, none⟩ (.int .u8 (tt : Int)))) := HW4.out.setCell (.inr (by simp)) _
        have hcv := conv_blk (cap := K) HB5.out
        rw [List.length_set, hml] at hcv
        have hf0 := HR5.out.frozen 0
        have hf1 := HR5.out.frozen 1
        have hc0 : (W4.setCell ⟨w.heap.size + 1, 4 + q, none⟩ (.int .u8 (tt : Int))).cell? ⟨w.heap.size, 0, none⟩ = some (.string ⟨#[]⟩) := HR5.out.cell 0
        have hc1 : (W4.setCell ⟨w.heap.size + 1, 4 + q, none⟩ (.int .u8 (tt : Int))).cell? ⟨w.heap.size, 1, none⟩ = some (.int .i64 0) := HR5.out.cell 1
        go_wp2_with fail
        refine bodyPost_ret (results_cell_row rfl _ _ w.heap.size 64 _ (0, 0) _ rfl ((HR5.out.set_ 0 _).set_ 1 _) Try.underlying64 rfl (by kernel_rfl)) rfl ⟨?_, (HW5.out.setCell (.inr (Nat.le_refl _)) _).setCell (.inr (Nat.le_refl _)) _⟩
        rw [← HC.out]
        rfl
end Go.Proofs.Ytomhflaofipccaa
namespace Go.Proofs.Ytomhflaofipccaa
open Go Go.RowKit Go.Maps
set_option linter.unusedVariables false
set_option linter.unusedSimpArgs false
set_option maxRecDepth 100000
theorem or_leT (l : List UInt8) (b : UInt8) (h : l.length < 4) : bits .or .u32 (le l : Int) (((b.toNat : Int) * 2 ^ (8 * l.length)) % 4294967296) = (le (l ++ [b]) : Int) := by
  have h1 := le_lt l
  rw [pow_256] at h1
  have h2 := b.toNat_lt
  have h3 : b.toNat * 2 ^ (8 * l.length) < 2 ^ 32 := by
    have : b.toNat * 2 ^ (8 * l.length) < 256 * 2 ^ (8 * l.length) := (Nat.mul_lt_mul_right (Nat.two_pow_pos _)).2 h2
    have h4 : 256 * 2 ^ (8 * l.length) = 2 ^ (8 * l.length + 8) := by rw [Nat.pow_add]; omega
    have h5 : (2 : Nat) ^ (8 * l.length + 8) ≤ 2 ^ 32 := Nat.pow_le_pow_right (by omega) (by omega)
    omega
  have h6 : 2 ^ (8 * l.length) ≤ 2 ^ 32 := Nat.pow_le_pow_right (by omega) (by omega)
  have e : ((b.toNat : Int) * 2 ^ (8 * l.length)) % 4294967296 = ((b.toNat * 2 ^ (8 * l.length) : Nat) : Int) := by
    rw [Int.emod_eq_of_lt]
    · simp
    · exact Int.mul_nonneg (by omega) (Int.pow_nonneg (by omega))
    · have : ((b.toNat * 2 ^ (8 * l.length) : Nat) : Int) < ((2 ^ 32 : Nat) : Int) := by exact_mod_cast h3
      simpa using this
  have h7 : le l < 2 ^ 32 := by omega
  rw [e, bits_join_low .u32 32 (by decide) wraps_u32 (8 * l.length) (le l) _ (by omega) (by exact_mod_cast h1) (by exact_mod_cast h7) (by omega) ?_ (by exact_mod_cast h3), le_snoc, pow_256]
  · simp
  · have : b.toNat * 2 ^ (8 * l.length) % 2 ^ (8 * l.length) = 0 := Nat.mul_mod_left _ _
    exact_mod_cast this
theorem le_lenB (key : ByteArray) (h : 4 ≤ key.size) : le (key.data.toList.take 4) = lenB key := by
  have hl := kl_length key
  unfold lenB byt
  generalize key.data.toList = l at *
  match l, hl with
  | a :: b :: c :: d :: r, _ => simp [le]; omega
  | [], hl => simp at hl; omega
  | [a], hl => simp at hl; omega
  | [a, b], hl => simp at hl; omega
  | [a, b, c], hl => simp at hl; omega
theorem lenB_lt (key : ByteArray) : lenB key < 4294967296 := by
  have := byt_lt key 0; have := byt_lt key 1; have := byt_lt key 2; have := byt_lt key 3
  unfold lenB; omega
/-- A key of K bytes. -/
def IsKey (K : Nat) (key : ByteArray) : Prop := key.size = K ∧ lenB key ≤ 8 * (K - 4)
instance (K : Nat) (key : ByteArray) : Decidable (IsKey K key) := by unfold IsKey; infer_instance
/-- A key's form. -/
def formB (key : ByteArray) : ByteArray := cutB key (lenB key)
theorem IsKey.pre {K : Nat} {key : ByteArray} (h : IsKey K key) (h5 : 5 ≤ K) (h2 : K ≤ 260) : Pre K (formB key) (lenB key) := Pre.cut h.1 h5 h2 h.2
abbrev noPre : Value := .agg #[.string ⟨#[]⟩, .int .i64 0]
theorem kread_size (key : ByteArray) (K : Nat) (h : key.size ≠ K) (hK : K ≤ 260) (w : World) :
    Calls Try.prog 34 #[.string key, .int .i64 K] w fun e w' => e = .returned (.tuple #[noPre, .bool false]) ∧ Qt w w' := by
  have h1 : ((key.size : Int) != (K : Int)) = true := by simp; omega
  go_enter Try.func34, Try.ntmps34
  go_wp2_with fail
  refine bodyPost_ret (v := .tuple #[noPre, .bool false]) (by simp [results, Try.results34, go_sem]) rfl ⟨rfl, ?_⟩
  exact (Keeps.refl _ w).alloc _
set_option maxHeartbeats 2000000 in
theorem kread_ok (key : ByteArray) (K : Nat) (hK : key.size = K) (h5 : 5 ≤ K) (h2 : K ≤ 260) (hle : lenB key ≤ 8 * (K - 4)) (w : World) :
    Calls Try.prog 34 #[.string key, .int .i64 K] w fun e w' => e = .returned (.tuple #[.agg #[.string (formB key), .int .i64 (lenB key)], .bool true]) ∧ Qt w w' := by
  have h1 : ((key.size : Int) != (K : Int)) = false := by simp; omega
  have HL := Lib.hid (le_lenB key (by omega))
  have HLt := Lib.hid (lenB_lt key)
  have HE := Lib.hid hle
  have hkl := kl_length key
  have hxs : ∀ j (hj : j < key.size), (key[j].toNat : Int) % 4294967296 = (key[j].toNat : Int) := fun j hj => by have := key[j].toNat_lt; omega
  clear hle
  go_enter Try.func34, Try.ntmps34
  go_wp2_with fail
  go_loopw [6, 13] (fun n i wr => ∃ j : Nat, j ≤ 4 ∧ n = .int .u32 (le (key.data.toList.take j)) ∧ i = .int .i64 j ∧ wr = w.alloc (.cells #[.string ⟨#[]⟩, .int .i64 0] 64)) (fun _ i _ => 4 - (intOf i).toNat)
  case atStart => exact ⟨0, by omega, rfl, rfl, rfl⟩
  case round =>
    obtain ⟨j, hj, rfl, rfl, rfl⟩ := hrel
    by_cases hlt : j < 4
    · have hx : j < key.data.toList.length := by omega
      have hjk : j < key.size := by omega
      have hj8 : (8 : Int) * j ≤ 31 := by omega
      have e1 := or_leT (key.data.toList.take j) key.data.toList[j] (by simp; omega)
      have e2 : (key.data.toList.take j).length = j := by simp; omega
      have e3 : key.data.toList.take (j + 1) = key.data.toList.take j ++ [key.data.toList[j]] := by rw [List.take_succ_eq_append_getElem (by omega)]
      have e5 : key.data.toList[j] = key[j] := rfl
      have e4 : ((key[j].toNat : Nat) : Int) % 4294967296 = key[j].toNat := by have := key[j].toNat_lt; omega
      rw [e2, ← e3, e5, ← e4] at e1
      have E1 := Lib.hid e1
      clear e1 e2 e3 e4 e5 hxs
      go_wp2_with fail
      go_roundw
      case rel => exact ⟨j + 1, by omega, congrArg (Value.int .u32) E1.out, by go_num, trivial⟩
      case measure => simp [intOf]; omega
    · obtain rfl : j = 4 := by omega
      rw [HL.out]
      have hlt2 := HLt.out
      have ek : IntKind.u32.wrap (8 * ((K : Int) - 4)) = 8 * ((K : Int) - 4) := wraps_u32 _ (by omega) (by omega)
      have hg : decide (8 * ((K : Int) - 4) < (lenB key : Int)) = false := by have := HE.out; simp; omega
      have CC := Lib.hid (cut_any key (lenB key) (by omega) (by omega) (by have := HE.out; omega))
      have HB : Hid (Blk (w.alloc (.cells #[.string ⟨#[]⟩, .int .i64 0] 64)) w.heap.size 64 #[.string ⟨#[]⟩, .int .i64 0]) := Blk.new w _ _
      have HF : Hid (formB key = cutB key (lenB key)) := rfl
      go_wp2_with (go_at_call 51; refine (CC.out _).mono ?_; rintro e w1 ⟨rfl, hq⟩; have hb1 := HB.out.keeps hq (fun h => h); have hc0 : w1.cell? ⟨w.heap.size, 0, none⟩ = some (.string ⟨#[]⟩) := hb1.cell 0; have hc1 : w1.cell? ⟨w.heap.size, 1, none⟩ = some (.int .i64 0) := hb1.cell 1; have hf0 := hb1.frozen 0; have hf1 := hb1.frozen 1; have HQ := Lib.hid hq; clear hq)
      have hb2 := (hb1.set_ 0 (.string (cutB key (lenB key)))).set_ 1 (.int .i64 (lenB key))
      have k0 : ((w1.setCell ⟨w.heap.size, 0, none⟩ (.string (cutB key (lenB key)))).setCell ⟨w.heap.size, 1, none⟩ (.int .i64 (lenB key))).cell? ⟨w.heap.size, 0, none⟩ = some (.string (cutB key (lenB key))) := hb2.cell 0
      have k1 : ((w1.setCell ⟨w.heap.size, 0, none⟩ (.string (cutB key (lenB key)))).setCell ⟨w.heap.size, 1, none⟩ (.int .i64 (lenB key))).cell? ⟨w.heap.size, 1, none⟩ = some (.int .i64 (lenB key)) := hb2.cell 1
      refine bodyPost_ret (v := .tuple #[.agg #[.string (cutB key (lenB key)), .int .i64 (lenB key)], .bool true]) (by simp [results, Try.results34, go_sem, k0, k1]) rfl ⟨rfl, ?_⟩
      exact ((((Keeps.refl _ w).alloc _).trans (HQ.out.mono fun _ h => h.elim)).setCell (.inr (Nat.le_refl _)) _).setCell (.inr (Nat.le_refl _)) _
set_option maxHeartbeats 2000000 in
theorem kread_long (key : ByteArray) (K : Nat) (hK : key.size = K) (h5 : 5 ≤ K) (h2 : K ≤ 260) (hle : 8 * (K - 4) < lenB key) (w : World) :
    Calls Try.prog 34 #[.string key, .int .i64 K] w fun e w' => e = .returned (.tuple #[noPre, .bool false]) ∧ Qt w w' := by
  have h1 : ((key.size : Int) != (K : Int)) = false := by simp; omega
  have HL := Lib.hid (le_lenB key (by omega))
  have HLt := Lib.hid (lenB_lt key)
  have HE := Lib.hid hle
  have hkl := kl_length key
  have hxs : ∀ j (hj : j < key.size), (key[j].toNat : Int) % 4294967296 = (key[j].toNat : Int) := fun j hj => by have := key[j].toNat_lt; omega
  clear hle
  go_enter Try.func34, Try.ntmps34
  go_wp2_with fail
  go_loopw [6, 13] (fun n i wr => ∃ j : Nat, j ≤ 4 ∧ n = .int .u32 (le (key.data.toList.take j)) ∧ i = .int .i64 j ∧ wr = w.alloc (.cells #[.string ⟨#[]⟩, .int .i64 0] 64)) (fun _ i _ => 4 - (intOf i).toNat)
  case atStart => exact ⟨0, by omega, rfl, rfl, rfl⟩
  case round =>
    obtain ⟨j, hj, rfl, rfl, rfl⟩ := hrel
    by_cases hlt : j < 4
    · have hx : j < key.data.toList.length := by omega
      have hjk : j < key.size := by omega
      have hj8 : (8 : Int) * j ≤ 31 := by omega
      have e1 := or_leT (key.data.toList.take j) key.data.toList[j] (by simp; omega)
      have e2 : (key.data.toList.take j).length = j := by simp; omega
      have e3 : key.data.toList.take (j + 1) = key.data.toList.take j ++ [key.data.toList[j]] := by rw [List.take_succ_eq_append_getElem (by omega)]
      have e5 : key.data.toList[j] = key[j] := rfl
      have e4 : ((key[j].toNat : Nat) : Int) % 4294967296 = key[j].toNat := by have := key[j].toNat_lt; omega
      rw [e2, ← e3, e5, ← e4] at e1
      have E1 := Lib.hid e1
      clear e1 e2 e3 e4 e5 hxs
      go_wp2_with fail
      go_roundw
      case rel => exact ⟨j + 1, by omega, congrArg (Value.int .u32) E1.out, by go_num, trivial⟩
      case measure => simp [intOf]; omega
    · obtain rfl : j = 4 := by omega
      rw [HL.out]
      have hlt2 := HLt.out
      have ek : IntKind.u32.wrap (8 * ((K : Int) - 4)) = 8 * ((K : Int) - 4) := wraps_u32 _ (by omega) (by omega)
      have hg : decide (8 * ((K : Int) - 4) < (lenB key : Int)) = true := by have := HE.out; simp; omega
      go_wp2_with fail
      refine bodyPost_ret (v := .tuple #[noPre, .bool false]) (by simp [results, Try.results34, go_sem]) rfl ⟨rfl, ?_⟩
      exact (Keeps.refl _ w).alloc _
end Go.Proofs.Ytomhflaofipccaa
