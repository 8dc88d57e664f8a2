/-
  The reference of layer 11: a key's length, its bits, its form. The reference of layer 11: a key's form. The reference of layer 11: Lookup.
-/
import Derived.Test.YtomhflaofipccaaGreatP30
import Derived.Laws.BitsLemmas
namespace Go.Proofs.YtomhflaofipccaaGreat
open Go Go.RowKit Go.Maps
set_option linter.unusedVariables false
set_option linter.unusedSimpArgs false
set_option maxRecDepth 100000
theorem or_byte (N b : Int) (hN : 0 ≤ N ∧ N < 16777216) (hb : 0 ≤ b ∧ b ≤ 255) : bits .or .u64 (N * 256) b = N * 256 + b :=
  bits_join .u64 63 (by decide) (fun n h0 h1 => by rw [IntKind.wrap_u64]; omega) 8 (N * 256) b (by omega) (by omega) (by omega) (by omega) (by omega) (by omega)
theorem or_byte' (N : Int) (b : UInt8) (hN : 0 ≤ N ∧ N < 16777216) : bits .or .u64 (N * 256) (IntKind.u64.wrap (b.toNat : Int)) = N * 256 + (b.toNat : Int) := by
  have := b.toNat_lt
  rw [IntKind.wrap_u64, Int.emod_eq_of_lt (by omega) (by omega)]
  exact or_byte N _ hN (by omega)
theorem or_zero' (b : UInt8) : bits .or .u64 0 (IntKind.u64.wrap (b.toNat : Int)) = (b.toNat : Int) := by
  have := or_byte' 0 b (by omega)
  simpa using this
theorem byte_le (a : UInt8) : 0 ≤ (a.toNat : Int) ∧ (a.toNat : Int) ≤ 255 := by have := a.toNat_lt; omega
set_option maxHeartbeats 1000000 in
theorem fromle_4 (a b c d : UInt8) (w : World) :
    Calls Tryz.prog 58 #[.string ⟨#[a, b, c, d]⟩] w fun e w' => e = .returned (.int .u64 ((((d.toNat : Int) * 256 + (c.toNat : Int)) * 256 + (b.toNat : Int)) * 256 + (a.toNat : Int))) ∧ w = w' := by
  have ha := byte_le a
  have hb := byte_le b
  have hc := byte_le c
  have hd := byte_le d
  have b2 : (d.toNat : Int) * 256 % 18446744073709551616 = (d.toNat : Int) * 256 := by omega
  have v2 : IntKind.u64.wrap ((d.toNat : Int) * 256) = (d.toNat : Int) * 256 := by rw [IntKind.wrap_u64]; omega
  have b1 : ((d.toNat : Int) * 256 + (c.toNat : Int)) * 256 % 18446744073709551616 = ((d.toNat : Int) * 256 + (c.toNat : Int)) * 256 := by omega
  have v1 : IntKind.u64.wrap (((d.toNat : Int) * 256 + (c.toNat : Int)) * 256) = ((d.toNat : Int) * 256 + (c.toNat : Int)) * 256 := by rw [IntKind.wrap_u64]; omega
  have b0 : (((d.toNat : Int) * 256 + (c.toNat : Int)) * 256 + (b.toNat : Int)) * 256 % 18446744073709551616 = (((d.toNat : Int) * 256 + (c.toNat : Int)) * 256 + (b.toNat : Int)) * 256 := by omega
  have v0 : IntKind.u64.wrap ((((d.toNat : Int) * 256 + (c.toNat : Int)) * 256 + (b.toNat : Int)) * 256) = (((d.toNat : Int) * 256 + (c.toNat : Int)) * 256 + (b.toNat : Int)) * 256 := by rw [IntKind.wrap_u64]; omega
  go_enter Tryz.func58, Tryz.ntmps58
  go_wp2_with fail
  go_loop [3, 4] (fun n i => (i = .int .i64 3 ∧ n = .int .u64 0) ∨ (i = .int .i64 2 ∧ n = .int .u64 (d.toNat : Int)) ∨ (i = .int .i64 1 ∧ n = .int .u64 ((d.toNat : Int) * 256 + (c.toNat : Int))) ∨ (i = .int .i64 0 ∧ n = .int .u64 (((d.toNat : Int) * 256 + (c.toNat : Int)) * 256 + (b.toNat : Int))) ∨ (i = .int .i64 (-1) ∧ n = .int .u64 ((((d.toNat : Int) * 256 + (c.toNat : Int)) * 256 + (b.toNat : Int)) * 256 + (a.toNat : Int)))) (fun _ i => (intOf i + 1).toNat)
  case atStart => exact .inl ⟨rfl, rfl⟩
  case round =>
    rcases hrel with ⟨rfl, rfl⟩ | ⟨rfl, rfl⟩ | ⟨rfl, rfl⟩ | ⟨rfl, rfl⟩ | ⟨rfl, rfl⟩
    · go_wp2_with fail
      go_round
      case rel => exact .inr (.inl ⟨rfl, congrArg (Value.int .u64) (or_zero' d)⟩)
      case measure => simp [intOf]
    · go_wp2_with fail
      go_round
      case rel => exact .inr (.inr (.inl ⟨rfl, congrArg (Value.int .u64) (or_byte' (d.toNat : Int) c (by omega))⟩))
      case measure => simp [intOf]
    · go_wp2_with fail
      go_round
      case rel => exact .inr (.inr (.inr (.inl ⟨rfl, congrArg (Value.int .u64) (or_byte' ((d.toNat : Int) * 256 + (c.toNat : Int)) b (by omega))⟩)))
      case measure => simp [intOf]
    · go_wp2_with fail
      go_round
      case rel => exact .inr (.inr (.inr (.inr (⟨rfl, congrArg (Value.int .u64) (or_byte' (((d.toNat : Int) * 256 + (c.toNat : Int)) * 256 + (b.toNat : Int)) a (by omega))⟩))))
      case measure => simp [intOf]
    · go_wp2_with fail
      go_ret
      exact ⟨rfl, rfl⟩
theorem first4 (key : ByteArray) (h : 4 ≤ key.size) : ∃ a b c d : UInt8, key.extract 0 4 = ⟨#[a, b, c, d]⟩ ∧ (lenB key : Int) = (((d.toNat : Int) * 256 + (c.toNat : Int)) * 256 + (b.toNat : Int)) * 256 + (a.toNat : Int) := by
  obtain ⟨⟨l⟩⟩ := key
  have hl : 4 ≤ l.length := h
  match l, hl with
  | a :: b :: c :: d :: r, _ =>
    refine ⟨a, b, c, d, ?_, ?_⟩
    · have := bstr_extract (a :: b :: c :: d :: r) 0 4
      simpa [bstr] using this
    · unfold lenB byt
      simp
      omega
  | [], hl => simp at hl
  | [a], hl => simp at hl
  | [a, b], hl => simp at hl
  | [a, b, c], hl => simp at hl
theorem fromle_len (key : ByteArray) (h : 4 ≤ key.size) (w : World) :
    Calls Tryz.prog 58 #[.string (key.extract 0 4)] w fun e w' => e = .returned (.int .u64 (lenB key)) ∧ w = w' := by
  obtain ⟨a, b, c, d, h1, h2⟩ := first4 key h
  rw [h1, h2]
  exact fromle_4 a b c d w
def longI (K : Nat) (key : ByteArray) : Int := if IsKey K key then (lenB key : Int) else -1
set_option maxHeartbeats 1000000 in
theorem xlong_any {w : World} {y : Nat} {bx : Nat} {k v mx : Int} {K : Nat} {V : Value} {gone : Bool} (hy : Blk w y rT (rC bx k K v mx V gone)) (h5 : 5 ≤ K) (h2 : K ≤ 260) (key : ByteArray) :
    Calls Tryz.prog 30 #[tp y, .string key] w fun e w' => e = .returned (.int .i64 (longI K key)) ∧ w = w' := by
  have c2 : w.cell? ⟨y, 2, none⟩ = some (.int .i64 K) := hy.cell 2
  clear hy
  by_cases hs : key.size = K
  · have b1 : ((key.size : Int) != (K : Int)) = false := by simp; omega
    have CF := Lib.hid (fromle_len key (by omega))
    have hlt := lenB_lt key
    have k4 : (4 : Int) ≤ (key.size : Int) := by omega
    by_cases hl : lenB key ≤ 8 * (K - 4)
    · have HK : Hid (longI K key = lenB key) := by unfold longI; rw [if_pos ⟨hs, hl⟩]; exact Lib.hid rfl
      have g1 : decide (8 * ((K : Int) - 4) < (lenB key : Int)) = false := by simp; omega
      rw [HK.out]
      clear hl hs
      go_enter Tryz.func30, Tryz.ntmps30
      go_wp2_with (go_at_call 58; refine (CF.out _).mono ?_; rintro e w1 ⟨rfl, rfl⟩)
      go_ret
      exact ⟨rfl, rfl⟩
    · have HK : Hid (longI K key = -1) := by unfold longI; rw [if_neg (fun h => hl h.2)]; exact Lib.hid rfl
      have g1 : decide (8 * ((K : Int) - 4) < (lenB key : Int)) = true := by simp; omega
      rw [HK.out]
      clear hl hs
      go_enter Tryz.func30, Tryz.ntmps30
      go_wp2_with (go_at_call 58; refine (CF.out _).mono ?_; rintro e w1 ⟨rfl, rfl⟩)
      go_ret
      exact ⟨rfl, rfl⟩
  · have b1 : ((key.size : Int) != (K : Int)) = true := by simp; omega
    have HK : Hid (longI K key = -1) := by unfold longI; rw [if_neg (fun h => hs h.1)]; exact Lib.hid rfl
    rw [HK.out]
    clear hs
    go_enter Tryz.func30, Tryz.ntmps30
    go_wp2_with fail
    go_ret
    exact ⟨rfl, rfl⟩
set_option maxHeartbeats 1000000 in
theorem xbit_any (f : ByteArray) (n : Nat) (hn : 4 + n / 8 < f.size) (hs : n ≤ 1048576) (w : World) :
    Calls Tryz.prog 31 #[.string f, .int .i64 n] w fun e w' => e = .returned (.int .i64 (bitI f n)) ∧ w = w' := by
  go_enter Tryz.func31, Tryz.ntmps31
  go_wp2_with fail
  go_ret
  refine ⟨ret_int ?_, rfl⟩
  rw [get_byt]
  unfold bitI
  rw [← bit_val]
  have hx := byt_lt f (4 + n / 8)
  have hy : byt f (4 + n / 8) / 2 ^ (7 - n % 8) < 256 := Nat.lt_of_le_of_lt (Nat.div_le_self _ _) hx
  have := and_one ⟨_, hy⟩
  simp only [Int.natCast_ediv, Int.natCast_pow, Int.cast_ofNat_Int] at this ⊢
  exact this
end Go.Proofs.YtomhflaofipccaaGreat
namespace Go.Proofs.YtomhflaofipccaaGreat
open Go Go.RowKit Go.Maps
set_option linter.unusedVariables false
set_option linter.unusedSimpArgs false
set_option maxRecDepth 100000
/-- A byte without its bit r, counted from the highest. -/
def clr (x r : Nat) : Nat := if x.testBit (7 - r) then x - 2 ^ (7 - r) else x
theorem clr_op : ∀ (x : Fin 256) (r : Fin 8), bits BinOp.andNot IntKind.u8 ((x.val : Nat) : Int) (128 / 2 ^ r.val) = ((clr x.val r.val : Nat) : Int) := by decide +kernel
theorem clr_bit : ∀ (x : Fin 256) (r : Fin 8) (t : Fin 8), (clr x.val r.val).testBit t.val = (x.val.testBit t.val && decide (t.val ≠ 7 - r.val)) := by decide +kernel
theorem clr_le (x r : Nat) : clr x r ≤ x := by
  unfold clr
  split
  · exact Nat.sub_le _ _
  · exact Nat.le_refl _
/-- The bits n .. i - 1 of key are cleared. -/
structure FR (key : ByteArray) (n i : Nat) (l : List UInt8) : Prop where
  len : l.length = key.size
  four : ∀ t, t < 4 → byt (bstr l) t = byt key t
  bit : ∀ j, j < 8 * (key.size - 4) → bitB (bstr l) j = (bitB key j && !(decide (n ≤ j) && decide (j < i)))
theorem byt_bl (l : List UInt8) (i : Nat) : byt (bstr l) i = (l.getD i 0).toNat := by unfold byt bstr; simp
theorem FR.zero (key : ByteArray) (n : Nat) : FR key n n key.data.toList := by
  have e : bstr key.data.toList = key := by unfold bstr; simp
  refine ⟨kl_length key, fun t _ => by rw [e], fun j _ => ?_⟩
  rw [e]
  have : ¬ (n ≤ j ∧ j < n) := by omega
  by_cases h1 : n ≤ j <;> by_cases h2 : j < n <;> simp_all
theorem FR.step {key : ByteArray} {n i : Nat} {l : List UInt8} (h : FR key n i l) (hn : n ≤ i) (hi : i < 8 * (key.size - 4)) (hl : 4 + i / 8 < l.length) : FR key n (i + 1) (l.set (4 + i / 8) (UInt8.ofNat (clr (l[4 + i / 8]).toNat (i % 8)))) := by
  have hb : ∀ t, byt (bstr (l.set (4 + i / 8) (UInt8.ofNat (clr (l[4 + i / 8]).toNat (i % 8))))) t = if t = 4 + i / 8 then clr (byt (bstr l) t) (i % 8) else byt (bstr l) t := fun t => by
    rw [byt_bl, byt_bl]
    by_cases e : t = 4 + i / 8
    · subst e
      have h256 : clr l[4 + i / 8].toNat (i % 8) < 256 := Nat.lt_of_le_of_lt (clr_le _ _) (UInt8.toNat_lt _)
      rw [if_pos rfl]
      simp [List.getD, hl, Nat.mod_eq_of_lt h256]
    · rw [if_neg e]
      simp [List.getD, List.getElem?_set, Ne.symm e]
  refine ⟨by rw [List.length_set]; exact h.len, fun t ht => ?_, fun j hj => ?_⟩
  · rw [hb, if_neg (by omega)]
    exact h.four t ht
  · have h0 := h.bit j hj
    unfold bitB at h0 ⊢
    rw [hb]
    by_cases e : 4 + j / 8 = 4 + i / 8
    · rw [if_pos e]
      have hc := clr_bit ⟨byt (bstr l) (4 + j / 8), byt_lt _ _⟩ ⟨i % 8, Nat.mod_lt _ (by decide)⟩ ⟨7 - j % 8, by omega⟩
      simp only at hc
      rw [hc, h0]
      by_cases ej : j = i
      · subst ej
        simp [hn]
      · have e1 : decide (7 - j % 8 ≠ 7 - i % 8) = true := by simp; omega
        have e2 : decide (j < i + 1) = decide (j < i) := by simp only [decide_eq_decide]; omega
        rw [e1, e2, Bool.and_true]
    · rw [if_neg e, h0]
      have e2 : decide (j < i + 1) = decide (j < i) := by
        have : j ≠ i := fun e' => e (by rw [e'])
        simp only [decide_eq_decide]; omega
      rw [e2]
theorem FR.done {key : ByteArray} {i : Nat} {l : List UInt8} (h : FR key (lenB key) i l) (h4 : 4 ≤ key.size) (hi : 8 * (key.size - 4) ≤ i) (hle : lenB key ≤ 8 * (key.size - 4)) : bstr l = formB key := by
  refine ba_ext (by unfold formB; rw [cutB_size, bstr_size, h.len]) fun t ht => ?_
  rw [bstr_size, h.len] at ht
  unfold formB
  by_cases h4' : t < 4
  · rw [cutB_byt _ _ _ ht, h.four t h4', cut_first key _ t h4' rfl]
  · refine eq_of_bits (byt_lt _ _) (byt_lt _ _) fun b hb => ?_
    have h0 := h.bit (8 * (t - 4) + (7 - b)) (by omega)
    have h1 := cut_bit key (lenB key) (8 * (t - 4) + (7 - b)) (by omega)
    unfold bitB at h0 h1
    rw [show 4 + (8 * (t - 4) + (7 - b)) / 8 = t by omega, show 7 - (8 * (t - 4) + (7 - b)) % 8 = b by omega] at h0 h1
    rw [h0, h1]
    by_cases hc : 8 * (t - 4) + (7 - b) < lenB key
    · have : ¬ lenB key ≤ 8 * (t - 4) + (7 - b) := by omega
      simp [hc, this]
    · have h3 : lenB key ≤ 8 * (t - 4) + (7 - b) := by omega
      have h4 : 8 * (t - 4) + (7 - b) < i := by omega
      simp [hc, h3, h4]
section
variable {w : World} {y bx : Nat} {k v mx : Int} {K : Nat} {V : Value} {gone : Bool}
theorem xform_no (hy : Blk w y rT (rC bx k K v mx V gone)) (h5 : 5 ≤ K) (h2 : K ≤ 260) (key : ByteArray) (hk : ¬ IsKey K key) :
    Calls Tryz.prog 35 #[tp y, .string key] w fun e w' => e = .returned (.tuple #[.string ⟨#[]⟩, .bool false]) ∧ w = w' := by
  have CL := Lib.hid (xlong_any hy h5 h2 key)
  rw [show longI K key = -1 from if_neg hk] at CL
  clear hy h5 h2 hk
  go_enter Tryz.func35, Tryz.ntmps35
  go_wp2_with (go_at_call 30; refine CL.out.mono ?_; rintro e w1 ⟨rfl, rfl⟩)
  go_ret2
  exact ⟨rfl, rfl⟩
set_option maxHeartbeats 2000000 in
theorem xform_ok (hy : Blk w y rT (rC bx k K v mx V gone)) (h5 : 5 ≤ K) (h2 : K ≤ 260) (key : ByteArray) (hk : IsKey K key) :
    Calls Tryz.prog 35 #[tp y, .string key] w fun e w' => e = .returned (.tuple #[.string (formB key), .bool true]) ∧ Qt w w' := by
  have CL := Lib.hid (xlong_any hy h5 h2 key)
  rw [show longI K key = (lenB key : Int) from if_pos hk] at CL
  obtain ⟨hsz, hle⟩ := hk
  obtain ⟨c, w1, hcv, hc, hrow, hq⟩ := conv8 w key
  rw [hsz] at hcv hc
  have HF := Lib.hid (FR.zero key (lenB key))
  have HR := Lib.hid hrow; have HQ := Lib.hid hq
  have HD := Lib.hid (fun (i : Nat) (l : List UInt8) (h : FR key (lenB key) i l) (hi : 8 * (K - 4) ≤ i) => h.done (by omega) (by rw [hsz]; exact hi) (by rw [hsz]; exact hle))
  have HS := Lib.hid (fun (i : Nat) (l : List UInt8) (h : FR key (lenB key) i l) (hn : lenB key ≤ i) (hi : i < 8 * (K - 4)) (hl : 4 + i / 8 < l.length) => h.step hn (by rw [hsz]; exact hi) hl)
  have HSZ := Lib.hid hsz
  generalize lenB key = n at *
  have g0 : decide ((n : Int) < 0) = false := by simp
  clear hy hrow hq
  go_enter Tryz.func35, Tryz.ntmps35
  go_wp2_with (go_at_call 30; refine CL.out.mono ?_; rintro e w1 ⟨rfl, rfl⟩)
  go_loopw [8] (fun i wr => ∃ (j : Nat) (l : List UInt8), i = .int .i64 j ∧ n ≤ j ∧ j ≤ 8 * (K - 4) ∧ FR key n j l ∧ Row8 wr w.heap.size l ∧ Qt w wr) (fun i _ => 8 * (K - 4) - (intOf i).toNat)
  case atStart => exact ⟨n, _, rfl, Nat.le_refl _, hle, HF.out, HR.out, HQ.out⟩
  case round =>
    clear HF HR HQ hcv CL
    obtain ⟨j, l, rfl, hnj, hj, hf, hr, hq⟩ := hrel
    have HF := Lib.hid hf; have HR := Lib.hid hr; have HQ := Lib.hid hq
    have hll : l.length = K := by rw [hf.len]; exact HSZ.out
    have HLL := Lib.hid hll
    clear hf hq
    by_cases hlt : j < 8 * (K - 4)
    · obtain ⟨q, hq⟩ : ∃ q, j / 8 = q := ⟨_, rfl⟩
      obtain ⟨r, hr'⟩ : ∃ r, j % 8 = r := ⟨_, rfl⟩
      have eq1 : (j : Int) / 8 = (q : Int) := by omega
      have er1 : (j : Int) % 8 = (r : Int) := by omega
      have g1 : decide ((j : Int) < 8 * ((K : Int) - 4)) = true := by simp; omega
      have hql : 4 + q < l.length := by omega
      have hi2 : 4 + (q : Int) < (K : Int) := by omega
      have hi0 : (0 : Int) ≤ 4 + (q : Int) := by omega
      have hi3 : (4 + (q : Int)).toNat = 4 + q := by omega
      have hi4 : IntKind.i64.wrap (4 + (q : Int)) = 4 + (q : Int) := IntWalk.i64_in _ (by omega)
      have hr8 : r < 8 := by omega
      have cf := hr.frozen hql
      have cc := hr.cell hql
      have HSt := HS.out j l HF.out hnj hlt
      rw [hq, hr'] at HSt
      have HST : Hid (FR key n (j + 1) (l.set (4 + q) (UInt8.ofNat (clr (l[4 + q]).toNat r)))) := HSt hql
      have hv := clr_op ⟨(l[4 + q]).toNat, UInt8.toNat_lt _⟩ ⟨r, hr8⟩
      simp only at hv
      have HV : Hid (Value.int .u8 ((clr (l[4 + q]).toNat r : Nat) : Int) = byteV (UInt8.ofNat (clr (l[4 + q]).toNat r))) := Lib.hid (byteV_nat _ (Nat.lt_of_le_of_lt (clr_le _ _) (UInt8.toNat_lt _)))
      have HL := Lib.hid hql
      have HX : Hid (∀ W b, W = wr.setCell ⟨w.heap.size, 4 + q, none⟩ (byteV b) → Row8 W w.heap.size (l.set (4 + q) b) ∧ Qt w W) := fun W b e => by
        subst e
        exact ⟨HR.out.set_ _ _, HQ.out.setCell (.inr (Nat.le_refl _)) _⟩
      unfold byteV at cc
      generalize (l[4 + q]).toNat = x at *
      clear HSt hr hq hr' hql HR HQ HF
      go_wp2_with fail
      go_roundw
      case rel =>
        rw [HV.out]
        exact ⟨j + 1, _, by go_num, by omega, by omega, HST.out, (HX.out _ _ rfl).1, (HX.out _ _ rfl).2⟩
      case measure => simp [intOf]; omega
    · obtain rfl : j = 8 * (K - 4) := by omega
      have g1 : decide (((8 * (K - 4) : Nat) : Int) < 8 * ((K : Int) - 4)) = false := by simp; omega
      have hbk := hr.back c
      rw [hll, HD.out _ l HF.out (Nat.le_refl _)] at hbk
      clear hr hll
      go_wp2_with fail
      go_ret2
      exact ⟨rfl, HQ.out⟩
end
end Go.Proofs.YtomhflaofipccaaGreat
namespace Go.Proofs.YtomhflaofipccaaGreat
open Go Go.RowKit Go.Maps
set_option linter.unusedVariables false
set_option linter.unusedSimpArgs false
set_option maxRecDepth 100000
def bestI (o : Option Ent) : Int := o.elim (-1) fun e => (lenB e.key : Int)
def outI (o : Option Ent) : Int := o.elim 0 fun e => addr e.n 0
theorem best_lt (o : Option Ent) (e : Ent) : (bestI o < (lenB e.key : Int)) ↔ ∀ b, o = some b → lenB b.key < lenB e.key := by
  rcases o with _ | b
  · constructor
    · intro _ b h; cases h
    · intro _; show (-1 : Int) < _; omega
  · constructor
    · intro h b' h'; cases h'; have : (lenB b.key : Int) < (lenB e.key : Int) := h; omega
    · intro h; have := h b rfl; show (lenB b.key : Int) < _; omega
theorem best_ge (o : Option Ent) : -1 ≤ bestI o := by
  rcases o with _ | b
  · exact Int.le_refl _
  · show (-1 : Int) ≤ (lenB b.key : Int); omega
theorem bitI_eq (f g : ByteArray) (j : Nat) : (bitI f j == bitI g j) = true ↔ bitB f j = bitB g j := by
  unfold bitI
  cases bitB f j <;> cases bitB g j <;> simp
/-- How far an entry was read: ok says whether it may still be the one. -/
def LI (C : Prop) (f g : ByteArray) (k j : Nat) (ok : Bool) : Prop := if ok = true then C ∧ Agree f g j else ¬ (C ∧ Agree f g k)
theorem LI.start {C : Prop} {f g : ByteArray} {k : Nat} {ok : Bool} (h : ok = true ↔ C) : LI C f g k 0 ok := by
  unfold LI
  cases ok
  · rw [if_neg (by decide)]; intro hc; exact absurd (h.2 hc.1) (by decide)
  · rw [if_pos rfl]; exact ⟨h.1 rfl, fun i hi => by omega⟩
theorem LI.step {C : Prop} {f g : ByteArray} {k j : Nat} (h : LI C f g k j true) (hj : j < k) : LI C f g k (j + 1) (bitI f j == bitI g j) := by
  unfold LI at h ⊢
  rw [if_pos rfl] at h
  cases hb : (bitI f j == bitI g j)
  · rw [if_neg (by decide)]
    intro hc
    have := hc.2 j hj
    rw [← bitI_eq, hb] at this
    cases this
  · rw [if_pos rfl]
    have h1 := (bitI_eq f g j).1 hb
    refine ⟨h.1, fun i hi => ?_⟩
    rcases Nat.lt_or_ge i j with hlt | hge
    · exact h.2 i hlt
    · obtain rfl : i = j := by omega
      exact h1
theorem LI.yes {C : Prop} {f g : ByteArray} {k j : Nat} (h : LI C f g k j true) (hj : k ≤ j) : C ∧ Agree f g k := by
  unfold LI at h
  rw [if_pos rfl] at h
  exact ⟨h.1, h.2.mono hj⟩
theorem LI.no {C : Prop} {f g : ByteArray} {k j : Nat} (h : LI C f g k j false) : ¬ (C ∧ Agree f g k) := by
  unfold LI at h
  rwa [if_neg (by decide)] at h
section
variable {p : HPar} {w0 w w' : World} {Q Q0 U T T' : Nat → Prop} {s s' : HSt} {V V' : Value}
theorem HOk.isKey (hk : HOk p s) {i : Nat} {e : Ent} (he : s.es[i]? = some e) : IsKey p.key e.key := ⟨(hk.ent i e he).2.1.sz, (hk.ent i e he).2.1.le⟩
theorem YS.long (h : YS p w0 Q0 s T V w) (hp : p.Ok) (key : ByteArray) :
    Calls Tryz.prog 30 #[tp p.y, .string key] w fun e w' => e = .returned (.int .i64 (longI p.key key)) ∧ w = w' := xlong_any h.map hp.k1 hp.k2 key
set_option maxHeartbeats 4000000 in
theorem YS.look (h : YS p w0 Q0 s T V w) (hk : HOk p s) (hl : s.es.length ≤ 4096) (key : ByteArray) :
    Calls Tryz.prog 10 #[tp p.y, .string key] w fun e w' => e = .returned (.int .u64 (lookA p s key)) ∧ YS p w0 Q0 s T V w' := by
  have H := Lib.hid h
  have CL := Lib.hid (fun w1 key (h1 : YS p w0 Q0 s T V w1) => h1.long hk.par key)
  have HK := Lib.hid hk
  obtain ⟨A, c, rfl⟩ := h.shape
  have hk1 := hk.par.k1
  have hk2 := hk.par.k2
  by_cases hi : IsKey p.key key
  · have CL0 := Lib.hid (CL.out _ key H.out)
    rw [show longI p.key key = (lenB key : Int) from if_pos hi] at CL0
    have hi1 := hi.1
    have hi2 := hi.2
    have HA : Hid (lookA p s key = outI (longTo s.es key s.es.length)) := by unfold lookA; rw [if_pos hi]; exact Lib.hid rfl
    have g0 : decide ((0:Int) ≤ (lenB key : Int)) = true := by simp
    have HKN : Hid (lenB key ≤ 8 * (p.key - 4)) := hi2
    rw [HA.out]
    obtain ⟨n, hn⟩ : ∃ n, s.es.length = n := ⟨_, rfl⟩
    rw [hn] at hl ⊢
    have HN := Lib.hid hn
    clear h hk hi HA hn
    go_enter Tryz.func10, Tryz.ntmps10
    go_wp2_with (go_at_call 30; refine CL0.out.mono ?_; rintro e w1 ⟨rfl, rfl⟩)
    clear CL0
    go_loopw [6, 7, 8] (fun b o i wr => ∃ j : Nat, j ≤ n ∧ i = .int .i64 j ∧ b = .int .i64 (bestI (longTo s.es key j)) ∧ o = .int .u64 (outI (longTo s.es key j)) ∧ YS p w0 Q0 s T (.slice A n c) wr) (fun _ _ i _ => n - (intOf i).toNat)
    case atStart => exact ⟨0, by omega, rfl, rfl, rfl, by rw [← HN.out]; exact H.out⟩
    case round =>
      clear H
      obtain ⟨j, hj, rfl, rfl, rfl, hw⟩ := hrel
      have HW := Lib.hid hw
      have c5 : wr.cell? ⟨p.y, 5, none⟩ = some (.slice A n c) := hw.map.cell 5
      by_cases hjn : j < n
      · obtain ⟨e, he⟩ : ∃ e, s.es[j]? = some e := ⟨_, List.getElem?_eq_getElem (by rw [HN.out]; exact hjn)⟩
        obtain ⟨g, c', hA, _⟩ := (show YS p w0 Q0 s T (.slice A s.es.length c) wr by rw [HN.out]; exact hw).row (by intro h; rw [h] at he; simp at he)
        have hA' : A = some ⟨g, 0, none⟩ := by cases hA; rfl
        subst hA'
        have HR : Hid (∀ W, YS p w0 Q0 s T (.slice (some ⟨g, 0, none⟩) n c) W → W.cell? ⟨p.y, 5, none⟩ = some (.slice (some ⟨g, 0, none⟩) n c) ∧ W.cell? ⟨g, j * 2, none⟩ = some (.string e.key) ∧ W.cell? ⟨g, j * 2 + 1, none⟩ = some (.int .u64 (addr e.n 0))) := fun W hW => by
          have := ents_cells (es := s.es) (i := j) (e := e) (c := c) (g := g) (w := W) (by have := hW.ents; unfold Ents at this ⊢; rw [HN.out] at this ⊢; exact this) he
          exact ⟨hW.map.cell 5, this.1, this.2⟩
        obtain ⟨_, d0, d1⟩ := HR.out wr hw
        have HE := Lib.hid he
        have hik := HK.out.isKey he
        have CE := Lib.hid (CL.out wr e.key (by rw [HN.out]; exact hw))
        rw [show longI p.key e.key = (lenB e.key : Int) from if_pos hik] at CE
        have hz1 := hik.1
        have hz2 := hik.2
        have g1 : decide (j < n) = true := by simpa using hjn
        have i1 : (j : Int) < (n : Int) := by omega
        have HST := Lib.hid (longTo_step (key := key) he)
        have hbl := best_lt (longTo s.es key j) e
        have hbg := best_ge (longTo s.es key j)
        have HBL := Lib.hid hbl
        obtain ⟨C, hC⟩ : ∃ C, C = (lenB e.key ≤ lenB key ∧ ∀ b, longTo s.es key j = some b → lenB b.key < lenB e.key) := ⟨_, rfl⟩
        have HC := Lib.hid hC
        clear he hw hA hik hbl hC
        obtain ⟨B, hB⟩ : ∃ B, bestI (longTo s.es key j) = B := ⟨_, rfl⟩
        obtain ⟨O, hO⟩ : ∃ O, outI (longTo s.es key j) = O := ⟨_, rfl⟩
        have HB := Lib.hid hB; have HO := Lib.hid hO
        rw [hB] at hbg
        rw [hB, hO]
        clear hB hO
        cases hok : decide (lenB e.key ≤ lenB key)
        · have HI : Hid (LI C key e.key (lenB e.key) 0 false) := Lib.hid (LI.start (by
            rw [HC.out]
            simp at hok
            constructor
            · intro h; cases h
            · rintro ⟨h1, h2⟩; omega))
          go_wp2_with (go_at_call 30; refine CE.out.mono ?_; rintro e w1 ⟨rfl, rfl⟩)
          obtain ⟨wo, hwo⟩ : ∃ wo : World, wo = wr := ⟨_, rfl⟩
          have HWO := Lib.hid hwo; clear hwo
          go_loopw [10, 11] (fun ok jj wr => ∃ (t : Nat) (b : Bool), t ≤ lenB e.key ∧ jj = .int .i64 t ∧ ok = .bool b ∧ LI C key e.key (lenB e.key) t b ∧ YS p w0 Q0 s T (.slice (some ⟨g, 0, none⟩) n c) wr) (fun _ jj _ => lenB e.key - (intOf jj).toNat)
          case atStart => exact ⟨0, _, by omega, rfl, rfl, HI.out, HW.out⟩
          case round =>
            clear HW HI d0 d1 c5
            obtain ⟨t, b, ht, rfl, rfl, hli, hw⟩ := hrel
            have HW := Lib.hid hw
            have HLI := Lib.hid hli
            obtain ⟨c5, d0, d1⟩ := HR.out wr hw
            cases b
            · have HX : Hid (longTo s.es key (j + 1) = longTo s.es key j) := by
                unfold Hid
                rw [HST.out, if_neg]
                rintro ⟨h1, h2, h3⟩
                exact HLI.out.no ⟨by rw [HC.out]; exact ⟨h1, h2⟩, h3⟩
              clear hw hli
              cases hg3 : decide (t < lenB e.key)
              all_goals
                go_wp2_with fail
                go_roundw
              all_goals first
                | (case rel => exact ⟨j + 1, by omega, by go_num, by rw [HX.out, HB.out], by rw [HX.out, HO.out], HW.out⟩)
                | skip
              all_goals (simp [intOf]; omega)
            · have hct : C := by unfold LI at hli; rw [if_pos rfl] at hli; exact hli.1
              rw [HC.out] at hct
              have hle := hct.1
              have hkn := HKN.out
              clear hli hw hct
              by_cases htk : t < lenB e.key
              · have hg3 : decide (t < lenB e.key) = true := by simpa using htk
                have B1 : Hid (4 + t / 8 < key.size) := (by omega : 4 + t / 8 < key.size)
                have B2 : Hid (4 + t / 8 < e.key.size) := (by omega : 4 + t / 8 < e.key.size)
                have ht2 : t ≤ 1048576 := by omega
                have CB := Lib.hid (fun f W (hf : Hid (4 + t / 8 < f.size)) => xbit_any f t hf.out ht2 W)
                have HLS := Lib.hid (HLI.out.step htk)
                go_wp2_with fail
                go_quiet ((go_at_call 31; exact quiet_left (CB.out _ _ (by first | exact B1 | exact B2))))
                go_wp2_with fail
                go_roundw
                case rel => exact ⟨t + 1, _, by omega, by go_num, rfl, HLS.out, HW.out.drewN _⟩
                case measure => simp [intOf]; omega
              · have hg3 : decide (t < lenB e.key) = false := by simpa using htk
                have HX : Hid (longTo s.es key (j + 1) = some e) := by
                  unfold Hid
                  have hy := HLI.out.yes (by omega)
                  rw [HC.out] at hy
                  rw [HST.out, if_pos ⟨hy.1.1, hy.1.2, hy.2⟩]
                go_wp2_with fail
                go_quiet (fail)
                go_wp2_with fail
                go_roundw
                case rel => exact ⟨j + 1, by omega, by go_num, by rw [HX.out]; rfl, by rw [HX.out]; rfl, HW.out.drewN _⟩
                case measure => simp [intOf]; omega
        · have HI : Hid (LI C key e.key (lenB e.key) 0 (decide (B < (lenB e.key : Int)))) := Lib.hid (LI.start (by
            rw [HC.out, decide_eq_true_eq, ← HBL.out, HB.out]
            simp at hok
            constructor
            · intro h; exact ⟨by omega, h⟩
            · rintro ⟨h1, h2⟩; exact h2))
          go_wp2_with (go_at_call 30; refine CE.out.mono ?_; rintro e w1 ⟨rfl, rfl⟩)
          obtain ⟨wo, hwo⟩ : ∃ wo : World, wo = wr := ⟨_, rfl⟩
          have HWO := Lib.hid hwo; clear hwo
          go_loopw [10, 11] (fun ok jj wr => ∃ (t : Nat) (b : Bool), t ≤ lenB e.key ∧ jj = .int .i64 t ∧ ok = .bool b ∧ LI C key e.key (lenB e.key) t b ∧ YS p w0 Q0 s T (.slice (some ⟨g, 0, none⟩) n c) wr) (fun _ jj _ => lenB e.key - (intOf jj).toNat)
          case atStart => exact ⟨0, _, by omega, rfl, rfl, HI.out, HW.out⟩
          case round =>
            clear HW HI d0 d1 c5
            obtain ⟨t, b, ht, rfl, rfl, hli, hw⟩ := hrel
            have HW := Lib.hid hw
            have HLI := Lib.hid hli
            obtain ⟨c5, d0, d1⟩ := HR.out wr hw
            cases b
            · have HX : Hid (longTo s.es key (j + 1) = longTo s.es key j) := by
                unfold Hid
                rw [HST.out, if_neg]
                rintro ⟨h1, h2, h3⟩
                exact HLI.out.no ⟨by rw [HC.out]; exact ⟨h1, h2⟩, h3⟩
              clear hw hli
              cases hg3 : decide (t < lenB e.key)
              all_goals
                go_wp2_with fail
                go_roundw
              all_goals first
                | (case rel => exact ⟨j + 1, by omega, by go_num, by rw [HX.out, HB.out], by rw [HX.out, HO.out], HW.out⟩)
                | skip
              all_goals (simp [intOf]; omega)
            · have hct : C := by unfold LI at hli; rw [if_pos rfl] at hli; exact hli.1
              rw [HC.out] at hct
              have hle := hct.1
              have hkn := HKN.out
              clear hli hw hct
              by_cases htk : t < lenB e.key
              · have hg3 : decide (t < lenB e.key) = true := by simpa using htk
                have B1 : Hid (4 + t / 8 < key.size) := (by omega : 4 + t / 8 < key.size)
                have B2 : Hid (4 + t / 8 < e.key.size) := (by omega : 4 + t / 8 < e.key.size)
                have ht2 : t ≤ 1048576 := by omega
                have CB := Lib.hid (fun f W (hf : Hid (4 + t / 8 < f.size)) => xbit_any f t hf.out ht2 W)
                have HLS := Lib.hid (HLI.out.step htk)
                go_wp2_with fail
                go_quiet ((go_at_call 31; exact quiet_left (CB.out _ _ (by first | exact B1 | exact B2))))
                go_wp2_with fail
                go_roundw
                case rel => exact ⟨t + 1, _, by omega, by go_num, rfl, HLS.out, HW.out.drewN _⟩
                case measure => simp [intOf]; omega
              · have hg3 : decide (t < lenB e.key) = false := by simpa using htk
                have HX : Hid (longTo s.es key (j + 1) = some e) := by
                  unfold Hid
                  have hy := HLI.out.yes (by omega)
                  rw [HC.out] at hy
                  rw [HST.out, if_pos ⟨hy.1.1, hy.1.2, hy.2⟩]
                go_wp2_with fail
                go_quiet (fail)
                go_wp2_with fail
                go_roundw
                case rel => exact ⟨j + 1, by omega, by go_num, by rw [HX.out]; rfl, by rw [HX.out]; rfl, HW.out.drewN _⟩
                case measure => simp [intOf]; omega
      · obtain rfl : j = n := by omega
        have g1 : decide (j < j) = false := by simp
        go_wp2_with fail
        go_ret
        exact ⟨rfl, HW.out⟩
  · have CL0 := Lib.hid (CL.out _ key H.out)
    rw [show longI p.key key = -1 from if_neg hi] at CL0
    have HA : Hid (lookA p s key = 0) := by unfold lookA; rw [if_neg hi]; exact Lib.hid rfl
    rw [HA.out]
    have c5 : w.cell? ⟨p.y, 5, none⟩ = some (.slice A s.es.length c) := h.map.cell 5
    clear h hk hi HA CL HK
    go_enter Tryz.func10, Tryz.ntmps10
    go_wp2_with (go_at_call 30; refine CL0.out.mono ?_; rintro e w1 ⟨rfl, rfl⟩)
    clear CL0
    go_loopw [6, 7, 8] (fun b o i wr => i = .int .i64 0 ∧ b = .int .i64 (-1) ∧ o = .int .u64 0 ∧ wr = w) (fun _ _ _ _ => 0)
    case atStart => exact ⟨rfl, rfl, rfl, rfl⟩
    case round =>
      obtain ⟨rfl, rfl, rfl, hw⟩ := hrel
      obtain rfl : w = wr := hw.symm
      cases g1 : decide (0 < s.es.length)
      all_goals
        go_wp2_with fail
        go_ret
        exact ⟨rfl, H.out⟩
end
end Go.Proofs.YtomhflaofipccaaGreat
