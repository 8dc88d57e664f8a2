/-
  Encode of package insn: the bytes of any list of slots, or the error. Package asm, writing: the line of a wide instruction. Package asm, writing: the line of one or two slots.
-/
import Derived.Test.YtemiklbkfogjeaaGreatDoorQ01
import Derived.Test.YtemiklbkfogjeaaGreatDoorQ07
import Derived.Test.YtemiklbkfogjeaaGreatDoorQ00
namespace Go.Proofs.YtemiklbkfogjeaaGreatDoor
open Go Go.RowKit
set_option linter.unusedVariables false
set_option linter.unusedSimpArgs false
/-- A round's memory, put together. -/
theorem enc_row {w5 : World} {B : Nat} {X : Nat → Slot} {k : Nat} {v' : Value} (hx : (X k).Ok) (h : w5.ownsRow B 5 1 v' (k * 8 + 8) ((encAll X k).map byteV ++ (cellsE (X k).o (X k).d (X k).s (X k).f (X k).m).toList)) :
  w5.ownsRow B 5 1 v' ((k + 1) * 8) ((encAll X (k + 1)).map byteV) := by
 rw [(X k).bytes_cells hx, ← List.map_append, ← encAll_succ] at h
 rw [show (k + 1) * 8 = k * 8 + 8 by omega]
 exact h
theorem new_cells (w : World) (cs : Array Value) (t : TypeId) (j : Nat) (u : Value) (h : cs.toList[j]? = some u) : (w.alloc (.cells cs t)).cell? ((⟨w.heap.size, 0, none⟩ : Addr).add j) = some u := by
 rw [show (⟨w.heap.size, 0, none⟩ : Addr).add j = ⟨w.heap.size, j, none⟩ by unfold Addr.add; split <;> simp_all, (Blk.new w t cs).cell j]
 simpa using h
theorem cellsE_one (o d s f m : Int) (u : Value) (h : u ∈ (cellsE o d s f m).toList) : u.oneCell' = true := by
 simp only [cellsE, List.mem_cons, List.not_mem_nil, or_false] at h
 rcases h with rfl | rfl | rfl | rfl | rfl | rfl | rfl | rfl <;> rfl
set_option maxRecDepth 100000 in
set_option maxHeartbeats 4000000 in
theorem encode_any (A : Option Addr) (n c : Nat) (X : Nat → Slot) (hn : n ≤ 1048576) (w : World) (h : Slots w A n X) :
  Calls Tryz.prog 66 #[.slice A n c] w fun e w' => e = encAns X n ∧ Below w.heap.size w w' := by
 have H := Lib.hid h
 clear h
 obtain ⟨v0, w0, hmk, hb0, ho0⟩ := made_own (P := Tryz.prog) Tryz.underlying53 info8 (8 * n) (by omega) (by decide) w
 rw [show ((8 * n : Nat) : Int) = 8 * (n : Int) by omega] at hmk
 have e8' : wrap64 (8 * (n : Int)) = 8 * (n : Int) := by unfold wrap64; omega
 have HB0 := Lib.hid hb0
 have HO0 := Lib.hid ho0
 clear hb0 ho0
 obtain ⟨i0, hi, hz0, hz1, hz2⟩ := info_parts info8
 have HI := Lib.hid (And.intro hi (And.intro hz0 (And.intro hz1 hz2))); clear hi hz0 hz1 hz2
 go_enter Tryz.func66, Tryz.ntmps66
 go_wp2_with fail
 clear hmk e8'
 go_loopw [4, 14] (fun v i wr => ∃ k : Nat, k ≤ n ∧ i = .int .i64 k ∧ Below w.heap.size w wr ∧ AllOk X k ∧ wr.ownsRow w.heap.size 5 1 v (k * 8) ((encAll X k).map byteV)) (fun _ i _ => n - (intOf i).toNat)
 case atStart => exact ⟨0, by omega, rfl, HB0.out, fun i hi => by omega, HO0.out⟩
 case round =>
  clear HB0 HO0
  obtain ⟨k, hk, rfl, hb, hok, ho⟩ := hrel
  have HB := Lib.hid hb
  have HOK := Lib.hid hok
  have HO := Lib.hid ho
  clear hb hok ho
  by_cases hkn : k < n
  ·obtain ⟨b, off, rfl, hlt, hc⟩ := (H.out.below HB.out) k hkn
   obtain ⟨c0, c1, c2, c3, c4⟩ := hc
   have g1 : decide (k < n) = true := by simpa using hkn
   have i2 : (k : Int) < (n : Int) := by omega
   obtain ⟨x, hx⟩ : ∃ x, X k = x := ⟨_, rfl⟩
   rw [hx] at c0 c1 c2 c3 c4
   have HX := Lib.hid hx
   clear hx hlt
   have n5 := Cells5.new wr x 38
   have N5 := Lib.hid n5
   clear n5
   by_cases hfit : x.Ok
   ·have hd : decide (Fits x.o x.d x.s x.f x.m) = true := decide_eq_true hfit
    have hlt : wr.heap.size < (wr.alloc (.cells #[.int .i64 x.o, .int .i64 x.d, .int .i64 x.s, .int .i64 x.f, .int .i64 x.m] 38)).heap.size := by simp
    have CF := Lib.hid (fits_any x.o x.d x.s x.f x.m (wr.alloc (.cells #[.int .i64 x.o, .int .i64 x.d, .int .i64 x.s, .int .i64 x.f, .int .i64 x.m] 38)))
    have CB := Lib.hid (fun w => bytesOf_any x.o x.d x.s x.f x.m hfit w)
    have HF := Lib.hid hfit
    have HLT := Lib.hid hlt
    clear hfit hlt
    unfold insV at CF CB
    unfold cellsE at CB
    go_wp2_with (first
     | (go_at_call 94; refine CF.out.mono ?_; rintro e w2 ⟨rfl, hb2⟩; obtain ⟨d0, d1, d2, d3, d4⟩ := N5.out.below hb2 HLT.out; have HB2 := Lib.hid hb2; clear hb2)
     | (go_at_call 95; refine (CB.out _).mono ?_; rintro e w3 ⟨rfl, hb3⟩; have HB3 := Lib.hid hb3; clear hb3)
     | (at_builtin; refine wpList_append_own_at _ rfl _ _ 53 rfl w.heap.size 5 i0 (.int .u8 0) 1 1 Tryz.underlying53 HI.out.1 HI.out.2.1 HI.out.2.2.1 HI.out.2.2.2 rfl (by decide) _ _ _ rfl ((ownsRow_below (ownsRow_below (HO.out.alloc _) HB2.out) HB3.out).alloc _) ⟨w3.heap.size, 0, none⟩ 8 8 (cellsE x.o x.d x.s x.f x.m).toList rfl rfl (new_cells w3 (cellsE x.o x.d x.s x.f x.m) 130) (cellsE_one _ _ _ _ _) (by unfold maxLen; omega) (by omega) (by have := HB3.out.size; have := HB2.out.size; have := HB.out.size; simp at *; omega) ?_; intro v' w5 hown5 hgrow5 _ hat5; have HO5 := Lib.hid hown5; have HG5 := Lib.hid hgrow5; have HAT := Lib.hid hat5; clear hown5 hgrow5 hat5))
    go_roundw
    case rel =>
     refine ⟨k + 1, by omega, by go_num, ?_, ?_, ?_⟩
     ·have s3 := HB3.out.size
      have s2 := HB2.out.size
      have s1 := HB.out.size
      simp at s2
      exact (((((HB.out.alloc s1 _).trans (HB2.out.mono (by simp; omega))).trans (HB3.out.mono (by omega))).alloc (by omega) _)).grown HG5.out (by simp; omega) (fun j e => (HO.out.lt j e).1)
     ·intro i hi
      rcases Nat.lt_or_ge i k with h1 | h1
      ·exact HOK.out i h1
      ·rw [show i = k by omega, HX.out]; exact HF.out
     ·have hk8 := HO5.out
      rw [← HX.out] at hk8
      exact enc_row (by rw [HX.out]; exact HF.out) hk8
    case measure => simp [intOf]; omega
   ·have hd : decide (Fits x.o x.d x.s x.f x.m) = false := decide_eq_false hfit
    have CF := Lib.hid (fits_any x.o x.d x.s x.f x.m (wr.alloc (.cells #[.int .i64 x.o, .int .i64 x.d, .int .i64 x.s, .int .i64 x.f, .int .i64 x.m] 38)))
    have HF := Lib.hid hfit
    clear hfit
    unfold insV at CF
    go_wp2_with (go_at_call 94; refine CF.out.mono ?_; rintro e w2 ⟨rfl, hb2⟩; have HB2 := Lib.hid hb2; clear hb2)
    go_ret2
    refine ⟨(encAns_bad (fun hall => HF.out (by have := hall k hkn; rw [HX.out] at this; exact this))).symm, ?_⟩
    have s1 := HB.out.size
    exact (HB.out.alloc s1 _).trans (HB2.out.mono (by simp; omega))
  ·have : k = n := by omega
   subst this
   have g1 : decide (k < k) = false := by simp
   have ho := HO.out
   rw [← encAll_length X k] at ho
   have hcv := own_str ho
   clear ho
   go_wp2_with fail
   go_ret2
   exact ⟨(encAns_ok HOK.out).symm, HB.out⟩
end Go.Proofs.YtemiklbkfogjeaaGreatDoor
namespace Go.Proofs.YtemiklbkfogjeaaGreatDoor
open Go Go.RowKit Go.Maps
set_option linter.unusedVariables false
set_option linter.unusedSimpArgs false
set_option maxRecDepth 100000
abbrev llT : ByteArray := ⟨#[108, 108]⟩
abbrev mapT : ByteArray := ⟨#[109, 97, 112]⟩
def decU (n : Int) : ByteArray := bstr (Lib.decDigits n.toNat)
def wideT (x y : Slot) : ByteArray :=
  if x.f = 0 ∧ same5 y.o y.d y.s y.f y.m 0 0 0 0 y.m = true then
    (if x.s = 0 then saidT [regT wholeT x.d, eqT, decU (wideN x.m y.m), llT]
    else if x.s = 1 ∧ y.m = 0 then saidT [regT wholeT x.d, eqT, mapT, dec x.m, llT] else emptyT)
  else emptyT
theorem wideW_no (A : Option Addr) (n c : Nat) (hn : n ≠ 2) (w : World) :
    Calls Tryz.prog 68 #[.slice A n c] w (SaysT w emptyT) := by
  have b0 : ((n : Int) != 2) = true := by simpa using (by omega : ¬ (n : Int) = 2)
  clear hn
  go_enter Tryz.func68, Tryz.ntmps68
  go_wp2_with fail
  go_ret
  exact ⟨rfl, Below.refl _ _⟩
set_option maxHeartbeats 8000000 in
theorem wideW_any (b off c : Nat) (X : Nat → Slot) (w : World) (hT : Tabs w) (h : Slots w (some ⟨b, off, none⟩) 2 X) (hx : (X 0).Ok) (hy : (X 1).Ok) :
    Calls Tryz.prog 68 #[.slice (some ⟨b, off, none⟩) 2 c] w (SaysT w (wideT (X 0) (X 1))) := by
  obtain ⟨b0, off0, e0, hlt, h0⟩ := h 0 (by decide)
  cases e0
  obtain ⟨b1, off1, e1, _, h1⟩ := h 1 (by decide)
  cases e1
  generalize X 0 = x at *
  generalize X 1 = y at *
  clear h X
  obtain ⟨o, d, s, f, m⟩ := x
  obtain ⟨o', d', s', f', m'⟩ := y
  unfold Cells5 at h0 h1
  simp only [Nat.zero_mul, Nat.add_zero, Nat.one_mul] at h0 h1
  obtain ⟨a0, a1, a2, a3, a4⟩ := h0
  obtain ⟨c0, c1, c2, c3, c4⟩ := h1
  have hxd : 0 ≤ d ∧ d ≤ 15 := hx.2.1
  have hxm : -2147483648 ≤ m ∧ m ≤ 2147483647 := hx.2.2.2.2
  have CR := Lib.hid (fun w (hT : Tabs w) => regW_any wholeT (by decide) d (by omega) (by omega) w hT.pow)
  have CI := Lib.hid (fun w (hT : Tabs w) => itoa_any m (by omega) (by omega) w hT.pow)
  have hrs := regT_size wholeT d (by omega) (by omega)
  have hds := dec_size m (by omega) (by omega)
  have hw1 : wholeT.size = 1 := rfl
  have hq1 : eqT.size = 1 := rfl
  have hl2 : llT.size = 2 := rfl
  have hm3 : mapT.size = 3 := rfl
  have hU : 0 ≤ wideN m m' ∧ wideN m m' < 18446744073709551616 := by unfold wideN; omega
  obtain ⟨u, hu, hu2⟩ : ∃ u : Nat, wideN m m' = (u : Int) ∧ u < 18446744073709551616 := ⟨(wideN m m').toNat, by omega, by omega⟩
  have CF := Lib.hid (fun w (hT : Tabs w) => uint_any u hu2 w hT.pow)
  have hus : (decU (wideN m m')).size ≤ 21 := by
    unfold decU
    rw [bstr_size, hu, Int.toNat_natCast, Lib.decDigits_length]
    by_cases hu0 : u = 0
    · subst hu0
      rw [Lib.nDigits, dif_pos (by decide)]
      decide
    · have := Lib.numDigits_eq u (by omega) hu2
      split at this <;> omega
  have eU : decU (wideN m m') = bstr (Lib.decDigits u) := by
    unfold decU
    rw [hu, Int.toNat_natCast]
  have CM : Hid (∀ w, Calls Tryz.prog 99 #[.agg (inC o d s f m), .agg (inC o' d' s' f' m')] w fun e w' => e = .returned (.int .u64 (u : Int)) ∧ Below w.heap.size w w') := by
    intro w
    have := imm_any o d s f m o' d' s' f' m' w
    rw [hu] at this
    exact this
  have Z1 : Hid (∀ x ∈ ([regT wholeT d, eqT, decU (wideN m m'), llT] : List ByteArray), x.size ≤ 100) := by
    intro x hx
    simp only [List.mem_cons, List.not_mem_nil, or_false] at hx
    rcases hx with rfl | rfl | rfl | rfl <;> omega
  have Z2 : Hid (∀ x ∈ ([regT wholeT d, eqT, mapT, dec m, llT] : List ByteArray), x.size ≤ 100) := by
    intro x hx
    simp only [List.mem_cons, List.not_mem_nil, or_false] at hx
    rcases hx with rfl | rfl | rfl | rfl | rfl <;> omega
  unfold wideT
  simp only
  rw [eU] at Z1 ⊢
  clear hxd hxm eU hus hU hu hrs hds hw1 hq1 hl2 hm3 hx hy
  generalize bstr (Lib.decDigits u) = du at *
  generalize regT wholeT d = rd at *
  generalize dec m = dm at *
  have j1 : ∀ w, (binOp .neq inT (.agg (inC o' d' s' f' m')) (.agg (inC 0 0 0 0 m'))).run Tryz.prog w = .ok (.bool (!same5 o' d' s' f' m' 0 0 0 0 m')) w := fun w => neq5 ..
  generalize same5 o' d' s' f' m' 0 0 0 0 m' = c1 at *
  have HAll : Hid (∀ W, Below w.heap.size w W → W.cell? ⟨b, off, none⟩ = some (.int .i64 o) ∧ W.cell? ⟨b, off + 1, none⟩ = some (.int .i64 d) ∧ W.cell? ⟨b, off + 2, none⟩ = some (.int .i64 s) ∧ W.cell? ⟨b, off + 3, none⟩ = some (.int .i64 f) ∧ W.cell? ⟨b, off + 4, none⟩ = some (.int .i64 m) ∧ W.cell? ⟨b, off + 5, none⟩ = some (.int .i64 o') ∧ W.cell? ⟨b, off + 5 + 1, none⟩ = some (.int .i64 d') ∧ W.cell? ⟨b, off + 5 + 2, none⟩ = some (.int .i64 s') ∧ W.cell? ⟨b, off + 5 + 3, none⟩ = some (.int .i64 f') ∧ W.cell? ⟨b, off + 5 + 4, none⟩ = some (.int .i64 m')) := by
    intro W hb
    refine ⟨?_, ?_, ?_, ?_, ?_, ?_, ?_, ?_, ?_, ?_⟩ <;> (rw [hb.cell (by simpa using hlt)]; assumption)
  have HBW : Hid (∀ o1 o2, Below w.heap.size w (((w.alloc o1).alloc o2).drew)) := fun o1 o2 => ((below_alloc w o1).alloc (by simp) o2).drew
  have HTW : Hid (∀ o1 o2, Tabs (((w.alloc o1).alloc o2).drew)) := fun o1 o2 => hT.below (HBW.out o1 o2)
  have HL : Hid (∀ xs ys, Blk (((w.alloc (.cells xs inT)).alloc (.cells ys inT)).drew) w.heap.size inT xs ∧ Blk (((w.alloc (.cells xs inT)).alloc (.cells ys inT)).drew) (w.heap.size + 1) inT ys) := fun xs ys => ⟨(Blk.new w inT xs).alloc _, heap_alloc2_new w _ _⟩
  clear hT
  by_cases hf : f = 0
  case neg =>
    have b3 : (f != 0) = true := by simpa using hf
    rw [if_neg (fun h => hf h.1)]
    clear hf Z1 Z2 CR CI CF CM j1
    go_enter Tryz.func68, Tryz.ntmps68
    go_upto_region 3 with fail
    go_region_held3 (fun W => W.cell? ⟨b, off, none⟩ = some (.int .i64 o) ∧ W.cell? ⟨b, off + 1, none⟩ = some (.int .i64 d) ∧ W.cell? ⟨b, off + 2, none⟩ = some (.int .i64 s) ∧ W.cell? ⟨b, off + 3, none⟩ = some (.int .i64 f) ∧ W.cell? ⟨b, off + 4, none⟩ = some (.int .i64 m) ∧ W.cell? ⟨b, off + 5, none⟩ = some (.int .i64 o') ∧ W.cell? ⟨b, off + 5 + 1, none⟩ = some (.int .i64 d') ∧ W.cell? ⟨b, off + 5 + 2, none⟩ = some (.int .i64 s') ∧ W.cell? ⟨b, off + 5 + 3, none⟩ = some (.int .i64 f') ∧ W.cell? ⟨b, off + 5 + 4, none⟩ = some (.int .i64 m'))
      (first
        | (refine HAll.out _ ?_
           repeat (first
             | exact Below.refl _ _
             | refine Below.drew ?_
             | refine Below.alloc ?_ (by simp) _
             | refine Below.setCell ?_ (by simp) _)))
      (first | fail)
    all_goals
      go_wp2_with fail
      go_ret
      exact ⟨rfl, HBW.out _ _⟩
  subst hf
  cases c1
  case false =>
    rw [if_neg (fun h => by cases h.2)]
    clear Z1 Z2 CR CI CF CM
    go_enter Tryz.func68, Tryz.ntmps68
    go_upto_region 3 with fail
    go_region_held3 (fun W => W.cell? ⟨b, off, none⟩ = some (.int .i64 o) ∧ W.cell? ⟨b, off + 1, none⟩ = some (.int .i64 d) ∧ W.cell? ⟨b, off + 2, none⟩ = some (.int .i64 s) ∧ W.cell? ⟨b, off + 3, none⟩ = some (.int .i64 0) ∧ W.cell? ⟨b, off + 4, none⟩ = some (.int .i64 m) ∧ W.cell? ⟨b, off + 5, none⟩ = some (.int .i64 o') ∧ W.cell? ⟨b, off + 5 + 1, none⟩ = some (.int .i64 d') ∧ W.cell? ⟨b, off + 5 + 2, none⟩ = some (.int .i64 s') ∧ W.cell? ⟨b, off + 5 + 3, none⟩ = some (.int .i64 f') ∧ W.cell? ⟨b, off + 5 + 4, none⟩ = some (.int .i64 m'))
      (first
        | (refine HAll.out _ ?_
           repeat (first
             | exact Below.refl _ _
             | refine Below.drew ?_
             | refine Below.alloc ?_ (by simp) _
             | refine Below.setCell ?_ (by simp) _)))
      (first | fail)
    all_goals
      go_wp2_with fail
      go_ret
      exact ⟨rfl, HBW.out _ _⟩
  rw [if_pos ⟨rfl, rfl⟩]
  by_cases h0 : s = 0
  case pos =>
    subst h0
    rw [if_pos rfl]
    clear CI Z2
    go_enter Tryz.func68, Tryz.ntmps68
    go_upto_region 3 with fail
    go_region_held3 (fun W => W.cell? ⟨b, off, none⟩ = some (.int .i64 o) ∧ W.cell? ⟨b, off + 1, none⟩ = some (.int .i64 d) ∧ W.cell? ⟨b, off + 2, none⟩ = some (.int .i64 0) ∧ W.cell? ⟨b, off + 3, none⟩ = some (.int .i64 0) ∧ W.cell? ⟨b, off + 4, none⟩ = some (.int .i64 m) ∧ W.cell? ⟨b, off + 5, none⟩ = some (.int .i64 o') ∧ W.cell? ⟨b, off + 5 + 1, none⟩ = some (.int .i64 d') ∧ W.cell? ⟨b, off + 5 + 2, none⟩ = some (.int .i64 s') ∧ W.cell? ⟨b, off + 5 + 3, none⟩ = some (.int .i64 f') ∧ W.cell? ⟨b, off + 5 + 4, none⟩ = some (.int .i64 m'))
      (first
        | (refine HAll.out _ ?_
           repeat (first
             | exact Below.refl _ _
             | refine Below.drew ?_
             | refine Below.alloc ?_ (by simp) _
             | refine Below.setCell ?_ (by simp) _)))
      (first | fail)
    all_goals
      go_wp2_with (first
        | (go_at_call 96; refine (CR.out _ (HTW.out _ _)).mono ?_; rintro e w1 ⟨rfl, hb⟩; have G1 := Lib.hid ((HBW.out _ _).on hb); have T1 := Lib.hid ((HTW.out _ _).below hb); have B0 := Lib.hid (blk_on (HL.out _ _).1 hb); have B1 := Lib.hid (blk_on (HL.out _ _).2 hb); clear hb; have k0 := B0.out.cell 0; have k1 := B0.out.cell 1; have k2 := B0.out.cell 2; have k3 := B0.out.cell 3; have k4 := B0.out.cell 4; have l0 := B1.out.cell 0; have l1 := B1.out.cell 1; have l2 := B1.out.cell 2; have l3 := B1.out.cell 3; have l4 := B1.out.cell 4)
        | (go_at_call 99; refine (CM.out _).mono ?_; rintro e w2 ⟨rfl, hb⟩; have G2 := Lib.hid (G1.out.on hb); have T2 := Lib.hid (T1.out.below hb); clear hb)
        | (go_at_call 98; refine (CF.out _ T2.out).mono ?_; rintro e w3 ⟨rfl, hb⟩; have G3 := Lib.hid (G2.out.on hb); clear hb)
        | (go_at_call 97; refine (said_any _ _ _ [rd, eqT, du, llT] (Blk.new _ _ _) (Nat.le_of_ble_eq_true rfl) 100 (by decide) Z1.out).mono ?_; rintro e w4 ⟨rfl, hb⟩; have G4 := Lib.hid ((G3.out.on (below_alloc _ _)).on hb); clear hb))
      go_ret
      exact ⟨rfl, G4.out⟩
  have b0 : (s == 0) = false := by simpa using h0
  rw [if_neg h0]
  clear Z1 CF CM h0
  by_cases h1 : s = 1
  case neg =>
    have b1 : (s == 1) = false := by simpa using h1
    rw [if_neg (fun h => h1 h.1)]
    clear Z2 CI h1
    go_enter Tryz.func68, Tryz.ntmps68
    go_upto_region 3 with fail
    go_region_held3 (fun W => W.cell? ⟨b, off, none⟩ = some (.int .i64 o) ∧ W.cell? ⟨b, off + 1, none⟩ = some (.int .i64 d) ∧ W.cell? ⟨b, off + 2, none⟩ = some (.int .i64 s) ∧ W.cell? ⟨b, off + 3, none⟩ = some (.int .i64 0) ∧ W.cell? ⟨b, off + 4, none⟩ = some (.int .i64 m) ∧ W.cell? ⟨b, off + 5, none⟩ = some (.int .i64 o') ∧ W.cell? ⟨b, off + 5 + 1, none⟩ = some (.int .i64 d') ∧ W.cell? ⟨b, off + 5 + 2, none⟩ = some (.int .i64 s') ∧ W.cell? ⟨b, off + 5 + 3, none⟩ = some (.int .i64 f') ∧ W.cell? ⟨b, off + 5 + 4, none⟩ = some (.int .i64 m'))
      (first
        | (refine HAll.out _ ?_
           repeat (first
             | exact Below.refl _ _
             | refine Below.drew ?_
             | refine Below.alloc ?_ (by simp) _
             | refine Below.setCell ?_ (by simp) _)))
      (first | fail)
    all_goals
      go_wp2_with (first
        | (go_at_call 96; refine (CR.out _ (HTW.out _ _)).mono ?_; rintro e w1 ⟨rfl, hb⟩; have G1 := Lib.hid ((HBW.out _ _).on hb); have T1 := Lib.hid ((HTW.out _ _).below hb); have B0 := Lib.hid (blk_on (HL.out _ _).1 hb); have B1 := Lib.hid (blk_on (HL.out _ _).2 hb); clear hb; have k0 := B0.out.cell 0; have k1 := B0.out.cell 1; have k2 := B0.out.cell 2; have k3 := B0.out.cell 3; have k4 := B0.out.cell 4; have l0 := B1.out.cell 0; have l1 := B1.out.cell 1; have l2 := B1.out.cell 2; have l3 := B1.out.cell 3; have l4 := B1.out.cell 4))
      go_ret
      exact ⟨rfl, G1.out⟩
  subst h1
  clear b0
  by_cases hm : m' = 0
  case neg =>
    have b1 : (m' == 0) = false := by simpa using hm
    rw [if_neg (fun h => hm h.2)]
    clear Z2 CI hm
    go_enter Tryz.func68, Tryz.ntmps68
    go_upto_region 3 with fail
    go_region_held3 (fun W => W.cell? ⟨b, off, none⟩ = some (.int .i64 o) ∧ W.cell? ⟨b, off + 1, none⟩ = some (.int .i64 d) ∧ W.cell? ⟨b, off + 2, none⟩ = some (.int .i64 1) ∧ W.cell? ⟨b, off + 3, none⟩ = some (.int .i64 0) ∧ W.cell? ⟨b, off + 4, none⟩ = some (.int .i64 m) ∧ W.cell? ⟨b, off + 5, none⟩ = some (.int .i64 o') ∧ W.cell? ⟨b, off + 5 + 1, none⟩ = some (.int .i64 d') ∧ W.cell? ⟨b, off + 5 + 2, none⟩ = some (.int .i64 s') ∧ W.cell? ⟨b, off + 5 + 3, none⟩ = some (.int .i64 f') ∧ W.cell? ⟨b, off + 5 + 4, none⟩ = some (.int .i64 m'))
      (first
        | (refine HAll.out _ ?_
           repeat (first
             | exact Below.refl _ _
             | refine Below.drew ?_
             | refine Below.alloc ?_ (by simp) _
             | refine Below.setCell ?_ (by simp) _)))
      (first | fail)
    all_goals
      go_wp2_with (first
        | (go_at_call 96; refine (CR.out _ (HTW.out _ _)).mono ?_; rintro e w1 ⟨rfl, hb⟩; have G1 := Lib.hid ((HBW.out _ _).on hb); have T1 := Lib.hid ((HTW.out _ _).below hb); have B0 := Lib.hid (blk_on (HL.out _ _).1 hb); have B1 := Lib.hid (blk_on (HL.out _ _).2 hb); clear hb; have k0 := B0.out.cell 0; have k1 := B0.out.cell 1; have k2 := B0.out.cell 2; have k3 := B0.out.cell 3; have k4 := B0.out.cell 4; have l0 := B1.out.cell 0; have l1 := B1.out.cell 1; have l2 := B1.out.cell 2; have l3 := B1.out.cell 3; have l4 := B1.out.cell 4))
      go_ret
      exact ⟨rfl, G1.out⟩
  subst hm
  rw [if_pos ⟨rfl, rfl⟩]
  go_enter Tryz.func68, Tryz.ntmps68
  go_upto_region 3 with fail
  go_region_held3 (fun W => W.cell? ⟨b, off, none⟩ = some (.int .i64 o) ∧ W.cell? ⟨b, off + 1, none⟩ = some (.int .i64 d) ∧ W.cell? ⟨b, off + 2, none⟩ = some (.int .i64 1) ∧ W.cell? ⟨b, off + 3, none⟩ = some (.int .i64 0) ∧ W.cell? ⟨b, off + 4, none⟩ = some (.int .i64 m) ∧ W.cell? ⟨b, off + 5, none⟩ = some (.int .i64 o') ∧ W.cell? ⟨b, off + 5 + 1, none⟩ = some (.int .i64 d') ∧ W.cell? ⟨b, off + 5 + 2, none⟩ = some (.int .i64 s') ∧ W.cell? ⟨b, off + 5 + 3, none⟩ = some (.int .i64 f') ∧ W.cell? ⟨b, off + 5 + 4, none⟩ = some (.int .i64 0))
    (first
      | (refine HAll.out _ ?_
         repeat (first
           | exact Below.refl _ _
           | refine Below.drew ?_
           | refine Below.alloc ?_ (by simp) _
           | refine Below.setCell ?_ (by simp) _)))
    (first | fail)
  all_goals
    go_wp2_with (first
      | (go_at_call 96; refine (CR.out _ (HTW.out _ _)).mono ?_; rintro e w1 ⟨rfl, hb⟩; have G1 := Lib.hid ((HBW.out _ _).on hb); have T1 := Lib.hid ((HTW.out _ _).below hb); have B0 := Lib.hid (blk_on (HL.out _ _).1 hb); have B1 := Lib.hid (blk_on (HL.out _ _).2 hb); clear hb; have k0 := B0.out.cell 0; have k1 := B0.out.cell 1; have k2 := B0.out.cell 2; have k3 := B0.out.cell 3; have k4 := B0.out.cell 4; have l0 := B1.out.cell 0; have l1 := B1.out.cell 1; have l2 := B1.out.cell 2; have l3 := B1.out.cell 3; have l4 := B1.out.cell 4)
      | (go_at_call 86; refine (CI.out _ T1.out).mono ?_; rintro e w3 ⟨rfl, hb⟩; have G3 := Lib.hid (G1.out.on hb); clear hb)
      | (go_at_call 97; refine (said_any _ _ _ [rd, eqT, mapT, dm, llT] (Blk.new _ _ _) (Nat.le_of_ble_eq_true rfl) 100 (by decide) Z2.out).mono ?_; rintro e w4 ⟨rfl, hb⟩; have G4 := Lib.hid ((G3.out.on (below_alloc _ _)).on hb); clear hb))
    go_ret
    exact ⟨rfl, G4.out⟩
def bodyT (x : Slot) (wide : ByteArray) : ByteArray :=
 if x.o % 8 = 0 then wide else if x.o % 8 = 1 then loadT x.o x.d x.s x.f x.m
 else if x.o % 8 = 2 ∨ x.o % 8 = 3 then storeT x.o x.d x.s x.f x.m
 else if x.o % 8 = 4 ∨ x.o % 8 = 7 then aluT x.o x.d x.s x.f x.m else jumpT x.o x.d x.s x.f x.m
open Classical in
/-- The line of one slot or two; none, if there is none. -/
noncomputable def lineN (X : Nat → Slot) (n : Nat) : ByteArray :=
 if AllOk X n ∧ (X 0).d ≤ 10 ∧ (X 0).s ≤ 10 then bodyT (X 0) (if n = 2 then wideT (X 0) (X 1) else emptyT) else emptyT
theorem Slots.on {w w' : World} {A : Option Addr} {n : Nat} {X : Nat → Slot} (h : Slots w A n X) (hb : Below w.heap.size w w') : Slots w' A n X := h.below hb
set_option maxHeartbeats 4000000 in
theorem lineOf_any (b off c n : Nat) (hn : n = 1 ∨ n = 2) (X : Nat → Slot) (w : World) (hT : Tabs w) (h : Slots w (some ⟨b, off, none⟩) n X) :
  Calls Tryz.prog 46 #[.slice (some ⟨b, off, none⟩) n c] w (SaysT w (lineN X n)) := by
 have CE := encode_any (some ⟨b, off, none⟩) n c X (by omega) w h
 have i0 : (0 : Int) < n := by omega
 have i1 : 0 < n := by omega
 by_cases hA : AllOk X n
 case neg =>
  rw [encAns_bad hA] at CE
  have HF : lineN X n = emptyT := if_neg fun h => hA h.1
  rw [HF]
  have CE := Lib.hid CE
  clear hT h hA HF hn
  go_enter Tryz.func46, Tryz.ntmps46
  go_wp2_with (go_at_call 66; refine CE.out.mono ?_; rintro e w1 ⟨rfl, hb⟩; have H1 := Lib.hid hb; clear hb)
  go_ret
  exact ⟨rfl, H1.out⟩
 rw [encAns_ok hA] at CE
 obtain ⟨b0, off0, e0, hlt, hc⟩ := h 0 (by omega)
 cases e0
 have HW : Hid (∀ w', Below w.heap.size w w' → Calls Tryz.prog 68 #[.slice (some ⟨b, off, none⟩) n c] w' (SaysT w' (if n = 2 then wideT (X 0) (X 1) else emptyT))) := by
  intro w' hb
  rcases hn with rfl | rfl
  ·exact wideW_no _ 1 c (by decide) w'
  ·exact wideW_any b off c X w' (hT.below hb) (h.below hb) (hA 0 (by decide)) (hA 1 (by decide))
 have hO := hA 0 (by omega)
 have e0 : lineN X n = if (X 0).d ≤ 10 ∧ (X 0).s ≤ 10 then bodyT (X 0) (if n = 2 then wideT (X 0) (X 1) else emptyT) else emptyT := by
  unfold lineN
  by_cases hr : (X 0).d ≤ 10 ∧ (X 0).s ≤ 10
  ·rw [if_pos ⟨hA, hr⟩, if_pos hr]
  ·rw [if_neg (fun h => hr h.2), if_neg hr]
 rw [e0]
 generalize (if n = 2 then wideT (X 0) (X 1) else emptyT) = wd at *
 clear e0 hn hA h
 generalize X 0 = x at *
 obtain ⟨o, d, s, f, m⟩ := x
 have hF : Fits o d s f m := hO
 unfold bodyT
 simp only
 unfold Cells5 at hc
 simp only [Nat.zero_mul, Nat.add_zero] at hc
 generalize bstr (encAll X n) = txt at *
 have HC : Hid (∀ W, Below w.heap.size w W → W.cell? ⟨b, off, none⟩ = some (.int .i64 o) ∧ W.cell? ⟨b, off + 1, none⟩ = some (.int .i64 d) ∧ W.cell? ⟨b, off + 2, none⟩ = some (.int .i64 s) ∧ W.cell? ⟨b, off + 3, none⟩ = some (.int .i64 f) ∧ W.cell? ⟨b, off + 4, none⟩ = some (.int .i64 m)) := by
  intro W hb
  obtain ⟨a0, a1, a2, a3, a4⟩ := hc
  refine ⟨?_, ?_, ?_, ?_, ?_⟩ <;> (rw [hb.cell (by simpa using hlt)]; assumption)
 have CE := Lib.hid CE
 have HT := Lib.hid hT
 have C1 := Lib.hid (fun w (hT : Tabs w) => loadW_any o d s f m hF w hT)
 have C2 := Lib.hid (fun w (hT : Tabs w) => storeW_any o d s f m hF w hT)
 have C3 := Lib.hid (fun w (hT : Tabs w) => aluW_any o d s f m hF w hT)
 have C4 := Lib.hid (fun w (hT : Tabs w) => jumpW_any o d s f m hF w hT)
 have CC := Lib.hid (fun w => class_any o d s f m w)
 unfold insV at C1 C2 C3 C4 CC
 clear hT hF hO hc hlt
 by_cases hd : d ≤ 10
 case neg =>
  rw [if_neg (fun h => hd h.1)]
  have b1 : decide (10 < d) = true := decide_eq_true (by omega)
  have i2 : 10 < d := by omega
  clear hd HW C1 C2 C3 C4 CC
  go_enter Tryz.func46, Tryz.ntmps46
  go_upto_region 4 with (go_at_call 66; refine CE.out.mono ?_; rintro e w1 ⟨rfl, hb⟩; have H1 := Lib.hid hb; clear hb)
  obtain ⟨k0, k1, k2, k3, k4⟩ := HC.out _ H1.out
  go_wp2_with fail
  go_ret
  exact ⟨rfl, H1.out.on (below_alloc _ _)⟩
 have i2 : ¬ 10 < d := by omega
 have b2 : decide (10 < d) = false := decide_eq_false i2
 by_cases hs : s ≤ 10
 case neg =>
  rw [if_neg (fun h => hs h.2)]
  have b1 : decide (10 < s) = true := decide_eq_true (by omega)
  have i3 : 10 < s := by omega
  clear hd hs HW C1 C2 C3 C4 CC
  go_enter Tryz.func46, Tryz.ntmps46
  go_upto_region 4 with (go_at_call 66; refine CE.out.mono ?_; rintro e w1 ⟨rfl, hb⟩; have H1 := Lib.hid hb; clear hb)
  obtain ⟨k0, k1, k2, k3, k4⟩ := HC.out _ H1.out
  go_wp2_with fail
  go_ret
  exact ⟨rfl, H1.out.on (below_alloc _ _)⟩
 have i3 : ¬ 10 < s := by omega
 have b3 : decide (10 < s) = false := decide_eq_false i3
 rw [if_pos ⟨hd, hs⟩]
 clear hd hs
 generalize loadT o d s f m = t1 at *
 generalize storeT o d s f m = t2 at *
 generalize aluT o d s f m = t3 at *
 generalize jumpT o d s f m = t4 at *
 have hq : o % 8 = 0 ∨ o % 8 = 1 ∨ o % 8 = 2 ∨ o % 8 = 3 ∨ o % 8 = 4 ∨ o % 8 = 5 ∨ o % 8 = 6 ∨ o % 8 = 7 := by omega
 rcases hq with hq | hq | hq | hq | hq | hq | hq | hq
 all_goals
  rw [hq] at CC ⊢
  clear hq
  simp only [if_true, if_false, Int.reduceEq, or_false, false_or, or_true, true_or, or_self]
  go_enter Tryz.func46, Tryz.ntmps46
  go_upto_region 4 with (go_at_call 66; refine CE.out.mono ?_; rintro e w1 ⟨rfl, hb⟩; have H1 := Lib.hid hb; clear hb)
  obtain ⟨k0, k1, k2, k3, k4⟩ := HC.out _ H1.out
  go_wp2_with (first
   | (go_at_call 67; refine (CC.out _).mono ?_; rintro e w2 ⟨rfl, hb⟩; have H2 := Lib.hid ((H1.out.on (below_alloc _ _)).on hb); have HT2 := Lib.hid (HT.out.below H2.out); have B2 := Lib.hid (blk_on (Blk.new _ _ _) hb); clear hb; have l0 := B2.out.cell 0; have l1 := B2.out.cell 1; have l2 := B2.out.cell 2; have l3 := B2.out.cell 3; have l4 := B2.out.cell 4)
   | (go_at_call 68; refine (HW.out _ H2.out).mono ?_; rintro e w3 ⟨rfl, hb⟩; have H3 := Lib.hid (H2.out.on hb); clear hb)
   | (go_at_call 69; refine (C1.out _ HT2.out).mono ?_; rintro e w3 ⟨rfl, hb⟩; have H3 := Lib.hid (H2.out.on hb); clear hb)
   | (go_at_call 70; refine (C2.out _ HT2.out).mono ?_; rintro e w3 ⟨rfl, hb⟩; have H3 := Lib.hid (H2.out.on hb); clear hb)
   | (go_at_call 71; refine (C3.out _ HT2.out).mono ?_; rintro e w3 ⟨rfl, hb⟩; have H3 := Lib.hid (H2.out.on hb); clear hb)
   | (go_at_call 72; refine (C4.out _ HT2.out).mono ?_; rintro e w3 ⟨rfl, hb⟩; have H3 := Lib.hid (H2.out.on hb); clear hb))
  go_ret
  exact ⟨rfl, H3.out⟩
end Go.Proofs.YtemiklbkfogjeaaGreatDoor
