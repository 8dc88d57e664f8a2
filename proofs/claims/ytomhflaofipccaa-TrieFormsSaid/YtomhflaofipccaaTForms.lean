/-
  The law TrieForms, walked.
-/
import Derived.Test.YtomhflaofipccaaP29
import Derived.Test.YtomhflaofipccaaP30
import Derived.Test.YtomhflaofipccaaP17
namespace Go.Proofs.Ytomhflaofipccaa
open Go Go.RowKit Go.Maps
set_option linter.unusedVariables false
set_option linter.unusedSimpArgs false
set_option maxRecDepth 100000
theorem xor_turn : ∀ (x : Fin 256) (r : Fin 8), bits BinOp.xor IntKind.u8 ((x.val : Nat) : Int) (128 / 2 ^ r.val) = ((x.val ^^^ 2 ^ (7 - r.val) : Nat) : Int) := by decide +kernel
theorem xor_lt (x : Nat) (r : Nat) (h : x < 256) (hr : r < 8) : x ^^^ 2 ^ (7 - r) < 256 :=
  Nat.xor_lt_two_pow (n := 8) h (Nat.pow_lt_pow_right (by decide) (by omega))
/-- A bit behind the first n turns: the key's first n are the same. -/
theorem agree_turn {n i : Nat} {s : ByteArray} {l : List UInt8} (h : Agree (keyV n (bstr l)) (keyV n s) n) (hn : n ≤ i) (hi : i < 32) (hl : i / 8 < l.length) :
    Agree (keyV n (bstr (l.set (i / 8) (UInt8.ofNat ((l[i / 8]).toNat ^^^ 2 ^ (7 - i % 8)))))) (keyV n s) n := fun j hj => by
  refine Eq.trans ?_ (h j hj)
  unfold bitB
  rw [keyV_byt, keyV_byt, if_neg (by omega), if_neg (by omega), show 4 + j / 8 - 4 = j / 8 by omega, byt_bstr, byt_bstr, List.getD_eq_getElem?_getD, List.getD_eq_getElem?_getD]
  by_cases e : i / 8 = j / 8
  · rw [← e, List.getElem?_set_self hl, List.getElem?_eq_getElem hl]
    have h256 := xor_lt _ (i % 8) (UInt8.toNat_lt l[i / 8]) (by omega)
    simp only [Option.getD_some, UInt8.toNat_ofNat', Nat.reducePow]
    rw [Nat.mod_eq_of_lt h256, Nat.testBit_xor, Nat.testBit_two_pow]
    have : ¬ 7 - i % 8 = 7 - j % 8 := by omega
    simp [this]
  · rw [List.getElem?_set_ne e]
/-- A table and a row of bytes beside it, from B on. -/
def TR (B : Nat) (w0 : World) (p : HPar) (s : HSt) (g : Nat) (l : List UInt8) (w : World) : Prop := ∃ P, PH p s P w ∧ (∀ b, P b → B ≤ b) ∧ Below B w0 w ∧ B ≤ w.heap.size ∧ Row8 w g l ∧ ¬ P g ∧ B ≤ g
section
variable {B : Nat} {w0 w w' : World} {p : HPar} {s s' : HSt} {f : FuncId} {args : Array Value} {e0 : Ending} {g : Nat} {l : List UInt8}
theorem TB.row (h : TB B w0 p s w) (hr : Row8 w' w.heap.size l) (hq : Qt w w') : TR B w0 p s w.heap.size l w' := by
  obtain ⟨P, h1, h2, h3, h4⟩ := h
  exact ⟨P, h1.keeps hq (fun _ _ h => h), h2, h3.trans (hq.below (fun _ h => h.elim) h4), Nat.le_trans h4 hq.size, hr, fun hp => by have := h1.lt _ hp; omega, h4⟩
theorem TR.row (h : TR B w0 p s g l w) : Row8 w g l := by obtain ⟨P, h1, h2, h3, h4, h5, h6, h7⟩ := h; exact h5
theorem TR.tb (h : TR B w0 p s g l w) : TB B w0 p s w := by obtain ⟨P, h1, h2, h3, h4, h5, h6, h7⟩ := h; exact ⟨P, h1, h2, h3, h4⟩
theorem TR.call (h : TR B w0 p s g l w) (c : FCallH PH p f args s s' e0) : Calls Try.prog f args w fun e w' => e = e0 ∧ TR B w0 p s' g l w' := by
  obtain ⟨P, h1, h2, h3, h4, h5, h6, h7⟩ := h
  refine (c w P h1).mono ?_
  rintro e w' ⟨rfl, hk, kk⟩
  refine ⟨rfl, _, hk, ?_, h3.trans (kk.below h2 h4), Nat.le_trans h4 kk.size, h5.keeps kk h6, ?_, h7⟩
  · rintro b (hb | ⟨hb, _⟩)
    · exact h2 b hb
    · omega
  · rintro (hb | ⟨hb, _⟩)
    · exact h6 hb
    · have := h5.lt; omega
theorem TR.quiet (h : TR B w0 p s g l w) (k : Qt w w') : TR B w0 p s g l w' := by
  obtain ⟨P, h1, h2, h3, h4, h5, h6, h7⟩ := h
  exact ⟨P, h1.keeps k (fun _ _ h => h), h2, h3.trans (k.below (fun _ h => h.elim) h4), Nat.le_trans h4 k.size, h5.quiet k, h6, h7⟩
theorem TR.set_ (h : TR B w0 p s g l w) (i : Nat) (b : UInt8) : TR B w0 p s g (l.set i b) (w.setCell ⟨g, i, none⟩ (byteV b)) := by
  obtain ⟨P, h1, h2, h3, h4, h5, h6, h7⟩ := h
  have k : Keeps (fun b => b = g) w (w.setCell ⟨g, i, none⟩ (byteV b)) := (Keeps.refl (fun b => b = g) w).setCell (p := ⟨g, i, none⟩) (.inl rfl) _
  exact ⟨P, h1.keeps k (fun b hb e => h6 (e ▸ hb)), h2, h3.trans (k.below (fun b e => by omega) h4), Nat.le_trans h4 k.size, h5.set_ i b, h6, h7⟩
end
/-- What the law asks, plainly. -/
structure FormsPlan (p : HPar) (s0 : HSt) (kS kT : ByteArray) (s1 s2 : HSt) : Prop where
  o0 : HOk p s0 ∧ s0.m.made < 4095
  u1 : updA p s0 kS ⟨#[97]⟩ 0 = 0 ∧ updS p s0 kS ⟨#[97]⟩ 0 = s1
  o1 : HOk p s1 ∧ s1.m.made < 4095
  u2 : updA p s1 kT ⟨#[98]⟩ 1 = 5 ∧ updS p s1 kT ⟨#[98]⟩ 1 = s1
  len : s1.es.length = 1
  look : lookA p s1 kT = lookA p s1 kS
  del : delA p s1 kT = 0 ∧ delS p s1 kT = s2
  o2 : HOk p s2
  len2 : s2.es.length = 0
theorem forms_plan (bm x n : Nat) (s : ByteArray) (l : List UInt8) (hn : n ≤ 32) (hs : s.size = 4) (hl : l.length = 4) (ha : Agree (keyV n (bstr l)) (keyV n s) n) :
    ∃ s1 s2, FormsPlan ⟨bm, 0, x, 0, 11, 8, 1, 4⟩ ⟨⟨0, 0, fun _ => none⟩, [], false⟩ (keyV n s) (keyV n (bstr l)) s1 s2 := by
  have ok0 : HOk ⟨bm, 0, x, 0, 11, 8, 1, 4⟩ ⟨⟨0, 0, fun _ => none⟩, [], false⟩ := hok_new (by decide)
  generalize hp : (⟨bm, 0, x, 0, 11, 8, 1, 4⟩ : HPar) = p at *
  have pk : p.key = 8 := by rw [← hp]
  have pv : p.v = 1 := by rw [← hp]
  have pm : p.mx = 4 := by rw [← hp]
  clear hp
  have lS : lenB (keyV n s) = n := keyV_len n s (by omega)
  have lT : lenB (keyV n (bstr l)) = n := keyV_len n _ (by omega)
  have zS : (keyV n s).size = 8 := by rw [keyV_size, hs]
  have zT : (keyV n (bstr l)).size = 8 := by rw [keyV_size, bstr_size, hl]
  have iS : IsKey p.key (keyV n s) := ⟨by rw [zS, pk], by rw [lS, pk]; omega⟩
  have iT : IsKey p.key (keyV n (bstr l)) := ⟨by rw [zT, pk], by rw [lT, pk]; omega⟩
  have eF : formB (keyV n (bstr l)) = formB (keyV n s) := by unfold formB; rw [lS, lT]; exact cutB_congr (by rw [zS, zT]) ha
  have hf0 : findE ([] : List Ent) (formB (keyV n s)) = none := rfl
  have m1 : May p ⟨⟨0, 0, fun _ => none⟩, [], false⟩ (keyV n s) ⟨#[97]⟩ 0 := ⟨iS, by rw [pv]; rfl, by omega, rfl⟩
  obtain ⟨a1, b1⟩ := upd_new m1 hf0 (by rw [pm]; decide) (by decide)
  have ok1 := (upd_goes ok0 (keyV n s) ⟨#[97]⟩ 0).ok
  rw [b1] at ok1
  obtain ⟨s1, hs1⟩ : ∃ s1, HSt.insert p ⟨⟨0, 0, fun _ => none⟩, [], false⟩ (formB (keyV n s)) (ByteArray.mk #[97]).data.toList = s1 := ⟨_, rfl⟩
  rw [hs1] at ok1 b1
  have es1 : s1.es = [⟨formB (keyV n s), 1⟩] := by rw [← hs1]; rfl
  have gn1 : s1.gone = false := by rw [← hs1]; rfl
  have md1 : s1.m.made = 1 := by rw [← hs1]; rfl
  have hf1 : findE s1.es (formB (keyV n (bstr l))) = some 0 := by
    rw [es1, eF]; unfold findE; rw [if_pos (keyB_iff.2 rfl)]
  have m2 : May p s1 (keyV n (bstr l)) ⟨#[98]⟩ 1 := ⟨iT, by rw [pv]; rfl, by omega, gn1⟩
  obtain ⟨a2, b2⟩ := upd_old m2 hf1
  have look : ∀ k, IsKey p.key k → lenB k = n → Agree k (keyV n s) n → lookA p s1 k = addr 1 0 := fun k hk hln hag => by
    have hlf : lenB (formB (keyV n s)) = n := by have := (iS.pre (by omega) (by omega)).len; rw [this, lS]
    have hag2 : Agree k (formB (keyV n s)) n := hag.trans (by unfold formB; rw [lS]; exact (cut_agree _ n (by rw [zS]; omega)).symm)
    unfold lookA
    rw [if_pos hk, es1]
    show (longTo [⟨formB (keyV n s), 1⟩] k 1).elim 0 _ = _
    have : longTo [⟨formB (keyV n s), 1⟩] k 1 = some ⟨formB (keyV n s), 1⟩ := by
      rw [longTo_step (es := [⟨formB (keyV n s), 1⟩]) (j := 0) rfl, if_pos]
      refine ⟨by show lenB (formB (keyV n s)) ≤ _; rw [hlf, hln]; exact Nat.le_refl _, fun b hb => (by cases hb), ?_⟩
      show Agree k (formB (keyV n s)) (lenB (formB (keyV n s)))
      rw [hlf]; exact hag2
    rw [this]; rfl
  have nd : ¬ delBad p s1 (keyV n (bstr l)) := by
    rintro (h | h)
    · rw [gn1] at h; cases h
    · exact h iT
  have a3 : delA p s1 (keyV n (bstr l)) = 0 := by unfold delA; rw [if_neg nd, hf1]; rfl
  have b3 : delS p s1 (keyV n (bstr l)) = s1.rem 0 := by unfold delS; rw [if_neg nd, hf1]; rfl
  have ok2 := (del_goes ok1 (keyV n (bstr l))).ok
  rw [b3] at ok2
  refine ⟨s1, s1.rem 0, ⟨ok0, by decide⟩, ⟨a1, b1⟩, ⟨ok1, by omega⟩, ⟨a2.trans (by decide), b2⟩, by rw [es1]; rfl, ?_, ⟨a3, b3⟩, ok2, ?_⟩
  · rw [look _ iT lT ha, look _ iS lS (Agree.refl _ _)]
  · obtain ⟨_, _, b, hq, _⟩ := ok1.ent 0 ⟨formB (keyV n s), 1⟩ (by rw [es1]; rfl)
    rw [rem_eq (s := s1) (i := 0) (e := ⟨formB (keyV n s), 1⟩) (by rw [es1]; rfl) hq]
    show (s1.es.eraseIdx 0).length = 0
    rw [es1]; rfl
theorem clampE (n : Int) : ∃ m : Nat, m ≤ 32 ∧ max (0 : Int) (min n 32) = (m : Int) := by
  refine ⟨(max 0 (min n 32)).toNat, ?_, ?_⟩ <;> omega
theorem forms_size (n : Int) (s : ByteArray) (tu : Int) (hs : s.size ≠ 4) (w : World) :
    Calls Try.prog 4 #[.int .i64 n, .string s, .int .u8 tu] w fun e w' => e = .returned (.bool true) ∧ Below w.heap.size w w' := by
  have h1 : ((s.size : Int) != 4) = true := by simp; omega
  go_enter Try.func4, Try.ntmps4
  go_wp2_with (go_at_call 6; refine (awake_any _).mono ?_; rintro e w1 ⟨rfl, hb⟩; have B1 := Lib.hid hb; clear hb)
  go_ret
  exact ⟨rfl, B1.out⟩
set_option maxHeartbeats 8000000 in
theorem forms_ok (n : Int) (s : ByteArray) (tu : Nat) (htu : tu ≤ 255) (hs : s.size = 4) (w : World) :
    Calls Try.prog 4 #[.int .i64 n, .string s, .int .u8 tu] w fun e w' => e = .returned (.bool true) ∧ Below w.heap.size w w' := by
  have h1 : ((s.size : Int) != 4) = false := by simp; omega
  obtain ⟨m, hm, hcl⟩ := clampE n
  have C0 := Lib.hid (new_any w)
  have CN := Lib.hid (tb_new w 11 8 1 4 (by decide))
  have AP := Lib.hid (fun x l (hl : l.length = 4) ha => forms_plan w.heap.size x m s l hm hs hl ha)
  have CV := Lib.hid (fun W => conv8 W s)
  have hkl := kl_length s
  have HA0 : Hid (Agree (keyV m (bstr s.data.toList)) (keyV m s) m) := by
    have e : bstr s.data.toList = s := by unfold bstr; simp
    rw [e]; exact Agree.refl _ _
  have HSZ := Lib.hid hs
  rw [hs] at CV
  generalize s.data.toList = l0 at *
  have HL0 : Hid (l0.length = 4) := by unfold Hid; omega
  clear hs hkl
  go_enter Try.func4, Try.ntmps4
  go_upto_region 8 with (first
    | (go_at_call 7; refine C0.out.mono ?_; rintro e w1 ⟨rfl, rfl⟩)
    | (go_at_call 8; refine CN.out.mono ?_; rintro e w2 ⟨x, rfl, hf⟩; have F := Lib.hid hf; clear hf))
  obtain ⟨c, w3, hcv, hc, hrow, hq⟩ := CV.out w2
  have T0 := Lib.hid (F.out.row hrow hq)
  generalize w2.heap.size = g at *
  clear hrow hq F C0 CN CV
  go_wp2_with fail
  clear hcv
  go_loopw [11] (fun i wr => ∃ (j : Nat) (l : List UInt8), i = .int .i64 j ∧ m ≤ j ∧ j ≤ 32 ∧ l.length = 4 ∧ Agree (keyV m (bstr l)) (keyV m s) m ∧ TR w.heap.size w ⟨w.heap.size, 0, x, 0, 11, 8, 1, 4⟩ ⟨⟨0, 0, fun _ => none⟩, [], false⟩ g l wr) (fun i _ => 32 - (intOf i).toNat)
  case atStart => exact ⟨m, l0, rfl, Nat.le_refl _, hm, HL0.out, HA0.out, T0.out⟩
  case round =>
    clear T0 HA0 HL0
    obtain ⟨j, l, rfl, hmj, hj, hl, hag, hT⟩ := hrel
    have HT := Lib.hid hT; have HAG := Lib.hid hag; have HL := Lib.hid hl
    clear hT hag
    by_cases hlt : j < 32
    · obtain ⟨q, hq⟩ : ∃ q, j / 8 = q := ⟨_, rfl⟩
      obtain ⟨r, hr⟩ : ∃ r, j % 8 = r := ⟨_, rfl⟩
      have eq1 : (j : Int) / 8 = (q : Int) := by omega
      have er1 : (j : Int) % 8 = (r : Int) := by omega
      have g1 : decide ((j : Int) < 32) = true := by simp; omega
      have hql : q < l.length := by omega
      have hq4 : (q : Int) < 4 := by omega
      have hr8 : r < 8 := by omega
      have cc := HT.out.row.cell hql
      have cf := HT.out.row.frozen hql
      unfold byteV at cc
      have hv := xor_turn ⟨(l[q]).toNat, UInt8.toNat_lt _⟩ ⟨r, hr8⟩
      simp only at hv
      have h256 := xor_lt (l[q]).toNat r (UInt8.toNat_lt _) hr8
      have HV : Hid (Value.int .u8 (((l[q]).toNat ^^^ 2 ^ (7 - r) : Nat) : Int) = byteV (UInt8.ofNat ((l[q]).toNat ^^^ 2 ^ (7 - r)))) := Lib.hid (byteV_nat _ h256)
      have HST := agree_turn (i := j) HAG.out hmj hlt (by omega)
      have HSA : Hid (Agree (keyV m (bstr (l.set q (UInt8.ofNat ((l[q]).toNat ^^^ 2 ^ (7 - r)))))) (keyV m s) m) := by
        simp only [hq, hr] at HST
        exact HST
      have HS := Lib.hid (HT.out.set_ q (UInt8.ofNat ((l[q]).toNat ^^^ 2 ^ (7 - r))))
      have HLL : Hid ((l.set q (UInt8.ofNat ((l[q]).toNat ^^^ 2 ^ (7 - r)))).length = 4) := by unfold Hid; rw [List.length_set]; exact hl
      clear HST hq hr h256
      generalize (l[q]).toNat ^^^ 2 ^ (7 - r) = y at *
      generalize (l[q]).toNat = xx at *
      go_wp2_with fail
      all_goals go_roundw
      all_goals first
        | (simp [intOf]; omega)
        | (rw [HV.out]; exact ⟨j + 1, _, by go_num, by omega, by omega, HLL.out, HSA.out, HS.out⟩)
        | exact ⟨j + 1, l, by go_num, by omega, by omega, HL.out, HAG.out, HT.out⟩
    · obtain rfl : j = 32 := by omega
      obtain ⟨s1, s2, ap⟩ := AP.out x l HL.out HAG.out
      have A := Lib.hid ap
      have HKS := Lib.hid (fun W => key_any m s (by omega) (by have := HSZ.out; omega) W)
      have HKT := Lib.hid (fun W => key_any m (bstr l) (by omega) (by rw [bstr_size]; omega) W)
      have HBK : Hid (∀ W s', TR w.heap.size w ⟨w.heap.size, 0, x, 0, 11, 8, 1, 4⟩ s' g l W → (convert 42 9 (.slice (some ⟨g, 0, none⟩) 4 c)).run Try.prog W = .ok (.string (bstr l)) W) := fun W s' h => by
        have := h.row.back c
        rwa [HL.out] at this
      have CU1 : Hid (FCallH PH ⟨w.heap.size, 0, x, 0, 11, 8, 1, 4⟩ 9 #[tp x, .string (keyV m s), .string ⟨#[97]⟩, .int .i64 0] ⟨⟨0, 0, fun _ => none⟩, [], false⟩ s1 (.returned (.int .i64 0))) := by
        have := ph_upd (keyV m s) ⟨#[97]⟩ 0 A.out.o0.1 A.out.o0.2
        rw [A.out.u1.1, A.out.u1.2] at this
        exact this
      have CU2 : Hid (FCallH PH ⟨w.heap.size, 0, x, 0, 11, 8, 1, 4⟩ 9 #[tp x, .string (keyV m (bstr l)), .string ⟨#[98]⟩, .int .i64 1] s1 s1 (.returned (.int .i64 5))) := by
        have := ph_upd (keyV m (bstr l)) ⟨#[98]⟩ 1 A.out.o1.1 A.out.o1.2
        rw [A.out.u2.1, A.out.u2.2] at this
        exact this
      have CL1 : Hid (FCallH PH ⟨w.heap.size, 0, x, 0, 11, 8, 1, 4⟩ 12 #[tp x, .string (keyV m s)] s1 s1 (.returned (.int .u64 (lookA ⟨w.heap.size, 0, x, 0, 11, 8, 1, 4⟩ s1 (keyV m s))))) := by
        have := ph_look (keyV m s) A.out.o1.1
        exact this
      have CL2 : Hid (FCallH PH ⟨w.heap.size, 0, x, 0, 11, 8, 1, 4⟩ 12 #[tp x, .string (keyV m (bstr l))] s1 s1 (.returned (.int .u64 (lookA ⟨w.heap.size, 0, x, 0, 11, 8, 1, 4⟩ s1 (keyV m s))))) := by
        have := ph_look (keyV m (bstr l)) A.out.o1.1
        rw [A.out.look] at this
        exact this
      have CD : Hid (FCallH PH ⟨w.heap.size, 0, x, 0, 11, 8, 1, 4⟩ 15 #[tp x, .string (keyV m (bstr l))] s1 s2 (.returned (.int .i64 0))) := by
        have := ph_del (keyV m (bstr l)) A.out.o1.1
        rw [A.out.del.1, A.out.del.2] at this
        exact this
      have LEN1 : Hid (∀ W, TR w.heap.size w ⟨w.heap.size, 0, x, 0, 11, 8, 1, 4⟩ s1 g l W → Calls Try.prog 14 #[tp x] W fun e w' => e = .returned (.int .i64 1) ∧ W = w') := fun W h => by
        have := h.tb.len A.out.o1.1
        rw [A.out.len] at this; exact this
      have LEN2 : Hid (∀ W, TR w.heap.size w ⟨w.heap.size, 0, x, 0, 11, 8, 1, 4⟩ s2 g l W → Calls Try.prog 14 #[tp x] W fun e w' => e = .returned (.int .i64 0) ∧ W = w') := fun W h => by
        have := h.tb.len A.out.o2
        rw [A.out.len2] at this; exact this
      clear ap AP hl A
      generalize lookA _ s1 (keyV m s) = la at *
      generalize keyV m s = kS at *
      generalize keyV m (bstr l) = kT at *
      generalize (⟨w.heap.size, 0, x, 0, 11, 8, 1, 4⟩ : HPar) = p at *
      generalize (⟨⟨0, 0, fun _ => none⟩, [], false⟩ : HSt) = s0 at *
      generalize bstr l = bl at *
      have g1 : decide (((32 : Nat) : Int) < 32) = false := by decide
      have GH := Lib.hid (HT.out.quiet (Keeps.refl _ wr).drew)
      have cv0 := HBK.out _ _ GH.out
      go_upto_region 14 with fail
      go_region_held3 (fun W => (convert 42 9 (.slice (some ⟨g, 0, none⟩) 4 c)).run Try.prog W = .ok (.string bl) W)
        (first | exact HBK.out _ _ GH.out | exact HBK.out _ _ G1.out | exact HBK.out _ _ G2.out | exact HBK.out _ _ G3.out | exact HBK.out _ _ G4.out)
        (first
          | (have _p := G3.out; go_at_call 9; refine (G3.out.call CU2.out).mono ?_; rintro e w4 ⟨rfl, h⟩; have G4 := Lib.hid h; clear h)
          | (have _p := G2.out; go_at_call 10; refine (HKT.out _).mono ?_; rintro e w3 ⟨rfl, hq⟩; have G3 := Lib.hid (G2.out.quiet hq); clear hq)
          | (have _p := G1.out; go_at_call 9; refine (G1.out.call CU1.out).mono ?_; rintro e w2 ⟨rfl, h⟩; have G2 := Lib.hid h; clear h)
          | (have _p := GH.out; go_at_call 10; refine (HKS.out _).mono ?_; rintro e w1 ⟨rfl, hq⟩; have G1 := Lib.hid (GH.out.quiet hq); clear hq))
      have G5 := G4
      clear G1 G2 G3 GH
      have cv5 := HBK.out _ _ G5.out
      go_wp2_with (first
        | (have _p := G11.out; go_at_call 14; refine (LEN2.out _ G11.out).mono ?_; rintro e w12 ⟨rfl, rfl⟩)
        | (have _p := G11.out; go_at_call 6; refine (awake_later G11.out.tb.below G11.out.tb.sz).mono ?_; rintro e w13 ⟨rfl, hb⟩; have B13 := Lib.hid hb; clear hb)
        | (have _p := G10.out; go_at_call 15; refine (G10.out.call CD.out).mono ?_; rintro e w11 ⟨rfl, h⟩; have G11 := Lib.hid h; clear h)
        | (have _p := G9.out; go_at_call 10; refine (HKT.out _).mono ?_; rintro e w10 ⟨rfl, hq⟩; have G10 := Lib.hid (G9.out.quiet hq); clear hq)
        | (have _p := G8.out; go_at_call 12; refine (G8.out.call CL1.out).mono ?_; rintro e w9 ⟨rfl, h⟩; have cv9 := HBK.out _ _ h; have G9 := Lib.hid h; clear h)
        | (have _p := G7.out; go_at_call 10; refine (HKS.out _).mono ?_; rintro e w8 ⟨rfl, hq⟩; have G8 := Lib.hid (G7.out.quiet hq); clear hq)
        | (have _p := G6.out; go_at_call 12; refine (G6.out.call CL2.out).mono ?_; rintro e w7 ⟨rfl, h⟩; have G7 := Lib.hid h; clear h)
        | (have _p := G5.out; go_at_call 10; refine (HKT.out _).mono ?_; rintro e w6 ⟨rfl, hq⟩; have G6 := Lib.hid (G5.out.quiet hq); clear hq)
        | (go_at_call 14; refine (LEN1.out _ G5.out).mono ?_; rintro e w12 ⟨rfl, rfl⟩))
      go_ret
      exact ⟨rfl, B13.out⟩
theorem forms_walk (n : Int) (s : ByteArray) (tu : Int) (ht : 0 ≤ tu ∧ tu ≤ 255) (w : World) :
    Calls Try.prog 4 #[.int .i64 n, .string s, .int .u8 tu] w fun e w' => e = .returned (.bool true) ∧ Below w.heap.size w w' := by
  by_cases hs : s.size = 4
  · obtain ⟨k, rfl⟩ := Int.eq_ofNat_of_zero_le ht.1
    exact forms_ok n s k (by omega) hs w
  · exact forms_size n s tu hs w
end Go.Proofs.Ytomhflaofipccaa
