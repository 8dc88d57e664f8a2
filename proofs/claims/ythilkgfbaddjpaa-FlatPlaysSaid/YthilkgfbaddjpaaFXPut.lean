/-
  Package flat: put, Update that writes, Free.
-/
import Derived.Test.YthilkgfbaddjpaaP13
namespace Go.Proofs.Ythilkgfbaddjpaa
open Go Go.RowKit Go.Maps
set_option linter.unusedVariables false
set_option linter.unusedSimpArgs false
set_option maxRecDepth 100000
theorem zq_false {z : Nat → List UInt8} {q : Nat} {l : List UInt8} : zq z q l (fun _ => false) = z := by
  funext i
  unfold zq
  rw [if_neg (by simp)]
theorem zq_step {z : Nat → List UInt8} {q c : Nat} {l : List UInt8} {p : Nat → Bool} (h : p c = false) : upz (zq z q l p) c (setAt (zq z q l p c) q l) = zq z q l (fun i => p i || (i == c)) := by
  funext i
  unfold upz zq
  by_cases hi : i = c
  · subst hi
    rw [if_pos rfl, h, if_neg (by simp), if_pos (by simp)]
  · rw [if_neg hi]
    by_cases h2 : p i = true
    · rw [if_pos h2, if_pos (by simp [h2])]
    · rw [if_neg h2, if_neg (by simp [h2, hi])]
section
variable {w : World} {S : Nat → Prop} {bm : Nat}
set_option maxHeartbeats 2000000 in
theorem kput_all (made fl b : Nat) (hb8 : b ≤ 8) (z : Nat → List UInt8) (x : Nat) (k v mx : Int) (V : Value) (h : KSide w S bm ⟨made, fl, rng 0 b z⟩) (hx : Blk w x 77 (mapC bm k v mx V)) (nx : ¬ S x) (g c m : Nat) (ns : Nat → Nat) (hg : g < w.heap.size) (ng : ¬ S g) (hc : ∀ i, i < m → w.cell? ⟨g, i, none⟩ = some (.int .u64 (addr (ns i) 0)))
    (hm : m ≤ 8) (hns : ∀ i, i < m → 0 < ns i ∧ ns i ≤ b) (hinj : ∀ i k, i < m → k < m → ns i = ns k → i = k) (q L : Nat) (l : List UInt8) (h1 : 1 ≤ l.length) (hl : l.length ≤ 4096) (hq : q ≤ 4294967295) (hz : ∀ i, (z i).length = L) (hqL : q + l.length ≤ L) :
    Calls Try.prog 45 #[.pointer (some ⟨x, 0, none⟩), .slice (some ⟨g, 0, none⟩) m c, .int .u64 q, .string (bstr l)] w fun e w' => e = .returned (.int .i64 0) ∧ ∃ S' p, (∀ i, p i = true ↔ ∃ t, t < m ∧ ns t = i) ∧ KS w S bm ⟨made, fl, rng 0 b (zq z q l p)⟩ S' w' := by
  have H := Lib.hid h
  have HX := Lib.hid hx
  have NX := Lib.hid nx
  have HG := Lib.hid hg
  have NG := Lib.hid ng
  have HC := Lib.hid hc
  have HN := Lib.hid hm
  have HNS := Lib.hid hns
  have HI := Lib.hid hinj
  have H1 := Lib.hid h1
  have HL := Lib.hid (And.intro hl hb8)
  have HQ := Lib.hid hq
  have HZ := Lib.hid (And.intro hz hqL)
  clear h hx nx hg ng hc hm hns hinj h1 hl hq hz hqL hb8
  go_enter Try.func45, Try.ntmps45
  go_wp2_with fail
  go_loopw [17] (fun i wr => ∃ j : Nat, j ≤ m ∧ i = .int .i64 j ∧ wr = w) (fun i _ => m - (intOf i).toNat)
  case atStart => exact ⟨0, by omega, rfl, rfl⟩
  case round =>
    obtain ⟨j, hj, rfl, hwr⟩ := hrel
    obtain rfl : w = wr := hwr.symm
    by_cases hlt : j < m
    · have c0 := HC.out j hlt
      have d0 : w.cell? ⟨x, 0, none⟩ = some (.pointer (some ⟨bm, 0, none⟩)) := HX.out.cell 0
      have hnj := HNS.out j hlt
      have e1 : IntKind.u64.wrap (addr (ns j) 0 + (q : Int)) = addr (ns j) q := by
        have := HL.out; have := HQ.out
        rw [wraps_u64 _ (by unfold addr; omega) (by unfold addr; omega)]; unfold addr; omega
      have CS := Lib.hid (ksize bm made fl b z (ns j) q hnj HL.out.2 HQ.out (by rw [HZ.out.1]; have := HZ.out.2; have := H1.out; omega) H.out)
      have HW : Hid (wrap64 ((j : Int) + 1) = (j : Int) + 1) := by unfold Hid wrap64; have := HN.out; omega
      clear hnj
      go_wp2_with (go_at_call 60; refine CS.out.mono ?_; rintro e w1 ⟨n0, rfl, rfl⟩)
      exact ⟨⟨j + 1, by omega, by rw [HW.out]; go_num, trivial⟩, by rw [HW.out]; simp [intOf]; omega⟩
    · have : j = m := by omega
      subst this
      go_wp2_with fail
      go_loopw [38] (fun i w2 => ∃ (k : Nat) (S' : Nat → Prop) (p : Nat → Bool), k ≤ j ∧ i = .int .i64 k ∧ (∀ i, p i = true ↔ ∃ t, t < k ∧ ns t = i) ∧ KS w S bm ⟨made, fl, rng 0 b (zq z q l p)⟩ S' w2) (fun i _ => j - (intOf i).toNat)
      case atStart => exact ⟨0, S, (fun _ => false), by omega, rfl, (fun i => ⟨fun h => (by cases h), fun ⟨t, ht, _⟩ => by omega⟩), by rw [zq_false]; exact KS.start H.out⟩
      case round =>
        obtain ⟨k, S', p, hk, rfl, hp, hks⟩ := hrel
        have HK := Lib.hid hks
        have HP := Lib.hid hp
        clear hp hks
        by_cases hlt2 : k < j
        · have c0 : wr.cell? ⟨g, k, none⟩ = some (.int .u64 (addr (ns k) 0)) := (World.cell?_of_block (HK.out.2.1.block g HG.out NG.out)).trans (HC.out k hlt2)
          have d0 : wr.cell? ⟨x, 0, none⟩ = some (.pointer (some ⟨bm, 0, none⟩)) := (HX.out.keeps HK.out.2.1 NX.out).cell 0
          have hnj := HNS.out k hlt2
          have e1 : IntKind.u64.wrap (addr (ns k) 0 + (q : Int)) = addr (ns k) q := by
            have := HL.out; have := HQ.out
            rw [wraps_u64 _ (by unfold addr; omega) (by unfold addr; omega)]; unfold addr; omega
          have hpc : p (ns k) = false := by
            rcases hb : p (ns k) with _ | _
            · rfl
            · obtain ⟨t, ht, e⟩ := (HP.out _).1 hb
              have := HI.out t k (by omega) hlt2 e
              omega
          have hcall := HK.out.call (kput bm made fl b (zq z q l p) (ns k) q hnj HL.out.2 l HL.out.1 HQ.out (by rw [zq_len HZ.out.1 HZ.out.2]; exact HZ.out.2))
          rw [zq_step hpc] at hcall
          have CP := Lib.hid hcall
          have HW : Hid (wrap64 ((k : Int) + 1) = (k : Int) + 1) := by unfold Hid wrap64; have := HN.out; omega
          have HLT := Lib.hid hlt2
          clear hnj hpc hcall
          go_wp2_with (go_at_call 61; refine CP.out.mono ?_; rintro e w1 ⟨rfl, hk2, _⟩; have HK2 := Lib.hid hk2; clear hk2)
          refine ⟨⟨k + 1, _, _, by have := HLT.out; omega, by rw [HW.out]; go_num, fun i => ?_, HK2.out⟩, by rw [HW.out]; simp [intOf]; have := HLT.out; omega⟩
          simp only [Bool.or_eq_true, beq_iff_eq]
          constructor
          · rintro (h | rfl)
            · obtain ⟨t, ht, e⟩ := (HP.out i).1 h
              exact ⟨t, by omega, e⟩
            · exact ⟨k, by omega, rfl⟩
          · rintro ⟨t, ht, e⟩
            by_cases htk : t = k
            · subst htk; exact .inr e.symm
            · exact .inl ((HP.out i).2 ⟨t, by omega, e⟩)
        · have : k = j := by omega
          subst this
          go_wp2_with fail
          go_ret
          exact ⟨rfl, S', p, HP.out, HK.out⟩
theorem KS.after {w1 w2 : World} {S0 S1 : Nat → Prop} {m : PS} (h : KS w1 S bm m S1 w2) (k : Keeps (fun _ => False) w w1) : KS w S bm m S1 w2 :=
  ⟨h.1, (k.mono fun _ hf => hf.elim).trans (h.2.1.mono fun b hb => .inl hb), fun b hb => (h.2.2 b hb).imp id fun hz => Nat.le_trans k.size hz⟩
set_option maxHeartbeats 2000000 in
theorem xupd_ok_s (c : Int) (v mx made fl : Nat) (x : Nat) (z : Nat → List UInt8) (hk : KSide w S bm ⟨made, fl, rng 0 1 z⟩) (h : Blk w x 77 (mapC bm 2 v mx (sharedV (addr 1 0)))) (nx : ¬ S x) (hv : v ≤ 4096) (h1 : 1 ≤ v) (hm : mx ≤ 4096) (s : ByteArray) (l : List UInt8) (f : Int) (hf : f = 0 ∨ f = 2) (hl : l.length = v) (j : Nat) (hj : idx s = j) (hjm : j < mx) (hz : ∀ i, (z i).length = mx * wide v) :
    Calls Try.prog 19 #[.pointer (some ⟨x, 0, none⟩), .string s, .string (bstr l), .int .i64 f, .int .i64 c] w fun e w' => e = .returned (.int .i64 0) ∧ ∃ S', KS w S bm ⟨made, fl, rng 0 1 (zq z (j * wide v) l (pU 2 c 1))⟩ S' w' := by
  have c3 : w.cell? ⟨x, 3, none⟩ = some (.int .i64 v) := h.cell 3
  have c5 : w.cell? ⟨x, 5, none⟩ = some (sharedV (addr 1 0)) := h.cell 5
  have hnn := number_idx s
  rw [hj, if_neg (by omega), decide_eq_true (show (0 : Int) ≤ (j : Int) by omega)] at hnn
  have CN := Lib.hid hnn
  have CG := Lib.hid (gone_no _ _ _ _ _ _ _ h)
  have CM := Lib.hid (fun w' (hb : Below w.heap.size w w') => max_any _ _ _ _ _ mx hm (blk_below h hb))
  have CO := Lib.hid (fun w' (hb : Below w.heap.size w w') => offset_any _ _ _ _ _ v j hv (by omega) (blk_below h hb))
  have CW := Lib.hid (swritten_any (addr 1 0) c w)
  have hw : wide v ≤ 4103 := by unfold wide; omega
  have hq : j * wide v ≤ 4096 * 4103 := Nat.mul_le_mul (by omega) hw
  have hfit : j * wide v + v ≤ mx * wide v := fit_in hjm
  obtain ⟨q, hqq⟩ : ∃ q, j * wide v = q := ⟨_, rfl⟩
  rw [hqq] at CO hq hfit ⊢
  have f1 : decide (f < 0) = false := decide_eq_false (by omega)
  have f2 : decide (2 < f) = false := decide_eq_false (by omega)
  have f3 : (f == 1) = false := by rw [beq_eq_false_iff_ne]; omega
  have g1 : decide ((mx : Int) ≤ (j : Int)) = false := decide_eq_false (by omega)
  have g2 : decide (mx ≤ j) = false := decide_eq_false (by omega)
  have g5 : (((bstr l).size : Int) != (v : Int)) = false := by rw [bstr_size, hl]; simp
  have mW := mWrittenS
  have HF := Lib.hid hk
  have HM := Lib.hid h
  have NX := Lib.hid nx
  have HQ := Lib.hid hq
  have HL := Lib.hid hl
  have H1 := Lib.hid h1
  have HV := Lib.hid hv
  have HZ := Lib.hid (And.intro hz hfit)
  clear h hk hm hj hjm hnn hf hv hw hqq hq hl h1 hz hfit nx 
  go_enter Try.func19, Try.ntmps19
  go_wp2_with (first
    | (go_at_call 42; refine (CN.out _).mono ?_; rintro e w' ⟨rfl, rfl⟩)
    | (go_at_call 43; refine CG.out.mono ?_; rintro e w' ⟨rfl, rfl⟩)
    | (go_at_call 116; refine CW.out.mono ?_; rintro e w1 ⟨g2', rfl, hb, hg, hk⟩; have B1 := Lib.hid hb; have HG := Lib.hid hg; have HK := Lib.hid hk; clear hb hg hk)
    | (go_at_call 44; refine (CM.out _ B1.out).mono ?_; rintro e w' ⟨rfl, rfl⟩)
    | (go_at_call 46; refine (CO.out _ B1.out).mono ?_; rintro e w2 ⟨rfl, hb⟩; have HK2 := Lib.hid (blk_below HK.out hb); have B2 := Lib.hid (below_then B1.out hb); have F2 := Lib.hid (HF.out.keeps' (keeps_grow B2.out) (fun _ _ hf => hf)); have M2 := Lib.hid (blk_below HM.out B2.out); clear hb)
    | (go_at_call 45; go_loud (refine (kput_all made fl 1 (by decide) z x _ _ _ _ F2.out M2.out NX.out g2' 1 1 (fun _ => 1) HK2.out.lt (fun hs => by have := HF.out.lt' g2' hs; have := HG.out; omega) (fun i hi => by obtain rfl : i = 0 := (by omega); exact HK2.out.cell 0) (by decide) (fun _ _ => by decide) (fun i k hi hk _ => by omega) q (mx * wide v) l (by have := HL.out; have := H1.out; omega) (by have := HL.out; have := HV.out; omega) (by have := HQ.out; omega) HZ.out.1 (by have := HZ.out.2; have := HL.out; omega)).mono ?_); rintro e w3 ⟨rfl, S3, p3, hp3, hk3⟩; have HP3 := Lib.hid hp3; have HK3 := Lib.hid hk3; clear hp3 hk3))
  go_ret
  refine ⟨rfl, S3, ?_⟩
  have hks := HK3.out.after (S0 := S) (keeps_grow B2.out)
  refine (congrArg (fun pp => KS w S bm ⟨made, fl, rng 0 1 (zq z q l pp)⟩ S3 w3) (funext fun r => ?_)).mp hks
  have e := HP3.out r
  show p3 r = pU 2 c 1 r
  rw [Bool.eq_iff_iff, e]
  simp only [pU, decide_eq_true_eq]
  constructor
  · rintro ⟨t, ht, rfl⟩; exact ⟨by omega, by omega, by first | exact .inl rfl | exact .inl trivial⟩
  · rintro ⟨h1, h2, _⟩; exact ⟨0, by omega, by omega⟩
set_option maxHeartbeats 2000000 in
theorem xupd_ok_a (g n cc : Nat) (hn : 1 ≤ n) (hn8 : n ≤ 8) (gl : g < w.heap.size) (ng : ¬ S g) (hgc : ∀ i, i < n → w.cell? ⟨g, i, none⟩ = some (.int .u64 (addr (i + 1) 0))) (v mx made fl : Nat) (x : Nat) (z : Nat → List UInt8) (hk : KSide w S bm ⟨made, fl, rng 0 n z⟩) (h : Blk w x 77 (mapC bm 6 v mx (eachV (some ⟨g, 0, none⟩) n cc))) (nx : ¬ S x) (hv : v ≤ 4096) (h1 : 1 ≤ v) (hm : mx ≤ 4096) (s : ByteArray) (l : List UInt8) (f : Int) (hf : f = 0 ∨ f = 2) (hl : l.length = v) (j : Nat) (hj : idx s = j) (hjm : j < mx) (hz : ∀ i, (z i).length = mx * wide v) :
    Calls Try.prog 19 #[.pointer (some ⟨x, 0, none⟩), .string s, .string (bstr l), .int .i64 f, .int .i64 (-1)] w fun e w' => e = .returned (.int .i64 0) ∧ ∃ S', KS w S bm ⟨made, fl, rng 0 n (zq z (j * wide v) l (pU 6 (-1) n))⟩ S' w' := by
  have c3 : w.cell? ⟨x, 3, none⟩ = some (.int .i64 v) := h.cell 3
  have c5 : w.cell? ⟨x, 5, none⟩ = some (eachV (some ⟨g, 0, none⟩) n cc) := h.cell 5
  have hnn := number_idx s
  rw [hj, if_neg (by omega), decide_eq_true (show (0 : Int) ≤ (j : Int) by omega)] at hnn
  have CN := Lib.hid hnn
  have CG := Lib.hid (gone_no _ _ _ _ _ _ _ h)
  have CM := Lib.hid (fun w' (hb : Below w.heap.size w w') => max_any _ _ _ _ _ mx hm (blk_below h hb))
  have CO := Lib.hid (fun w' (hb : Below w.heap.size w w') => offset_any _ _ _ _ _ v j hv (by omega) (blk_below h hb))
  have CW := Lib.hid (ewritten_all (some ⟨g, 0, none⟩) n cc w)
  have hw : wide v ≤ 4103 := by unfold wide; omega
  have hq : j * wide v ≤ 4096 * 4103 := Nat.mul_le_mul (by omega) hw
  have hfit : j * wide v + v ≤ mx * wide v := fit_in hjm
  obtain ⟨q, hqq⟩ : ∃ q, j * wide v = q := ⟨_, rfl⟩
  rw [hqq] at CO hq hfit ⊢
  have f1 : decide (f < 0) = false := decide_eq_false (by omega)
  have f2 : decide (2 < f) = false := decide_eq_false (by omega)
  have f3 : (f == 1) = false := by rw [beq_eq_false_iff_ne]; omega
  have g1 : decide ((mx : Int) ≤ (j : Int)) = false := decide_eq_false (by omega)
  have g2 : decide (mx ≤ j) = false := decide_eq_false (by omega)
  have g5 : (((bstr l).size : Int) != (v : Int)) = false := by rw [bstr_size, hl]; simp
  have n6 : decide ((n : Int) = 0) = false := decide_eq_false (by omega)
  have n7 : ((n : Int) == 0) = false := by simp; omega
  have n8 : decide (n = 0) = false := decide_eq_false (by omega)
  have HGL := Lib.hid (And.intro gl (And.intro ng (And.intro hn8 hgc)))
  have mW := mWrittenE
  have HF := Lib.hid hk
  have HM := Lib.hid h
  have NX := Lib.hid nx
  have HQ := Lib.hid hq
  have HL := Lib.hid hl
  have H1 := Lib.hid h1
  have HV := Lib.hid hv
  have HZ := Lib.hid (And.intro hz hfit)
  clear h hk hm hj hjm hnn hf hv hw hqq hq hl h1 hz hfit nx hn hn8 gl ng hgc
  go_enter Try.func19, Try.ntmps19
  go_wp2_with (first
    | (go_at_call 42; refine (CN.out _).mono ?_; rintro e w' ⟨rfl, rfl⟩)
    | (go_at_call 43; refine CG.out.mono ?_; rintro e w' ⟨rfl, rfl⟩)
    | (go_at_call 113; refine CW.out.mono ?_; rintro e w1 ⟨rfl, hb⟩; have B1 := Lib.hid hb; clear hb)
    | (go_at_call 44; refine (CM.out _ B1.out).mono ?_; rintro e w' ⟨rfl, rfl⟩)
    | (go_at_call 46; refine (CO.out _ B1.out).mono ?_; rintro e w2 ⟨rfl, hb⟩; have B2 := Lib.hid (below_then B1.out hb); have F2 := Lib.hid (HF.out.keeps' (keeps_grow B2.out) (fun _ _ hf => hf)); have M2 := Lib.hid (blk_below HM.out B2.out); clear hb)
    | (go_at_call 45; go_loud (refine (kput_all made fl n HGL.out.2.2.1 z x _ _ _ _ F2.out M2.out NX.out g cc n (fun i => i + 1) (Nat.lt_of_lt_of_le HGL.out.1 B2.out.size) HGL.out.2.1 (fun i hi => (B2.out.cell (p := ⟨g, i, none⟩) HGL.out.1).trans (HGL.out.2.2.2 i hi)) HGL.out.2.2.1 (fun i hi => ⟨Nat.succ_pos _, hi⟩) (fun i k hi hk e => Nat.succ.inj e) q (mx * wide v) l (by have := HL.out; have := H1.out; omega) (by have := HL.out; have := HV.out; omega) (by have := HQ.out; omega) HZ.out.1 (by have := HZ.out.2; have := HL.out; omega)).mono ?_); rintro e w3 ⟨rfl, S3, p3, hp3, hk3⟩; have HP3 := Lib.hid hp3; have HK3 := Lib.hid hk3; clear hp3 hk3))
  go_ret
  refine ⟨rfl, S3, ?_⟩
  have hks := HK3.out.after (S0 := S) (keeps_grow B2.out)
  refine (congrArg (fun pp => KS w S bm ⟨made, fl, rng 0 n (zq z q l pp)⟩ S3 w3) (funext fun r => ?_)).mp hks
  have e := HP3.out r
  show p3 r = pU 6 (-1) n r
  rw [Bool.eq_iff_iff, e]
  simp only [pU, decide_eq_true_eq]
  constructor
  · rintro ⟨t, ht, rfl⟩; exact ⟨by omega, by omega, by first | exact .inr (.inl rfl) | exact .inr (.inl trivial)⟩
  · rintro ⟨h1, h2, h3⟩; exact ⟨r - 1, by omega, by omega⟩
set_option maxHeartbeats 2000000 in
theorem xupd_ok_o (g n cc i : Nat) (hi : i < n) (hn8 : n ≤ 8) (gl : g < w.heap.size) (hgc : w.cell? ⟨g, i, none⟩ = some (.int .u64 (addr (i + 1) 0))) (v mx made fl : Nat) (x : Nat) (z : Nat → List UInt8) (hk : KSide w S bm ⟨made, fl, rng 0 n z⟩) (h : Blk w x 77 (mapC bm 6 v mx (eachV (some ⟨g, 0, none⟩) n cc))) (nx : ¬ S x) (hv : v ≤ 4096) (h1 : 1 ≤ v) (hm : mx ≤ 4096) (s : ByteArray) (l : List UInt8) (f : Int) (hf : f = 0 ∨ f = 2) (hl : l.length = v) (j : Nat) (hj : idx s = j) (hjm : j < mx) (hz : ∀ i, (z i).length = mx * wide v) :
    Calls Try.prog 19 #[.pointer (some ⟨x, 0, none⟩), .string s, .string (bstr l), .int .i64 f, .int .i64 i] w fun e w' => e = .returned (.int .i64 0) ∧ ∃ S', KS w S bm ⟨made, fl, rng 0 n (zq z (j * wide v) l (pU 6 i n))⟩ S' w' := by
  have c3 : w.cell? ⟨x, 3, none⟩ = some (.int .i64 v) := h.cell 3
  have c5 : w.cell? ⟨x, 5, none⟩ = some (eachV (some ⟨g, 0, none⟩) n cc) := h.cell 5
  have hnn := number_idx s
  rw [hj, if_neg (by omega), decide_eq_true (show (0 : Int) ≤ (j : Int) by omega)] at hnn
  have CN := Lib.hid hnn
  have CG := Lib.hid (gone_no _ _ _ _ _ _ _ h)
  have CM := Lib.hid (fun w' (hb : Below w.heap.size w w') => max_any _ _ _ _ _ mx hm (blk_below h hb))
  have CO := Lib.hid (fun w' (hb : Below w.heap.size w w') => offset_any _ _ _ _ _ v j hv (by omega) (blk_below h hb))
  have CW := Lib.hid (ewritten_one g n cc i (addr (i + 1) 0) hi hn8 w gl hgc)
  have hw : wide v ≤ 4103 := by unfold wide; omega
  have hq : j * wide v ≤ 4096 * 4103 := Nat.mul_le_mul (by omega) hw
  have hfit : j * wide v + v ≤ mx * wide v := fit_in hjm
  obtain ⟨q, hqq⟩ : ∃ q, j * wide v = q := ⟨_, rfl⟩
  rw [hqq] at CO hq hfit ⊢
  have f1 : decide (f < 0) = false := decide_eq_false (by omega)
  have f2 : decide (2 < f) = false := decide_eq_false (by omega)
  have f3 : (f == 1) = false := by rw [beq_eq_false_iff_ne]; omega
  have g1 : decide ((mx : Int) ≤ (j : Int)) = false := decide_eq_false (by omega)
  have g2 : decide (mx ≤ j) = false := decide_eq_false (by omega)
  have g5 : (((bstr l).size : Int) != (v : Int)) = false := by rw [bstr_size, hl]; simp
  have HI := Lib.hid (And.intro hi hn8)
  have mW := mWrittenE
  have HF := Lib.hid hk
  have HM := Lib.hid h
  have NX := Lib.hid nx
  have HQ := Lib.hid hq
  have HL := Lib.hid hl
  have H1 := Lib.hid h1
  have HV := Lib.hid hv
  have HZ := Lib.hid (And.intro hz hfit)
  clear h hk hm hj hjm hnn hf hv hw hqq hq hl h1 hz hfit nx hi hn8 gl hgc
  go_enter Try.func19, Try.ntmps19
  go_wp2_with (first
    | (go_at_call 42; refine (CN.out _).mono ?_; rintro e w' ⟨rfl, rfl⟩)
    | (go_at_call 43; refine CG.out.mono ?_; rintro e w' ⟨rfl, rfl⟩)
    | (go_at_call 113; refine CW.out.mono ?_; rintro e w1 ⟨g2', rfl, hb, hg, hk⟩; have B1 := Lib.hid hb; have HG := Lib.hid hg; have HK := Lib.hid hk; clear hb hg hk)
    | (go_at_call 44; refine (CM.out _ B1.out).mono ?_; rintro e w' ⟨rfl, rfl⟩)
    | (go_at_call 46; refine (CO.out _ B1.out).mono ?_; rintro e w2 ⟨rfl, hb⟩; have HK2 := Lib.hid (blk_below HK.out hb); have B2 := Lib.hid (below_then B1.out hb); have F2 := Lib.hid (HF.out.keeps' (keeps_grow B2.out) (fun _ _ hf => hf)); have M2 := Lib.hid (blk_below HM.out B2.out); clear hb)
    | (go_at_call 45; go_loud (refine (kput_all made fl n HI.out.2 z x _ _ _ _ F2.out M2.out NX.out g2' 1 1 (fun _ => i + 1) HK2.out.lt (fun hs => by have := HF.out.lt' g2' hs; have := HG.out; omega) (fun i hi => by obtain rfl : i = 0 := (by omega); exact HK2.out.cell 0) (by decide) (fun _ _ => by have := HI.out; omega) (fun i k hi hk _ => by omega) q (mx * wide v) l (by have := HL.out; have := H1.out; omega) (by have := HL.out; have := HV.out; omega) (by have := HQ.out; omega) HZ.out.1 (by have := HZ.out.2; have := HL.out; omega)).mono ?_); rintro e w3 ⟨rfl, S3, p3, hp3, hk3⟩; have HP3 := Lib.hid hp3; have HK3 := Lib.hid hk3; clear hp3 hk3))
  go_ret
  refine ⟨rfl, S3, ?_⟩
  have hks := HK3.out.after (S0 := S) (keeps_grow B2.out)
  refine (congrArg (fun pp => KS w S bm ⟨made, fl, rng 0 n (zq z q l pp)⟩ S3 w3) (funext fun r => ?_)).mp hks
  have e := HP3.out r
  have hi := HI.out
  show p3 r = pU 6 i n r
  rw [Bool.eq_iff_iff, e]
  simp only [pU, decide_eq_true_eq]
  constructor
  · rintro ⟨t, ht, rfl⟩; exact ⟨by omega, by omega, .inr (.inr (by omega))⟩
  · rintro ⟨h1, h2, h3⟩; exact ⟨0, by omega, by omega⟩
end
end Go.Proofs.Ythilkgfbaddjpaa
