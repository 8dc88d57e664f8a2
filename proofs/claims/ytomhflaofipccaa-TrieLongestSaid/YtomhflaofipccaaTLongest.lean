/-
  The law TrieLongest, walked.
-/
import Derived.Test.YtomhflaofipccaaTLongP
import Derived.Test.YtomhflaofipccaaP17
import Derived.Test.YtomhflaofipccaaTForms
namespace Go.Proofs.Ytomhflaofipccaa
open Go Go.RowKit Go.Maps
set_option linter.unusedVariables false
set_option linter.unusedSimpArgs false
set_option maxRecDepth 100000
theorem and1_u8 : ∀ y : Fin 256, bits BinOp.and IntKind.u8 ((y.val : Nat) : Int) 1 = ((y.val % 2 : Nat) : Int) := by decide +kernel
theorem tst_val (x r : Nat) (h : x < 256) : bits BinOp.and IntKind.u8 ((x : Int) / 2 ^ r) 1 = if x.testBit r then 1 else 0 := by
  have h2 : x / 2 ^ r < 256 := Nat.lt_of_le_of_lt (Nat.div_le_self _ _) h
  have := and1_u8 ⟨_, h2⟩
  simp only [Int.natCast_ediv, Int.natCast_pow, Int.cast_ofNat_Int] at this
  rw [this, Nat.testBit_eq_decide_div_mod_eq]
  rcases Nat.mod_two_eq_zero_or_one (x / 2 ^ r) with h | h <;> simp [h]
theorem tst_eq (x y r : Nat) (h : x < 256) (h2 : y < 256) : (bits BinOp.and IntKind.u8 ((x : Int) / 2 ^ r) 1 == bits BinOp.and IntKind.u8 ((y : Int) / 2 ^ r) 1) = true ↔ x.testBit r = y.testBit r := by
  rw [tst_val _ _ h, tst_val _ _ h2]
  cases x.testBit r <;> cases y.testBit r <;> simp
/-- The bits of two texts, as far as they were looked at. -/
def AgS (s a : ByteArray) (t : Nat) : Prop := ∀ j, j < t → (byt s (j / 8)).testBit (7 - j % 8) = (byt a (j / 8)).testBit (7 - j % 8)
theorem AgS.agree {s a : ByteArray} {n : Nat} : AgS s a n ↔ Agree (keyV n s) (keyV 32 a) n := by
  unfold AgS Agree bitB
  constructor
  · intro h j hj
    rw [keyV_byt, keyV_byt, if_neg (by omega), if_neg (by omega), show 4 + j / 8 - 4 = j / 8 by omega]
    exact h j hj
  · intro h j hj
    have := h j hj
    rw [keyV_byt, keyV_byt, if_neg (by omega), if_neg (by omega), show 4 + j / 8 - 4 = j / 8 by omega] at this
    exact this
theorem AgS.step {s a : ByteArray} {t : Nat} {b : Bool} (h : b = true ↔ AgS s a t) (c : Bool) (hc : c = true ↔ (byt s (t / 8)).testBit (7 - t % 8) = (byt a (t / 8)).testBit (7 - t % 8)) : (b && c) = true ↔ AgS s a (t + 1) := by
  rw [Bool.and_eq_true, h, hc]
  constructor
  · rintro ⟨h1, h2⟩ j hj
    rcases Nat.lt_or_ge j t with hlt | hge
    · exact h1 j hlt
    · obtain rfl : j = t := by omega
      exact h2
  · intro h1
    exact ⟨fun j hj => h1 j (by omega), h1 t (by omega)⟩
theorem AgS.next {s a : ByteArray} {t : Nat} (h : true = true ↔ AgS s a t) (hs : t / 8 < s.size) (ha : t / 8 < a.size) :
    (bits BinOp.and IntKind.u8 ((s[t / 8].toNat : Int) / 2 ^ (7 - t % 8)) 1 == bits BinOp.and IntKind.u8 ((a[t / 8].toNat : Int) / 2 ^ (7 - t % 8)) 1) = true ↔ AgS s a (t + 1) := by
  have := AgS.step h _ (by rw [get_byt, get_byt]; exact tst_eq _ _ (7 - t % 8) (byt_lt s _) (byt_lt a _) : (bits BinOp.and IntKind.u8 ((s[t / 8].toNat : Int) / 2 ^ (7 - t % 8)) 1 == bits BinOp.and IntKind.u8 ((a[t / 8].toNat : Int) / 2 ^ (7 - t % 8)) 1) = true ↔ _)
  rw [Bool.true_and] at this
  exact this
theorem AgS.nextq {s a : ByteArray} {t q r : Nat} (h : true = true ↔ AgS s a t) (hq : t / 8 = q) (hr : t % 8 = r) (hs : q < s.size) (ha : q < a.size) :
    (bits BinOp.and IntKind.u8 ((s[q].toNat : Int) / 2 ^ (7 - r)) 1 == bits BinOp.and IntKind.u8 ((a[q].toNat : Int) / 2 ^ (7 - r)) 1) = true ↔ AgS s a (t + 1) := by
  subst hq hr
  exact AgS.next h hs ha
theorem longest_size (A : Option Addr) (len cap : Nat) (A2 : Option Addr) (len2 cap2 : Nat) (at_ : ByteArray) (hs : at_.size ≠ 4) (w : World) :
    Calls Try.prog 3 #[.slice A len cap, .slice A2 len2 cap2, .string at_] w fun e w' => e = .returned (.bool true) ∧ Below w.heap.size w w' := by
  have h1 : ((at_.size : Int) != 4) = true := by simp; omega
  go_enter Try.func3, Try.ntmps3
  go_wp2_with (go_at_call 6; refine (awake_any _).mono ?_; rintro e w1 ⟨rfl, hb⟩; have B1 := Lib.hid hb; clear hb)
  go_ret
  exact ⟨rfl, B1.out⟩
/-- The memory is read; it stays in its place. -/
theorem TB.read1 {B : Nat} {w0 w : World} {p : HPar} {s : HSt} (h : TB B w0 p s w) (n m : Nat) (hn : n ≤ 4294967295) (hm : m ≤ 32) (hv : s.m.vs n = some (3, wb m 1, false)) :
    Calls Try.prog 13 #[tp p.bm, .int .u64 (addr n 0), .int .i64 1] w fun e w' => e = .returned (.tuple #[.int .u64 m, .int .i64 0]) ∧ Below B w0 w' ∧ B ≤ w'.heap.size := by
  obtain ⟨P, h1, h2, h3, h4⟩ := h
  obtain ⟨S, ⟨st, rl, mv, rv, hk, hst⟩, hS⟩ := h1.side
  obtain ⟨r, hr, hq⟩ := st_some hst hv
  have hb : r.bytes = wb m 1 := congrArg (fun q => q.2.1) hq
  have hp : r.perm = 3 := congrArg (fun q => q.1) hq
  have := read_ok hk n 0 hn (by decide) 1 (.inl rfl) hr (by rw [hp]; decide) (by rw [hb, wb_length]; decide)
  refine this.mono ?_
  rintro e w' ⟨rfl, g, hg⟩
  have kk := hg.2.1
  have hle : le ((r.bytes.drop 0).take 1) = m := by
    rw [hb]
    have : wb m 1 = [UInt8.ofNat m] := by simp [wb]
    rw [this]
    simp [le]
    omega
  exact ⟨by rw [hle], h3.trans (kk.below (fun b hb => h2 b (hS b hb)) h4), Nat.le_trans h4 kk.size⟩
set_option maxHeartbeats 8000000 in
theorem longest_ok (A : Option Addr) (len cap : Nat) (zs : Nat → Int) (A2 : Option Addr) (len2 cap2 : Nat) (at_ : ByteArray) (hs : at_.size = 4) (w : World) (hlc : cap ≤ 9223372036854775807) (hlc2 : cap2 ≤ 9223372036854775807) (hl1 : len ≤ cap) (hl2 : len2 ≤ cap2)
    (hA : 0 < len → ∃ ad : Addr, A = some ad ∧ ad.block < w.heap.size ∧ ∀ i, i < len → w.cell? (ad.add i) = some (.int .i64 (zs i)))
    (hA2 : ∀ i, i < len2 → ∃ (b off : Nat) (ss : ByteArray), A2 = some ⟨b, off, none⟩ ∧ b < w.heap.size ∧ w.cell? ⟨b, off + i, none⟩ = some (.string ss)) :
    Calls Try.prog 3 #[.slice A len cap, .slice A2 len2 cap2, .string at_] w fun e w' => e = .returned (.bool true) ∧ Below w.heap.size w w' := by
  have h1 : ((at_.size : Int) != 4) = false := by simp; omega
  have C0 := Lib.hid (new_any w)
  have CN := Lib.hid (tb_new w 11 8 1 60 (by decide))
  have HKK : Hid (IsKey 8 (keyV 32 at_) ∧ lenB (keyV 32 at_) = 32) := by
    have h2 := keyV_len 32 at_ (by decide)
    exact ⟨⟨by rw [keyV_size, hs], by rw [h2]; decide⟩, h2⟩
  have HKA := Lib.hid (fun W => key_any 32 at_ (by decide) (by omega) W)
  have HSZ := Lib.hid hs
  have HA := Lib.hid hA
  have HA2 := Lib.hid hA2
  have HG0 : Hid (∀ x : Nat, LG ⟨w.heap.size, 0, x, 0, 11, 8, 1, 60⟩ (keyV 32 at_) ⟨⟨0, 0, fun _ => none⟩, [], false⟩ 0 (-1)) := fun x =>
    ⟨hok_new (by decide), Nat.le_refl _, Nat.le_refl _, rfl, rfl, fun e he => by simp at he, by decide, by decide, fun _ e he => by simp at he, fun h => by omega⟩
  clear hA hA2 hs
  go_enter Try.func3, Try.ntmps3
  go_wp2_with (first
    | (go_at_call 7; refine C0.out.mono ?_; rintro e w1 ⟨rfl, rfl⟩)
    | (go_at_call 8; refine CN.out.mono ?_; rintro e w2 ⟨x, rfl, hf⟩; have F := Lib.hid hf; clear hf))
  clear C0 CN
  go_loopw [10, 11] (fun b i wr => ∃ (j : Nat) (s : HSt) (best : Int), i = .int .i64 j ∧ j ≤ 60 ∧ b = .int .i64 best ∧ LG ⟨w.heap.size, 0, x, 0, 11, 8, 1, 60⟩ (keyV 32 at_) s j best ∧ TB w.heap.size w ⟨w.heap.size, 0, x, 0, 11, 8, 1, 60⟩ s wr) (fun _ i _ => 60 - (intOf i).toNat)
  case atStart => exact ⟨0, _, -1, rfl, by omega, rfl, HG0.out x, F.out⟩
  case round =>
    clear F HG0
    obtain ⟨j, s, best, rfl, hj, rfl, hg, hT⟩ := hrel
    have HT := Lib.hid hT; have HG := Lib.hid hg
    clear hT hg
    by_cases c1 : j < len
    · have g1 : decide (j < len) = true := decide_eq_true c1
      by_cases c2 : j < len2
      · have g2 : decide (j < len2) = true := decide_eq_true c2
        by_cases c3 : j < 60
        · have g3 : decide ((j : Int) < 60) = true := decide_eq_true (by omega)
          obtain ⟨ad, rfl, hadb, hadc⟩ := HA.out (by omega)
          obtain ⟨b, off, ss, rfl, hbw, hbc⟩ := HA2.out j c2
          obtain ⟨m, hm, hcl⟩ := clampE (zs j)
          have i1 : (j : Int) < (len : Int) := by omega
          have i2 : (j : Int) < (len2 : Int) := by omega
          have HC : Hid (∀ W, TB w.heap.size w ⟨w.heap.size, 0, x, 0, 11, 8, 1, 60⟩ s W → True) := fun _ _ => trivial
          have HCB : Hid (∀ (W : World) (hb : Below w.heap.size w W), W.cell? ⟨b, off + j, none⟩ = some (.string ss)) := fun W hb => (hb.cell (p := ⟨b, off + j, none⟩) hbw).trans hbc
          have t0 : wr.cell? (ad.add j) = some (.int .i64 (zs j)) := (HT.out.below.cell (p := ad.add j) (by rw [block_add]; exact hadb)).trans (hadc j c1)
          have t1 := HCB.out wr HT.out.below
          have C3 := Lib.hid c3
          clear HA HA2 hadb hadc hbw hbc c1 c2 c3 HC
          by_cases hz : ss.size = 4
          · have g4 : ((ss.size : Int) != 4) = false := by simp; omega
            have HZ := Lib.hid hz
            have HKY := Lib.hid (fun W => key_any m ss (by omega) (by omega) W)
            have HLE := Lib.hid (fun W => le_any m 1 (by omega) (by decide) W)
            have e8 : IntKind.u64.wrap (m : Int) = (m : Int) := IntWalk.u64_in _ (by omega)
            clear hz
            go_upto_region 15 with (first
              | (go_at_call 10; refine (HKY.out _).mono ?_; rintro e w3 ⟨rfl, hq⟩; have G3 := Lib.hid (HT.out.quiet hq); clear hq)
              | (go_at_call 11; refine (HLE.out _).mono ?_; rintro e w4 ⟨rfl, hq⟩; have G4 := Lib.hid (G3.out.quiet hq); clear hq)
              | (go_at_call 9; refine (G4.out.upd HG.out.ok (by have := HG.out.made; omega) (keyV m ss) (bstr (wb m 1)) 0).mono ?_; rintro e w5 ⟨rfl, h5⟩; rw [(long_step HG.out rfl rfl rfl C3.out m hm ss HZ.out (ok := decide (Agree (keyV m ss) (keyV 32 at_) m)) (by simp)).1]; have G5 := Lib.hid h5; clear h5))
            have hls := fun ok (hok : ok = true ↔ AgS ss at_ m) => (long_step HG.out rfl rfl rfl C3.out m hm ss HZ.out (ok := ok) (by rw [hok]; exact AgS.agree)).2
            generalize updS _ s (keyV m ss) (bstr (wb m 1)) 0 = s' at *
            have HLS := Lib.hid hls
            clear hls G3 G4 t0 t1 HG HT
            go_wp2_with fail
            go_loopw [13, 14] (fun ok k wr => ∃ (t : Nat) (bb : Bool), k = .int .i64 t ∧ t ≤ m ∧ ok = .bool bb ∧ (bb = true ↔ AgS ss at_ t) ∧ TB w.heap.size w ⟨w.heap.size, 0, x, 0, 11, 8, 1, 60⟩ s' wr) (fun _ k _ => m - (intOf k).toNat)
            case atStart => exact ⟨0, true, rfl, by omega, rfl, ⟨fun _ j hj => by omega, fun _ => rfl⟩, G5.out⟩
            case round =>
              clear G5
              obtain ⟨t, bb, rfl, ht, rfl, hbb, hT5⟩ := hrel
              have HT5 := Lib.hid hT5; have HBB := Lib.hid hbb
              clear hT5 hbb
              have u1 := HCB.out wr HT5.out.below
              by_cases htm : t < m
              · have g5 : decide (t < m) = true := decide_eq_true htm
                cases bb
                · have HST : Hid (false = true ↔ AgS ss at_ (t + 1)) := by
                    unfold Hid
                    have := AgS.step HBB.out (decide ((byt ss (t / 8)).testBit (7 - t % 8) = (byt at_ (t / 8)).testBit (7 - t % 8))) (by simp)
                    simpa using this
                  go_wp2_with fail
                  go_quiet (fail)
                  go_wp2_with fail
                  go_roundw
                  case rel => exact ⟨t + 1, false, by go_num, by omega, rfl, HST.out, HT5.out.quiet ((Keeps.refl _ wr).drewN' _)⟩
                  case measure => simp [intOf]; omega
                · have b1 : t / 8 < ss.size := by have := HZ.out; omega
                  have b2 : t / 8 < at_.size := by have := HSZ.out; omega
                  have HST := Lib.hid (AgS.next HBB.out b1 b2)
                  obtain ⟨q, hq⟩ : ∃ q, t / 8 = q := ⟨_, rfl⟩
                  obtain ⟨r, hr⟩ : ∃ r, t % 8 = r := ⟨_, rfl⟩
                  have hr8 : r < 8 := by omega
                  have b1 : q < ss.size := by have := HZ.out; omega
                  have b2 : q < at_.size := by have := HSZ.out; omega
                  have HST := Lib.hid (AgS.nextq HBB.out hq hr b1 b2)
                  have e81 : (t : Int) / 8 = (q : Int) := by omega
                  have e82 : (t : Int) % 8 = (r : Int) := by omega
                  have f1 : IntKind.i64.wrap (q : Int) = (q : Int) := IntWalk.i64_in _ (by omega)
                  have f2 : IntKind.i64.wrap (r : Int) = (r : Int) := IntWalk.i64_in _ (by omega)
                  have f3 : IntKind.i64.wrap (7 - (r : Int)) = ((7 - r : Nat) : Int) := by rw [IntWalk.i64_in _ (by omega)]; omega
                  have f4 : IntKind.u64.wrap ((7 - r : Nat) : Int) = ((7 - r : Nat) : Int) := IntWalk.u64_in _ (by omega)
                  have f5 : (q : Int) < (ss.size : Int) := by omega
                  have f6 : (q : Int) < (at_.size : Int) := by omega
                  have f7 : (0 : Int) ≤ (q : Int) := by omega
                  have i2' : (j : Int) < (len2 : Int) := i2
                  clear hq hr
                  go_wp2_with fail
                  go_quiet (fail)
                  go_wp2_with fail
                  go_roundw
                  case rel => exact ⟨t + 1, _, by go_num, by omega, rfl, HST.out, HT5.out.quiet ((Keeps.refl _ wr).drewN' _)⟩
                  case measure => simp [intOf]; omega
              · obtain rfl : t = m := by omega
                have g5 : decide (t < t) = false := by simp
                have HL2 := Lib.hid (HLS.out bb HBB.out)
                cases bb
                · go_wp2_with fail
                  go_roundw
                  case rel => exact ⟨j + 1, s', best, by go_num, by have := C3.out; omega, rfl, HL2.out, HT5.out⟩
                  case measure => simp [intOf]; have := C3.out; omega
                · go_wp2_with fail
                  go_roundw
                  case rel => exact ⟨j + 1, s', max best (t : Int), by go_num, by have := C3.out; omega, rfl, HL2.out, HT5.out⟩
                  case measure => simp [intOf]; have := C3.out; omega
          · have g4 : ((ss.size : Int) != 4) = true := by simp; omega
            go_wp2_with fail
            go_roundw
            case rel => exact ⟨j + 1, s, best, by go_num, by have := C3.out; omega, rfl, HG.out.mono, HT.out⟩
            case measure => simp [intOf]; have := C3.out; omega
        · have g3 : decide ((j : Int) < 60) = false := decide_eq_false (by omega)
          clear c1 c2 c3 HA HA2
          have hend := long_end HG.out HKK.out.1 HKK.out.2
          by_cases hb : best < 0
          · have g9 : decide (best < 0) = true := decide_eq_true hb
            have HE := Lib.hid (hend.1 hb)
            clear hend hb
            go_wp2_with (first
              | (go_at_call 10; refine (HKA.out _).mono ?_; rintro e w5 ⟨rfl, hq⟩; have H5 := Lib.hid (HT.out.quiet hq); clear hq)
              | (go_at_call 12; refine (H5.out.look HG.out.ok (keyV 32 at_)).mono ?_; rintro e w6 ⟨rfl, h6⟩; rw [HE.out]; have H6 := Lib.hid h6; clear h6)
              | (go_at_call 6; refine (awake_later H6.out.below H6.out.sz).mono ?_; rintro e w7 ⟨rfl, hb⟩; have B7 := Lib.hid hb; clear hb))
            go_ret
            exact ⟨rfl, B7.out⟩
          · have g9 : decide (best < 0) = false := decide_eq_false hb
            obtain ⟨e, he, hla, hvs, hn1, hn2⟩ := hend.2 (by omega)
            have hhi := HG.out.hi
            obtain ⟨bn, rfl⟩ := Int.eq_ofNat_of_zero_le (show 0 ≤ best by omega)
            rw [show ((bn : Nat) : Int).toNat = bn from rfl] at hvs
            have HE := Lib.hid hla
            have HRD := Lib.hid (fun W (h : TB w.heap.size w ⟨w.heap.size, 0, x, 0, 11, 8, 1, 60⟩ s W) => h.read1 e.n bn (by omega) (by omega) hvs)
            have hbn : bn ≤ 32 := by omega
            have g8 : IntKind.i64.wrap (bn : Int) = (bn : Int) := IntWalk.i64_in _ (by omega)
            clear hend hb he hla hvs hn1 hn2 hhi
            generalize addr e.n 0 = aa at *
            go_wp2_with (first
              | (go_at_call 10; refine (HKA.out _).mono ?_; rintro e w5 ⟨rfl, hq⟩; have H5 := Lib.hid (HT.out.quiet hq); clear hq)
              | (go_at_call 12; refine (H5.out.look HG.out.ok (keyV 32 at_)).mono ?_; rintro e w6 ⟨rfl, h6⟩; rw [HE.out]; have H6 := Lib.hid h6; clear h6)
              | (go_at_call 13; refine (HRD.out _ H6.out).mono ?_; rintro e w8 ⟨rfl, hb8⟩; have B8 := Lib.hid hb8; clear hb8)
              | (go_at_call 6; refine (awake_later B8.out.1 B8.out.2).mono ?_; rintro e w7 ⟨rfl, hb⟩; have B7 := Lib.hid hb; clear hb))
            go_ret
            exact ⟨rfl, B7.out⟩
      · have g2 : decide (j < len2) = false := decide_eq_false c2
        clear c1 c2 HA HA2
        have hend := long_end HG.out HKK.out.1 HKK.out.2
        by_cases hb : best < 0
        · have g9 : decide (best < 0) = true := decide_eq_true hb
          have HE := Lib.hid (hend.1 hb)
          clear hend hb
          go_wp2_with (first
            | (go_at_call 10; refine (HKA.out _).mono ?_; rintro e w5 ⟨rfl, hq⟩; have H5 := Lib.hid (HT.out.quiet hq); clear hq)
            | (go_at_call 12; refine (H5.out.look HG.out.ok (keyV 32 at_)).mono ?_; rintro e w6 ⟨rfl, h6⟩; rw [HE.out]; have H6 := Lib.hid h6; clear h6)
            | (go_at_call 6; refine (awake_later H6.out.below H6.out.sz).mono ?_; rintro e w7 ⟨rfl, hb⟩; have B7 := Lib.hid hb; clear hb))
          go_ret
          exact ⟨rfl, B7.out⟩
        · have g9 : decide (best < 0) = false := decide_eq_false hb
          obtain ⟨e, he, hla, hvs, hn1, hn2⟩ := hend.2 (by omega)
          have hhi := HG.out.hi
          obtain ⟨bn, rfl⟩ := Int.eq_ofNat_of_zero_le (show 0 ≤ best by omega)
          rw [show ((bn : Nat) : Int).toNat = bn from rfl] at hvs
          have HE := Lib.hid hla
          have HRD := Lib.hid (fun W (h : TB w.heap.size w ⟨w.heap.size, 0, x, 0, 11, 8, 1, 60⟩ s W) => h.read1 e.n bn (by omega) (by omega) hvs)
          have hbn : bn ≤ 32 := by omega
          have g8 : IntKind.i64.wrap (bn : Int) = (bn : Int) := IntWalk.i64_in _ (by omega)
          clear hend hb he hla hvs hn1 hn2 hhi
          generalize addr e.n 0 = aa at *
          go_wp2_with (first
            | (go_at_call 10; refine (HKA.out _).mono ?_; rintro e w5 ⟨rfl, hq⟩; have H5 := Lib.hid (HT.out.quiet hq); clear hq)
            | (go_at_call 12; refine (H5.out.look HG.out.ok (keyV 32 at_)).mono ?_; rintro e w6 ⟨rfl, h6⟩; rw [HE.out]; have H6 := Lib.hid h6; clear h6)
            | (go_at_call 13; refine (HRD.out _ H6.out).mono ?_; rintro e w8 ⟨rfl, hb8⟩; have B8 := Lib.hid hb8; clear hb8)
            | (go_at_call 6; refine (awake_later B8.out.1 B8.out.2).mono ?_; rintro e w7 ⟨rfl, hb⟩; have B7 := Lib.hid hb; clear hb))
          go_ret
          exact ⟨rfl, B7.out⟩
    · have g1 : decide (j < len) = false := decide_eq_false c1
      clear c1 HA HA2
      have hend := long_end HG.out HKK.out.1 HKK.out.2
      by_cases hb : best < 0
      · have g9 : decide (best < 0) = true := decide_eq_true hb
        have HE := Lib.hid (hend.1 hb)
        clear hend hb
        go_wp2_with (first
          | (go_at_call 10; refine (HKA.out _).mono ?_; rintro e w5 ⟨rfl, hq⟩; have H5 := Lib.hid (HT.out.quiet hq); clear hq)
          | (go_at_call 12; refine (H5.out.look HG.out.ok (keyV 32 at_)).mono ?_; rintro e w6 ⟨rfl, h6⟩; rw [HE.out]; have H6 := Lib.hid h6; clear h6)
          | (go_at_call 6; refine (awake_later H6.out.below H6.out.sz).mono ?_; rintro e w7 ⟨rfl, hb⟩; have B7 := Lib.hid hb; clear hb))
        go_ret
        exact ⟨rfl, B7.out⟩
      · have g9 : decide (best < 0) = false := decide_eq_false hb
        obtain ⟨e, he, hla, hvs, hn1, hn2⟩ := hend.2 (by omega)
        have hhi := HG.out.hi
        obtain ⟨bn, rfl⟩ := Int.eq_ofNat_of_zero_le (show 0 ≤ best by omega)
        rw [show ((bn : Nat) : Int).toNat = bn from rfl] at hvs
        have HE := Lib.hid hla
        have HRD := Lib.hid (fun W (h : TB w.heap.size w ⟨w.heap.size, 0, x, 0, 11, 8, 1, 60⟩ s W) => h.read1 e.n bn (by omega) (by omega) hvs)
        have hbn : bn ≤ 32 := by omega
        have g8 : IntKind.i64.wrap (bn : Int) = (bn : Int) := IntWalk.i64_in _ (by omega)
        clear hend hb he hla hvs hn1 hn2 hhi
        generalize addr e.n 0 = aa at *
        go_wp2_with (first
          | (go_at_call 10; refine (HKA.out _).mono ?_; rintro e w5 ⟨rfl, hq⟩; have H5 := Lib.hid (HT.out.quiet hq); clear hq)
          | (go_at_call 12; refine (H5.out.look HG.out.ok (keyV 32 at_)).mono ?_; rintro e w6 ⟨rfl, h6⟩; rw [HE.out]; have H6 := Lib.hid h6; clear h6)
          | (go_at_call 13; refine (HRD.out _ H6.out).mono ?_; rintro e w8 ⟨rfl, hb8⟩; have B8 := Lib.hid hb8; clear hb8)
          | (go_at_call 6; refine (awake_later B8.out.1 B8.out.2).mono ?_; rintro e w7 ⟨rfl, hb⟩; have B7 := Lib.hid hb; clear hb))
        go_ret
        exact ⟨rfl, B7.out⟩
theorem longest_walk (A : Option Addr) (len cap : Nat) (zs : Nat → Int) (hlc : len ≤ cap) (hm : cap ≤ maxLen) (A2 : Option Addr) (len2 cap2 : Nat) (hlc2 : len2 ≤ cap2) (hm2 : cap2 ≤ maxLen) (at_ : ByteArray) (w : World)
    (hA : 0 < len → ∃ ad : Addr, A = some ad ∧ ad.block < w.heap.size ∧ ∀ i, i < len → w.cell? (ad.add i) = some (.int .i64 (zs i)))
    (hA2 : ∀ i, i < len2 → ∃ (b off : Nat) (ss : ByteArray), A2 = some ⟨b, off, none⟩ ∧ b < w.heap.size ∧ w.cell? ⟨b, off + i, none⟩ = some (.string ss)) :
    Calls Try.prog 3 #[.slice A len cap, .slice A2 len2 cap2, .string at_] w fun e w' => e = .returned (.bool true) ∧ Below w.heap.size w w' := by
  by_cases hs : at_.size = 4
  · exact longest_ok A len cap zs A2 len2 cap2 at_ hs w (by unfold maxLen at hm; omega) (by unfold maxLen at hm2; omega) hlc hlc2 hA hA2
  · exact longest_size A len cap A2 len2 cap2 at_ hs w
end Go.Proofs.Ytomhflaofipccaa
