/-
  Layer 12: the law RingOrder, walked.
-/
import Derived.Test.YtdihlmhipkcedaaGHeld
namespace Go.Proofs.Ytdihlmhipkcedaa
open Go Go.RowKit Go.Maps
set_option linter.unusedVariables false
set_option linter.unusedSimpArgs false
set_option maxRecDepth 100000
/-- The texts of the argument. -/
def TextsAt (w : World) (A : Option Addr) (n : Nat) : Prop := ∀ i, i < n → ∃ (b off : Nat) (ss : ByteArray), A = some ⟨b, off, none⟩ ∧ b < w.heap.size ∧ w.cell? ⟨b, off + i, none⟩ = some (.string ss)
theorem told_put (s : RSt) (l : List UInt8) : told (s.put l).rs = told s.rs ++ [bstr l] := by
  show told (s.rs ++ [_]) = _
  rw [told_snoc, if_pos rfl]
theorem strs_keep {w w' : World} {B : Nat} {V : Value} {L : List ByteArray} {S : Nat → Prop} (h : Strs w B V L) (k : Keeps S w w') (hS : ∀ b, V.ownBlock = some b → ¬ S b) : Strs w' B V L :=
  ownsRow_block h fun g hg => k.block g (by obtain ⟨_, cs, hc⟩ := strs_own h hg; exact hc.lt) (hS g hg)
/-- Between two rounds: k texts were put out. -/
structure OI (w0 : World) (p : RPar) (k : Nat) (V : Value) (s : RSt) (T : Nat → Prop) (w : World) : Prop where
  gb : GB w0.heap.size w0 p s T w
  fail : s.m.fail = 0
  made : s.m.made ≤ k
  subs : ∀ r, r ∈ s.rs → r.state ≠ 0
  want : Strs w w0.heap.size V (told s.rs)
  apart : ∀ b, V.ownBlock = some b → ¬ ownB p T b
  len : (told s.rs).length ≤ k
section
variable {w0 w w' : World} {p : RPar} {k : Nat} {V : Value} {s : RSt} {T : Nat → Prop}
/-- Nothing was put out. -/
theorem OI.skip (h : OI w0 p k V s T w) (g : GB w0.heap.size w0 p s T w') (kk : Keeps (fun _ => False) w w') : OI w0 p (k + 1) V s T w' :=
  ⟨g, h.fail, Nat.le_succ_of_le h.made, h.subs, strs_keep h.want kk (fun _ _ h => h), h.apart, Nat.le_succ_of_le h.len⟩
/-- A text was put out; it is wanted. -/
theorem OI.add (h : OI w0 p k V s T w) (hk : k ≤ 200) (l : List UInt8) (ht : To w0.heap.size w0 p T w (s.put l) w') : ∃ T', (∃ A c, V = .slice A (told s.rs).length c) ∧ 
    ∃ V' w2, (∀ ty, (Builtin.append_ #[strsT, strsT] ty #[V, .slice (some ⟨w'.heap.size, 0, none⟩) 1 1]).run Try.prog (w'.alloc (.cells #[.string (bstr l)] strT)) = .ok V' w2) ∧ OI w0 p (k + 1) V' (s.put l) T' w2 := by
  obtain ⟨T', g, kk, he⟩ := ht
  have hrow := strs_keep h.want kk h.apart
  have hVT' : ∀ b, V.ownBlock = some b → ¬ ownB p T' b := by
    intro b hb hx
    obtain ⟨_, cs, hc⟩ := strs_own h.want hb
    rcases he b hx with h1 | h1
    · exact h.apart b hb h1
    · have := hc.lt; omega
  obtain ⟨V', w2, h1, h2, h3, h4⟩ := append_one (bstr l) g.sz hrow (by have := h.len; omega)
  refine ⟨T', strs_shape h.want, V', w2, h1, ?_⟩
  have hb3 : Keeps (fun b => w0.heap.size ≤ b ∧ ¬ ownB p T' b) w' w2 := h3.mono fun b hb => ⟨(strs_own hrow hb).1, hVT' b hb⟩
  obtain ⟨bs, N, D, hr⟩ := g.ring
  have hr2 := hr.keeps hb3 (fun b hb hx => hx.2 hb)
  rw [← told_put] at h2
  refine ⟨⟨⟨bs, N, D, hr2⟩, g.ok, g.base, g.below.trans (hb3.below (fun b hb => hb.1) g.sz), Nat.le_trans g.sz hb3.size⟩, ?_, ?_, ?_, h2, ?_, ?_⟩
  · show (s.m.fail - 1) = 0
    rw [h.fail]
  · show s.m.made + 1 ≤ k + 1
    have := h.made; omega
  · intro r hr'
    rcases List.mem_append.1 hr' with hr' | hr'
    · exact h.subs r hr'
    · obtain rfl : r = ⟨s.m.made + 1, l.length, 1, l⟩ := by simpa using hr'
      exact Nat.one_ne_zero
  · intro b hb hx
    rcases h4 b hb with h5 | h5
    · exact hVT' b h5 hx
    · have := g.ring.lt b hx; omega
  · rw [told_put, List.length_append]
    have := h.len
    simp only [List.length_cons, List.length_nil]
    omega
theorem OI.drain (h : OI w0 p k V s T w) : Calls Try.prog 11 #[rp p.x] w fun e w' => ∃ A c f, e = .returned (.slice A (told s.rs).length c) ∧ RowS w' A (told s.rs) ∧ GB w0.heap.size w0 p ⟨s.m, f, []⟩ T w' ∧ (∃ A2 c2, V = .slice A2 (told s.rs).length c2 ∧ RowS w' A2 (told s.rs)) := by
  refine (drain_any h.gb.ring h.gb.ok).mono ?_
  rintro e w' ⟨V', rfl, hd⟩
  obtain ⟨hs, hk, f', hg⟩ := h.gb.drained_all hd h.subs
  obtain ⟨A, c, rfl, hrow⟩ := strs_row hs
  obtain ⟨A2, c2, rfl, hrow2⟩ := strs_row (strs_keep h.want hk (fun b hb hx => by
    obtain ⟨_, cs, hc⟩ := strs_own h.want hb
    rcases hx with rfl | hx
    · exact h.apart _ hb (.inr (.inl rfl))
    · have := hc.lt; omega))
  exact ⟨A, c, f', rfl, hrow, hg, A2, c2, rfl, hrow2⟩
theorem bare_drain {B : Nat} {m : PS} {f : Nat} (h : GB B w0 p ⟨m, f, []⟩ T w) : Calls Try.prog 11 #[rp p.x] w fun e w' => ∃ A c f', e = .returned (.slice A 0 c) ∧ GB B w0 p ⟨m, f', []⟩ T w' := by
  refine (drain_any h.ring h.ok).mono ?_
  rintro e w' ⟨V', rfl, hd⟩
  obtain ⟨hs, hk, f', hg⟩ := h.drained_all hd (fun r hr => by cases hr)
  obtain ⟨A, c, hV⟩ := strs_shape hs
  exact ⟨A, c, f', by rw [hV]; rfl, hg⟩
end
set_option maxHeartbeats 4000000 in
theorem order_walk (A : Option Addr) (n c : Nat) (hn : n ≤ maxLen) (w : World) (hA : TextsAt w A n) : Calls Try.prog 3 #[.slice A n c] w fun e w' => e = .returned (.bool true) ∧ Below w.heap.size w w' := by
  have C0 := Lib.hid (new_any w)
  have CN := Lib.hid (gb_new w 4096 (.inr (.inr rfl)))
  have HA := Lib.hid hA
  have hn' : (n : Int) ≤ 9223372036854775807 := by unfold maxLen at hn; omega
  clear hA hn
  go_enter Try.func3, Try.ntmps3
  go_upto_region 5 with (first
    | (go_at_call 6; refine C0.out.mono ?_; rintro e w1 ⟨rfl, rfl⟩)
    | (go_at_call 7; refine CN.out.mono ?_; rintro e w2 ⟨x, g, mb, rfl, hf⟩; have F := Lib.hid hf; clear hf))
  clear C0 CN
  generalize hp : (⟨w.heap.size, x, g, mb, 4096⟩ : RPar) = p at F
  have hm : p.mx = 4096 := by rw [← hp]
  have hx : x = p.x := by rw [← hp]
  have HM := Lib.hid hm
  clear hm hp
  subst hx
  have HS : Hid (OI w p 0 (.slice none 0 0) A0 (fun b => b = w.heap.size) w2) := ⟨F.out, rfl, Nat.le_refl _, (fun r hr => by cases hr), World.ownsRow_nil _ _ _ _, (fun b hb => by cases hb), Nat.le_refl _⟩
  clear F
  go_wp2_with fail
  go_loopw [6, 7] (fun V i wr => ∃ k : Nat, k ≤ n ∧ k ≤ 100 ∧ i = .int .i64 k ∧ ∃ s T, OI w p k V s T wr) (fun _ i _ => 100 - (intOf i).toNat)
  case atStart => exact ⟨0, by omega, by omega, rfl, _, _, HS.out⟩
  case round =>
    clear HS
    obtain ⟨k, hk, hk1, rfl, s, T, hoi⟩ := hrel
    have HOI := Lib.hid hoi
    clear hoi
    by_cases hlt : k < n ∧ k < 100
    · obtain ⟨b, off, v, rfl, hb1, hb2⟩ := HA.out k hlt.1
      have HC : Hid (∀ w', Below w.heap.size w w' → w'.cell? ⟨b, off + k, none⟩ = some (.string v)) := fun w' hb => (hb.cell (p := ⟨b, off + k, none⟩) hb1).trans hb2
      have hc := HC.out wr HOI.out.gb.below
      have g0 : (0 : Int) ≤ (k : Int) := by omega
      have g1 : (k : Int) < (n : Int) := by omega
      have g2 : (k : Int) < 100 := by omega
      have HK := Lib.hid hlt
      clear hlt hb1 hb2
      obtain ⟨AV, cV, rfl⟩ := strs_shape HOI.out.want
      by_cases hv : v.size < 1 ∨ 2048 < v.size
      · have CB := Lib.hid (HOI.out.gb.badArg v (show v.size < 1 ∨ p.mx / 2 < v.size by rw [HM.out]; exact hv))
        by_cases hv1 : v.size < 1
        · have b1 : decide ((0 : Int) < (v.size : Int)) = false := decide_eq_false (by omega)
          have b1' : decide (0 < v.size) = false := decide_eq_false (by omega)
          clear hv hv1
          go_upto_region 11 with (go_at_call 8; refine (CB.out).mono ?_; rintro e w3 ⟨rfl, hg, hk3⟩; have G3 := Lib.hid hg; have O3 := Lib.hid (HOI.out.skip hg hk3); have hc3 := HC.out _ hg.below; clear hg hk3)
          have CU := Lib.hid (fun N => used_any (G3.out.map.drewN N))
          go_quiet ((go_at_call 9; exact Calls.quiet_of_same (CU.out _)))
          go_wp2_with fail
          go_roundw
          case rel => exact ⟨k + 1, by have := HK.out; omega, by have := HK.out; omega, by go_num, _, _, ⟨O3.out.gb.quiet (below_drewN _ _), O3.out.fail, O3.out.made, O3.out.subs, strs_keep O3.out.want (keeps_grow (below_drewN _ _)) (fun _ _ h => h), O3.out.apart, O3.out.len⟩⟩
          case measure => simp [intOf]; omega
        · have b1 : decide ((0 : Int) < (v.size : Int)) = true := decide_eq_true (by omega)
          have b1' : decide (0 < v.size) = true := decide_eq_true (by omega)
          have b2 : decide ((v.size : Int) ≤ 2048) = false := decide_eq_false (by omega)
          clear hv hv1
          go_upto_region 11 with (go_at_call 8; refine (CB.out).mono ?_; rintro e w3 ⟨rfl, hg, hk3⟩; have G3 := Lib.hid hg; have O3 := Lib.hid (HOI.out.skip hg hk3); have hc3 := HC.out _ hg.below; clear hg hk3)
          have CU := Lib.hid (fun N => used_any (G3.out.map.drewN N))
          go_quiet ((go_at_call 9; exact Calls.quiet_of_same (CU.out _)))
          go_wp2_with fail
          go_roundw
          case rel => exact ⟨k + 1, by have := HK.out; omega, by have := HK.out; omega, by go_num, _, _, ⟨O3.out.gb.quiet (below_drewN _ _), O3.out.fail, O3.out.made, O3.out.subs, strs_keep O3.out.want (keeps_grow (below_drewN _ _)) (fun _ _ h => h), O3.out.apart, O3.out.len⟩⟩
          case measure => simp [intOf]; omega
      · have hv1 : 1 ≤ v.size ∧ v.size ≤ 2048 := by omega
        by_cases hf : 4096 < sumU s.rs + uses v.size
        · have CB := Lib.hid (HOI.out.gb.full v hv1.1 (by rw [HM.out]; omega) (by rw [HM.out]; exact hf))
          have b1 : decide ((0 : Int) < (v.size : Int)) = true := decide_eq_true (by omega)
          have b1' : decide (0 < v.size) = true := decide_eq_true (by omega)
          have b2 : decide ((v.size : Int) ≤ 2048) = true := decide_eq_true (by omega)
          have e7 : Int.tdiv ((v.size : Int) + 7) 8 = (((v.size + 7) / 8 : Nat) : Int) := by rw [Int.tdiv_eq_ediv_of_nonneg (by omega)]; omega
          have hsm : sumU s.rs ≤ 4096 := by have := HOI.out.gb.ok.sum; rw [HM.out] at this; exact this
          have b3 : decide ((sumU s.rs : Nat) + 8 + (((v.size + 7) / 8 : Nat) : Int) * 8 ≤ 4096) = false := decide_eq_false (by unfold uses at hf; omega)
          have hq : (v.size + 7) / 8 ≤ 257 := by omega
          generalize hsu : sumU s.rs = su at b3 hsm
          have HSU := Lib.hid hsu
          have u1 : wrap64 ((v.size : Int) + 7) = (v.size : Int) + 7 := by unfold wrap64; omega
          generalize (v.size + 7) / 8 = q8 at *
          have u2 : wrap64 (q8 : Int) = (q8 : Int) := by unfold wrap64; omega
          have u3 : wrap64 ((q8 : Int) * 8) = (q8 : Int) * 8 := by unfold wrap64; omega
          have u4 : wrap64 ((su : Int) + 8 + (q8 : Int) * 8) = (su : Int) + 8 + (q8 : Int) * 8 := by unfold wrap64; omega
          clear hv hv1 hf hsu
          go_upto_region 11 with (go_at_call 8; refine (CB.out).mono ?_; rintro e w3 ⟨rfl, hg, hk3⟩; have G3 := Lib.hid hg; have O3 := Lib.hid (HOI.out.skip hg hk3); have hc3 := HC.out _ hg.below; clear hg hk3)
          have CU := Lib.hid (fun N => used_any (G3.out.map.drewN N))
          rw [HSU.out] at CU
          go_quiet ((go_at_call 9; exact Calls.quiet_of_same (CU.out _)))
          go_wp2_with fail
          go_roundw
          case rel => exact ⟨k + 1, by have := HK.out; omega, by have := HK.out; omega, by go_num, _, _, ⟨O3.out.gb.quiet (below_drewN _ _), O3.out.fail, O3.out.made, O3.out.subs, strs_keep O3.out.want (keeps_grow (below_drewN _ _)) (fun _ _ h => h), O3.out.apart, O3.out.len⟩⟩
          case measure => simp [intOf]; omega
        · obtain ⟨l, rfl⟩ : ∃ l, v = bstr l := ⟨v.data.toList, rfl⟩
          have hsz := bstr_size l
          rw [hsz] at hv1 hf
          have CB := Lib.hid (HOI.out.gb.output (by rw [HOI.out.fail]; exact Nat.zero_ne_one) (by have := HOI.out.made; omega) l hv1.1 (by rw [HM.out]; omega) (by rw [HM.out]; omega))
          have HAD := Lib.hid (fun w' (ht : To w.heap.size w p T wr (s.put l) w') => HOI.out.add (by omega) l ht)
          have HBL : Hid (∀ w' (ht : To w.heap.size w p T wr (s.put l) w'), Below w.heap.size w w') := fun w' ⟨T', g, _⟩ => g.below
          clear hv hv1 hf hsz
          generalize bstr l = v at *
          go_wp2_with (first
            | (go_at_call 8; refine CB.out.mono ?_; rintro e w3 ⟨rfl, ht⟩; have hc3 := HC.out _ (HBL.out _ ht); obtain ⟨T', _, V', w4, hrun, hoi'⟩ := HAD.out _ ht; obtain ⟨A', c', rfl⟩ := strs_shape hoi'.want; have HO' := Lib.hid hoi'; have HR := Lib.hid hrun; clear ht hoi' hrun)
            | (at_builtin; refine wpList_append_run rfl (.tmp 38) (.tmp 43) strsT rfl _ (.slice (some ⟨_, 0, none⟩) 1 1) _ w4 rfl rfl HR.out ?_))
          go_roundw
          case rel => exact ⟨k + 1, by have := HK.out; omega, by have := HK.out; omega, by go_num, _, _, HO'.out⟩
          case measure => simp [intOf]; omega
    · obtain ⟨A2, c2, rfl⟩ := strs_shape HOI.out.want
      have CD : Hid (Calls Try.prog 11 #[rp p.x] wr fun e w' => ∃ A c f, e = .returned (.slice A (told s.rs).length c) ∧ RowS w' A (told s.rs) ∧ GB w.heap.size w p ⟨s.m, f, []⟩ T w' ∧ RowS w' A2 (told s.rs)) := by
        refine HOI.out.drain.mono ?_
        rintro e w' ⟨A, c, f, rfl, h1, h2, A3, c3, h3, h4⟩
        injection h3 with e1 e2 e3
        subst e1
        exact ⟨A, c, f, rfl, h1, h2, h4⟩
      have CT : Hid (∀ w' A c A' c', RowS w' A (told s.rs) → RowS w' A' (told s.rs) → Calls Try.prog 10 #[.slice A (told s.rs).length c, .slice A' (told s.rs).length c'] w' fun e w'' => e = .returned (.bool true) ∧ Below w'.heap.size w' w'') :=
        fun w' A c A' c' h1 h2 => texts_same h1 h2 (by have := HOI.out.len; omega)
      by_cases hkn : k < n
      · have g1 : (k : Int) < (n : Int) := by omega
        have hk2 : k = 100 := by omega
        subst hk2
        clear hlt
        generalize (told s.rs).length = tn at *
        go_wp2_with (first
          | (go_at_call 11; refine (bare_drain B2.out).mono ?_; rintro e w5 ⟨A5, c5, f5, rfl, hb⟩; have B5 := Lib.hid hb; clear hb)
          | (go_at_call 11; refine CD.out.mono ?_; rintro e w3 ⟨A3, c3, f3, rfl, r3, g3, r4⟩; have R3 := Lib.hid r3; have R4 := Lib.hid r4; have G3 := Lib.hid g3; clear r3 r4 g3)
          | (go_at_call 10; refine (CT.out _ _ _ _ _ R3.out R4.out).mono ?_; rintro e w4 ⟨rfl, hb⟩; have B2 := Lib.hid (G3.out.quiet hb); clear hb)
          | (go_at_call 9; refine (a_used _ _ B5.out).mono ?_; rintro e w6 ⟨rfl, hw⟩; obtain rfl := hw.symm)
          | (go_at_call 12; refine (awake_later B5.out.below B5.out.sz).mono ?_; rintro e w11 ⟨rfl, hb⟩; have B11 := Lib.hid hb; clear hb))
        go_ret
        exact ⟨rfl, B11.out⟩
      · have hk2 : k = n := by omega
        subst hk2
        clear hlt hkn
        generalize (told s.rs).length = tn at *
        go_wp2_with (first
          | (go_at_call 11; refine (bare_drain B2.out).mono ?_; rintro e w5 ⟨A5, c5, f5, rfl, hb⟩; have B5 := Lib.hid hb; clear hb)
          | (go_at_call 11; refine CD.out.mono ?_; rintro e w3 ⟨A3, c3, f3, rfl, r3, g3, r4⟩; have R3 := Lib.hid r3; have R4 := Lib.hid r4; have G3 := Lib.hid g3; clear r3 r4 g3)
          | (go_at_call 10; refine (CT.out _ _ _ _ _ R3.out R4.out).mono ?_; rintro e w4 ⟨rfl, hb⟩; have B2 := Lib.hid (G3.out.quiet hb); clear hb)
          | (go_at_call 9; refine (a_used _ _ B5.out).mono ?_; rintro e w6 ⟨rfl, hw⟩; obtain rfl := hw.symm)
          | (go_at_call 12; refine (awake_later B5.out.below B5.out.sz).mono ?_; rintro e w11 ⟨rfl, hb⟩; have B11 := Lib.hid hb; clear hb))
        go_ret
        exact ⟨rfl, B11.out⟩
end Go.Proofs.Ytdihlmhipkcedaa
