/-
  The reference of layer 14: Live. Two rows of numbers compared.
-/
import Derived.Test.YtmohbdbofehamaaYPin
namespace Go.Proofs.Ytmohbdbofehamaa
open Go Go.RowKit Go.Maps OSt
set_option linter.unusedVariables false
set_option linter.unusedSimpArgs false
set_option maxRecDepth 100000
theorem rowI_yi {base : Nat} {w : World} {V : Value} {L : List Nat} (h : yiR w V L) (hb : ∀ g, V.ownBlock = some g → base ≤ g) : ∃ A c, V = .slice A L.length c ∧ RowI base w A L := by
  rcases yiR_form h with ⟨rfl, rfl⟩ | ⟨g, c, cur, rfl, _, _, hg, hc⟩
  · exact ⟨none, 0, rfl, RowI.nil _ _ _⟩
  · refine ⟨_, c, rfl, fun i u hi => ⟨g, 0, rfl, hb g rfl, hg.lt, ?_, cur, hg⟩⟩
    have h1 := yisC_get 0 hi (by decide)
    rw [Nat.mul_one, Nat.add_zero] at h1
    rw [Nat.zero_add]
    exact hc i _ (h1.trans rfl)
section
variable {y : Nat} {w0 w w' : World} {Q Q0 U : Nat → Prop} {s s' : OSt} {VL VP VL' VP' : Value} {n id f k i : Nat} {fd : Int} {p : ByteArray}
set_option maxHeartbeats 1000000 in
theorem xlive_any (h : YG y w0 Q0 s w) (hn : s.os.length ≤ 100000) : Calls Try.prog 11 #[tp y] w (LivePost w (liveS s)) := by
  obtain ⟨VL, VP, h⟩ := h
  have HO := Lib.hid h.obs
  obtain ⟨A, c, rfl⟩ := yoR_shape h.obs
  have HT : Hid (∀ W, Below w.heap.size w W → W.cell? ⟨y, 0, none⟩ = some (.slice A s.os.length c)) := fun W hb => (hb.cell (p := ⟨y, 0, none⟩) h.tab.lt).trans (h.tab.cell 0)
  obtain ⟨L, hL⟩ : ∃ L, s.os.length = L := ⟨_, rfl⟩
  have HL := Lib.hid hL
  have HN := Lib.hid hn
  rw [hL] at HT
  have c0 := HT.out w (Below.refl _ w)
  clear h hn hL
  unfold LivePost
  go_enter Try.func11, Try.ntmps11
  go_wp2_with fail
  clear c0
  go_loopw [3, 4] (fun V i wr => ∃ (j : Nat) (V0 : Value), V0 = V ∧ i = .int .i64 (j : Int) ∧ j ≤ L ∧ yiR wr V (liveTo s.os j) ∧ (∀ g, V.ownBlock = some g → w.heap.size ≤ g) ∧ Below w.heap.size w wr) (fun _ i _ => L - (Lib.intOf i).toNat)
  case atStart => exact ⟨0, _, rfl, rfl, Nat.zero_le _, World.ownsRow_nil _ _ _ _, fun g hg => (by cases hg), Below.refl _ _⟩
  case round =>
    obtain ⟨j, V, rfl, rfl, hj, hr, hV, hb⟩ := hrel
    have HR := Lib.hid hr
    have HV := Lib.hid hV
    have HB := Lib.hid hb
    have HJ := Lib.hid hj
    have c0 := HT.out wr hb
    have hlen : (liveTo s.os j).length ≤ 100000 := Nat.le_trans (liveTo_le _ _) (by have := HN.out; have := HL.out; omega)
    have HLEN := Lib.hid hlen
    clear hr hV hb hlen
    by_cases hlt : j < L
    · have hjl : j < s.os.length := by rw [HL.out]; exact hlt
      obtain ⟨o, ho⟩ : ∃ o, s.os[j]? = some o := ⟨_, List.getElem?_eq_getElem hjl⟩
      obtain ⟨g, c', hgc, _, _⟩ := yoR_row HO.out (fun e => by rw [e] at hjl; simp at hjl)
      rw [HL.out] at hgc
      cases hgc
      have d0 : w.cell? ⟨g, j * 3 + 2, none⟩ = some (.bool o.there) := yoR_at HO.out ho (by decide) rfl
      have d2 : wr.cell? ⟨g, j * 3 + 2, none⟩ = some (.bool o.there) := (HB.out.cell (p := ⟨g, j * 3 + 2, none⟩) (World.block_lt_of_cell? w _ d0)).trans d0
      have g1 : decide ((j : Int) < (L : Int)) = true := decide_eq_true (by omega)
      have g2 : decide (j < L) = true := decide_eq_true hlt
      have i1 : (j : Int) < (L : Int) := by omega
      have e1 : IntKind.i64.wrap ((j : Int) + 1) = ((j + 1 : Nat) : Int) := by
        have := HN.out; have := HL.out
        rw [IntWalk.i64_in _ (by omega)]; omega
      have HLT := Lib.hid hlt
      have HS : Hid (liveTo s.os (j + 1) = liveTo s.os j ++ (if o.there = true then [j + 1] else [])) := by
        unfold Hid
        rw [liveTo, ho]; rfl
      clear ho hjl hlt hj d0
      cases ht : o.there with
      | false =>
        rw [ht] at d2
        have HS2 : Hid (liveTo s.os (j + 1) = liveTo s.os j) := by have := HS.out; rw [ht] at this; unfold Hid; simpa using this
        clear HS ht
        go_wp2_with fail
        go_roundw
        case rel => exact ⟨j + 1, V, rfl, by go_num, HLT.out, by rw [HS2.out]; exact HR.out, HV.out, HB.out⟩
        case measure => have := HLT.out; simp [Lib.intOf]; omega
      | true =>
        rw [ht] at d2
        have HS2 : Hid (liveTo s.os (j + 1) = liveTo s.os j ++ [j + 1]) := by have := HS.out; rw [ht] at this; unfold Hid; simpa using this
        clear HS ht
        obtain ⟨V', w2, hr2, hro, hk, hV'⟩ := yiR_one (j + 1) HR.out (by have := HLEN.out; omega)
        have hr3 : ∀ ty, (Builtin.append_ #[yisT, yisT] ty #[V, .slice (some ⟨wr.heap.size, 0, none⟩) 1 1]).run Try.prog (wr.alloc (.cells #[.int .i64 ((j + 1 : Nat) : Int)] yiT)) = .ok V' w2 := hr2
        have R := Lib.hid hr3
        have RO := Lib.hid hro
        have RB : Hid (Below w.heap.size w w2) := HB.out.trans (hk.below (fun b hb => HV.out b hb) HB.out.size)
        have RV : Hid (∀ g, V'.ownBlock = some g → w.heap.size ≤ g) := fun g hg => by
          rcases hV' g hg with e | e
          · exact HV.out g e
          · exact Nat.le_trans HB.out.size e
        clear hr2 hr3 hro hk hV'
        obtain ⟨j1, hj1⟩ : ∃ j1, j + 1 = j1 := ⟨_, rfl⟩
        have HJ1 := Lib.hid hj1
        rw [hj1] at e1 R RO HS2
        clear hj1
        go_wp2_with (at_builtin; refine wpList_append_run rfl (.tmp 22) (.tmp 25) yisT rfl _ (.slice (some ⟨_, 0, none⟩) 1 1) V' w2 rfl rfl R.out ?_)
        go_roundw
        case rel => exact ⟨j1, V', rfl, by first | rfl | (rw [← HJ1.out]; go_num), by have := HLT.out; have := HJ1.out; omega, by rw [HS2.out]; exact RO.out, RV.out, RB.out⟩
        case measure => have := HLT.out; have := HJ1.out; simp [Lib.intOf]; omega
    · obtain rfl : j = L := by have := HJ.out; omega
      have g1 : decide ((j : Int) < (j : Int)) = false := decide_eq_false (by omega)
      have HE : Hid (∃ A c, V = .slice A (liveS s).length c ∧ RowI w.heap.size wr A (liveS s)) := by
        have := rowI_yi HR.out HV.out
        unfold liveS
        rw [HL.out]
        exact this
      obtain ⟨A2, c2, hv2, hrow⟩ := HE.out
      have HROW := Lib.hid hrow
      subst hv2
      clear hrow
      go_wp2_with fail
      go_ret
      exact ⟨A2, c2, rfl, HROW.out, HB.out⟩
end
/-- Two rows that hold the same. -/
theorem ints_same {w : World} {A B : Option Addr} {L : List Nat} {c d b1 b2 : Nat} (ha : RowI b1 w A L) (hb : RowI b2 w B L) (hl : L.length ≤ 1000000) :
    Calls Try.prog 9 #[.slice A L.length c, .slice B L.length d] w fun e w' => e = .returned (.bool true) ∧ Keeps (fun _ => False) w w' := by
  obtain ⟨n, hn⟩ : ∃ n, L.length = n := ⟨_, rfl⟩
  have HA := Lib.hid ha
  have HB := Lib.hid hb
  have HN := Lib.hid hn
  rw [hn] at hl ⊢
  have HL := Lib.hid hl
  clear ha hb hn hl
  go_enter Try.func9, Try.ntmps9
  go_wp2_with fail
  go_loopw [5] (fun i wr => ∃ j : Nat, i = .int .i64 (j : Int) ∧ j ≤ n ∧ Keeps (fun _ => False) w wr) (fun i _ => n - (Lib.intOf i).toNat)
  case atStart => exact ⟨0, rfl, Nat.zero_le _, Keeps.refl _ _⟩
  case round =>
    obtain ⟨j, rfl, hj, hk⟩ := hrel
    have HK := Lib.hid hk
    have HJ := Lib.hid hj
    clear hk hj
    by_cases hlt : j < n
    · obtain ⟨u, hu⟩ : ∃ u, L[j]? = some u := ⟨_, List.getElem?_eq_getElem (by rw [HN.out]; exact hlt)⟩
      obtain ⟨g, o, rfl, _, h1, h2, _⟩ := HA.out j u hu
      obtain ⟨g', o', rfl, _, h3, h4, _⟩ := HB.out j u hu
      have d1 : wr.cell? ⟨g, o + j, none⟩ = some (.int .i64 (u : Int)) := (World.cell?_of_block (HK.out.block g h1 (fun hf => hf))).trans h2
      have d2 : wr.cell? ⟨g', o' + j, none⟩ = some (.int .i64 (u : Int)) := (World.cell?_of_block (HK.out.block g' h3 (fun hf => hf))).trans h4
      have g1 : decide ((j : Int) < (n : Int)) = true := decide_eq_true (by omega)
      have g2 : decide (j < n) = true := decide_eq_true hlt
      have i1 : (j : Int) < (n : Int) := by omega
      have HLT := Lib.hid hlt
      have e1 : (j : Int) + 1 ≤ 9223372036854775807 := by have := HL.out; omega
      clear hu h1 h2 h3 h4 hlt
      go_upto_region 6 with fail
      go_quiet (fail)
      go_wp2_with fail
      go_roundw
      case rel => exact ⟨j + 1, by go_num, HLT.out, HK.out.trans ((keeps_drewN wr _).mono fun _ hf => hf.elim)⟩
      case measure => have := HLT.out; simp [Lib.intOf]; omega
    · obtain rfl : j = n := by have := HJ.out; omega
      have g1 : decide ((j : Int) < (j : Int)) = false := decide_eq_false (by omega)
      go_wp2_with fail
      go_ret
      exact ⟨rfl, HK.out⟩
end Go.Proofs.Ytmohbdbofehamaa
