/-
  The law QueueKeeps, walked.
-/
import Derived.Test.YtgmombgjjmgooaaQPlays
namespace Go.Proofs.Ytgmombgjjmgooaa
open Go Go.RowKit Go.Maps
set_option linter.unusedVariables false
set_option linter.unusedSimpArgs false
set_option maxRecDepth 100000
/-- In QueueKeeps: M waits, L is noted (behind V). -/
structure KK (B : Nat) (w0 : World) (x r g base D : Nat) (fl : Int) (kd : Int) (bad : ByteArray) (L M : List ByteArray) (V : Value) (w : World) : Prop where
  below : Below B w0 w
  sz : B ≤ w.heap.size
  qq : QM w x r g 22 1 3 M
  own : Strs w base V L
  deed : Blk w D deedT (deedC kd fl bad)
  hx : x < base
  hr : B ≤ r ∧ r < base
  hg : B ≤ g ∧ g < base
  hD : D < base
  hb : base ≤ w.heap.size
section
variable {B : Nat} {w0 w w1 : World} {x r g base D : Nat} {fl kd : Int} {bad : ByteArray} {L M M' : List ByteArray} {V V' : Value}
theorem KK.prog (h : KK B w0 x r g base D fl kd bad L M V w) (hq : QM w1 x r g 22 1 3 M') (hk : Keeps (rg r g) w w1) : KK B w0 x r g base D fl kd bad L M' V w1 := by
  have h1 := h.hr
  have h2 := h.hg
  have hlt : ∀ b, rg r g b → b < base := fun b hb => by rcases hb with rfl | rfl <;> omega
  have hge : ∀ b, rg r g b → B ≤ b := fun b hb => by rcases hb with rfl | rfl <;> omega
  exact ⟨h.below.trans (hk.below hge h.sz), Nat.le_trans h.sz hk.size, hq, ownsRow_keeps h.own hk hlt, h.deed.keeps hk (h.qq.off h.deed), h.hx, h1, h2, h.hD, Nat.le_trans h.hb hk.size⟩
theorem KK.quiet (h : KK B w0 x r g base D fl kd bad L M V w) (hb : Below w.heap.size w w1) : KK B w0 x r g base D fl kd bad L M V w1 :=
  ⟨h.below.trans (hb.mono h.sz), Nat.le_trans h.sz hb.size, h.qq.below hb, ownsRow_keeps h.own (keeps_grow hb) (fun _ h => h.elim), blk_below h.deed hb, h.hx, h.hr, h.hg, h.hD, Nat.le_trans h.hb hb.size⟩
/-- A text is noted. -/
theorem KK.note {s : ByteArray} (h : KK B w0 x r g base D fl kd bad L M V w) (hl : L.length ≤ 4096) :
    ∃ A c w2, (∀ ty, (Builtin.append_ #[strsT, strsT] ty #[V, .slice (some ⟨w.heap.size, 0, none⟩) 1 1]).run Try.prog (w.alloc (.cells #[.string s] strT)) = .ok (.slice A (L.length + 1) c) w2) ∧
      KK B w0 x r g base D fl kd bad (L ++ [s]) M (.slice A (L.length + 1) c) w2 := by
  have h1 := h.quiet (below_alloc w (.cells #[.string s] strT))
  obtain ⟨i0, hi, hz0, hz1, hz2⟩ := info_parts infoS
  have hl1 : (L ++ [s]).length = L.length + 1 := by simp
  obtain ⟨V', w', hr, ho, hg, _, _⟩ := run_append_own_at (P := Try.prog) (w.alloc (.cells #[.string s] strT)) base strsT strsT strT i0 (.string ⟨#[]⟩) 1 16 Try.underlying41 hi hz0 hz1 hz2 rfl (by decide) V _ _ h1.own ⟨w.heap.size, 0, none⟩ 1 1 [.string s] rfl (fun j u hj => by
    cases j with
    | zero => simp at hj; subst hj; rw [Go.WideShapes.add_plain]; exact (Blk.new w strT #[.string s]).cell 0
    | succ j => simp at hj) (fun u hu => by simp at hu; subst hu; rfl) (by unfold maxLen; omega) (by omega) h1.hb
  have ho' : Strs w' base V' (L ++ [s]) := by unfold Strs; rw [hl1, List.map_append]; exact ho
  have hk : Keeps (fun b => base ≤ b) (w.alloc (.cells #[.string s] strT)) w' := Keeps.grown (Keeps.refl _ _) hg (fun k e => .inl (h1.own.lt k e).1)
  obtain ⟨A, c, rfl⟩ := strs_shape ho'
  rw [hl1] at ho' hr
  have a1 := h1.hr
  have a2 := h1.hg
  have a3 := h1.hx
  have a4 := h1.hD
  refine ⟨A, c, w', fun ty => by rw [← hr]; rfl, ⟨h1.below.trans (hk.below (fun b hb => by have : base ≤ b := hb; omega) h1.sz), Nat.le_trans h1.sz hk.size, h1.qq.keeps hk (by show ¬ base ≤ _; omega) (by show ¬ base ≤ _; omega) (by show ¬ base ≤ _; omega), ho', h1.deed.keeps hk (by show ¬ base ≤ _; omega), a3, a1, a2, a4, Nat.le_trans h1.hb hk.size⟩⟩
theorem KK.at_ {A : Option Addr} {n c : Nat} (h : KK B w0 x r g base D fl kd bad L M (.slice A n c) w) (h0 : 0 < L.length) : ∃ gw, A = some ⟨gw, 0, none⟩ := by
  rcases strs_form h.own with ⟨_, rfl⟩ | ⟨gw, c', e, _⟩
  · simp at h0
  · cases e; exact ⟨gw, rfl⟩
theorem KK.text {gw n c q : Nat} {s : ByteArray} (h : KK B w0 x r g base D fl kd bad L M (.slice (some ⟨gw, 0, none⟩) n c) w) (hs : L[q]? = some s) : w.cell? ⟨gw, q, none⟩ = some (.string s) := by
  rcases strs_form h.own with ⟨e, _⟩ | ⟨gw', c', e, _, _, _, _, hc⟩
  · cases e
  · cases e; exact hc q s hs
theorem drop_ans {k : Int} (hk : k ≠ 23) {L : List ByteArray} {q : Nat} {s : ByteArray} (hs : L[q]? = some s) : peekS k (L.drop q) = s ∧ peekE k (L.drop q) = 0 ∧ rest k (L.drop q) = L.drop (q + 1) := by
  obtain ⟨hlt, e⟩ := List.getElem?_eq_some_iff.1 hs
  have e1 : L.drop q = s :: L.drop (q + 1) := by rw [List.drop_eq_getElem_cons hlt, e]
  refine ⟨?_, ?_, ?_⟩
  · rw [e1]; unfold peekS turn; rw [if_neg hk]; rfl
  · rw [e1]; rfl
  · rw [e1]; unfold rest; rw [if_neg hk]; rfl
theorem push_ways (L : List ByteArray) (s : ByteArray) : (pushE 1 3 L s 0 = 0 ∧ pushL 1 3 L s 0 = L ++ [s]) ∨ ((pushE 1 3 L s 0 == 0) = false ∧ pushL 1 3 L s 0 = L) := by
  by_cases h : s.size = 1 ∧ L.length ≠ 3
  · have e : pushE 1 3 L s 0 = 0 := by unfold pushE; rw [if_pos ⟨h.1, .inl rfl⟩, if_neg (fun x => h.2 x.1)]
    exact .inl ⟨e, by unfold pushL; rw [if_pos e, if_neg h.2]⟩
  · have e : pushE 1 3 L s 0 ≠ 0 := by
      unfold pushE
      split
      · rename_i h1
        rw [if_pos ⟨by omega, rfl⟩]; decide
      · decide
    exact .inr ⟨by simpa using e, by unfold pushL; rw [if_neg e]⟩
theorem KK.start {w1 : World} (hB : Below w.heap.size w w1) (hD : Blk w1 D deedT (deedC kd fl bad)) (hz : w.heap.size ≤ x ∧ w.heap.size ≤ r ∧ w.heap.size ≤ g) (hq : QM w1 x r g 22 1 3 []) :
    KK w.heap.size w x r g w1.heap.size D fl kd bad [] [] (.slice none 0 0) w1 := by
  have h1 := hq.row.lt
  have h2 := hq.map.lt
  have h3 := hD.lt
  exact ⟨hB, hB.size, hq, World.ownsRow_nil _ _ _ _, hD, h2, by omega, by omega, h3, Nat.le_refl _⟩
end
set_option maxHeartbeats 4000000 in
theorem keeps_walk (A : Option Addr) (len cap : Nat) (hlc : len ≤ cap) (hm : cap ≤ 9223372036854775807) (kd fl : Int) (bad : ByteArray) (hbad : bad.size ≤ 140737488351232) (w : World)
    (hA : ∀ i, i < len → ∃ (b off : Nat) (ss : ByteArray), A = some ⟨b, off, none⟩ ∧ b < w.heap.size ∧ w.cell? ⟨b, off + i, none⟩ = some (.string ss)) :
    Calls Try.prog 6 #[.slice A len cap, .agg #[.int .i64 kd, .int .i64 fl, .string bad]] w fun e w' => e = .returned (.bool true) ∧ Below w.heap.size w w' := by
  have B0 := Lib.hid (below_alloc w (.cells (deedC kd fl bad) deedT))
  have HB := Lib.hid (Blk.new w deedT (deedC kd fl bad))
  have C1 := Lib.hid (new_ok 22 1 3 (by decide))
  have HA := Lib.hid hA
  have hx2 : (⟨#[120, 120]⟩ : ByteArray).size = 2 := rfl
  have hbx : bad.size + 2 ≤ 9223372036854775807 := by omega
  have HBAD : Hid ((bad ++ ⟨#[120, 120]⟩).size ≠ 1) := by
    have : (bad ++ ⟨#[120, 120]⟩).size = bad.size + 2 := ByteArray.size_append
    unfold Hid; omega
  clear hA hbad
  go_enter Try.func6, Try.ntmps6
  go_upto_region 2 with (go_at_call 7; refine (C1.out _).mono ?_; rintro e w1 ⟨x, r, g, rfl, h1, h2, h3⟩; have B1 := Lib.hid (below_then B0.out h3); have HB1 := Lib.hid (blk_below HB.out h3); have H1 := Lib.hid h1; have HZ : Hid (w.heap.size ≤ x ∧ w.heap.size ≤ r ∧ w.heap.size ≤ g) := ⟨Nat.le_trans B0.out.size h2.1, Nat.le_trans B0.out.size h2.2.1, Nat.le_trans B0.out.size h2.2.2⟩; clear h1 h2 h3)
  have HK := Lib.hid (KK.start B1.out HB1.out HZ.out H1.out)
  clear B0 HB B1 HB1 H1 HZ C1
  generalize w1.heap.size = base at *
  go_wp2_with fail
  go_loopw [7, 8] (fun V i wr => ∃ q : Nat, q ≤ len ∧ q ≤ 20 ∧ i = .int .i64 q ∧ ∃ L A0 c0, V = .slice A0 L.length c0 ∧ L.length ≤ q ∧ KK w.heap.size w x r g base w.heap.size fl kd bad L L V wr) (fun _ i _ => len - (intOf i).toNat)
  case atStart => exact ⟨0, by omega, by omega, rfl, [], none, 0, rfl, by simp, HK.out⟩
  case round =>
    clear HK
    obtain ⟨q, hq1, hq2, rfl, L, A0, c0, rfl, hL, hK⟩ := hrel
    have HK := Lib.hid hK; clear hK
    have HN := Lib.hid hL; clear hL
    by_cases hlt : q < len ∧ q < 20
    · obtain ⟨hlt, hlt2⟩ := hlt
      obtain ⟨b, off, s, rfl, hb, t0⟩ := HA.out q hlt
      have hc : wr.cell? ⟨b, off + q, none⟩ = w.cell? ⟨b, off + q, none⟩ := HK.out.below.cell (p := ⟨b, off + q, none⟩) hb
      rw [← hc] at t0
      have g1 : decide (q < len) = true := by simpa using hlt
      have g2 : decide (q < 20) = true := by simpa using hlt2
      have i2 : (q : Int) < (len : Int) := by omega
      have CP := Lib.hid (push_any HK.out.qq (by decide) s 0)
      have HC := Lib.hid (fun w1 (hb1 : Below w.heap.size w w1) => show w1.cell? ⟨b, off + q, none⟩ = some (.string s) by rw [hb1.cell (p := ⟨b, off + q, none⟩) hb, ← hc]; exact t0)
      clear hc hb HA
      rcases push_ways L s with ⟨e1, e2⟩ | ⟨e1, e2⟩
      · rw [e1, e2] at CP
        clear e1 e2
        go_upto_region 9 with (go_at_call 9; refine CP.out.mono ?_; rintro e w5 ⟨rfl, hq, hk⟩; have H5 := Lib.hid (HK.out.prog hq hk); clear hq hk)
        have t5 : w5.cell? ⟨b, off + q, none⟩ = some (.string s) := HC.out _ H5.out.below
        obtain ⟨A3, c3, w6, hr, hx⟩ := H5.out.note (s := s) (by have := HN.out; omega)
        have HR := Lib.hid hr
        have HX := Lib.hid hx
        have CL := Lib.hid (len_any hx.qq)
        have x1 : w6.cell? ⟨w.heap.size, 1, none⟩ = some (.int .i64 fl) := hx.deed.cell 1
        have x2 : w6.cell? ⟨w.heap.size, 2, none⟩ = some (.string bad) := hx.deed.cell 2
        have hl1 : (L ++ [s]).length = L.length + 1 := by simp
        rw [hl1] at CL
        have HX1 : Hid (KK w.heap.size w x r g base w.heap.size fl kd bad (L ++ [s]) (L ++ [s]) (.slice A3 (L ++ [s]).length c3) w6) := by rw [hl1]; exact hx
        clear hr hx CP
        obtain ⟨n, hn⟩ : ∃ n, L.length = n := ⟨_, rfl⟩
        rw [hn] at HR CL ⊢
        have HNN := Lib.hid hn
        clear hn hl1
        go_wp2_with (first
          | (at_builtin; refine wpList_append_run rfl _ _ strsT rfl (.slice A0 n c0) (.slice (some ⟨w5.heap.size, 0, none⟩) 1 1) (.slice A3 (n + 1) c3) w6 rfl rfl HR.out ?_)
          | (go_at_call 15; refine CL.out.mono ?_; rintro e w7 ⟨rfl, rfl⟩)
          | (go_at_call 9; refine (push_len HX.out.qq _ HBAD.out _).mono ?_; rintro e w6 ⟨rfl, rfl⟩))
        go_roundw
        case rel => exact ⟨q + 1, by omega, by omega, by go_num, L ++ [s], A3, c3, by rw [List.length_append, HNN.out]; rfl, by rw [List.length_append, HNN.out]; have := HN.out; have := HNN.out; simp only [List.length_cons, List.length_nil]; omega, by rw [← HNN.out]; exact HX.out⟩
        case measure => simp [intOf]; omega
      · rw [e2] at CP
        generalize pushE 1 3 L s 0 = E at *
        clear e2
        go_upto_region 10 with (go_at_call 9; refine CP.out.mono ?_; rintro e w5 ⟨rfl, hq, hk⟩; have HX := Lib.hid (HK.out.prog hq hk); clear hq hk)
        have CL := Lib.hid (len_any HX.out.qq)
        have x1 : w5.cell? ⟨w.heap.size, 1, none⟩ = some (.int .i64 fl) := HX.out.deed.cell 1
        have x2 : w5.cell? ⟨w.heap.size, 2, none⟩ = some (.string bad) := HX.out.deed.cell 2
        have HX1 : Hid (KK w.heap.size w x r g base w.heap.size fl kd bad L L (.slice A0 L.length c0) w5) := HX
        obtain ⟨n, hn⟩ : ∃ n, L.length = n := ⟨_, rfl⟩
        rw [hn] at CL HX1 ⊢
        have HNN := Lib.hid hn
        clear hn CP
        go_wp2_with (first
          | (go_at_call 15; refine CL.out.mono ?_; rintro e w7 ⟨rfl, rfl⟩)
          | (go_at_call 9; refine (push_len HX.out.qq _ HBAD.out _).mono ?_; rintro e w6 ⟨rfl, rfl⟩))
        go_roundw
        case rel => exact ⟨q + 1, by omega, by omega, by go_num, L, A0, c0, by rw [HNN.out], by have := HN.out; omega, HX1.out⟩
        case measure => simp [intOf]; omega
    · by_cases hl : q < len
      · have C19 : Hid (L.length ≤ 3) := by obtain ⟨f, hh⟩ := HK.out.qq.row; exact hh.len
        have HL0 : Hid (KK w.heap.size w x r g base w.heap.size fl kd bad L (L.drop 0) (.slice A0 L.length c0) wr) := HK.out
        clear HK HN HBAD HA hx2 hbx
        obtain ⟨n, hn⟩ : ∃ n, L.length = n := ⟨_, rfl⟩
        rw [hn] at C19 HL0 ⊢
        have HNN := Lib.hid hn
        clear hn
        obtain rfl : q = 20 := by omega
        have g1 : decide (20 < len) = true := by simpa using hl
        go_wp2_with fail
        go_loopw [10] (fun i w2 => ∃ j : Nat, j ≤ n ∧ i = .int .i64 j ∧ KK w.heap.size w x r g base w.heap.size fl kd bad L (L.drop j) (.slice A0 n c0) w2) (fun i _ => n - (intOf i).toNat)
        case atStart => exact ⟨0, by omega, rfl, HL0.out⟩
        case round =>
          clear HL0
          obtain ⟨j, hj1, rfl, hJ⟩ := hrel
          have HJ := Lib.hid hJ; clear hJ
          by_cases hjn : j < n
          · obtain ⟨gw, rfl⟩ := HJ.out.at_ (by rw [HNN.out]; omega)
            obtain ⟨s, hs⟩ : ∃ s, L[j]? = some s := ⟨_, List.getElem?_eq_getElem (by rw [HNN.out]; exact hjn)⟩
            have HS := Lib.hid hs
            have hd := drop_ans (k := 22) (by decide) hs
            have CP := Lib.hid (pop_any HJ.out.qq)
            rw [hd.1, hd.2.1, hd.2.2] at CP
            clear hd hs
            have g3 : decide (j < n) = true := by simpa using hjn
            have i3 : (j : Int) < (n : Int) := by omega
            have h3 := C19.out
            have h4 : IntKind.i64.wrap ((j : Int) + 1) = (j : Int) + 1 := IntWalk.i64_in _ (by omega)
            go_upto_region 17 with (go_at_call 11; refine CP.out.mono ?_; rintro e w5 ⟨rfl, hq, hk⟩; have H5 := Lib.hid (HJ.out.prog hq hk); clear hq hk)
            have t5 : w5.cell? ⟨gw, j, none⟩ = some (.string s) := H5.out.text HS.out
            go_wp2_with fail
            go_roundw
            case rel => exact ⟨j + 1, by omega, by go_num, H5.out⟩
            case measure => simp [intOf]; omega
          · obtain rfl : j = n := by omega
            have e0 : L.drop j = [] := List.drop_eq_nil_iff.2 (by rw [HNN.out]; exact Nat.le_refl _)
            have HJ' := HJ
            rw [e0] at HJ'
            have CL := Lib.hid (len_any HJ'.out.qq)
            have g4 : decide (j ≤ 3) = true := by simpa using C19.out
            have g5 : (j : Int) ≤ 3 := by have := C19.out; omega
            go_wp2_with (first
              | (go_at_call 15; refine CL.out.mono ?_; rintro e w6 ⟨rfl, rfl⟩)
              | (go_at_call 16; refine (awake_later HJ'.out.below HJ'.out.sz).mono ?_; rintro e w7 ⟨rfl, hb⟩; have B7 := Lib.hid hb; clear hb))
            go_ret
            exact ⟨rfl, B7.out⟩
      · have C19 : Hid (L.length ≤ 3) := by obtain ⟨f, hh⟩ := HK.out.qq.row; exact hh.len
        have HL0 : Hid (KK w.heap.size w x r g base w.heap.size fl kd bad L (L.drop 0) (.slice A0 L.length c0) wr) := HK.out
        clear HK HN HBAD HA hx2 hbx
        obtain ⟨n, hn⟩ : ∃ n, L.length = n := ⟨_, rfl⟩
        rw [hn] at C19 HL0 ⊢
        have HNN := Lib.hid hn
        clear hn
        obtain rfl : q = len := by omega
        go_wp2_with fail
        go_loopw [10] (fun i w2 => ∃ j : Nat, j ≤ n ∧ i = .int .i64 j ∧ KK w.heap.size w x r g base w.heap.size fl kd bad L (L.drop j) (.slice A0 n c0) w2) (fun i _ => n - (intOf i).toNat)
        case atStart => exact ⟨0, by omega, rfl, HL0.out⟩
        case round =>
          clear HL0
          obtain ⟨j, hj1, rfl, hJ⟩ := hrel
          have HJ := Lib.hid hJ; clear hJ
          by_cases hjn : j < n
          · obtain ⟨gw, rfl⟩ := HJ.out.at_ (by rw [HNN.out]; omega)
            obtain ⟨s, hs⟩ : ∃ s, L[j]? = some s := ⟨_, List.getElem?_eq_getElem (by rw [HNN.out]; exact hjn)⟩
            have HS := Lib.hid hs
            have hd := drop_ans (k := 22) (by decide) hs
            have CP := Lib.hid (pop_any HJ.out.qq)
            rw [hd.1, hd.2.1, hd.2.2] at CP
            clear hd hs
            have g3 : decide (j < n) = true := by simpa using hjn
            have i3 : (j : Int) < (n : Int) := by omega
            have h3 := C19.out
            have h4 : IntKind.i64.wrap ((j : Int) + 1) = (j : Int) + 1 := IntWalk.i64_in _ (by omega)
            go_upto_region 17 with (go_at_call 11; refine CP.out.mono ?_; rintro e w5 ⟨rfl, hq, hk⟩; have H5 := Lib.hid (HJ.out.prog hq hk); clear hq hk)
            have t5 : w5.cell? ⟨gw, j, none⟩ = some (.string s) := H5.out.text HS.out
            go_wp2_with fail
            go_roundw
            case rel => exact ⟨j + 1, by omega, by go_num, H5.out⟩
            case measure => simp [intOf]; omega
          · obtain rfl : j = n := by omega
            have e0 : L.drop j = [] := List.drop_eq_nil_iff.2 (by rw [HNN.out]; exact Nat.le_refl _)
            have HJ' := HJ
            rw [e0] at HJ'
            have CL := Lib.hid (len_any HJ'.out.qq)
            have g4 : decide (j ≤ 3) = true := by simpa using C19.out
            have g5 : (j : Int) ≤ 3 := by have := C19.out; omega
            go_wp2_with (first
              | (go_at_call 15; refine CL.out.mono ?_; rintro e w6 ⟨rfl, rfl⟩)
              | (go_at_call 16; refine (awake_later HJ'.out.below HJ'.out.sz).mono ?_; rintro e w7 ⟨rfl, hb⟩; have B7 := Lib.hid hb; clear hb))
            go_ret
            exact ⟨rfl, B7.out⟩
end Go.Proofs.Ytgmombgjjmgooaa
