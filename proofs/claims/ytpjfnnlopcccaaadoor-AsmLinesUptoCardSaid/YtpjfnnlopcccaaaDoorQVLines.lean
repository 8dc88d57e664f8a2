/-
  The law AsmLines, walked: the text of two lists, one behind the other, is the text of the one and the text of the other.
-/
import Derived.Test.YtpjfnnlopcccaaaDoorQVAwake
namespace Go.Proofs.YtpjfnnlopcccaaaDoor
open Go Go.RowKit Go.Maps
set_option linter.unusedVariables false
set_option linter.unusedSimpArgs false
set_option maxRecDepth 100000
theorem allOk_congr {X Y : Nat → Slot} {n : Nat} (h : ∀ j, j < n → X j = Y j) : AllOk X n ↔ AllOk Y n :=
  ⟨fun hX i hi => by rw [← h i hi]; exact hX i hi, fun hY i hi => by rw [h i hi]; exact hY i hi⟩
theorem lineN_congr {X Y : Nat → Slot} {n : Nat} (hn : n = 1 ∨ n = 2) (h : ∀ j, j < n → X j = Y j) : lineN X n = lineN Y n := by
  have h0 := h 0 (by omega)
  have e : (if n = 2 then wideT (X 0) (X 1) else emptyT) = if n = 2 then wideT (Y 0) (Y 1) else emptyT := by
    rcases hn with rfl | rfl
    · rw [if_neg (by decide), if_neg (by decide)]
    · rw [if_pos rfl, if_pos rfl, h0, h 1 (by decide)]
  unfold lineN
  rw [e, h0]
  by_cases hA : AllOk X n
  · have hB := (allOk_congr h).1 hA
    by_cases hd : (Y 0).d ≤ 10 ∧ (Y 0).s ≤ 10
    · have pX : AllOk X n ∧ (Y 0).d ≤ 10 ∧ (Y 0).s ≤ 10 := ⟨hA, hd⟩
      have pY : AllOk Y n ∧ (Y 0).d ≤ 10 ∧ (Y 0).s ≤ 10 := ⟨hB, hd⟩
      rw [if_pos pX, if_pos pY]
    · have pX : ¬ (AllOk X n ∧ (Y 0).d ≤ 10 ∧ (Y 0).s ≤ 10) := fun h => hd h.2
      have pY : ¬ (AllOk Y n ∧ (Y 0).d ≤ 10 ∧ (Y 0).s ≤ 10) := fun h => hd h.2
      rw [if_neg pX, if_neg pY]
  · have pX : ¬ (AllOk X n ∧ (Y 0).d ≤ 10 ∧ (Y 0).s ≤ 10) := fun h => hA h.1
    have pY : ¬ (AllOk Y n ∧ (Y 0).d ≤ 10 ∧ (Y 0).s ≤ 10) := fun h' => hA ((allOk_congr h).2 h'.1)
    rw [if_neg pX, if_neg pY]
theorem slotsAt_or (X : Nat → Slot) (n i : Nat) : slotsAt X n i = 1 ∨ slotsAt X n i = 2 := by
  have := slotsAt_pos X n i
  omega
/-- One slot that begins a wide one has no line. -/
theorem lineN_one_wide {X : Nat → Slot} (h : (X 0).o = 24) : (lineN X 1).size = 0 := by
  unfold lineN
  split
  · rename_i hA
    have e : bodyT (X 0) (if 1 = 2 then wideT (X 0) (X 1) else emptyT) = emptyT := by
      rw [if_neg (by decide)]
      unfold bodyT
      rw [h, if_pos (by decide)]
    rw [e]
    rfl
  · rfl
theorem textFrom_pos {X : Nat → Slot} {n i : Nat} {l : List UInt8} (h : i < n) (hl : textFrom X n i = some l) : (lineAt X n i).size ≠ 0 ∧ ∃ r, textFrom X n (i + slotsAt X n i) = some r ∧ l = (lineAt X n i).data.toList ++ [10] ++ r := by
  by_cases hz : (lineAt X n i).size = 0
  · rw [textFrom_no h hz] at hl; cases hl
  · rw [textFrom_yes h hz] at hl
    obtain ⟨r, hr, rfl⟩ := Option.map_eq_some_iff.1 hl
    exact ⟨hz, r, hr, rfl⟩
theorem slots_room {X : Nat → Slot} {n i : Nat} (h : i < n) : i + slotsAt X n i ≤ n := by
  unfold slotsAt
  split
  · rename_i h; omega
  · omega
theorem text_left (X Y : Nat → Slot) (n m : Nat) : ∀ (k i : Nat), n - i ≤ k → i ≤ n → ∀ l, textFrom X n i = some l → textFrom (both X Y n) (n + m) i = (textFrom (both X Y n) (n + m) n).map (l ++ ·)
  | 0, i, hk, hi, l, h => by
    obtain rfl : i = n := by omega
    rw [textFrom_end (by omega)] at h
    cases h
    cases textFrom (both X Y i) (i + m) i <;> rfl
  | k + 1, i, hk, hi, l, h => by
    by_cases hlt : i < n
    · obtain ⟨hz, r, hr, rfl⟩ := textFrom_pos hlt h
      have hroom := slots_room (X := X) hlt
      have hpos := (slotsAt_pos X n i).1
      have hb : ∀ j, j < slotsAt X n i → both X Y n (i + j) = X (i + j) := fun j hj => if_pos (by omega)
      have hZi : both X Y n i = X i := if_pos hlt
      have hs : slotsAt (both X Y n) (n + m) i = slotsAt X n i := by
        rcases slotsAt_or X n i with h1 | h2
        · have hne : (X i).o ≠ 24 := by
            intro e
            apply hz
            unfold lineAt
            rw [h1]
            exact lineN_one_wide (X := fun j => X (i + j)) e
          rw [h1]
          exact if_neg (fun h => hne (by rw [← hZi]; exact h.1))
        · rw [h2]
          have h3 : (X i).o = 24 ∧ i + 1 < n := by
            unfold slotsAt at h2
            split at h2
            · assumption
            · cases h2
          exact if_pos ⟨by rw [hZi]; exact h3.1, by omega⟩
      have hl : lineAt (both X Y n) (n + m) i = lineAt X n i := by
        unfold lineAt
        rw [hs]
        exact lineN_congr (slotsAt_or X n i) hb
      rw [textFrom_yes (by omega) (by rw [hl]; exact hz), hs, hl, text_left X Y n m k (i + slotsAt X n i) (by omega) hroom r hr]
      cases textFrom (both X Y n) (n + m) n with
      | none => rfl
      | some t => simp
    · obtain rfl : i = n := by omega
      rw [textFrom_end (by omega)] at h
      cases h
      cases textFrom (both X Y i) (i + m) i <;> rfl
theorem text_right (X Y : Nat → Slot) (n m : Nat) : ∀ (k i : Nat), m - i ≤ k → textFrom (both X Y n) (n + m) (n + i) = textFrom Y m i
  | k, i, hk => by
    by_cases hlt : i < m
    · have hb : ∀ j, both X Y n (n + i + j) = Y (i + j) := fun j => by
        unfold both
        rw [if_neg (by omega)]
        congr 1
        omega
      have hs : slotsAt (both X Y n) (n + m) (n + i) = slotsAt Y m i := by
        have h0 := hb 0
        rw [Nat.add_zero, Nat.add_zero] at h0
        unfold slotsAt
        rw [h0]
        by_cases hc : (Y i).o = 24 ∧ i + 1 < m
        · rw [if_pos hc, if_pos ⟨hc.1, by omega⟩]
        · rw [if_neg hc, if_neg (fun h => hc ⟨h.1, by omega⟩)]
      have hl : lineAt (both X Y n) (n + m) (n + i) = lineAt Y m i := by
        unfold lineAt
        rw [hs]
        exact lineN_congr (slotsAt_or Y m i) fun j _ => hb j
      have hpos := (slotsAt_pos Y m i).1
      by_cases hz : (lineAt Y m i).size = 0
      · rw [textFrom_no hlt hz, textFrom_no (by omega) (by rw [hl]; exact hz)]
      · match k, hk with
        | 0, hk => omega
        | k + 1, hk =>
          rw [textFrom_yes hlt hz, textFrom_yes (by omega) (by rw [hl]; exact hz), hs, hl, Nat.add_assoc, text_right X Y n m k (i + slotsAt Y m i) (by omega)]
    · rw [textFrom_end hlt, textFrom_end (by omega)]
/-- The text of two lists. -/
theorem text_both {X Y : Nat → Slot} {n m : Nat} {l r : List UInt8} (hl : textFrom X n 0 = some l) (hr : textFrom Y m 0 = some r) : textFrom (both X Y n) (n + m) 0 = some (l ++ r) := by
  rw [text_left X Y n m n 0 (by omega) (by omega) l hl]
  have h := text_right X Y n m m 0 (by omega)
  rw [Nat.add_zero, hr] at h
  rw [h]
  rfl
theorem textFrom_len (X : Nat → Slot) (n : Nat) : ∀ (k i : Nat), n - i ≤ k → ∀ l, textFrom X n i = some l → l.length ≤ (n - i) * 6007
  | k, i, hk, l, h => by
    by_cases hlt : i < n
    · obtain ⟨hz, r, hr, rfl⟩ := textFrom_pos hlt h
      have hpos := (slotsAt_pos X n i).1
      have hroom := slots_room (X := X) hlt
      have hln : (lineAt X n i).size ≤ 6006 := lineN_size _ _ hpos
      match k, hk with
      | 0, hk => omega
      | k + 1, hk =>
        have h1 := textFrom_len X n k (i + slotsAt X n i) (by omega) r hr
        have h2 : (lineAt X n i).data.toList.length = (lineAt X n i).size := Array.length_toList
        simp only [List.length_append, List.length_cons, List.length_nil, h2]
        have h3 : (n - (i + slotsAt X n i)) * 6007 + 6007 ≤ (n - i) * 6007 := by
          have : n - (i + slotsAt X n i) + 1 ≤ n - i := by omega
          have := Nat.mul_le_mul_right 6007 this
          omega
        omega
    · rw [textFrom_end hlt] at h
      cases h
      exact Nat.zero_le _
theorem own_form_cap {w : World} {base : Nat} {e : TypeId} {s : Nat} {v : Value} {n : Nat} {xs : List Value} (h : w.ownsRow base e s v n xs) : ∃ A c, v = .slice A n c ∧ n ≤ c := by
  rcases h.2 with ⟨rfl, rfl⟩ | ⟨g, cap, cur, rfl, hb, hg, h1, h2, h3, h4⟩
  · exact ⟨none, 0, rfl, Nat.le_refl _⟩
  · exact ⟨_, cap, rfl, h1⟩
theorem append_slots_all {base : Nat} {w : World} {v : Value} {n m c : Nat} {xs : List Value} {A : Option Addr} {Y : Nat → Slot} (hb : base ≤ w.heap.size) (ho : w.ownsRow base 44 5 v n xs) (hY : Slots w A m Y) (hA : A = none → m = 0 ∧ c = 0) (hnm : n + m ≤ 1099511627776) :
    ∃ v' w', (∀ ty, (Builtin.append_ #[22, 22] ty #[v, .slice A m c]).run Tryd.prog w = .ok v' w') ∧ w'.ownsRow base 44 5 v' (n + m) (xs ++ cellsAll Y m) ∧ Below base w w' := by
  obtain ⟨v', w', hr, h1, row, hg, hrow⟩ := append_slots (c := c) hb ho hY hA hnm
  refine ⟨v', w', fun ty => ?_, h1, (Below.refl base w).grown hg hb (fun k e => hrow k e)⟩
  rw [← hr]
  rfl
set_option maxHeartbeats 4000000 in
theorem lines_walk (A A' : Option Addr) (n m c c' : Nat) (X Y : Nat → Slot) (w : World) (hnm : n + m ≤ 2097152) (hX : Slots w A n X) (hY : Slots w A' m Y) (hA : A = none → n = 0 ∧ c = 0) (hA' : A' = none → m = 0 ∧ c' = 0) (hc : n ≤ c) (hc' : m ≤ c') (hT : Tabs w) :
    Calls Tryd.prog 5 #[.slice A n c, .slice A' m c'] w fun e w' => e = .returned (.bool true) ∧ Below w.heap.size w w' := by
  have C1 := Lib.hid (Text_any A n c X hc (by omega) w hT hX)
  have C2 := Lib.hid (fun w1 (hb : Below w.heap.size w w1) => Text_any A' m c' Y hc' (by omega) w1 (hT.below hb) (hY.below hb))
  have CA := Lib.hid (fun w1 (hb : Below w.heap.size w w1) => awake_any w1 (hT.below hb))
  have HX := Lib.hid hX
  have HY := Lib.hid hY
  have HA := Lib.hid hA
  have HA' := Lib.hid hA'
  have HNM := Lib.hid hnm
  have HT := Lib.hid hT
  rcases h1 : textFrom X n 0 with _ | l
  · have e1 : textE X n = .returned (.tuple #[.string emptyT, .int .i64 31]) := by unfold textE; rw [h1]
    rw [e1] at C1
    rcases h2 : textFrom Y m 0 with _ | r
    · have e2 : textE Y m = .returned (.tuple #[.string emptyT, .int .i64 31]) := by unfold textE; rw [h2]
      rw [e2] at C2
      clear hX hY hA hA' hnm hT h1 h2 e1 e2 hc hc'
      go_enter Tryd.func5, Tryd.ntmps5
      go_wp2_with (first
        | (go_at_call 6; first
          | (refine C1.out.mono ?_; clear C1; rintro e w1 ⟨rfl, hb⟩; have B1 := Lib.hid hb; clear hb)
          | (refine (C2.out _ B1.out).mono ?_; rintro e w2 ⟨rfl, hb⟩; have B2 := Lib.hid (B1.out.on hb); clear hb))
        | (go_at_call 7; refine (CA.out _ B2.out).mono ?_; rintro e w3 ⟨rfl, hb⟩; have B3 := Lib.hid (B2.out.on hb); clear hb))
      go_ret
      exact ⟨rfl, B3.out⟩
    · have e2 : textE Y m = .returned (.tuple #[.string (bstr r), .int .i64 0]) := by unfold textE; rw [h2]
      rw [e2] at C2
      clear hX hY hA hA' hnm hT h1 h2 e1 e2 hc hc'
      go_enter Tryd.func5, Tryd.ntmps5
      go_wp2_with (first
        | (go_at_call 6; first
          | (refine C1.out.mono ?_; clear C1; rintro e w1 ⟨rfl, hb⟩; have B1 := Lib.hid hb; clear hb)
          | (refine (C2.out _ B1.out).mono ?_; rintro e w2 ⟨rfl, hb⟩; have B2 := Lib.hid (B1.out.on hb); clear hb))
        | (go_at_call 7; refine (CA.out _ B2.out).mono ?_; rintro e w3 ⟨rfl, hb⟩; have B3 := Lib.hid (B2.out.on hb); clear hb))
      go_ret
      exact ⟨rfl, B3.out⟩
  · have e1 : textE X n = .returned (.tuple #[.string (bstr l), .int .i64 0]) := by unfold textE; rw [h1]
    rw [e1] at C1
    rcases h2 : textFrom Y m 0 with _ | r
    · have e2 : textE Y m = .returned (.tuple #[.string emptyT, .int .i64 31]) := by unfold textE; rw [h2]
      rw [e2] at C2
      clear hX hY hA hA' hnm hT h1 h2 e1 e2 hc hc'
      go_enter Tryd.func5, Tryd.ntmps5
      go_wp2_with (first
        | (go_at_call 6; first
          | (refine C1.out.mono ?_; clear C1; rintro e w1 ⟨rfl, hb⟩; have B1 := Lib.hid hb; clear hb)
          | (refine (C2.out _ B1.out).mono ?_; rintro e w2 ⟨rfl, hb⟩; have B2 := Lib.hid (B1.out.on hb); clear hb))
        | (go_at_call 7; refine (CA.out _ B2.out).mono ?_; rintro e w3 ⟨rfl, hb⟩; have B3 := Lib.hid (B2.out.on hb); clear hb))
      go_ret
      exact ⟨rfl, B3.out⟩
    · have e2 : textE Y m = .returned (.tuple #[.string (bstr r), .int .i64 0]) := by unfold textE; rw [h2]
      rw [e2] at C2
      have e3 : textE (both X Y n) (n + m) = .returned (.tuple #[.string (bstr l ++ bstr r), .int .i64 0]) := by unfold textE; rw [text_both h1 h2, ← bstr_app]
      have z1 := textFrom_len X n n 0 (by omega) l h1
      have z2 := textFrom_len Y m m 0 (by omega) r h2
      have hadd : ¬ 9223372036854775807 < (bstr l).size + (bstr r).size := by
        rw [bstr_size, bstr_size]
        have : (n - 0) * 6007 ≤ 2097152 * 6007 := Nat.mul_le_mul_right _ (by omega)
        have : (m - 0) * 6007 ≤ 2097152 * 6007 := Nat.mul_le_mul_right _ (by omega)
        omega
      have C3 := Lib.hid (fun (v : Value) (w4 w5 : World) (hb : Below w.heap.size w w5) (ho : w5.ownsRow w.heap.size 44 5 v (n + m) (cellsAll (both X Y n) (n + m))) => (show ∃ A5 c5, v = .slice A5 (n + m) c5 ∧ Calls Tryd.prog 6 #[.slice A5 (n + m) c5] w5 fun e w' => e = .returned (.tuple #[.string (bstr l ++ bstr r), .int .i64 0]) ∧ Below w5.heap.size w5 w' by
        obtain ⟨A5, c5, rfl, hcap⟩ := own_form_cap ho
        obtain ⟨A6, c6, e6, hsl⟩ := slots_of_own ho
        cases e6
        have h := Text_any A5 (n + m) c5 (both X Y n) hcap (by omega) w5 (hT.below hb) hsl
        rw [e3] at h
        exact ⟨A5, c5, rfl, h⟩))
      clear hX hY hA hA' hnm hT h1 h2 e1 e2 e3 z1 z2 hc hc'
      generalize bstr l = tl at *
      generalize bstr r = tr at *
      go_enter Tryd.func5, Tryd.ntmps5
      go_upto_region 5 with (first
        | (go_at_call 6; first
          | (refine C1.out.mono ?_; clear C1; rintro e w1 ⟨rfl, hb⟩; have B1 := Lib.hid hb; clear hb)
          | (refine (C2.out _ B1.out).mono ?_; rintro e w2 ⟨rfl, hb⟩; have B2 := Lib.hid (B1.out.on hb); clear hb)))
      obtain ⟨v3, w3, hr3, ho3, hb3⟩ := append_slots_all (base := w.heap.size) (c := c) B2.out.size (World.ownsRow_nil w2 w.heap.size 44 5) (HX.out.below B2.out) HA.out (by have := HNM.out; omega)
      have B3 := Lib.hid (B2.out.trans hb3)
      obtain ⟨v4, w4, hr4, ho4, hb4⟩ := append_slots_all (c := c') B3.out.size ho3 (HY.out.below B3.out) HA'.out (by have := HNM.out; omega)
      have B4 := Lib.hid (B3.out.trans hb4)
      rw [Nat.zero_add, List.nil_append, ← both_cells] at ho4
      obtain ⟨A5, c5, rfl, h5⟩ := C3.out v4 w3 w4 B4.out ho4
      have C5 := Lib.hid h5
      have HR3 := Lib.hid hr3
      have HR4 := Lib.hid hr4
      clear hr3 ho3 hb3 hr4 ho4 hb4 h5 C3
      have hq : ((tl ++ tr).toList == (tl ++ tr).toList) = true := beq_self_eq_true _
      go_wp2_with (first
        | (at_builtin; first
          | (refine wpList_append_run rfl (.const (.slice none 0 0)) (.tmp 29) 22 rfl (.slice none 0 0) (.slice A n c) v3 w3 rfl rfl HR3.out ?_; clear HR3)
          | (refine wpList_append_run rfl (.tmp 30) (.tmp 31) 22 rfl v3 (.slice A' m c') (.slice A5 (n + m) c5) w4 rfl rfl HR4.out ?_))
        | (go_at_call 6; refine C5.out.mono ?_; rintro e w5 ⟨rfl, hb⟩; have B5 := Lib.hid (B4.out.on hb); clear hb)
        | (go_at_call 7; refine (CA.out _ B5.out).mono ?_; rintro e w6 ⟨rfl, hb⟩; have B6 := Lib.hid (B5.out.on hb); clear hb))
      go_ret
      exact ⟨rfl, B6.out⟩
end Go.Proofs.YtpjfnnlopcccaaaDoor
