/-
  A line that was written is read as the slot of which it was written: registers, places, seconds; loads and stores.
-/
import Derived.Test.YtpjfnnlopcccaaaDoorQBNum
namespace Go.Proofs.YtpjfnnlopcccaaaDoor
open Go Go.RowKit Go.Maps
set_option linter.unusedVariables false
set_option linter.unusedSimpArgs false
set_option maxRecDepth 100000
def hdW (w : ByteArray) : Option UInt8 := w.data.toList.head?
theorem same_hd {w t : ByteArray} (h : hdW w ≠ hdW t) : sameT w t = false := by
  unfold sameT
  exact decide_eq_false (fun e => h (by unfold hdW; rw [e]))
theorem sameT_refl (w : ByteArray) : sameT w w = true := decide_eq_true rfl
theorem hd_app {a b : ByteArray} {c : UInt8} (h : hdW a = some c) : hdW (a ++ b) = some c := by
  unfold hdW at *
  rw [app_list]
  rcases ha : a.data.toList with _ | ⟨x, r⟩
  · rw [ha] at h; cases h
  · rw [ha] at h; exact h
theorem hd_reg (c : UInt8) (d : Int) : hdW (regT ⟨#[c]⟩ d) = some c := hd_app rfl
theorem hd_dig (k : Nat) : ∃ c : UInt8, hdW (bstr (Lib.decDigits k)) = some c ∧ 48 ≤ c.toNat ∧ c.toNat ≤ 57 := by
  obtain ⟨c, r, h, h1⟩ := head_dec k
  exact ⟨c, by unfold hdW; rw [bstr_list, h]; rfl, h1⟩
theorem hd_dec (m : Int) : ∃ c : UInt8, hdW (dec m) = some c ∧ (c = 45 ∨ (48 ≤ c.toNat ∧ c.toNat ≤ 57)) := by
  rcases int_ways m with ⟨k, rfl, hk⟩ | ⟨k, rfl⟩
  · exact ⟨45, by rw [dec_neg k hk]; exact hd_app rfl, .inl rfl⟩
  · obtain ⟨c, h, h1⟩ := hd_dig k
    exact ⟨c, by rw [dec_nat]; exact h, .inr h1⟩
theorem hd_far (f : Int) : hdW (farT f) = some 45 ∨ hdW (farT f) = some 43 := by
  unfold farT
  rcases int_ways f with ⟨k, rfl, hk⟩ | ⟨k, rfl⟩
  · rw [partsT_neg k hk]; exact .inl (hd_app rfl)
  · rw [partsT_pos]; exact .inr (hd_app rfl)
theorem letter_ways (q : Int) : (letterS q = ⟨#[119]⟩ ∧ (q = 4 ∨ q = 6)) ∨ (letterS q = ⟨#[114]⟩ ∧ ¬ (q = 4 ∨ q = 6)) := by
  unfold letterS
  by_cases h : q = 4 ∨ q = 6
  · exact .inl ⟨if_pos h, h⟩
  · exact .inr ⟨if_neg h, h⟩
theorem hd_letter (q d : Int) : hdW (regT (letterS q) d) = some 119 ∨ hdW (regT (letterS q) d) = some 114 := by
  rcases letter_ways q with ⟨h, _⟩ | ⟨h, _⟩
  · rw [h]; exact .inl (hd_reg _ _)
  · rw [h]; exact .inr (hd_reg _ _)
/-- The second of the two has a head that no other word there has. -/
theorem hd_sec (s m : Int) (src : Bool) (q : Int) (hne : (secT s m src (letterS q)).size ≠ 0) : ∃ c : UInt8, hdW (secT s m src (letterS q)) = some c ∧ c ≠ 40 ∧ c ≠ 108 ∧ (src = false → m ≤ 2147483647 → True) := by
  unfold secT at *
  cases src
  · by_cases h : s = 0
    · rw [if_neg (by decide), if_pos h] at *
      obtain ⟨c, h1, h2⟩ := hd_dec m
      refine ⟨c, h1, ?_, ?_, fun _ _ => trivial⟩ <;> (rintro rfl; revert h2; decide)
    · rw [if_neg (by decide), if_neg h] at hne
      exact absurd rfl hne
  · by_cases h : m = 0
    · rw [if_pos rfl, if_pos h] at *
      rcases hd_letter q s with h1 | h1
      · exact ⟨119, h1, by decide, by decide, fun _ _ => trivial⟩
      · exact ⟨114, h1, by decide, by decide, fun _ _ => trivial⟩
    · rw [if_pos rfl, if_neg h] at hne
      exact absurd rfl hne
theorem isW_sec {s m : Int} {src : Bool} {q : Int} (hne : (secT s m src (letterS q)).size ≠ 0) : isW (secT s m src (letterS q)) := by
  unfold secT at *
  cases src
  · by_cases h : s = 0
    · rw [if_neg (by decide), if_pos h]; exact isW_dec m
    · rw [if_neg (by decide), if_neg h] at hne; exact absurd rfl hne
  · by_cases h : m = 0
    · rw [if_pos rfl, if_pos h]; exact isW_reg (isW_letter q) s
    · rw [if_pos rfl, if_neg h] at hne; exact absurd rfl hne
theorem regV_of {s p : ByteArray} {n : Nat} (h : regS s p = some n) : regV s p = n := regS_val h
/-- What was written of the second is read so. -/
theorem sec_back {s m : Int} {src : Bool} {q : Int} (hs : 0 ≤ s ∧ s ≤ 10) (hm : -2147483648 ≤ m ∧ m ≤ 2147483647) (hne : (secT s m src (letterS q)).size ≠ 0) :
    secS (secT s m src (letterS q)) (letterS q) 0 0 = ⟨src, s, m, true⟩ := by
  unfold secT at *
  cases src
  · by_cases h : s = 0
    · rw [if_neg (by decide), if_pos h]
      have hb : begins (dec m) (letterS q) = false := by
        obtain ⟨c, h1, h2⟩ := hd_dec m
        unfold hdW at h1
        rcases letter_ways q with ⟨e, _⟩ | ⟨e, _⟩
        · rw [e, begins_one, h1]
          refine decide_eq_false (fun e => ?_)
          cases e
          revert h2; decide
        · rw [e, begins_one, h1]
          refine decide_eq_false (fun e => ?_)
          cases e
          revert h2; decide
      unfold secS
      rw [if_neg (by rw [hb]; decide), immS_dec m hm.1 hm.2, h]
      rfl
    · rw [if_neg (by decide), if_neg h] at hne; exact absurd rfl hne
  · by_cases h : m = 0
    · rw [if_pos rfl, if_pos h]
      have hb : begins (regT (letterS q) s) (letterS q) = true := begins_app _ _
      have hr := regS_regT (letterS q) s hs.1 hs.2
      unfold secS
      rw [if_pos hb, hr, regS_val hr, h]
      simp only [Option.isSome_some, Sec.mk.injEq, true_and, and_true]
      omega
    · rw [if_pos rfl, if_neg h] at hne; exact absurd rfl hne
/-! ### Places -/
theorem ends_app (a p : ByteArray) : ends (a ++ p) p = true := by
  unfold ends
  have hz : (a ++ p).size = a.size + p.size := ByteArray.size_append
  have e : (a ++ p).extract ((a ++ p).size - p.size) (a ++ p).size = p := by
    rw [extract_bstr, List.take_of_length_le (by rw [← Lib.size_eq]; exact Nat.le_refl _), hz, Nat.add_sub_cancel]
    apply ba_ext
    rw [bstr_list, app_list, show a.size = a.data.toList.length from Lib.size_eq a, List.drop_left]
  rw [e, sameT_refl, hz, decide_eq_true (by omega)]
  rfl
theorem ahead_app (a p : ByteArray) : ahead (a ++ p) p = a := by
  unfold ahead
  have hz : (a ++ p).size = a.size + p.size := ByteArray.size_append
  rw [if_pos (ends_app a p), extract_bstr, hz, Nat.add_sub_cancel, List.drop_zero]
  apply ba_ext
  rw [bstr_list, app_list, show a.size = a.data.toList.length from Lib.size_eq a, List.take_left]
def plcW (nm : ByteArray) (f b : Int) : List ByteArray := [⟨#[42, 40]⟩ ++ nm, ⟨#[42, 41, 40]⟩ ++ regT ⟨#[114]⟩ b, (partsT f).1, (partsT f).2 ++ ⟨#[41]⟩]
theorem move_ok : ∀ x ∈ moveL, isW x.1 ∧ moveR (starT ++ x.1) moveL = some (x.2.1, x.2.2) := by
  intro x hx
  simp only [moveL, List.mem_cons, List.not_mem_nil, or_false] at hx
  rcases hx with rfl | rfl | rfl | rfl | rfl | rfl | rfl <;> exact ⟨by decide, by kernel_rfl⟩
theorem moveOf_mem {md sz : Int} {nm : ByteArray} (h : moveOf moveL md sz = some nm) : (nm, md, sz) ∈ moveL := by
  unfold moveOf at h
  obtain ⟨x, hx, rfl⟩ := Option.map_eq_some_iff.1 h
  have h1 := List.mem_of_find?_eq_some hx
  have h2 : x.2.1 = md ∧ x.2.2 = sz := by simpa using List.find?_some hx
  obtain ⟨a, b, c⟩ := x
  obtain ⟨rfl, rfl⟩ := h2
  exact h1
theorem plcW_words {nm : ByteArray} {md sz : Int} (h : (nm, md, sz) ∈ moveL) (f b : Int) : ∀ w ∈ plcW nm f b, isW w := by
  intro w hw
  simp only [plcW, List.mem_cons, List.not_mem_nil, or_false] at hw
  rcases hw with rfl | rfl | rfl | rfl
  · exact isW_app (by decide) (move_ok _ h).1.2
  · exact isW_app (by decide) (isW_reg (by decide) b).2
  · exact (isW_parts f).1
  · exact isW_app (isW_parts f).2 (by decide)
theorem place_back {nm : ByteArray} {md sz : Int} (h : (nm, md, sz) ∈ moveL) (f b : Int) (hb : 0 ≤ b ∧ b ≤ 10) (hf : -32768 ≤ f ∧ f ≤ 32767) :
    placeR (⟨#[42, 40]⟩ ++ nm) (⟨#[42, 41, 40]⟩ ++ regT ⟨#[114]⟩ b) (partsT f).1 ((partsT f).2 ++ ⟨#[41]⟩) = some ⟨md, sz, b, f⟩ := by
  obtain ⟨h1, h2⟩ := parts_back f hf.1 hf.2
  have hm : moveR (⟨#[42, 40]⟩ ++ nm) moveL = some (md, sz) := (move_ok _ h).2
  have ho : okR (⟨#[42, 41, 40]⟩ ++ regT ⟨#[114]⟩ b) (partsT f).1 ((partsT f).2 ++ ⟨#[41]⟩) = true := by
    unfold okR
    have e1 : begins (⟨#[42, 41, 40]⟩ ++ regT ⟨#[114]⟩ b) openT = true := begins_app _ _
    have e2 : ends ((partsT f).2 ++ ⟨#[41]⟩) closeT = true := ends_app _ _
    rw [e1, e2, h2]
    rfl
  have e3 : behind (⟨#[42, 41, 40]⟩ ++ regT ⟨#[114]⟩ b) openT = regT ⟨#[114]⟩ b := behind_app _ _
  have e4 : ahead ((partsT f).2 ++ ⟨#[41]⟩) closeT = (partsT f).2 := ahead_app _ _
  have e5 : regS (regT ⟨#[114]⟩ b) wholeT = some b.toNat := regS_regT ⟨#[114]⟩ b hb.1 hb.2
  unfold placeR
  rw [if_pos ho, e3, e4, e5, h1, hm]
  show some _ = some _
  congr 1
  simp only [Plc.mk.injEq, true_and, and_true]
  omega
/-! ### Words, one behind the other -/
theorem join_both : ∀ (a b : List (List UInt8)), a ≠ [] → b ≠ [] → Lib.join (a ++ b) [32] = Lib.join a [32] ++ 32 :: Lib.join b [32]
  | [], b, h, _ => absurd rfl h
  | [x], [], _, h => absurd rfl h
  | [x], y :: b, _, _ => by rw [List.singleton_append, join_two, Lib.join_one]
  | x :: y :: a, b, _, hb => by
    rw [List.cons_append, List.cons_append, join_two, join_two, ← List.cons_append, join_both (y :: a) b (by simp) hb, List.append_assoc, List.cons_append]
theorem joinT_list (ws : List ByteArray) : (joinT ws).data.toList = Lib.join (ws.map (·.data.toList)) [32] := rfl
theorem joinT_app (a b : List ByteArray) (ha : a ≠ []) (hb : b ≠ []) : joinT (a ++ [joinT b]) = joinT (a ++ b) := by
  apply ba_ext
  rw [joinT_list, joinT_list, List.map_append, List.map_append, join_both _ _ (by simpa using ha) (by simp), join_both _ _ (by simpa using ha) (by simpa using hb), List.map_cons, List.map_nil, Lib.join_one, joinT_list]
theorem joinT_mid (x : ByteArray) (a b : List ByteArray) (ha : a ≠ []) (hb : b ≠ []) : joinT [x, joinT a, joinT b] = joinT (x :: a ++ b) := by
  apply ba_ext
  rw [joinT_list, joinT_list]
  simp only [List.map_cons, List.map_nil, List.map_append, List.cons_append]
  rw [join_two, join_two, Lib.join_one, joinT_list, joinT_list]
  have h1 := join_both (x.data.toList :: a.map (·.data.toList)) (b.map (·.data.toList)) (by simp) (by simpa using hb)
  rw [List.cons_append] at h1
  rw [h1]
  rcases a with _ | ⟨y, a⟩
  · exact absurd rfl ha
  · rw [List.map_cons, join_two, List.append_assoc, List.cons_append]
theorem joinT_two (a : List ByteArray) (x y : ByteArray) (ha : a ≠ []) : joinT [joinT a, x, y] = joinT (a ++ [x, y]) := by
  apply ba_ext
  rw [joinT_list, joinT_list]
  simp only [List.map_cons, List.map_nil, List.map_append]
  rw [join_two, join_both (a.map (·.data.toList)) [x.data.toList, y.data.toList] (by simpa using ha) (by simp), joinT_list]
theorem joinT_size {ws : List ByteArray} (h : ws ≠ []) (hw : ∀ w ∈ ws, isW w) : (joinT ws).size ≠ 0 := by
  rcases ws with _ | ⟨w, ws⟩
  · exact absurd rfl h
  · rw [Lib.size_eq, joinT_list]
    have hW := (hw w (by simp)).1
    rw [Lib.size_eq] at hW
    rcases ws with _ | ⟨w2, ws⟩
    · rw [List.map_cons, List.map_nil, Lib.join_one]; exact hW
    · rw [List.map_cons, List.map_cons, join_two, List.length_append]; omega
theorem saidT_sizes {ws : List ByteArray} (h : (saidT ws).size ≠ 0) : (∀ w ∈ ws, w.size ≠ 0) ∧ saidT ws = joinT ws := by
  unfold saidT at *
  by_cases hl : lacks ws = true
  · rw [if_pos hl] at h
    exact absurd rfl h
  · refine ⟨fun w hw e => hl ?_, if_neg hl⟩
    exact List.any_eq_true.2 ⟨w, hw, decide_eq_true e⟩
/-- What a line that was written says: its words, and the slots of which it was written. -/
def Says (t : ByteArray) (X : List Slot) : Prop := ∃ ws, t = joinT ws ∧ ws ≠ [] ∧ ws.length ≤ 8 ∧ (∀ w ∈ ws, isW w) ∧ slotsR ws = some X
theorem Says.line {t : ByteArray} {X : List Slot} (h : Says t X) : lineR t = some X ∧ ∀ b ∈ t.data.toList, b ≠ 10 := by
  obtain ⟨ws, rfl, h1, h2, h3, h4⟩ := h
  refine ⟨?_, fun b hb => join_ten ws h3 b hb⟩
  unfold lineR
  rw [words_back ws h1 h3 h2]
  rcases ws with _ | ⟨w, ws⟩
  · exact absurd rfl h1
  · exact h4
theorem slots_one {ws : List ByteArray} {x : Slot} {w : ByteArray} (hl : ws.getLast? = some w) (hw : hdW w ≠ some 108) (h : oneR ws = some x) : slotsR ws = some [x] := by
  unfold slotsR lastLl
  rw [hl]
  simp only
  rw [if_neg (by rw [same_hd (by intro e; exact hw e)]; decide), h]
  rfl
theorem op_load : ∀ o : Nat, o < 256 → o % 8 = 1 → bits .or .i64 (bits .or .i64 (bits .and .i64 (o : Int) 224) (bits .and .i64 (o : Int) 24)) 1 = (o : Int) := by decide +kernel
theorem placeT_cases {mode o f b : Int} (h : (placeT mode o f b).size ≠ 0) : ∃ nm, (nm, mode, bits .and .i64 o 24) ∈ moveL ∧ placeT mode o f b = joinT (plcW nm f b) := by
  unfold placeT at *
  rcases hm : moveOf moveL mode (bits .and .i64 o 24) with _ | nm
  · rw [hm] at h; exact absurd rfl h
  · have h1 := moveOf_mem hm
    refine ⟨nm, h1, ?_⟩
    show saidT (plcW nm f b) = _
    exact saidT_join (plcW_words h1 f b)
theorem hd_close (f : Int) : hdW ((partsT f).2 ++ ⟨#[41]⟩) ≠ some 108 := by
  have h : ∃ c : UInt8, hdW (partsT f).2 = some c ∧ 48 ≤ c.toNat ∧ c.toNat ≤ 57 := by
    rcases int_ways f with ⟨k, rfl, hk⟩ | ⟨k, rfl⟩
    · rw [partsT_neg k hk]; exact hd_dig k
    · rw [partsT_pos]; exact hd_dig k
  obtain ⟨c, h1, h2, h3⟩ := h
  rw [hd_app h1]
  intro e
  cases e
  revert h3; decide
theorem load_back {o d s f m : Int} (h : Fits o d s f m) (hd : d ≤ 10) (hs : s ≤ 10) (hq : o % 8 = 1) (hne : (loadT o d s f m).size ≠ 0) : Says (loadT o d s f m) [⟨o, d, s, f, m⟩] := by
  obtain ⟨ho, hd0, hs0, hf, hm⟩ := h
  unfold loadT at *
  by_cases hm0 : m = 0
  · rw [if_pos hm0] at *
    obtain ⟨h1, h2⟩ := saidT_sizes hne
    obtain ⟨nm, hnm, hp⟩ := placeT_cases (h1 (placeT (bits .and .i64 o 224) o f s) (by simp))
    rw [h2, hp]
    have hw := plcW_words hnm f s
    refine ⟨[regT ⟨#[114]⟩ d, ⟨#[61]⟩] ++ plcW nm f s, joinT_app [regT ⟨#[114]⟩ d, ⟨#[61]⟩] (plcW nm f s) (by simp) (by simp [plcW]), by simp, by simp [plcW], fun w hw' => ?_, ?_⟩
    · rcases List.mem_append.1 hw' with hw' | hw'
      · simp only [List.mem_cons, List.not_mem_nil, or_false] at hw'
        rcases hw' with rfl | rfl
        · exact isW_reg (by decide) d
        · decide
      · exact hw w hw'
    · refine slots_one (w := (partsT f).2 ++ ⟨#[41]⟩) rfl (hd_close f) ?_
      show oneR [regT ⟨#[114]⟩ d, ⟨#[61]⟩, _, _, _, _] = _
      rw [oneR, if_neg (by rw [same_hd (by rw [hd_reg]; decide)]; decide), if_pos (by decide)]
      unfold loadR
      rw [place_back hnm f s ⟨hs0.1, hs⟩ hf, Option.bind_some, regS_regT ⟨#[114]⟩ d hd0.1 hd]
      obtain ⟨k, rfl⟩ := Int.eq_ofNat_of_zero_le ho.1
      show some _ = some _
      rw [op_load k (by omega) (by omega)]
      congr 1
      simp only [Slot.mk.injEq, true_and]
      omega
  · rw [if_neg hm0] at hne
    exact absurd rfl hne
end Go.Proofs.YtpjfnnlopcccaaaDoor
