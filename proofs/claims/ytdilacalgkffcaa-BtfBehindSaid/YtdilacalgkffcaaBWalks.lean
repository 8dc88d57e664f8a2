/-
  Layer 6: the laws BtfBehind and BtfBack, walked.
-/
import Derived.Test.YtdilacalgkffcaaBAwake
namespace Go.Proofs.Ytdilacalgkffcaa
open Go Go.RowKit Go.Maps
set_option linter.unusedVariables false
set_option linter.unusedSimpArgs false
set_option maxRecDepth 100000
theorem parse_ok {s : List UInt8} {l : List Ty} (h : parseF s = some l) (hs : s.length ≤ 4611686018427387904) (w : World) :
    Calls Try.prog 9 #[.string (bstr s)] w fun e w' => Below w.heap.size w w' ∧ ∃ A c, e = .returned (.tuple #[.slice A l.length c, .int .i64 0]) ∧ TysAt w' A l :=
  (parse_any s hs w).mono fun e w' hp => by
    obtain ⟨hb, hp⟩ := hp
    refine ⟨hb, ?_⟩
    rcases hp with ⟨l', A, c, hl, he, ht⟩ | ⟨hl, _⟩
    · rw [h] at hl
      cases hl
      exact ⟨A, c, he, ht⟩
    · rw [h] at hl; cases hl
theorem parse_no {s : List UInt8} (h : parseF s = none) (hs : s.length ≤ 4611686018427387904) (w : World) :
    Calls Try.prog 9 #[.string (bstr s)] w fun e w' => Below w.heap.size w w' ∧ e = .returned (.tuple #[.slice none 0 0, .int .i64 40]) :=
  (parse_any s hs w).mono fun e w' hp => by
    obtain ⟨hb, hp⟩ := hp
    refine ⟨hb, ?_⟩
    rcases hp with ⟨l', A, c, hl, he, ht⟩ | ⟨_, he⟩
    · rw [h] at hl; cases hl
    · exact he
theorem okB_all {l : List Ty} (h : okB l = true) : l.all mayB = true ∧ l.length ≤ 1024 := by
  simp only [okB, Bool.and_eq_true, decide_eq_true_eq] at h
  exact ⟨h.2, h.1⟩
theorem okB_of {s : List UInt8} {l : List Ty} (h : parseF s = some l) : okB l = true := by
  obtain ⟨h1, h2⟩ := parseF_may s l h
  unfold okB
  rw [h1, decide_eq_true h2]; rfl
theorem build_len {l : List Ty} (h : okB l = true) : (buildF l).length ≤ 3000000000 := by
  have := puts_bound l l.length h
  rw [List.take_length] at this
  obtain ⟨h1, h2⟩ := this
  unfold buildF blobW
  rw [List.length_append, List.length_append, List.length_append, le4s_length]
  simp only [List.length_cons, List.length_nil, show opening.length = 8 from rfl]
  omega
theorem back_build {l : List Ty} (h : okB l = true) (more : List UInt8) : parseF (buildF l ++ more) = some l := parse_build l more (okB_all h).1 (okB_all h).2
theorem back_build' {l : List Ty} (h : okB l = true) : parseF (buildF l) = some l := by
  have := back_build h []
  rwa [List.append_nil] at this
theorem bstr_app (a : List UInt8) (s : ByteArray) : bstr a ++ s = bstr (a ++ s.data.toList) := by
  apply ByteArray.ext
  rw [ByteArray.data_append]
  apply Array.toList_inj.1
  simp [bstr]
set_option maxHeartbeats 4000000 in
theorem behind_walk (A : Option Addr) (c : Nat) (l : List Ty) (hlen : l.length ≤ 9223372036854775807) (more : ByteArray) (hmore : more.size ≤ 140737488351232) (w : World) (h : TysAt w A l) :
    Calls Try.prog 5 #[.slice A l.length c, .string more] w fun e w' => e = .returned (.bool true) ∧ Below w.heap.size w w' := by
  have CB := Lib.hid (build_any A c l hlen w h)
  have CA := Lib.hid (fun w => awake_any w)
  cases ho : okB l
  · rw [buildAns_bad ho] at CB
    go_enter Try.func5, Try.ntmps5
    go_wp2_with (first
      | (go_at_call 6; refine CB.out.mono ?_; rintro e w1 ⟨rfl, hb⟩; have HB1 := Lib.hid hb; clear hb)
      | (go_at_call 8; refine (CA.out _).mono ?_; rintro e w2 ⟨rfl, hb⟩; have HB2 := Lib.hid (HB1.out.trans (hb.mono HB1.out.size)); clear hb))
    go_ret
    exact ⟨rfl, HB2.out⟩
  · rw [buildAns_ok ho] at CB
    have hbl := build_len ho
    have hsz := bstr_size (buildF l)
    have hcat := bstr_app (buildF l) more
    have i1 : ((bstr (buildF l)).size : Int) ≤ 3000000000 := by omega
    have i2 : (more.size : Int) ≤ 140737488351232 := by omega
    have i3 : (bstr (buildF l)).size ≤ 3000000000 := by omega
    have CP := Lib.hid (fun w => parse_ok (back_build ho more.data.toList) (by rw [List.length_append, size_list]; omega) w)
    have HT := Lib.hid h
    have HLEN := Lib.hid hlen
    clear h ho hbl hsz hlen
    go_enter Try.func5, Try.ntmps5
    go_wp2_with (first
      | (go_at_call 6; refine CB.out.mono ?_; rintro e w1 ⟨rfl, hb⟩; have HB1 := Lib.hid hb; clear hb)
      | (go_at_call 9; refine (CP.out _).mono ?_; rintro e w3 ⟨hb, A3, c3, rfl, ht⟩; have HB3 := Lib.hid (HB1.out.trans (hb.mono HB1.out.size)); have HT3 := Lib.hid ht; clear hb ht)
      | (go_at_call 10; refine (same_any A A3 c c3 l HLEN.out _ (HT.out.below HB3.out) HT3.out).mono ?_; rintro e w4 ⟨rfl, hb⟩; have HB4 := Lib.hid (HB3.out.trans (hb.mono HB3.out.size)); clear hb)
      | (go_at_call 8; refine (CA.out _).mono ?_; rintro e w5 ⟨rfl, hb⟩; have HB5 := Lib.hid (HB4.out.trans (hb.mono HB4.out.size)); clear hb))
    go_ret
    exact ⟨rfl, HB5.out⟩
theorem back_build_ok (A : Option Addr) (c : Nat) {l : List Ty} (ho : okB l = true) (w : World) (h : TysAt w A l) : Calls Try.prog 6 #[.slice A l.length c] w fun e w' => e = .returned (.tuple #[.string (bstr (buildF l)), .int .i64 0]) ∧ Below w.heap.size w w' := by
  have := build_any A c l (by have := (okB_all ho).2; omega) w h
  rwa [buildAns_ok ho] at this
set_option maxHeartbeats 4000000 in
theorem back_walk (A : Option Addr) (c : Nat) (l : List Ty) (hlen : l.length ≤ 9223372036854775807) (s : ByteArray) (hs : s.size ≤ 4611686018427387904) (w : World) (h : TysAt w A l) :
    Calls Try.prog 4 #[.slice A l.length c, .string s] w fun e w' => e = .returned (.bool true) ∧ Below w.heap.size w w' := by
  have CB := Lib.hid (build_any A c l hlen w h)
  have CA := Lib.hid (fun w => awake_any w)
  have HT := Lib.hid h
  have HLEN := Lib.hid hlen
  have hsl : s.data.toList.length ≤ 4611686018427387904 := by rw [size_list]; exact hs
  rw [← bstr_of s]
  obtain ⟨sl, hsl'⟩ : ∃ sl, s.data.toList = sl := ⟨_, rfl⟩
  rw [hsl'] at hsl ⊢
  have HSL := Lib.hid hsl
  clear hsl hsl' hs h hlen
  cases ho : okB l
  · rw [buildAns_bad ho] at CB
    clear ho
    cases hp : parseF sl with
    | none =>
      have CP := Lib.hid (fun w => parse_no hp HSL.out w)
      clear hp
      go_enter Try.func4, Try.ntmps4
      go_wp2_with (first
        | (go_at_call 6; refine CB.out.mono ?_; rintro e w1 ⟨rfl, hb⟩; have HB1 := Lib.hid (hb); clear hb)
        | (go_at_call 9; refine (CP.out _).mono ?_; rintro e w2 ⟨hb, rfl⟩; have HB2 := Lib.hid (HB1.out.trans (hb.mono HB1.out.size)); clear hb)
        | (go_at_call 8; refine (CA.out _).mono ?_; rintro e w3 ⟨rfl, hb⟩; have HB3 := Lib.hid (HB2.out.trans (hb.mono HB2.out.size)); clear hb))
      go_ret
      exact ⟨rfl, HB3.out⟩
    | some m =>
      have CP := Lib.hid (fun w => parse_ok hp HSL.out w)
      have hom := okB_of hp
      have HOM := Lib.hid hom
      have CP2 := Lib.hid (fun w => parse_ok (back_build' hom) (by have := build_len hom; omega) w)
      have HML : Hid (m.length ≤ 9223372036854775807) := Nat.le_trans (okB_all hom).2 (by decide)
      clear hp hom
      go_enter Try.func4, Try.ntmps4
      go_wp2_with (first
        | (go_at_call 6; first
          | (have tk := tok2; refine (back_build_ok A2 c2 HOM.out _ HT2.out).mono ?_; rintro e w3 ⟨rfl, hb⟩; have HB3 := Lib.hid (HB2.out.trans (hb.mono HB2.out.size)); have HT23 := Lib.hid (HT2.out.below hb); clear hb)
          | (refine CB.out.mono ?_; rintro e w1 ⟨rfl, hb⟩; have HB1 := Lib.hid (hb); clear hb))
        | (go_at_call 9; first
          | (have tk := tok2; refine (CP2.out _).mono ?_; rintro e w4 ⟨hb, A4, c4, rfl, ht⟩; have HB4 := Lib.hid (HB3.out.trans (hb.mono HB3.out.size)); have HT4 := Lib.hid ht; have HT24 := Lib.hid (HT23.out.below hb); clear hb ht)
          | (refine (CP.out _).mono ?_; rintro e w2 ⟨hb, A2, c2, rfl, ht⟩; have HB2 := Lib.hid (HB1.out.trans (hb.mono HB1.out.size)); have HT2 := Lib.hid ht; have tok2 := True.intro; clear hb ht))
        | (go_at_call 10; refine (same_any A2 A4 c2 c4 m HML.out _ HT24.out HT4.out).mono ?_; rintro e w5 ⟨rfl, hb⟩; have HB5 := Lib.hid (HB4.out.trans (hb.mono HB4.out.size)); clear hb)
        | (go_at_call 8; refine (CA.out _).mono ?_; rintro e w6 ⟨rfl, hb⟩; have HB6 := Lib.hid (HB5.out.trans (hb.mono HB5.out.size)); clear hb))
      go_ret
      exact ⟨rfl, HB6.out⟩
  · rw [buildAns_ok ho] at CB
    have CPl := Lib.hid (fun w => parse_ok (back_build' ho) (by have := build_len ho; omega) w)
    clear ho
    cases hp : parseF sl with
    | none =>
      have CP := Lib.hid (fun w => parse_no hp HSL.out w)
      clear hp
      go_enter Try.func4, Try.ntmps4
      go_wp2_with (first
        | (go_at_call 6; refine CB.out.mono ?_; rintro e w1 ⟨rfl, hb⟩; have HB1 := Lib.hid hb; clear hb)
        | (go_at_call 9; first
          | (have tk := tok3; refine (CP.out _).mono ?_; rintro e w4 ⟨hb, rfl⟩; have HB4 := Lib.hid (HB3.out.trans (hb.mono HB3.out.size)); clear hb)
          | (refine (CPl.out _).mono ?_; rintro e w2 ⟨hb, A2, c2, rfl, ht⟩; have HB2 := Lib.hid (HB1.out.trans (hb.mono HB1.out.size)); have HT2 := Lib.hid ht; clear hb ht))
        | (go_at_call 10; refine (same_any A A2 c c2 l HLEN.out _ (HT.out.below HB2.out) HT2.out).mono ?_; rintro e w3 ⟨rfl, hb⟩; have HB3 := Lib.hid (HB2.out.trans (hb.mono HB2.out.size)); have tok3 := True.intro; clear hb)
        | (go_at_call 8; refine (CA.out _).mono ?_; rintro e w5 ⟨rfl, hb⟩; have HB5 := Lib.hid (HB4.out.trans (hb.mono HB4.out.size)); clear hb))
      go_ret
      exact ⟨rfl, HB5.out⟩
    | some m =>
      have CP := Lib.hid (fun w => parse_ok hp HSL.out w)
      have hom := okB_of hp
      have HOM := Lib.hid hom
      have CP2 := Lib.hid (fun w => parse_ok (back_build' hom) (by have := build_len hom; omega) w)
      have HML : Hid (m.length ≤ 9223372036854775807) := Nat.le_trans (okB_all hom).2 (by decide)
      clear hp hom
      go_enter Try.func4, Try.ntmps4
      go_wp2_with (first
        | (go_at_call 6; first
          | (have tk := tok4; refine (back_build_ok A4 c4 HOM.out _ HT4.out).mono ?_; rintro e w5 ⟨rfl, hb⟩; have HB5 := Lib.hid (HB4.out.trans (hb.mono HB4.out.size)); have HT45 := Lib.hid (HT4.out.below hb); have tok5 := True.intro; clear hb tok4)
          | (refine CB.out.mono ?_; rintro e w1 ⟨rfl, hb⟩; have HB1 := Lib.hid hb; clear hb))
        | (go_at_call 9; first
          | (have tk := tok5; refine (CP2.out _).mono ?_; rintro e w6 ⟨hb, A6, c6, rfl, ht⟩; have HB6 := Lib.hid (HB5.out.trans (hb.mono HB5.out.size)); have HT6 := Lib.hid ht; have HT46 := Lib.hid (HT45.out.below hb); clear hb ht)
          | (have tk := tok3; refine (CP.out _).mono ?_; rintro e w4 ⟨hb, A4, c4, rfl, ht⟩; have HB4 := Lib.hid (HB3.out.trans (hb.mono HB3.out.size)); have HT4 := Lib.hid ht; have tok4 := True.intro; clear hb ht tok3)
          | (refine (CPl.out _).mono ?_; rintro e w2 ⟨hb, A2, c2, rfl, ht⟩; have HB2 := Lib.hid (HB1.out.trans (hb.mono HB1.out.size)); have HT2 := Lib.hid ht; clear hb ht))
        | (go_at_call 10; first
          | (have tk := tok5; refine (same_any A4 A6 c4 c6 m HML.out _ HT46.out HT6.out).mono ?_; rintro e w7 ⟨rfl, hb⟩; have HB7 := Lib.hid (HB6.out.trans (hb.mono HB6.out.size)); clear hb)
          | (refine (same_any A A2 c c2 l HLEN.out _ (HT.out.below HB2.out) HT2.out).mono ?_; rintro e w3 ⟨rfl, hb⟩; have HB3 := Lib.hid (HB2.out.trans (hb.mono HB2.out.size)); have tok3 := True.intro; clear hb))
        | (go_at_call 8; refine (CA.out _).mono ?_; rintro e w8 ⟨rfl, hb⟩; have HB8 := Lib.hid (HB7.out.trans (hb.mono HB7.out.size)); clear hb))
      go_ret
      exact ⟨rfl, HB8.out⟩
end Go.Proofs.Ytdilacalgkffcaa
