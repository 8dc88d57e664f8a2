/-
  Layer 6: where a blob's parts lie; a reader of one.
-/
import Derived.Test.YtmfdojmecpdikaaBRead
import Derived.Test.YtmfdojmecpdikaaBCut
namespace Go.Proofs.Ytmfdojmecpdikaa
open Go Go.RowKit
set_option linter.unusedVariables false
set_option linter.unusedSimpArgs false
set_option maxRecDepth 100000
def PostPart (w : World) (s : List UInt8) (p n : Int) (e : Ending) (w' : World) : Prop :=
  e = .returned (.tuple #[.string (if liesIn s p n then bstr (partOf s p n) else bstr []), .bool (liesIn s p n)]) ∧ ∃ k, w' = w.drewN k
set_option maxHeartbeats 2000000 in
theorem part_any (s h : List UInt8) (hs : s.length ≤ 4611686018427387904) (hh : 8 ≤ h.length) (hh2 : h.length ≤ 4611686018427387904) (w : World) :
    Calls Try.prog 35 #[.string (bstr s), .string (bstr h)] w (PostPart w s (num4 h) (num4 (h.drop 4))) := by
  have b1 := num4_lo h
  have b2 := num4_lo (h.drop 4)
  have C1 := Lib.hid (fun w => numberOf_any h (by omega) hh2 w)
  have C2 := Lib.hid (fun w => numberOf_any (h.drop 4) (by simp; omega) (by simp; omega) w)
  have hx : (bstr h).extract 4 (bstr h).size = bstr (h.drop 4) := by rw [bstr_size]; exact bstr_drop h 4 (by omega)
  have i1 : (4 : Int) ≤ ((bstr h).size : Int) := by rw [bstr_size]; omega
  have i2 : ((bstr s).size : Int) ≤ 4611686018427387904 := by rw [bstr_size]; omega
  have hsz := bstr_size s
  unfold PostPart
  obtain ⟨a, ha⟩ : ∃ a : Nat, num4 h = (a : Int) := ⟨(num4 h).toNat, by omega⟩
  obtain ⟨n, hn⟩ : ∃ n : Nat, num4 (h.drop 4) = (n : Int) := ⟨(num4 (h.drop 4)).toNat, by omega⟩
  rw [ha] at C1 b1
  rw [hn] at C2 b2
  rw [ha, hn]
  by_cases hle : a + n ≤ s.length
  · have hl : liesIn s a n = true := by unfold liesIn; simp; omega
    have hp : bstr (partOf s a n) = (bstr s).extract a (a + n) := by rw [bstr_cut]; unfold partOf; simp
    rw [hl, if_pos rfl, hp]
    have j1 : ((a : Int) + (n : Int)) ≤ ((bstr s).size : Int) := by omega
    have j2 : ((a : Int) + (n : Int)).toNat = a + n := by omega
    have j3 : (a : Int) ≤ (a : Int) + (n : Int) := by omega
    clear hl hp hle ha hn hsz
    go_enter Try.func35, Try.ntmps35
    go_wp2_with (go_at_call 43; first | (have h1 := tok2; refine (C2.out _).mono ?_; rintro e w2 ⟨rfl, k2, rfl⟩) | (refine (C1.out _).mono ?_; rintro e w1 ⟨rfl, k1, rfl⟩; have tok2 := True.intro))
    go_ret2
    first | exact ⟨rfl, ⟨_, rfl⟩⟩ | exact ⟨rfl, ⟨_, World.drewN_drewN _ _ _⟩⟩
  · have hl : liesIn s a n = false := by unfold liesIn; simp; omega
    rw [hl]
    simp only [Bool.false_eq_true, if_false]
    have j1 : ((bstr s).size : Int) < ((a : Int) + (n : Int)) := by omega
    clear hl hle ha hn hsz
    go_enter Try.func35, Try.ntmps35
    go_wp2_with (go_at_call 43; first | (have h1 := tok2; refine (C2.out _).mono ?_; rintro e w2 ⟨rfl, k2, rfl⟩) | (refine (C1.out _).mono ?_; rintro e w1 ⟨rfl, k1, rfl⟩; have tok2 := True.intro))
    go_ret2
    first | exact ⟨rfl, ⟨_, rfl⟩⟩ | exact ⟨rfl, ⟨_, World.drewN_drewN _ _ _⟩⟩
theorem part_small (s : List UInt8) (p n : Int) (h : n < 4294967296) : (partOf s p n).length ≤ 4294967296 := by
  have h2 : (partOf s p n).length ≤ n.toNat := by unfold partOf; simp; omega
  omega
theorem begins_zero (l : List UInt8) : beginsB l [0] = headZero l := by
  unfold beginsB
  cases l with
  | nil => rfl
  | cons a r => rw [Bool.eq_iff_iff]; simp [headZero]
theorem below_drew (w : World) (n : Nat) : Below w.heap.size w (w.drewN n) := ⟨rfl, rfl, rfl, Nat.le_refl _, fun _ _ => rfl⟩
def PostOpenV (w : World) (ok : Bool) (P1 P2 : ByteArray) (e : Ending) (w' : World) : Prop :=
  (ok = true ∧ ∃ g, e = .returned (.tuple #[.pointer (some ⟨g, 0, none⟩), .bool true]) ∧ w.heap.size ≤ g ∧ Blk w' g 63 #[.string P1, .string P2, .bool false] ∧ Below w.heap.size w w') ∨
  (ok = false ∧ e = .returned (.tuple #[.pointer none, .bool false]) ∧ Below w.heap.size w w')
set_option maxHeartbeats 4000000 in
theorem open_core (S H R H2 P1 P2 : ByteArray) (B0 b1 b2 b3 : Bool) (w : World) (hs : (24 : Int) ≤ (S.size : Int)) (hs2 : (S.size : Int) ≤ 4611686018427387904) (hx1 : S.extract 8 24 = H) (hx2 : S.extract 24 S.size = R) (hh : (8 : Int) ≤ (H.size : Int)) (hh2 : (H.size : Int) ≤ 16) (hx3 : H.extract 8 H.size = H2)
    (CP : Hid (∀ w, Calls Try.prog 34 #[.string S, .string ⟨#[159, 235, 1, 0, 24, 0, 0, 0]⟩] w fun e w' => e = .returned (.bool B0) ∧ w = w'))
    (C1 : Hid (∀ w, Calls Try.prog 35 #[.string R, .string H] w fun e w' => e = .returned (.tuple #[.string P1, .bool b1]) ∧ ∃ k, w' = w.drewN k))
    (C2 : Hid (∀ w, Calls Try.prog 35 #[.string R, .string H2] w fun e w' => e = .returned (.tuple #[.string P2, .bool b2]) ∧ ∃ k, w' = w.drewN k))
    (CQ : Hid (∀ w, Calls Try.prog 34 #[.string P2, .string ⟨#[0]⟩] w fun e w' => e = .returned (.bool b3) ∧ w = w')) :
    Calls Try.prog 22 #[.string S] w (PostOpenV w (B0 && (b1 && (b2 && b3))) P1 P2) := by
  cases B0
  · go_enter Try.func22, Try.ntmps22
    go_wp2_with (go_at_call 34; refine (CP.out _).mono ?_; rintro e w1 ⟨rfl, rfl⟩)
    go_ret2
    exact .inr ⟨rfl, rfl, Below.refl _ _⟩
  · cases b1
    · go_enter Try.func22, Try.ntmps22
      go_wp2_with (go_at_call 34; refine (CP.out _).mono ?_; rintro e w1 ⟨rfl, rfl⟩)
      go_quiet (fail)
      go_wp2_with (first | (go_at_call 35; first | (have tk := tok2; refine (C2.out _).mono ?_; rintro e w3 ⟨rfl, k3, rfl⟩) | (refine (C1.out _).mono ?_; rintro e w2 ⟨rfl, k2, rfl⟩; have tok2 := True.intro)) | (go_at_call 34; refine (CQ.out _).mono ?_; rintro e w4 ⟨rfl, rfl⟩))
      go_ret2
      exact .inr ⟨rfl, rfl, by (repeat rw [World.drewN_drewN]); exact below_drew _ _⟩
    · cases b2
      · go_enter Try.func22, Try.ntmps22
        go_wp2_with (go_at_call 34; refine (CP.out _).mono ?_; rintro e w1 ⟨rfl, rfl⟩)
        go_quiet (fail)
        go_wp2_with (first | (go_at_call 35; first | (have tk := tok2; refine (C2.out _).mono ?_; rintro e w3 ⟨rfl, k3, rfl⟩) | (refine (C1.out _).mono ?_; rintro e w2 ⟨rfl, k2, rfl⟩; have tok2 := True.intro)) | (go_at_call 34; refine (CQ.out _).mono ?_; rintro e w4 ⟨rfl, rfl⟩))
        go_ret2
        exact .inr ⟨rfl, rfl, by (repeat rw [World.drewN_drewN]); exact below_drew _ _⟩
      · cases b3
        · go_enter Try.func22, Try.ntmps22
          go_wp2_with (go_at_call 34; refine (CP.out _).mono ?_; rintro e w1 ⟨rfl, rfl⟩)
          go_quiet (fail)
          go_wp2_with (first | (go_at_call 35; first | (have tk := tok2; refine (C2.out _).mono ?_; rintro e w3 ⟨rfl, k3, rfl⟩) | (refine (C1.out _).mono ?_; rintro e w2 ⟨rfl, k2, rfl⟩; have tok2 := True.intro)) | (go_at_call 34; refine (CQ.out _).mono ?_; rintro e w4 ⟨rfl, rfl⟩))
          go_ret2
          exact .inr ⟨rfl, rfl, by (repeat rw [World.drewN_drewN]); exact below_drew _ _⟩
        · go_enter Try.func22, Try.ntmps22
          go_wp2_with (go_at_call 34; refine (CP.out _).mono ?_; rintro e w1 ⟨rfl, rfl⟩)
          go_quiet (fail)
          go_wp2_with (first | (go_at_call 35; first | (have tk := tok2; refine (C2.out _).mono ?_; rintro e w3 ⟨rfl, k3, rfl⟩) | (refine (C1.out _).mono ?_; rintro e w2 ⟨rfl, k2, rfl⟩; have tok2 := True.intro)) | (go_at_call 34; refine (CQ.out _).mono ?_; rintro e w4 ⟨rfl, rfl⟩))
          go_ret2
          refine .inl ⟨rfl, _, rfl, ?_, ?_, ?_⟩
          · simp
          · exact Blk.new _ _ _
          · exact Below.alloc (by (repeat rw [World.drewN_drewN]); exact below_drew _ _) (by simp) _
theorem heads (s : List UInt8) : num4 ((s.drop 8).take 16) = num4 (s.drop 8) ∧ num4 (((s.drop 8).take 16).drop 4) = num4 (s.drop 12) ∧ num4 (((s.drop 8).take 16).drop 8) = num4 (s.drop 16) ∧ num4 ((((s.drop 8).take 16).drop 8).drop 4) = num4 (s.drop 20) := by
  refine ⟨?_, ?_, ?_, ?_⟩ <;> (unfold num4; simp [List.getD, List.getElem?_take])
theorem open_eq (s : List UInt8) (h24 : 24 ≤ s.length) : openB s = (beginsB s opening && (liesIn (s.drop 24) (num4 (s.drop 8)) (num4 (s.drop 12)) && (liesIn (s.drop 24) (num4 (s.drop 16)) (num4 (s.drop 20)) && beginsB (partOf (s.drop 24) (num4 (s.drop 16)) (num4 (s.drop 20))) [0]))) := by
  unfold openB
  rw [begins_zero]
  have e8 : beginsB s opening = (s.take 8 == opening) := by
    unfold beginsB
    rw [show opening.length = 8 from rfl, decide_eq_true (show 8 ≤ s.length by omega), Bool.true_and, Bool.eq_iff_iff]; simp
  rw [e8, decide_eq_true h24, Bool.true_and, Bool.and_assoc, Bool.and_assoc]
def PostOpen (w : World) (s : List UInt8) (e : Ending) (w' : World) : Prop :=
  (openB s = true ∧ ∃ g, e = .returned (.tuple #[.pointer (some ⟨g, 0, none⟩), .bool true]) ∧ w.heap.size ≤ g ∧ RM w' g (openV s) ∧ Below w.heap.size w w') ∨
  (openB s = false ∧ e = .returned (.tuple #[.pointer none, .bool false]) ∧ Below w.heap.size w w')
theorem rm_open {w' : World} {s : List UInt8} {g : Nat} (h : Blk w' g 63 #[.string (bstr (partOf (s.drop 24) (num4 (s.drop 8)) (num4 (s.drop 12)))), .string (bstr (partOf (s.drop 24) (num4 (s.drop 16)) (num4 (s.drop 20)))), .bool false]) : RM w' g (openV s) :=
  ⟨h, part_small _ _ _ (num4_lo _).2, part_small _ _ _ (num4_lo _).2⟩
theorem zero_list : (ByteArray.mk #[0]).data.toList = [0] := rfl
theorem sz8 : (ByteArray.mk #[159, 235, 1, 0, 24, 0, 0, 0]).size ≤ 4611686018427387904 := by
  have : (ByteArray.mk #[159, 235, 1, 0, 24, 0, 0, 0]).size = 8 := rfl
  omega
theorem sz1 : (ByteArray.mk #[0]).size ≤ 4611686018427387904 := by
  have : (ByteArray.mk #[0]).size = 1 := rfl
  omega
theorem ite_size (b : Bool) (l : List UInt8) (h : l.length ≤ 4294967296) : (if b = true then bstr l else bstr []).size ≤ 4611686018427387904 := by
  split
  · rw [bstr_size]; omega
  · rw [bstr_size]; simp
set_option maxHeartbeats 1000000 in
theorem open_any (s : List UInt8) (hs : s.length ≤ 4611686018427387904) (w : World) :
    Calls Try.prog 22 #[.string (bstr s)] w (PostOpen w s) := by
  have hsz := bstr_size s
  by_cases h24 : 24 ≤ s.length
  · have S1 : (24 : Int) ≤ ((bstr s).size : Int) := by rw [hsz]; omega
    have S2 : ((bstr s).size : Int) ≤ 4611686018427387904 := by rw [hsz]; omega
    have S3 : (bstr s).size ≤ 4611686018427387904 := by rw [hsz]; exact hs
    have l16 : ((s.drop 8).take 16).length = 16 := by rw [List.length_take, List.length_drop]; omega
    have l8 : (((s.drop 8).take 16).drop 8).length = 8 := by rw [List.length_drop, l16]
    have lr : (s.drop 24).length ≤ 4611686018427387904 := by rw [List.length_drop]; omega
    obtain ⟨n1, n2, n3, n4⟩ := heads s
    have C1 := fun w => part_any (s.drop 24) ((s.drop 8).take 16) lr (by rw [l16]; decide) (by rw [l16]; decide) w
    have C2 := fun w => part_any (s.drop 24) (((s.drop 8).take 16).drop 8) lr (by rw [l8]; decide) (by rw [l8]; decide) w
    rw [n1, n2] at C1
    rw [n3, n4] at C2
    have lp := part_small (s.drop 24) (num4 (s.drop 16)) (num4 (s.drop 20)) (num4_lo _).2
    have hx3 : (bstr ((s.drop 8).take 16)).extract 8 (bstr ((s.drop 8).take 16)).size = bstr (((s.drop 8).take 16).drop 8) := by rw [bstr_size]; exact bstr_drop _ 8 (by rw [l16]; decide)
    have lq := ite_size (liesIn (s.drop 24) (num4 (s.drop 16)) (num4 (s.drop 20))) _ lp
    have main := open_core (bstr s) (bstr ((s.drop 8).take 16)) (bstr (s.drop 24)) (bstr (((s.drop 8).take 16).drop 8)) _ _ (beginsB s opening) _ _ _ w S1 S2 (bstr_cut s 8 24) (by rw [hsz]; exact bstr_drop s 24 h24) (by rw [bstr_size, l16]; decide) (by rw [bstr_size, l16]; decide) hx3
      (Lib.hid (fun w => by
        have := hasPrefix_any (bstr s) ⟨#[159, 235, 1, 0, 24, 0, 0, 0]⟩ S3 sz8 w
        rw [bstr_data, show (ByteArray.mk #[159, 235, 1, 0, 24, 0, 0, 0]).data.toList = opening from rfl] at this
        exact this)) (Lib.hid C1) (Lib.hid C2)
      (Lib.hid (fun w => hasPrefix_any _ ⟨#[0]⟩ lq sz1 w))
    refine main.mono fun e w' h => ?_
    have hO := open_eq s h24
    unfold PostOpenV at h
    rcases h with ⟨hok, g, he, hg, hblk, hb⟩ | ⟨hok, he, hb⟩
    · simp only [Bool.and_eq_true] at hok
      obtain ⟨k0, k1, k2, k3⟩ := hok
      rw [k1, k2, if_pos rfl, if_pos rfl] at hblk
      rw [k2, if_pos rfl, bstr_data] at k3
      refine .inl ⟨?_, g, he, hg, rm_open hblk, hb⟩
      rw [hO, k0, k1, k2, k3]
      rfl
    · refine .inr ⟨?_, he, hb⟩
      rw [hO]
      revert hok
      generalize beginsB s opening = B0
      intro hok
      cases k1 : liesIn (s.drop 24) (num4 (s.drop 8)) (num4 (s.drop 12))
      · rw [Bool.false_and, Bool.and_false]
      · cases k2 : liesIn (s.drop 24) (num4 (s.drop 16)) (num4 (s.drop 20))
        · rw [Bool.false_and, Bool.and_false, Bool.and_false]
        · rw [k1, k2, if_pos rfl, bstr_data] at hok
          exact hok
  · have g24 : ((bstr s).size : Int) < 24 := by omega
    have HF : Hid (openB s = false) := show openB s = false by unfold openB; rw [decide_eq_false h24]; rfl
    clear h24 hsz
    go_enter Try.func22, Try.ntmps22
    go_wp2_with fail
    go_ret2
    exact .inr ⟨HF.out, rfl, Below.refl _ _⟩
end Go.Proofs.Ytmfdojmecpdikaa
