/-
  Layer 14: calls on a table that is none; the law's example.
-/
import Derived.Test.YtmohbdbofehamaaOBoth
namespace Go.Proofs.Ytmohbdbofehamaa
open Go Go.RowKit Go.Maps OSt
set_option linter.unusedVariables false
set_option linter.unusedSimpArgs false
set_option maxRecDepth 100000
/-! ### none -/
theorem leadsTo_nil (fd : Int) (w : World) : Calls Try.prog 34 #[.pointer none, .int .i64 fd] w fun e w' => e = .returned (.tuple #[.int .i64 0, .int .i64 1]) ∧ w = w' := by
  go_enter Try.func34, Try.ntmps34
  go_wp2_with fail
  go_ret2
  exact ⟨rfl, rfl⟩
theorem pathLeadsTo_nil (p : ByteArray) (w : World) : Calls Try.prog 41 #[.pointer none, .string p] w fun e w' => e = .returned (.tuple #[.int .i64 0, .int .i64 1]) ∧ w = w' := by
  go_enter Try.func41, Try.ntmps41
  go_wp2_with fail
  go_ret2
  exact ⟨rfl, rfl⟩
theorem add_nil (k : Int) (w : World) : Calls Try.prog 13 #[.pointer none, .int .i64 k] w fun e w' => e = .returned (.tuple #[.int .i64 0, .int .i64 0, .int .i64 1]) ∧ w = w' := by
  go_enter Try.func13, Try.ntmps13
  go_wp2_with fail
  go_ret3
  exact ⟨rfl, rfl⟩
theorem get_nil (fd : Int) (w : World) : Calls Try.prog 20 #[.pointer none, .int .i64 fd] w fun e w' => e = .returned (.tuple #[.int .i64 0, .int .i64 0, .int .i64 1]) ∧ w = w' := by
  go_enter Try.func20, Try.ntmps20
  go_wp2_with (go_at_call 34; refine (leadsTo_nil _ _).mono ?_; rintro e w1 ⟨rfl, rfl⟩)
  go_ret3
  exact ⟨rfl, rfl⟩
theorem dup_nil (fd : Int) (w : World) : Calls Try.prog 14 #[.pointer none, .int .i64 fd] w fun e w' => e = .returned (.tuple #[.int .i64 0, .int .i64 1]) ∧ w = w' := by
  go_enter Try.func14, Try.ntmps14
  go_wp2_with (go_at_call 34; refine (leadsTo_nil _ _).mono ?_; rintro e w1 ⟨rfl, rfl⟩)
  go_ret2
  exact ⟨rfl, rfl⟩
theorem close_nil (fd : Int) (w : World) : Calls Try.prog 17 #[.pointer none, .int .i64 fd] w fun e w' => e = .returned (.tuple #[.slice none 0 0, .int .i64 1]) ∧ w = w' := by
  go_enter Try.func17, Try.ntmps17
  go_wp2_with (go_at_call 34; refine (leadsTo_nil _ _).mono ?_; rintro e w1 ⟨rfl, rfl⟩)
  go_ret2
  exact ⟨rfl, rfl⟩
theorem drop_nil (k : Int) (w : World) : Calls Try.prog 19 #[.pointer none, .int .i64 k] w fun e w' => e = .returned (.tuple #[.slice none 0 0, .int .i64 1]) ∧ w = w' := by
  go_enter Try.func19, Try.ntmps19
  go_wp2_with fail
  go_ret2
  exact ⟨rfl, rfl⟩
theorem unpin_nil (p : ByteArray) (w : World) : Calls Try.prog 18 #[.pointer none, .string p] w fun e w' => e = .returned (.tuple #[.slice none 0 0, .int .i64 1]) ∧ w = w' := by
  go_enter Try.func18, Try.ntmps18
  go_wp2_with (go_at_call 41; refine (pathLeadsTo_nil _ _).mono ?_; rintro e w1 ⟨rfl, rfl⟩)
  go_ret2
  exact ⟨rfl, rfl⟩
theorem open_nil (p : ByteArray) (w : World) : Calls Try.prog 21 #[.pointer none, .string p] w fun e w' => e = .returned (.tuple #[.int .i64 0, .int .i64 1]) ∧ w = w' := by
  go_enter Try.func21, Try.ntmps21
  go_wp2_with (go_at_call 41; refine (pathLeadsTo_nil _ _).mono ?_; rintro e w1 ⟨rfl, rfl⟩)
  go_ret2
  exact ⟨rfl, rfl⟩
theorem hold_nil (k : Int) (w : World) : Calls Try.prog 16 #[.pointer none, .int .i64 k] w fun e w' => e = .returned (.int .i64 1) ∧ w = w' := by
  go_enter Try.func16, Try.ntmps16
  go_wp2_with fail
  go_ret
  exact ⟨rfl, rfl⟩
theorem pin_nil (p : ByteArray) (hp : p.size ≤ maxLen) (fd : Int) (w : World) : Calls Try.prog 15 #[.pointer none, .string p, .int .i64 fd] w fun e w' => e = .returned (.int .i64 1) ∧ w = w' := by
  have CP := Lib.hid (isPath_any p hp)
  clear hp
  cases hb : pathB p
  · rw [hb] at CP
    clear hb
    go_enter Try.func15, Try.ntmps15
    go_wp2_with (go_at_call 36; refine (CP.out _).mono ?_; rintro e w1 ⟨rfl, rfl⟩)
    go_ret
    exact ⟨rfl, rfl⟩
  · rw [hb] at CP
    clear hb
    go_enter Try.func15, Try.ntmps15
    go_wp2_with (first
      | (go_at_call 36; refine (CP.out _).mono ?_; rintro e w1 ⟨rfl, rfl⟩)
      | (go_at_call 34; refine (leadsTo_nil _ _).mono ?_; rintro e w1 ⟨rfl, rfl⟩))
    go_ret
    exact ⟨rfl, rfl⟩
theorem live_nil (w : World) : Calls Try.prog 10 #[.pointer none] w fun e w' => e = .returned (.slice none 0 0) ∧ w = w' := by
  go_enter Try.func10, Try.ntmps10
  go_wp2_with fail
  go_ret
  exact ⟨rfl, rfl⟩
/-! ### the example -/
abbrev pa : ByteArray := ⟨#[47, 97]⟩
def one1 (f : Nat) (ps : List (ByteArray × Nat)) (b : Bool) : OSt := ⟨[⟨5, 0, b⟩], f :: List.replicate 63 0, ps, 0⟩
theorem pathB_pa : pathB pa = true := by unfold pathB pa; decide
theorem findP_pa (n : Nat) : findP [(pa, n)] pa = some 0 := by unfold findP; rw [if_pos (keyB_iff.2 rfl)]
def aS (k : Nat) : OSt := match k with
  | 0 => newO
  | 1 => ⟨[⟨5, 0, true⟩], 1 :: List.replicate 63 0, [], 0⟩
  | 2 => ⟨[⟨5, 0, true⟩], 1 :: List.replicate 63 0, [(pa, 1)], 1⟩
  | 3 => ⟨[⟨5, 0, true⟩], 0 :: List.replicate 63 0, [(pa, 1)], 1⟩
  | 4 => ⟨[⟨5, 0, true⟩], 1 :: List.replicate 63 0, [(pa, 1)], 1⟩
  | 5 => ⟨[⟨5, 0, true⟩], 1 :: List.replicate 63 0, [], 1⟩
  | _ => ⟨[⟨5, 0, false⟩], 0 :: List.replicate 63 0, [], 1⟩
theorem a1 : addS newO 5 = aS 1 ∧ addN newO = 0 ∧ addP newO = 1 ∧ openE newO = 0 := ⟨rfl, rfl, rfl, rfl⟩
theorem a2 : pinS (aS 1) pa 0 = aS 2 ∧ pinBad (aS 1) pa 0 = 0 := by
  have h : pinBad (aS 1) pa 0 = 0 := by
    unfold pinBad
    rw [pathB_pa]
    rfl
  exact ⟨by unfold pinS; rw [if_pos h]; rfl, h⟩
theorem a3 : closeS (aS 2) 0 = aS 3 ∧ closeL (aS 2) 0 = [] ∧ fdE (aS 2) 0 = 0 := ⟨rfl, rfl, rfl⟩
theorem pid (k : Nat) (h : (aS k).pins = [(pa, 1)]) : (aS k).pinId pa = 1 := by
  unfold pinId
  rw [h, findP_pa]
  rfl
theorem pe (k : Nat) (h : (aS k).pins = [(pa, 1)]) : pathE (aS k) pa = 0 := by
  unfold pathE
  rw [pathB_pa, pid k h]
  rfl
theorem a4 : opS (aS 3) pa = aS 4 ∧ opN (aS 3) pa = 0 ∧ opE (aS 3) pa = 0 := by
  have h := pe 3 rfl
  refine ⟨?_, ?_, ?_⟩
  · unfold opS; rw [if_pos h, pid 3 rfl]; rfl
  · unfold opN; rw [if_pos h]; rfl
  · unfold opE; rw [if_pos h]; rfl
theorem a5 : unpinS (aS 4) pa = aS 5 ∧ unpinL (aS 4) pa = [] ∧ pathE (aS 4) pa = 0 := by
  have h := pe 4 rfl
  have hu : unpinned (aS 4) pa = aS 5 := by
    unfold unpinned
    rw [show (aS 4).pins = [(pa, 1)] from rfl, findP_pa]
    rfl
  refine ⟨?_, ?_, h⟩
  · unfold unpinS; rw [if_pos h, pid 4 rfl, hu]; rfl
  · unfold unpinL; rw [if_pos h, pid 4 rfl, hu]; rfl
theorem a6 : closeS (aS 5) 0 = aS 6 ∧ closeL (aS 5) 0 = [1] ∧ fdE (aS 5) 0 = 0 ∧ liveS (aS 6) = [] := ⟨rfl, rfl, rfl, rfl⟩
theorem aok1 : OOk 1 (aS 1) := a1.1 ▸ ok_add (newO_ok 0) 5
theorem aok2 : OOk 2 (aS 2) := a2.1 ▸ ok_pin aok1 pa 0
theorem aok3 : OOk 2 (aS 3) := a3.1 ▸ ok_close aok2 0
theorem aok4 : OOk 2 (aS 4) := a4.1 ▸ ok_op aok3 pa
theorem aok5 : OOk 2 (aS 5) := a5.1 ▸ ok_unpin aok4 pa
theorem aok6 : OOk 2 (aS 6) := a6.1 ▸ ok_close aok5 0
section
variable {B x : Nat} {w0 w : World}
theorem aw1 (h : TO B w0 x newO w) : Calls Try.prog 13 #[tp x, .int .i64 5] w fun e w' => e = .returned (.tuple #[.int .i64 0, .int .i64 1, .int .i64 0]) ∧ TO B w0 x (aS 1) w' :=
  h.call fun P hg => add_any hg (newO_ok 0) (by decide) 5
theorem aw2 (h : TO B w0 x (aS 1) w) : Calls Try.prog 15 #[tp x, .string pa, .int .i64 0] w fun e w' => e = .returned (.int .i64 0) ∧ TO B w0 x (aS 2) w' :=
  h.call fun P hg => by
    have := pin_any hg aok1 (by decide) pa (by decide) 0
    rw [a2.1, a2.2] at this
    exact this
theorem aw3 (h : TO B w0 x (aS 2) w) : Calls Try.prog 17 #[tp x, .int .i64 0] w fun e w' => (∃ A c, e = .returned (.tuple #[.slice A 0 c, .int .i64 0])) ∧ TO B w0 x (aS 3) w' :=
  h.call fun P hg => (close_any hg aok2 (by decide) 0).mono fun e w' ⟨A, c, he, _, hg'⟩ => ⟨⟨A, c, he⟩, hg'⟩
theorem aw4 (h : TO B w0 x (aS 3) w) : Calls Try.prog 21 #[tp x, .string pa] w fun e w' => e = .returned (.tuple #[.int .i64 0, .int .i64 0]) ∧ TO B w0 x (aS 4) w' :=
  h.call fun P hg => by
    have := open_any hg aok3 (by decide) pa (by decide)
    rw [a4.1, a4.2.1, a4.2.2] at this
    exact this
theorem aw5 (h : TO B w0 x (aS 4) w) : Calls Try.prog 18 #[tp x, .string pa] w fun e w' => (∃ A c, e = .returned (.tuple #[.slice A 0 c, .int .i64 0])) ∧ TO B w0 x (aS 5) w' :=
  h.call fun P hg => by
    have := unpin_any hg aok4 (by decide) pa (by decide)
    rw [a5.1, a5.2.1, a5.2.2] at this
    exact this.mono fun e w' ⟨A, c, he, _, hg'⟩ => ⟨⟨A, c, he⟩, hg'⟩
theorem aw6 (h : TO B w0 x (aS 5) w) : Calls Try.prog 17 #[tp x, .int .i64 0] w fun e w' => (∃ g o c, e = .returned (.tuple #[.slice (some ⟨g, o, none⟩) 1 c, .int .i64 0]) ∧ w'.cell? ⟨g, o, none⟩ = some (.int .i64 1)) ∧ TO B w0 x (aS 6) w' :=
  h.call fun P hg => (close_any hg aok5 (by decide) 0).mono fun e w' ⟨A, c, he, hr, hg'⟩ => by
    obtain ⟨g, o, rfl, _, _, hc, _⟩ := hr 0 1 rfl
    exact ⟨⟨g, o, c, he, hc⟩, hg'⟩
theorem aw7 (h : TO B w0 x (aS 6) w) : Calls Try.prog 10 #[tp x] w fun e w' => (∃ A c, e = .returned (.slice A 0 c)) ∧ Below B w0 w' :=
  (h.live aok6 (by decide)).mono fun e w' ⟨A, c, he, _, hg'⟩ => ⟨⟨A, c, he⟩, hg'.below⟩
end
set_option maxHeartbeats 1000000 in
theorem awake_any (w : World) : Calls Try.prog 12 #[] w fun e w' => e = .returned (.bool true) ∧ Below w.heap.size w w' := by
  have CN := Lib.hid (new_any w)
  have H0 := Lib.hid (TO.new w)
  have C1 := Lib.hid (fun W (h : TO w.heap.size w w.heap.size newO W) => aw1 h)
  have C2 := Lib.hid (fun W (h : TO w.heap.size w w.heap.size (aS 1) W) => aw2 h)
  have C3 := Lib.hid (fun W (h : TO w.heap.size w w.heap.size (aS 2) W) => aw3 h)
  have C4 := Lib.hid (fun W (h : TO w.heap.size w w.heap.size (aS 3) W) => aw4 h)
  have C5 := Lib.hid (fun W (h : TO w.heap.size w w.heap.size (aS 4) W) => aw5 h)
  have C6 := Lib.hid (fun W (h : TO w.heap.size w w.heap.size (aS 5) W) => aw6 h)
  have C7 := Lib.hid (fun W (h : TO w.heap.size w w.heap.size (aS 6) W) => aw7 h)
  generalize tabC none 0 newO.fds none = T0 at *
  go_enter Try.func12, Try.ntmps12
  go_upto_region 10 with (first
    | (go_at_call 7; refine CN.out.mono ?_; rintro e w1 ⟨rfl, rfl⟩)
    | (go_at_call 13; refine (C1.out _ H0.out).mono ?_; rintro e w1 ⟨rfl, h1⟩; have H1 := Lib.hid h1; clear h1)
    | (go_at_call 15; refine (C2.out _ H1.out).mono ?_; rintro e w2 ⟨rfl, h2⟩; have H2 := Lib.hid h2; clear h2)
    | (have _p := H5.out; go_at_call 17; refine (C6.out _ H5.out).mono ?_; rintro e w6 ⟨⟨g6, o6, c6, rfl, d6⟩, h6⟩; have H6 := Lib.hid h6; clear h6)
    | (go_at_call 17; refine (C3.out _ H2.out).mono ?_; rintro e w3 ⟨⟨A3, c3, rfl⟩, h3⟩; have H3 := Lib.hid h3; clear h3)
    | (go_at_call 21; refine (C4.out _ H3.out).mono ?_; rintro e w4 ⟨rfl, h4⟩; have H4 := Lib.hid h4; clear h4)
    | (go_at_call 18; refine (C5.out _ H4.out).mono ?_; rintro e w5 ⟨⟨A5, c5, rfl⟩, h5⟩; have H5 := Lib.hid h5; clear h5))
  go_wp2_with (go_at_call 10; refine (C7.out _ H6.out).mono ?_; rintro e w7 ⟨⟨A7, c7, rfl⟩, h7⟩; have H7 := Lib.hid h7; clear h7)
  go_ret
  exact ⟨rfl, H7.out⟩
theorem awake_later {B : Nat} {w0 w : World} (hb : Below B w0 w) (hB : B ≤ w.heap.size) : Calls Try.prog 12 #[] w fun e w' => e = .returned (.bool true) ∧ Below B w0 w' := by
  refine (awake_any w).mono ?_
  rintro e w' ⟨rfl, h⟩
  exact ⟨rfl, hb.trans (h.mono hB)⟩
end Go.Proofs.Ytmohbdbofehamaa
