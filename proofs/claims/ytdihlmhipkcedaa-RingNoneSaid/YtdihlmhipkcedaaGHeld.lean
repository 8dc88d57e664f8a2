/-
  Layer 12: the law RingHeld, walked.
-/
import Derived.Test.YtdihlmhipkcedaaGTexts
namespace Go.Proofs.Ytdihlmhipkcedaa
open Go Go.RowKit Go.Maps
set_option linter.unusedVariables false
set_option linter.unusedSimpArgs false
set_option maxRecDepth 100000
theorem bstr_data (v : ByteArray) : bstr v.data.toList = v := rfl
abbrev A0' : RSt := A0
def H2 (l : List UInt8) : RSt := (A0.reserved l.length).poked 1 l
def H3 (l : List UInt8) : RSt := (H2 l).put [98]
def H4 (l : List UInt8) (f : Nat) : RSt := ⟨(H3 l).m, f, (H3 l).rs⟩
abbrev hr (l : List UInt8) : Rec := ⟨1, l.length, 0, []⟩
abbrev hq : Rec := ⟨2, 1, 1, [98]⟩
theorem h_here (p : RPar) (l : List UInt8) (f : Nat) : Here p (H4 l f) [] (hr l) [hq] l := ⟨rfl, rfl, rfl, rfl⟩
theorem h_told1 (l : List UInt8) (f : Nat) : told ((H4 l f).ended [] (hr l) [hq] 1 l l).rs = [bstr l, bstr [98]] := rfl
theorem h_told2 (l : List UInt8) (f : Nat) : told ((H4 l f).ended [] (hr l) [hq] 2 [] l).rs = [bstr [98]] := rfl
theorem h_vs (l : List UInt8) : (A0.reserved l.length).m.vs 1 = some (3, List.replicate l.length 0, false) := rfl
theorem used_small (n : Nat) (h : n ≤ 200) : uses n ≤ 208 := by unfold uses; omega
section
variable {B : Nat} {w0 w3 : World} {p : RPar} {T : Nat → Prop} (hm : p.mx = 1024) {l : List UInt8} (h1 : 1 ≤ l.length) (h2 : l.length ≤ 200)
include hm h1 h2
theorem h_reserve (h : GB B w0 p A0 T w3) : Calls Try.prog 13 #[rp p.x, .int .i64 l.length] w3 fun e w' => e = .returned (.tuple #[.int .u64 (addr 1 0), .int .i64 0]) ∧ To B w0 p T w3 (A0.reserved l.length) w' :=
  h.reserve (by decide) (by decide) l.length h1 (by rw [hm]; omega) (by have := used_small l.length h2; rw [hm]; show 0 + uses l.length ≤ 1024; omega)
omit hm in
theorem h_put (h : GB B w0 p (A0.reserved l.length) T w3) : Calls Try.prog 14 #[.pointer (some ⟨p.bm, 0, none⟩), .int .u64 (addr 1 0), .string (bstr l)] w3 fun e w' => e = .returned (.int .i64 0) ∧ To B w0 p T w3 (H2 l) w' := by
  have hn : 1 ≤ 1 ∧ 1 ≤ (A0.reserved l.length).m.made := ⟨Nat.le_refl _, Nat.le_refl 1⟩
  have e := GB.poke (n := 1) (b := List.replicate l.length 0) (l := l) h hn (h_vs l) (by rw [List.length_replicate]; exact Nat.le_refl _) (by rw [List.length_replicate]; omega)
  rw [put_whole (by rw [List.length_replicate])] at e
  exact e
omit h1 in
theorem h_output (h : GB B w0 p (H2 l) T w3) : Calls Try.prog 8 #[rp p.x, .string ⟨#[98]⟩] w3 fun e w' => e = .returned (.int .i64 0) ∧ To B w0 p T w3 (H3 l) w' :=
  h.output (Nat.zero_ne_one) (show 1 < 4095 by decide) [98] (by decide) (by rw [hm]; decide) (by
    have := used_small l.length h2
    rw [hm]
    show uses l.length + 0 + uses 1 ≤ 1024
    have e : uses 1 = 16 := rfl
    omega)
omit hm h1 h2
theorem h_drain1 (h : GB B w0 p (H3 l) T w3) : Calls Try.prog 11 #[rp p.x] w3 fun e w' => ∃ A c f, e = .returned (.slice A 0 c) ∧ GB B w0 p (H4 l f) T w' := by
  refine (drain_any h.ring h.ok).mono ?_
  rintro e w' ⟨V, rfl, hd⟩
  obtain ⟨⟨A, c, rfl⟩, _, f, hg⟩ := h.drained_held hd (r := hr l) (q := [hq]) rfl rfl
  exact ⟨A, c, f, rfl, hg⟩
theorem h_submit (f : Nat) (h : GB B w0 p (H4 l f) T w3) : Calls Try.prog 15 #[rp p.x, .int .u64 (addr 1 0)] w3 fun e w' => e = .returned (.int .i64 0) ∧ To B w0 p T w3 ((H4 l f).ended [] (hr l) [hq] 1 l l) w' := by
  have e := GB.submit h (h_here _ l f)
  exact e
theorem h_discard (f : Nat) (h : GB B w0 p (H4 l f) T w3) : Calls Try.prog 16 #[rp p.x, .int .u64 (addr 1 0)] w3 fun e w' => e = .returned (.int .i64 0) ∧ To B w0 p T w3 ((H4 l f).ended [] (hr l) [hq] 2 [] l) w' := by
  have e := GB.discard h (h_here _ l f)
  exact e
/-- What is drained in the end, as a row. -/
theorem h_drain2 (f st : Nat) (txt : List UInt8) (hst : st ≠ 0) (L : List ByteArray) (hL : told ((H4 l f).ended [] (hr l) [hq] st txt l).rs = L) (n : Nat) (hn : L.length = n) (h : GB B w0 p ((H4 l f).ended [] (hr l) [hq] st txt l) T w3) : Calls Try.prog 11 #[rp p.x] w3 fun e w' => ∃ A c, e = .returned (.slice A n c) ∧ RowS w' A L ∧ Below B w0 w' ∧ B ≤ w'.heap.size ∧ Keeps (fun b => b = p.x ∨ w3.heap.size ≤ b) w3 w' := by
  subst hn
  refine (drain_any h.ring h.ok).mono ?_
  rintro e w' ⟨V, rfl, hd⟩
  have ha : ∀ r, r ∈ ((H4 l f).ended [] (hr l) [hq] st txt l).rs → r.state ≠ 0 := fun r hr' => by
    have hr' : r ∈ ([{ hr l with state := st, text := txt }, hq] : List Rec) := hr'
    rcases List.mem_cons.1 hr' with rfl | hr'
    · exact hst
    · rcases List.mem_cons.1 hr' with rfl | hr'
      · exact Nat.one_ne_zero
      · cases hr'
  obtain ⟨hs, hk, f', hg⟩ := h.drained_all hd ha
  rw [hL] at hs
  obtain ⟨A, c, rfl, hrow⟩ := strs_row hs
  exact ⟨A, c, rfl, hrow, hg.below, hg.sz, hk⟩
end
theorem RowS.keeps {w w' : World} {A : Option Addr} {L : List ByteArray} {S : Nat → Prop} (h : RowS w A L) (k : Keeps S w w') (hS : ∀ b, A = some ⟨b, 0, none⟩ → ¬ S b) : RowS w' A L := by
  intro i s hi
  obtain ⟨b, rfl, h1, h2⟩ := h i s hi
  refine ⟨b, rfl, Nat.lt_of_lt_of_le h1 k.size, ?_⟩
  have e := k.block b h1 (hS b rfl)
  unfold World.cell? at h2 ⊢
  rw [show (⟨b, i, none⟩ : Addr).block = b from rfl] at h2 ⊢
  rw [e]
  exact h2
theorem texts_n {w : World} {A A' : Option Addr} {c c' : Nat} {L : List ByteArray} (n : Nat) (hn : L.length = n) (h : RowS w A L) (h' : RowS w A' L) (hl : n ≤ 1048576) :
    Calls Try.prog 10 #[.slice A n c, .slice A' n c'] w fun e w' => e = .returned (.bool true) ∧ Below w.heap.size w w' := by
  subst hn
  exact texts_same h h' hl
theorem row_two (w : World) (a b : ByteArray) : RowS (w.alloc (.cells #[.string a, .string b] strT)) (some ⟨w.heap.size, 0, none⟩) [a, b] := by
  intro i s hi
  have hb := Blk.new w strT #[.string a, .string b]
  refine ⟨w.heap.size, rfl, by simp, ?_⟩
  rcases i with _ | _ | i
  · simp at hi; subst hi; exact hb.cell 0
  · simp at hi; subst hi; exact hb.cell 1
  · simp at hi
theorem row_one (w : World) (a : ByteArray) : RowS (w.alloc (.cells #[.string a] strT)) (some ⟨w.heap.size, 0, none⟩) [a] := by
  intro i s hi
  have hb := Blk.new w strT #[.string a]
  refine ⟨w.heap.size, rfl, by simp, ?_⟩
  rcases i with _ | i
  · simp at hi; subst hi; exact hb.cell 0
  · simp at hi
set_option maxHeartbeats 4000000 in
theorem held_walk (v : ByteArray) (keep : Bool) (w : World) : Calls Try.prog 4 #[.string v, .bool keep] w fun e w' => e = .returned (.bool true) ∧ Below w.heap.size w w' := by
  by_cases hv : v.size < 1 ∨ 200 < v.size
  · have CA := Lib.hid (awake_any w)
    by_cases h1 : v.size < 1
    · have b1 : decide ((v.size : Int) < 1) = true := by simp; omega
      clear hv h1
      go_enter Try.func4, Try.ntmps4
      go_wp2_with (go_at_call 12; refine CA.out.mono ?_; rintro e w7 ⟨rfl, hb⟩; have B7 := Lib.hid hb; clear hb)
      go_ret
      exact ⟨rfl, B7.out⟩
    · have b1 : decide ((v.size : Int) < 1) = false := by simp; omega
      have b2 : decide (200 < (v.size : Int)) = true := by simp; omega
      clear hv h1
      go_enter Try.func4, Try.ntmps4
      go_wp2_with (go_at_call 12; refine CA.out.mono ?_; rintro e w7 ⟨rfl, hb⟩; have B7 := Lib.hid hb; clear hb)
      go_ret
      exact ⟨rfl, B7.out⟩
  · have b1 : decide ((v.size : Int) < 1) = false := by simp; omega
    have b2 : decide (200 < (v.size : Int)) = false := by simp; omega
    obtain ⟨l, rfl⟩ : ∃ l, v = bstr l := ⟨v.data.toList, rfl⟩
    have hsz := bstr_size l
    have L1 : Hid (1 ≤ l.length ∧ l.length ≤ 200) := ⟨by omega, by omega⟩
    have hszi : ((bstr l).size : Int) = (l.length : Int) := by omega
    have C0 := Lib.hid (new_any w)
    have CN := Lib.hid (gb_new w 1024 (.inr (.inl rfl)))
    clear hv hsz
    rw [hszi] at b1 b2
    go_enter Try.func4, Try.ntmps4
    go_upto_region 7 with (first
      | (go_at_call 6; refine C0.out.mono ?_; rintro e w1 ⟨rfl, rfl⟩)
      | (go_at_call 7; refine CN.out.mono ?_; rintro e w2 ⟨x, g, mb, rfl, hf⟩; have F := Lib.hid hf; clear hf))
    clear C0 CN
    generalize hp : (⟨w.heap.size, x, g, mb, 1024⟩ : RPar) = p at F
    have hm : p.mx = 1024 := by rw [← hp]
    have hx : x = p.x := by rw [← hp]
    have hbm : p.bm = w.heap.size := by rw [← hp]
    have HM := Lib.hid hm
    have HBM := Lib.hid hbm
    clear hm hp hbm
    subst hx
    go_upto_region 8 with (go_at_call 13; refine (h_reserve HM.out L1.out.1 L1.out.2 F.out).mono ?_; rintro e w3 ⟨rfl, T1, g1, _, _⟩; have G1 := Lib.hid g1; clear g1)
    have cp := h_put L1.out.1 L1.out.2 G1.out
    rw [HBM.out] at cp
    have CP := Lib.hid cp
    clear cp
    go_upto_region 10 with (first
      | (go_at_call 14; refine CP.out.mono ?_; rintro e w4 ⟨rfl, T2, g2, _, _⟩; have G2 := Lib.hid g2; clear g2)
      | (go_at_call 8; refine (h_output HM.out L1.out.2 G2.out).mono ?_; rintro e w5 ⟨rfl, T3, g3, _, _⟩; have G3 := Lib.hid g3; clear g3)
      | (go_at_call 11; refine (h_drain1 G3.out).mono ?_; rintro e w6 ⟨A, c, f, rfl, g4⟩; have G4 := Lib.hid g4; clear g4))
    have HLT := Lib.hid G4.out.ring.lt
    clear G1 G2 G3 F CP b1 b2 hszi
    cases keep
    · have HB1 := Lib.hid (below_alloc w6 (.cells #[.string ⟨#[98]⟩] strT))
      have R1 : Hid (RowS (w6.alloc (.cells #[.string ⟨#[98]⟩] strT)) (some ⟨w6.heap.size, 0, none⟩) [bstr [98]]) := row_one w6 ⟨#[98]⟩
      generalize hW : w6.alloc (.cells #[.string ⟨#[98]⟩] strT) = W at HB1 R1
      have HW := Lib.hid hW
      clear hW
      have G5 := Lib.hid (G4.out.quiet HB1.out)
      have CD : Hid (∀ T' w8, GB w.heap.size w p ((H4 l f).ended [] (hr l) [hq] 2 [] l) T' w8 → Calls Try.prog 11 #[rp p.x] w8 fun e w' => ∃ A c, e = .returned (.slice A 1 c) ∧ RowS w' A [bstr [98]] ∧ Below w.heap.size w w' ∧ w.heap.size ≤ w'.heap.size ∧ Keeps (fun b => b = p.x ∨ w8.heap.size ≤ b) w8 w') := fun T' w8 h => h_drain2 (l := l) f 2 [] (by decide) [bstr [98]] (h_told2 l f) 1 rfl h
      have CT : Hid (∀ w9 A c, RowS w9 A [bstr [98]] → RowS w9 (some ⟨w6.heap.size, 0, none⟩) [bstr [98]] → Calls Try.prog 10 #[.slice A 1 c, .slice (some ⟨w6.heap.size, 0, none⟩) 1 1] w9 fun e w' => e = .returned (.bool true) ∧ Below w9.heap.size w9 w') := fun w9 A c h1 h2 => texts_n 1 rfl h1 h2 (by decide)
      go_upto_region 14 with fail
      rw [HW.out]
      go_upto_region 15 with (go_at_call 16; refine (h_discard f G5.out).mono ?_; rintro e w8 ⟨rfl, T4, g6, k6, _⟩; have G6 := Lib.hid g6; have R6 := Lib.hid (R1.out.keeps k6 (fun b e hb => by cases e; have := HLT.out _ hb; omega)); clear g6 k6)
      have HZ := Lib.hid G6.out.sz
      go_wp2_with (first
        | (go_at_call 11; refine (CD.out _ _ G6.out).mono ?_; rintro e w9 ⟨A2, c2, rfl, q1, q2, q3, q4⟩; have Q1 := Lib.hid q1; have Q2 := Lib.hid q2; have Q3 := Lib.hid q3; have R9 := Lib.hid (R6.out.keeps q4 (fun b e hb => by cases e; rcases hb with hb | hb; (have := HLT.out p.x (.inr (.inl rfl)); omega); (have := (R6.out 0 _ rfl); obtain ⟨b, eb, h1, _⟩ := this; cases eb; omega))); clear q1 q2 q3 q4)
        | (go_at_call 10; refine (CT.out _ _ _ Q1.out R9.out).mono ?_; rintro e w10 ⟨rfl, hb⟩; have B10 := Lib.hid (Q2.out.trans (hb.mono Q3.out)); have Z10 := Lib.hid (Nat.le_trans Q3.out hb.size); clear hb)
        | (go_at_call 12; refine (awake_later B10.out Z10.out).mono ?_; rintro e w11 ⟨rfl, hb⟩; have B11 := Lib.hid hb; clear hb))
      go_ret
      exact ⟨rfl, B11.out⟩
    · have HB1 := Lib.hid (below_then (below_alloc w6 (.cells #[.string ⟨#[98]⟩] strT)) (below_alloc _ (.cells #[.string (bstr l), .string ⟨#[98]⟩] strT)))
      have r1 := row_two (w6.alloc (.cells #[.string ⟨#[98]⟩] strT)) (bstr l) ⟨#[98]⟩
      rw [show (w6.alloc (.cells #[.string ⟨#[98]⟩] strT)).heap.size = w6.heap.size + 1 by simp] at r1
      have R1 : Hid (RowS ((w6.alloc (.cells #[.string ⟨#[98]⟩] strT)).alloc (.cells #[.string (bstr l), .string ⟨#[98]⟩] strT)) (some ⟨w6.heap.size + 1, 0, none⟩) [bstr l, bstr [98]]) := r1
      clear r1
      generalize hW : (w6.alloc (.cells #[.string ⟨#[98]⟩] strT)).alloc (.cells #[.string (bstr l), .string ⟨#[98]⟩] strT) = W at HB1 R1
      have HW := Lib.hid hW
      clear hW
      have G5 := Lib.hid (G4.out.quiet HB1.out)
      have CD : Hid (∀ T' w8, GB w.heap.size w p ((H4 l f).ended [] (hr l) [hq] 1 l l) T' w8 → Calls Try.prog 11 #[rp p.x] w8 fun e w' => ∃ A c, e = .returned (.slice A 2 c) ∧ RowS w' A [bstr l, bstr [98]] ∧ Below w.heap.size w w' ∧ w.heap.size ≤ w'.heap.size ∧ Keeps (fun b => b = p.x ∨ w8.heap.size ≤ b) w8 w') := fun T' w8 h => h_drain2 (l := l) f 1 l (by decide) [bstr l, bstr [98]] (h_told1 l f) 2 rfl h
      have CT : Hid (∀ w9 A c, RowS w9 A [bstr l, bstr [98]] → RowS w9 (some ⟨w6.heap.size + 1, 0, none⟩) [bstr l, bstr [98]] → Calls Try.prog 10 #[.slice A 2 c, .slice (some ⟨w6.heap.size + 1, 0, none⟩) 2 2] w9 fun e w' => e = .returned (.bool true) ∧ Below w9.heap.size w9 w') := fun w9 A c h1 h2 => texts_n 2 rfl h1 h2 (by decide)
      go_upto_region 13 with fail
      rw [HW.out]
      go_upto_region 15 with (go_at_call 15; refine (h_submit f G5.out).mono ?_; rintro e w8 ⟨rfl, T4, g6, k6, _⟩; have G6 := Lib.hid g6; have R6 := Lib.hid (R1.out.keeps k6 (fun b e hb => by cases e; have := HLT.out _ hb; omega)); clear g6 k6)
      have HZ := Lib.hid G6.out.sz
      go_wp2_with (first
        | (go_at_call 11; refine (CD.out _ _ G6.out).mono ?_; rintro e w9 ⟨A2, c2, rfl, q1, q2, q3, q4⟩; have Q1 := Lib.hid q1; have Q2 := Lib.hid q2; have Q3 := Lib.hid q3; have R9 := Lib.hid (R6.out.keeps q4 (fun b e hb => by cases e; rcases hb with hb | hb; (have := HLT.out p.x (.inr (.inl rfl)); omega); (have := (R6.out 0 _ rfl); obtain ⟨b, eb, h1, _⟩ := this; cases eb; omega))); clear q1 q2 q3 q4)
        | (go_at_call 10; refine (CT.out _ _ _ Q1.out R9.out).mono ?_; rintro e w10 ⟨rfl, hb⟩; have B10 := Lib.hid (Q2.out.trans (hb.mono Q3.out)); have Z10 := Lib.hid (Nat.le_trans Q3.out hb.size); clear hb)
        | (go_at_call 12; refine (awake_later B10.out Z10.out).mono ?_; rintro e w11 ⟨rfl, hb⟩; have B11 := Lib.hid hb; clear hb))
      go_ret
      exact ⟨rfl, B11.out⟩
end Go.Proofs.Ytdihlmhipkcedaa
