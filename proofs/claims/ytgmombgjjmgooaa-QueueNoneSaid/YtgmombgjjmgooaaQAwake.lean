/-
  Layer 9: awake; the law QueueNone, walked.
-/
import Derived.Test.YtgmombgjjmgooaaQRAll
namespace Go.Proofs.Ytgmombgjjmgooaa
open Go Go.RowKit
set_option linter.unusedVariables false
set_option linter.unusedSimpArgs false
set_option maxRecDepth 100000
abbrev bs (b : UInt8) : ByteArray := ⟨#[b]⟩
section
variable {w : World} {x r g : Nat}
theorem aw_push (L L' : List ByteArray) (s : ByteArray) (fl e0 : Int) (he : pushE 1 2 L s fl = e0) (hl : pushL 1 2 L s fl = L') (w : World) (h : QM w x r g 22 1 2 L) :
    Calls Try.prog 9 #[rp x, .string s, .int .i64 fl] w fun e w' => e = .returned (.int .i64 e0) ∧ QM w' x r g 22 1 2 L' ∧ Keeps (rg r g) w w' := by
  have := push_any h (by decide) s fl
  rw [he, hl] at this
  exact this
end
set_option maxHeartbeats 1000000 in
theorem awake_any (w : World) : Calls Try.prog 16 #[] w fun e w' => e = .returned (.bool true) ∧ Below w.heap.size w w' := by
  have CN := Lib.hid (new_ok 22 1 2 (by decide) w)
  have CX := Lib.hid (new_no 22 4 1 2 (by decide))
  have C1 := Lib.hid (fun x r g => aw_push (x := x) (r := r) (g := g) [] [bs 97] (bs 97) 0 0 rfl rfl)
  have C2 := Lib.hid (fun x r g => aw_push (x := x) (r := r) (g := g) [bs 97] [bs 97, bs 98] (bs 98) 0 0 rfl rfl)
  have C3 := Lib.hid (fun x r g => aw_push (x := x) (r := r) (g := g) [bs 97, bs 98] [bs 97, bs 98] (bs 99) 0 3 rfl rfl)
  have C4 := Lib.hid (fun x r g => aw_push (x := x) (r := r) (g := g) [bs 97, bs 98] [bs 98, bs 99] (bs 99) 2 0 rfl rfl)
  have C5 := Lib.hid (fun w x r g (h : QM w x r g 22 1 2 [bs 98, bs 99]) => pop_queue (by decide) h)
  have C6 := Lib.hid (fun w x r g (h : QM w x r g 22 1 2 [bs 99]) => len_any h)
  go_enter Try.func16, Try.ntmps16
  go_upto_region 2 with (go_at_call 7; refine CN.out.mono ?_; rintro e w1 ⟨x, r, g, rfl, h1, h2, h3⟩; have H1 := Lib.hid h1; have HZ := Lib.hid h2; have B1 := Lib.hid h3; clear h1 h2 h3)
  clear CN
  go_upto_region 5 with (first
    | (have _p := H4.out; go_at_call 9; refine (C4.out _ _ _ _ H4.out).mono ?_; rintro e w5 ⟨rfl, h1, h2⟩; have H5 := Lib.hid h1; have K5 := Lib.hid h2; clear h1 h2)
    | (have _p := H3.out; go_at_call 9; refine (C3.out _ _ _ _ H3.out).mono ?_; rintro e w4 ⟨rfl, h1, h2⟩; have H4 := Lib.hid h1; have K4 := Lib.hid h2; clear h1 h2)
    | (have _p := H2.out; go_at_call 9; refine (C2.out _ _ _ _ H2.out).mono ?_; rintro e w3 ⟨rfl, h1, h2⟩; have H3 := Lib.hid h1; have K3 := Lib.hid h2; clear h1 h2)
    | (go_at_call 9; refine (C1.out _ _ _ _ H1.out).mono ?_; rintro e w2 ⟨rfl, h1, h2⟩; have H2 := Lib.hid h1; have K2 := Lib.hid h2; clear h1 h2))
  have KK := Lib.hid (keeps_rg K2.out (keeps_rg K3.out (keeps_rg K4.out K5.out)))
  clear C1 C2 C3 C4 H1 H2 H3 H4 K2 K3 K4 K5
  go_upto_region 7 with (first
    | (go_at_call 11; refine (C5.out _ _ _ _ H5.out).mono ?_; rintro e w6 ⟨rfl, h1, h2⟩; have H6 := Lib.hid h1; have K6 := Lib.hid (keeps_rg KK.out h2); clear h1 h2)
    | (go_at_call 7; refine (CX.out _).mono ?_; rintro e w7 ⟨rfl, hb⟩; have B7 := Lib.hid hb; have H7 := Lib.hid (H6.out.below hb); clear hb))
  go_wp2_with (go_at_call 15; refine (C6.out _ _ _ _ H7.out).mono ?_; rintro e w8 ⟨rfl, rfl⟩)
  go_ret
  have hz : w.heap.size ≤ x ∧ w.heap.size ≤ r ∧ w.heap.size ≤ g := HZ.out
  refine ⟨rfl, ?_⟩
  have k6 := K6.out.below (B := w.heap.size) (fun b hb => by rcases hb with rfl | rfl <;> omega) B1.out.size
  exact (B1.out.trans k6).trans (B7.out.mono (Nat.le_trans B1.out.size K6.out.size))
theorem awake_later {B : Nat} {w w' : World} (hb : Below B w w') (hB : B ≤ w'.heap.size) : Calls Try.prog 16 #[] w' fun e w'' => e = .returned (.bool true) ∧ Below B w w'' :=
  (awake_any w').mono fun e w'' h => ⟨h.1, hb.trans (h.2.mono hB)⟩
theorem none_walk (kd fl : Int) (vl : ByteArray) (w : World) :
    Calls Try.prog 5 #[.agg #[.int .i64 kd, .int .i64 fl, .string vl]] w fun e w' => e = .returned (.bool true) ∧ Below w.heap.size w w' := by
  have B0 := Lib.hid (below_alloc w (.cells #[.int .i64 kd, .int .i64 fl, .string vl] 33))
  go_enter Try.func5, Try.ntmps5
  go_wp2_with (first
    | (go_at_call 11; refine (pop_nil _).mono ?_; rintro e w1 ⟨rfl, rfl⟩)
    | (go_at_call 13; refine (peek_nil _).mono ?_; rintro e w1 ⟨rfl, rfl⟩)
    | (go_at_call 9; refine (push_nil _ _ _).mono ?_; rintro e w1 ⟨rfl, rfl⟩)
    | (go_at_call 15; refine (len_nil _).mono ?_; rintro e w1 ⟨rfl, rfl⟩)
    | (go_at_call 16; refine (awake_later B0.out B0.out.size).mono ?_; rintro e w7 ⟨rfl, hb⟩; have B7 := Lib.hid hb; clear hb))
  go_ret
  exact ⟨rfl, B7.out⟩
end Go.Proofs.Ytgmombgjjmgooaa
