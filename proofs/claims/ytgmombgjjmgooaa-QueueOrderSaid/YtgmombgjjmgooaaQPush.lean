/-
  Package queue: Push, Pop.
-/
import Derived.Test.YtgmombgjjmgooaaQNew
namespace Go.Proofs.Ytgmombgjjmgooaa
open Go Go.RowKit
set_option linter.unusedVariables false
set_option linter.unusedSimpArgs false
set_option maxRecDepth 100000
def pushE (v mx : Nat) (L : List ByteArray) (s : ByteArray) (fl : Int) : Int := if s.size = v ∧ (fl = 0 ∨ fl = 2) then (if L.length = mx ∧ fl = 0 then 3 else 0) else 1
def pushL (v mx : Nat) (L : List ByteArray) (s : ByteArray) (fl : Int) : List ByteArray := if pushE v mx L s fl = 0 then (if L.length = mx then L.tail else L) ++ [s] else L
def turn (k : Int) (L : List ByteArray) : Option ByteArray := if k = 23 then L.getLast? else L.head?
def rest (k : Int) (L : List ByteArray) : List ByteArray := if k = 23 then L.dropLast else L.tail
def peekS (k : Int) (L : List ByteArray) : ByteArray := (turn k L).getD ⟨#[]⟩
def peekE (k : Int) (L : List ByteArray) : Int := if L = [] then 4 else 0
theorem push_nil (s : ByteArray) (fl : Int) (w : World) : Calls Try.prog 9 #[.pointer none, .string s, .int .i64 fl] w fun e w' => e = .returned (.int .i64 1) ∧ w = w' := by
  go_enter Try.func9, Try.ntmps9
  go_wp2_with (go_at_call 20; refine (none_nil _).mono ?_; rintro e w1 ⟨rfl, rfl⟩)
  go_ret
  exact ⟨rfl, rfl⟩
theorem pop_nil (w : World) : Calls Try.prog 11 #[.pointer none] w fun e w' => e = .returned (.tuple #[.string ⟨#[]⟩, .int .i64 1]) ∧ w = w' := by
  go_enter Try.func11, Try.ntmps11
  go_wp2_with (go_at_call 13; refine (peek_nil _).mono ?_; rintro e w1 ⟨rfl, rfl⟩)
  go_ret2
  exact ⟨rfl, rfl⟩
section
variable {w : World} {x r g mx v : Nat} {k : Int} {L : List ByteArray}
theorem push_len (h : QM w x r g k v mx L) (s : ByteArray) (hs : s.size ≠ v) (fl : Int) : Calls Try.prog 9 #[rp x, .string s, .int .i64 fl] w fun e w' => e = .returned (.int .i64 1) ∧ w = w' := by
  have CN := Lib.hid (none_no h.map)
  have c2 : w.cell? ⟨x, 2, none⟩ = some (.int .i64 v) := h.map.cell 2
  have e1 : ((s.size : Int) != (v : Int)) = true := by simp; omega
  clear h hs
  go_enter Try.func9, Try.ntmps9
  go_wp2_with (go_at_call 20; refine CN.out.mono ?_; rintro e w1 ⟨rfl, rfl⟩)
  go_ret
  exact ⟨rfl, rfl⟩
theorem push_flag (h : QM w x r g k v mx L) (s : ByteArray) (hs : s.size = v) (fl : Int) (h0 : fl ≠ 0) (h2 : fl ≠ 2) : Calls Try.prog 9 #[rp x, .string s, .int .i64 fl] w fun e w' => e = .returned (.int .i64 1) ∧ w = w' := by
  have CN := Lib.hid (none_no h.map)
  have c2 : w.cell? ⟨x, 2, none⟩ = some (.int .i64 v) := h.map.cell 2
  have e1 : ((s.size : Int) != (v : Int)) = false := by simp; omega
  have e2 : (fl != 0) = true := by simpa using h0
  have e3 : (fl != 2) = true := by simpa using h2
  clear h hs h0 h2
  go_enter Try.func9, Try.ntmps9
  go_wp2_with (go_at_call 20; refine CN.out.mono ?_; rintro e w1 ⟨rfl, rfl⟩)
  go_ret
  exact ⟨rfl, rfl⟩
theorem push_full (h : QM w x r g k v mx L) (s : ByteArray) (hs : s.size = v) (hl : L.length = mx) : Calls Try.prog 9 #[rp x, .string s, .int .i64 0] w fun e w' => e = .returned (.int .i64 3) ∧ Below w.heap.size w w' := by
  have CN := Lib.hid (none_no h.map)
  have CF := Lib.hid (row_full h.row)
  rw [decide_eq_true hl] at CF
  have c2 : w.cell? ⟨x, 2, none⟩ = some (.int .i64 v) := h.map.cell 2
  have c4 : w.cell? ⟨x, 4, none⟩ = some (rp r) := h.map.cell 4
  have e1 : ((s.size : Int) != (v : Int)) = false := by simp; omega
  clear h hs hl
  go_enter Try.func9, Try.ntmps9
  go_wp2_with (first
    | (go_at_call 20; refine CN.out.mono ?_; rintro e w1 ⟨rfl, rfl⟩)
    | (go_at_call 21; refine CF.out.mono ?_; rintro e w1 ⟨rfl, m, rfl⟩))
  go_ret
  exact ⟨rfl, below_drewN _ _⟩
theorem keeps_grow {w w' : World} (hb : Below w.heap.size w w') : Keeps (fun _ => False) w w' := Below.keeps hb fun b h1 h2 => by omega
theorem rg_lt (h : QM w x r g k v mx L) : ∀ b, rg r g b → b < w.heap.size := by
  rintro b (rfl | rfl)
  · exact h.row.lt.1
  · exact h.row.lt.2
theorem keeps_rg {w w1 w2 : World} (h1 : Keeps (rg r g) w w1) (h2 : Keeps (rg r g) w1 w2) : Keeps (rg r g) w w2 := h1.trans (h2.mono fun _ h => .inl h)
theorem keeps_below {w w1 : World} (h : Below w.heap.size w w1) : Keeps (rg r g) w w1 := (keeps_grow h).mono fun _ h => h.elim
theorem keeps_undrew {S : Nat → Prop} {w w' : World} (h : Keeps S w.drew w') : Keeps S w w' := ⟨h.os, h.tape, h.output, h.size, h.block⟩
set_option maxHeartbeats 1000000 in
theorem push_room (h : QM w x r g k v mx L) (s : ByteArray) (hs : s.size = v) (fl : Int) (hf : fl = 0 ∨ fl = 2) (hl : L.length < mx) :
    Calls Try.prog 9 #[rp x, .string s, .int .i64 fl] w fun e w' => e = .returned (.int .i64 0) ∧ QM w' x r g k v mx (L ++ [s]) ∧ Keeps (rg r g) w w' := by
  have CN := Lib.hid (none_no h.map)
  have CF := Lib.hid (row_full h.row)
  rw [decide_eq_false (by omega)] at CF
  have CC := Lib.hid (clone_any s (by have := h.v4; omega))
  have CA := Lib.hid (fun w' (hr : Row w' r g mx L) => row_add (s := s) hr hl)
  have H := Lib.hid h
  have c2 : w.cell? ⟨x, 2, none⟩ = some (.int .i64 v) := h.map.cell 2
  have c4 : w.cell? ⟨x, 4, none⟩ = some (rp r) := h.map.cell 4
  have e1 : ((s.size : Int) != (v : Int)) = false := by simp; omega
  have hf' : ((fl != 0) = false) ∨ ((fl != 0) = true ∧ (fl != 2) = false) := by rcases hf with rfl | rfl <;> simp
  clear h hs hl hf
  rcases hf' with e2 | ⟨e2, e3⟩
  · go_enter Try.func9, Try.ntmps9
    go_upto_region 7 with (first
      | (go_at_call 20; refine CN.out.mono ?_; rintro e w1 ⟨rfl, rfl⟩)
      | (go_at_call 21; refine CF.out.mono ?_; rintro e w1 ⟨rfl, m, hm⟩; have H0 : Hid (QM w1 x r g k v mx L) := hm ▸ H.out.drewN m; have B1 : Hid (Below w.heap.size w w1) := hm ▸ below_drewN w m; clear hm))
    clear H
    have S0 : Hid (w1.cell? ⟨x, 4, none⟩ = some (rp r)) := H0.out.map.cell 4
    go_region_held3 (fun W => W.cell? ⟨x, 4, none⟩ = some (rp r))
      (first | exact S0.out | exact S1.out | exact S2.out)
      (first
        | (go_at_call 24; refine (CC.out _).mono ?_; rintro e w2 ⟨rfl, hb⟩; have B2 := Lib.hid (below_undrew hb); have H2 := Lib.hid (H0.out.below (below_undrew hb)); have S1 : Hid (w2.cell? ⟨x, 4, none⟩ = some (rp r)) := H2.out.map.cell 4; clear hb)
        | (go_at_call 23; refine (CA.out _ H2.out.row).mono ?_; rintro e w3 ⟨rfl, hr, hk⟩; have H3 := Lib.hid (H2.out.turn hr hk); have K3 := Lib.hid hk; have S2 : Hid (w3.cell? ⟨x, 4, none⟩ = some (rp r)) := H3.out.map.cell 4; clear hr hk))
    go_wp2_with fail
    go_ret
    exact ⟨rfl, H3.out, keeps_rg (keeps_below (below_then B1.out B2.out)) K3.out⟩
  · go_enter Try.func9, Try.ntmps9
    go_upto_region 7 with (first
      | (go_at_call 20; refine CN.out.mono ?_; rintro e w1 ⟨rfl, rfl⟩)
      | (go_at_call 21; refine CF.out.mono ?_; rintro e w1 ⟨rfl, m, hm⟩; have H0 : Hid (QM w1 x r g k v mx L) := hm ▸ H.out.drewN m; have B1 : Hid (Below w.heap.size w w1) := hm ▸ below_drewN w m; clear hm))
    clear H
    have S0 : Hid (w1.cell? ⟨x, 4, none⟩ = some (rp r)) := H0.out.map.cell 4
    go_region_held3 (fun W => W.cell? ⟨x, 4, none⟩ = some (rp r))
      (first | exact S0.out | exact S1.out | exact S2.out)
      (first
        | (go_at_call 24; refine (CC.out _).mono ?_; rintro e w2 ⟨rfl, hb⟩; have B2 := Lib.hid (below_undrew hb); have H2 := Lib.hid (H0.out.below (below_undrew hb)); have S1 : Hid (w2.cell? ⟨x, 4, none⟩ = some (rp r)) := H2.out.map.cell 4; clear hb)
        | (go_at_call 23; refine (CA.out _ H2.out.row).mono ?_; rintro e w3 ⟨rfl, hr, hk⟩; have H3 := Lib.hid (H2.out.turn hr hk); have K3 := Lib.hid hk; have S2 : Hid (w3.cell? ⟨x, 4, none⟩ = some (rp r)) := H3.out.map.cell 4; clear hr hk))
    go_wp2_with fail
    go_ret
    exact ⟨rfl, H3.out, keeps_rg (keeps_below (below_then B1.out B2.out)) K3.out⟩
theorem push_over {a : ByteArray} (h : QM w x r g k v mx (a :: L)) (s : ByteArray) (hs : s.size = v) (hl : L.length + 1 = mx) :
    Calls Try.prog 9 #[rp x, .string s, .int .i64 2] w fun e w' => e = .returned (.int .i64 0) ∧ QM w' x r g k v mx (L ++ [s]) ∧ Keeps (rg r g) w w' := by
  have CN := Lib.hid (none_no h.map)
  have CF := Lib.hid (row_full h.row)
  rw [decide_eq_true (by simpa using hl)] at CF
  have CD := Lib.hid (fun m => row_dropOldest (h.row.drewN m))
  have CC := Lib.hid (clone_any s (by have := h.v4; omega))
  have CA := Lib.hid (fun w' (hr : Row w' r g mx L) => row_add (s := s) hr (by omega))
  have H := Lib.hid h
  have c2 : w.cell? ⟨x, 2, none⟩ = some (.int .i64 v) := h.map.cell 2
  have c4 : w.cell? ⟨x, 4, none⟩ = some (rp r) := h.map.cell 4
  have e1 : ((s.size : Int) != (v : Int)) = false := by simp; omega
  clear h hs hl
  go_enter Try.func9, Try.ntmps9
  go_upto_region 7 with (first
    | (go_at_call 20; refine CN.out.mono ?_; rintro e w1 ⟨rfl, rfl⟩)
    | (go_at_call 21; refine CF.out.mono ?_; rintro e w1 ⟨rfl, m, rfl⟩)
    | (go_at_call 22; refine (CD.out _).mono ?_; rintro e w1 ⟨rfl, hr, hk⟩; have HR := Lib.hid hr; have HK : Hid (Keeps (rg r g) w w1) := keeps_rg (keeps_below (below_drewN _ _)) hk; clear hr hk))
  have H0 := Lib.hid (H.out.turn HR.out HK.out)
  clear H CD
  have S0 : Hid (w1.cell? ⟨x, 4, none⟩ = some (rp r)) := H0.out.map.cell 4
  go_region_held3 (fun W => W.cell? ⟨x, 4, none⟩ = some (rp r))
    (first | exact S0.out | exact S1.out | exact S2.out)
    (first
      | (go_at_call 24; refine (CC.out _).mono ?_; rintro e w2 ⟨rfl, hb⟩; have B2 := Lib.hid (below_undrew hb); have H2 := Lib.hid (H0.out.below (below_undrew hb)); have S1 : Hid (w2.cell? ⟨x, 4, none⟩ = some (rp r)) := H2.out.map.cell 4; clear hb)
      | (go_at_call 23; refine (CA.out _ H2.out.row).mono ?_; rintro e w3 ⟨rfl, hr, hk⟩; have H3 := Lib.hid (H2.out.turn hr hk); have K3 := Lib.hid hk; have S2 : Hid (w3.cell? ⟨x, 4, none⟩ = some (rp r)) := H3.out.map.cell 4; clear hr hk))
  go_wp2_with fail
  go_ret
  exact ⟨rfl, H3.out, keeps_rg HK.out (keeps_rg (keeps_below B2.out) K3.out)⟩
end
end Go.Proofs.Ytgmombgjjmgooaa
