/-
  Packages queue and ring: calls on nil. Package maps: numbers of four bytes, and back. Programs' numbers by their places: a row of places, plainly.
-/
import Derived.Test.YtbikofedppgblaaGreatQ22
import Derived.Lib.SlBytesRow
import Derived.Maps.AppendAt
import Derived.BigQuiet
import Derived.Deep.QuietTactic
namespace Go.Proofs.YtbikofedppgblaaGreat
open Go Go.RowKit Go.Maps
set_option linter.unusedVariables false
set_option linter.unusedSimpArgs false
set_option maxRecDepth 100000
theorem qnone_nil (w : World) : Calls Tryz.prog 65 #[.pointer none] w fun e w' => e = .returned (.bool true) ∧ w = w' := by
  go_enter Tryz.func65, Tryz.ntmps65
  go_wp2_with fail
  go_ret
  exact ⟨rfl, rfl⟩
theorem qpeek_nil (w : World) : Calls Tryz.prog 33 #[.pointer none] w fun e w' => e = .returned (.tuple #[.string ⟨#[]⟩, .int .i64 1]) ∧ w = w' := by
  go_enter Tryz.func33, Tryz.ntmps33
  go_wp2_with (go_at_call 65; refine (qnone_nil _).mono ?_; rintro e w1 ⟨rfl, rfl⟩)
  go_ret2
  exact ⟨rfl, rfl⟩
theorem qpush_nil (s : ByteArray) (fl : Int) (w : World) : Calls Tryz.prog 37 #[.pointer none, .string s, .int .i64 fl] w fun e w' => e = .returned (.int .i64 1) ∧ w = w' := by
  go_enter Tryz.func37, Tryz.ntmps37
  go_wp2_with (go_at_call 65; refine (qnone_nil _).mono ?_; rintro e w1 ⟨rfl, rfl⟩)
  go_ret
  exact ⟨rfl, rfl⟩
theorem qpop_nil (w : World) : Calls Tryz.prog 32 #[.pointer none] w fun e w' => e = .returned (.tuple #[.string ⟨#[]⟩, .int .i64 1]) ∧ w = w' := by
  go_enter Tryz.func32, Tryz.ntmps32
  go_wp2_with (go_at_call 33; refine (qpeek_nil _).mono ?_; rintro e w1 ⟨rfl, rfl⟩)
  go_ret2
  exact ⟨rfl, rfl⟩
theorem rgone_nil (w : World) : Calls Tryz.prog 68 #[.pointer none] w fun e w' => e = .returned (.bool true) ∧ w = w' := by
  go_enter Tryz.func68, Tryz.ntmps68
  go_wp2_with fail
  go_ret
  exact ⟨rfl, rfl⟩
theorem rreserve_nil (z : Int) (w : World) : Calls Tryz.prog 35 #[.pointer none, .int .i64 z] w fun e w' => e = .returned (.tuple #[.int .u64 0, .int .i64 1]) ∧ w = w' := by
  have CG := Lib.hid rgone_nil
  go_enter Tryz.func35, Tryz.ntmps35
  go_wp2_with (go_at_call 68; refine (CG.out _).mono ?_; rintro e w1 ⟨rfl, rfl⟩)
  go_ret2
  exact ⟨rfl, rfl⟩
theorem rheldAt_nil (a : Int) (w : World) : Calls Tryz.prog 79 #[.pointer none, .int .u64 a] w fun e w' => e = .returned (.tuple #[.int .i64 0, .bool false]) ∧ w = w' := by
  have CG := Lib.hid rgone_nil
  go_enter Tryz.func79, Tryz.ntmps79
  go_wp2_with (go_at_call 68; refine (CG.out _).mono ?_; rintro e w1 ⟨rfl, rfl⟩)
  go_ret2
  exact ⟨rfl, rfl⟩
theorem rsubmit_nil (a : Int) (w : World) : Calls Tryz.prog 38 #[.pointer none, .int .u64 a] w fun e w' => e = .returned (.int .i64 1) ∧ w = w' := by
  have CG := Lib.hid (rheldAt_nil a)
  go_enter Tryz.func38, Tryz.ntmps38
  go_wp2_with (go_at_call 79; refine (CG.out _).mono ?_; rintro e w1 ⟨rfl, rfl⟩)
  go_ret
  exact ⟨rfl, rfl⟩
theorem rdiscard_nil (a : Int) (w : World) : Calls Tryz.prog 39 #[.pointer none, .int .u64 a] w fun e w' => e = .returned (.int .i64 1) ∧ w = w' := by
  have CG := Lib.hid (rheldAt_nil a)
  go_enter Tryz.func39, Tryz.ntmps39
  go_wp2_with (go_at_call 79; refine (CG.out _).mono ?_; rintro e w1 ⟨rfl, rfl⟩)
  go_ret
  exact ⟨rfl, rfl⟩
theorem routput_nil (v : ByteArray) (w : World) : Calls Tryz.prog 40 #[.pointer none, .string v] w fun e w' => e = .returned (.int .i64 1) ∧ w = w' := by
  have CG := Lib.hid rreserve_nil
  go_enter Tryz.func40, Tryz.ntmps40
  go_wp2_with (go_at_call 35; refine (CG.out _ _).mono ?_; rintro e w1 ⟨rfl, rfl⟩)
  go_ret
  exact ⟨rfl, rfl⟩
theorem rdrain_nil (w : World) : Calls Tryz.prog 41 #[.pointer none] w fun e w' => e = .returned (.slice none 0 0) ∧ w = w' := by
  have CG := Lib.hid rgone_nil
  go_enter Tryz.func41, Tryz.ntmps41
  go_wp2_with (go_at_call 68; refine (CG.out _).mono ?_; rintro e w1 ⟨rfl, rfl⟩)
  go_ret
  exact ⟨rfl, rfl⟩
end Go.Proofs.YtbikofedppgblaaGreat
namespace Go.Proofs.YtbikofedppgblaaGreat
open Go Go.RowKit
set_option linter.unusedVariables false
set_option linter.unusedSimpArgs false
set_option maxRecDepth 100000
theorem number_no (s : ByteArray) (hs : s.size ≠ 4) (w : World) : Calls Tryz.prog 111 #[.string s] w fun e w' => e = .returned (.tuple #[.int .u64 0, .bool false]) ∧ w = w' := by
  have h1 : ((s.size : Int) != 4) = true := by simp; omega
  go_enter Tryz.func111, Tryz.ntmps111
  go_wp2_with fail
  go_ret2
  exact ⟨rfl, rfl⟩
theorem number_ok (xs : List UInt8) (h4 : xs.length = 4) (w : World) : Calls Tryz.prog 111 #[.string (bstr xs)] w fun e w' => e = .returned (.tuple #[.int .u64 (le xs), .bool true]) ∧ w = w' := by
  have hs : (bstr xs).size = 4 := by rw [bstr_size, h4]
  have h1 : (((bstr xs).size : Int) != 4) = false := by simp; omega
  go_enter Tryz.func111, Tryz.ntmps111
  go_wp2_with fail
  go_loop [4, 9] (fun n i => ∃ j : Nat, j ≤ 4 ∧ n = .int .u64 (le (xs.take j)) ∧ i = .int .i64 j) (fun _ i => 4 - (intOf i).toNat)
  case atStart => exact ⟨0, by omega, rfl, rfl⟩
  case round =>
    obtain ⟨j, hj, rfl, rfl⟩ := hrel
    by_cases hlt : j < 4
    · have hx : j < xs.length := by omega
      have hj8 : (8 : Int) * j ≤ 31 := by omega
      have e1 := or_le (xs.take j) xs[j] (by simp; omega)
      have e2 : (xs.take j).length = j := by simp; omega
      have e3 : xs.take (j + 1) = xs.take j ++ [xs[j]] := by rw [List.take_succ_eq_append_getElem (by omega)]
      have e4 : ((xs[j].toNat : Nat) : Int) % 18446744073709551616 = xs[j].toNat := by have := xs[j].toNat_lt; omega
      rw [e2, ← e3, ← e4] at e1
      have E1 := Lib.hid e1
      clear e1 e2 e3 e4
      go_wp2
      refine ⟨⟨j + 1, by omega, congrArg (Value.int .u64) E1.out, by go_num⟩, by simp [intOf]; omega⟩
    · have : j = 4 := by omega
      subst this
      have e : xs.take 4 = xs := List.take_of_length_le (by omega)
      go_wp2
      go_ret2
      exact ⟨rfl, rfl⟩
theorem wb4 (n : Nat) (hn : n ≤ 4294967295) : (wb n 4).map byteV = [.int .u8 ((n : Int) % 256), .int .u8 ((n : Int) / 256 % 256), .int .u8 ((n : Int) / 65536 % 256), .int .u8 ((n : Int) / 16777216)] := by
  have e : wb n 4 = [UInt8.ofNat (n / 1), UInt8.ofNat (n / 256), UInt8.ofNat (n / 65536), UInt8.ofNat (n / 16777216)] := rfl
  rw [e]
  simp only [List.map_cons, List.map_nil, byteV_ofNat]
  have h : n / 16777216 % 256 = n / 16777216 := Nat.mod_eq_of_lt (by omega)
  rw [h]
  simp
theorem keyOf_any (n : Nat) (hn : n ≤ 4294967295) (w : World) : Calls Tryz.prog 118 #[.int .u64 n] w fun e w' => e = .returned (.string (bstr (wb n 4))) ∧ Below w.heap.size w w' := by
  have B := Lib.hid (below_alloc w (.cells #[.int .u8 ((n : Int) % 256), .int .u8 ((n : Int) / 256 % 256), .int .u8 ((n : Int) / 65536 % 256), .int .u8 ((n : Int) / 16777216)] 5))
  have hb := Blk.new w 5 #[.int .u8 ((n : Int) % 256), .int .u8 ((n : Int) / 256 % 256), .int .u8 ((n : Int) / 65536 % 256), .int .u8 ((n : Int) / 16777216)]
  have hc := Lib.run_convert_whole (P := Tryz.prog) (w.alloc (.cells #[.int .u8 ((n : Int) % 256), .int .u8 ((n : Int) / 256 % 256), .int .u8 ((n : Int) / 65536 % 256), .int .u8 ((n : Int) / 16777216)] 5)) 67 5 9 Tryz.underlying67 Tryz.underlying5 Tryz.underlying9 w.heap.size 0 (bstr (wb n 4)) (fun i hi => by
    have hi' : i < (wb n 4).length := by rw [← bstr_size]; exact hi
    have h1 := hb.cell i
    have h2 := congrArg (fun l => l[i]?) (wb4 n hn)
    simp only [List.getElem?_map, List.getElem?_eq_getElem hi'] at h2
    rw [Nat.zero_add, h1, List.getElem?_toArray]
    exact h2.symm) 4
  rw [bstr_size, wb_length] at hc
  have HC := Lib.hid hc
  clear hc hb
  go_enter Tryz.func118, Tryz.ntmps118
  go_wp2_with fail
  rw [HC.out]
  go_wp2_with fail
  go_ret
  exact ⟨rfl, B.out⟩
set_option maxHeartbeats 1000000 in
theorem le_4 (m : Nat) (hm : m ≤ 4294967295) (w : World) :
    Calls Tryz.prog 8 #[.int .u64 (m : Int), .int .i64 4] w fun e w' => e = .returned (.string (bstr (wb m 4))) ∧ Below w.heap.size w w' := by
  obtain ⟨n, hn⟩ : ∃ n : Int, (m : Int) = n := ⟨_, rfl⟩
  rw [hn]
  have HM := Lib.hid hm
  have HN := Lib.hid hn
  clear hm hn
  have hmk : (Instr.makeSlice 67 (.int .i64 4) (.int .i64 4)).run Tryz.prog w = .ok (.slice (some ⟨w.heap.size, 0, none⟩) 4 4) (w.alloc (.cells #[.int .u8 0, .int .u8 0, .int .u8 0, .int .u8 0] 5)) := by kernel_rfl
  have hst : Blk (w.alloc (.cells #[.int .u8 0, .int .u8 0, .int .u8 0, .int .u8 0] 5)) w.heap.size 5 #[.int .u8 0, .int .u8 0, .int .u8 0, .int .u8 0] := Blk.new w _ _
  have hb0 : Below w.heap.size w (w.alloc (.cells #[.int .u8 0, .int .u8 0, .int .u8 0, .int .u8 0] 5)) := (Below.refl _ w).alloc (Nat.le_refl _) _
  have HST := Lib.hid hst
  have HB0 := Lib.hid hb0
  clear hst hb0
  go_enter Tryz.func8, Tryz.ntmps8
  go_wp2_with fail
  go_loopw [6] (fun i wr => Below w.heap.size w wr ∧ ((i = .int .i64 0 ∧ Blk wr w.heap.size 5 #[.int .u8 0, .int .u8 0, .int .u8 0, .int .u8 0]) ∨ (i = .int .i64 1 ∧ Blk wr w.heap.size 5 #[.int .u8 (n % 256), .int .u8 0, .int .u8 0, .int .u8 0]) ∨ (i = .int .i64 2 ∧ Blk wr w.heap.size 5 #[.int .u8 (n % 256), .int .u8 (n / 256 % 256), .int .u8 0, .int .u8 0]) ∨ (i = .int .i64 3 ∧ Blk wr w.heap.size 5 #[.int .u8 (n % 256), .int .u8 (n / 256 % 256), .int .u8 (n / 65536 % 256), .int .u8 0]) ∨ (i = .int .i64 4 ∧ Blk wr w.heap.size 5 #[.int .u8 (n % 256), .int .u8 (n / 256 % 256), .int .u8 (n / 65536 % 256), .int .u8 (n / 16777216 % 256)]))) (fun i _ => 4 - (intOf i).toNat)
  case atStart => exact ⟨HB0.out, .inl ⟨rfl, HST.out⟩⟩
  case round =>
    clear HST HB0 hmk
    obtain ⟨hb, hr⟩ := hrel
    have HB := Lib.hid hb
    clear hb
    rcases hr with ⟨rfl, h⟩ | ⟨rfl, h⟩ | ⟨rfl, h⟩ | ⟨rfl, h⟩ | ⟨rfl, h⟩
    · have c0 : wr.cell? ⟨w.heap.size, 0, none⟩ = some (.int .u8 0) := h.cell 0
      have f0 : wr.frozen? ⟨w.heap.size, 0, none⟩ = false := h.frozen 0
      have H := Lib.hid h
      clear h
      go_wp2_with fail
      go_roundw
      case rel => exact ⟨HB.out.setCell (Nat.le_refl _) _, .inr (.inl ⟨rfl, by simpa using H.out.set_ 0 (.int .u8 (n % 256))⟩)⟩
      case measure => simp [intOf]
    · have c0 : wr.cell? ⟨w.heap.size, 1, none⟩ = some (.int .u8 0) := h.cell 1
      have f0 : wr.frozen? ⟨w.heap.size, 1, none⟩ = false := h.frozen 1
      have H := Lib.hid h
      clear h
      go_wp2_with fail
      go_roundw
      case rel => exact ⟨HB.out.setCell (Nat.le_refl _) _, .inr (.inr (.inl ⟨rfl, by simpa using H.out.set_ 1 (.int .u8 (n / 256 % 256))⟩))⟩
      case measure => simp [intOf]
    · have c0 : wr.cell? ⟨w.heap.size, 2, none⟩ = some (.int .u8 0) := h.cell 2
      have f0 : wr.frozen? ⟨w.heap.size, 2, none⟩ = false := h.frozen 2
      have H := Lib.hid h
      clear h
      go_wp2_with fail
      go_roundw
      case rel => exact ⟨HB.out.setCell (Nat.le_refl _) _, .inr (.inr (.inr (.inl ⟨rfl, by simpa using H.out.set_ 2 (.int .u8 (n / 65536 % 256))⟩)))⟩
      case measure => simp [intOf]
    · have c0 : wr.cell? ⟨w.heap.size, 3, none⟩ = some (.int .u8 0) := h.cell 3
      have f0 : wr.frozen? ⟨w.heap.size, 3, none⟩ = false := h.frozen 3
      have H := Lib.hid h
      clear h
      go_wp2_with fail
      go_roundw
      case rel => exact ⟨HB.out.setCell (Nat.le_refl _) _, .inr (.inr (.inr (.inr (⟨rfl, by simpa using H.out.set_ 3 (.int .u8 (n / 16777216 % 256))⟩))))⟩
      case measure => simp [intOf]
    · have hc := Lib.run_convert_whole (P := Tryz.prog) wr 67 5 9 Tryz.underlying67 Tryz.underlying5 Tryz.underlying9 w.heap.size 0 (bstr (wb m 4)) (fun i hi => by
        have hi' : i < (wb m 4).length := by rw [← bstr_size]; exact hi
        have h1 := h.cell i
        have h2 := congrArg (fun l => l[i]?) (wb4 m HM.out)
        simp only [List.getElem?_map, List.getElem?_eq_getElem hi'] at h2
        have e : n / 16777216 % 256 = n / 16777216 := by have := HN.out; have := HM.out; omega
        rw [Nat.zero_add, h1, List.getElem?_toArray, e]
        rw [HN.out] at h2
        exact h2.symm) 4
      rw [bstr_size, wb_length] at hc
      have HC := Lib.hid hc
      clear hc h
      go_wp2_with fail
      rw [HC.out]
      go_wp2_with fail
      go_ret
      exact ⟨rfl, HB.out⟩
theorem le_wb (n : Nat) (hn : n ≤ 4294967295) : le (wb n 4) = n := by
  have e : wb n 4 = [UInt8.ofNat (n / 1), UInt8.ofNat (n / 256), UInt8.ofNat (n / 65536), UInt8.ofNat (n / 16777216)] := rfl
  rw [e]
  simp only [le, UInt8.toNat_ofNat']
  omega
end Go.Proofs.YtbikofedppgblaaGreat
namespace Go.Proofs.YtbikofedppgblaaGreat
open Go Go.RowKit
set_option linter.unusedVariables false
set_option linter.unusedSimpArgs false
set_option maxRecDepth 100000
/-- Which program stands at which place. -/
abbrev Pr := Nat → Option Nat
def cellP (h : Pr) (i : Nat) : Value := if i % 2 = 0 then .int .i64 (((h (i / 2)).getD 0 : Nat) : Int) else .bool (h (i / 2)).isSome
def plC (N : Nat) (h : Pr) : Array Value := Array.ofFn (n := N * 2) fun i => cellP h i
def Pr.put (h : Pr) (k : Nat) (v : Option Nat) : Pr := fun i => if i = k then v else h i
theorem Pr.put_same (h : Pr) (k : Nat) (v : Option Nat) : h.put k v k = v := if_pos rfl
theorem Pr.put_other (h : Pr) {k i : Nat} (v : Option Nat) (hne : i ≠ k) : h.put k v i = h i := if_neg hne
theorem plC_size (N : Nat) (h : Pr) : (plC N h).size = N * 2 := Array.size_ofFn
theorem plC_get (N : Nat) (h : Pr) {i : Nat} (hi : i < N * 2) : (plC N h)[i]? = some (cellP h i) := by
  unfold plC
  rw [Array.getElem?_ofFn, dif_pos hi]
theorem cellP_even (h : Pr) (k : Nat) : cellP h (k * 2) = .int .i64 (((h k).getD 0 : Nat) : Int) := by
  unfold cellP
  rw [if_pos (by omega), show k * 2 / 2 = k by omega]
theorem cellP_odd (h : Pr) (k : Nat) : cellP h (k * 2 + 1) = .bool (h k).isSome := by
  unfold cellP
  rw [if_neg (by omega), show (k * 2 + 1) / 2 = k by omega]
theorem plC_prog {N : Nat} (h : Pr) {k : Nat} (hk : k < N) : (plC N h)[k * 2]? = some (.int .i64 (((h k).getD 0 : Nat) : Int)) := by
  rw [plC_get N h (by omega), cellP_even]
theorem plC_there {N : Nat} (h : Pr) {k : Nat} (hk : k < N) : (plC N h)[k * 2 + 1]? = some (.bool (h k).isSome) := by
  rw [plC_get N h (by omega), cellP_odd]
theorem cellP_put (h : Pr) (k : Nat) (v : Option Nat) (i : Nat) : cellP (h.put k v) i = if i = k * 2 then .int .i64 ((v.getD 0 : Nat) : Int) else if i = k * 2 + 1 then .bool v.isSome else cellP h i := by
  by_cases h0 : i = k * 2
  · rw [if_pos h0, h0, cellP_even, Pr.put_same]
  · rw [if_neg h0]
    by_cases h1 : i = k * 2 + 1
    · rw [if_pos h1, h1, cellP_odd, Pr.put_same]
    · rw [if_neg h1]
      unfold cellP
      rw [Pr.put_other h v (show i / 2 ≠ k by omega)]
theorem plC_put {N : Nat} (h : Pr) {k : Nat} (hk : k < N) (v : Option Nat) : ((plC N h).setIfInBounds (k * 2) (.int .i64 ((v.getD 0 : Nat) : Int))).setIfInBounds (k * 2 + 1) (.bool v.isSome) = plC N (h.put k v) := by
  apply Array.ext_getElem?
  intro i
  rcases Nat.lt_or_ge i (N * 2) with hi | hi
  · rw [plC_get N _ hi, cellP_put, Array.getElem?_setIfInBounds, Array.getElem?_setIfInBounds]
    simp only [Array.size_setIfInBounds, plC_size]
    by_cases h1 : i = k * 2 + 1
    · subst h1
      rw [if_pos rfl, if_pos (by omega), if_neg (by omega), if_pos rfl]
    · rw [if_neg (fun e => h1 e.symm)]
      by_cases h0 : i = k * 2
      · subst h0
        rw [if_pos rfl, if_pos (by omega), if_pos rfl]
      · rw [if_neg (fun e => h0 e.symm), if_neg h0, if_neg h1, plC_get N _ hi]
  · rw [Array.getElem?_eq_none (by simp [plC_size]; omega), Array.getElem?_eq_none (by rw [plC_size]; omega)]
/-- The zero place is none. -/
def noP : Pr := fun _ => none
end Go.Proofs.YtbikofedppgblaaGreat
