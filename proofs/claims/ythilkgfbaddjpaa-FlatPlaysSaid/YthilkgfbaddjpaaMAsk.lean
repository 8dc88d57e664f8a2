/-
  The reference of layer 8: index, Lookup, Next, on any key.
-/
import Derived.Test.YthilkgfbaddjpaaMNew2
import Derived.Test.YthilkgfbaddjpaaP12
import Derived.Laws.BitsLemmas
namespace Go.Proofs.Ythilkgfbaddjpaa
open Go Go.RowKit Go.Maps
set_option linter.unusedVariables false
set_option linter.unusedSimpArgs false
set_option maxRecDepth 100000
theorem or_byte (N b : Int) (hN : 0 ≤ N ∧ N < 16777216) (hb : 0 ≤ b ∧ b ≤ 255) : bits .or .u64 (N * 256) b = N * 256 + b :=
  bits_join .u64 63 (by decide) (fun n h0 h1 => by rw [IntKind.wrap_u64]; omega) 8 (N * 256) b (by omega) (by omega) (by omega) (by omega) (by omega) (by omega)
theorem or_byte' (N : Int) (b : UInt8) (hN : 0 ≤ N ∧ N < 16777216) : bits .or .u64 (N * 256) (IntKind.u64.wrap (b.toNat : Int)) = N * 256 + (b.toNat : Int) := by
  have := b.toNat_lt
  rw [IntKind.wrap_u64, Int.emod_eq_of_lt (by omega) (by omega)]
  exact or_byte N _ hN (by omega)
theorem or_zero' (b : UInt8) : bits .or .u64 0 (IntKind.u64.wrap (b.toNat : Int)) = (b.toNat : Int) := by
  have := or_byte' 0 b (by omega)
  simpa using this
theorem byte_le (a : UInt8) : 0 ≤ (a.toNat : Int) ∧ (a.toNat : Int) ≤ 255 := by have := a.toNat_lt; omega
set_option maxHeartbeats 1000000 in
theorem fromle_4 (a b c d : UInt8) (w : World) :
    Calls Try.prog 68 #[.string ⟨#[a, b, c, d]⟩] w fun e w' => e = .returned (.int .u64 ((((d.toNat : Int) * 256 + (c.toNat : Int)) * 256 + (b.toNat : Int)) * 256 + (a.toNat : Int))) ∧ w = w' := by
  have ha := byte_le a
  have hb := byte_le b
  have hc := byte_le c
  have hd := byte_le d
  have b2 : (d.toNat : Int) * 256 % 18446744073709551616 = (d.toNat : Int) * 256 := by omega
  have v2 : IntKind.u64.wrap ((d.toNat : Int) * 256) = (d.toNat : Int) * 256 := by rw [IntKind.wrap_u64]; omega
  have b1 : ((d.toNat : Int) * 256 + (c.toNat : Int)) * 256 % 18446744073709551616 = ((d.toNat : Int) * 256 + (c.toNat : Int)) * 256 := by omega
  have v1 : IntKind.u64.wrap (((d.toNat : Int) * 256 + (c.toNat : Int)) * 256) = ((d.toNat : Int) * 256 + (c.toNat : Int)) * 256 := by rw [IntKind.wrap_u64]; omega
  have b0 : (((d.toNat : Int) * 256 + (c.toNat : Int)) * 256 + (b.toNat : Int)) * 256 % 18446744073709551616 = (((d.toNat : Int) * 256 + (c.toNat : Int)) * 256 + (b.toNat : Int)) * 256 := by omega
  have v0 : IntKind.u64.wrap ((((d.toNat : Int) * 256 + (c.toNat : Int)) * 256 + (b.toNat : Int)) * 256) = (((d.toNat : Int) * 256 + (c.toNat : Int)) * 256 + (b.toNat : Int)) * 256 := by rw [IntKind.wrap_u64]; omega
  go_enter Try.func68, Try.ntmps68
  go_wp2_with fail
  go_loop [3, 4] (fun n i => (i = .int .i64 3 ∧ n = .int .u64 0) ∨ (i = .int .i64 2 ∧ n = .int .u64 (d.toNat : Int)) ∨ (i = .int .i64 1 ∧ n = .int .u64 ((d.toNat : Int) * 256 + (c.toNat : Int))) ∨ (i = .int .i64 0 ∧ n = .int .u64 (((d.toNat : Int) * 256 + (c.toNat : Int)) * 256 + (b.toNat : Int))) ∨ (i = .int .i64 (-1) ∧ n = .int .u64 ((((d.toNat : Int) * 256 + (c.toNat : Int)) * 256 + (b.toNat : Int)) * 256 + (a.toNat : Int)))) (fun _ i => (intOf i + 1).toNat)
  case atStart => exact .inl ⟨rfl, rfl⟩
  case round =>
    rcases hrel with ⟨rfl, rfl⟩ | ⟨rfl, rfl⟩ | ⟨rfl, rfl⟩ | ⟨rfl, rfl⟩ | ⟨rfl, rfl⟩
    · go_wp2_with fail
      go_round
      case rel => exact .inr (.inl ⟨rfl, congrArg (Value.int .u64) (or_zero' d)⟩)
      case measure => simp [intOf]
    · go_wp2_with fail
      go_round
      case rel => exact .inr (.inr (.inl ⟨rfl, congrArg (Value.int .u64) (or_byte' (d.toNat : Int) c (by omega))⟩))
      case measure => simp [intOf]
    · go_wp2_with fail
      go_round
      case rel => exact .inr (.inr (.inr (.inl ⟨rfl, congrArg (Value.int .u64) (or_byte' ((d.toNat : Int) * 256 + (c.toNat : Int)) b (by omega))⟩)))
      case measure => simp [intOf]
    · go_wp2_with fail
      go_round
      case rel => exact .inr (.inr (.inr (.inr (⟨rfl, congrArg (Value.int .u64) (or_byte' (((d.toNat : Int) * 256 + (c.toNat : Int)) * 256 + (b.toNat : Int)) a (by omega))⟩))))
      case measure => simp [intOf]
    · go_wp2_with fail
      go_ret
      exact ⟨rfl, rfl⟩
def idx (s : ByteArray) : Int := if s.size = 4 then (le s.data.toList : Int) else -1
theorem idx_no {s : ByteArray} (h : s.size ≠ 4) : idx s = -1 := if_neg h
theorem idx_yes {xs : List UInt8} (h : xs.length = 4) : idx (bstr xs) = (le xs : Int) := by
  unfold idx
  rw [if_pos (by rw [bstr_size, h])]
  simp [bstr]
theorem key_ways (s : ByteArray) : (s.size ≠ 4 ∧ idx s = -1) ∨ ∃ xs : List UInt8, xs.length = 4 ∧ s = bstr xs ∧ idx s = (le xs : Int) := by
  by_cases h : s.size = 4
  · have h4 : s.data.toList.length = 4 := by rw [Array.length_toList]; exact h
    refine .inr ⟨s.data.toList, h4, bstr_of s, ?_⟩
    unfold idx
    rw [if_pos h]
  · exact .inl ⟨h, idx_no h⟩
theorem le_lt4 {xs : List UInt8} (h : xs.length = 4) : le xs ≤ 4294967295 := by
  have := le_lt xs
  rw [h] at this
  have e : (256 : Nat) ^ 4 = 4294967296 := by decide
  omega
theorem idx_le (s : ByteArray) : -1 ≤ idx s ∧ idx s ≤ 4294967295 := by
  rcases key_ways s with ⟨_, e⟩ | ⟨xs, h4, rfl, e⟩
  · omega
  · have := le_lt4 h4; omega
theorem index_any (p : Value) (s : ByteArray) (w : World) : Calls Try.prog 52 #[p, .string s] w fun e w' => e = .returned (.int .i64 (idx s)) ∧ w = w' := by
  rcases key_ways s with ⟨h, e⟩ | ⟨xs, h4, rfl, e⟩
  · rw [e]
    exact index_no p s h w
  · rw [e]
    obtain ⟨a, b, c, d, rfl⟩ : ∃ a b c d, xs = [a, b, c, d] := by
      match xs, h4 with
      | [a, b, c, d], _ => exact ⟨a, b, c, d, rfl⟩
    have hc := fromle_4 a b c d w
    have ha := byte_le a
    have hb := byte_le b
    have hcc := byte_le c
    have hd := byte_le d
    have e2 : (((d.toNat : Int) * 256 + (c.toNat : Int)) * 256 + (b.toNat : Int)) * 256 + (a.toNat : Int) = (le [a, b, c, d] : Int) := by
      simp only [le]
      omega
    rw [e2] at hc
    have hl := le_lt4 (xs := [a, b, c, d]) rfl
    have CF := Lib.hid hc
    have hsz : (bstr [a, b, c, d]).size = 4 := rfl
    have h1 : (((bstr [a, b, c, d]).size : Int) != 4) = false := by rw [hsz]; decide
    have hbs : bstr [a, b, c, d] = ⟨#[a, b, c, d]⟩ := rfl
    rw [hbs] at h1 hsz ⊢
    have hwr : IntKind.i64.wrap (le [a, b, c, d] : Int) = (le [a, b, c, d] : Int) := IntWalk.i64_in _ (by omega)
    generalize (le [a, b, c, d] : Int) = r at *
    clear hc e e2 ha hb hcc hd hl hbs
    go_enter Try.func52, Try.ntmps52
    go_wp2_with (go_at_call 68; refine CF.out.mono ?_; rintro e w1 ⟨rfl, rfl⟩)
    go_ret
    exact ⟨rfl, rfl⟩
section
variable {w : World} {bx y : Nat} {k v mx c : Int} {V : Value} {gone : Bool}
theorem look_ways {i : Int} {mx : Nat} (h : gone = true ∨ i < 0 ∨ (mx : Int) ≤ i) : gone = true ∨ (gone = false ∧ decide (i < 0) = true) ∨ (gone = false ∧ decide (i < 0) = false ∧ decide ((mx : Int) ≤ i) = true) := by
  cases gone
  · by_cases h1 : i < 0
    · exact .inr (.inl ⟨rfl, decide_eq_true h1⟩)
    · exact .inr (.inr ⟨rfl, decide_eq_false h1, decide_eq_true (by rcases h with h | h | h <;> first | omega | cases h)⟩)
  · exact .inl rfl
theorem ylook_no (mx : Nat) (s : ByteArray) (cpu : Int) (hy : Blk w y 79 (refC bx k v mx c V gone)) (h : gone = true ∨ idx s < 0 ∨ (mx : Int) ≤ idx s) :
    Calls Try.prog 34 #[.pointer (some ⟨y, 0, none⟩), .string s, .int .i64 cpu] w fun e w' => e = .returned (.int .u64 0) ∧ w = w' := by
  have CI := Lib.hid (index_any (.pointer (some ⟨y, 0, none⟩)) s)
  have c7 : w.cell? ⟨y, 7, none⟩ = some (.bool gone) := hy.cell 7
  have c4 : w.cell? ⟨y, 4, none⟩ = some (.int .i64 mx) := hy.cell 4
  have h' := look_ways h
  clear h hy
  generalize idx s = i at *
  rcases h' with rfl | ⟨rfl, h1⟩ | ⟨rfl, h1, h2⟩
  all_goals (
    go_enter Try.func34, Try.ntmps34
    go_wp2_with (go_at_call 52; refine (CI.out _).mono ?_; rintro e w1 ⟨rfl, rfl⟩)
    go_ret
    exact ⟨rfl, rfl⟩)
theorem ylook_out (mx n cc : Nat) (A : Option Addr) (s : ByteArray) (cpu : Int) (hy : Blk w y 79 (refC bx 6 v mx c (.slice A n cc) false)) (h0 : 0 ≤ idx s) (h1 : idx s < mx) (hc : cpu < 0 ∨ (n : Int) ≤ cpu) :
    Calls Try.prog 34 #[.pointer (some ⟨y, 0, none⟩), .string s, .int .i64 cpu] w fun e w' => e = .returned (.int .u64 0) ∧ w = w' := by
  have CI := Lib.hid (index_any (.pointer (some ⟨y, 0, none⟩)) s)
  have c7 : w.cell? ⟨y, 7, none⟩ = some (.bool false) := hy.cell 7
  have c4 : w.cell? ⟨y, 4, none⟩ = some (.int .i64 mx) := hy.cell 4
  have c1 : w.cell? ⟨y, 1, none⟩ = some (.int .i64 6) := hy.cell 1
  have c6 : w.cell? ⟨y, 6, none⟩ = some (.slice A n cc) := hy.cell 6
  have g1 : decide (idx s < 0) = false := decide_eq_false (by omega)
  have g2 : decide ((mx : Int) ≤ idx s) = false := decide_eq_false (by omega)
  have h' : decide (cpu < 0) = true ∨ (decide (cpu < 0) = false ∧ decide ((n : Int) ≤ cpu) = true) := by
    by_cases h3 : cpu < 0
    · exact .inl (decide_eq_true h3)
    · exact .inr ⟨decide_eq_false h3, decide_eq_true (by omega)⟩
  clear h0 h1 hy hc
  generalize idx s = i at *
  rcases h' with h1 | ⟨h1, h2⟩
  all_goals (
    go_enter Try.func34, Try.ntmps34
    go_wp2_with (go_at_call 52; refine (CI.out _).mono ?_; rintro e w1 ⟨rfl, rfl⟩)
    go_ret
    exact ⟨rfl, rfl⟩)
set_option maxHeartbeats 1000000 in
theorem ylook_arr (cpu : Int) (v mx cc g : Nat) (hv : v ≤ 4096) (hm : mx ≤ 4096) (s : ByteArray) (hy : Blk w y 79 (refC bx 2 v mx c (.slice (some ⟨g, 0, none⟩) 1 cc) false)) (hg : w.cell? ⟨g, 0, none⟩ = some (.int .u64 (addr (0 + 1) 0))) (j : Nat) (hj : idx s = j) (h1 : j < mx) :
    Calls Try.prog 34 #[.pointer (some ⟨y, 0, none⟩), .string s, .int .i64 cpu] w fun e w' => e = .returned (.int .u64 (addr (0 + 1) (j * wide v))) ∧ Below w.heap.size w w' := by
  have CI := Lib.hid (index_any (.pointer (some ⟨y, 0, none⟩)) s)
  rw [hj] at CI
  have c7 : w.cell? ⟨y, 7, none⟩ = some (.bool false) := hy.cell 7
  have c4 : w.cell? ⟨y, 4, none⟩ = some (.int .i64 mx) := hy.cell 4
  have c1 : w.cell? ⟨y, 1, none⟩ = some (.int .i64 2) := hy.cell 1
  have c6 : w.cell? ⟨y, 6, none⟩ = some (.slice (some ⟨g, 0, none⟩) 1 cc) := hy.cell 6
  have S0 : Hid (w.cell? ⟨y, 6, none⟩ = some (.slice (some ⟨g, 0, none⟩) 1 cc) ∧ w.cell? ⟨y, 3, none⟩ = some (.int .i64 v) ∧ w.cell? ⟨g, 0, none⟩ = some (.int .u64 (addr (0 + 1) 0))) := ⟨hy.cell 6, hy.cell 3, hg⟩
  have CW := Lib.hid (Wide_any v hv)
  have g1 : decide ((j : Int) < 0) = false := decide_eq_false (by omega)
  have g2 : decide ((mx : Int) ≤ (j : Int)) = false := decide_eq_false (by omega)
  have g3 : decide (mx ≤ j) = false := decide_eq_false (by omega)
  have hw : wide v ≤ 4103 := by unfold wide; omega
  have hq : j * wide v ≤ 4096 * 4103 := Nat.mul_le_mul (by omega) hw
  obtain ⟨q, hqq⟩ : ∃ q, j * wide v = q := ⟨_, rfl⟩
  have e0 : (j : Int) * (wide v : Int) = (q : Int) := by rw [← hqq]; simp
  rw [hqq] at hq ⊢
  have e1 : IntKind.i64.wrap ((j : Int) * (wide v : Int)) = (q : Int) := by rw [e0]; exact IntWalk.i64_in _ (by omega)
  have e2 : IntKind.u64.wrap (q : Int) = (q : Int) := wraps_u64 _ (by omega) (by omega)
  have e3 : IntKind.u64.wrap (addr (0 + 1) 0 + (q : Int)) = addr (0 + 1) q := by rw [wraps_u64 _ (by unfold addr; omega) (by unfold addr; omega)]; unfold addr; omega
  clear hv hm hy hg hj h1 hw hq hqq e0 
  generalize wide v = d at *
  go_enter Try.func34, Try.ntmps34
  go_upto_region 8 with (go_at_call 52; refine (CI.out _).mono ?_; rintro e w1 ⟨rfl, rfl⟩)
  clear c1 c4 c6 c7 g1 g2 g3
  go_region_held3 (fun W => W.cell? ⟨y, 6, none⟩ = some (.slice (some ⟨g, 0, none⟩) 1 cc) ∧ W.cell? ⟨y, 3, none⟩ = some (.int .i64 v) ∧ W.cell? ⟨g, 0, none⟩ = some (.int .u64 (addr (0 + 1) 0)))
    (first | exact S0.out)
    (first | (go_at_call 32; refine (CW.out _).mono ?_; rintro e wq ⟨rfl, rfl⟩))
  go_wp2_with fail
  go_ret
  exact ⟨rfl, below_drew1 (Below.refl _ _)⟩
set_option maxHeartbeats 1000000 in
theorem ylook_cpu (i n : Nat) (hi : i < n) (hn : n ≤ 8) (v mx cc g : Nat) (hv : v ≤ 4096) (hm : mx ≤ 4096) (s : ByteArray) (hy : Blk w y 79 (refC bx 6 v mx c (.slice (some ⟨g, 0, none⟩) n cc) false)) (hg : w.cell? ⟨g, i, none⟩ = some (.int .u64 (addr (i + 1) 0))) (j : Nat) (hj : idx s = j) (h1 : j < mx) :
    Calls Try.prog 34 #[.pointer (some ⟨y, 0, none⟩), .string s, .int .i64 i] w fun e w' => e = .returned (.int .u64 (addr (i + 1) (j * wide v))) ∧ Below w.heap.size w w' := by
  have CI := Lib.hid (index_any (.pointer (some ⟨y, 0, none⟩)) s)
  rw [hj] at CI
  have c7 : w.cell? ⟨y, 7, none⟩ = some (.bool false) := hy.cell 7
  have c4 : w.cell? ⟨y, 4, none⟩ = some (.int .i64 mx) := hy.cell 4
  have c1 : w.cell? ⟨y, 1, none⟩ = some (.int .i64 6) := hy.cell 1
  have c6 : w.cell? ⟨y, 6, none⟩ = some (.slice (some ⟨g, 0, none⟩) n cc) := hy.cell 6
  have S0 : Hid (w.cell? ⟨y, 6, none⟩ = some (.slice (some ⟨g, 0, none⟩) n cc) ∧ w.cell? ⟨y, 3, none⟩ = some (.int .i64 v) ∧ w.cell? ⟨g, i, none⟩ = some (.int .u64 (addr (i + 1) 0))) := ⟨hy.cell 6, hy.cell 3, hg⟩
  have CW := Lib.hid (Wide_any v hv)
  have g1 : decide ((j : Int) < 0) = false := decide_eq_false (by omega)
  have g2 : decide ((mx : Int) ≤ (j : Int)) = false := decide_eq_false (by omega)
  have g3 : decide (mx ≤ j) = false := decide_eq_false (by omega)
  have g4 : decide ((i : Int) < 0) = false := decide_eq_false (by omega)
  have g5 : decide ((n : Int) ≤ (i : Int)) = false := decide_eq_false (by omega)
  have g6 : decide (n ≤ i) = false := decide_eq_false (by omega)
  have hw : wide v ≤ 4103 := by unfold wide; omega
  have hq : j * wide v ≤ 4096 * 4103 := Nat.mul_le_mul (by omega) hw
  obtain ⟨q, hqq⟩ : ∃ q, j * wide v = q := ⟨_, rfl⟩
  have e0 : (j : Int) * (wide v : Int) = (q : Int) := by rw [← hqq]; simp
  rw [hqq] at hq ⊢
  have e1 : IntKind.i64.wrap ((j : Int) * (wide v : Int)) = (q : Int) := by rw [e0]; exact IntWalk.i64_in _ (by omega)
  have e2 : IntKind.u64.wrap (q : Int) = (q : Int) := wraps_u64 _ (by omega) (by omega)
  have e3 : IntKind.u64.wrap (addr (i + 1) 0 + (q : Int)) = addr (i + 1) q := by rw [wraps_u64 _ (by unfold addr; omega) (by unfold addr; omega)]; unfold addr; omega
  clear hv hm hy hg hj h1 hw hq hqq e0 hn
  generalize wide v = d at *
  go_enter Try.func34, Try.ntmps34
  go_upto_region 8 with (go_at_call 52; refine (CI.out _).mono ?_; rintro e w1 ⟨rfl, rfl⟩)
  clear c1 c4 c6 c7 g1 g2 g3
  go_region_held3 (fun W => W.cell? ⟨y, 6, none⟩ = some (.slice (some ⟨g, 0, none⟩) n cc) ∧ W.cell? ⟨y, 3, none⟩ = some (.int .i64 v) ∧ W.cell? ⟨g, i, none⟩ = some (.int .u64 (addr (i + 1) 0)))
    (first | exact S0.out)
    (first | (go_at_call 32; refine (CW.out _).mono ?_; rintro e wq ⟨rfl, rfl⟩))
  go_wp2_with fail
  go_ret
  exact ⟨rfl, below_drew1 (Below.refl _ _)⟩
end
end Go.Proofs.Ythilkgfbaddjpaa
