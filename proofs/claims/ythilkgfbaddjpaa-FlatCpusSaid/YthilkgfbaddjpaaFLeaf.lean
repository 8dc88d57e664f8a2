/-
  Package flat: its small functions.
-/
import Derived.Test.YthilkgfbaddjpaaKf
import Derived.BigQuiet
import Derived.Deep.QuietTactic
namespace Go.Proofs.Ythilkgfbaddjpaa
open Go Go.RowKit
set_option linter.unusedVariables false
set_option linter.unusedSimpArgs false
set_option maxRecDepth 100000
abbrev specV (k key v mx : Int) : Value := .agg #[.int .i64 k, .int .i64 key, .int .i64 v, .int .i64 mx]
def wide (v : Nat) : Nat := (v + 7) / 8 * 8
theorem below_alloc (w : World) (o : Obj) : Below w.heap.size w (w.alloc o) := (Below.refl _ w).alloc (Nat.le_refl _) o
theorem below_drew (w : World) (n : Nat) : Below w.heap.size w (w.drewN n) := ⟨rfl, rfl, rfl, Nat.le_refl _, fun _ _ => rfl⟩
theorem below_then {w w1 w2 : World} (h : Below w.heap.size w w1) (k : Below w1.heap.size w1 w2) : Below w.heap.size w w2 := h.trans (k.mono h.size)
theorem width_any (k key mx : Int) (v : Nat) (hv : v ≤ 4096) (w : World) : Calls Try.prog 28 #[specV k key v mx] w fun e w' => e = .returned (.int .i64 (wide v)) ∧ Below w.heap.size w w' := by
  have e1 : IntKind.i64.wrap ((v : Int) + 8) = (v : Int) + 8 := IntWalk.i64_in _ (by omega)
  have e2 : IntKind.i64.wrap ((v : Int) + 8 - 1) = (v : Int) + 7 := by rw [IntWalk.i64_in _ (by omega)]; omega
  have B := Lib.hid (below_alloc w (.cells #[.int .i64 k, .int .i64 key, .int .i64 v, .int .i64 mx] 23))
  go_enter Try.func28, Try.ntmps28
  go_wp2_with fail
  go_ret
  exact ⟨ret_int (by unfold wide; omega), B.out⟩
theorem regions_arr (c : Int) (w : World) : Calls Try.prog 27 #[.int .i64 2, .int .i64 c] w fun e w' => e = .returned (.int .i64 1) ∧ w = w' := by
  go_enter Try.func27, Try.ntmps27
  go_wp2_with fail
  go_ret
  exact ⟨rfl, rfl⟩
theorem regions_cpu (c : Int) (w : World) : Calls Try.prog 27 #[.int .i64 6, .int .i64 c] w fun e w' => e = .returned (.int .i64 c) ∧ w = w' := by
  go_enter Try.func27, Try.ntmps27
  go_wp2_with fail
  go_ret
  exact ⟨rfl, rfl⟩
abbrev sharedV (f : Int) : Value := .iface 120 (.agg #[.int .u64 f])
abbrev eachV (A : Option Addr) (n c : Nat) : Value := .iface 118 (.agg #[.slice A n c])
theorem lay_arr (g c : Nat) (f : Int) (n : Nat) (h0 : 0 < n) (w : World) (hc : w.cell? ⟨g, 0, none⟩ = some (.int .u64 f)) : Calls Try.prog 29 #[.int .i64 2, .slice (some ⟨g, 0, none⟩) n c] w fun e w' => e = .returned (sharedV f) ∧ w = w' := by
  go_enter Try.func29, Try.ntmps29
  go_wp2_with fail
  go_ret
  exact ⟨rfl, rfl⟩
theorem lay_cpu (A : Option Addr) (n c : Nat) (w : World) : Calls Try.prog 29 #[.int .i64 6, .slice A n c] w fun e w' => e = .returned (eachV A n c) ∧ w = w' := by
  go_enter Try.func29, Try.ntmps29
  go_wp2_with fail
  go_ret
  exact ⟨rfl, rfl⟩
theorem gone_nil (w : World) : Calls Try.prog 43 #[.pointer none] w fun e w' => e = .returned (.bool true) ∧ w = w' := by
  go_enter Try.func43, Try.ntmps43
  go_wp2_with fail
  go_ret
  exact ⟨rfl, rfl⟩
theorem number_no (s : ByteArray) (hs : s.size ≠ 4) (w : World) : Calls Try.prog 42 #[.string s] w fun e w' => e = .returned (.tuple #[.int .u32 0, .bool false]) ∧ w = w' := by
  have h1 : ((s.size : Int) != 4) = true := by simp; omega
  go_enter Try.func42, Try.ntmps42
  go_wp2_with fail
  go_ret2
  exact ⟨rfl, rfl⟩
theorem or_le32 (l : List UInt8) (b : UInt8) (h : l.length < 4) : bits .or .u32 (le l : Int) (((b.toNat : Int) * 2 ^ (8 * l.length)) % 4294967296) = (le (l ++ [b]) : Int) := by
  have h1 := le_lt l
  rw [pow_256] at h1
  have h2 := b.toNat_lt
  have h3 : b.toNat * 2 ^ (8 * l.length) < 2 ^ 32 := by
    have : b.toNat * 2 ^ (8 * l.length) < 256 * 2 ^ (8 * l.length) := (Nat.mul_lt_mul_right (Nat.two_pow_pos _)).2 h2
    have h4 : 256 * 2 ^ (8 * l.length) = 2 ^ (8 * l.length + 8) := by rw [Nat.pow_add]; omega
    have h5 : (2 : Nat) ^ (8 * l.length + 8) ≤ 2 ^ 32 := Nat.pow_le_pow_right (by omega) (by omega)
    omega
  have h6 : 2 ^ (8 * l.length) ≤ 2 ^ 32 := Nat.pow_le_pow_right (by omega) (by omega)
  have e : ((b.toNat : Int) * 2 ^ (8 * l.length)) % 4294967296 = ((b.toNat * 2 ^ (8 * l.length) : Nat) : Int) := by
    rw [Int.emod_eq_of_lt]
    · simp
    · exact Int.mul_nonneg (by omega) (Int.pow_nonneg (by omega))
    · have : ((b.toNat * 2 ^ (8 * l.length) : Nat) : Int) < ((2 ^ 32 : Nat) : Int) := by exact_mod_cast h3
      simpa using this
  have h7 : le l < 2 ^ 32 := by omega
  rw [e, bits_join_low .u32 32 (by decide) wraps_u32 (8 * l.length) (le l) _ (by omega) (by exact_mod_cast h1) (by exact_mod_cast h7) (by omega) ?_ (by exact_mod_cast h3), le_snoc, pow_256]
  · simp
  · have : b.toNat * 2 ^ (8 * l.length) % 2 ^ (8 * l.length) = 0 := Nat.mul_mod_left _ _
    exact_mod_cast this
theorem number_ok (xs : List UInt8) (h4 : xs.length = 4) (w : World) : Calls Try.prog 42 #[.string (bstr xs)] w fun e w' => e = .returned (.tuple #[.int .u32 (le xs), .bool true]) ∧ w = w' := by
  have hs : (bstr xs).size = 4 := by rw [bstr_size, h4]
  have h1 : (((bstr xs).size : Int) != 4) = false := by simp; omega
  go_enter Try.func42, Try.ntmps42
  go_wp2_with fail
  go_loop [4, 9] (fun n i => ∃ j : Nat, j ≤ 4 ∧ n = .int .u32 (le (xs.take j)) ∧ i = .int .i64 j) (fun _ i => 4 - (intOf i).toNat)
  case atStart => exact ⟨0, by omega, rfl, rfl⟩
  case round =>
    obtain ⟨j, hj, rfl, rfl⟩ := hrel
    by_cases hlt : j < 4
    · have hx : j < xs.length := by omega
      have hj8 : (8 : Int) * j ≤ 31 := by omega
      have e1 := or_le32 (xs.take j) xs[j] (by simp; omega)
      have e2 : (xs.take j).length = j := by simp; omega
      have e3 : xs.take (j + 1) = xs.take j ++ [xs[j]] := by rw [List.take_succ_eq_append_getElem (by omega)]
      have e4 : ((xs[j].toNat : Nat) : Int) % 4294967296 = xs[j].toNat := by have := xs[j].toNat_lt; omega
      rw [e2, ← e3, ← e4] at e1
      have E1 := Lib.hid e1
      clear e1 e2 e3 e4
      go_wp2
      refine ⟨⟨j + 1, by omega, congrArg (Value.int .u32) E1.out, by go_num⟩, by simp [intOf]; omega⟩
    · have : j = 4 := by omega
      subst this
      have e : xs.take 4 = xs := List.take_of_length_le (by omega)
      go_wp2
      go_ret2
      exact ⟨rfl, rfl⟩
section
variable {w : World} {x : Nat}
theorem gone_no (P a b c d : Value) (t : TypeId) (u : Value) (h : Blk w x 77 #[P, a, b, c, d, .iface t u]) : Calls Try.prog 43 #[.pointer (some ⟨x, 0, none⟩)] w fun e w' => e = .returned (.bool false) ∧ w = w' := by
  have c5 : w.cell? ⟨x, 5, none⟩ = some (.iface t u) := h.cell 5
  go_enter Try.func43, Try.ntmps43
  go_wp2_with fail
  go_ret
  exact ⟨rfl, rfl⟩
theorem gone_yes (P a b c d : Value) (h : Blk w x 77 #[P, a, b, c, d, .nilIface]) : Calls Try.prog 43 #[.pointer (some ⟨x, 0, none⟩)] w fun e w' => e = .returned (.bool true) ∧ w = w' := by
  have c5 : w.cell? ⟨x, 5, none⟩ = some .nilIface := h.cell 5
  go_enter Try.func43, Try.ntmps43
  go_wp2_with fail
  go_ret
  exact ⟨rfl, rfl⟩
theorem max_any (P a b c V : Value) (mx : Nat) (hm : mx ≤ 4096) (h : Blk w x 77 #[P, a, b, c, .int .i64 mx, V]) : Calls Try.prog 44 #[.pointer (some ⟨x, 0, none⟩)] w fun e w' => e = .returned (.int .u32 mx) ∧ w = w' := by
  have c4 : w.cell? ⟨x, 4, none⟩ = some (.int .i64 mx) := h.cell 4
  have e1 : IntKind.u32.wrap (mx : Int) = (mx : Int) := wraps_u32 _ (by omega) (by omega)
  go_enter Try.func44, Try.ntmps44
  go_wp2_with fail
  go_ret
  exact ⟨rfl, rfl⟩
theorem offset_any (P V : Value) (k key mx : Int) (v n : Nat) (hv : v ≤ 4096) (hn : n ≤ 4294967295) (h : Blk w x 77 #[P, .int .i64 k, .int .i64 key, .int .i64 v, .int .i64 mx, V]) : Calls Try.prog 46 #[.pointer (some ⟨x, 0, none⟩), .int .u32 n] w fun e w' => e = .returned (.int .u64 ((n * wide v : Nat) : Int)) ∧ Below w.heap.size w w' := by
  have c1 : w.cell? ⟨x, 1, none⟩ = some (.int .i64 k) := h.cell 1
  have c2 : w.cell? ⟨x, 2, none⟩ = some (.int .i64 key) := h.cell 2
  have c3 : w.cell? ⟨x, 3, none⟩ = some (.int .i64 v) := h.cell 3
  have c4 : w.cell? ⟨x, 4, none⟩ = some (.int .i64 mx) := h.cell 4
  have hw : wide v ≤ 4103 := by unfold wide; omega
  have hm : n * wide v ≤ 4294967295 * 4103 := Nat.mul_le_mul hn hw
  have e1 : IntKind.u64.wrap (n : Int) = (n : Int) := wraps_u64 _ (by omega) (by omega)
  have e2 : IntKind.u64.wrap (wide v : Int) = (wide v : Int) := wraps_u64 _ (by omega) (by omega)
  obtain ⟨q, hq⟩ : ∃ q, n * wide v = q := ⟨_, rfl⟩
  have e0 : (n : Int) * (wide v : Int) = (q : Int) := by rw [← hq]; simp
  have e3 : IntKind.u64.wrap ((n : Int) * (wide v : Int)) = (q : Int) := by rw [e0]; exact wraps_u64 _ (by omega) (by omega)
  rw [hq]
  have CW := Lib.hid (width_any k key mx v hv)
  clear h hv hn hw hm hq e0
  generalize wide v = d at *
  go_enter Try.func46, Try.ntmps46
  go_wp2_with (go_at_call 28; refine (CW.out _).mono ?_; rintro e w1 ⟨rfl, hb⟩; have B1 := Lib.hid hb; clear hb)
  go_ret
  exact ⟨rfl, B1.out⟩
end
theorem sseen_any (f : Int) (c : Int) (w : World) : Calls Try.prog 115 #[.agg #[.int .u64 f], .int .i64 c] w fun e w' => e = .returned (.tuple #[.int .u64 f, .bool true]) ∧ Below w.heap.size w w' := by
  have B := Lib.hid (below_alloc w (.cells #[.int .u64 f] 120))
  go_enter Try.func115, Try.ntmps115
  go_wp2_with fail
  go_ret2
  exact ⟨rfl, B.out⟩
theorem sall_any (f : Int) (w : World) : Calls Try.prog 114 #[.agg #[.int .u64 f]] w fun e w' => ∃ g, e = .returned (.slice (some ⟨g, 0, none⟩) 1 1) ∧ Below w.heap.size w w' ∧ w.heap.size ≤ g ∧ Blk w' g 43 #[.int .u64 f] := by
  have B := Lib.hid (below_alloc w (.cells #[.int .u64 f] 120))
  have B2 : Hid (Below w.heap.size w ((w.alloc (.cells #[.int .u64 f] 120)).alloc (.cells #[.int .u64 f] 43))) := below_then B.out (below_alloc _ _)
  have BB : Hid (Blk ((w.alloc (.cells #[.int .u64 f] 120)).alloc (.cells #[.int .u64 f] 43)) (w.heap.size + 1) 43 #[.int .u64 f]) := by
    have := Blk.new (w.alloc (.cells #[.int .u64 f] 120)) 43 #[.int .u64 f]
    simpa [Hid] using this
  go_enter Try.func114, Try.ntmps114
  go_wp2_with fail
  go_ret
  exact ⟨_, rfl, B2.out, by simp, BB.out⟩
theorem swritten_any (f c : Int) (w : World) : Calls Try.prog 116 #[.agg #[.int .u64 f], .int .i64 c] w fun e w' => ∃ g, e = .returned (.slice (some ⟨g, 0, none⟩) 1 1) ∧ Below w.heap.size w w' ∧ w.heap.size ≤ g ∧ Blk w' g 43 #[.int .u64 f] := by
  have B := Lib.hid (below_alloc w (.cells #[.int .u64 f] 120))
  have CA := Lib.hid (sall_any f)
  go_enter Try.func116, Try.ntmps116
  go_wp2_with (go_at_call 114; refine (CA.out _).mono ?_; rintro e w1 ⟨g, rfl, hb, hg, hk⟩; have B1 := Lib.hid (below_then B.out hb); have HG := Lib.hid (Nat.le_trans B.out.size hg); have HK := Lib.hid hk; clear hb hg hk)
  go_ret
  exact ⟨_, rfl, B1.out, HG.out, HK.out⟩
theorem delete_any (p : Value) (s : ByteArray) (w : World) : Calls Try.prog 23 #[p, .string s] w fun e w' => e = .returned (.int .i64 1) ∧ w = w' := by
  go_enter Try.func23, Try.ntmps23
  go_wp2_with fail
  go_ret
  exact ⟨rfl, rfl⟩
end Go.Proofs.Ythilkgfbaddjpaa
