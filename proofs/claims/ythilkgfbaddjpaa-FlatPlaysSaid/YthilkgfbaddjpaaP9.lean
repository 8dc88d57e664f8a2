/-
  Package flat: its small functions. Package flat: fits, keyOf. Package flat: keyOf; alloc of regions. Package flat: a map as it lies; New. Package flat: fits and New of an array for each CPU. Package flat: what fits refuses ahead of its product.
-/
import Derived.Test.YthilkgfbaddjpaaP3
import Derived.BigQuiet
import Derived.Deep.QuietTactic
import Derived.Deep.RegionHeld3
import Derived.Lib.SlBytesRow
import Derived.Maps.AppendAt
import Derived.Deep.Cut
namespace Go.Proofs.Ythilkgfbaddjpaa
open Go Go.RowKit
set_option linter.unusedVariables false
set_option linter.unusedSimpArgs false
set_option maxRecDepth 100000
abbrev specV (k key v mx : Int) : Value := .agg #[.int .i64 k, .int .i64 key, .int .i64 v, .int .i64 mx]
def wide (v : Nat) : Nat := (v + 7) / 8 * 8
theorem below_alloc (w : World) (o : Obj) : Below w.heap.size w (w.alloc o) := (Below.refl _ w).alloc (Nat.le_refl _) o
theorem below_drew (w : World) (n : Nat) : Below w.heap.size w (w.drewN n) := ⟨rfl, rfl, rfl, Nat.le_refl _, fun _ _ => rfl⟩
theorem below_then {w w1 w2 : World} (h : Below w.heap.size w w1) (k : Below w1.heap.size w1 w2) : Below w.heap.size w w2 := h.trans (k.mono h.size)
theorem width_any (k key mx : Int) (v : Nat) (hv : v ≤ 4096) (w : World) : Calls Try.prog 28 #[specV k key v mx] w fun e w' => e = .returned (.int .i64 (wide v)) ∧ Below w.heap.size w w' := by
  have e1 : IntKind.i64.wrap ((v : Int) + 8) = (v : Int) + 8 := IntWalk.i64_in _ (by omega)
  have e2 : IntKind.i64.wrap ((v : Int) + 8 - 1) = (v : Int) + 7 := by rw [IntWalk.i64_in _ (by omega)]; omega
  have B := Lib.hid (below_alloc w (.cells #[.int .i64 k, .int .i64 key, .int .i64 v, .int .i64 mx] 23))
  go_enter Try.func28, Try.ntmps28
  go_wp2_with fail
  go_ret
  exact ⟨ret_int (by unfold wide; omega), B.out⟩
theorem regions_arr (c : Int) (w : World) : Calls Try.prog 27 #[.int .i64 2, .int .i64 c] w fun e w' => e = .returned (.int .i64 1) ∧ w = w' := by
  go_enter Try.func27, Try.ntmps27
  go_wp2_with fail
  go_ret
  exact ⟨rfl, rfl⟩
theorem regions_cpu (c : Int) (w : World) : Calls Try.prog 27 #[.int .i64 6, .int .i64 c] w fun e w' => e = .returned (.int .i64 c) ∧ w = w' := by
  go_enter Try.func27, Try.ntmps27
  go_wp2_with fail
  go_ret
  exact ⟨rfl, rfl⟩
abbrev sharedV (f : Int) : Value := .iface 120 (.agg #[.int .u64 f])
abbrev eachV (A : Option Addr) (n c : Nat) : Value := .iface 118 (.agg #[.slice A n c])
theorem lay_arr (g c : Nat) (f : Int) (n : Nat) (h0 : 0 < n) (w : World) (hc : w.cell? ⟨g, 0, none⟩ = some (.int .u64 f)) : Calls Try.prog 29 #[.int .i64 2, .slice (some ⟨g, 0, none⟩) n c] w fun e w' => e = .returned (sharedV f) ∧ w = w' := by
  go_enter Try.func29, Try.ntmps29
  go_wp2_with fail
  go_ret
  exact ⟨rfl, rfl⟩
theorem lay_cpu (A : Option Addr) (n c : Nat) (w : World) : Calls Try.prog 29 #[.int .i64 6, .slice A n c] w fun e w' => e = .returned (eachV A n c) ∧ w = w' := by
  go_enter Try.func29, Try.ntmps29
  go_wp2_with fail
  go_ret
  exact ⟨rfl, rfl⟩
theorem gone_nil (w : World) : Calls Try.prog 43 #[.pointer none] w fun e w' => e = .returned (.bool true) ∧ w = w' := by
  go_enter Try.func43, Try.ntmps43
  go_wp2_with fail
  go_ret
  exact ⟨rfl, rfl⟩
theorem number_no (s : ByteArray) (hs : s.size ≠ 4) (w : World) : Calls Try.prog 42 #[.string s] w fun e w' => e = .returned (.tuple #[.int .u32 0, .bool false]) ∧ w = w' := by
  have h1 : ((s.size : Int) != 4) = true := by simp; omega
  go_enter Try.func42, Try.ntmps42
  go_wp2_with fail
  go_ret2
  exact ⟨rfl, rfl⟩
theorem or_le32 (l : List UInt8) (b : UInt8) (h : l.length < 4) : bits .or .u32 (le l : Int) (((b.toNat : Int) * 2 ^ (8 * l.length)) % 4294967296) = (le (l ++ [b]) : Int) := by
  have h1 := le_lt l
  rw [pow_256] at h1
  have h2 := b.toNat_lt
  have h3 : b.toNat * 2 ^ (8 * l.length) < 2 ^ 32 := by
    have : b.toNat * 2 ^ (8 * l.length) < 256 * 2 ^ (8 * l.length) := (Nat.mul_lt_mul_right (Nat.two_pow_pos _)).2 h2
    have h4 : 256 * 2 ^ (8 * l.length) = 2 ^ (8 * l.length + 8) := by rw [Nat.pow_add]; omega
    have h5 : (2 : Nat) ^ (8 * l.length + 8) ≤ 2 ^ 32 := Nat.pow_le_pow_right (by omega) (by omega)
    omega
  have h6 : 2 ^ (8 * l.length) ≤ 2 ^ 32 := Nat.pow_le_pow_right (by omega) (by omega)
  have e : ((b.toNat : Int) * 2 ^ (8 * l.length)) % 4294967296 = ((b.toNat * 2 ^ (8 * l.length) : Nat) : Int) := by
    rw [Int.emod_eq_of_lt]
    · simp
    · exact Int.mul_nonneg (by omega) (Int.pow_nonneg (by omega))
    · have : ((b.toNat * 2 ^ (8 * l.length) : Nat) : Int) < ((2 ^ 32 : Nat) : Int) := by exact_mod_cast h3
      simpa using this
  have h7 : le l < 2 ^ 32 := by omega
  rw [e, bits_join_low .u32 32 (by decide) wraps_u32 (8 * l.length) (le l) _ (by omega) (by exact_mod_cast h1) (by exact_mod_cast h7) (by omega) ?_ (by exact_mod_cast h3), le_snoc, pow_256]
  · simp
  · have : b.toNat * 2 ^ (8 * l.length) % 2 ^ (8 * l.length) = 0 := Nat.mul_mod_left _ _
    exact_mod_cast this
theorem number_ok (xs : List UInt8) (h4 : xs.length = 4) (w : World) : Calls Try.prog 42 #[.string (bstr xs)] w fun e w' => e = .returned (.tuple #[.int .u32 (le xs), .bool true]) ∧ w = w' := by
  have hs : (bstr xs).size = 4 := by rw [bstr_size, h4]
  have h1 : (((bstr xs).size : Int) != 4) = false := by simp; omega
  go_enter Try.func42, Try.ntmps42
  go_wp2_with fail
  go_loop [4, 9] (fun n i => ∃ j : Nat, j ≤ 4 ∧ n = .int .u32 (le (xs.take j)) ∧ i = .int .i64 j) (fun _ i => 4 - (intOf i).toNat)
  case atStart => exact ⟨0, by omega, rfl, rfl⟩
  case round =>
    obtain ⟨j, hj, rfl, rfl⟩ := hrel
    by_cases hlt : j < 4
    · have hx : j < xs.length := by omega
      have hj8 : (8 : Int) * j ≤ 31 := by omega
      have e1 := or_le32 (xs.take j) xs[j] (by simp; omega)
      have e2 : (xs.take j).length = j := by simp; omega
      have e3 : xs.take (j + 1) = xs.take j ++ [xs[j]] := by rw [List.take_succ_eq_append_getElem (by omega)]
      have e4 : ((xs[j].toNat : Nat) : Int) % 4294967296 = xs[j].toNat := by have := xs[j].toNat_lt; omega
      rw [e2, ← e3, ← e4] at e1
      have E1 := Lib.hid e1
      clear e1 e2 e3 e4
      go_wp2
      refine ⟨⟨j + 1, by omega, congrArg (Value.int .u32) E1.out, by go_num⟩, by simp [intOf]; omega⟩
    · have : j = 4 := by omega
      subst this
      have e : xs.take 4 = xs := List.take_of_length_le (by omega)
      go_wp2
      go_ret2
      exact ⟨rfl, rfl⟩
section
variable {w : World} {x : Nat}
theorem gone_no (P a b c d : Value) (t : TypeId) (u : Value) (h : Blk w x 77 #[P, a, b, c, d, .iface t u]) : Calls Try.prog 43 #[.pointer (some ⟨x, 0, none⟩)] w fun e w' => e = .returned (.bool false) ∧ w = w' := by
  have c5 : w.cell? ⟨x, 5, none⟩ = some (.iface t u) := h.cell 5
  go_enter Try.func43, Try.ntmps43
  go_wp2_with fail
  go_ret
  exact ⟨rfl, rfl⟩
theorem gone_yes (P a b c d : Value) (h : Blk w x 77 #[P, a, b, c, d, .nilIface]) : Calls Try.prog 43 #[.pointer (some ⟨x, 0, none⟩)] w fun e w' => e = .returned (.bool true) ∧ w = w' := by
  have c5 : w.cell? ⟨x, 5, none⟩ = some .nilIface := h.cell 5
  go_enter Try.func43, Try.ntmps43
  go_wp2_with fail
  go_ret
  exact ⟨rfl, rfl⟩
theorem max_any (P a b c V : Value) (mx : Nat) (hm : mx ≤ 4096) (h : Blk w x 77 #[P, a, b, c, .int .i64 mx, V]) : Calls Try.prog 44 #[.pointer (some ⟨x, 0, none⟩)] w fun e w' => e = .returned (.int .u32 mx) ∧ w = w' := by
  have c4 : w.cell? ⟨x, 4, none⟩ = some (.int .i64 mx) := h.cell 4
  have e1 : IntKind.u32.wrap (mx : Int) = (mx : Int) := wraps_u32 _ (by omega) (by omega)
  go_enter Try.func44, Try.ntmps44
  go_wp2_with fail
  go_ret
  exact ⟨rfl, rfl⟩
theorem offset_any (P V : Value) (k key mx : Int) (v n : Nat) (hv : v ≤ 4096) (hn : n ≤ 4294967295) (h : Blk w x 77 #[P, .int .i64 k, .int .i64 key, .int .i64 v, .int .i64 mx, V]) : Calls Try.prog 46 #[.pointer (some ⟨x, 0, none⟩), .int .u32 n] w fun e w' => e = .returned (.int .u64 ((n * wide v : Nat) : Int)) ∧ Below w.heap.size w w' := by
  have c1 : w.cell? ⟨x, 1, none⟩ = some (.int .i64 k) := h.cell 1
  have c2 : w.cell? ⟨x, 2, none⟩ = some (.int .i64 key) := h.cell 2
  have c3 : w.cell? ⟨x, 3, none⟩ = some (.int .i64 v) := h.cell 3
  have c4 : w.cell? ⟨x, 4, none⟩ = some (.int .i64 mx) := h.cell 4
  have hw : wide v ≤ 4103 := by unfold wide; omega
  have hm : n * wide v ≤ 4294967295 * 4103 := Nat.mul_le_mul hn hw
  have e1 : IntKind.u64.wrap (n : Int) = (n : Int) := wraps_u64 _ (by omega) (by omega)
  have e2 : IntKind.u64.wrap (wide v : Int) = (wide v : Int) := wraps_u64 _ (by omega) (by omega)
  obtain ⟨q, hq⟩ : ∃ q, n * wide v = q := ⟨_, rfl⟩
  have e0 : (n : Int) * (wide v : Int) = (q : Int) := by rw [← hq]; simp
  have e3 : IntKind.u64.wrap ((n : Int) * (wide v : Int)) = (q : Int) := by rw [e0]; exact wraps_u64 _ (by omega) (by omega)
  rw [hq]
  have CW := Lib.hid (width_any k key mx v hv)
  clear h hv hn hw hm hq e0
  generalize wide v = d at *
  go_enter Try.func46, Try.ntmps46
  go_wp2_with (go_at_call 28; refine (CW.out _).mono ?_; rintro e w1 ⟨rfl, hb⟩; have B1 := Lib.hid hb; clear hb)
  go_ret
  exact ⟨rfl, B1.out⟩
end
theorem sseen_any (f : Int) (c : Int) (w : World) : Calls Try.prog 115 #[.agg #[.int .u64 f], .int .i64 c] w fun e w' => e = .returned (.tuple #[.int .u64 f, .bool true]) ∧ Below w.heap.size w w' := by
  have B := Lib.hid (below_alloc w (.cells #[.int .u64 f] 120))
  go_enter Try.func115, Try.ntmps115
  go_wp2_with fail
  go_ret2
  exact ⟨rfl, B.out⟩
theorem sall_any (f : Int) (w : World) : Calls Try.prog 114 #[.agg #[.int .u64 f]] w fun e w' => ∃ g, e = .returned (.slice (some ⟨g, 0, none⟩) 1 1) ∧ Below w.heap.size w w' ∧ w.heap.size ≤ g ∧ Blk w' g 43 #[.int .u64 f] := by
  have B := Lib.hid (below_alloc w (.cells #[.int .u64 f] 120))
  have B2 : Hid (Below w.heap.size w ((w.alloc (.cells #[.int .u64 f] 120)).alloc (.cells #[.int .u64 f] 43))) := below_then B.out (below_alloc _ _)
  have BB : Hid (Blk ((w.alloc (.cells #[.int .u64 f] 120)).alloc (.cells #[.int .u64 f] 43)) (w.heap.size + 1) 43 #[.int .u64 f]) := by
    have := Blk.new (w.alloc (.cells #[.int .u64 f] 120)) 43 #[.int .u64 f]
    simpa [Hid] using this
  go_enter Try.func114, Try.ntmps114
  go_wp2_with fail
  go_ret
  exact ⟨_, rfl, B2.out, by simp, BB.out⟩
theorem swritten_any (f c : Int) (w : World) : Calls Try.prog 116 #[.agg #[.int .u64 f], .int .i64 c] w fun e w' => ∃ g, e = .returned (.slice (some ⟨g, 0, none⟩) 1 1) ∧ Below w.heap.size w w' ∧ w.heap.size ≤ g ∧ Blk w' g 43 #[.int .u64 f] := by
  have B := Lib.hid (below_alloc w (.cells #[.int .u64 f] 120))
  have CA := Lib.hid (sall_any f)
  go_enter Try.func116, Try.ntmps116
  go_wp2_with (go_at_call 114; refine (CA.out _).mono ?_; rintro e w1 ⟨g, rfl, hb, hg, hk⟩; have B1 := Lib.hid (below_then B.out hb); have HG := Lib.hid (Nat.le_trans B.out.size hg); have HK := Lib.hid hk; clear hb hg hk)
  go_ret
  exact ⟨_, rfl, B1.out, HG.out, HK.out⟩
theorem delete_any (p : Value) (s : ByteArray) (w : World) : Calls Try.prog 23 #[p, .string s] w fun e w' => e = .returned (.int .i64 1) ∧ w = w' := by
  go_enter Try.func23, Try.ntmps23
  go_wp2_with fail
  go_ret
  exact ⟨rfl, rfl⟩
end Go.Proofs.Ythilkgfbaddjpaa
namespace Go.Proofs.Ythilkgfbaddjpaa
open Go Go.RowKit
set_option linter.unusedVariables false
set_option linter.unusedSimpArgs false
set_option maxRecDepth 100000
theorem below_drew1 {w w' : World} (h : Below w.heap.size w w') : Below w.heap.size w w'.drew := h.trans ⟨rfl, rfl, rfl, Nat.le_refl _, fun _ _ => rfl⟩
theorem blk_below {w w' : World} {g : Nat} {t : TypeId} {cs : Array Value} (h : Blk w g t cs) (hb : Below w.heap.size w w') : Blk w' g t cs := (hb.block g h.lt).trans h
theorem blk_drew {w : World} {g : Nat} {t : TypeId} {cs : Array Value} (h : Blk w g t cs) : Blk w.drew g t cs := h
theorem wpAnyH_skip {P : Program} {md : Region.Mode} {ops : Array Oper} {Q : Exit → Act → World → Prop} {S : World → Prop} (i d : Nat) {oi : Oper} {fuel : Nat} {listed : Array Bool} {a : Act} {w : World} (hi : ops[i]? = some oi) (hd : oi.dst = some d)
    (hs : Region.noSelect ops = true) (hf : Region.free md ops listed i = true) (hr : (Region.ready md ops listed).contains i = true)
    (hQ : ∀ c a w, Q (.panic c) (a.put oi.dst undef) w → Q (.panic c) a w) (hw : Region.wanted oi (yielded ops a.tmps) = false) (hS : S w)
    (h : wpAnyH P md ops Q S fuel (listed.setIfInBounds i true) (a.put (some d) undef) w) : wpAnyH P md ops Q S (fuel + 1) listed a w :=
  wpAnyH_take (v := undef) hi hs hf hr hQ (Or.inr ⟨hw, rfl⟩) hS (by rw [hd]; exact h)
set_option maxHeartbeats 1000000 in
theorem fits_arr (v mx : Nat) (c : Int) (h1 : 1 ≤ v) (h2 : v ≤ 4096) (h3 : 1 ≤ mx) (h4 : mx ≤ 4096) (h5 : 1 ≤ c) (h6 : c ≤ 8) (h7 : mx * wide v ≤ 1048576) (w : World) :
    Calls Try.prog 25 #[specV 2 4 v mx, .int .i64 c] w fun e w' => e = .returned (.bool true) ∧ Below w.heap.size w w' := by
  have g1 : decide ((1 : Int) ≤ (v : Int)) = true := by simp; omega
  have g2 : decide ((v : Int) ≤ 4096) = true := by simp; omega
  have g3 : decide ((1 : Int) ≤ (mx : Int)) = true := by simp; omega
  have g4 : decide ((mx : Int) ≤ 4096) = true := by simp; omega
  have g5 : decide (1 ≤ c) = true := by simp; omega
  have g6 : decide (c ≤ 8) = true := by simp; omega
  have n1 : decide (1 ≤ v) = true := by simp; omega
  have n2 : decide (v ≤ 4096) = true := by simp; omega
  have n3 : decide (1 ≤ mx) = true := by simp; omega
  have n4 : decide (mx ≤ 4096) = true := by simp; omega
  obtain ⟨q, hq⟩ : ∃ q, mx * wide v = q := ⟨_, rfl⟩
  have e0 : (mx : Int) * (wide v : Int) = (q : Int) := by rw [← hq]; simp
  have g7 : decide ((q : Int) ≤ 1048576) = true := by simp; omega
  have n7 : decide (q ≤ 1048576) = true := by simp; omega
  have e3 : IntKind.i64.wrap ((mx : Int) * (wide v : Int)) = (q : Int) := by rw [e0]; exact IntWalk.i64_in _ (by omega)
  have CW := Lib.hid (width_any 2 4 mx v h2)
  have B := Lib.hid (below_alloc w (.cells #[.int .i64 2, .int .i64 4, .int .i64 v, .int .i64 mx] 23))
  have HB := Lib.hid (Blk.new w 23 #[.int .i64 2, .int .i64 4, .int .i64 v, .int .i64 mx])
  have S0 : Hid ((w.alloc (.cells #[.int .i64 2, .int .i64 4, .int .i64 v, .int .i64 mx] 23)).cell? ⟨w.heap.size, 0, none⟩ = some (.int .i64 2) ∧ (w.alloc (.cells #[.int .i64 2, .int .i64 4, .int .i64 v, .int .i64 mx] 23)).cell? ⟨w.heap.size, 1, none⟩ = some (.int .i64 4) ∧ (w.alloc (.cells #[.int .i64 2, .int .i64 4, .int .i64 v, .int .i64 mx] 23)).cell? ⟨w.heap.size, 2, none⟩ = some (.int .i64 v) ∧ (w.alloc (.cells #[.int .i64 2, .int .i64 4, .int .i64 v, .int .i64 mx] 23)).cell? ⟨w.heap.size, 3, none⟩ = some (.int .i64 mx)) := ⟨HB.out.cell 0, HB.out.cell 1, HB.out.cell 2, HB.out.cell 3⟩
  clear h1 h2 h3 h4 h5 h6 h7 e0 hq
  generalize wide v = d at *
  go_enter Try.func25, Try.ntmps25
  go_wp2_with fail
  refine wp_region_noPanic ?_
  refine wp_region_held_drew (S := fun W => W.cell? ⟨w.heap.size, 0, none⟩ = some (.int .i64 2) ∧ W.cell? ⟨w.heap.size, 1, none⟩ = some (.int .i64 4) ∧ W.cell? ⟨w.heap.size, 2, none⟩ = some (.int .i64 v) ∧ W.cell? ⟨w.heap.size, 3, none⟩ = some (.int .i64 mx)) (by kernel_rfl) S0.out (fun hHeld => ?_)
  refine wpAnyH_take (i := 0) (oi := _) (v := ?_) rfl (by kernel_rfl) (by kernel_rfl) (by kernel_rfl) (fun _ _ _ h => h) (Or.inl ⟨by kernel_rfl, ?_⟩) S0.out ?_
  rotate_left 1
  · intro w' hSw; obtain ⟨q0, q1, q2, q3⟩ := hSw; go_simp; (try with_reducible rfl)
  try simp only [Act.put]
  refine wpAnyH_take (i := 1) (oi := _) (v := ?_) rfl (by kernel_rfl) (by kernel_rfl) (by kernel_rfl) (fun _ _ _ h => h) (Or.inl ⟨by kernel_rfl, ?_⟩) S0.out ?_
  rotate_left 1
  · intro w' hSw; obtain ⟨q0, q1, q2, q3⟩ := hSw; go_simp; (try with_reducible rfl)
  try simp only [Act.put]
  refine wpAnyH_take (i := 2) (oi := _) (v := ?_) rfl (by kernel_rfl) (by kernel_rfl) (by kernel_rfl) (fun _ _ _ h => h) (Or.inl ⟨by kernel_rfl, ?_⟩) S0.out ?_
  rotate_left 1
  · intro w' hSw; obtain ⟨q0, q1, q2, q3⟩ := hSw; go_simp; (try with_reducible rfl)
  try simp only [Act.put]
  refine wpAnyH_take (i := 3) (oi := _) (v := ?_) rfl (by kernel_rfl) (by kernel_rfl) (by kernel_rfl) (fun _ _ _ h => h) (Or.inl ⟨by kernel_rfl, ?_⟩) S0.out ?_
  rotate_left 1
  · intro w' hSw; obtain ⟨q0, q1, q2, q3⟩ := hSw; go_simp; (try with_reducible rfl)
  try simp only [Act.put]
  refine wpAnyH_skip 4 9 rfl (by rfl) (by kernel_rfl) (by kernel_rfl) (by kernel_rfl) (fun _ _ _ h => h) (by kernel_rfl) S0.out ?_
  try simp only [Act.put]
  refine wpAnyH_skip 5 10 rfl (by rfl) (by kernel_rfl) (by kernel_rfl) (by kernel_rfl) (fun _ _ _ h => h) (by kernel_rfl) S0.out ?_
  try simp only [Act.put]
  refine wpAnyH_skip 6 11 rfl (by rfl) (by kernel_rfl) (by kernel_rfl) (by kernel_rfl) (fun _ _ _ h => h) (by kernel_rfl) S0.out ?_
  try simp only [Act.put]
  refine wpAnyH_take (i := 7) (oi := _) (v := ?_) rfl (by kernel_rfl) (by kernel_rfl) (by kernel_rfl) (fun _ _ _ h => h) (Or.inl ⟨by kernel_rfl, ?_⟩) S0.out ?_
  rotate_left 1
  · intro w' hSw; obtain ⟨q0, q1, q2, q3⟩ := hSw; go_simp; (try with_reducible rfl)
  try simp only [Act.put]
  refine wpAnyH_take (i := 8) (oi := _) (v := ?_) rfl (by kernel_rfl) (by kernel_rfl) (by kernel_rfl) (fun _ _ _ h => h) (Or.inl ⟨by kernel_rfl, ?_⟩) S0.out ?_
  rotate_left 1
  · intro w' hSw; obtain ⟨q0, q1, q2, q3⟩ := hSw; go_simp; (try with_reducible rfl)
  try simp only [Act.put]
  refine wpAnyH_take (i := 9) (oi := _) (v := ?_) rfl (by kernel_rfl) (by kernel_rfl) (by kernel_rfl) (fun _ _ _ h => h) (Or.inl ⟨by kernel_rfl, ?_⟩) S0.out ?_
  rotate_left 1
  · intro w' hSw; obtain ⟨q0, q1, q2, q3⟩ := hSw; go_simp; (try with_reducible rfl)
  try simp only [Act.put]
  refine wpAnyH_take (i := 10) (oi := _) (v := ?_) rfl (by kernel_rfl) (by kernel_rfl) (by kernel_rfl) (fun _ _ _ h => h) (Or.inl ⟨by kernel_rfl, ?_⟩) S0.out ?_
  rotate_left 1
  · intro w' hSw; obtain ⟨q0, q1, q2, q3⟩ := hSw; go_simp; (try with_reducible rfl)
  try simp only [Act.put]
  refine wpAnyH_take (i := 11) (oi := _) (v := ?_) rfl (by kernel_rfl) (by kernel_rfl) (by kernel_rfl) (fun _ _ _ h => h) (Or.inl ⟨by kernel_rfl, ?_⟩) S0.out ?_
  rotate_left 1
  · intro w' hSw; obtain ⟨q0, q1, q2, q3⟩ := hSw; go_simp; (try with_reducible rfl)
  try simp only [Act.put]
  refine wpAnyH_take (i := 12) (oi := _) (v := ?_) rfl (by kernel_rfl) (by kernel_rfl) (by kernel_rfl) (fun _ _ _ h => h) (Or.inl ⟨by kernel_rfl, ?_⟩) S0.out ?_
  rotate_left 1
  · intro w' hSw; obtain ⟨q0, q1, q2, q3⟩ := hSw; go_simp; (try with_reducible rfl)
  try simp only [Act.put]
  refine wpAnyH_take (i := 13) (oi := _) (v := ?_) rfl (by kernel_rfl) (by kernel_rfl) (by kernel_rfl) (fun _ _ _ h => h) (Or.inl ⟨by kernel_rfl, ?_⟩) S0.out ?_
  rotate_left 1
  · intro w' hSw; obtain ⟨q0, q1, q2, q3⟩ := hSw; go_simp; (try with_reducible rfl)
  try simp only [Act.put]
  refine wpAnyH_take (i := 14) (oi := _) (v := ?_) rfl (by kernel_rfl) (by kernel_rfl) (by kernel_rfl) (fun _ _ _ h => h) (Or.inl ⟨by kernel_rfl, ?_⟩) S0.out ?_
  rotate_left 1
  · intro w' hSw; obtain ⟨q0, q1, q2, q3⟩ := hSw; go_simp; (try with_reducible rfl)
  try simp only [Act.put]
  refine wpAnyH_take (i := 15) (oi := _) (v := ?_) rfl (by kernel_rfl) (by kernel_rfl) (by kernel_rfl) (fun _ _ _ h => h) (Or.inl ⟨by kernel_rfl, ?_⟩) S0.out ?_
  rotate_left 1
  · intro w' hSw; obtain ⟨q0, q1, q2, q3⟩ := hSw; go_simp; (try with_reducible rfl)
  try simp only [Act.put]
  refine wpAnyH_take (i := 16) (oi := _) (v := ?_) rfl (by kernel_rfl) (by kernel_rfl) (by kernel_rfl) (fun _ _ _ h => h) (Or.inl ⟨by kernel_rfl, ?_⟩) S0.out ?_
  rotate_left 1
  · intro w' hSw; obtain ⟨q0, q1, q2, q3⟩ := hSw; go_simp; (try with_reducible rfl)
  try simp only [Act.put]
  refine wpAnyH_take (i := 17) (oi := _) (v := ?_) rfl (by kernel_rfl) (by kernel_rfl) (by kernel_rfl) (fun _ _ _ h => h) (Or.inl ⟨by kernel_rfl, ?_⟩) S0.out ?_
  rotate_left 1
  · intro w' hSw; obtain ⟨q0, q1, q2, q3⟩ := hSw; go_simp; (try with_reducible rfl)
  try simp only [Act.put]
  refine wpAnyH_take (i := 18) (oi := _) (v := ?_) rfl (by kernel_rfl) (by kernel_rfl) (by kernel_rfl) (fun _ _ _ h => h) (Or.inl ⟨by kernel_rfl, ?_⟩) S0.out ?_
  rotate_left 1
  · intro w' hSw; obtain ⟨q0, q1, q2, q3⟩ := hSw; go_simp; (try with_reducible rfl)
  try simp only [Act.put]
  refine wpAnyH_take (i := 19) (oi := _) (v := ?_) rfl (by kernel_rfl) (by kernel_rfl) (by kernel_rfl) (fun _ _ _ h => h) (Or.inl ⟨by kernel_rfl, ?_⟩) S0.out ?_
  rotate_left 1
  · intro w' hSw; obtain ⟨q0, q1, q2, q3⟩ := hSw; go_simp; (try with_reducible rfl)
  try simp only [Act.put]
  refine wpAnyH_take (i := 20) (oi := _) (v := ?_) rfl (by kernel_rfl) (by kernel_rfl) (by kernel_rfl) (fun _ _ _ h => h) (Or.inl ⟨by kernel_rfl, ?_⟩) S0.out ?_
  rotate_left 1
  · intro w' hSw; obtain ⟨q0, q1, q2, q3⟩ := hSw; go_simp; (try with_reducible rfl)
  try simp only [Act.put]
  refine wpAnyH_take (i := 21) (oi := _) (v := ?_) rfl (by kernel_rfl) (by kernel_rfl) (by kernel_rfl) (fun _ _ _ h => h) (Or.inl ⟨by kernel_rfl, ?_⟩) S0.out ?_
  rotate_left 1
  · intro w' hSw; obtain ⟨q0, q1, q2, q3⟩ := hSw; go_simp; (try with_reducible rfl)
  try simp only [Act.put]
  refine wpAnyH_take (i := 22) (oi := _) (v := ?_) rfl (by kernel_rfl) (by kernel_rfl) (by kernel_rfl) (fun _ _ _ h => h) (Or.inl ⟨by kernel_rfl, ?_⟩) S0.out ?_
  rotate_left 1
  · intro w' hSw; obtain ⟨q0, q1, q2, q3⟩ := hSw; go_simp; (try with_reducible rfl)
  try simp only [Act.put]
  refine wpAnyH_take (i := 23) (oi := _) (v := ?_) rfl (by kernel_rfl) (by kernel_rfl) (by kernel_rfl) (fun _ _ _ h => h) (Or.inl ⟨by kernel_rfl, ?_⟩) S0.out ?_
  rotate_left 1
  · intro w' hSw; obtain ⟨q0, q1, q2, q3⟩ := hSw; go_simp; (try with_reducible rfl)
  try simp only [Act.put]
  refine wpAnyH_take (i := 24) (oi := _) (v := ?_) rfl (by kernel_rfl) (by kernel_rfl) (by kernel_rfl) (fun _ _ _ h => h) (Or.inl ⟨by kernel_rfl, ?_⟩) S0.out ?_
  rotate_left 1
  · intro w' hSw; obtain ⟨q0, q1, q2, q3⟩ := hSw; go_simp; (try with_reducible rfl)
  try simp only [Act.put]
  refine wpAnyH_take (i := 25) (oi := _) (v := ?_) rfl (by kernel_rfl) (by kernel_rfl) (by kernel_rfl) (fun _ _ _ h => h) (Or.inl ⟨by kernel_rfl, ?_⟩) S0.out ?_
  rotate_left 1
  · intro w' hSw; obtain ⟨q0, q1, q2, q3⟩ := hSw; go_simp; (try with_reducible rfl)
  try simp only [Act.put]
  refine wpAnyH_take (i := 26) (oi := _) (v := ?_) rfl (by kernel_rfl) (by kernel_rfl) (by kernel_rfl) (fun _ _ _ h => h) (Or.inl ⟨by kernel_rfl, ?_⟩) S0.out ?_
  rotate_left 1
  · intro w' hSw; obtain ⟨q0, q1, q2, q3⟩ := hSw; go_simp; (try with_reducible rfl)
  try simp only [Act.put]
  refine wpAnyH_take (i := 27) (oi := _) (v := ?_) rfl (by kernel_rfl) (by kernel_rfl) (by kernel_rfl) (fun _ _ _ h => h) (Or.inl ⟨by kernel_rfl, ?_⟩) S0.out ?_
  rotate_left 1
  · intro w' hSw; obtain ⟨q0, q1, q2, q3⟩ := hSw; go_simp; (try with_reducible rfl)
  try simp only [Act.put]
  refine wpAnyH_take (i := 28) (oi := _) (v := ?_) rfl (by kernel_rfl) (by kernel_rfl) (by kernel_rfl) (fun _ _ _ h => h) (Or.inl ⟨by kernel_rfl, ?_⟩) S0.out ?_
  rotate_left 1
  · intro w' hSw; obtain ⟨q0, q1, q2, q3⟩ := hSw; go_simp; (try with_reducible rfl)
  try simp only [Act.put]
  refine wpAnyH_take (i := 29) (oi := _) (v := ?_) rfl (by kernel_rfl) (by kernel_rfl) (by kernel_rfl) (fun _ _ _ h => h) (Or.inl ⟨by kernel_rfl, ?_⟩) S0.out ?_
  rotate_left 1
  · intro w' hSw; obtain ⟨q0, q1, q2, q3⟩ := hSw; go_simp; (try with_reducible rfl)
  try simp only [Act.put]
  refine wpAnyH_take (i := 30) (oi := _) (v := ?_) rfl (by kernel_rfl) (by kernel_rfl) (by kernel_rfl) (fun _ _ _ h => h) (Or.inl ⟨by kernel_rfl, ?_⟩) S0.out ?_
  rotate_left 1
  · intro w' hSw; obtain ⟨q0, q1, q2, q3⟩ := hSw; go_simp; (try with_reducible rfl)
  try simp only [Act.put]
  refine wpAnyH_take (i := 31) (oi := _) (v := ?_) rfl (by kernel_rfl) (by kernel_rfl) (by kernel_rfl) (fun _ _ _ h => h) (Or.inl ⟨by kernel_rfl, ?_⟩) S0.out ?_
  rotate_left 1
  · intro w' hSw; obtain ⟨q0, q1, q2, q3⟩ := hSw; go_simp; (try with_reducible rfl)
  try simp only [Act.put]
  refine wpAnyH_take (i := 32) (oi := _) (v := ?_) rfl (by kernel_rfl) (by kernel_rfl) (by kernel_rfl) (fun _ _ _ h => h) (Or.inl ⟨by kernel_rfl, ?_⟩) S0.out ?_
  rotate_left 1
  · intro w' hSw; obtain ⟨q0, q1, q2, q3⟩ := hSw; go_simp; (try with_reducible rfl)
  try simp only [Act.put]
  refine wpAnyH_take (i := 33) (oi := _) (v := ?_) rfl (by kernel_rfl) (by kernel_rfl) (by kernel_rfl) (fun _ _ _ h => h) (Or.inl ⟨by kernel_rfl, ?_⟩) S0.out ?_
  rotate_left 1
  · intro w' hSw; obtain ⟨q0, q1, q2, q3⟩ := hSw; go_simp; (try with_reducible rfl)
  try simp only [Act.put]
  refine wpAnyH_take (i := 34) (oi := _) (v := ?_) rfl (by kernel_rfl) (by kernel_rfl) (by kernel_rfl) (fun _ _ _ h => h) (Or.inl ⟨by kernel_rfl, ?_⟩) S0.out ?_
  rotate_left 1
  · intro w' hSw; obtain ⟨q0, q1, q2, q3⟩ := hSw; go_simp; (try with_reducible rfl)
  try simp only [Act.put]
  refine wpAnyH_take (i := 35) (oi := _) (v := ?_) rfl (by kernel_rfl) (by kernel_rfl) (by kernel_rfl) (fun _ _ _ h => h) (Or.inl ⟨by kernel_rfl, ?_⟩) S0.out ?_
  rotate_left 1
  · intro w' hSw; obtain ⟨q0, q1, q2, q3⟩ := hSw; go_simp; (try with_reducible rfl)
  try simp only [Act.put]
  refine wpAnyH_take (i := 36) (oi := _) (v := ?_) rfl (by kernel_rfl) (by kernel_rfl) (by kernel_rfl) (fun _ _ _ h => h) (Or.inl ⟨by kernel_rfl, ?_⟩) S0.out ?_
  rotate_left 1
  · intro w' hSw; obtain ⟨q0, q1, q2, q3⟩ := hSw; go_simp; (try with_reducible rfl)
  try simp only [Act.put]
  refine wpAnyH_take (i := 37) (oi := _) (v := ?_) rfl (by kernel_rfl) (by kernel_rfl) (by kernel_rfl) (fun _ _ _ h => h) (Or.inl ⟨by kernel_rfl, ?_⟩) S0.out ?_
  rotate_left 1
  · intro w' hSw; obtain ⟨q0, q1, q2, q3⟩ := hSw; go_simp; (try with_reducible rfl)
  try simp only [Act.put]
  refine wpAnyH_take (i := 38) (oi := _) (v := ?_) rfl (by kernel_rfl) (by kernel_rfl) (by kernel_rfl) (fun _ _ _ h => h) (Or.inl ⟨by kernel_rfl, ?_⟩) S0.out ?_
  rotate_left 1
  · intro w' hSw; obtain ⟨q0, q1, q2, q3⟩ := hSw; go_simp; (try with_reducible rfl)
  try simp only [Act.put]
  refine wpAnyH_take (i := 39) (oi := _) (v := ?_) rfl (by kernel_rfl) (by kernel_rfl) (by kernel_rfl) (fun _ _ _ h => h) (Or.inl ⟨by kernel_rfl, ?_⟩) S0.out ?_
  rotate_left 1
  · intro w' hSw; obtain ⟨q0, q1, q2, q3⟩ := hSw; go_simp; (try with_reducible rfl)
  try simp only [Act.put]
  refine wpAnyH_take (i := 40) (oi := _) (v := ?_) rfl (by kernel_rfl) (by kernel_rfl) (by kernel_rfl) (fun _ _ _ h => h) (Or.inl ⟨by kernel_rfl, ?_⟩) S0.out ?_
  rotate_left 1
  · intro w' hSw; obtain ⟨q0, q1, q2, q3⟩ := hSw; go_simp; (try with_reducible rfl)
  try simp only [Act.put]
  refine wpAnyH_take (i := 41) (oi := _) (v := ?_) rfl (by kernel_rfl) (by kernel_rfl) (by kernel_rfl) (fun _ _ _ h => h) (Or.inl ⟨by kernel_rfl, ?_⟩) S0.out ?_
  rotate_left 1
  · intro w' hSw; obtain ⟨q0, q1, q2, q3⟩ := hSw; go_simp; (try with_reducible rfl)
  try simp only [Act.put]
  refine wpAnyH_take (i := 42) (oi := _) (v := ?_) rfl (by kernel_rfl) (by kernel_rfl) (by kernel_rfl) (fun _ _ _ h => h) (Or.inl ⟨by kernel_rfl, ?_⟩) S0.out ?_
  rotate_left 1
  · intro w' hSw; obtain ⟨q0, q1, q2, q3⟩ := hSw; go_simp; (try with_reducible rfl)
  try simp only [Act.put]
  refine wpAnyH_take (i := 43) (oi := _) (v := ?_) rfl (by kernel_rfl) (by kernel_rfl) (by kernel_rfl) (fun _ _ _ h => h) (Or.inl ⟨by kernel_rfl, ?_⟩) S0.out ?_
  rotate_left 1
  · intro w' hSw; obtain ⟨q0, q1, q2, q3⟩ := hSw; go_simp; (try with_reducible rfl)
  try simp only [Act.put]
  refine wpAnyH_take (i := 44) (oi := _) (v := ?_) rfl (by kernel_rfl) (by kernel_rfl) (by kernel_rfl) (fun _ _ _ h => h) (Or.inl ⟨by kernel_rfl, ?_⟩) S0.out ?_
  rotate_left 1
  · intro w' hSw; obtain ⟨q0, q1, q2, q3⟩ := hSw; go_simp; (try with_reducible rfl)
  try simp only [Act.put]
  refine wpAnyH_ready (rs := [45]) (by kernel_rfl) (by simp) ?_
  refine AllReadyH.cons (o := _) rfl (fun K hK => ?_) AllReadyH.nil
  go_simp
  go_at_call 28
  refine (CW.out _).mono ?_
  rintro e w1 ⟨rfl, hb⟩
  have B1 := Lib.hid (below_then (below_drew1 B.out) hb)
  have HB1 := Lib.hid (blk_below (blk_drew HB.out) hb)
  have S1 : Hid (w1.cell? ⟨w.heap.size, 0, none⟩ = some (.int .i64 2) ∧ w1.cell? ⟨w.heap.size, 1, none⟩ = some (.int .i64 4) ∧ w1.cell? ⟨w.heap.size, 2, none⟩ = some (.int .i64 v) ∧ w1.cell? ⟨w.heap.size, 3, none⟩ = some (.int .i64 mx)) := ⟨HB1.out.cell 0, HB1.out.cell 1, HB1.out.cell 2, HB1.out.cell 3⟩
  clear hb
  refine hK.out _ _ S1.out (fun hHeld => ?_)
  clear hK K
  try simp only [Act.put]
  refine wpAnyH_take (i := 46) (oi := _) (v := ?_) rfl (by kernel_rfl) (by kernel_rfl) (by kernel_rfl) (fun _ _ _ h => h) (Or.inl ⟨by kernel_rfl, ?_⟩) S1.out ?_
  rotate_left 1
  · intro w' hSw; obtain ⟨q0, q1, q2, q3⟩ := hSw; go_simp; (try with_reducible rfl)
  try simp only [Act.put]
  refine wpAnyH_take (i := 47) (oi := _) (v := ?_) rfl (by kernel_rfl) (by kernel_rfl) (by kernel_rfl) (fun _ _ _ h => h) (Or.inl ⟨by kernel_rfl, ?_⟩) S1.out ?_
  rotate_left 1
  · intro w' hSw; obtain ⟨q0, q1, q2, q3⟩ := hSw; go_simp; (try with_reducible rfl)
  try simp only [Act.put]
  refine wpAnyH_take (i := 48) (oi := _) (v := ?_) rfl (by kernel_rfl) (by kernel_rfl) (by kernel_rfl) (fun _ _ _ h => h) (Or.inl ⟨by kernel_rfl, ?_⟩) S1.out ?_
  rotate_left 1
  · intro w' hSw; obtain ⟨q0, q1, q2, q3⟩ := hSw; go_simp; (try with_reducible rfl)
  try simp only [Act.put]
  refine wpAnyH_take (i := 49) (oi := _) (v := ?_) rfl (by kernel_rfl) (by kernel_rfl) (by kernel_rfl) (fun _ _ _ h => h) (Or.inl ⟨by kernel_rfl, ?_⟩) S1.out ?_
  rotate_left 1
  · intro w' hSw; obtain ⟨q0, q1, q2, q3⟩ := hSw; go_simp; (try with_reducible rfl)
  try simp only [Act.put]
  refine wpAnyH_done (by kernel_rfl) ?_ _
  refine NoPanic.normal ?_
  go_simp
  go_wp2_with fail
  go_ret
  exact ⟨rfl, B1.out⟩
end Go.Proofs.Ythilkgfbaddjpaa
namespace Go.Proofs.Ythilkgfbaddjpaa
open Go Go.RowKit
set_option linter.unusedVariables false
set_option linter.unusedSimpArgs false
set_option maxRecDepth 100000
theorem wb4 (n : Nat) (hn : n ≤ 4294967295) : (wb n 4).map byteV = [.int .u8 ((n : Int) % 256), .int .u8 ((n : Int) / 256 % 256), .int .u8 ((n : Int) / 65536 % 256), .int .u8 ((n : Int) / 16777216)] := by
  have e : wb n 4 = [UInt8.ofNat (n / 1), UInt8.ofNat (n / 256), UInt8.ofNat (n / 65536), UInt8.ofNat (n / 16777216)] := rfl
  rw [e]
  simp only [List.map_cons, List.map_nil, byteV_ofNat]
  have h : n / 16777216 % 256 = n / 16777216 := Nat.mod_eq_of_lt (by omega)
  rw [h]
  simp
theorem keyOf_any (n : Nat) (hn : n ≤ 4294967295) (w : World) : Calls Try.prog 48 #[.int .u32 n] w fun e w' => e = .returned (.string (bstr (wb n 4))) ∧ Below w.heap.size w w' := by
  have B := Lib.hid (below_alloc w (.cells #[.int .u8 ((n : Int) % 256), .int .u8 ((n : Int) / 256 % 256), .int .u8 ((n : Int) / 65536 % 256), .int .u8 ((n : Int) / 16777216)] 5))
  have hb := Blk.new w 5 #[.int .u8 ((n : Int) % 256), .int .u8 ((n : Int) / 256 % 256), .int .u8 ((n : Int) / 65536 % 256), .int .u8 ((n : Int) / 16777216)]
  have hc := Lib.run_convert_whole (P := Try.prog) (w.alloc (.cells #[.int .u8 ((n : Int) % 256), .int .u8 ((n : Int) / 256 % 256), .int .u8 ((n : Int) / 65536 % 256), .int .u8 ((n : Int) / 16777216)] 5)) 55 5 9 Try.underlying55 Try.underlying5 Try.underlying9 w.heap.size 0 (bstr (wb n 4)) (fun i hi => by
    have hi' : i < (wb n 4).length := by rw [← bstr_size]; exact hi
    have h1 := hb.cell i
    have h2 := congrArg (fun l => l[i]?) (wb4 n hn)
    simp only [List.getElem?_map, List.getElem?_eq_getElem hi'] at h2
    rw [Nat.zero_add, h1, List.getElem?_toArray]
    exact h2.symm) 4
  rw [bstr_size, wb_length] at hc
  have HC := Lib.hid hc
  clear hc hb
  go_enter Try.func48, Try.ntmps48
  go_wp2_with fail
  rw [HC.out]
  go_wp2_with fail
  go_ret
  exact ⟨rfl, B.out⟩
theorem info64 : (Try.prog.info? 43).map (fun i => (i.zero, i.size, i.bytes)) = some (some (.int .u64 0), 1, 8) := by kernel_rfl
theorem wpList_append_runA {P : Program} {ops : Array Oper} {rest : List Oper} {o : Oper} {a : Act} {w : World} {Q : Exit → Act → World → Prop} (hgd : o.guard = none) (s x : Operand) (t : TypeId)
    (ho : o.op = .call { callee := .builtin .append, args := #[s, x], argTypes := #[t, t] }) (v xv v' : Value) (w' : World) (hs : a.eval s = v) (hx : a.eval x = xv) (ty : TypeId) (hty : o.type = ty) (hrun : (Builtin.append_ #[t, t] ty #[v, xv]).run P w = .ok v' w')
    (h : wpList P ops Q rest (a.put o.dst v') w') : wpList P ops Q (o :: rest) a w := by
  refine wpList_plain hgd fun K hK => ?_
  subst hty
  unfold Oper.wp execOp
  simp only [ho, resolve, invoke, builtin, Sem.run_bind, Sem.run_pure, Result.andThen_ok, List.map_toArray, List.map_cons, List.map_nil, hs, hx, hrun]
  exact hK _ _ h
def firstsC (made n : Nat) : List Value := (List.range n).map fun i => .int .u64 (addr (made + 1 + i) 0)
theorem firstsC_succ (made n : Nat) : firstsC made (n + 1) = firstsC made n ++ [.int .u64 (addr (made + n + 1) 0)] := by
  unfold firstsC
  rw [List.range_succ, List.map_append, show made + n + 1 = made + 1 + n by omega]
  rfl
section
variable {w w1 : World} {S : Nat → Prop} {bm made fail : Nat} {st : Nat → Option RG} {rl : List Nat} {mv rv : Value}
/-- j regions of size bytes have been made, and v holds where they begin. -/
structure AN (w : World) (S : Nat → Prop) (bm made fail : Nat) (st : Nat → Option RG) (rl : List Nat) (rv : Value) (size j : Nat) (wr : World) (v : Value) (S' : Nat → Prop) (st' : Nat → Option RG) (mv' : Value) : Prop where
  km : KM wr S' bm (made + j) (fail - j) st' rl mv' rv
  keeps : Keeps S w wr
  sub : ∀ b, S' b → S b ∨ w.heap.size ≤ b
  row : wr.ownsRow w.heap.size 43 1 v j (firstsC made j)
  apart : ∀ g, v.ownBlock = some g → ¬ S' g
  old : ∀ m, (m ≤ made ∨ made + j < m) → st' m = st m
  new : ∀ i, i < j → ∃ r, st' (made + 1 + i) = some r ∧ r.perm = 3 ∧ r.bytes = List.replicate size 0 ∧ r.ret = false ∧ r.row = none
theorem AN.start (h : KM w S bm made fail st rl mv rv) (size : Nat) : AN w S bm made fail st rl rv size 0 w (.slice none 0 0) S st mv :=
  ⟨h, Keeps.refl _ _, fun b hb => .inl hb, World.ownsRow_nil _ _ _ _, (fun g hg => by cases hg), fun m _ => rfl, fun i hi => by omega⟩
theorem AN.step {size j : Nat} {wr : World} {v : Value} {S' : Nat → Prop} {st' : Nat → Option RG} {mv' : Value} (h : AN w S bm made fail st rl rv size j wr v S' st' mv') (hj : j ≤ 4096) (ha : AllocPost wr S' bm (made + j) (fail - j) st' rl rv size 3 w1) :
    ∃ v2 w3, (Builtin.append_ #[68, 68] 68 #[v, .slice (some ⟨w1.heap.size, 0, none⟩) 1 1]).run Try.prog (w1.alloc (.cells #[.int .u64 (addr (made + j + 1) 0)] 43)) = .ok v2 w3 ∧ ∃ S2 st2 mv2, AN w S bm made fail st rl rv size (j + 1) w3 v2 S2 st2 mv2 := by
  obtain ⟨i0, hi, hz0, hz1, hz2⟩ := info_parts info64
  obtain ⟨r, mv2, hk, kk, e1, e2, e3, e4⟩ := ha
  have hb0 : w.heap.size ≤ wr.heap.size := h.keeps.size
  have hb1 : wr.heap.size ≤ w1.heap.size := kk.size
  have row1 : w1.ownsRow w.heap.size 43 1 v j (firstsC made j) := ownsRow_block h.row fun g hg => kk.block g (h.row.lt g hg).2 (h.apart g hg)
  have row2 := row1.alloc (.cells #[.int .u64 (addr (made + j + 1) 0)] 43)
  have hB := Blk.new w1 43 #[.int .u64 (addr (made + j + 1) 0)]
  obtain ⟨v2, w3, hr, h1, h2, _, h5⟩ := run_append_own_at (P := Try.prog) (w1.alloc (.cells #[.int .u64 (addr (made + j + 1) 0)] 43)) w.heap.size 68 68 43 i0 (.int .u64 0) 1 8 Try.underlying68 hi hz0 hz1 hz2 rfl (by decide) v j (firstsC made j) row2 ⟨w1.heap.size, 0, none⟩ 1 1 [.int .u64 (addr (made + j + 1) 0)] rfl (fun k u hu => by
      rw [Go.WideShapes.add_plain, Nat.zero_add, hB.cell k]
      simpa using hu) (fun u hu => by simp only [List.mem_singleton] at hu; subst hu; rfl) (by unfold maxLen; omega) (by omega) (by simp; omega)
  refine ⟨v2, w3, hr, more S' wr w1, upd st' (made + j + 1) (some r), mv2, ?_⟩
  have k2 : Keeps (fun _ => False) w1 (w1.alloc (.cells #[.int .u64 (addr (made + j + 1) 0)] 43)) := (Keeps.refl _ _).alloc _
  have km2 := hk.keeps k2 (fun b _ hf => hf)
  have k3 : Keeps (fun b => v.ownBlock = some b) (w1.alloc (.cells #[.int .u64 (addr (made + j + 1) 0)] 43)) w3 := (Keeps.refl _ _).grown h2 (fun k e => .inl e)
  have apart2 : ∀ b, more S' wr w1 b → ¬ v.ownBlock = some b := fun b hb e => by
    rcases hb with hb | ⟨hb, _⟩
    · exact h.apart b e hb
    · have := (h.row.lt b e).2; omega
  have km3 := km2.keeps k3 apart2
  refine ⟨by rw [show made + (j + 1) = made + j + 1 by omega, show fail - (j + 1) = fail - j - 1 by omega]; exact km3, ?_, ?_, ?_, ?_, ?_, ?_⟩
  · refine h.keeps.trans ((kk.mono fun b hb => ?_).trans ?_)
    · rcases h.sub b hb with hs | hs
      · exact .inl hs
      · exact .inr ⟨hs, h.km.lt b hb⟩
    · refine Keeps.trans (k2.mono fun b hf => hf.elim) (k3.mono fun b hb => ?_)
      have := (h.row.lt b hb)
      exact .inl (.inl (.inr this))
  · intro b hb
    rcases hb with hb | ⟨hb, _⟩
    · exact h.sub b hb
    · exact .inr (by omega)
  · rw [firstsC_succ]; exact h1
  · intro g hg hs
    rcases h5 with e | e
    · exact apart2 g hs (by rw [← e]; exact hg)
    · rw [hg] at e
      have e := Option.some.inj e
      have := hk.lt g hs
      simp at e
      omega
  · intro m hm
    show upd st' (made + j + 1) (some r) m = st m
    rw [upd_other _ _ (by omega)]
    exact h.old m (by omega)
  · intro i hi2
    by_cases hij : i = j
    · subst hij
      exact ⟨r, by rw [show made + 1 + i = made + i + 1 by omega, upd_same], e1, e2, e3, e4⟩
    · obtain ⟨r', q1, q2⟩ := h.new i (by omega)
      exact ⟨r', by rw [upd_other _ _ (by omega)]; exact q1, q2⟩
set_option maxHeartbeats 1000000 in
theorem allocs_ok (h : KM w S bm made fail st rl mv rv) (n : Nat) (hf : fail = 0 ∨ n < fail) (hmade : made + n ≤ 4095) (size : Nat) (h1 : 1 ≤ size) (h2 : size ≤ 1048576) :
    Calls Try.prog 26 #[.pointer (some ⟨bm, 0, none⟩), .int .i64 n, .int .i64 size] w fun e w' => ∃ v S' st' mv', e = .returned (.tuple #[v, .int .i64 0]) ∧ AN w S bm made fail st rl rv size n w' v S' st' mv' := by
  have H := Lib.hid h
  have HF := Lib.hid hf
  have HM := Lib.hid hmade
  have H1 := Lib.hid h1
  have H2 := Lib.hid h2
  clear h hf hmade h1 h2
  go_enter Try.func26, Try.ntmps26
  go_wp2_with fail
  go_loopw [8, 12] (fun v i wr => ∃ (j : Nat) (S' : Nat → Prop) (st' : Nat → Option RG) (mv' : Value), j ≤ n ∧ i = .int .i64 j ∧ AN w S bm made fail st rl rv size j wr v S' st' mv') (fun _ i _ => n - (intOf i).toNat)
  case atStart => exact ⟨0, S, st, mv, by omega, rfl, AN.start H.out size⟩
  case round =>
    obtain ⟨j, S', st', mv', hj, rfl, hA⟩ := hrel
    have HA := Lib.hid hA
    clear hA
    by_cases hlt : j < n
    · have HJ := Lib.hid hlt
      have HW : Hid (wrap64 ((j : Int) + 1) = (j : Int) + 1) := by unfold Hid wrap64; have := HM.out; omega
      have CA := Lib.hid (alloc_ok HA.out.km (by have := HF.out; omega) (by have := HM.out; omega) size 3 H1.out H2.out (by decide) (by decide))
      go_wp2_with (first
        | (go_at_call 50; refine CA.out.mono ?_; rintro e w1 ⟨rfl, ha⟩; obtain ⟨v2, w3, hr, S2, st2, mv2, hA2⟩ := HA.out.step (by have := HM.out; have := HJ.out; omega) ha; have HR := Lib.hid hr; have HA2 := Lib.hid hA2; clear ha hr hA2)
        | (at_builtin; refine wpList_append_runA rfl (.tmp 26) (.tmp 28) 68 rfl _ (.slice (some ⟨w1.heap.size, 0, none⟩) 1 1) v2 w3 rfl rfl 68 rfl HR.out ?_))
      exact ⟨⟨j + 1, S2, st2, mv2, by omega, by rw [HW.out]; go_num, HA2.out⟩, by rw [HW.out]; simp [intOf]; omega⟩
    · have : j = n := by omega
      subst this
      go_wp2_with fail
      go_ret2
      exact ⟨_, S', st', mv', rfl, HA.out⟩
end
end Go.Proofs.Ythilkgfbaddjpaa
namespace Go.Proofs.Ythilkgfbaddjpaa
open Go Go.RowKit
set_option linter.unusedVariables false
set_option linter.unusedSimpArgs false
set_option maxRecDepth 100000
theorem own_any {w : World} {base : Nat} {e : TypeId} {s : Nat} {v : Value} {n : Nat} {xs : List Value} (h : w.ownsRow base e s v n xs) (h0 : 0 < n) :
    ∃ g c cur, v = .slice (some ⟨g, 0, none⟩) n c ∧ base ≤ g ∧ Blk w g e cur ∧ (∀ j u, xs[j]? = some u → w.cell? ⟨g, j, none⟩ = some u) := by
  rcases h.2 with ⟨rfl, rfl⟩ | ⟨g, cap, cur, rfl, hb, hg, h1, h2, h3, h4⟩
  · omega
  · refine ⟨g, cap, cur, rfl, hb, hg, fun j u hu => ?_⟩
    have := h.cells (g := g) rfl j u hu
    rw [Go.WideShapes.add_plain, Nat.zero_add] at this
    exact this
theorem keeps_grow {w w' : World} (hb : Below w.heap.size w w') : Keeps (fun _ => False) w w' := Below.keeps hb fun b h1 h2 => by omega
abbrev mapC (bm : Nat) (k v mx : Int) (V : Value) : Array Value := #[.pointer (some ⟨bm, 0, none⟩), .int .i64 k, .int .i64 4, .int .i64 v, .int .i64 mx, V]
section
variable {w : World} {S : Nat → Prop} {bm made fail : Nat} {st : Nat → Option RG} {rl : List Nat} {mv rv : Value}
/-- What New leaves: the memory with n regions more, a map behind x. -/
structure NewPost (w : World) (S : Nat → Prop) (bm made fail : Nat) (st : Nat → Option RG) (rl : List Nat) (rv : Value) (size n : Nat) (cs : Value → Array Value) (w' : World) (x : Nat) (V : Value) (S' : Nat → Prop) (st' : Nat → Option RG) (mv' : Value) : Prop where
  km : KM w' S' bm (made + n) (fail - n) st' rl mv' rv
  map : Blk w' x 77 (cs V)
  nx : ¬ S' x
  xB : w.heap.size ≤ x
  keeps : Keeps S w w'
  sub : ∀ b, S' b → S b ∨ w.heap.size ≤ b
  old : ∀ m, (m ≤ made ∨ made + n < m) → st' m = st m
  new : ∀ i, i < n → ∃ r, st' (made + 1 + i) = some r ∧ r.perm = 3 ∧ r.bytes = List.replicate size 0 ∧ r.ret = false ∧ r.row = none
theorem New_nil (v : Value) (c : Int) (k key vv mx : Int) (w : World) : Calls Try.prog 12 #[.pointer none, specV k key vv mx, .int .i64 c] w fun e w' => e = .returned (.tuple #[.pointer none, .int .i64 1]) ∧ Below w.heap.size w w' := by
  have B := Lib.hid (below_alloc w (.cells #[.int .i64 k, .int .i64 key, .int .i64 vv, .int .i64 mx] 23))
  go_enter Try.func12, Try.ntmps12
  go_wp2_with fail
  go_ret2
  exact ⟨rfl, B.out⟩
set_option maxHeartbeats 1000000 in
theorem New_arr (h : KM w S bm made fail st rl mv rv) (hf : fail = 0 ∨ 1 < fail) (hmade : made + 1 ≤ 4095) (v mx : Nat) (c : Int) (h1 : 1 ≤ v) (h2 : v ≤ 4096) (h3 : 1 ≤ mx) (h4 : mx ≤ 4096) (h5 : 1 ≤ c) (h6 : c ≤ 8) (h7 : mx * wide v ≤ 1048576) :
    Calls Try.prog 12 #[.pointer (some ⟨bm, 0, none⟩), specV 2 4 v mx, .int .i64 c] w fun e w' => ∃ x S' st' mv', e = .returned (.tuple #[.pointer (some ⟨x, 0, none⟩), .int .i64 0]) ∧ NewPost w S bm made fail st rl rv (mx * wide v) 1 (mapC bm 2 v mx) w' x (sharedV (addr (made + 1) 0)) S' st' mv' := by
  obtain ⟨q, hq⟩ : ∃ q, mx * wide v = q := ⟨_, rfl⟩
  have hw1 : 1 ≤ wide v := by unfold wide; omega
  have hq1 : 1 ≤ q := by rw [← hq]; exact Nat.mul_pos (by omega) (by omega)
  have e0 : (mx : Int) * (wide v : Int) = (q : Int) := by rw [← hq]; simp
  have e3 : IntKind.i64.wrap ((mx : Int) * (wide v : Int)) = (q : Int) := by rw [e0]; exact IntWalk.i64_in _ (by omega)
  have CF := Lib.hid (fits_arr v mx c h1 h2 h3 h4 h5 h6 h7)
  have CW := Lib.hid (width_any 2 4 mx v h2)
  have CA := Lib.hid (fun (W : World) (hk : KM W S bm made fail st rl mv rv) => allocs_ok hk 1 hf hmade q hq1 (by omega))
  have HK := Lib.hid h
  have HN : Hid (¬ S w.heap.size) := fun hs => Nat.lt_irrefl _ (h.lt _ hs)
  rw [hq]
  have HB := Lib.hid (Blk.new w 23 #[.int .i64 2, .int .i64 4, .int .i64 v, .int .i64 mx])
  have B0 := Lib.hid (below_alloc w (.cells #[.int .i64 2, .int .i64 4, .int .i64 v, .int .i64 mx] 23))
  clear h hf hmade h1 h2 h3 h4 h5 h6 h7 hq hw1 hq1 e0
  generalize wide v = d at *
  go_enter Try.func12, Try.ntmps12
  go_upto_region 3 with (go_at_call 25; refine (CF.out _).mono ?_; rintro e w1 ⟨rfl, hb⟩; have B1 := Lib.hid (below_then B0.out hb); have HB1 := Lib.hid (blk_below HB.out hb); clear hb)
  have K1 := Lib.hid (HK.out.keeps (keeps_grow B1.out) (fun b _ hf => hf))
  have S1 : Hid (w1.cell? ⟨w.heap.size, 0, none⟩ = some (.int .i64 2) ∧ w1.cell? ⟨w.heap.size, 1, none⟩ = some (.int .i64 4) ∧ w1.cell? ⟨w.heap.size, 2, none⟩ = some (.int .i64 v) ∧ w1.cell? ⟨w.heap.size, 3, none⟩ = some (.int .i64 mx)) := ⟨HB1.out.cell 0, HB1.out.cell 1, HB1.out.cell 2, HB1.out.cell 3⟩
  clear B0 HB HK CF
  go_region_held3 (fun W => W.cell? ⟨w.heap.size, 0, none⟩ = some (.int .i64 2) ∧ W.cell? ⟨w.heap.size, 1, none⟩ = some (.int .i64 4) ∧ W.cell? ⟨w.heap.size, 2, none⟩ = some (.int .i64 v) ∧ W.cell? ⟨w.heap.size, 3, none⟩ = some (.int .i64 mx))
    (first | exact S1.out | exact S2.out | exact S3'.out)
    (first
      | (go_at_call 27; refine (regions_arr _ _).mono ?_; rintro e wq ⟨rfl, rfl⟩)
      | (go_at_call 28; refine (CW.out _).mono ?_; rintro e w2 ⟨rfl, hb⟩; have B2 := Lib.hid (below_then (below_drew1 B1.out) hb); have HB2 := Lib.hid (blk_below (blk_drew HB1.out) hb); have K2 := Lib.hid (K1.out.keeps (keeps_grow (below_then (below_drew1 (Below.refl _ w1)) hb)) (fun b _ hf => hf)); have S2 : Hid (w2.cell? ⟨w.heap.size, 0, none⟩ = some (.int .i64 2) ∧ w2.cell? ⟨w.heap.size, 1, none⟩ = some (.int .i64 4) ∧ w2.cell? ⟨w.heap.size, 2, none⟩ = some (.int .i64 v) ∧ w2.cell? ⟨w.heap.size, 3, none⟩ = some (.int .i64 mx)) := ⟨HB2.out.cell 0, HB2.out.cell 1, HB2.out.cell 2, HB2.out.cell 3⟩; clear hb)
      | (go_at_call 26; refine (CA.out _ K2.out).mono ?_; rintro e w3 ⟨vv, S3, st3, mv3, rfl, ha⟩; have HA := Lib.hid ha; have HB3 := Lib.hid (HB2.out.keeps ha.keeps HN.out); have S3' : Hid (w3.cell? ⟨w.heap.size, 0, none⟩ = some (.int .i64 2) ∧ w3.cell? ⟨w.heap.size, 1, none⟩ = some (.int .i64 4) ∧ w3.cell? ⟨w.heap.size, 2, none⟩ = some (.int .i64 v) ∧ w3.cell? ⟨w.heap.size, 3, none⟩ = some (.int .i64 mx)) := ⟨HB3.out.cell 0, HB3.out.cell 1, HB3.out.cell 2, HB3.out.cell 3⟩; clear ha))
  obtain ⟨g, cc, cur, rfl, hg, hgb, hgc⟩ := own_any HA.out.row (by decide)
  have hg0 : w3.cell? ⟨g, 0, none⟩ = some (.int .u64 (addr (made + 1) 0)) := hgc 0 _ rfl
  have HG := Lib.hid hgb
  have S4 : Hid (w3.cell? ⟨w.heap.size, 0, none⟩ = some (.int .i64 2) ∧ w3.cell? ⟨w.heap.size, 1, none⟩ = some (.int .i64 4) ∧ w3.cell? ⟨w.heap.size, 2, none⟩ = some (.int .i64 v) ∧ w3.cell? ⟨w.heap.size, 3, none⟩ = some (.int .i64 mx) ∧ w3.cell? ⟨g, 0, none⟩ = some (.int .u64 (addr (made + 1) 0))) := ⟨HB3.out.cell 0, HB3.out.cell 1, HB3.out.cell 2, HB3.out.cell 3, hg0⟩
  have HB4 := Lib.hid (HB3.out.alloc (.cells (mapC bm 2 v mx (sharedV (addr (made + 1) 0))) 77))
  have S5 : Hid ((w3.alloc (.cells (mapC bm 2 v mx (sharedV (addr (made + 1) 0))) 77)).cell? ⟨w.heap.size, 0, none⟩ = some (.int .i64 2) ∧ (w3.alloc (.cells (mapC bm 2 v mx (sharedV (addr (made + 1) 0))) 77)).cell? ⟨w.heap.size, 1, none⟩ = some (.int .i64 4) ∧ (w3.alloc (.cells (mapC bm 2 v mx (sharedV (addr (made + 1) 0))) 77)).cell? ⟨w.heap.size, 2, none⟩ = some (.int .i64 v) ∧ (w3.alloc (.cells (mapC bm 2 v mx (sharedV (addr (made + 1) 0))) 77)).cell? ⟨w.heap.size, 3, none⟩ = some (.int .i64 mx) ∧ (w3.alloc (.cells (mapC bm 2 v mx (sharedV (addr (made + 1) 0))) 77)).cell? ⟨g, 0, none⟩ = some (.int .u64 (addr (made + 1) 0))) := ⟨HB4.out.cell 0, HB4.out.cell 1, HB4.out.cell 2, HB4.out.cell 3, ((HG.out.alloc _).cell 0).trans ((HG.out.cell 0).symm.trans hg0)⟩
  have CL := Lib.hid (lay_arr g cc (addr (made + 1) 0) 1 (by decide) w3.drew hg0)
  clear hg0 hgb hgc S1 S2 S3' HB1 HB2 CW CA B1 K1
  go_upto_region 6 with fail
  go_region_held3 (fun W => W.cell? ⟨w.heap.size, 0, none⟩ = some (.int .i64 2) ∧ W.cell? ⟨w.heap.size, 1, none⟩ = some (.int .i64 4) ∧ W.cell? ⟨w.heap.size, 2, none⟩ = some (.int .i64 v) ∧ W.cell? ⟨w.heap.size, 3, none⟩ = some (.int .i64 mx) ∧ W.cell? ⟨g, 0, none⟩ = some (.int .u64 (addr (made + 1) 0)))
    (first | exact S4.out | exact S5.out)
    (first
      | (go_at_call 29; refine CL.out.mono ?_; rintro e w4 ⟨rfl, rfl⟩))
  go_wp2_with fail
  go_ret2
  have kf : Keeps (fun _ => False) w3 (w3.alloc (.cells (mapC bm 2 v mx (sharedV (addr (made + 1) 0))) 77)).drew := ((Keeps.refl _ _).alloc _).drew
  have kk : Keeps S w w3 := ((keeps_grow B2.out).mono fun _ hf => hf.elim).trans (HA.out.keeps.mono fun b hb => .inl hb)
  have h2 := B2.out.size
  have h3 := HA.out.keeps.size
  exact ⟨w3.heap.size, S3, st3, mv3, rfl, HA.out.km.keeps kf (fun b _ hf => hf), blk_drew (Blk.new w3 _ _), fun hs => Nat.lt_irrefl _ (HA.out.km.lt _ hs), by omega, kk.trans (kf.mono fun _ hf => hf.elim),
    fun b hb => (HA.out.sub b hb).imp id fun h => by omega, HA.out.old, HA.out.new⟩
/-- A map of the law's own making, and its memory. -/
structure FS (B : Nat) (w0 w : World) (S : Nat → Prop) (bm made fail : Nat) (st : Nat → Option RG) (rl : List Nat) (mv rv : Value) (x : Nat) (cs : Array Value) : Prop where
  km : KM w S bm made fail st rl mv rv
  map : Blk w x 77 cs
  nx : ¬ S x
  below : Below B w0 w
  base : ∀ b, S b → B ≤ b
  sz : B ≤ w.heap.size
theorem FS.grow {B : Nat} {w0 w' : World} {x : Nat} {cs : Array Value} (h : FS B w0 w S bm made fail st rl mv rv x cs) (hb : Below w.heap.size w w') : FS B w0 w' S bm made fail st rl mv rv x cs :=
  ⟨h.km.keeps (keeps_grow hb) (fun b _ hf => hf), blk_below h.map hb, h.nx, h.below.trans (hb.mono h.sz), h.base, Nat.le_trans h.sz hb.size⟩
theorem FS.turn {B : Nat} {w0 w' : World} {x : Nat} {cs : Array Value} {made' fail' : Nat} {st' : Nat → Option RG} {rl' : List Nat} {mv' rv' : Value} (h : FS B w0 w S bm made fail st rl mv rv x cs) (hk : KM w' (more S w w') bm made' fail' st' rl' mv' rv') (kk : Keeps S w w') : FS B w0 w' (more S w w') bm made' fail' st' rl' mv' rv' x cs :=
  ⟨hk, h.map.keeps kk h.nx, fun hx => by
    rcases hx with hx | ⟨hx, _⟩
    · exact h.nx hx
    · have := h.map.lt; omega, h.below.trans (kk.below h.base h.sz), fun b hb => by
    rcases hb with hb | ⟨hb, _⟩
    · exact h.base b hb
    · have := h.sz; omega, Nat.le_trans h.sz kk.size⟩
theorem FS.made_ {B : Nat} {w0 w' : World} {size n : Nat} {cs : Value → Array Value} {x : Nat} {V : Value} {S' : Nat → Prop} {st' : Nat → Option RG} {mv' : Value} (hb : Below B w0 w) (hS : ∀ b, S b → B ≤ b) (hz : B ≤ w.heap.size) (h : NewPost w S bm made fail st rl rv size n cs w' x V S' st' mv') :
    FS B w0 w' S' bm (made + n) (fail - n) st' rl mv' rv x (cs V) :=
  ⟨h.km, h.map, h.nx, hb.trans (h.keeps.below hS hz), fun b hb => by
    rcases h.sub b hb with hb | hb
    · exact hS b hb
    · omega, Nat.le_trans hz h.keeps.size⟩
end
end Go.Proofs.Ythilkgfbaddjpaa
namespace Go.Proofs.Ythilkgfbaddjpaa
open Go Go.RowKit
set_option linter.unusedVariables false
set_option linter.unusedSimpArgs false
set_option maxRecDepth 100000
set_option maxHeartbeats 1000000 in
theorem fits_cpu (v mx : Nat) (c : Int) (h1 : 1 ≤ v) (h2 : v ≤ 4096) (h3 : 1 ≤ mx) (h4 : mx ≤ 4096) (h5 : 1 ≤ c) (h6 : c ≤ 8) (h7 : mx * wide v ≤ 1048576) (w : World) :
    Calls Try.prog 25 #[specV 6 4 v mx, .int .i64 c] w fun e w' => e = .returned (.bool true) ∧ Below w.heap.size w w' := by
  have g1 : decide ((1 : Int) ≤ (v : Int)) = true := by simp; omega
  have g2 : decide ((v : Int) ≤ 4096) = true := by simp; omega
  have g3 : decide ((1 : Int) ≤ (mx : Int)) = true := by simp; omega
  have g4 : decide ((mx : Int) ≤ 4096) = true := by simp; omega
  have g5 : decide (1 ≤ c) = true := by simp; omega
  have g6 : decide (c ≤ 8) = true := by simp; omega
  have n1 : decide (1 ≤ v) = true := by simp; omega
  have n2 : decide (v ≤ 4096) = true := by simp; omega
  have n3 : decide (1 ≤ mx) = true := by simp; omega
  have n4 : decide (mx ≤ 4096) = true := by simp; omega
  obtain ⟨q, hq⟩ : ∃ q, mx * wide v = q := ⟨_, rfl⟩
  have e0 : (mx : Int) * (wide v : Int) = (q : Int) := by rw [← hq]; simp
  have g7 : decide ((q : Int) ≤ 1048576) = true := by simp; omega
  have n7 : decide (q ≤ 1048576) = true := by simp; omega
  have e3 : IntKind.i64.wrap ((mx : Int) * (wide v : Int)) = (q : Int) := by rw [e0]; exact IntWalk.i64_in _ (by omega)
  have CW := Lib.hid (width_any 6 4 mx v h2)
  have B := Lib.hid (below_alloc w (.cells #[.int .i64 6, .int .i64 4, .int .i64 v, .int .i64 mx] 23))
  have HB := Lib.hid (Blk.new w 23 #[.int .i64 6, .int .i64 4, .int .i64 v, .int .i64 mx])
  have S0 : Hid ((w.alloc (.cells #[.int .i64 6, .int .i64 4, .int .i64 v, .int .i64 mx] 23)).cell? ⟨w.heap.size, 0, none⟩ = some (.int .i64 6) ∧ (w.alloc (.cells #[.int .i64 6, .int .i64 4, .int .i64 v, .int .i64 mx] 23)).cell? ⟨w.heap.size, 1, none⟩ = some (.int .i64 4) ∧ (w.alloc (.cells #[.int .i64 6, .int .i64 4, .int .i64 v, .int .i64 mx] 23)).cell? ⟨w.heap.size, 2, none⟩ = some (.int .i64 v) ∧ (w.alloc (.cells #[.int .i64 6, .int .i64 4, .int .i64 v, .int .i64 mx] 23)).cell? ⟨w.heap.size, 3, none⟩ = some (.int .i64 mx)) := ⟨HB.out.cell 0, HB.out.cell 1, HB.out.cell 2, HB.out.cell 3⟩
  clear h1 h2 h3 h4 h5 h6 h7 e0 hq
  generalize wide v = d at *
  go_enter Try.func25, Try.ntmps25
  go_wp2_with fail
  go_region_held3 (fun W => W.cell? ⟨w.heap.size, 0, none⟩ = some (.int .i64 6) ∧ W.cell? ⟨w.heap.size, 1, none⟩ = some (.int .i64 4) ∧ W.cell? ⟨w.heap.size, 2, none⟩ = some (.int .i64 v) ∧ W.cell? ⟨w.heap.size, 3, none⟩ = some (.int .i64 mx))
    (first | exact S0.out | exact S1.out)
    (first | (go_at_call 28; refine (CW.out _).mono ?_; rintro e w1 ⟨rfl, hb⟩; have B1 := Lib.hid (below_then (below_drew1 B.out) hb); have HB1 := Lib.hid (blk_below (blk_drew HB.out) hb); have S1 : Hid (w1.cell? ⟨w.heap.size, 0, none⟩ = some (.int .i64 6) ∧ w1.cell? ⟨w.heap.size, 1, none⟩ = some (.int .i64 4) ∧ w1.cell? ⟨w.heap.size, 2, none⟩ = some (.int .i64 v) ∧ w1.cell? ⟨w.heap.size, 3, none⟩ = some (.int .i64 mx)) := ⟨HB1.out.cell 0, HB1.out.cell 1, HB1.out.cell 2, HB1.out.cell 3⟩; clear hb))
  go_wp2_with fail
  go_ret
  exact ⟨rfl, B1.out⟩
end Go.Proofs.Ythilkgfbaddjpaa
namespace Go.Proofs.Ythilkgfbaddjpaa
open Go Go.RowKit
set_option linter.unusedVariables false
set_option linter.unusedSimpArgs false
set_option maxRecDepth 100000
/-- What fits asks ahead of the product. -/
def fitB (k key v mx c : Int) : Prop := (k = 2 ∨ k = 6) ∧ key = 4 ∧ 1 ≤ v ∧ v ≤ 4096 ∧ 1 ≤ mx ∧ mx ≤ 4096 ∧ 1 ≤ c ∧ c ≤ 8
theorem fit_ways {k key v mx c : Int} (h : ¬ fitB k key v mx c) :
    ((k == 2) = false ∧ (k == 6) = false) ∨ ((k = 2 ∨ k = 6) ∧ (
    ((key == 4) = false) ∨ ((key == 4) = true ∧ (
    (decide (1 ≤ v) = false) ∨ (decide (1 ≤ v) = true ∧ (
    (decide (v ≤ 4096) = false) ∨ (decide (v ≤ 4096) = true ∧ (
    (decide (1 ≤ mx) = false) ∨ (decide (1 ≤ mx) = true ∧ (
    (decide (mx ≤ 4096) = false) ∨ (decide (mx ≤ 4096) = true ∧ (
    (decide (1 ≤ c) = false) ∨ (decide (1 ≤ c) = true ∧ (decide (c ≤ 8) = false)))))))))))))) := by
  unfold fitB at h
  simp only [decide_eq_false_iff_not, decide_eq_true_eq, beq_eq_false_iff_ne, beq_iff_eq, ne_eq]
  omega
set_option maxHeartbeats 1000000 in
theorem fits_no (k key v mx c : Int) (h : ¬ fitB k key v mx c) (w : World) :
    Calls Try.prog 25 #[specV k key v mx, .int .i64 c] w fun e w' => e = .returned (.bool false) ∧ Below w.heap.size w w' := by
  have B := Lib.hid (below_alloc w (.cells #[.int .i64 k, .int .i64 key, .int .i64 v, .int .i64 mx] 23))
  rcases fit_ways h with ⟨h1, h2⟩ | ⟨rfl | rfl, h3⟩
  · clear h
    go_enter Try.func25, Try.ntmps25
    go_upto_region 1 with fail
    go_quiet (fail)
    go_wp2_with fail
    go_ret
    exact ⟨rfl, below_then B.out (below_drew _ _)⟩
  all_goals (
    clear h
    rcases h3 with h3 | ⟨h3, h4 | ⟨h4, h5 | ⟨h5, h6 | ⟨h6, h7 | ⟨h7, h8 | ⟨h8, h9⟩⟩⟩⟩⟩⟩
    all_goals (
      go_enter Try.func25, Try.ntmps25
      go_upto_region 1 with fail
      go_quiet (fail)
      go_wp2_with fail
      go_ret
      exact ⟨rfl, below_then B.out (below_drew _ _)⟩))
end Go.Proofs.Ythilkgfbaddjpaa
