/-
  Package flat: Lookup, Next, Update of an array.
-/
import Derived.Test.YthilkgfbaddjpaaFMap
namespace Go.Proofs.Ythilkgfbaddjpaa
open Go Go.RowKit
set_option linter.unusedVariables false
set_option linter.unusedSimpArgs false
set_option maxRecDepth 100000
theorem mSeenS (v : Value) (w : World) : (Go.method 278 120 v "portcullis/flat.seen").run Try.prog w = .ok (115, v) w := by kernel_rfl
theorem mWrittenS (v : Value) (w : World) : (Go.method 278 120 v "portcullis/flat.written").run Try.prog w = .ok (116, v) w := by kernel_rfl
theorem mAllS (v : Value) (w : World) : (Go.method 278 120 v "portcullis/flat.all").run Try.prog w = .ok (114, v) w := by kernel_rfl
theorem bstr_of (s : ByteArray) : s = bstr s.data.toList := by unfold bstr; simp
theorem number_any (s : ByteArray) (w : World) : Calls Try.prog 42 #[.string s] w fun e w' => ∃ n b, e = .returned (.tuple #[.int .u32 n, .bool b]) ∧ w = w' := by
  by_cases h : s.size = 4
  · have h4 : s.data.toList.length = 4 := by rw [Array.length_toList]; exact h
    rw [bstr_of s]
    exact (number_ok _ h4 w).mono fun e w' h => ⟨_, _, h.1, h.2⟩
  · exact (number_no s h w).mono fun e w' h => ⟨_, _, h.1, h.2⟩
theorem Lookup_nil (s : ByteArray) (c : Int) (w : World) : Calls Try.prog 21 #[.pointer none, .string s, .int .i64 c] w fun e w' => e = .returned (.int .u64 0) ∧ w = w' := by
  have CN := Lib.hid (number_any s)
  go_enter Try.func21, Try.ntmps21
  go_wp2_with (first
    | (go_at_call 42; refine (CN.out _).mono ?_; rintro e w' ⟨n, b, rfl, rfl⟩)
    | (go_at_call 43; refine (gone_nil _).mono ?_; rintro e w' ⟨rfl, rfl⟩))
  go_ret
  exact ⟨rfl, rfl⟩
theorem Update_nil (s t : ByteArray) (f c : Int) (w : World) : Calls Try.prog 19 #[.pointer none, .string s, .string t, .int .i64 f, .int .i64 c] w fun e w' => e = .returned (.int .i64 1) ∧ w = w' := by
  have CN := Lib.hid (number_any s)
  go_enter Try.func19, Try.ntmps19
  go_wp2_with (first
    | (go_at_call 42; refine (CN.out _).mono ?_; rintro e w' ⟨n, b, rfl, rfl⟩)
    | (go_at_call 43; refine (gone_nil _).mono ?_; rintro e w' ⟨rfl, rfl⟩))
  go_ret
  exact ⟨rfl, rfl⟩
theorem Next_nil (s : ByteArray) (w : World) : Calls Try.prog 22 #[.pointer none, .string s] w fun e w' => e = .returned (.tuple #[.string ⟨#[]⟩, .int .i64 1]) ∧ w = w' := by
  go_enter Try.func22, Try.ntmps22
  go_wp2_with (go_at_call 43; refine (gone_nil _).mono ?_; rintro e w' ⟨rfl, rfl⟩)
  go_ret2
  exact ⟨rfl, rfl⟩
theorem Free_nil (w : World) : Calls Try.prog 24 #[.pointer none] w fun e w' => e = .returned (.int .i64 1) ∧ w = w' := by
  go_enter Try.func24, Try.ntmps24
  go_wp2_with (go_at_call 43; refine (gone_nil _).mono ?_; rintro e w' ⟨rfl, rfl⟩)
  go_ret
  exact ⟨rfl, rfl⟩
section
variable {w : World} {x bm : Nat}
theorem Lookup_arr (v mx m : Nat) (c : Int) (hv : v ≤ 4096) (hm : mx ≤ 4096) (h1 : m ≤ 4096) (h : Blk w x 77 (mapC bm 2 v mx (sharedV (addr m 0)))) (xs : List UInt8) (h4 : xs.length = 4) (hn : le xs < mx) :
    Calls Try.prog 21 #[.pointer (some ⟨x, 0, none⟩), .string (bstr xs), .int .i64 c] w fun e w' => e = .returned (.int .u64 (addr m (le xs * wide v))) ∧ Below w.heap.size w w' := by
  have c5 : w.cell? ⟨x, 5, none⟩ = some (sharedV (addr m 0)) := h.cell 5
  have hle : le xs ≤ 4294967295 := by omega
  have CN := Lib.hid (number_ok xs h4)
  have CG := Lib.hid (gone_no _ _ _ _ _ _ _ h)
  have CM := Lib.hid (max_any _ _ _ _ _ mx hm h)
  have CS := Lib.hid (sseen_any (addr m 0) c w)
  have CO := Lib.hid (fun w' (hb : Below w.heap.size w w') => offset_any _ _ _ _ _ v (le xs) hv hle (blk_below h hb))
  have g1 : decide ((mx : Int) ≤ (le xs : Int)) = false := by simp; omega
  have g2 : decide (mx ≤ le xs) = false := by simp; omega
  have hw : wide v ≤ 4103 := by unfold wide; omega
  have hq : le xs * wide v ≤ 4096 * 4103 := Nat.mul_le_mul (by omega) hw
  obtain ⟨q, hqq⟩ : ∃ q, le xs * wide v = q := ⟨_, rfl⟩
  rw [hqq] at CO hq ⊢
  have e1 : IntKind.u64.wrap (addr m 0 + (q : Int)) = addr m q := by rw [wraps_u64 _ (by unfold addr; omega) (by unfold addr; omega)]; unfold addr; omega
  have mS := mSeenS
  clear h hv hm hn hle hw hq hqq h4 h1
  generalize le xs = n at *
  go_enter Try.func21, Try.ntmps21
  go_wp2_with (first
    | (go_at_call 42; refine (CN.out _).mono ?_; rintro e w' ⟨rfl, rfl⟩)
    | (go_at_call 43; refine CG.out.mono ?_; rintro e w' ⟨rfl, rfl⟩)
    | (go_at_call 44; refine CM.out.mono ?_; rintro e w' ⟨rfl, rfl⟩)
    | (go_at_call 115; refine CS.out.mono ?_; rintro e w1 ⟨rfl, hb⟩; have B1 := Lib.hid hb; clear hb)
    | (go_at_call 46; refine (CO.out _ B1.out).mono ?_; rintro e w2 ⟨rfl, hb⟩; have B2 := Lib.hid (below_then B1.out hb); clear hb))
  go_ret
  exact ⟨rfl, B2.out⟩
theorem Lookup_arr_no (v mx : Nat) (t : TypeId) (u : Value) (k c : Int) (hm : mx ≤ 4096) (h : Blk w x 77 (mapC bm k v mx (.iface t u))) (xs : List UInt8) (h4 : xs.length = 4) (hn : mx ≤ le xs) :
    Calls Try.prog 21 #[.pointer (some ⟨x, 0, none⟩), .string (bstr xs), .int .i64 c] w fun e w' => e = .returned (.int .u64 0) ∧ w = w' := by
  have CN := Lib.hid (number_ok xs h4)
  have CG := Lib.hid (gone_no _ _ _ _ _ _ _ h)
  have CM := Lib.hid (max_any _ _ _ _ _ mx hm h)
  have g1 : decide ((mx : Int) ≤ (le xs : Int)) = true := by simp; omega
  have g2 : decide (mx ≤ le xs) = true := by simp; omega
  clear h hm hn h4
  generalize le xs = n at *
  go_enter Try.func21, Try.ntmps21
  go_wp2_with (first
    | (go_at_call 42; refine (CN.out _).mono ?_; rintro e w' ⟨rfl, rfl⟩)
    | (go_at_call 43; refine CG.out.mono ?_; rintro e w' ⟨rfl, rfl⟩)
    | (go_at_call 44; refine CM.out.mono ?_; rintro e w' ⟨rfl, rfl⟩))
  go_ret
  exact ⟨rfl, rfl⟩
theorem Next_start (v mx : Nat) (t : TypeId) (u : Value) (k : Int) (h : Blk w x 77 (mapC bm k v mx (.iface t u))) (s : ByteArray) (hs : s.size ≠ 4) :
    Calls Try.prog 22 #[.pointer (some ⟨x, 0, none⟩), .string s] w fun e w' => e = .returned (.tuple #[.string (bstr (wb 0 4)), .int .i64 0]) ∧ Below w.heap.size w w' := by
  have CN := Lib.hid (number_no s hs)
  have CG := Lib.hid (gone_no _ _ _ _ _ _ _ h)
  have CK := Lib.hid (keyOf_any 0 (by decide))
  clear h hs
  go_enter Try.func22, Try.ntmps22
  go_wp2_with (first
    | (go_at_call 42; refine (CN.out _).mono ?_; rintro e w' ⟨rfl, rfl⟩)
    | (go_at_call 43; refine CG.out.mono ?_; rintro e w' ⟨rfl, rfl⟩)
    | (go_at_call 48; refine (CK.out _).mono ?_; rintro e w1 ⟨rfl, hb⟩; have B1 := Lib.hid hb; clear hb))
  go_ret2
  exact ⟨rfl, B1.out⟩
theorem Next_on (v mx : Nat) (hm : mx ≤ 4096) (t : TypeId) (u : Value) (k : Int) (h : Blk w x 77 (mapC bm k v mx (.iface t u))) (xs : List UInt8) (h4 : xs.length = 4) (hn : le xs + 1 < mx) :
    Calls Try.prog 22 #[.pointer (some ⟨x, 0, none⟩), .string (bstr xs)] w fun e w' => e = .returned (.tuple #[.string (bstr (wb (le xs + 1) 4)), .int .i64 0]) ∧ Below w.heap.size w w' := by
  have CN := Lib.hid (number_ok xs h4)
  have CG := Lib.hid (gone_no _ _ _ _ _ _ _ h)
  have CM := Lib.hid (max_any _ _ _ _ _ mx hm h)
  have CK := Lib.hid (keyOf_any (le xs + 1) (by omega))
  have g1 : decide ((mx : Int) ≤ (le xs : Int)) = false := by simp; omega
  have g2 : decide (mx ≤ le xs) = false := by simp; omega
  have e1 : IntKind.u32.wrap ((mx : Int) - 1) = (mx : Int) - 1 := wraps_u32 _ (by omega) (by omega)
  have e2 : decide ((le xs : Int) = (mx : Int) - 1) = false := by simp; omega
  have e3 : ((le xs : Int) == (mx : Int) - 1) = false := by simp; omega
  have e4 : IntKind.u32.wrap ((le xs : Int) + 1) = ((le xs + 1 : Nat) : Int) := by rw [wraps_u32 _ (by omega) (by omega)]; omega
  clear h hm hn h4
  generalize le xs = n at *
  go_enter Try.func22, Try.ntmps22
  go_wp2_with (first
    | (go_at_call 42; refine (CN.out _).mono ?_; rintro e w' ⟨rfl, rfl⟩)
    | (go_at_call 43; refine CG.out.mono ?_; rintro e w' ⟨rfl, rfl⟩)
    | (go_at_call 44; refine CM.out.mono ?_; rintro e w' ⟨rfl, rfl⟩)
    | (go_at_call 48; refine (CK.out _).mono ?_; rintro e w1 ⟨rfl, hb⟩; have B1 := Lib.hid hb; clear hb))
  go_ret2
  exact ⟨rfl, B1.out⟩
theorem Next_last (v mx : Nat) (hm : mx ≤ 4096) (t : TypeId) (u : Value) (k : Int) (h : Blk w x 77 (mapC bm k v mx (.iface t u))) (xs : List UInt8) (h4 : xs.length = 4) (hn : le xs + 1 = mx) :
    Calls Try.prog 22 #[.pointer (some ⟨x, 0, none⟩), .string (bstr xs)] w fun e w' => e = .returned (.tuple #[.string ⟨#[]⟩, .int .i64 4]) ∧ w = w' := by
  have CN := Lib.hid (number_ok xs h4)
  have CG := Lib.hid (gone_no _ _ _ _ _ _ _ h)
  have CM := Lib.hid (max_any _ _ _ _ _ mx hm h)
  have g1 : decide ((mx : Int) ≤ (le xs : Int)) = false := by simp; omega
  have g2 : decide (mx ≤ le xs) = false := by simp; omega
  have e1 : IntKind.u32.wrap ((mx : Int) - 1) = (le xs : Int) := by rw [wraps_u32 _ (by omega) (by omega)]; omega
  clear h hm hn h4
  generalize le xs = n at *
  go_enter Try.func22, Try.ntmps22
  go_wp2_with (first
    | (go_at_call 42; refine (CN.out _).mono ?_; rintro e w' ⟨rfl, rfl⟩)
    | (go_at_call 43; refine CG.out.mono ?_; rintro e w' ⟨rfl, rfl⟩)
    | (go_at_call 44; refine CM.out.mono ?_; rintro e w' ⟨rfl, rfl⟩))
  go_ret2
  exact ⟨rfl, rfl⟩
theorem Update_full (v mx m : Nat) (f c : Int) (hm : mx ≤ 4096) (hf0 : 0 ≤ f) (hf2 : f ≤ 2) (h : Blk w x 77 (mapC bm 2 v mx (sharedV (addr m 0)))) (xs : List UInt8) (h4 : xs.length = 4) (hn : mx ≤ le xs) (s : ByteArray) (hs : s.size = v) :
    Calls Try.prog 19 #[.pointer (some ⟨x, 0, none⟩), .string (bstr xs), .string s, .int .i64 f, .int .i64 c] w fun e w' => e = .returned (.int .i64 3) ∧ Below w.heap.size w w' := by
  have c3 : w.cell? ⟨x, 3, none⟩ = some (.int .i64 v) := h.cell 3
  have c5 : w.cell? ⟨x, 5, none⟩ = some (sharedV (addr m 0)) := h.cell 5
  have CN := Lib.hid (number_ok xs h4)
  have CG := Lib.hid (gone_no _ _ _ _ _ _ _ h)
  have CM := Lib.hid (fun w' (hb : Below w.heap.size w w') => max_any _ _ _ _ _ mx hm (blk_below h hb))
  have CW := Lib.hid (swritten_any (addr m 0) c w)
  have g1 : decide ((mx : Int) ≤ (le xs : Int)) = true := by simp; omega
  have g2 : decide (mx ≤ le xs) = true := by simp; omega
  have g3 : decide (f < 0) = false := by simp; omega
  have g4 : decide (2 < f) = false := by simp; omega
  have g5 : ((s.size : Int) != (v : Int)) = false := by rw [hs]; simp
  have mW := mWrittenS
  clear h hm hn h4 hs hf0 hf2
  generalize le xs = n at *
  go_enter Try.func19, Try.ntmps19
  go_wp2_with (first
    | (go_at_call 42; refine (CN.out _).mono ?_; rintro e w' ⟨rfl, rfl⟩)
    | (go_at_call 43; refine CG.out.mono ?_; rintro e w' ⟨rfl, rfl⟩)
    | (go_at_call 116; refine CW.out.mono ?_; rintro e w1 ⟨g, rfl, hb, _, _⟩; have B1 := Lib.hid hb; clear hb)
    | (go_at_call 44; refine (CM.out _ B1.out).mono ?_; rintro e w' ⟨rfl, rfl⟩))
  go_ret
  exact ⟨rfl, B1.out⟩
end
end Go.Proofs.Ythilkgfbaddjpaa
