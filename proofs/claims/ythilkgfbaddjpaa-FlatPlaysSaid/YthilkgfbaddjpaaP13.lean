/-
  Package flat: its calls that change nothing, on any key. Package flat: its Updates that are refused.
-/
import Derived.Test.YthilkgfbaddjpaaMPut
namespace Go.Proofs.Ythilkgfbaddjpaa
open Go Go.RowKit Go.Maps
set_option linter.unusedVariables false
set_option linter.unusedSimpArgs false
set_option maxRecDepth 100000
abbrev goneC : Array Value := #[.pointer none, .int .i64 0, .int .i64 0, .int .i64 0, .int .i64 0, .nilIface]
theorem number_idx (s : ByteArray) (w : World) : Calls Try.prog 42 #[.string s] w fun e w' => e = .returned (.tuple #[.int .u32 (if idx s < 0 then 0 else idx s), .bool (decide (0 ≤ idx s))]) ∧ w = w' := by
  rcases key_ways s with ⟨h, e⟩ | ⟨xs, h4, rfl, e⟩
  · rw [e]
    exact number_no s h w
  · rw [e, if_neg (by omega), decide_eq_true (show (0 : Int) ≤ (le xs : Int) by omega)]
    exact number_ok xs h4 w
section
variable {w : World} {x : Nat} {bm : Nat} {k : Int} {v mx : Nat}
theorem xlook_gone (s : ByteArray) (c : Int) (h : Blk w x 77 goneC) :
    Calls Try.prog 21 #[.pointer (some ⟨x, 0, none⟩), .string s, .int .i64 c] w fun e w' => e = .returned (.int .u64 0) ∧ w = w' := by
  have CN := Lib.hid (number_any s)
  have CG := Lib.hid (gone_yes _ _ _ _ _ h)
  clear h
  go_enter Try.func21, Try.ntmps21
  go_wp2_with (first
    | (go_at_call 42; refine (CN.out _).mono ?_; rintro e w' ⟨n, b, rfl, rfl⟩)
    | (go_at_call 43; refine CG.out.mono ?_; rintro e w' ⟨rfl, rfl⟩))
  go_ret
  exact ⟨rfl, rfl⟩
theorem xnext_gone (s : ByteArray) (h : Blk w x 77 goneC) :
    Calls Try.prog 22 #[.pointer (some ⟨x, 0, none⟩), .string s] w fun e w' => e = .returned (.tuple #[.string ⟨#[]⟩, .int .i64 1]) ∧ w = w' := by
  have CG := Lib.hid (gone_yes _ _ _ _ _ h)
  clear h
  go_enter Try.func22, Try.ntmps22
  go_wp2_with (go_at_call 43; refine CG.out.mono ?_; rintro e w' ⟨rfl, rfl⟩)
  go_ret2
  exact ⟨rfl, rfl⟩
theorem xfree_gone (h : Blk w x 77 goneC) :
    Calls Try.prog 24 #[.pointer (some ⟨x, 0, none⟩)] w fun e w' => e = .returned (.int .i64 1) ∧ w = w' := by
  have CG := Lib.hid (gone_yes _ _ _ _ _ h)
  clear h
  go_enter Try.func24, Try.ntmps24
  go_wp2_with (go_at_call 43; refine CG.out.mono ?_; rintro e w' ⟨rfl, rfl⟩)
  go_ret
  exact ⟨rfl, rfl⟩
theorem xupd_gone (s t : ByteArray) (f c : Int) (h : Blk w x 77 goneC) :
    Calls Try.prog 19 #[.pointer (some ⟨x, 0, none⟩), .string s, .string t, .int .i64 f, .int .i64 c] w fun e w' => e = .returned (.int .i64 1) ∧ w = w' := by
  have CN := Lib.hid (number_any s)
  have CG := Lib.hid (gone_yes _ _ _ _ _ h)
  clear h
  go_enter Try.func19, Try.ntmps19
  go_wp2_with (first
    | (go_at_call 42; refine (CN.out _).mono ?_; rintro e w' ⟨n, b, rfl, rfl⟩)
    | (go_at_call 43; refine CG.out.mono ?_; rintro e w' ⟨rfl, rfl⟩))
  go_ret
  exact ⟨rfl, rfl⟩
theorem num_ways {i : Int} {mx : Nat} (h : i < 0 ∨ (mx : Int) ≤ i) : decide (0 ≤ i) = false ∨ (decide (0 ≤ i) = true ∧ decide ((mx : Int) ≤ i) = true ∧ ¬ i < 0) := by
  by_cases h1 : i < 0
  · exact .inl (decide_eq_false (by omega))
  · exact .inr ⟨decide_eq_true (by omega), decide_eq_true (by omega), h1⟩
theorem xlook_no (t : TypeId) (u : Value) (s : ByteArray) (c : Int) (hm : mx ≤ 4096) (h : Blk w x 77 (mapC bm k v mx (.iface t u))) (hi : idx s < 0 ∨ (mx : Int) ≤ idx s) :
    Calls Try.prog 21 #[.pointer (some ⟨x, 0, none⟩), .string s, .int .i64 c] w fun e w' => e = .returned (.int .u64 0) ∧ w = w' := by
  have hn := number_idx s
  have CG := Lib.hid (gone_no _ _ _ _ _ _ _ h)
  have CM := Lib.hid (max_any _ _ _ _ _ mx hm h)
  have h' := num_ways hi
  clear h hm hi
  generalize idx s = i at *
  rcases h' with h1 | ⟨h1, h2, h3⟩
  · rw [h1] at hn
    have CN := Lib.hid hn
    generalize (if i < 0 then (0 : Int) else i) = r at CN
    clear hn h1
    go_enter Try.func21, Try.ntmps21
    go_wp2_with (first
      | (go_at_call 42; refine (CN.out _).mono ?_; rintro e w' ⟨rfl, rfl⟩)
      | (go_at_call 43; refine CG.out.mono ?_; rintro e w' ⟨rfl, rfl⟩))
    go_ret
    exact ⟨rfl, rfl⟩
  · rw [h1, if_neg h3] at hn
    have CN := Lib.hid hn
    clear hn h1 h3
    go_enter Try.func21, Try.ntmps21
    go_wp2_with (first
      | (go_at_call 42; refine (CN.out _).mono ?_; rintro e w' ⟨rfl, rfl⟩)
      | (go_at_call 43; refine CG.out.mono ?_; rintro e w' ⟨rfl, rfl⟩)
      | (go_at_call 44; refine CM.out.mono ?_; rintro e w' ⟨rfl, rfl⟩))
    go_ret
    exact ⟨rfl, rfl⟩
theorem xnext_start (t : TypeId) (u : Value) (s : ByteArray) (hm : mx ≤ 4096) (h : Blk w x 77 (mapC bm k v mx (.iface t u))) (hi : idx s < 0 ∨ (mx : Int) ≤ idx s) :
    Calls Try.prog 22 #[.pointer (some ⟨x, 0, none⟩), .string s] w fun e w' => e = .returned (.tuple #[.string (bstr (wb 0 4)), .int .i64 0]) ∧ Below w.heap.size w w' := by
  have hn := number_idx s
  have CG := Lib.hid (gone_no _ _ _ _ _ _ _ h)
  have CM := Lib.hid (max_any _ _ _ _ _ mx hm h)
  have CK := Lib.hid (keyOf_any 0 (by decide))
  have h' := num_ways hi
  clear h hm hi
  generalize idx s = i at *
  rcases h' with h1 | ⟨h1, h2, h3⟩
  · rw [h1] at hn
    have CN := Lib.hid hn
    generalize (if i < 0 then (0 : Int) else i) = r at CN
    clear hn h1
    go_enter Try.func22, Try.ntmps22
    go_wp2_with (first
      | (go_at_call 42; refine (CN.out _).mono ?_; rintro e w' ⟨rfl, rfl⟩)
      | (go_at_call 43; refine CG.out.mono ?_; rintro e w' ⟨rfl, rfl⟩)
      | (go_at_call 48; refine (CK.out _).mono ?_; rintro e w1 ⟨rfl, hb⟩; have B1 := Lib.hid hb; clear hb))
    go_ret2
    exact ⟨rfl, B1.out⟩
  · rw [h1, if_neg h3] at hn
    have CN := Lib.hid hn
    clear hn h1 h3
    go_enter Try.func22, Try.ntmps22
    go_wp2_with (first
      | (go_at_call 42; refine (CN.out _).mono ?_; rintro e w' ⟨rfl, rfl⟩)
      | (go_at_call 43; refine CG.out.mono ?_; rintro e w' ⟨rfl, rfl⟩)
      | (go_at_call 44; refine CM.out.mono ?_; rintro e w' ⟨rfl, rfl⟩)
      | (go_at_call 48; refine (CK.out _).mono ?_; rintro e w1 ⟨rfl, hb⟩; have B1 := Lib.hid hb; clear hb))
    go_ret2
    exact ⟨rfl, B1.out⟩
theorem eseen_no (A : Option Addr) (n c : Nat) (i : Int) (hi : i < 0 ∨ (n : Int) ≤ i) (w : World) : Calls Try.prog 112 #[.agg #[.slice A n c], .int .i64 i] w fun e w' => e = .returned (.tuple #[.int .u64 0, .bool false]) ∧ Below w.heap.size w w' := by
  have B := Lib.hid (below_alloc w (.cells #[.slice A n c] 118))
  have h' : decide (i < 0) = true ∨ (decide (i < 0) = false ∧ decide ((n : Int) ≤ i) = true) := by
    by_cases h3 : i < 0
    · exact .inl (decide_eq_true h3)
    · exact .inr ⟨decide_eq_false h3, decide_eq_true (by omega)⟩
  clear hi
  rcases h' with h1 | ⟨h1, h2⟩
  all_goals (
    go_enter Try.func112, Try.ntmps112
    go_wp2_with fail
    go_ret2
    exact ⟨rfl, B.out⟩)
theorem ewritten_no (A : Option Addr) (n c : Nat) (i : Int) (h0 : i ≠ -1) (hi : i < 0 ∨ (n : Int) ≤ i) (w : World) : Calls Try.prog 113 #[.agg #[.slice A n c], .int .i64 i] w fun e w' => e = .returned (.slice none 0 0) ∧ Below w.heap.size w w' := by
  have B := Lib.hid (below_alloc w (.cells #[.slice A n c] 118))
  have CS := Lib.hid (eseen_no A n c i hi)
  have g2 : (i == -1) = false := by rw [beq_eq_false_iff_ne]; exact h0
  clear hi h0
  go_enter Try.func113, Try.ntmps113
  go_wp2_with (go_at_call 112; refine (CS.out _).mono ?_; rintro e w1 ⟨rfl, hb⟩; have B1 := Lib.hid (below_then B.out hb); clear hb)
  go_ret
  exact ⟨rfl, B1.out⟩
theorem upx_ways {v : Nat} {i f : Int} {t : ByteArray} (h : i < 0 ∨ t.size ≠ v ∨ f < 0 ∨ 2 < f) :
    decide (0 ≤ i) = false ∨ (decide (0 ≤ i) = true ∧ (((t.size : Int) != (v : Int)) = true ∨ (((t.size : Int) != (v : Int)) = false ∧ (decide (f < 0) = true ∨ (decide (f < 0) = false ∧ decide (2 < f) = true))))) := by
  simp only [decide_eq_false_iff_not, decide_eq_true_eq, bne_iff_ne, ne_eq, bne_eq_false_iff_eq]
  omega
set_option maxHeartbeats 1000000 in
theorem xupd_bad (tt : TypeId) (u : Value) (s t : ByteArray) (f c : Int) (h : Blk w x 77 (mapC bm k v mx (.iface tt u))) (hb : idx s < 0 ∨ t.size ≠ v ∨ f < 0 ∨ 2 < f) :
    Calls Try.prog 19 #[.pointer (some ⟨x, 0, none⟩), .string s, .string t, .int .i64 f, .int .i64 c] w fun e w' => e = .returned (.int .i64 1) ∧ w = w' := by
  have CN := Lib.hid (number_idx s)
  have CG := Lib.hid (gone_no _ _ _ _ _ _ _ h)
  have c3 : w.cell? ⟨x, 3, none⟩ = some (.int .i64 v) := h.cell 3
  have h' := upx_ways hb
  clear h hb
  generalize idx s = i at *
  generalize (if i < 0 then (0 : Int) else i) = r at CN
  obtain ⟨b, hb⟩ : ∃ b, decide (0 ≤ i) = b := ⟨_, rfl⟩
  rw [hb] at CN h'
  clear hb
  rcases h' with rfl | ⟨rfl, h1 | ⟨h1, h2 | ⟨h2, h3⟩⟩⟩
  all_goals (
    go_enter Try.func19, Try.ntmps19
    go_wp2_with (first
      | (go_at_call 42; refine (CN.out _).mono ?_; rintro e w' ⟨rfl, rfl⟩)
      | (go_at_call 43; refine CG.out.mono ?_; rintro e w' ⟨rfl, rfl⟩))
    go_ret
    exact ⟨rfl, rfl⟩)
set_option maxHeartbeats 1000000 in
theorem xlook_cpu_in (n g cc : Nat) (i : Nat) (hi : i < n) (hn8 : n ≤ 8) (gl : g < w.heap.size) (hc : w.cell? ⟨g, i, none⟩ = some (.int .u64 (addr (i + 1) 0))) (hv : v ≤ 4096) (hm : mx ≤ 4096) (h : Blk w x 77 (mapC bm 6 v mx (eachV (some ⟨g, 0, none⟩) n cc))) (s : ByteArray) (j : Nat) (hj : idx s = j) (hjm : j < mx) :
    Calls Try.prog 21 #[.pointer (some ⟨x, 0, none⟩), .string s, .int .i64 i] w fun e w' => e = .returned (.int .u64 (addr (i + 1) (j * wide v))) ∧ Below w.heap.size w w' := by
  have c5 : w.cell? ⟨x, 5, none⟩ = some (eachV (some ⟨g, 0, none⟩) n cc) := h.cell 5
  have hn := number_idx s
  rw [hj, if_neg (by omega), decide_eq_true (show (0 : Int) ≤ (j : Int) by omega)] at hn
  have CN := Lib.hid hn
  have CG := Lib.hid (gone_no _ _ _ _ _ _ _ h)
  have CM := Lib.hid (max_any _ _ _ _ _ mx hm h)
  have CS := Lib.hid (eseen_yes g n cc i (addr (i + 1) 0) hi hn8 w gl hc)
  have g1 : decide ((mx : Int) ≤ (j : Int)) = false := decide_eq_false (by omega)
  have g2 : decide (mx ≤ j) = false := decide_eq_false (by omega)
  have CO := Lib.hid (fun w' (hb : Below w.heap.size w w') => offset_any _ _ _ _ _ v j hv (by omega) (blk_below h hb))
  have hw : wide v ≤ 4103 := by unfold wide; omega
  have hq : j * wide v ≤ 4096 * 4103 := Nat.mul_le_mul (by omega) hw
  obtain ⟨q, hqq⟩ : ∃ q, j * wide v = q := ⟨_, rfl⟩
  rw [hqq] at CO hq ⊢
  have e1 : IntKind.u64.wrap (addr (i + 1) 0 + (q : Int)) = addr (i + 1) q := by rw [wraps_u64 _ (by unfold addr; omega) (by unfold addr; omega)]; unfold addr; omega
  have mS := mSeenE
  clear h hv hm hw hq hqq hi hn8 hn hj hjm gl hc
  go_enter Try.func21, Try.ntmps21
  go_wp2_with (first
    | (go_at_call 42; refine (CN.out _).mono ?_; rintro e w' ⟨rfl, rfl⟩)
    | (go_at_call 43; refine CG.out.mono ?_; rintro e w' ⟨rfl, rfl⟩)
    | (go_at_call 44; refine CM.out.mono ?_; rintro e w' ⟨rfl, rfl⟩)
    | (go_at_call 112; refine CS.out.mono ?_; rintro e w1 ⟨rfl, hb⟩; have B1 := Lib.hid hb; clear hb)
    | (go_at_call 46; refine (CO.out _ B1.out).mono ?_; rintro e w2 ⟨rfl, hb⟩; have B2 := Lib.hid (below_then B1.out hb); clear hb))
  go_ret
  exact ⟨rfl, B2.out⟩
set_option maxHeartbeats 1000000 in
theorem xlook_cpu_out (n cc : Nat) (A : Option Addr) (i : Int) (hi : i < 0 ∨ (n : Int) ≤ i) (hv : v ≤ 4096) (hm : mx ≤ 4096) (h : Blk w x 77 (mapC bm 6 v mx (eachV A n cc))) (s : ByteArray) (j : Nat) (hj : idx s = j) (hjm : j < mx) :
    Calls Try.prog 21 #[.pointer (some ⟨x, 0, none⟩), .string s, .int .i64 i] w fun e w' => e = .returned (.int .u64 0) ∧ Below w.heap.size w w' := by
  have c5 : w.cell? ⟨x, 5, none⟩ = some (eachV A n cc) := h.cell 5
  have hn := number_idx s
  rw [hj, if_neg (by omega), decide_eq_true (show (0 : Int) ≤ (j : Int) by omega)] at hn
  have CN := Lib.hid hn
  have CG := Lib.hid (gone_no _ _ _ _ _ _ _ h)
  have CM := Lib.hid (max_any _ _ _ _ _ mx hm h)
  have CS := Lib.hid (eseen_no A n cc i hi w)
  have g1 : decide ((mx : Int) ≤ (j : Int)) = false := decide_eq_false (by omega)
  have g2 : decide (mx ≤ j) = false := decide_eq_false (by omega)
  have mS := mSeenE
  clear h hv hm hi hn hj hjm
  go_enter Try.func21, Try.ntmps21
  go_wp2_with (first
    | (go_at_call 42; refine (CN.out _).mono ?_; rintro e w' ⟨rfl, rfl⟩)
    | (go_at_call 43; refine CG.out.mono ?_; rintro e w' ⟨rfl, rfl⟩)
    | (go_at_call 44; refine CM.out.mono ?_; rintro e w' ⟨rfl, rfl⟩)
    | (go_at_call 112; refine CS.out.mono ?_; rintro e w1 ⟨rfl, hb⟩; have B1 := Lib.hid hb; clear hb))
  go_ret
  exact ⟨rfl, B1.out⟩
end
end Go.Proofs.Ythilkgfbaddjpaa
namespace Go.Proofs.Ythilkgfbaddjpaa
open Go Go.RowKit Go.Maps
set_option linter.unusedVariables false
set_option linter.unusedSimpArgs false
set_option maxRecDepth 100000
section
variable {w : World} {x : Nat} {bm : Nat} {k : Int} {v mx : Nat}
set_option maxHeartbeats 1000000 in
theorem xupd_no_n (c : Int) (A : Option Addr) (n cc : Nat) (h0 : c ≠ -1) (hc : c < 0 ∨ (n : Int) ≤ c) (hm : mx ≤ 4096) (h : Blk w x 77 (mapC bm 6 v mx (eachV A n cc))) (s t : ByteArray) (f : Int) (hf : 0 ≤ f ∧ f ≤ 2) (ht : t.size = v) (j : Nat) (hj : idx s = j)  :
    Calls Try.prog 19 #[.pointer (some ⟨x, 0, none⟩), .string s, .string t, .int .i64 f, .int .i64 c] w fun e w' => e = .returned (.int .i64 1) ∧ Below w.heap.size w w' := by
  have c3 : w.cell? ⟨x, 3, none⟩ = some (.int .i64 v) := h.cell 3
  have c5 : w.cell? ⟨x, 5, none⟩ = some (eachV A n cc) := h.cell 5
  have hnn := number_idx s
  rw [hj, if_neg (by omega), decide_eq_true (show (0 : Int) ≤ (j : Int) by omega)] at hnn
  have CN := Lib.hid hnn
  have CG := Lib.hid (gone_no _ _ _ _ _ _ _ h)
  have CM := Lib.hid (fun w' (hb : Below w.heap.size w w') => max_any _ _ _ _ _ mx hm (blk_below h hb))
  have CW := Lib.hid (ewritten_no A n cc c h0 hc w)
  have f1 : decide (f < 0) = false := decide_eq_false (by omega)
  have f2 : decide (2 < f) = false := decide_eq_false (by omega)
  have g5 : ((t.size : Int) != (v : Int)) = false := by rw [ht]; simp
  have mW := mWrittenE
  clear h hm hj hnn ht hf  h0 hc
  go_enter Try.func19, Try.ntmps19
  go_wp2_with (first
    | (go_at_call 42; refine (CN.out _).mono ?_; rintro e w' ⟨rfl, rfl⟩)
    | (go_at_call 43; refine CG.out.mono ?_; rintro e w' ⟨rfl, rfl⟩)
    | (go_at_call 113; refine CW.out.mono ?_; rintro e w1 ⟨rfl, hb⟩; have B1 := Lib.hid hb; clear hb)
    | (go_at_call 44; refine (CM.out _ B1.out).mono ?_; rintro e w' ⟨rfl, rfl⟩))
  go_ret
  exact ⟨rfl, B1.out⟩
set_option maxHeartbeats 1000000 in
theorem xupd_full_s (c : Int)  (hm : mx ≤ 4096) (h : Blk w x 77 (mapC bm 2 v mx (sharedV (addr 1 0)))) (s t : ByteArray) (f : Int) (hf : 0 ≤ f ∧ f ≤ 2) (ht : t.size = v) (j : Nat) (hj : idx s = j) (hjm : mx ≤ j) :
    Calls Try.prog 19 #[.pointer (some ⟨x, 0, none⟩), .string s, .string t, .int .i64 f, .int .i64 c] w fun e w' => e = .returned (.int .i64 3) ∧ Below w.heap.size w w' := by
  have c3 : w.cell? ⟨x, 3, none⟩ = some (.int .i64 v) := h.cell 3
  have c5 : w.cell? ⟨x, 5, none⟩ = some (sharedV (addr 1 0)) := h.cell 5
  have hnn := number_idx s
  rw [hj, if_neg (by omega), decide_eq_true (show (0 : Int) ≤ (j : Int) by omega)] at hnn
  have CN := Lib.hid hnn
  have CG := Lib.hid (gone_no _ _ _ _ _ _ _ h)
  have CM := Lib.hid (fun w' (hb : Below w.heap.size w w') => max_any _ _ _ _ _ mx hm (blk_below h hb))
  have CW := Lib.hid (swritten_any (addr 1 0) c w)
  have f1 : decide (f < 0) = false := decide_eq_false (by omega)
  have f2 : decide (2 < f) = false := decide_eq_false (by omega)
  have g1 : decide ((mx : Int) ≤ (j : Int)) = true := decide_eq_true (by omega)
  have g2 : decide (mx ≤ j) = true := decide_eq_true (by omega)
  have g5 : ((t.size : Int) != (v : Int)) = false := by rw [ht]; simp
  have mW := mWrittenS
  clear h hm hj hnn ht hf hjm 
  go_enter Try.func19, Try.ntmps19
  go_wp2_with (first
    | (go_at_call 42; refine (CN.out _).mono ?_; rintro e w' ⟨rfl, rfl⟩)
    | (go_at_call 43; refine CG.out.mono ?_; rintro e w' ⟨rfl, rfl⟩)
    | (go_at_call 116; refine CW.out.mono ?_; rintro e w1 ⟨g, rfl, hb, hg, hk⟩; have B1 := Lib.hid hb; clear hb hg hk)
    | (go_at_call 44; refine (CM.out _ B1.out).mono ?_; rintro e w' ⟨rfl, rfl⟩))
  go_ret
  exact ⟨rfl, B1.out⟩
set_option maxHeartbeats 1000000 in
theorem xupd_full_a (A : Option Addr) (n cc : Nat) (hn : 1 ≤ n) (hm : mx ≤ 4096) (h : Blk w x 77 (mapC bm 6 v mx (eachV A n cc))) (s t : ByteArray) (f : Int) (hf : 0 ≤ f ∧ f ≤ 2) (ht : t.size = v) (j : Nat) (hj : idx s = j) (hjm : mx ≤ j) :
    Calls Try.prog 19 #[.pointer (some ⟨x, 0, none⟩), .string s, .string t, .int .i64 f, .int .i64 (-1)] w fun e w' => e = .returned (.int .i64 3) ∧ Below w.heap.size w w' := by
  have c3 : w.cell? ⟨x, 3, none⟩ = some (.int .i64 v) := h.cell 3
  have c5 : w.cell? ⟨x, 5, none⟩ = some (eachV A n cc) := h.cell 5
  have hnn := number_idx s
  rw [hj, if_neg (by omega), decide_eq_true (show (0 : Int) ≤ (j : Int) by omega)] at hnn
  have CN := Lib.hid hnn
  have CG := Lib.hid (gone_no _ _ _ _ _ _ _ h)
  have CM := Lib.hid (fun w' (hb : Below w.heap.size w w') => max_any _ _ _ _ _ mx hm (blk_below h hb))
  have CW := Lib.hid (ewritten_all A n cc w)
  have f1 : decide (f < 0) = false := decide_eq_false (by omega)
  have f2 : decide (2 < f) = false := decide_eq_false (by omega)
  have g1 : decide ((mx : Int) ≤ (j : Int)) = true := decide_eq_true (by omega)
  have g2 : decide (mx ≤ j) = true := decide_eq_true (by omega)
  have n6 : decide ((n : Int) = 0) = false := decide_eq_false (by omega)
  have n7 : ((n : Int) == 0) = false := by simp; omega
  have n8 : decide (n = 0) = false := decide_eq_false (by omega)
  have g5 : ((t.size : Int) != (v : Int)) = false := by rw [ht]; simp
  have mW := mWrittenE
  clear h hm hj hnn ht hf hjm hn
  go_enter Try.func19, Try.ntmps19
  go_wp2_with (first
    | (go_at_call 42; refine (CN.out _).mono ?_; rintro e w' ⟨rfl, rfl⟩)
    | (go_at_call 43; refine CG.out.mono ?_; rintro e w' ⟨rfl, rfl⟩)
    | (go_at_call 113; refine CW.out.mono ?_; rintro e w1 ⟨rfl, hb⟩; have B1 := Lib.hid hb; clear hb)
    | (go_at_call 44; refine (CM.out _ B1.out).mono ?_; rintro e w' ⟨rfl, rfl⟩))
  go_ret
  exact ⟨rfl, B1.out⟩
set_option maxHeartbeats 1000000 in
theorem xupd_full_o (g n cc i : Nat) (hi : i < n) (hn8 : n ≤ 8) (gl : g < w.heap.size) (hgc : w.cell? ⟨g, i, none⟩ = some (.int .u64 (addr (i + 1) 0))) (hm : mx ≤ 4096) (h : Blk w x 77 (mapC bm 6 v mx (eachV (some ⟨g, 0, none⟩) n cc))) (s t : ByteArray) (f : Int) (hf : 0 ≤ f ∧ f ≤ 2) (ht : t.size = v) (j : Nat) (hj : idx s = j) (hjm : mx ≤ j) :
    Calls Try.prog 19 #[.pointer (some ⟨x, 0, none⟩), .string s, .string t, .int .i64 f, .int .i64 i] w fun e w' => e = .returned (.int .i64 3) ∧ Below w.heap.size w w' := by
  have c3 : w.cell? ⟨x, 3, none⟩ = some (.int .i64 v) := h.cell 3
  have c5 : w.cell? ⟨x, 5, none⟩ = some (eachV (some ⟨g, 0, none⟩) n cc) := h.cell 5
  have hnn := number_idx s
  rw [hj, if_neg (by omega), decide_eq_true (show (0 : Int) ≤ (j : Int) by omega)] at hnn
  have CN := Lib.hid hnn
  have CG := Lib.hid (gone_no _ _ _ _ _ _ _ h)
  have CM := Lib.hid (fun w' (hb : Below w.heap.size w w') => max_any _ _ _ _ _ mx hm (blk_below h hb))
  have CW := Lib.hid (ewritten_one g n cc i (addr (i + 1) 0) hi hn8 w gl hgc)
  have f1 : decide (f < 0) = false := decide_eq_false (by omega)
  have f2 : decide (2 < f) = false := decide_eq_false (by omega)
  have g1 : decide ((mx : Int) ≤ (j : Int)) = true := decide_eq_true (by omega)
  have g2 : decide (mx ≤ j) = true := decide_eq_true (by omega)
  have g5 : ((t.size : Int) != (v : Int)) = false := by rw [ht]; simp
  have mW := mWrittenE
  clear h hm hj hnn ht hf hjm hi hn8 gl hgc
  go_enter Try.func19, Try.ntmps19
  go_wp2_with (first
    | (go_at_call 42; refine (CN.out _).mono ?_; rintro e w' ⟨rfl, rfl⟩)
    | (go_at_call 43; refine CG.out.mono ?_; rintro e w' ⟨rfl, rfl⟩)
    | (go_at_call 113; refine CW.out.mono ?_; rintro e w1 ⟨g', rfl, hb, hg, hk⟩; have B1 := Lib.hid hb; clear hb hg hk)
    | (go_at_call 44; refine (CM.out _ B1.out).mono ?_; rintro e w' ⟨rfl, rfl⟩))
  go_ret
  exact ⟨rfl, B1.out⟩
set_option maxHeartbeats 1000000 in
theorem xupd_exists_s (c : Int)  (hm : mx ≤ 4096) (h : Blk w x 77 (mapC bm 2 v mx (sharedV (addr 1 0)))) (s t : ByteArray) (ht : t.size = v) (j : Nat) (hj : idx s = j) (hjm : j < mx) :
    Calls Try.prog 19 #[.pointer (some ⟨x, 0, none⟩), .string s, .string t, .int .i64 1, .int .i64 c] w fun e w' => e = .returned (.int .i64 5) ∧ Below w.heap.size w w' := by
  have c3 : w.cell? ⟨x, 3, none⟩ = some (.int .i64 v) := h.cell 3
  have c5 : w.cell? ⟨x, 5, none⟩ = some (sharedV (addr 1 0)) := h.cell 5
  have hnn := number_idx s
  rw [hj, if_neg (by omega), decide_eq_true (show (0 : Int) ≤ (j : Int) by omega)] at hnn
  have CN := Lib.hid hnn
  have CG := Lib.hid (gone_no _ _ _ _ _ _ _ h)
  have CM := Lib.hid (fun w' (hb : Below w.heap.size w w') => max_any _ _ _ _ _ mx hm (blk_below h hb))
  have CW := Lib.hid (swritten_any (addr 1 0) c w)
  have g1 : decide ((mx : Int) ≤ (j : Int)) = false := decide_eq_false (by omega)
  have g2 : decide (mx ≤ j) = false := decide_eq_false (by omega)
  have g5 : ((t.size : Int) != (v : Int)) = false := by rw [ht]; simp
  have mW := mWrittenS
  clear h hm hj hnn ht  hjm 
  go_enter Try.func19, Try.ntmps19
  go_wp2_with (first
    | (go_at_call 42; refine (CN.out _).mono ?_; rintro e w' ⟨rfl, rfl⟩)
    | (go_at_call 43; refine CG.out.mono ?_; rintro e w' ⟨rfl, rfl⟩)
    | (go_at_call 116; refine CW.out.mono ?_; rintro e w1 ⟨g, rfl, hb, hg, hk⟩; have B1 := Lib.hid hb; clear hb hg hk)
    | (go_at_call 44; refine (CM.out _ B1.out).mono ?_; rintro e w' ⟨rfl, rfl⟩))
  go_ret
  exact ⟨rfl, B1.out⟩
set_option maxHeartbeats 1000000 in
theorem xupd_exists_a (A : Option Addr) (n cc : Nat) (hn : 1 ≤ n) (hm : mx ≤ 4096) (h : Blk w x 77 (mapC bm 6 v mx (eachV A n cc))) (s t : ByteArray) (ht : t.size = v) (j : Nat) (hj : idx s = j) (hjm : j < mx) :
    Calls Try.prog 19 #[.pointer (some ⟨x, 0, none⟩), .string s, .string t, .int .i64 1, .int .i64 (-1)] w fun e w' => e = .returned (.int .i64 5) ∧ Below w.heap.size w w' := by
  have c3 : w.cell? ⟨x, 3, none⟩ = some (.int .i64 v) := h.cell 3
  have c5 : w.cell? ⟨x, 5, none⟩ = some (eachV A n cc) := h.cell 5
  have hnn := number_idx s
  rw [hj, if_neg (by omega), decide_eq_true (show (0 : Int) ≤ (j : Int) by omega)] at hnn
  have CN := Lib.hid hnn
  have CG := Lib.hid (gone_no _ _ _ _ _ _ _ h)
  have CM := Lib.hid (fun w' (hb : Below w.heap.size w w') => max_any _ _ _ _ _ mx hm (blk_below h hb))
  have CW := Lib.hid (ewritten_all A n cc w)
  have g1 : decide ((mx : Int) ≤ (j : Int)) = false := decide_eq_false (by omega)
  have g2 : decide (mx ≤ j) = false := decide_eq_false (by omega)
  have n6 : decide ((n : Int) = 0) = false := decide_eq_false (by omega)
  have n7 : ((n : Int) == 0) = false := by simp; omega
  have n8 : decide (n = 0) = false := decide_eq_false (by omega)
  have g5 : ((t.size : Int) != (v : Int)) = false := by rw [ht]; simp
  have mW := mWrittenE
  clear h hm hj hnn ht  hjm hn
  go_enter Try.func19, Try.ntmps19
  go_wp2_with (first
    | (go_at_call 42; refine (CN.out _).mono ?_; rintro e w' ⟨rfl, rfl⟩)
    | (go_at_call 43; refine CG.out.mono ?_; rintro e w' ⟨rfl, rfl⟩)
    | (go_at_call 113; refine CW.out.mono ?_; rintro e w1 ⟨rfl, hb⟩; have B1 := Lib.hid hb; clear hb)
    | (go_at_call 44; refine (CM.out _ B1.out).mono ?_; rintro e w' ⟨rfl, rfl⟩))
  go_ret
  exact ⟨rfl, B1.out⟩
set_option maxHeartbeats 1000000 in
theorem xupd_exists_o (g n cc i : Nat) (hi : i < n) (hn8 : n ≤ 8) (gl : g < w.heap.size) (hgc : w.cell? ⟨g, i, none⟩ = some (.int .u64 (addr (i + 1) 0))) (hm : mx ≤ 4096) (h : Blk w x 77 (mapC bm 6 v mx (eachV (some ⟨g, 0, none⟩) n cc))) (s t : ByteArray) (ht : t.size = v) (j : Nat) (hj : idx s = j) (hjm : j < mx) :
    Calls Try.prog 19 #[.pointer (some ⟨x, 0, none⟩), .string s, .string t, .int .i64 1, .int .i64 i] w fun e w' => e = .returned (.int .i64 5) ∧ Below w.heap.size w w' := by
  have c3 : w.cell? ⟨x, 3, none⟩ = some (.int .i64 v) := h.cell 3
  have c5 : w.cell? ⟨x, 5, none⟩ = some (eachV (some ⟨g, 0, none⟩) n cc) := h.cell 5
  have hnn := number_idx s
  rw [hj, if_neg (by omega), decide_eq_true (show (0 : Int) ≤ (j : Int) by omega)] at hnn
  have CN := Lib.hid hnn
  have CG := Lib.hid (gone_no _ _ _ _ _ _ _ h)
  have CM := Lib.hid (fun w' (hb : Below w.heap.size w w') => max_any _ _ _ _ _ mx hm (blk_below h hb))
  have CW := Lib.hid (ewritten_one g n cc i (addr (i + 1) 0) hi hn8 w gl hgc)
  have g1 : decide ((mx : Int) ≤ (j : Int)) = false := decide_eq_false (by omega)
  have g2 : decide (mx ≤ j) = false := decide_eq_false (by omega)
  have g5 : ((t.size : Int) != (v : Int)) = false := by rw [ht]; simp
  have mW := mWrittenE
  clear h hm hj hnn ht  hjm hi hn8 gl hgc
  go_enter Try.func19, Try.ntmps19
  go_wp2_with (first
    | (go_at_call 42; refine (CN.out _).mono ?_; rintro e w' ⟨rfl, rfl⟩)
    | (go_at_call 43; refine CG.out.mono ?_; rintro e w' ⟨rfl, rfl⟩)
    | (go_at_call 113; refine CW.out.mono ?_; rintro e w1 ⟨g', rfl, hb, hg, hk⟩; have B1 := Lib.hid hb; clear hb hg hk)
    | (go_at_call 44; refine (CM.out _ B1.out).mono ?_; rintro e w' ⟨rfl, rfl⟩))
  go_ret
  exact ⟨rfl, B1.out⟩
end
end Go.Proofs.Ythilkgfbaddjpaa
