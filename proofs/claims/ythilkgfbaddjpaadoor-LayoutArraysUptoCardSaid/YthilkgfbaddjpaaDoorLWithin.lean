/-
  Layer 7: the law LayoutWithin, walked.
-/
import Derived.Test.YthilkgfbaddjpaaDoorLAwake
import Derived.Test.YthilkgfbaddjpaaDoorLPlain2
namespace Go.Proofs.YthilkgfbaddjpaaDoor
open Go Go.RowKit
set_option linter.unusedVariables false
set_option linter.unusedSimpArgs false
set_option maxRecDepth 100000
section
variable {w : World} {a : Nat → Addr} {A : Option Addr} {cl : Nat} {l : List Ty}
def FieldIs (w : World) (A : Option Addr) (n cl : Nat) (id : Int) (P : Option Addr) (m cp : Nat) (x y c : Int) : Prop :=
  ∀ w', Below w.heap.size w w' → Calls Tryd.prog 5 #[.slice A n cl, .int .i64 id, .slice P m cp] w' fun e w'' => e = .returned (.tuple #[.int .i64 x, .int .i64 y, .int .i64 c]) ∧ Below w.heap.size w w''
def SizeIs (w : World) (A : Option Addr) (n cl : Nat) (id z : Int) : Prop :=
  ∀ w', Below w.heap.size w w' → Calls Tryd.prog 7 #[.slice A n cl, .int .i64 id] w' fun e w'' => e = .returned (.tuple #[.int .i64 z, .int .i64 0]) ∧ Below w.heap.size w w''
theorem awake_later (hE : Env w a) (w' : World) (hb : Below w.heap.size w w') : Calls Tryd.prog 6 #[] w' fun e w'' => e = .returned (.bool true) ∧ Below w.heap.size w w'' :=
  (awake_any (hE.below hb)).mono fun e w'' h => ⟨h.1, hb.trans (h.2.mono hb.size)⟩
theorem below_box (w : World) (o : Obj) (n : Nat) : Below w.heap.size w ((w.alloc o).drewN n) := by
  have b := (Below.refl w.heap.size w).alloc (Nat.le_refl _) o
  exact b.trans ((belowDrew _ n).mono b.size)
set_option maxHeartbeats 2000000 in
theorem within_err (hE : Env w a) (n : Nat) (id cut c : Int) (hc : c = 1 ∨ c = 4 ∨ c = 41) (P : Option Addr) (cp m : Nat) (hF : FieldIs w A n cl id P m cp 0 0 c) :
    Calls Tryd.prog 3 #[.slice A n cl, .slice P m cp, .agg #[.int .i64 id, .int .i64 cut]] w fun e w' => e = .returned (.bool true) ∧ Below w.heap.size w w' := by
  have AW := Lib.hid (awake_later hE)
  have HF := Lib.hid hF
  have hc0 : (c != 0) = true := by rcases hc with rfl | rfl | rfl <;> rfl
  clear hE hF hc
  go_enter Tryd.func3, Tryd.ntmps3
  go_upto_region 1 with fail
  go_quiet (fail)
  go_wp2_with (first
    | (go_at_call 5; refine (HF.out _ (below_box w _ _)).mono ?_; rintro e w1 ⟨rfl, hb⟩; have B1 := Lib.hid hb; clear hb)
    | (go_at_call 6; refine (AW.out _ B1.out).mono ?_; rintro e w2 ⟨rfl, hb⟩; have B2 := Lib.hid hb; clear hb))
  go_ret
  exact ⟨rfl, B2.out⟩
set_option maxHeartbeats 1000002 in
theorem within_some (hE : Env w a) (n : Nat) (id cut x y u v t : Int) (b off m cp : Nat) (hmc : m ≤ cp) (hm : cp ≤ 9223372036854775807) (k : Nat) (hk : k ≤ m) (hne : ¬ cp = k) (hkc : (if 0 < (if (m : Int) < cut then (m : Int) else cut) then (if (m : Int) < cut then (m : Int) else cut) else 0) = (k : Int))
    (hF : FieldIs w A n cl id (some ⟨b, off, none⟩) m cp x y 0) (hy : y ≠ 0) (hi : id ≠ 0) (sw sp : Int) (h1 : SizeIs w A n cl id sw) (h2 : SizeIs w A n cl y sp) (hx0 : 0 ≤ x) (hx1 : x ≤ sw - sp) (hw0 : 0 ≤ sw) (hw1 : sw ≤ 1048576) (hp0 : 0 ≤ sp) (hp1 : sp ≤ 1048576)
    (hF1 : FieldIs w A n cl id (some ⟨b, off, none⟩) k cp u t 0) (hF2 : FieldIs w A n cl t (some ⟨b, off + k, none⟩) (m - k) (cp - k) v y 0) (huv : u + v = x) (hwr : -9223372036854775808 ≤ x ∧ x ≤ 9223372036854775807) :
    Calls Tryd.prog 3 #[.slice A n cl, .slice (some ⟨b, off, none⟩) m cp, .agg #[.int .i64 id, .int .i64 cut]] w fun e w' => e = .returned (.bool true) ∧ Below w.heap.size w w' := by
  have AW := Lib.hid (awake_later hE)
  have HF := Lib.hid hF
  have HF1 := Lib.hid hF1
  have HF2 := Lib.hid hF2
  have HKC := Lib.hid hkc
  have hkcp : k ≤ cp := by omega
  have HW : IntKind.i64.wrap (u + v) = x := by rw [huv]; exact IntWalk.i64_in _ hwr
  have hyy : (y != 0) = true := by simp; exact hy
  have hii : (id != 0) = true := by simp; exact hi
  have hwr2 : IntKind.i64.wrap (sw - sp) = sw - sp := IntWalk.i64_in _ (by omega)
  have hx2 : decide (x < 0) = false := by simp; omega
  have hx3 : decide (sw - sp < x) = false := by simp; omega
  have H1 := Lib.hid h1
  have H2 := Lib.hid h2
  clear hE hF hF1 hF2 hkc huv hwr h1 h2 hx0 hx1 hw0 hw1 hp0 hp1 hy hi
  go_enter Tryd.func3, Tryd.ntmps3
  go_upto_region 1 with fail
  go_quiet (fail)
  go_upto_region 5 with (go_at_call 5; refine (HF.out _ (below_box w _ _)).mono ?_; rintro e w1 ⟨rfl, hb⟩; have B1 := Lib.hid hb; clear hb)
  go_upto_region 7 with (go_at_call 7; refine (H1.out _ B1.out).mono ?_; rintro e w2 ⟨rfl, hb⟩; have B2 := Lib.hid hb; clear hb)
  go_upto_region 8 with (go_at_call 7; refine (H2.out _ B2.out).mono ?_; rintro e w3 ⟨rfl, hb⟩; have B3 := Lib.hid hb; clear hb)
  go_upto_region 10 with fail
  clear HF H1 H2 B1 B2
  go_upto_region 11 with fail
  rw [HKC.out]
  generalize (if (m : Int) < cut then (m : Int) else cut) = q
  clear HKC
  go_upto_region 12 with (go_at_call 5; refine (HF1.out _ B3.out).mono ?_; rintro e w4 ⟨rfl, hb⟩; have B4 := Lib.hid hb; clear hb)
  clear HF1 B3
  go_upto_region 13 with (go_at_call 5; refine (HF2.out _ B4.out).mono ?_; rintro e w5 ⟨rfl, hb⟩; have B5 := Lib.hid hb; clear hb)
  clear HF2 B4
  go_wp2_with (go_at_call 6; refine (AW.out _ B5.out).mono ?_; rintro e w6 ⟨rfl, hb⟩; have B6 := Lib.hid hb; clear hb)
  go_ret
  exact ⟨rfl, B6.out⟩
set_option maxHeartbeats 1000002 in
theorem within_some_or (hE : Env w a) (n : Nat) (id cut x y u v t : Int) (b off m cp : Nat) (hmc : m ≤ cp) (hm : cp ≤ 9223372036854775807) (k : Nat) (hk : k ≤ m) (hne : ¬ cp = k) (hkc : (if 0 < (if (m : Int) < cut then (m : Int) else cut) then (if (m : Int) < cut then (m : Int) else cut) else 0) = (k : Int))
    (hF : FieldIs w A n cl id (some ⟨b, off, none⟩) m cp x y 0) (hor : y = 0 ∨ id = 0)
    (hF1 : FieldIs w A n cl id (some ⟨b, off, none⟩) k cp u t 0) (hF2 : FieldIs w A n cl t (some ⟨b, off + k, none⟩) (m - k) (cp - k) v y 0) (huv : u + v = x) (hwr : -9223372036854775808 ≤ x ∧ x ≤ 9223372036854775807) :
    Calls Tryd.prog 3 #[.slice A n cl, .slice (some ⟨b, off, none⟩) m cp, .agg #[.int .i64 id, .int .i64 cut]] w fun e w' => e = .returned (.bool true) ∧ Below w.heap.size w w' := by
  have hor2 : ((y != 0) = false) ∨ ((y != 0) = true ∧ (id != 0) = false) := by
    by_cases h : y = 0
    · left; simp [h]
    · right; simp [h]; rcases hor with h2 | h2
      · exact absurd h2 h
      · exact h2
  have AW := Lib.hid (awake_later hE)
  have HF := Lib.hid hF
  have HF1 := Lib.hid hF1
  have HF2 := Lib.hid hF2
  have HKC := Lib.hid hkc
  have hkcp : k ≤ cp := by omega
  have HW : IntKind.i64.wrap (u + v) = x := by rw [huv]; exact IntWalk.i64_in _ hwr
  clear hE hF hF1 hF2 hkc huv hwr hor
  rcases hor2 with hyy | ⟨hyy, hii⟩
  all_goals (
    go_enter Tryd.func3, Tryd.ntmps3
    go_upto_region 1 with fail
    go_quiet (fail)
    go_upto_region 5 with (go_at_call 5; refine (HF.out _ (below_box w _ _)).mono ?_; rintro e w1 ⟨rfl, hb⟩; have B1 := Lib.hid hb; clear hb)
    have B3 := B1
    go_upto_region 10 with fail
    clear HF B1
    go_upto_region 11 with fail
    rw [HKC.out]
    generalize (if (m : Int) < cut then (m : Int) else cut) = q
    clear HKC
    go_upto_region 12 with (go_at_call 5; refine (HF1.out _ B3.out).mono ?_; rintro e w4 ⟨rfl, hb⟩; have B4 := Lib.hid hb; clear hb)
    clear HF1 B3
    go_upto_region 13 with (go_at_call 5; refine (HF2.out _ B4.out).mono ?_; rintro e w5 ⟨rfl, hb⟩; have B5 := Lib.hid hb; clear hb)
    clear HF2 B4
    go_wp2_with (go_at_call 6; refine (AW.out _ B5.out).mono ?_; rintro e w6 ⟨rfl, hb⟩; have B6 := Lib.hid hb; clear hb)
    go_ret
    exact ⟨rfl, B6.out⟩)
set_option maxHeartbeats 1000002 in
theorem within_all (hE : Env w a) (n : Nat) (id cut x y u v t : Int) (b : Addr) (m : Nat) (hkc : (if 0 < (if (m : Int) < cut then (m : Int) else cut) then (if (m : Int) < cut then (m : Int) else cut) else 0) = (m : Int))
    (hF : FieldIs w A n cl id (some b) m m x y 0) (hy : y ≠ 0) (hi : id ≠ 0) (sw sp : Int) (h1 : SizeIs w A n cl id sw) (h2 : SizeIs w A n cl y sp) (hx0 : 0 ≤ x) (hx1 : x ≤ sw - sp) (hw0 : 0 ≤ sw) (hw1 : sw ≤ 1048576) (hp0 : 0 ≤ sp) (hp1 : sp ≤ 1048576)
    (hF1 : FieldIs w A n cl id (some b) m m u t 0) (hF2 : FieldIs w A n cl t (some b) 0 0 v y 0) (huv : u + v = x) (hwr : -9223372036854775808 ≤ x ∧ x ≤ 9223372036854775807) :
    Calls Tryd.prog 3 #[.slice A n cl, .slice (some b) m m, .agg #[.int .i64 id, .int .i64 cut]] w fun e w' => e = .returned (.bool true) ∧ Below w.heap.size w w' := by
  have AW := Lib.hid (awake_later hE)
  have HF := Lib.hid hF
  have HF1 := Lib.hid hF1
  have HF2 := Lib.hid hF2
  have HKC := Lib.hid hkc
  have HW : IntKind.i64.wrap (u + v) = x := by rw [huv]; exact IntWalk.i64_in _ hwr
  have hyy : (y != 0) = true := by simp; exact hy
  have hii : (id != 0) = true := by simp; exact hi
  have hwr2 : IntKind.i64.wrap (sw - sp) = sw - sp := IntWalk.i64_in _ (by omega)
  have hx2 : decide (x < 0) = false := by simp; omega
  have hx3 : decide (sw - sp < x) = false := by simp; omega
  have H1 := Lib.hid h1
  have H2 := Lib.hid h2
  clear hE hF hF1 hF2 hkc huv hwr h1 h2 hx0 hx1 hw0 hw1 hp0 hp1 hy hi
  go_enter Tryd.func3, Tryd.ntmps3
  go_upto_region 1 with fail
  go_quiet (fail)
  go_upto_region 5 with (go_at_call 5; refine (HF.out _ (below_box w _ _)).mono ?_; rintro e w1 ⟨rfl, hb⟩; have B1 := Lib.hid hb; clear hb)
  go_upto_region 7 with (go_at_call 7; refine (H1.out _ B1.out).mono ?_; rintro e w2 ⟨rfl, hb⟩; have B2 := Lib.hid hb; clear hb)
  go_upto_region 8 with (go_at_call 7; refine (H2.out _ B2.out).mono ?_; rintro e w3 ⟨rfl, hb⟩; have B3 := Lib.hid hb; clear hb)
  go_upto_region 10 with fail
  clear HF H1 H2 B1 B2
  go_upto_region 11 with fail
  rw [HKC.out]
  generalize (if (m : Int) < cut then (m : Int) else cut) = q
  clear HKC
  go_upto_region 12 with (go_at_call 5; refine (HF1.out _ B3.out).mono ?_; rintro e w4 ⟨rfl, hb⟩; have B4 := Lib.hid hb; clear hb)
  clear HF1 B3
  go_upto_region 13 with (go_at_call 5; refine (HF2.out _ B4.out).mono ?_; rintro e w5 ⟨rfl, hb⟩; have B5 := Lib.hid hb; clear hb)
  clear HF2 B4
  go_wp2_with (go_at_call 6; refine (AW.out _ B5.out).mono ?_; rintro e w6 ⟨rfl, hb⟩; have B6 := Lib.hid hb; clear hb)
  go_ret
  exact ⟨rfl, B6.out⟩
set_option maxHeartbeats 1000002 in
theorem within_all_or (hE : Env w a) (n : Nat) (id cut x y u v t : Int) (b : Addr) (m : Nat) (hkc : (if 0 < (if (m : Int) < cut then (m : Int) else cut) then (if (m : Int) < cut then (m : Int) else cut) else 0) = (m : Int))
    (hF : FieldIs w A n cl id (some b) m m x y 0) (hor : y = 0 ∨ id = 0)
    (hF1 : FieldIs w A n cl id (some b) m m u t 0) (hF2 : FieldIs w A n cl t (some b) 0 0 v y 0) (huv : u + v = x) (hwr : -9223372036854775808 ≤ x ∧ x ≤ 9223372036854775807) :
    Calls Tryd.prog 3 #[.slice A n cl, .slice (some b) m m, .agg #[.int .i64 id, .int .i64 cut]] w fun e w' => e = .returned (.bool true) ∧ Below w.heap.size w w' := by
  have hor2 : ((y != 0) = false) ∨ ((y != 0) = true ∧ (id != 0) = false) := by
    by_cases h : y = 0
    · left; simp [h]
    · right; simp [h]; rcases hor with h2 | h2
      · exact absurd h2 h
      · exact h2
  have AW := Lib.hid (awake_later hE)
  have HF := Lib.hid hF
  have HF1 := Lib.hid hF1
  have HF2 := Lib.hid hF2
  have HKC := Lib.hid hkc
  have HW : IntKind.i64.wrap (u + v) = x := by rw [huv]; exact IntWalk.i64_in _ hwr
  clear hE hF hF1 hF2 hkc huv hwr hor
  rcases hor2 with hyy | ⟨hyy, hii⟩
  all_goals (
    go_enter Tryd.func3, Tryd.ntmps3
    go_upto_region 1 with fail
    go_quiet (fail)
    go_upto_region 5 with (go_at_call 5; refine (HF.out _ (below_box w _ _)).mono ?_; rintro e w1 ⟨rfl, hb⟩; have B1 := Lib.hid hb; clear hb)
    have B3 := B1
    go_upto_region 10 with fail
    clear HF B1
    go_upto_region 11 with fail
    rw [HKC.out]
    generalize (if (m : Int) < cut then (m : Int) else cut) = q
    clear HKC
    go_upto_region 12 with (go_at_call 5; refine (HF1.out _ B3.out).mono ?_; rintro e w4 ⟨rfl, hb⟩; have B4 := Lib.hid hb; clear hb)
    clear HF1 B3
    go_upto_region 13 with (go_at_call 5; refine (HF2.out _ B4.out).mono ?_; rintro e w5 ⟨rfl, hb⟩; have B5 := Lib.hid hb; clear hb)
    clear HF2 B4
    go_wp2_with (go_at_call 6; refine (AW.out _ B5.out).mono ?_; rintro e w6 ⟨rfl, hb⟩; have B6 := Lib.hid hb; clear hb)
    go_ret
    exact ⟨rfl, B6.out⟩)
set_option maxHeartbeats 1000002 in
theorem within_none (hE : Env w a) (n : Nat) (id cut x y u v t : Int)  (k : Nat) (hk : k ≤ 0) (hkc : (if 0 < (if (0 : Int) < cut then (0 : Int) else cut) then (if (0 : Int) < cut then (0 : Int) else cut) else 0) = (k : Int))
    (hF : FieldIs w A n cl id none 0 0 x y 0) (hy : y ≠ 0) (hi : id ≠ 0) (sw sp : Int) (h1 : SizeIs w A n cl id sw) (h2 : SizeIs w A n cl y sp) (hx0 : 0 ≤ x) (hx1 : x ≤ sw - sp) (hw0 : 0 ≤ sw) (hw1 : sw ≤ 1048576) (hp0 : 0 ≤ sp) (hp1 : sp ≤ 1048576)
    (hF1 : FieldIs w A n cl id none k 0 u t 0) (hF2 : FieldIs w A n cl t none 0 0 v y 0) (huv : u + v = x) (hwr : -9223372036854775808 ≤ x ∧ x ≤ 9223372036854775807) :
    Calls Tryd.prog 3 #[.slice A n cl, .slice none 0 0, .agg #[.int .i64 id, .int .i64 cut]] w fun e w' => e = .returned (.bool true) ∧ Below w.heap.size w w' := by
  have AW := Lib.hid (awake_later hE)
  have HF := Lib.hid hF
  have HF1 := Lib.hid hF1
  have HF2 := Lib.hid hF2
  have HKC := Lib.hid hkc
  obtain rfl : k = 0 := by omega
  have HW : IntKind.i64.wrap (u + v) = x := by rw [huv]; exact IntWalk.i64_in _ hwr
  have hyy : (y != 0) = true := by simp; exact hy
  have hii : (id != 0) = true := by simp; exact hi
  have hwr2 : IntKind.i64.wrap (sw - sp) = sw - sp := IntWalk.i64_in _ (by omega)
  have hx2 : decide (x < 0) = false := by simp; omega
  have hx3 : decide (sw - sp < x) = false := by simp; omega
  have H1 := Lib.hid h1
  have H2 := Lib.hid h2
  clear hE hF hF1 hF2 hkc huv hwr h1 h2 hx0 hx1 hw0 hw1 hp0 hp1 hy hi
  go_enter Tryd.func3, Tryd.ntmps3
  go_upto_region 1 with fail
  go_quiet (fail)
  go_upto_region 5 with (go_at_call 5; refine (HF.out _ (below_box w _ _)).mono ?_; rintro e w1 ⟨rfl, hb⟩; have B1 := Lib.hid hb; clear hb)
  go_upto_region 7 with (go_at_call 7; refine (H1.out _ B1.out).mono ?_; rintro e w2 ⟨rfl, hb⟩; have B2 := Lib.hid hb; clear hb)
  go_upto_region 8 with (go_at_call 7; refine (H2.out _ B2.out).mono ?_; rintro e w3 ⟨rfl, hb⟩; have B3 := Lib.hid hb; clear hb)
  go_upto_region 10 with fail
  clear HF H1 H2 B1 B2
  go_upto_region 11 with fail
  try generalize (if (0 : Int) < cut then (0 : Int) else cut) = q
  clear HKC
  go_upto_region 12 with (go_at_call 5; refine (HF1.out _ B3.out).mono ?_; rintro e w4 ⟨rfl, hb⟩; have B4 := Lib.hid hb; clear hb)
  clear HF1 B3
  go_upto_region 13 with (go_at_call 5; refine (HF2.out _ B4.out).mono ?_; rintro e w5 ⟨rfl, hb⟩; have B5 := Lib.hid hb; clear hb)
  clear HF2 B4
  go_wp2_with (go_at_call 6; refine (AW.out _ B5.out).mono ?_; rintro e w6 ⟨rfl, hb⟩; have B6 := Lib.hid hb; clear hb)
  go_ret
  exact ⟨rfl, B6.out⟩
set_option maxHeartbeats 1000002 in
theorem within_none_or (hE : Env w a) (n : Nat) (id cut x y u v t : Int)  (k : Nat) (hk : k ≤ 0) (hkc : (if 0 < (if (0 : Int) < cut then (0 : Int) else cut) then (if (0 : Int) < cut then (0 : Int) else cut) else 0) = (k : Int))
    (hF : FieldIs w A n cl id none 0 0 x y 0) (hor : y = 0 ∨ id = 0)
    (hF1 : FieldIs w A n cl id none k 0 u t 0) (hF2 : FieldIs w A n cl t none 0 0 v y 0) (huv : u + v = x) (hwr : -9223372036854775808 ≤ x ∧ x ≤ 9223372036854775807) :
    Calls Tryd.prog 3 #[.slice A n cl, .slice none 0 0, .agg #[.int .i64 id, .int .i64 cut]] w fun e w' => e = .returned (.bool true) ∧ Below w.heap.size w w' := by
  have hor2 : ((y != 0) = false) ∨ ((y != 0) = true ∧ (id != 0) = false) := by
    by_cases h : y = 0
    · left; simp [h]
    · right; simp [h]; rcases hor with h2 | h2
      · exact absurd h2 h
      · exact h2
  have AW := Lib.hid (awake_later hE)
  have HF := Lib.hid hF
  have HF1 := Lib.hid hF1
  have HF2 := Lib.hid hF2
  have HKC := Lib.hid hkc
  obtain rfl : k = 0 := by omega
  have HW : IntKind.i64.wrap (u + v) = x := by rw [huv]; exact IntWalk.i64_in _ hwr
  clear hE hF hF1 hF2 hkc huv hwr hor
  rcases hor2 with hyy | ⟨hyy, hii⟩
  all_goals (
    go_enter Tryd.func3, Tryd.ntmps3
    go_upto_region 1 with fail
    go_quiet (fail)
    go_upto_region 5 with (go_at_call 5; refine (HF.out _ (below_box w _ _)).mono ?_; rintro e w1 ⟨rfl, hb⟩; have B1 := Lib.hid hb; clear hb)
    have B3 := B1
    go_upto_region 10 with fail
    clear HF B1
    go_upto_region 11 with fail
    try generalize (if (0 : Int) < cut then (0 : Int) else cut) = q
    clear HKC
    go_upto_region 12 with (go_at_call 5; refine (HF1.out _ B3.out).mono ?_; rintro e w4 ⟨rfl, hb⟩; have B4 := Lib.hid hb; clear hb)
    clear HF1 B3
    go_upto_region 13 with (go_at_call 5; refine (HF2.out _ B4.out).mono ?_; rintro e w5 ⟨rfl, hb⟩; have B5 := Lib.hid hb; clear hb)
    clear HF2 B4
    go_wp2_with (go_at_call 6; refine (AW.out _ B5.out).mono ?_; rintro e w6 ⟨rfl, hb⟩; have B6 := Lib.hid hb; clear hb)
    go_ret
    exact ⟨rfl, B6.out⟩)
theorem field_good (hE : Env w a) (hT : TysAt w A l) (hn : l.length ≤ 9223372036854775807) (hH : l.length ≤ 1024 → Held l) (hG : Good l) (id : Int) (P : Option Addr) (cp : Nat) (ps : List ByteArray) (hP : StrAt w P ps) (hps : ps.length ≤ 1048576) :
    FieldIs w A l.length cl id P ps.length cp (fieldR l id ps).1 (fieldR l id ps).2.1 (fieldR l id ps).2.2 := fun w' hb =>
  (Field_good (hE.below hb) (hT.below hb) hn hH hG id P cp ps (hP.below hb) hps).mono fun e w'' h => ⟨h.1, hb.trans (h.2.mono hb.size)⟩
theorem size_good (hE : Env w a) (hT : TysAt w A l) (hn : l.length ≤ 9223372036854775807) (hH : l.length ≤ 1024 → Held l) (hG : Good l) (j : Nat) (h1 : 1 ≤ j) (hj : j ≤ l.length) :
    SizeIs w A l.length cl (j : Int) ((szL l).getD j (0, 0)).1 := fun w' hb => by
  refine (Size_good (hE.below hb) (hT.below hb) hn hH hG (j : Int)).mono fun e w'' h => ⟨?_, hb.trans (h.2.mono hb.size)⟩
  rw [h.1]
  unfold sizeR
  rw [if_pos (by unfold hasB leadsB; simp; omega), Int.toNat_natCast, if_pos (hG.code0 h1)]
theorem clamp (cut : Int) (m : Nat) : ∃ k : Nat, k ≤ m ∧ (if 0 < (if (m : Int) < cut then (m : Int) else cut) then (if (m : Int) < cut then (m : Int) else cut) else 0) = (k : Int) := by
  refine ⟨(if 0 < (if (m : Int) < cut then (m : Int) else cut) then (if (m : Int) < cut then (m : Int) else cut) else 0).toNat, ?_, ?_⟩
  · split <;> split <;> omega
  · split <;> split <;> omega
theorem StrAt.take {P : Option Addr} {ps : List ByteArray} (h : StrAt w P ps) (k : Nat) : StrAt w P (ps.take k) := fun i s hs => by
  rw [List.getElem?_take] at hs
  split at hs
  · exact h i s hs
  · cases hs
theorem StrAt.drop {b off : Nat} {ps : List ByteArray} (h : StrAt w (some ⟨b, off, none⟩) ps) (k : Nat) : StrAt w (some ⟨b, off + k, none⟩) (ps.drop k) := fun i s hs => by
  rw [List.getElem?_drop] at hs
  obtain ⟨b', off', e, h1, h2, h3⟩ := h (k + i) s hs
  cases e
  exact ⟨b, off + k, rfl, h1, by rw [show off + k + i = off + (k + i) by omega]; exact h2, h3⟩
theorem StrAt.nil {P : Option Addr} : StrAt w P [] := fun i s hs => by simp at hs
theorem sz_fair {l : List Ty} (h : Good l) (j : Nat) : 0 ≤ ((szL l).getD j (0, 0)).1 ∧ ((szL l).getD j (0, 0)).1 ≤ 1048576 := by
  rw [List.getD_eq_getElem?_getD]
  cases e : (szL l)[j]? with
  | none => simp
  | some z => exact h.fair z (List.mem_of_getElem? e)
theorem within_walk (hE : Env w a) (hT : TysAt w A l) (hn : l.length ≤ 9223372036854775807) (hH : l.length ≤ 1024 → Held l) (P : Option Addr) (cp : Nat) (ps : List ByteArray) (hP : StrAt w P ps) (hps : ps.length ≤ 1048576) (hpc : ps.length ≤ cp) (hcp : cp ≤ 9223372036854775807)
    (hsh : (P = none ∧ cp = 0) ∨ ∃ q : Addr, P = some q ∧ (0 < cp → q.spot = none)) (id cut : Int) :
    Calls Tryd.prog 3 #[.slice A l.length cl, .slice P ps.length cp, .agg #[.int .i64 id, .int .i64 cut]] w fun e w' => e = .returned (.bool true) ∧ Below w.heap.size w w' := by
  by_cases hG : Good l
  · have hF := field_good (cl := cl) hE hT hn hH hG id P cp ps hP hps
    unfold fieldR at hF
    cases hq : hasB id l.length
    · rw [hq, if_neg (by simp)] at hF
      exact within_err hE l.length id cut 1 (.inl rfl) P cp ps.length hF
    · rw [hq, if_pos rfl] at hF
      obtain ⟨p0, p1⟩ := has_nat hq (by omega)
      obtain ⟨j, rfl⟩ : ∃ j : Nat, id = (j : Int) := ⟨id.toNat, by omega⟩
      rw [Int.toNat_natCast] at hF
      cases hx : walkP l ps 0 j with
      | none =>
        rw [hx] at hF
        exact within_err hE l.length (j : Int) cut 4 (.inr (.inl rfl)) P cp ps.length hF
      | some x =>
        rw [hx] at hF
        have hF : FieldIs w A l.length cl (j : Int) P ps.length cp x.1 (x.2 : Int) 0 := hF
        have hj : j ≤ l.length := by omega
        obtain ⟨x1, x2, x3⟩ := hG.walk ps 0 j hj x hx
        have f1 := sz_fair hG j
        have f2 := sz_fair hG x.2
        obtain ⟨k, hk, hkc⟩ := clamp cut ps.length
        obtain ⟨y, z, hy, hy2, hz, hyz, hzt⟩ := hG.pieces ps k j hj x hx
        have hlt : (ps.take k).length = k := by rw [List.length_take]; omega
        have hld : (ps.drop k).length = ps.length - k := by rw [List.length_drop]
        have hF1 : ∀ (P : Option Addr) (cp : Nat), StrAt w P (ps.take k) → FieldIs w A l.length cl (j : Int) P k cp y.1 (y.2 : Int) 0 := fun P cp hP => by
          have := field_good (cl := cl) hE hT hn hH hG (j : Int) P cp (ps.take k) hP (by omega)
          unfold fieldR at this
          rw [hq, if_pos rfl, Int.toNat_natCast, hy, hlt] at this
          exact this
        have hqy : hasB (y.2 : Int) l.length = true := by unfold hasB leadsB; simp; omega
        have hF2 : ∀ (P : Option Addr) (cp : Nat), StrAt w P (ps.drop k) → FieldIs w A l.length cl (y.2 : Int) P (ps.length - k) cp z.1 (x.2 : Int) 0 := fun P cp hP => by
          have := field_good (cl := cl) hE hT hn hH hG (y.2 : Int) P cp (ps.drop k) hP (by omega)
          unfold fieldR at this
          rw [hqy, if_pos rfl, Int.toNat_natCast, hz, hld] at this
          have this : FieldIs w A l.length cl (y.2 : Int) P (ps.length - k) cp z.1 (z.2 : Int) 0 := this
          rw [hzt] at this
          exact this
        have hwr : -9223372036854775808 ≤ x.1 ∧ x.1 ≤ 9223372036854775807 := by omega
        by_cases hb : (x.2 : Int) ≠ 0 ∧ (j : Int) ≠ 0
        · have s1 := size_good (cl := cl) hE hT hn hH hG j (by omega) hj
          have s2 := size_good (cl := cl) hE hT hn hH hG x.2 (by omega) x1
          rcases hsh with ⟨rfl, rfl⟩ | ⟨q, rfl, hsp⟩
          · have h0 : ps.length = 0 := by omega
            obtain rfl : k = 0 := by omega
            rw [h0] at hF hkc ⊢
            rw [h0] at hF2
            exact within_none hE l.length j cut x.1 x.2 y.1 z.1 y.2 0 (Nat.le_refl _) hkc hF hb.1 hb.2 _ _ s1 s2 (by omega) (by omega) f1.1 f1.2 f2.1 f2.2 (hF1 none 0 (hP.take 0)) (hF2 none 0 (by rw [List.drop_zero]; exact hP)) hyz hwr
          · by_cases hkk : cp = k
            · obtain rfl : k = ps.length := by omega
              subst hkk
              have h2 := hF2 (some q) 0 (by rw [List.drop_length]; exact StrAt.nil)
              rw [Nat.sub_self] at h2
              exact within_all hE l.length j cut x.1 x.2 y.1 z.1 y.2 q ps.length hkc hF hb.1 hb.2 _ _ s1 s2 (by omega) (by omega) f1.1 f1.2 f2.1 f2.2 (hF1 _ _ (hP.take _)) h2 hyz hwr
            · obtain ⟨b, off, sp⟩ := q
              obtain rfl : sp = none := hsp (by omega)
              exact within_some hE l.length j cut x.1 x.2 y.1 z.1 y.2 b off ps.length cp hpc hcp k hk hkk hkc hF hb.1 hb.2 _ _ s1 s2 (by omega) (by omega) f1.1 f1.2 f2.1 f2.2 (hF1 _ _ (hP.take _)) (hF2 _ _ (hP.drop _)) hyz hwr
        · have hor : (x.2 : Int) = 0 ∨ (j : Int) = 0 := by omega
          rcases hsh with ⟨rfl, rfl⟩ | ⟨q, rfl, hsp⟩
          · have h0 : ps.length = 0 := by omega
            obtain rfl : k = 0 := by omega
            rw [h0] at hF hkc ⊢
            rw [h0] at hF2
            exact within_none_or hE l.length j cut x.1 x.2 y.1 z.1 y.2 0 (Nat.le_refl _) hkc hF hor (hF1 none 0 (hP.take 0)) (hF2 none 0 (by rw [List.drop_zero]; exact hP)) hyz hwr
          · by_cases hkk : cp = k
            · obtain rfl : k = ps.length := by omega
              subst hkk
              have h2 := hF2 (some q) 0 (by rw [List.drop_length]; exact StrAt.nil)
              rw [Nat.sub_self] at h2
              exact within_all_or hE l.length j cut x.1 x.2 y.1 z.1 y.2 q ps.length hkc hF hor (hF1 _ _ (hP.take _)) h2 hyz hwr
            · obtain ⟨b, off, sp⟩ := q
              obtain rfl : sp = none := hsp (by omega)
              exact within_some_or hE l.length j cut x.1 x.2 y.1 z.1 y.2 b off ps.length cp hpc hcp k hk hkk hkc hF hor (hF1 _ _ (hP.take _)) (hF2 _ _ (hP.drop _)) hyz hwr
  · exact within_err hE l.length id cut 41 (.inr (.inr rfl)) P cp ps.length fun w' hb =>
      (Field_bad (hE.below hb) (hT.below hb) hn hH hG id _).mono fun e w'' h => ⟨h.1, hb.trans (h.2.mono hb.size)⟩
end
end Go.Proofs.YthilkgfbaddjpaaDoor
