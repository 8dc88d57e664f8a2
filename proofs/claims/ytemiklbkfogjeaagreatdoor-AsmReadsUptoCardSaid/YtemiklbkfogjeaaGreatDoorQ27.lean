/-
  The reference's locked operations, guessed. The reference's tests, guessed.
-/
import Derived.Test.YtemiklbkfogjeaaGreatDoorQ26
import Derived.Deep.Cut
namespace Go.Proofs.YtemiklbkfogjeaaGreatDoor
open Go Go.RowKit Go.Maps
set_option linter.unusedVariables false
set_option linter.unusedSimpArgs false
set_option maxRecDepth 100000
theorem strs_lit (w : World) (l : List ByteArray) : StrsAt (w.alloc (.cells (l.map Value.string).toArray strT)) (some ⟨w.heap.size, 0, none⟩) l := by
 intro i s hi
 refine ⟨w.heap.size, 0, rfl, by simp, ?_⟩
 rw [Nat.zero_add, (Blk.new w strT _).cell i]
 simp [hi]
theorem findR_ways (s : ByteArray) : ∀ (l : List ByteArray) (k : Nat), findR s l k = -1 ∨ ∃ j, j < l.length ∧ findR s l k = ((k + j : Nat) : Int)
 | [], k => .inl rfl
 | x :: l, k => by
  unfold findR
  split
  ·exact .inr ⟨0, by simp, rfl⟩
  ·rcases findR_ways s l (k + 1) with h | ⟨j, hj, h⟩
   ·exact .inl h
   ·exact .inr ⟨j + 1, by simp; omega, by rw [h]; omega⟩
def lockNames : List ByteArray := [⟨#[43, 61]⟩, ⟨#[124, 61]⟩, ⟨#[38, 61]⟩, ⟨#[94, 61]⟩, ⟨#[120, 99, 104, 103]⟩, ⟨#[99, 109, 112, 120, 99, 104, 103]⟩]
def lockNum (i : Int) : Int := if i = 0 then 0 else if i = 1 then 64 else if i = 2 then 80 else if i = 3 then 160 else if i = 4 then 225 else 241
def lockedG (L : List ByteArray) : Slot := match L with
 | _ :: p0 :: p1 :: p2 :: p3 :: k :: s :: r =>
  if findR k lockNames 0 < 0 then zeroS
  else ⟨195 + (atR (p0 :: p1 :: p2 :: p3 :: k :: s :: r)).size, (atR (p0 :: p1 :: p2 :: p3 :: k :: s :: r)).reg, regR s 114, (atR (p0 :: p1 :: p2 :: p3 :: k :: s :: r)).off, if L.length = 8 then lockNum (findR k lockNames 0) + 1 else lockNum (findR k lockNames 0)⟩
 | _ => zeroS
theorem strs_tail {w : World} {b o : Nat} {x : ByteArray} {L : List ByteArray} (h : StrsAt w (some ⟨b, o, none⟩) (x :: L)) : StrsAt w (some ⟨b, o + 1, none⟩) L := by
 intro i s hi
 obtain ⟨b', o', e, h1, h2⟩ := h (i + 1) s hi
 cases e
 exact ⟨b, o + 1, rfl, h1, by rw [show o + 1 + i = o + (i + 1) by omega]; exact h2⟩
set_option maxHeartbeats 8000000 in
theorem locked04_any (A : Option Addr) (c : Nat) (L : List ByteArray) (hc : L.length ≤ c) (hc2 : c ≤ 9223372036854775807) (hs : ∀ x ∈ L, x.size ≤ 4611686018427387904) (w : World) (hA : StrsAt w A L) :
  Calls Tryz.prog 30 #[.slice A L.length c] w (SaysI w (lockedG L)) := by
 have HK0 := Lib.hid (newI_blk w)
 have hB0 := newI_below w
 by_cases h7 : L.length < 7
 ·have e : lockedG L = zeroS := by
   unfold lockedG
   split
   ·simp at h7; omega
   ·rfl
  rw [e]
  have g1 : decide (L.length < 7) = true := decide_eq_true h7
  have g2 : (L.length : Int) < 7 := by omega
  have HB := Lib.hid hB0
  have HKL : Hid (Blk (w.alloc (.cells #[.int .i64 0, .int .i64 0, .int .i64 0, .int .i64 0, .int .i64 0] 38)) w.heap.size isT' #[.int .i64 0, .int .i64 0, .int .i64 0, .int .i64 0, .int .i64 0]) := HK0.out
  have k0 := HKL.out.cell 0
  have k1 := HKL.out.cell 1
  have k2 := HKL.out.cell 2
  have k3 := HKL.out.cell 3
  have k4 := HKL.out.cell 4
  have z0 := HKL.out.frozen 0
  have z1 := HKL.out.frozen 1
  have z2 := HKL.out.frozen 2
  have z3 := HKL.out.frozen 3
  have z4 := HKL.out.frozen 4
  clear hA hs hB0 e h7 hc hc2
  generalize L.length = n at *
  go_enter Tryz.func30, Tryz.ntmps30
  go_wp2_with fail
  refine bodyPost_ret (results_cell_row rfl _ _ w.heap.size isT' _ (0, 0) _ rfl HKL.out Tryz.underlying38 rfl (by kernel_rfl)) rfl ?_
  exact ⟨rfl, HB.out⟩
 obtain ⟨q0, L1, rfl⟩ : ∃ q0 L1, L = q0 :: L1 := by
  cases L with
  | nil => exact absurd (by simp) h7
  | cons a l => exact ⟨a, l, rfl⟩
 obtain ⟨p0, p1, p2, p3, k, s, r, rfl⟩ : ∃ p0 p1 p2 p3 k s r, L1 = p0 :: p1 :: p2 :: p3 :: k :: s :: r := by
  have h6 : ¬ L1.length < 6 := fun h => h7 (by rw [List.length_cons]; omega)
  clear h7 hA hs hc
  rcases L1 with _ | ⟨p0, L1⟩
  ·exact absurd (by decide) h6
  rcases L1 with _ | ⟨p1, L1⟩
  ·exact absurd (by simp) h6
  rcases L1 with _ | ⟨p2, L1⟩
  ·exact absurd (by simp) h6
  rcases L1 with _ | ⟨p3, L1⟩
  ·exact absurd (by simp) h6
  rcases L1 with _ | ⟨k, L1⟩
  ·exact absurd (by simp) h6
  rcases L1 with _ | ⟨s, r⟩
  ·exact absurd (by simp) h6
  exact ⟨p0, p1, p2, p3, k, s, r, rfl⟩
 obtain ⟨b, o, rfl, hbl, c0⟩ := hA 0 q0 rfl
 have hA1 := strs_tail hA
 have CA : Hid (Calls Tryz.prog 62 #[.slice (some ⟨b, o + 1, none⟩) (p0 :: p1 :: p2 :: p3 :: k :: s :: r).length (c - 1)] (newI w) fun e w' => e = .returned (.tuple #[.int .i64 (atR (p0 :: p1 :: p2 :: p3 :: k :: s :: r)).size, .bool (atR (p0 :: p1 :: p2 :: p3 :: k :: s :: r)).sign, .int .i64 (atR (p0 :: p1 :: p2 :: p3 :: k :: s :: r)).reg, .int .i64 (atR (p0 :: p1 :: p2 :: p3 :: k :: s :: r)).off]) ∧ Below (newI w).heap.size (newI w) w') := at04_any _ (c - 1) _ (fun x hx => hs x (List.mem_cons_of_mem _ hx)) (newI w) (hA1.below (newI_below w))
 obtain ⟨⟨hl1, hl2⟩, _, _⟩ := atR_le (p0 :: p1 :: p2 :: p3 :: k :: s :: r)
 have HAT := Lib.hid (fun w1 (hb : Below (newI w).heap.size (newI w) w1) => (⟨below_on' hB0 hb, hA.below (below_on' hB0 hb), blk_on' HK0.out hb⟩ : Below w.heap.size w w1 ∧ StrsAt w1 (some ⟨b, o, none⟩) (q0 :: p0 :: p1 :: p2 :: p3 :: k :: s :: r) ∧ Blk w1 w.heap.size isT' #[.int .i64 0, .int .i64 0, .int .i64 0, .int .i64 0, .int .i64 0]))
 have hlen : 7 ≤ (q0 :: p0 :: p1 :: p2 :: p3 :: k :: s :: r).length := by simp
 have CF : Hid (∀ w1 : World, Calls Tryz.prog 37 #[.slice (some ⟨w1.heap.size, 0, none⟩) 6 6, .string k] (w1.alloc (.cells #[.string ⟨#[43, 61]⟩, .string ⟨#[124, 61]⟩, .string ⟨#[38, 61]⟩, .string ⟨#[94, 61]⟩, .string ⟨#[120, 99, 104, 103]⟩, .string ⟨#[99, 109, 112, 120, 99, 104, 103]⟩] 9)) fun e w' => e = .returned (.int .i64 (findR k lockNames 0)) ∧ w1.alloc (.cells #[.string ⟨#[43, 61]⟩, .string ⟨#[124, 61]⟩, .string ⟨#[38, 61]⟩, .string ⟨#[94, 61]⟩, .string ⟨#[120, 99, 104, 103]⟩, .string ⟨#[99, 109, 112, 120, 99, 104, 103]⟩] 9) = w') := fun w1 => find04_any _ 6 lockNames k (by decide) _ (strs_lit w1 lockNames)
 have CR : Hid (∀ w, Calls Tryz.prog 34 #[.string s, .int .u8 114] w fun e w' => e = .returned (.int .i64 (regR s 114)) ∧ w = w') := fun w => regOf04_any s 114 (hs s (by simp)) w
 have HG : Hid (lockedG (q0 :: p0 :: p1 :: p2 :: p3 :: k :: s :: r) = if findR k lockNames 0 < 0 then zeroS else ⟨195 + (atR (p0 :: p1 :: p2 :: p3 :: k :: s :: r)).size, (atR (p0 :: p1 :: p2 :: p3 :: k :: s :: r)).reg, regR s 114, (atR (p0 :: p1 :: p2 :: p3 :: k :: s :: r)).off, if (q0 :: p0 :: p1 :: p2 :: p3 :: k :: s :: r).length = 8 then lockNum (findR k lockNames 0) + 1 else lockNum (findR k lockNames 0)⟩) := rfl
 have e1 : IntKind.i64.wrap (195 + (atR (p0 :: p1 :: p2 :: p3 :: k :: s :: r)).size) = 195 + (atR (p0 :: p1 :: p2 :: p3 :: k :: s :: r)).size := IntWalk.i64_in _ (by omega)
 have HCE : Hid (∀ w1, Below w.heap.size w w1 → StrsAt w1 (some ⟨b, o, none⟩) (q0 :: p0 :: p1 :: p2 :: p3 :: k :: s :: r) → w1.cell? ⟨b, o + 5, none⟩ = some (.string k) ∧ w1.cell? ⟨b, o + 6, none⟩ = some (.string s) ∧ b < w1.heap.size) := by
  intro w1 _ h
  obtain ⟨b5, o5, e5, h5, c5⟩ := h 5 k rfl
  cases e5
  obtain ⟨b6, o6, e6, _, c6⟩ := h 6 s rfl
  cases e6
  exact ⟨c5, c6, h5⟩
 have hlen1 : (q0 :: p0 :: p1 :: p2 :: p3 :: k :: s :: r).length - 1 = (p0 :: p1 :: p2 :: p3 :: k :: s :: r).length := by simp
 rw [← hlen1] at CA
 generalize hn : (q0 :: p0 :: p1 :: p2 :: p3 :: k :: s :: r).length = n at *
 have hways := findR_ways k lockNames 0
 clear hA hA1 hs hB0 hlen1 hn c0
 generalize lockedG (q0 :: p0 :: p1 :: p2 :: p3 :: k :: s :: r) = G at *
 generalize (atR (p0 :: p1 :: p2 :: p3 :: k :: s :: r)).size = sz at *
 generalize (atR (p0 :: p1 :: p2 :: p3 :: k :: s :: r)).sign = sg at *
 generalize (atR (p0 :: p1 :: p2 :: p3 :: k :: s :: r)).reg = rg at *
 generalize (atR (p0 :: p1 :: p2 :: p3 :: k :: s :: r)).off = of at *
 generalize regR s 114 = rs at *
 generalize findR k lockNames 0 = fi at *
 have hfi : fi = -1 ∨ fi = 0 ∨ fi = 1 ∨ fi = 2 ∨ fi = 3 ∨ fi = 4 ∨ fi = 5 := by
  rcases hways with h | ⟨j, hj, h⟩
  ·exact .inl h
  ·have : j < 6 := hj
   omega
 clear hways
 have g1 : decide (n < 7) = false := decide_eq_false (by omega)
 have g2 : ¬ (n : Int) < 7 := by omega
 have g3 : (1 : Int) ≤ (n : Int) := by omega
 have g4 : (5 : Int) < (n : Int) := by omega
 have g5 : (6 : Int) < (n : Int) := by omega
 have g6 : (n : Int) ≤ (c : Int) := by omega
 have e2 : IntKind.i64.wrap ((n : Int) - 1) = ((n - 1 : Nat) : Int) := by rw [IntWalk.i64_in _ (by omega)]; omega
 have HN2 : Hid (∀ w1, Below w.heap.size w w1 → Blk w1 w.heap.size isT' #[.int .i64 0, .int .i64 0, .int .i64 0, .int .i64 0, .int .i64 0] → Below w.heap.size w (w1.alloc (.cells #[.string ⟨#[43, 61]⟩, .string ⟨#[124, 61]⟩, .string ⟨#[38, 61]⟩, .string ⟨#[94, 61]⟩, .string ⟨#[120, 99, 104, 103]⟩, .string ⟨#[99, 109, 112, 120, 99, 104, 103]⟩] 9)) ∧ Blk (w1.alloc (.cells #[.string ⟨#[43, 61]⟩, .string ⟨#[124, 61]⟩, .string ⟨#[38, 61]⟩, .string ⟨#[94, 61]⟩, .string ⟨#[120, 99, 104, 103]⟩, .string ⟨#[99, 109, 112, 120, 99, 104, 103]⟩] 9)) w.heap.size isT' #[.int .i64 0, .int .i64 0, .int .i64 0, .int .i64 0, .int .i64 0]) := fun w1 hb hk => ⟨hb.alloc hb.size _, hk.alloc _⟩
 have HN3 : Hid (∀ w1, Below w.heap.size w w1 → Blk w1 w.heap.size isT' #[.int .i64 0, .int .i64 0, .int .i64 0, .int .i64 0, .int .i64 0] → Below w.heap.size w ((w1.alloc (.cells #[.string ⟨#[43, 61]⟩, .string ⟨#[124, 61]⟩, .string ⟨#[38, 61]⟩, .string ⟨#[94, 61]⟩, .string ⟨#[120, 99, 104, 103]⟩, .string ⟨#[99, 109, 112, 120, 99, 104, 103]⟩] 9)).alloc (.cells #[.int .i64 0, .int .i64 64, .int .i64 80, .int .i64 160, .int .i64 225, .int .i64 241] 3)) ∧ Blk ((w1.alloc (.cells #[.string ⟨#[43, 61]⟩, .string ⟨#[124, 61]⟩, .string ⟨#[38, 61]⟩, .string ⟨#[94, 61]⟩, .string ⟨#[120, 99, 104, 103]⟩, .string ⟨#[99, 109, 112, 120, 99, 104, 103]⟩] 9)).alloc (.cells #[.int .i64 0, .int .i64 64, .int .i64 80, .int .i64 160, .int .i64 225, .int .i64 241] 3)) w.heap.size isT' #[.int .i64 0, .int .i64 0, .int .i64 0, .int .i64 0, .int .i64 0]) := fun w1 hb hk => ⟨(hb.alloc hb.size _).alloc (hb.alloc hb.size _).size _, (hk.alloc _).alloc _⟩
 have h1000 := hl1
 rcases hfi with rfl | hfi
 ·rw [if_pos (by decide)] at HG
  clear hc hc2 hl1 hl2 h7 h1000
  go_enter Tryz.func30, Tryz.ntmps30
  go_wp2_with (first
   | (go_at_call 62; refine CA.out.mono ?_; rintro e w1 ⟨rfl, hb⟩; have H1 := Lib.hid (HAT.out _ hb); clear hb; (obtain ⟨c5, c6, hbw⟩ := HCE.out _ H1.out.1 H1.out.2.1))
   | (go_at_call 37; refine (CF.out _).mono ?_; rintro e w2 ⟨rfl, rfl⟩; have K2 := Lib.hid (HN2.out _ H1.out.1 H1.out.2.2); have k0 := K2.out.2.cell 0; have k1 := K2.out.2.cell 1; have k2 := K2.out.2.cell 2; have k3 := K2.out.2.cell 3; have k4 := K2.out.2.cell 4; have z0 := K2.out.2.frozen 0; have z1 := K2.out.2.frozen 1; have z2 := K2.out.2.frozen 2; have z3 := K2.out.2.frozen 3; have z4 := K2.out.2.frozen 4)
   | (go_at_call 34; refine (CR.out _).mono ?_; rintro e w3 ⟨rfl, rfl⟩))
  have H9 := Lib.hid (own_five (Nat.le_refl _) K2.out.1 K2.out.2 (.int .i64 0) (.int .i64 0) (.int .i64 0) (.int .i64 0) (.int .i64 0))
  refine bodyPost_ret (results_cell_row rfl _ _ w.heap.size isT' _ (0, 0) _ rfl H9.out.2 Tryz.underlying38 rfl (by kernel_rfl)) rfl ?_
  rw [HG.out]
  exact ⟨rfl, H9.out.1⟩
 have hpos : ¬ fi < 0 := by omega
 rw [if_neg hpos] at HG
 clear hpos
 by_cases h8 : n = 8
 ·rw [if_pos h8] at HG
  have c1 : ((n : Int) == 8) = true := by simp; omega
  have c2 : (n == 8) = true := by simpa using h8
  clear hc hc2 hl1 hl2 h7 h1000 h8 HN2
  rcases hfi with rfl | rfl | rfl | rfl | rfl | rfl
  all_goals
   go_enter Tryz.func30, Tryz.ntmps30
   go_wp2_with (first
    | (go_at_call 62; refine CA.out.mono ?_; rintro e w1 ⟨rfl, hb⟩; have H1 := Lib.hid (HAT.out _ hb); clear hb; (obtain ⟨c5, c6, hbw⟩ := HCE.out _ H1.out.1 H1.out.2.1))
    | (go_at_call 37; refine (CF.out _).mono ?_; rintro e w2 ⟨rfl, rfl⟩)
    | (go_at_call 34; refine (CR.out _).mono ?_; rintro e w3 ⟨rfl, rfl⟩; have K3 := Lib.hid (HN3.out _ H1.out.1 H1.out.2.2); have k0 := K3.out.2.cell 0; have k1 := K3.out.2.cell 1; have k2 := K3.out.2.cell 2; have k3 := K3.out.2.cell 3; have k4 := K3.out.2.cell 4; have z0 := K3.out.2.frozen 0; have z1 := K3.out.2.frozen 1; have z2 := K3.out.2.frozen 2; have z3 := K3.out.2.frozen 3; have z4 := K3.out.2.frozen 4))
   refine bodyPost_ret (results_cell_row rfl _ _ w.heap.size isT' _ (0, 0) _ rfl (own_five (Nat.le_refl _) K3.out.1 K3.out.2 _ _ _ _ _).2 Tryz.underlying38 rfl (by kernel_rfl)) rfl ?_
   rw [HG.out]
   exact ⟨rfl, (own_five (Nat.le_refl _) K3.out.1 K3.out.2 _ _ _ _ _).1⟩
 ·rw [if_neg h8] at HG
  have c1 : ((n : Int) == 8) = false := by simp; omega
  have c2 : (n == 8) = false := by simpa using h8
  clear hc hc2 hl1 hl2 h7 h1000 h8 HN2
  rcases hfi with rfl | rfl | rfl | rfl | rfl | rfl
  all_goals
   go_enter Tryz.func30, Tryz.ntmps30
   go_wp2_with (first
    | (go_at_call 62; refine CA.out.mono ?_; rintro e w1 ⟨rfl, hb⟩; have H1 := Lib.hid (HAT.out _ hb); clear hb; (obtain ⟨c5, c6, hbw⟩ := HCE.out _ H1.out.1 H1.out.2.1))
    | (go_at_call 37; refine (CF.out _).mono ?_; rintro e w2 ⟨rfl, rfl⟩)
    | (go_at_call 34; refine (CR.out _).mono ?_; rintro e w3 ⟨rfl, rfl⟩; have K3 := Lib.hid (HN3.out _ H1.out.1 H1.out.2.2); have k0 := K3.out.2.cell 0; have k1 := K3.out.2.cell 1; have k2 := K3.out.2.cell 2; have k3 := K3.out.2.cell 3; have k4 := K3.out.2.cell 4; have z0 := K3.out.2.frozen 0; have z1 := K3.out.2.frozen 1; have z2 := K3.out.2.frozen 2; have z3 := K3.out.2.frozen 3; have z4 := K3.out.2.frozen 4))
   refine bodyPost_ret (results_cell_row rfl _ _ w.heap.size isT' _ (0, 0) _ rfl (own_five (Nat.le_refl _) K3.out.1 K3.out.2 _ _ _ _ _).2 Tryz.underlying38 rfl (by kernel_rfl)) rfl ?_
   rw [HG.out]
   exact ⟨rfl, (own_five (Nat.le_refl _) K3.out.1 K3.out.2 _ _ _ _ _).1⟩
theorem blk_drew {w : World} {g : Nat} {t : TypeId} {cs : Array Value} (h : Blk w g t cs) : Blk w.drew g t cs := blk_on' h ((Below.refl _ w).drew)
def testNames : List ByteArray := [⟨#[]⟩, ⟨#[61, 61]⟩, ⟨#[62]⟩, ⟨#[62, 61]⟩, ⟨#[38]⟩, ⟨#[33, 61]⟩, ⟨#[115, 62]⟩, ⟨#[115, 62, 61]⟩, ⟨#[]⟩, ⟨#[]⟩, ⟨#[60]⟩, ⟨#[60, 61]⟩, ⟨#[115, 60]⟩, ⟨#[115, 60, 61]⟩]
def leadR (a : ByteArray) : UInt8 := if hdS a = some 119 then 119 else 114
def classR (a : ByteArray) : Int := if hdS a = some 119 then 6 else 5
def testG' (L : List ByteArray) : Slot := match L with
 |[_, a, m, c, _, e] => if a.size = 0 then zeroS else if findR m testNames 0 < 0 then zeroS
  else ⟨16 * findR m testNames 0 + classR a + (if (opdR c (leadR a)).2.2 = true then 8 else 0), regR a (leadR a), (opdR c (leadR a)).1, offR e, (opdR c (leadR a)).2.1⟩
 | _ => zeroS
set_option maxHeartbeats 1000000 in
theorem test04_none (A : Option Addr) (c : Nat) (L : List ByteArray) (w : World) (hA : StrsAt w A L) (h : L.length ≠ 6 ∨ (L.length = 6 ∧ ∃ a, L[1]? = some a ∧ a.size = 0)) :
  Calls Tryz.prog 29 #[.slice A L.length c] w (SaysI w zeroS) := by
 have HB : Hid (Below w.heap.size w (w.alloc (.cells #[.int .i64 0, .int .i64 0, .int .i64 0, .int .i64 0, .int .i64 0] 38))) := newI_below w
 have HKL : Hid (Blk (w.alloc (.cells #[.int .i64 0, .int .i64 0, .int .i64 0, .int .i64 0, .int .i64 0] 38)) w.heap.size isT' #[.int .i64 0, .int .i64 0, .int .i64 0, .int .i64 0, .int .i64 0]) := newI_blk w
 have k0 := HKL.out.cell 0
 have k1 := HKL.out.cell 1
 have k2 := HKL.out.cell 2
 have k3 := HKL.out.cell 3
 have k4 := HKL.out.cell 4
 have z0 := HKL.out.frozen 0
 have z1 := HKL.out.frozen 1
 have z2 := HKL.out.frozen 2
 have z3 := HKL.out.frozen 3
 have z4 := HKL.out.frozen 4
 rcases h with h6 | ⟨h6, a, ha, hz⟩
 ·have g1 : ((L.length : Int) != 6) = true := by simp; omega
  have g2 : (L.length != 6) = true := by simpa using h6
  clear hA h6
  generalize L.length = n at *
  go_enter Tryz.func29, Tryz.ntmps29
  go_wp2_with fail
  refine bodyPost_ret (results_cell_row rfl _ _ w.heap.size isT' _ (0, 0) _ rfl HKL.out Tryz.underlying38 rfl (by kernel_rfl)) rfl ?_
  exact ⟨rfl, HB.out⟩
 ·obtain ⟨b, o, rfl, hb, c1⟩ := hA 1 a ha
  have c1' : (w.alloc (.cells #[.int .i64 0, .int .i64 0, .int .i64 0, .int .i64 0, .int .i64 0] 38)).cell? ⟨b, o + 1, none⟩ = some (.string a) := ((newI_below w).cell (p := ⟨b, o + 1, none⟩) hb).trans c1
  have hE := eq_nil a
  have hE1 := isEmpty_size a
  rw [decide_eq_true hz] at hE hE1
  rw [h6]
  clear hA h6 ha hz c1
  go_enter Tryz.func29, Tryz.ntmps29
  go_wp2_with fail
  refine bodyPost_ret (results_cell_row rfl _ _ w.heap.size isT' _ (0, 0) _ rfl HKL.out Tryz.underlying38 rfl (by kernel_rfl)) rfl ?_
  exact ⟨rfl, HB.out⟩
set_option maxHeartbeats 2000000 in
theorem test04_some (b o cc : Nat) (q0 a m c q4 e : ByteArray) (hz : a.size ≠ 0) (hs : ∀ x ∈ [q0, a, m, c, q4, e], x.size ≤ 4611686018427387904) (w : World) (hA : StrsAt w (some ⟨b, o, none⟩) [q0, a, m, c, q4, e]) :
  Calls Tryz.prog 29 #[.slice (some ⟨b, o, none⟩) 6 cc] w (SaysI w (testG' [q0, a, m, c, q4, e])) := by
 have hpos : 0 < a.size := by omega
 have sa := hs a (by simp)
 have sm := hs m (by simp)
 have sc := hs c (by simp)
 have se := hs e (by simp)
 have CE : Hid (∀ w, Calls Tryz.prog 28 #[.string e] w fun e' w' => e' = .returned (.int .i64 (offR e)) ∧ w = w') := fun w => offset04_any e se w
 have CF : Hid (Calls Tryz.prog 37 #[.slice (some ⟨w.heap.size + 1, 0, none⟩) 14 14, .string m] ((w.alloc (.cells #[.int .i64 0, .int .i64 0, .int .i64 0, .int .i64 0, .int .i64 0] 38)).alloc (.cells #[.string ⟨#[]⟩, .string ⟨#[61, 61]⟩, .string ⟨#[62]⟩, .string ⟨#[62, 61]⟩, .string ⟨#[38]⟩, .string ⟨#[33, 61]⟩, .string ⟨#[115, 62]⟩, .string ⟨#[115, 62, 61]⟩, .string ⟨#[]⟩, .string ⟨#[]⟩, .string ⟨#[60]⟩, .string ⟨#[60, 61]⟩, .string ⟨#[115, 60]⟩, .string ⟨#[115, 60, 61]⟩] 9)) fun e w' => e = .returned (.int .i64 (findR m testNames 0)) ∧ ((w.alloc (.cells #[.int .i64 0, .int .i64 0, .int .i64 0, .int .i64 0, .int .i64 0] 38)).alloc (.cells #[.string ⟨#[]⟩, .string ⟨#[61, 61]⟩, .string ⟨#[62]⟩, .string ⟨#[62, 61]⟩, .string ⟨#[38]⟩, .string ⟨#[33, 61]⟩, .string ⟨#[115, 62]⟩, .string ⟨#[115, 62, 61]⟩, .string ⟨#[]⟩, .string ⟨#[]⟩, .string ⟨#[60]⟩, .string ⟨#[60, 61]⟩, .string ⟨#[115, 60]⟩, .string ⟨#[115, 60, 61]⟩] 9)) = w') := by
  have h := find04_any _ 14 testNames m (by decide) _ (strs_lit (w.alloc (.cells #[.int .i64 0, .int .i64 0, .int .i64 0, .int .i64 0, .int .i64 0] 38)) testNames)
  rw [show (w.alloc (.cells #[.int .i64 0, .int .i64 0, .int .i64 0, .int .i64 0, .int .i64 0] 38)).heap.size = w.heap.size + 1 by simp] at h
  exact h
 have HB : Hid (Below w.heap.size w ((w.alloc (.cells #[.int .i64 0, .int .i64 0, .int .i64 0, .int .i64 0, .int .i64 0] 38)).alloc (.cells #[.string ⟨#[]⟩, .string ⟨#[61, 61]⟩, .string ⟨#[62]⟩, .string ⟨#[62, 61]⟩, .string ⟨#[38]⟩, .string ⟨#[33, 61]⟩, .string ⟨#[115, 62]⟩, .string ⟨#[115, 62, 61]⟩, .string ⟨#[]⟩, .string ⟨#[]⟩, .string ⟨#[60]⟩, .string ⟨#[60, 61]⟩, .string ⟨#[115, 60]⟩, .string ⟨#[115, 60, 61]⟩] 9))) := (newI_below w).alloc (newI_below w).size _
 have HKL : Hid (Blk ((w.alloc (.cells #[.int .i64 0, .int .i64 0, .int .i64 0, .int .i64 0, .int .i64 0] 38)).alloc (.cells #[.string ⟨#[]⟩, .string ⟨#[61, 61]⟩, .string ⟨#[62]⟩, .string ⟨#[62, 61]⟩, .string ⟨#[38]⟩, .string ⟨#[33, 61]⟩, .string ⟨#[115, 62]⟩, .string ⟨#[115, 62, 61]⟩, .string ⟨#[]⟩, .string ⟨#[]⟩, .string ⟨#[60]⟩, .string ⟨#[60, 61]⟩, .string ⟨#[115, 60]⟩, .string ⟨#[115, 60, 61]⟩] 9)) w.heap.size isT' #[.int .i64 0, .int .i64 0, .int .i64 0, .int .i64 0, .int .i64 0]) := (newI_blk w).alloc _
 have hA2 := hA.below ((newI_below w).alloc (newI_below w).size (.cells #[.string ⟨#[]⟩, .string ⟨#[61, 61]⟩, .string ⟨#[62]⟩, .string ⟨#[62, 61]⟩, .string ⟨#[38]⟩, .string ⟨#[33, 61]⟩, .string ⟨#[115, 62]⟩, .string ⟨#[115, 62, 61]⟩, .string ⟨#[]⟩, .string ⟨#[]⟩, .string ⟨#[60]⟩, .string ⟨#[60, 61]⟩, .string ⟨#[115, 60]⟩, .string ⟨#[115, 60, 61]⟩] 9))
 have hA1 := hA.below (newI_below w)
 have cells : ∀ W : World, StrsAt W (some ⟨b, o, none⟩) [q0, a, m, c, q4, e] → W.cell? ⟨b, o + 1, none⟩ = some (.string a) ∧ W.cell? ⟨b, o + 2, none⟩ = some (.string m) ∧ W.cell? ⟨b, o + 3, none⟩ = some (.string c) ∧ W.cell? ⟨b, o + 5, none⟩ = some (.string e) := by
  intro W h
  obtain ⟨b1, o1, e1, _, c1⟩ := h 1 a rfl
  cases e1
  obtain ⟨b2, o2, e2, _, c2⟩ := h 2 m rfl
  cases e2
  obtain ⟨b3, o3, e3, _, c3⟩ := h 3 c rfl
  cases e3
  obtain ⟨b5, o5, e5, _, c5⟩ := h 5 e rfl
  cases e5
  exact ⟨c1, c2, c3, c5⟩
 have HCE := Lib.hid cells
 have x1 : (w.alloc (.cells #[.int .i64 0, .int .i64 0, .int .i64 0, .int .i64 0, .int .i64 0] 38)).cell? ⟨b, o + 1, none⟩ = some (.string a) := (cells _ hA1).1
 have y2 : ((w.alloc (.cells #[.int .i64 0, .int .i64 0, .int .i64 0, .int .i64 0, .int .i64 0] 38)).alloc (.cells #[.string ⟨#[]⟩, .string ⟨#[61, 61]⟩, .string ⟨#[62]⟩, .string ⟨#[62, 61]⟩, .string ⟨#[38]⟩, .string ⟨#[33, 61]⟩, .string ⟨#[115, 62]⟩, .string ⟨#[115, 62, 61]⟩, .string ⟨#[]⟩, .string ⟨#[]⟩, .string ⟨#[60]⟩, .string ⟨#[60, 61]⟩, .string ⟨#[115, 60]⟩, .string ⟨#[115, 60, 61]⟩] 9)).cell? ⟨b, o + 2, none⟩ = some (.string m) := (cells _ hA2).2.1
 have y3 : ((w.alloc (.cells #[.int .i64 0, .int .i64 0, .int .i64 0, .int .i64 0, .int .i64 0] 38)).alloc (.cells #[.string ⟨#[]⟩, .string ⟨#[61, 61]⟩, .string ⟨#[62]⟩, .string ⟨#[62, 61]⟩, .string ⟨#[38]⟩, .string ⟨#[33, 61]⟩, .string ⟨#[115, 62]⟩, .string ⟨#[115, 62, 61]⟩, .string ⟨#[]⟩, .string ⟨#[]⟩, .string ⟨#[60]⟩, .string ⟨#[60, 61]⟩, .string ⟨#[115, 60]⟩, .string ⟨#[115, 60, 61]⟩] 9)).cell? ⟨b, o + 3, none⟩ = some (.string c) := (cells _ hA2).2.2.1
 have HA2 : Hid (StrsAt ((w.alloc (.cells #[.int .i64 0, .int .i64 0, .int .i64 0, .int .i64 0, .int .i64 0] 38)).alloc (.cells #[.string ⟨#[]⟩, .string ⟨#[61, 61]⟩, .string ⟨#[62]⟩, .string ⟨#[62, 61]⟩, .string ⟨#[38]⟩, .string ⟨#[33, 61]⟩, .string ⟨#[115, 62]⟩, .string ⟨#[115, 62, 61]⟩, .string ⟨#[]⟩, .string ⟨#[]⟩, .string ⟨#[60]⟩, .string ⟨#[60, 61]⟩, .string ⟨#[115, 60]⟩, .string ⟨#[115, 60, 61]⟩] 9)) (some ⟨b, o, none⟩) [q0, a, m, c, q4, e]) := hA2
 have hE := eq_nil a
 have hE1 := isEmpty_size a
 rw [decide_eq_false hz] at hE hE1
 have hG : testG' [q0, a, m, c, q4, e] = if findR m testNames 0 < 0 then zeroS else ⟨16 * findR m testNames 0 + classR a + (if (opdR c (leadR a)).2.2 = true then 8 else 0), regR a (leadR a), (opdR c (leadR a)).1, offR e, (opdR c (leadR a)).2.1⟩ := by
  show (if a.size = 0 then zeroS else _) = _
  rw [if_neg hz]
 have hfi : -1 ≤ findR m testNames 0 ∧ findR m testNames 0 ≤ 13 := by
  rcases findR_ways m testNames 0 with h | ⟨j, hj, h⟩
  ·omega
  ·have : j < 14 := hj
   omega
 clear hA1 hA2 cells hA hs
 by_cases hneg : findR m testNames 0 < 0
 ·rw [if_pos hneg] at hG
  have HG := Lib.hid hG
  have f1 : decide (findR m testNames 0 < 0) = true := decide_eq_true hneg
  have CO : ∀ q : UInt8, True := fun _ => trivial
  have hi : (((a[0]'hpos).toNat : Int) == 119) = true ∨ (((a[0]'hpos).toNat : Int) == 119) = false := by cases (((a[0]'hpos).toNat : Int) == 119) <;> simp
  have k0 := HKL.out.cell 0
  have k1 := HKL.out.cell 1
  have k2 := HKL.out.cell 2
  have k3 := HKL.out.cell 3
  have k4 := HKL.out.cell 4
  have z0 := HKL.out.frozen 0
  have z1 := HKL.out.frozen 1
  have z2 := HKL.out.frozen 2
  have z3 := HKL.out.frozen 3
  have z4 := HKL.out.frozen 4
  clear hG hfi sa sm sc se hz
  generalize findR m testNames 0 = fi at *
  rcases hi with hi | hi
  all_goals
   go_enter Tryz.func29, Tryz.ntmps29
   go_wp2_with (go_at_call 37; refine CF.out.mono ?_; rintro e w2 ⟨rfl, rfl⟩)
   have H9 := Lib.hid (own_five (Nat.le_refl _) HB.out HKL.out (.int .i64 0) (.int .i64 0) (.int .i64 0) (.int .i64 0) (.int .i64 0))
   first
    | refine bodyPost_ret (results_cell_row rfl _ _ w.heap.size isT' _ (0, 0) _ rfl HKL.out Tryz.underlying38 rfl (by kernel_rfl)) rfl ?_
    | refine bodyPost_ret (results_cell_row rfl _ _ w.heap.size isT' _ (0, 0) _ rfl H9.out.2 Tryz.underlying38 rfl (by kernel_rfl)) rfl ?_
   rw [HG.out]
   first
    | exact ⟨rfl, HB.out⟩
    | exact ⟨rfl, H9.out.1⟩
 rw [if_neg hneg] at hG
 by_cases h119 : (a[0]'hpos).toNat = 119
 ·have el : leadR a = 119 ∧ classR a = 6 := by
   unfold leadR classR
   rw [hdS_some hpos, if_pos (by rw [show a[0]'hpos = 119 from UInt8.toNat_inj.1 h119]), if_pos (by rw [show a[0]'hpos = 119 from UInt8.toNat_inj.1 h119])]
   exact ⟨rfl, rfl⟩
  rw [el.1, el.2] at hG
  have HG := Lib.hid hG
  clear hG el
  have i1 : (((a[0]'hpos).toNat : Int) == 119) = true := by rw [h119]; rfl
  have i2 : ((a[0]'hpos).toNat == 119) = true := by rw [h119]; rfl
  have CO : Hid (∀ w, Calls Tryz.prog 38 #[.string c, .int .u8 119] w fun e w' => e = .returned (.tuple #[.int .i64 (opdR c 119).1, .int .i64 (opdR c 119).2.1, .bool (opdR c 119).2.2]) ∧ w = w') := fun w => operand04_any c 119 sc w
  have CR : Hid (∀ w, Calls Tryz.prog 34 #[.string a, .int .u8 119] w fun e w' => e = .returned (.int .i64 (regR a 119)) ∧ w = w') := fun w => regOf04_any a 119 sa w
  have e1 : IntKind.i64.wrap (16 * findR m testNames 0) = 16 * findR m testNames 0 := IntWalk.i64_in _ (by omega)
  have e2 : IntKind.i64.wrap (16 * findR m testNames 0 + 6) = 16 * findR m testNames 0 + 6 := IntWalk.i64_in _ (by omega)
  have e3 : IntKind.i64.wrap (16 * findR m testNames 0 + 6 + 8) = 16 * findR m testNames 0 + 6 + 8 := IntWalk.i64_in _ (by omega)
  have f1 : decide (findR m testNames 0 < 0) = false := decide_eq_false (by omega)
  have f2 : ¬ findR m testNames 0 < 0 := by omega
  clear hfi h119 sa sm sc se hz hneg
  generalize findR m testNames 0 = fi at *
  generalize regR a 119 = rg at *
  generalize offR e = of at *
  generalize (opdR c 119).1 = p1 at *
  generalize (opdR c 119).2.1 = p2 at *
  generalize (opdR c 119).2.2 = p3 at *
  go_enter Tryz.func29, Tryz.ntmps29
  go_upto_region 10 with (first
   | (go_at_call 37; refine CF.out.mono ?_; rintro e w2 ⟨rfl, rfl⟩)
   | (go_at_call 38; refine (CO.out _).mono ?_; rintro e w2 ⟨rfl, rfl⟩))
  obtain ⟨W, hW⟩ : ∃ W, ((w.alloc (.cells #[.int .i64 0, .int .i64 0, .int .i64 0, .int .i64 0, .int .i64 0] 38)).alloc (.cells #[.string ⟨#[]⟩, .string ⟨#[61, 61]⟩, .string ⟨#[62]⟩, .string ⟨#[62, 61]⟩, .string ⟨#[38]⟩, .string ⟨#[33, 61]⟩, .string ⟨#[115, 62]⟩, .string ⟨#[115, 62, 61]⟩, .string ⟨#[]⟩, .string ⟨#[]⟩, .string ⟨#[60]⟩, .string ⟨#[60, 61]⟩, .string ⟨#[115, 60]⟩, .string ⟨#[115, 60, 61]⟩] 9)) = W := ⟨_, rfl⟩
  rw [hW] at HB HKL HA2 ⊢
  clear hW CF x1 y2 y3
  have HL : Hid (w.heap.size < W.heap.size) := HKL.out.lt
  have HDR : Hid (Below W.heap.size W W.drew) := (Below.refl _ W).drew
  have HA3 := Lib.hid (HA2.out.below HDR.out)
  have HDA : Hid (Below W.heap.size W (W.alloc (.cells #[.int .i64 0, .int .i64 0, .int .i64 0, .int .i64 0, .int .i64 0] 38))) := (Below.refl _ W).alloc (Nat.le_refl _) _
  have K1 : Hid (W.drew.cell? ⟨b, o + 1, none⟩ = some (.string a) ∧ W.drew.cell? ⟨b, o + 5, none⟩ = some (.string e)) := ⟨(HCE.out _ HA3.out).1, (HCE.out _ HA3.out).2.2.2⟩
  have K2 : Hid ((W.alloc (.cells #[.int .i64 0, .int .i64 0, .int .i64 0, .int .i64 0, .int .i64 0] 38)).drew.cell? ⟨b, o + 1, none⟩ = some (.string a) ∧ (W.alloc (.cells #[.int .i64 0, .int .i64 0, .int .i64 0, .int .i64 0, .int .i64 0] 38)).drew.cell? ⟨b, o + 5, none⟩ = some (.string e)) := ⟨(HCE.out _ (HA2.out.below HDA.out.drew)).1, (HCE.out _ (HA2.out.below HDA.out.drew)).2.2.2⟩
  have HQ : Hid (∀ v0 v1 v2 v3 v4, Below w.heap.size w (W.alloc (.cells #[v0, v1, v2, v3, v4] 38)).drew ∧ Blk (W.alloc (.cells #[v0, v1, v2, v3, v4] 38)).drew W.heap.size isT' #[v0, v1, v2, v3, v4] ∧ Blk (W.alloc (.cells #[v0, v1, v2, v3, v4] 38)).drew w.heap.size isT' #[.int .i64 0, .int .i64 0, .int .i64 0, .int .i64 0, .int .i64 0]) := by
   intro v0 v1 v2 v3 v4
   have hb : Below W.heap.size W (W.alloc (.cells #[v0, v1, v2, v3, v4] 38)).drew := ((Below.refl _ W).alloc (Nat.le_refl _) _).drew
   exact ⟨below_on' HB.out hb, blk_drew (Blk.new W isT' #[v0, v1, v2, v3, v4]), blk_on' HKL.out hb⟩
  have K3 : Hid (∀ v0 v1 v2 v3 v4, (W.alloc (.cells #[v0, v1, v2, v3, v4] 38)).drew.cell? ⟨b, o + 1, none⟩ = some (.string a) ∧ (W.alloc (.cells #[v0, v1, v2, v3, v4] 38)).drew.cell? ⟨b, o + 5, none⟩ = some (.string e)) := by
   intro v0 v1 v2 v3 v4
   have hb : Below W.heap.size W (W.alloc (.cells #[v0, v1, v2, v3, v4] 38)).drew := ((Below.refl _ W).alloc (Nat.le_refl _) _).drew
   exact ⟨(HCE.out _ (HA2.out.below hb)).1, (HCE.out _ (HA2.out.below hb)).2.2.2⟩
  go_region_held3 (fun W' => W'.cell? ⟨b, o + 1, none⟩ = some (.string a) ∧ W'.cell? ⟨b, o + 5, none⟩ = some (.string e))
   (first | with_reducible exact K1.out | with_reducible exact K2.out | with_reducible exact K3.out _ _ _ _ _)
   (first | (go_at_call 34; refine (CR.out _).mono ?_; rintro e' w3 ⟨rfl, rfl⟩) | (go_at_call 28; refine (CE.out _).mono ?_; rintro e' w3 ⟨rfl, rfl⟩))
  all_goals
   have H5 := Lib.hid (HQ.out (.int .i64 (16 * fi + 6)) (.int .i64 rg) (.int .i64 p1) (.int .i64 of) (.int .i64 p2))
   generalize (W.alloc (.cells #[.int .i64 (16 * fi + 6), .int .i64 rg, .int .i64 p1, .int .i64 of, .int .i64 p2] 38)).drew = Wf at H5 ⊢
   generalize W.heap.size = z at HL H5 ⊢
   have hne : w.heap.size ≠ z := by have := HL.out; omega
   have hne2 : z ≠ w.heap.size := by have := HL.out; omega
   have HN := Lib.hid hne
   have k0 := H5.out.2.2.cell 0
   have z0 := H5.out.2.2.frozen 0
   have y0 := H5.out.2.1.cell 0
   have u0 := H5.out.2.1.frozen 0
   have k1 := H5.out.2.2.cell 1
   have z1 := H5.out.2.2.frozen 1
   have y1 := H5.out.2.1.cell 1
   have u1 := H5.out.2.1.frozen 1
   have k2 := H5.out.2.2.cell 2
   have z2 := H5.out.2.2.frozen 2
   have y2 := H5.out.2.1.cell 2
   have u2 := H5.out.2.1.frozen 2
   have k3 := H5.out.2.2.cell 3
   have z3 := H5.out.2.2.frozen 3
   have y3 := H5.out.2.1.cell 3
   have u3 := H5.out.2.1.frozen 3
   have k4 := H5.out.2.2.cell 4
   have z4 := H5.out.2.2.frozen 4
   have y4 := H5.out.2.1.cell 4
   have u4 := H5.out.2.1.frozen 4
   cases p3
   ·go_wp2_with fail
    have H9 := Lib.hid (own_five (Nat.le_refl _) H5.out.1 H5.out.2.2 (.int .i64 (16 * fi + 6)) (.int .i64 rg) (.int .i64 p1) (.int .i64 of) (.int .i64 p2))
    refine bodyPost_ret (results_cell_row rfl _ _ w.heap.size isT' _ (0, 0) _ rfl H9.out.2 Tryz.underlying38 rfl (by kernel_rfl)) rfl ?_
    rw [HG.out]
    exact ⟨by simp [inD], H9.out.1⟩
   ·go_wp2_with fail
    have H6 := Lib.hid (H5.out.1.setCell (p := ⟨z, 0, none⟩) (Nat.le_of_lt HL.out) (.int .i64 (16 * fi + 6 + 8)))
    have H7 := Lib.hid (H5.out.2.2.far (p := ⟨z, 0, none⟩) HN.out (.int .i64 (16 * fi + 6 + 8)))
    have H9 := Lib.hid (own_five (Nat.le_refl _) H6.out H7.out (.int .i64 (16 * fi + 6 + 8)) (.int .i64 rg) (.int .i64 p1) (.int .i64 of) (.int .i64 p2))
    refine bodyPost_ret (results_cell_row rfl _ _ w.heap.size isT' _ (0, 0) _ rfl H9.out.2 Tryz.underlying38 rfl (by kernel_rfl)) rfl ?_
    rw [HG.out]
    exact ⟨by simp [inD], H9.out.1⟩
 ·have hh : ¬ hdS a = some 119 := by
   rw [hdS_some hpos]
   intro h
   exact h119 (by rw [Option.some.inj h]; rfl)
  have el : leadR a = 114 ∧ classR a = 5 := by
   unfold leadR classR
   rw [if_neg hh, if_neg hh]
   exact ⟨rfl, rfl⟩
  rw [el.1, el.2] at hG
  have HG := Lib.hid hG
  clear hG el hh
  have i1 : (((a[0]'hpos).toNat : Int) == 119) = false := by simp; omega
  have i2 : ((a[0]'hpos).toNat == 119) = false := by simpa using h119
  have CO : Hid (∀ w, Calls Tryz.prog 38 #[.string c, .int .u8 114] w fun e w' => e = .returned (.tuple #[.int .i64 (opdR c 114).1, .int .i64 (opdR c 114).2.1, .bool (opdR c 114).2.2]) ∧ w = w') := fun w => operand04_any c 114 sc w
  have CR : Hid (∀ w, Calls Tryz.prog 34 #[.string a, .int .u8 114] w fun e w' => e = .returned (.int .i64 (regR a 114)) ∧ w = w') := fun w => regOf04_any a 114 sa w
  have e1 : IntKind.i64.wrap (16 * findR m testNames 0) = 16 * findR m testNames 0 := IntWalk.i64_in _ (by omega)
  have e2 : IntKind.i64.wrap (16 * findR m testNames 0 + 5) = 16 * findR m testNames 0 + 5 := IntWalk.i64_in _ (by omega)
  have e3 : IntKind.i64.wrap (16 * findR m testNames 0 + 5 + 8) = 16 * findR m testNames 0 + 5 + 8 := IntWalk.i64_in _ (by omega)
  have f1 : decide (findR m testNames 0 < 0) = false := decide_eq_false (by omega)
  have f2 : ¬ findR m testNames 0 < 0 := by omega
  clear hfi h119 sa sm sc se hz hneg
  generalize findR m testNames 0 = fi at *
  generalize regR a 114 = rg at *
  generalize offR e = of at *
  generalize (opdR c 114).1 = p1 at *
  generalize (opdR c 114).2.1 = p2 at *
  generalize (opdR c 114).2.2 = p3 at *
  go_enter Tryz.func29, Tryz.ntmps29
  go_upto_region 10 with (first
   | (go_at_call 37; refine CF.out.mono ?_; rintro e w2 ⟨rfl, rfl⟩)
   | (go_at_call 38; refine (CO.out _).mono ?_; rintro e w2 ⟨rfl, rfl⟩))
  obtain ⟨W, hW⟩ : ∃ W, ((w.alloc (.cells #[.int .i64 0, .int .i64 0, .int .i64 0, .int .i64 0, .int .i64 0] 38)).alloc (.cells #[.string ⟨#[]⟩, .string ⟨#[61, 61]⟩, .string ⟨#[62]⟩, .string ⟨#[62, 61]⟩, .string ⟨#[38]⟩, .string ⟨#[33, 61]⟩, .string ⟨#[115, 62]⟩, .string ⟨#[115, 62, 61]⟩, .string ⟨#[]⟩, .string ⟨#[]⟩, .string ⟨#[60]⟩, .string ⟨#[60, 61]⟩, .string ⟨#[115, 60]⟩, .string ⟨#[115, 60, 61]⟩] 9)) = W := ⟨_, rfl⟩
  rw [hW] at HB HKL HA2 ⊢
  clear hW CF x1 y2 y3
  have HL : Hid (w.heap.size < W.heap.size) := HKL.out.lt
  have HDR : Hid (Below W.heap.size W W.drew) := (Below.refl _ W).drew
  have HA3 := Lib.hid (HA2.out.below HDR.out)
  have HDA : Hid (Below W.heap.size W (W.alloc (.cells #[.int .i64 0, .int .i64 0, .int .i64 0, .int .i64 0, .int .i64 0] 38))) := (Below.refl _ W).alloc (Nat.le_refl _) _
  have K1 : Hid (W.drew.cell? ⟨b, o + 1, none⟩ = some (.string a) ∧ W.drew.cell? ⟨b, o + 5, none⟩ = some (.string e)) := ⟨(HCE.out _ HA3.out).1, (HCE.out _ HA3.out).2.2.2⟩
  have K2 : Hid ((W.alloc (.cells #[.int .i64 0, .int .i64 0, .int .i64 0, .int .i64 0, .int .i64 0] 38)).drew.cell? ⟨b, o + 1, none⟩ = some (.string a) ∧ (W.alloc (.cells #[.int .i64 0, .int .i64 0, .int .i64 0, .int .i64 0, .int .i64 0] 38)).drew.cell? ⟨b, o + 5, none⟩ = some (.string e)) := ⟨(HCE.out _ (HA2.out.below HDA.out.drew)).1, (HCE.out _ (HA2.out.below HDA.out.drew)).2.2.2⟩
  have HQ : Hid (∀ v0 v1 v2 v3 v4, Below w.heap.size w (W.alloc (.cells #[v0, v1, v2, v3, v4] 38)).drew ∧ Blk (W.alloc (.cells #[v0, v1, v2, v3, v4] 38)).drew W.heap.size isT' #[v0, v1, v2, v3, v4] ∧ Blk (W.alloc (.cells #[v0, v1, v2, v3, v4] 38)).drew w.heap.size isT' #[.int .i64 0, .int .i64 0, .int .i64 0, .int .i64 0, .int .i64 0]) := by
   intro v0 v1 v2 v3 v4
   have hb : Below W.heap.size W (W.alloc (.cells #[v0, v1, v2, v3, v4] 38)).drew := ((Below.refl _ W).alloc (Nat.le_refl _) _).drew
   exact ⟨below_on' HB.out hb, blk_drew (Blk.new W isT' #[v0, v1, v2, v3, v4]), blk_on' HKL.out hb⟩
  have K3 : Hid (∀ v0 v1 v2 v3 v4, (W.alloc (.cells #[v0, v1, v2, v3, v4] 38)).drew.cell? ⟨b, o + 1, none⟩ = some (.string a) ∧ (W.alloc (.cells #[v0, v1, v2, v3, v4] 38)).drew.cell? ⟨b, o + 5, none⟩ = some (.string e)) := by
   intro v0 v1 v2 v3 v4
   have hb : Below W.heap.size W (W.alloc (.cells #[v0, v1, v2, v3, v4] 38)).drew := ((Below.refl _ W).alloc (Nat.le_refl _) _).drew
   exact ⟨(HCE.out _ (HA2.out.below hb)).1, (HCE.out _ (HA2.out.below hb)).2.2.2⟩
  go_region_held3 (fun W' => W'.cell? ⟨b, o + 1, none⟩ = some (.string a) ∧ W'.cell? ⟨b, o + 5, none⟩ = some (.string e))
   (first | with_reducible exact K1.out | with_reducible exact K2.out | with_reducible exact K3.out _ _ _ _ _)
   (first | (go_at_call 34; refine (CR.out _).mono ?_; rintro e' w3 ⟨rfl, rfl⟩) | (go_at_call 28; refine (CE.out _).mono ?_; rintro e' w3 ⟨rfl, rfl⟩))
  all_goals
   have H5 := Lib.hid (HQ.out (.int .i64 (16 * fi + 5)) (.int .i64 rg) (.int .i64 p1) (.int .i64 of) (.int .i64 p2))
   generalize (W.alloc (.cells #[.int .i64 (16 * fi + 5), .int .i64 rg, .int .i64 p1, .int .i64 of, .int .i64 p2] 38)).drew = Wf at H5 ⊢
   generalize W.heap.size = z at HL H5 ⊢
   have hne : w.heap.size ≠ z := by have := HL.out; omega
   have hne2 : z ≠ w.heap.size := by have := HL.out; omega
   have HN := Lib.hid hne
   have k0 := H5.out.2.2.cell 0
   have z0 := H5.out.2.2.frozen 0
   have y0 := H5.out.2.1.cell 0
   have u0 := H5.out.2.1.frozen 0
   have k1 := H5.out.2.2.cell 1
   have z1 := H5.out.2.2.frozen 1
   have y1 := H5.out.2.1.cell 1
   have u1 := H5.out.2.1.frozen 1
   have k2 := H5.out.2.2.cell 2
   have z2 := H5.out.2.2.frozen 2
   have y2 := H5.out.2.1.cell 2
   have u2 := H5.out.2.1.frozen 2
   have k3 := H5.out.2.2.cell 3
   have z3 := H5.out.2.2.frozen 3
   have y3 := H5.out.2.1.cell 3
   have u3 := H5.out.2.1.frozen 3
   have k4 := H5.out.2.2.cell 4
   have z4 := H5.out.2.2.frozen 4
   have y4 := H5.out.2.1.cell 4
   have u4 := H5.out.2.1.frozen 4
   cases p3
   ·go_wp2_with fail
    have H9 := Lib.hid (own_five (Nat.le_refl _) H5.out.1 H5.out.2.2 (.int .i64 (16 * fi + 5)) (.int .i64 rg) (.int .i64 p1) (.int .i64 of) (.int .i64 p2))
    refine bodyPost_ret (results_cell_row rfl _ _ w.heap.size isT' _ (0, 0) _ rfl H9.out.2 Tryz.underlying38 rfl (by kernel_rfl)) rfl ?_
    rw [HG.out]
    exact ⟨by simp [inD], H9.out.1⟩
   ·go_wp2_with fail
    have H6 := Lib.hid (H5.out.1.setCell (p := ⟨z, 0, none⟩) (Nat.le_of_lt HL.out) (.int .i64 (16 * fi + 5 + 8)))
    have H7 := Lib.hid (H5.out.2.2.far (p := ⟨z, 0, none⟩) HN.out (.int .i64 (16 * fi + 5 + 8)))
    have H9 := Lib.hid (own_five (Nat.le_refl _) H6.out H7.out (.int .i64 (16 * fi + 5 + 8)) (.int .i64 rg) (.int .i64 p1) (.int .i64 of) (.int .i64 p2))
    refine bodyPost_ret (results_cell_row rfl _ _ w.heap.size isT' _ (0, 0) _ rfl H9.out.2 Tryz.underlying38 rfl (by kernel_rfl)) rfl ?_
    rw [HG.out]
    exact ⟨by simp [inD], H9.out.1⟩
end Go.Proofs.YtemiklbkfogjeaaGreatDoor
