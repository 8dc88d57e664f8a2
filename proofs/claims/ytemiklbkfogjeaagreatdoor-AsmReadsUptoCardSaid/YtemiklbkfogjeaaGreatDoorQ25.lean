/-
  The reference's digits. The reference's numbers, read. The reference's numbers with a sign, and its registers' names, read. The reference's small readers: a text's head, its end, a word that is a register or a number, sizes, the place of a text in a list.
-/
import Derived.Test.YtemiklbkfogjeaaGreatDoorQ24
import Derived.Test.YtemiklbkfogjeaaGreatDoorQ03
import Derived.Deep.RegionLaw
namespace Go.Proofs.YtemiklbkfogjeaaGreatDoor
open Go Go.RowKit
set_option linter.unusedVariables false
theorem pow_div (m k : Nat) (hm : 0 < m) (h : m < 10 ^ k) : ∃ j, k = j + 1 ∧ m / 10 < 10 ^ j := by
 cases k with
 | zero => simp at h; omega
 | succ j => exact ⟨j, rfl, by rw [Nat.pow_succ] at h; omega⟩
def DigAt (w : World) (n m : Nat) (l : List UInt8) (wr : World) : Prop := Below w.heap.size w wr ∧ decL n = decUr m ++ l ∧ (∃ k, m < 10 ^ k ∧ k + l.length ≤ 20) ∧ m < 18446744073709551616
theorem DigAt.step {w wr wr' : World} {n m : Nat} {l : List UInt8} (h : DigAt w n m l wr) (hb : Below wr.heap.size wr wr') (hm : 0 < m) : DigAt w n (m / 10) (dig (m % 10) :: l) wr' := by
 obtain ⟨h1, h2, ⟨k, h3, h4⟩, h6⟩ := h
 obtain ⟨j, rfl, h5⟩ := pow_div m k hm h3
 refine ⟨h1.trans (hb.mono h1.size), ?_, ⟨j, h5, by simp; omega⟩, by omega⟩
 rw [h2, decUr_step m hm, List.append_assoc]
 rfl
set_option maxRecDepth 100000 in
set_option maxHeartbeats 1000000 in
theorem udigits_any (n : Nat) (hn : n < 18446744073709551616) (w : World) :
  Calls Tryz.prog 42 #[.int .u64 n] w fun e w' => e = .returned (.string (tx (decL n))) ∧ Below w.heap.size w w' := by
 have hcv := convd w n
 have h0 : Hid (DigAt w n (n / 10) [dig (n % 10)] (w.alloc (.cells #[.int .u8 (48 + (n : Int) % 10)] 5))) := ⟨(Below.refl _ w).alloc (Nat.le_refl _) _, decL_first n, ⟨19, by show n / 10 < 10000000000000000000; omega, by simp⟩, by omega⟩
 go_enter Tryz.func42, Tryz.ntmps42
 go_wp2_with fail
 clear hcv
 go_loopw [0, 3] (fun u s wr => ∃ (m : Nat) (l : List UInt8), u = .int .u64 m ∧ s = .string (tx l) ∧ DigAt w n m l wr) (fun u _ _ => (intOf u).toNat)
 case atStart => exact ⟨n / 10, _, rfl, by simp, h0.out⟩
 case round =>
  clear h0 hn
  obtain ⟨m, l, rfl, rfl, hd⟩ := hrel
  have HD := Lib.hid hd
  clear hd
  by_cases hz : 0 < m
  ·have g1 : decide (0 < m) = true := by simpa using hz
   have hcv := convd wr m
   have hw : IntKind.u64.wrap ((m : Int) / 10) = (m : Int) / 10 := by have := HD.out.2.2.2; rw [IntKind.wrap_u64]; omega
   have hs : (tx l).size ≤ 20 := by rw [tx_size]; obtain ⟨_, _, ⟨k, _, h⟩, _⟩ := HD.out; omega
   have hs1 : (tx [dig (m % 10)]).size = 1 := by rw [tx_size]; rfl
   go_wp2_with fail
   go_roundw
   case rel =>
    refine ⟨m / 10, dig (m % 10) :: l, rfl, ?_, HD.out.step ((Below.refl _ wr).alloc (Nat.le_refl _) _) hz⟩
    simp [tx_app]
   case measure => simp [intOf]; omega
  ·have hm0 : m = 0 := by omega
   subst hm0
   go_wp2_with fail
   go_ret
   refine ⟨?_, HD.out.1⟩
   rw [HD.out.2.1]
   rfl
end Go.Proofs.YtemiklbkfogjeaaGreatDoor
namespace Go.Proofs.YtemiklbkfogjeaaGreatDoor
open Go Go.RowKit Go.Maps
set_option linter.unusedVariables false
set_option linter.unusedSimpArgs false
set_option maxRecDepth 100000
theorem idx_at (s : ByteArray) (p : Nat) (h : p < s.size) (w : World) : (Instr.index 9 (.string s) (.int .i64 (p : Int))).run Tryz.prog w = .ok (.int .u8 (((s[p]'h).toNat : Nat) : Int)) w := by
 rw [run_index_string _ _ _ _ _ Tryz.underlying9, dif_pos ⟨by omega, by omega⟩]
 rfl
abbrev maxU : Nat := 18446744073709551615
def numA (o : Option Nat) : Ending := .returned (.tuple #[.int .u64 ((o.getD 0 : Nat) : Int), .bool o.isSome])
theorem digL_zero {most : Nat} {b c : UInt8} {r : List UInt8} (hb : b.toNat = 48) : digL most 0 true (b :: c :: r) = none := by
 by_cases h : b.toNat < 48 ∨ 57 < b.toNat ∨ (true = false ∧ 0 = 0) ∨ (most - (b.toNat - 48)) / 10 < 0
 ·exact digL_no h
 ·rw [digL_yes h, hb]
  exact digL_no (.inr (.inr (.inl ⟨rfl, rfl⟩)))
set_option maxHeartbeats 4000000 in
theorem unumber_any (s : ByteArray) (hs : s.size ≤ 4611686018427387904) (w : World) :
  Calls Tryz.prog 32 #[.string s] w fun e w' => e = numA (digN maxU s) ∧ w = w' := by
 have hE := isEmpty_size s
 by_cases h0 : s.size = 0
 ·have e0 : digN maxU s = none := if_pos h0
  have hE' : s.toList.isEmpty = true := by rw [hE, decide_eq_true h0]
  have hE2 : (s.toList == []) = true := by simpa using hE'
  rw [e0]
  clear e0 hE h0
  go_enter Tryz.func32, Tryz.ntmps32
  go_wp2_with fail
  go_ret2
  exact ⟨rfl, rfl⟩
 ·have hE' : s.toList.isEmpty = false := by rw [hE, decide_eq_false h0]
  have hE2 : (s.toList == []) = false := by
   cases h : s.toList with
   | nil => rw [h] at hE'; cases hE'
   | cons a b => rfl
  have e0 : digN maxU s = digS maxU s := if_neg h0
  rw [e0]
  have hpos : 0 < s.size := by omega
  have x0 := fun w => idx_at s 0 hpos w
  have hl : (s[0]'hpos).toNat < 256 := (s[0]'hpos).toNat_lt
  by_cases hz : 1 < s.size ∧ (s[0]'hpos).toNat = 48
  ·have e1 : digS maxU s = none := by
    unfold digS
    have h1 := drop_cons (s := s) (pos := 0) (by omega)
    have h2 := drop_cons (s := s) (pos := 1) hz.1
    rw [List.drop_zero] at h1
    rw [h1, h2]
    exact digL_zero hz.2
   rw [e1]
   obtain ⟨hz1, hz2⟩ := hz
   rw [hz2] at x0
   have i1 : decide (1 < s.size) = true := decide_eq_true hz1
   have i2 : (1 : Int) < (s.size : Int) := by omega
   clear e0 e1 hl hE
   go_enter Tryz.func32, Tryz.ntmps32
   go_wp2_with fail
   go_ret2
   exact ⟨rfl, rfl⟩
  ·have hone : ∀ h1 : 1 < s.size, (s[0]'hpos).toNat ≠ 48 := fun h1 h2 => hz ⟨h1, h2⟩
   have hw : (decide (1 < s.size) = false ∧ ¬ (1 : Int) < (s.size : Int)) ∨ (decide (1 < s.size) = true ∧ (1 : Int) < (s.size : Int) ∧ ((s[0]'hpos).toNat == 48) = false ∧ (((s[0]'hpos).toNat : Int) == 48) = false) := by
    by_cases h : 1 < s.size
    ·have := hone h
     exact .inr ⟨decide_eq_true h, by omega, by simpa using this, by simpa using (by omega : ¬ ((s[0]'hpos).toNat : Int) = 48)⟩
    ·exact .inl ⟨decide_eq_false h, by omega⟩
   have HONE := Lib.hid hone
   have HEQ := Lib.hid e0
   have HS0 : Hid (0 < s.size) := by unfold Hid; omega
   clear hone e0 hz h0
   rcases hw with ⟨i1, i2⟩ | ⟨i1, i2, i3, i4⟩
   all_goals
    go_enter Tryz.func32, Tryz.ntmps32
    go_wp2_with fail
    clear x0 hl i1 i2
    go_loopw [4, 5, 6] (fun u i _ wr => ∃ (k m : Nat), wr = w ∧ i = .int .i64 (k : Int) ∧ u = .int .u64 (m : Int) ∧ k ≤ s.size ∧ m ≤ maxU ∧ digL maxU m (k == 0) (s.data.toList.drop k) = digS maxU s ∧ (0 < k → m = 0 → k = s.size)) (fun _ i _ _ => s.size - (intOf i).toNat)
    case atStart => exact ⟨0, 0, rfl, rfl, rfl, Nat.zero_le _, Nat.zero_le _, by rw [List.drop_zero]; rfl, fun h => absurd h (by omega)⟩
    case round =>
     obtain ⟨k, m, rfl, rfl, rfl, hk, hm, hd, hz⟩ := hrel
     have HD := Lib.hid hd
     have HZ := Lib.hid hz
     clear hd hz
     by_cases hkn : k < s.size
     ·have g1 : decide (k < s.size) = true := decide_eq_true hkn
      have j1 : (k : Int) < (s.size : Int) := by omega
      have xk := fun w => idx_at s k hkn w
      have HDC := Lib.hid (drop_cons hkn)
      rw [HDC.out] at HD
      have hu := (s[k]'hkn).toNat_lt
      have HK0 : Hid (k = 0 → (s[k]'hkn).toNat = 48 → s.size = 1) := by
       rintro rfl h48
       rcases Nat.lt_or_ge 1 s.size with h | h
       ·exact absurd h48 (HONE.out h)
       ·omega
      generalize (s[k]'hkn) = b at *
      by_cases c1 : b.toNat < 48
      ·have HX : Hid (digS maxU s = none) := by rw [← HD.out]; exact digL_no (.inl c1)
       have b1 : decide (b.toNat < 48) = true := decide_eq_true c1
       have i1 : (b.toNat : Int) < 48 := by omega
       clear HD HDC c1 hu hk hm
       go_wp2_with fail
       go_ret2
       exact ⟨by rw [HX.out]; rfl, rfl⟩
      have b1 : decide (b.toNat < 48) = false := decide_eq_false c1
      have i1 : ¬ (b.toNat : Int) < 48 := by omega
      by_cases c2 : 57 < b.toNat
      ·have HX : Hid (digS maxU s = none) := by rw [← HD.out]; exact digL_no (.inr (.inl c2))
       have b2 : decide (57 < b.toNat) = true := decide_eq_true c2
       have i2 : (57 : Int) < (b.toNat : Int) := by omega
       clear HD HDC c1 c2 hu hk hm
       go_wp2_with fail
       go_ret2
       exact ⟨by rw [HX.out]; rfl, rfl⟩
      have b2 : decide (57 < b.toNat) = false := decide_eq_false c2
      have i2 : ¬ (57 : Int) < (b.toNat : Int) := by omega
      obtain ⟨d, hd⟩ : ∃ d, b.toNat - 48 = d := ⟨_, rfl⟩
      have e1 : IntKind.u8.wrap ((b.toNat : Int) - 48) = (d : Int) := by rw [IntWalk.u8_in _ (by omega)]; omega
      have e2 : IntKind.u64.wrap (d : Int) = (d : Int) := IntWalk.u64_in _ (by omega)
      obtain ⟨q, hq⟩ : ∃ q, 18446744073709551615 - d = q := ⟨_, rfl⟩
      have e3 : IntKind.u64.wrap (18446744073709551615 - (d : Int)) = (q : Int) := by rw [IntWalk.u64_in _ (by omega)]; omega
      obtain ⟨z, hz⟩ : ∃ z, q / 10 = z := ⟨_, rfl⟩
      have e4 : Int.tdiv (q : Int) 10 = (z : Int) := by rw [Int.tdiv_eq_ediv_of_nonneg (by omega)]; omega
      have e4' : (q : Int) / 10 = (z : Int) := by omega
      have e7 : IntKind.u64.wrap (z : Int) = (z : Int) := IntWalk.u64_in _ (by omega)
      by_cases c3 : z < m
      ·have HX : Hid (digS maxU s = none) := by rw [← HD.out]; exact digL_no (.inr (.inr (.inr (by rw [hd]; show (18446744073709551615 - d) / 10 < m; rw [hq, hz]; exact c3))))
       have b3 : decide (z < m) = true := decide_eq_true c3
       have i3 : (z : Int) < (m : Int) := by omega
       clear HD HDC c1 c2 hu hk hm hd hq hz c3
       go_wp2_with fail
       go_ret2
       exact ⟨by rw [HX.out]; rfl, rfl⟩
      have b3 : decide (z < m) = false := decide_eq_false c3
      have i3 : ¬ (z : Int) < (m : Int) := by omega
      have HF : Hid (¬ ((k == 0) = false ∧ m = 0)) := by
       rintro ⟨h1, h2⟩
       have := HZ.out (by simp at h1; omega) h2
       omega
      have HX : Hid (digL maxU (m * 10 + d) false (s.data.toList.drop (k + 1)) = digS maxU s) := by
       unfold Hid
       rw [← HD.out, digL_yes, hd]
       rintro (h1 | h1 | h1 | h1)
       ·exact c1 h1
       ·exact c2 h1
       ·exact HF.out h1
       ·rw [hd] at h1
        have h1 : (18446744073709551615 - d) / 10 < m := h1
        rw [hq, hz] at h1; exact c3 h1
      have HM : Hid (m * 10 + d ≤ maxU) := by show m * 10 + d ≤ 18446744073709551615; omega
      have HN : Hid (m * 10 + d = 0 → k + 1 = s.size) := by
       intro h
       have hm0 : m = 0 := by omega
       by_cases hk0 : k = 0
       ·have := HK0.out hk0 (by omega); omega
       ·exact absurd ⟨by simpa using hk0, hm0⟩ HF.out
      have e5 : IntKind.u64.wrap ((m : Int) * 10) = ((m * 10 : Nat) : Int) := by rw [IntWalk.u64_in _ (by omega)]; omega
      have e6 : IntKind.u64.wrap (((m * 10 : Nat) : Int) + (d : Int)) = ((m * 10 + d : Nat) : Int) := by rw [IntWalk.u64_in _ (by omega)]; omega
      have e8 : IntKind.i64.wrap ((k : Int) + 1) = ((k + 1 : Nat) : Int) := by rw [IntWalk.i64_in _ (by omega)]; omega
      generalize m * 10 = m10 at *
      generalize m10 + d = mm at *
      clear HD HDC c1 c2 hu hk hd hq hz c3 HZ
      go_wp2_with fail
      go_roundw
      case rel => exact ⟨k + 1, mm, (by first | rfl | trivial), (by first | rfl | trivial), (by first | rfl | trivial), hkn, HM.out, by rw [show (k + 1 == 0) = false from by simp]; exact HX.out, fun _ h => HN.out h⟩
      case measure => simp [intOf]; omega
     ·have hk2 : k = s.size := by omega
      have g1 : decide (k < s.size) = false := decide_eq_false hkn
      have j1 : ¬ (k : Int) < (s.size : Int) := by omega
      have HX : Hid (digS maxU s = some m) := by
       have h := HD.out
       have e : s.data.toList.drop k = [] := by rw [hk2]; exact List.drop_of_length_le (by rw [size_list]; exact Nat.le_refl _)
       rw [e, digL] at h
       exact h.symm
      clear HD HZ hk hk2 hm
      go_wp2_with fail
      go_ret2
      exact ⟨by rw [HX.out]; rfl, rfl⟩
def tl1 (s : ByteArray) : ByteArray := s.extract 1 s.size
theorem tl1_le (s : ByteArray) : (tl1 s).size ≤ s.size := by unfold tl1; rw [ByteArray.size_extract]; omega
/-- A text's first byte. -/
def hdS (s : ByteArray) : Option UInt8 := s.data.toList.head?
theorem hdS_none {s : ByteArray} (h : s.size = 0) : hdS s = none := by
 unfold hdS
 rw [List.head?_eq_none_iff, ← List.length_eq_zero_iff, size_list, h]
theorem hdS_some {s : ByteArray} (h : 0 < s.size) : hdS s = some (s[0]'h) := by
 unfold hdS
 have := drop_cons (s := s) (pos := 0) h
 rw [List.drop_zero] at this
 rw [this]
 rfl
def numV (neg : Bool) (o : Option Nat) : Option Int := o.bind fun u => if 1099511627776 < u ∨ (neg = true ∧ u = 0) then none else some (if neg = true then -(u : Int) else u)
def numR (s : ByteArray) : Option Int := if hdS s = some 45 then numV true (digN maxU (tl1 s)) else numV false (digN maxU s)
def numE (o : Option Int) : Ending := .returned (.tuple #[.int .i64 (o.getD 0), .bool o.isSome])
theorem eq_nil (s : ByteArray) : (s.toList == []) = decide (s.size = 0) := by
 rw [← isEmpty_size]
 cases s.toList <;> rfl
set_option maxHeartbeats 4000000 in
theorem number04_any (s : ByteArray) (hs : s.size ≤ 4611686018427387904) (w : World) :
  Calls Tryz.prog 27 #[.string s] w fun e w' => e = numE (numR s) ∧ w = w' := by
 have hE := eq_nil s
 have hE1 := isEmpty_size s
 have key : ∀ (neg : Bool) (t : ByteArray), t.size ≤ 4611686018427387904 → (Hid (Calls Tryz.prog 32 #[.string t] w fun e w' => e = .returned (.tuple #[.int .u64 0, .bool false]) ∧ w = w') ∧ numV neg (digN maxU t) = none) ∨ ∃ u : Nat, u ≤ maxU ∧ Hid (Calls Tryz.prog 32 #[.string t] w fun e w' => e = .returned (.tuple #[.int .u64 (u : Int), .bool true]) ∧ w = w') ∧ numV neg (digN maxU t) = if 1099511627776 < u ∨ (neg = true ∧ u = 0) then none else some (if neg = true then -(u : Int) else u) := by
  intro neg t ht
  have h := unumber_any t ht w
  rcases hd : digN maxU t with _ | u
  ·rw [hd] at h
   exact .inl ⟨h, rfl⟩
  ·rw [hd] at h
   exact .inr ⟨u, digN_le (by decide) hd, h, rfl⟩
 by_cases h0 : s.size = 0
 ·have e : numR s = numV false (digN maxU s) := by unfold numR; rw [hdS_none h0, if_neg (by simp)]
  rw [decide_eq_true h0] at hE hE1
  rw [e]
  have e2 : digN maxU s = none := if_pos h0
  have h := unumber_any s hs w
  rw [e2] at h ⊢
  have C : Hid (Calls Tryz.prog 32 #[.string s] w fun e w' => e = .returned (.tuple #[.int .u64 0, .bool false]) ∧ w = w') := h
  clear h e e2 h0 key
  go_enter Tryz.func27, Tryz.ntmps27
  go_wp2_with (go_at_call 32; refine C.out.mono ?_; rintro e w1 ⟨rfl, rfl⟩)
  go_ret2
  exact ⟨rfl, rfl⟩
 have hpos : 0 < s.size := by omega
 rw [decide_eq_false h0] at hE hE1
 have fu : ∀ u : Nat, u ≤ maxU → (1099511627776 < u ∧ decide (1099511627776 < u) = true ∧ (1099511627776 : Int) < (u : Int)) ∨ (¬ 1099511627776 < u ∧ u = 0 ∧ decide (1099511627776 < u) = false ∧ ¬ (1099511627776 : Int) < (u : Int) ∧ (u == 0) = true ∧ ((u : Int) == 0) = true ∧ IntKind.i64.wrap (u : Int) = (u : Int)) ∨ (¬ 1099511627776 < u ∧ ¬ u = 0 ∧ decide (1099511627776 < u) = false ∧ ¬ (1099511627776 : Int) < (u : Int) ∧ (u == 0) = false ∧ ((u : Int) == 0) = false ∧ IntKind.i64.wrap (u : Int) = (u : Int) ∧ IntKind.i64.wrap (-(u : Int)) = -(u : Int)) := by
  intro u hu
  by_cases h1 : 1099511627776 < u
  ·exact .inl ⟨h1, decide_eq_true h1, by omega⟩
  ·by_cases h2 : u = 0
   ·subst h2
    exact .inr (.inl ⟨h1, rfl, rfl, by omega, rfl, rfl, by decide⟩)
   ·exact .inr (.inr ⟨h1, h2, decide_eq_false h1, by omega, by simpa using h2, by simpa using h2, IntWalk.i64_in _ (by omega), IntWalk.i64_in _ (by omega)⟩)
 by_cases h45 : (s[0]'hpos).toNat = 45
 ·have e : numR s = numV true (digN maxU (tl1 s)) := by
   unfold numR
   rw [hdS_some hpos, if_pos]
   congr 1
   exact UInt8.toNat_inj.1 h45
  have i1 : (((s[0]'hpos).toNat : Int) == 45) = true := by rw [h45]; rfl
  have i2 : ((s[0]'hpos).toNat == 45) = true := by rw [h45]; rfl
  have j1 : (1 : Int) ≤ (s.size : Int) := by omega
  have x1 : ∀ w : World, (Instr.slice 9 (.string s) (some (.int .i64 1)) none none).run Tryz.prog w = .ok (.string (tl1 s)) w := fun w =>
   run_slice_string_l (P := Tryz.prog) (w := w) (t := 9) (s := s) Tryz.underlying9 .i64 1 (by omega) (by omega)
  rw [e]
  rcases key true (tl1 s) (by have := tl1_le s; omega) with ⟨C, e3⟩ | ⟨u, hu, C, e3⟩
  ·rw [e3]
   clear e e3 key h0 h45 fu
   go_enter Tryz.func27, Tryz.ntmps27
   go_wp2_with (go_at_call 32; refine C.out.mono ?_; rintro e w1 ⟨rfl, rfl⟩)
   go_ret2
   exact ⟨rfl, rfl⟩
  ·rw [e3]
   rcases fu u hu with ⟨a1, a2, a3⟩ | ⟨a1, rfl, a2, a3, a4, a5, a6⟩ | ⟨a1, a0, a2, a3, a4, a5, a6, a7⟩
   ·rw [if_pos (.inl a1)]
    clear e e3 key h0 h45 fu a1 hu
    go_enter Tryz.func27, Tryz.ntmps27
    go_wp2_with (go_at_call 32; refine C.out.mono ?_; rintro e w1 ⟨rfl, rfl⟩)
    go_ret2
    exact ⟨rfl, rfl⟩
   ·rw [if_pos (.inr ⟨rfl, rfl⟩)]
    clear e e3 key h0 h45 fu a1 hu
    go_enter Tryz.func27, Tryz.ntmps27
    go_wp2_with (go_at_call 32; refine C.out.mono ?_; rintro e w1 ⟨rfl, rfl⟩)
    go_ret2
    exact ⟨rfl, rfl⟩
   ·rw [if_neg (fun h => h.elim a1 (fun h => a0 h.2)), if_pos rfl]
    clear e e3 key h0 h45 fu a1 a0 hu
    go_enter Tryz.func27, Tryz.ntmps27
    go_wp2_with (go_at_call 32; refine C.out.mono ?_; rintro e w1 ⟨rfl, rfl⟩)
    go_ret2
    exact ⟨rfl, rfl⟩
 ·have e : numR s = numV false (digN maxU s) := by
   unfold numR
   rw [hdS_some hpos, if_neg]
   intro h
   exact h45 (by rw [Option.some.inj h]; rfl)
  have i1 : (((s[0]'hpos).toNat : Int) == 45) = false := by simp; omega
  have i2 : ((s[0]'hpos).toNat == 45) = false := by simpa using h45
  rw [e]
  rcases key false s hs with ⟨C, e3⟩ | ⟨u, hu, C, e3⟩
  ·rw [e3]
   clear e e3 key h0 h45 fu
   go_enter Tryz.func27, Tryz.ntmps27
   go_wp2_with (go_at_call 32; refine C.out.mono ?_; rintro e w1 ⟨rfl, rfl⟩)
   go_ret2
   exact ⟨rfl, rfl⟩
  ·rw [e3]
   rcases fu u hu with ⟨a1, a2, a3⟩ | ⟨a1, rfl, a2, a3, a4, a5, a6⟩ | ⟨a1, a0, a2, a3, a4, a5, a6, a7⟩
   ·rw [if_pos (.inl a1)]
    clear e e3 key h0 h45 fu a1 hu
    go_enter Tryz.func27, Tryz.ntmps27
    go_wp2_with (go_at_call 32; refine C.out.mono ?_; rintro e w1 ⟨rfl, rfl⟩)
    go_ret2
    exact ⟨rfl, rfl⟩
   ·rw [if_neg (fun h => h.elim a1 (fun h => by cases h.1)), if_neg (by decide)]
    clear e e3 key h0 h45 fu a1 hu
    go_enter Tryz.func27, Tryz.ntmps27
    go_wp2_with (go_at_call 32; refine C.out.mono ?_; rintro e w1 ⟨rfl, rfl⟩)
    go_ret2
    exact ⟨rfl, rfl⟩
   ·rw [if_neg (fun h => h.elim a1 (fun h => by cases h.1)), if_neg (by decide)]
    clear e e3 key h0 h45 fu a1 a0 hu
    go_enter Tryz.func27, Tryz.ntmps27
    go_wp2_with (go_at_call 32; refine C.out.mono ?_; rintro e w1 ⟨rfl, rfl⟩)
    go_ret2
    exact ⟨rfl, rfl⟩
/-- A register's name's number. -/
def regR (s : ByteArray) (lead : UInt8) : Int := if 2 ≤ s.size ∧ hdS s = some lead then (numR (tl1 s)).getD (-1) else -1
set_option maxHeartbeats 4000000 in
theorem regOf04_any (s : ByteArray) (lead : UInt8) (hs : s.size ≤ 4611686018427387904) (w : World) :
  Calls Tryz.prog 34 #[.string s, .int .u8 (lead.toNat : Int)] w fun e w' => e = .returned (.int .i64 (regR s lead)) ∧ w = w' := by
 by_cases h2 : 2 ≤ s.size
 ·have hpos : 0 < s.size := by omega
  have i2 : decide (s.size < 2) = false := decide_eq_false (by omega)
  have i3 : ¬ (s.size : Int) < 2 := by omega
  by_cases hl : (s[0]'hpos).toNat = lead.toNat
  ·have e : regR s lead = (numR (tl1 s)).getD (-1) := by
    unfold regR
    rw [if_pos ⟨h2, by rw [hdS_some hpos, UInt8.toNat_inj.1 hl]⟩]
   have i1 : (((s[0]'hpos).toNat : Int) != (lead.toNat : Int)) = false := by rw [hl]; simp
   have i4 : ((s[0]'hpos).toNat != lead.toNat) = false := by rw [hl]; simp
   have x1 : ∀ w : World, (Instr.slice 9 (.string s) (some (.int .i64 1)) none none).run Tryz.prog w = .ok (.string (tl1 s)) w := fun w =>
    run_slice_string_l (P := Tryz.prog) (w := w) (t := 9) (s := s) Tryz.underlying9 .i64 1 (by omega) (by omega)
   have j1 : (1 : Int) ≤ (s.size : Int) := by omega
   have h := number04_any (tl1 s) (by have := tl1_le s; omega) w
   rw [e]
   rcases hn : numR (tl1 s) with _ | v
   ·rw [hn] at h
    have C : Hid (Calls Tryz.prog 27 #[.string (tl1 s)] w fun e w' => e = .returned (.tuple #[.int .i64 0, .bool false]) ∧ w = w') := h
    clear h hn e hl h2
    go_enter Tryz.func34, Tryz.ntmps34
    go_wp2_with (go_at_call 27; refine C.out.mono ?_; rintro e w1 ⟨rfl, rfl⟩)
    go_ret
    exact ⟨rfl, rfl⟩
   ·rw [hn] at h
    have C : Hid (Calls Tryz.prog 27 #[.string (tl1 s)] w fun e w' => e = .returned (.tuple #[.int .i64 v, .bool true]) ∧ w = w') := h
    clear h hn e hl h2
    go_enter Tryz.func34, Tryz.ntmps34
    go_wp2_with (go_at_call 27; refine C.out.mono ?_; rintro e w1 ⟨rfl, rfl⟩)
    go_ret
    exact ⟨rfl, rfl⟩
  ·have e : regR s lead = -1 := by
    unfold regR
    rw [if_neg]
    rintro ⟨_, h⟩
    rw [hdS_some hpos] at h
    exact hl (by rw [Option.some.inj h])
   have i1 : (((s[0]'hpos).toNat : Int) != (lead.toNat : Int)) = true := by simp; omega
   have i4 : ((s[0]'hpos).toNat != lead.toNat) = true := by simpa using hl
   rw [e]
   clear e hl h2
   go_enter Tryz.func34, Tryz.ntmps34
   go_wp2_with fail
   go_ret
   exact ⟨rfl, rfl⟩
 ·have e : regR s lead = -1 := by
   unfold regR
   rw [if_neg (fun h => h2 h.1)]
  have i2 : decide (s.size < 2) = true := decide_eq_true (by omega)
  have i3 : (s.size : Int) < 2 := by omega
  rw [e]
  clear e h2
  go_enter Tryz.func34, Tryz.ntmps34
  go_wp2_with fail
  go_ret
  exact ⟨rfl, rfl⟩
def headR (s t : ByteArray) : ByteArray := if begins s t = true then s.extract t.size s.size else ⟨#[]⟩
theorem headR_le (s t : ByteArray) : (headR s t).size ≤ s.size := by
 unfold headR
 split
 ·rw [ByteArray.size_extract]; omega
 ·exact Nat.zero_le _
set_option maxHeartbeats 1000000 in
theorem head04_any (s t : ByteArray) (hs : s.size ≤ 4611686018427387904) (ht : t.size ≤ 4611686018427387904) (w : World) :
  Calls Tryz.prog 36 #[.string s, .string t] w fun e w' => e = .returned (.tuple #[.string (headR s t), .bool (begins s t)]) ∧ w = w' := by
 have HR : Hid (headR s t = if begins s t = true then s.extract t.size s.size else ⟨#[]⟩) := rfl
 by_cases h : t.size ≤ s.size
 ·have g1 : decide (s.size < t.size) = false := decide_eq_false (by omega)
  have g2 : ¬ (s.size : Int) < (t.size : Int) := by omega
  have hh : (t.size : Int) ≤ (s.size : Int) := by omega
  have e : ((s.extract 0 t.size).toList == t.toList) = begins s t := by
   rw [list_beq]
   unfold begins beginsB
   rw [size_list, size_list, decide_eq_true h]
   simp [ByteArray.data_extract, Array.toList_extract, List.extract, size_list]
  have e2 : ((s.extract 0 t.size).toList != t.toList) = !begins s t := by rw [← e]; rfl
  generalize begins s t = b at *
  cases b
  ·rw [if_neg (by decide)] at HR
   go_enter Tryz.func36, Tryz.ntmps36
   go_wp2_with fail
   go_ret2
   exact ⟨by rw [HR.out]; rfl, rfl⟩
  ·rw [if_pos rfl] at HR
   go_enter Tryz.func36, Tryz.ntmps36
   go_wp2_with fail
   go_ret2
   exact ⟨by rw [HR.out]; rfl, rfl⟩
 ·have g1 : decide (s.size < t.size) = true := decide_eq_true (by omega)
  have g2 : (s.size : Int) < (t.size : Int) := by omega
  have e : begins s t = false := by
   cases hb : begins s t
   ·rfl
   ·exact absurd (begins_le hb) h
  rw [e] at HR ⊢
  rw [if_neg (by decide)] at HR
  clear e h
  go_enter Tryz.func36, Tryz.ntmps36
  go_wp2_with fail
  go_ret2
  exact ⟨by rw [HR.out]; rfl, rfl⟩
/-- A word that is a register or a number. -/
def opdR (s : ByteArray) (lead : UInt8) : Int × Int × Bool := if 0 ≤ regR s lead then (regR s lead, 0, true) else (0, (numR s).getD 0, false)
set_option maxHeartbeats 2000000 in
theorem operand04_any (s : ByteArray) (lead : UInt8) (hs : s.size ≤ 4611686018427387904) (w : World) :
  Calls Tryz.prog 38 #[.string s, .int .u8 (lead.toNat : Int)] w fun e w' => e = .returned (.tuple #[.int .i64 (opdR s lead).1, .int .i64 (opdR s lead).2.1, .bool (opdR s lead).2.2]) ∧ w = w' := by
 have C1 := Lib.hid (regOf04_any s lead hs w)
 have C2 : Hid (Calls Tryz.prog 27 #[.string s] w fun e w' => e = .returned (.tuple #[.int .i64 ((numR s).getD 0), .bool (numR s).isSome]) ∧ w = w') := number04_any s hs w
 unfold opdR
 generalize regR s lead = r at *
 generalize (numR s).getD 0 = v at *
 generalize (numR s).isSome = bb at *
 by_cases hr : 0 ≤ r
 ·rw [if_pos hr]
  have g1 : decide (0 ≤ r) = true := decide_eq_true hr
  go_enter Tryz.func38, Tryz.ntmps38
  go_wp2_with (go_at_call 34; refine C1.out.mono ?_; rintro e w1 ⟨rfl, rfl⟩)
  go_ret3
  exact ⟨rfl, rfl⟩
 ·rw [if_neg hr]
  have g1 : decide (0 ≤ r) = false := decide_eq_false hr
  have g2 : r < 0 := by omega
  go_enter Tryz.func38, Tryz.ntmps38
  go_wp2_with (first
   | (go_at_call 34; refine C1.out.mono ?_; rintro e w1 ⟨rfl, rfl⟩)
   | (go_at_call 27; refine C2.out.mono ?_; rintro e w1 ⟨rfl, rfl⟩))
  go_ret3
  exact ⟨rfl, rfl⟩
def offR (s : ByteArray) : Int := if begins s ⟨#[43]⟩ = true then (numR (headR s ⟨#[43]⟩)).getD 0 else (numR s).getD 0
set_option maxHeartbeats 2000000 in
theorem offset04_any (s : ByteArray) (hs : s.size ≤ 4611686018427387904) (w : World) :
  Calls Tryz.prog 28 #[.string s] w fun e w' => e = .returned (.int .i64 (offR s)) ∧ w = w' := by
 have C0 := Lib.hid (head04_any s ⟨#[43]⟩ hs (by decide) w)
 have C1 : Hid (Calls Tryz.prog 27 #[.string (headR s ⟨#[43]⟩)] w fun e w' => e = .returned (.tuple #[.int .i64 ((numR (headR s ⟨#[43]⟩)).getD 0), .bool (numR (headR s ⟨#[43]⟩)).isSome]) ∧ w = w') := number04_any _ (Nat.le_trans (headR_le _ _) hs) w
 have C2 : Hid (Calls Tryz.prog 27 #[.string s] w fun e w' => e = .returned (.tuple #[.int .i64 ((numR s).getD 0), .bool (numR s).isSome]) ∧ w = w') := number04_any s hs w
 unfold offR
 generalize (numR (headR s ⟨#[43]⟩)).getD 0 = v1 at *
 generalize (numR (headR s ⟨#[43]⟩)).isSome = b1 at *
 generalize (numR s).getD 0 = v2 at *
 generalize (numR s).isSome = b2 at *
 generalize headR s ⟨#[43]⟩ = hd at *
 generalize begins s ⟨#[43]⟩ = b at *
 cases b
 ·rw [if_neg (by decide)]
  go_enter Tryz.func28, Tryz.ntmps28
  go_wp2_with (first
   | (go_at_call 36; refine C0.out.mono ?_; rintro e w1 ⟨rfl, rfl⟩)
   | (go_at_call 27; refine C2.out.mono ?_; rintro e w1 ⟨rfl, rfl⟩))
  go_ret
  exact ⟨rfl, rfl⟩
 ·rw [if_pos rfl]
  go_enter Tryz.func28, Tryz.ntmps28
  go_wp2_with (first
   | (go_at_call 36; refine C0.out.mono ?_; rintro e w1 ⟨rfl, rfl⟩)
   | (go_at_call 27; refine C1.out.mono ?_; rintro e w1 ⟨rfl, rfl⟩))
  go_ret
  exact ⟨rfl, rfl⟩
def endR (s : ByteArray) : ByteArray := s.extract 0 (s.size - 1)
theorem endR_le (s : ByteArray) : (endR s).size ≤ s.size := by unfold endR; rw [ByteArray.size_extract]; omega
set_option maxHeartbeats 1000000 in
theorem trimEnd04_any (s : ByteArray) (hs : s.size ≤ 4611686018427387904) (w : World) :
  Calls Tryz.prog 87 #[.string s] w fun e w' => e = .returned (.string (endR s)) ∧ w = w' := by
 have hE := eq_nil s
 by_cases h0 : s.size = 0
 ·have e : endR s = s := by
   unfold endR
   apply ByteArray.ext
   rw [ByteArray.data_extract, h0]
   have hd : s.data.size = 0 := h0
   apply Array.ext
   ·simp [hd]
   ·intro i h1 h2; omega
  rw [decide_eq_true h0] at hE
  rw [e]
  clear e h0
  go_enter Tryz.func87, Tryz.ntmps87
  go_wp2_with fail
  go_ret
  exact ⟨rfl, rfl⟩
 ·rw [decide_eq_false h0] at hE
  obtain ⟨q, hq⟩ : ∃ q, s.size - 1 = q := ⟨_, rfl⟩
  have e1 : IntKind.i64.wrap ((s.size : Int) - 1) = (q : Int) := by rw [IntWalk.i64_in _ (by omega)]; omega
  have e2 : (q : Int) ≤ (s.size : Int) := by omega
  have HR : Hid (endR s = s.extract 0 q) := by unfold Hid endR; rw [hq]
  clear hq h0
  go_enter Tryz.func87, Tryz.ntmps87
  go_wp2_with fail
  go_ret
  exact ⟨by rw [HR.out]; rfl, rfl⟩
def isT (s : ByteArray) (l : List UInt8) : Bool := decide (s.data.toList = l)
theorem isT_beq (s : ByteArray) (l : List UInt8) : (s.toList == l) = isT s l := by
 rw [toList_data, Bool.eq_iff_iff]; simp [isT]
def sizesR (s : ByteArray) : Int := if isT s [56] = true then 16 else if isT s [49, 54] = true then 8 else if isT s [51, 50] = true then 0 else if isT s [54, 52] = true then 24 else -1000
set_option maxHeartbeats 2000000 in
theorem sizes04_any (s : ByteArray) (w : World) :
  Calls Tryz.prog 88 #[.string s] w fun e w' => e = .returned (.int .i64 (sizesR s)) ∧ w = w' := by
 have h1 := isT_beq s [56]
 have h2 := isT_beq s [49, 54]
 have h3 := isT_beq s [51, 50]
 have h4 := isT_beq s [54, 52]
 unfold sizesR
 generalize isT s [56] = b1 at *
 generalize isT s [49, 54] = b2 at *
 generalize isT s [51, 50] = b3 at *
 generalize isT s [54, 52] = b4 at *
 cases b1 <;> cases b2 <;> cases b3 <;> cases b4
 all_goals
  simp only [if_true, if_false, Bool.false_eq_true]
  go_enter Tryz.func88, Tryz.ntmps88
  go_wp2_with fail
  go_ret
  exact ⟨rfl, rfl⟩
end Go.Proofs.YtemiklbkfogjeaaGreatDoor
