/-
  Package asm, writing: numbers as texts, registers, offsets. Package asm: a word's number, read rune by rune. Package asm: numbers with a sign, of 16 and of 32 bits. A rune that is no byte by itself: every byte of it is 128 or more, and lies in its text. The words of a line, byte by byte: where a word begins, how many blanks stand behind the last, and what a rune of several bytes does. A range over a string whose rounds make memory: the place that it stands at lies at its own region, and a step writes that region alone.
-/
import Derived.Test.YtpjfnnlopcccaaaDoorQP1
import Derived.Test.YtpjfnnlopcccaaaDoorShelf
import Derived.Lib.ItoaLen
import Derived.Test.YtpjfnnlopcccaaaDoorRows
import Derived.WalkKit
import Derived.Lib.Hide
import Derived.Lib.Strings
import Derived.IntWalk
import Derived.WalkSpells
import Derived.BigQuiet
import Derived.Laws.RangeAny
import Derived.Outline
namespace Go.Proofs.YtpjfnnlopcccaaaDoor
open Go Go.RowKit Go.Maps
set_option linter.unusedVariables false
set_option linter.unusedSimpArgs false
set_option maxRecDepth 100000
abbrev Pow (w : World) : Prop := Lib.TabIs Tryd.prog w "internal/strconv.uint64pow10" .u64 Lib.pow10Tab
theorem var_below {P : Program} {w w' : World} {name : String} {cs : Array Value} (h : w.var? P name = some cs) (hb : Below w.heap.size w w') : w'.var? P name = some cs := by
  unfold World.var? at *
  rw [Option.bind_eq_some_iff] at *
  obtain ⟨g, hg, h⟩ := h
  refine ⟨g, hg, ?_⟩
  have hlt : g < w.heap.size := by
    rcases Nat.lt_or_ge g w.heap.size with hlt | hge
    · exact hlt
    · rw [Array.getElem?_eq_none hge] at h; cases h
  rw [hb.block g hlt]
  exact h
theorem Pow.below {w w' : World} (h : Pow w) (hb : Below w.heap.size w w') : Pow w' := var_below h hb
theorem below_grow (w : World) (k : Nat) (os : Array Obj) : Below w.heap.size w (Sort.grow (w.drewN k) os) := by
  refine ⟨rfl, rfl, rfl, ?_, fun i hi => ?_⟩
  · show w.heap.size ≤ (w.heap ++ os).size
    rw [Array.size_append]; omega
  · show (w.heap ++ os)[i]? = w.heap[i]?
    rw [Array.getElem?_append_left hi]
/-- A number as a text. -/
def dec (n : Int) : ByteArray := bstr (Lib.itoa n)
theorem dec_size (n : Int) (h0 : -9223372036854775808 ≤ n) (h1 : n ≤ 9223372036854775807) : (dec n).size ≤ 21 := by
  unfold dec
  rw [bstr_size]
  exact Lib.itoa_length_le n h0 h1
/-- A text of a call's own; all that was there is as it was. -/
def SaysT (w : World) (s : ByteArray) (e : Ending) (w' : World) : Prop := e = .returned (.string s) ∧ Below w.heap.size w w'
theorem itoa_any (n : Int) (h0 : -9223372036854775808 ≤ n) (h1 : n ≤ 9223372036854775807) (w : World) (hT : Pow w) :
    Calls Tryd.prog 40 #[.int .i64 n] w (SaysT w (dec n)) := by
  refine (Tryd.strconv_Itoa n h0 h1 w hT).mono ?_
  rintro e w' ⟨rfl, k, os, rfl⟩
  exact ⟨rfl, below_grow w k os⟩
/-- A register's name. -/
def regT (p : ByteArray) (n : Int) : ByteArray := p ++ dec n
theorem size_app (a b : ByteArray) : (a ++ b).size = a.size + b.size := ByteArray.size_append
theorem regT_size (p : ByteArray) (n : Int) (h0 : -9223372036854775808 ≤ n) (h1 : n ≤ 9223372036854775807) : (regT p n).size ≤ p.size + 21 := by
  unfold regT
  rw [size_app]
  have := dec_size n h0 h1
  omega
theorem regW_any (p : ByteArray) (hp : p.size ≤ 100) (n : Int) (h0 : -9223372036854775808 ≤ n) (h1 : n ≤ 9223372036854775807) (w : World) (hT : Pow w) :
    Calls Tryd.prog 36 #[.string p, .int .i64 n] w (SaysT w (regT p n)) := by
  have C := Lib.hid (itoa_any n h0 h1 w hT)
  have hd := dec_size n h0 h1
  have b0 : ¬ 9223372036854775807 < p.size + (dec n).size := by omega
  clear hT hd h0 h1 hp
  unfold regT
  generalize dec n = d at *
  go_enter Tryd.func36, Tryd.ntmps36
  go_wp2_with (go_at_call 40; refine C.out.mono ?_; rintro e w1 ⟨rfl, hb⟩; have HB := Lib.hid hb; clear hb)
  go_ret
  exact ⟨rfl, HB.out⟩
/-- What stands ahead of a register of whose lowest bits the sign is taken along. -/
def signT (n : Int) : ByteArray := ⟨#[40, 115]⟩ ++ dec n ++ ⟨#[41]⟩
theorem signT_size (n : Int) (h0 : -9223372036854775808 ≤ n) (h1 : n ≤ 9223372036854775807) : (signT n).size ≤ 24 := by
  unfold signT
  rw [size_app, size_app]
  have := dec_size n h0 h1
  show 2 + _ + 1 ≤ 24
  omega
theorem signOf_any (n : Int) (h0 : -9223372036854775808 ≤ n) (h1 : n ≤ 9223372036854775807) (w : World) (hT : Pow w) :
    Calls Tryd.prog 47 #[.int .i64 n] w (SaysT w (signT n)) := by
  have C := Lib.hid (itoa_any n h0 h1 w hT)
  have hd := dec_size n h0 h1
  have b0 : ¬ 9223372036854775807 < 2 + (dec n).size := by omega
  have b1 : ¬ 9223372036854775807 < 2 + (dec n).size + 1 := by omega
  clear hT hd h0 h1
  unfold signT
  generalize dec n = d at *
  go_enter Tryd.func47, Tryd.ntmps47
  go_wp2_with (go_at_call 40; refine C.out.mono ?_; rintro e w1 ⟨rfl, hb⟩; have HB := Lib.hid hb; clear hb)
  go_ret
  exact ⟨rfl, HB.out⟩
/-- The sign and the size of an offset. -/
def partsT (n : Int) : ByteArray × ByteArray := if n < 0 then (⟨#[45]⟩, dec (-n)) else (⟨#[43]⟩, dec n)
theorem parts_any (n : Int) (h0 : -9223372036854775807 ≤ n) (h1 : n ≤ 9223372036854775807) (w : World) (hT : Pow w) :
    Calls Tryd.prog 69 #[.int .i64 n] w fun e w' => e = .returned (.tuple #[.string (partsT n).1, .string (partsT n).2]) ∧ Below w.heap.size w w' := by
  unfold partsT
  by_cases h : n < 0
  · have C := Lib.hid (itoa_any (-n) (by omega) (by omega) w hT)
    have e1 : IntKind.i64.wrap (-n) = -n := IntWalk.i64_in _ (by omega)
    have b0 : decide (n < 0) = true := decide_eq_true h
    rw [if_pos h]
    clear hT h0 h1 h
    generalize dec (-n) = d at *
    go_enter Tryd.func69, Tryd.ntmps69
    go_wp2_with (go_at_call 40; refine C.out.mono ?_; rintro e w1 ⟨rfl, hb⟩; have HB := Lib.hid hb; clear hb)
    go_ret2
    exact ⟨rfl, HB.out⟩
  · have C := Lib.hid (itoa_any n (by omega) (by omega) w hT)
    have b0 : decide (n < 0) = false := decide_eq_false h
    rw [if_neg h]
    clear hT h0 h1 h
    generalize dec n = d at *
    go_enter Tryd.func69, Tryd.ntmps69
    go_wp2_with (go_at_call 40; refine C.out.mono ?_; rintro e w1 ⟨rfl, hb⟩; have HB := Lib.hid hb; clear hb)
    go_ret2
    exact ⟨rfl, HB.out⟩
theorem partsT_size (n : Int) (h0 : -9223372036854775807 ≤ n) (h1 : n ≤ 9223372036854775807) : (partsT n).1.size ≤ 1 ∧ (partsT n).2.size ≤ 21 := by
  unfold partsT
  by_cases h : n < 0
  · rw [if_pos h]
    exact ⟨Nat.le_refl _, dec_size _ (by omega) (by omega)⟩
  · rw [if_neg h]
    exact ⟨Nat.le_refl _, dec_size _ (by omega) (by omega)⟩
def farT (n : Int) : ByteArray := (partsT n).1 ++ (partsT n).2
theorem farT_size (n : Int) (h0 : -9223372036854775807 ≤ n) (h1 : n ≤ 9223372036854775807) : (farT n).size ≤ 22 := by
  have := partsT_size n h0 h1
  unfold farT
  rw [size_app]
  omega
theorem farW_any (n : Int) (h0 : -9223372036854775807 ≤ n) (h1 : n ≤ 9223372036854775807) (w : World) (hT : Pow w) :
    Calls Tryd.prog 49 #[.int .i64 n] w (SaysT w (farT n)) := by
  have C := Lib.hid (parts_any n h0 h1 w hT)
  have hd := partsT_size n h0 h1
  have b0 : ¬ 9223372036854775807 < (partsT n).1.size + (partsT n).2.size := by omega
  unfold farT
  clear hT hd h0 h1
  generalize (partsT n).1 = a at *
  generalize (partsT n).2 = b at *
  go_enter Tryd.func49, Tryd.ntmps49
  go_wp2_with (go_at_call 69; refine C.out.mono ?_; rintro e w1 ⟨rfl, hb⟩; have HB := Lib.hid hb; clear hb)
  go_ret
  exact ⟨rfl, HB.out⟩
end Go.Proofs.YtpjfnnlopcccaaaDoor
namespace Go.Proofs.YtpjfnnlopcccaaaDoor
open Go Go.RowKit
set_option linter.unusedVariables false
set_option linter.unusedSimpArgs false
set_option maxRecDepth 100000
/-- The number that bytes are, behind n; none: they are none. -/
def digL (most : Nat) : Nat → Bool → List UInt8 → Option Nat
  | n, _, [] => some n
  | n, first, b :: r => if b.toNat < 48 ∨ 57 < b.toNat ∨ (first = false ∧ n = 0) ∨ (most - (b.toNat - 48)) / 10 < n then none else digL most (n * 10 + (b.toNat - 48)) false r
def digS (most : Nat) (s : ByteArray) : Option Nat := digL most 0 true s.data.toList
theorem digL_no {most n : Nat} {first : Bool} {b : UInt8} {r : List UInt8} (h : b.toNat < 48 ∨ 57 < b.toNat ∨ (first = false ∧ n = 0) ∨ (most - (b.toNat - 48)) / 10 < n) : digL most n first (b :: r) = none := by rw [digL, if_pos h]
theorem digL_yes {most n : Nat} {first : Bool} {b : UInt8} {r : List UInt8} (h : ¬ (b.toNat < 48 ∨ 57 < b.toNat ∨ (first = false ∧ n = 0) ∨ (most - (b.toNat - 48)) / 10 < n)) : digL most n first (b :: r) = digL most (n * 10 + (b.toNat - 48)) false r := by rw [digL, if_neg h]
theorem drop_cons {s : ByteArray} {pos : Nat} (h : pos < s.size) : s.data.toList.drop pos = (s[pos]'h) :: s.data.toList.drop (pos + 1) := by
  rw [List.drop_eq_getElem_cons (by rw [← Lib.size_eq]; exact h)]
  rfl
def digA (s : ByteArray) (o : Option Nat) : Ending := .returned (.tuple #[.int .u64 ((o.getD 0 : Nat) : Int), .bool (o.isSome && !s.toList.isEmpty)])
set_option maxHeartbeats 2000000 in
theorem digits_any (s : ByteArray) (most : Nat) (h9 : 9 ≤ most) (hm : most ≤ 18446744073709551615) (w : World) :
    Calls Tryd.prog 53 #[.string s, .int .u64 most] w fun e w' => e = digA s (digS most s) ∧ ∃ pos, w' = w.iter s pos := by
  go_enter Tryd.func53, Tryd.ntmps53
  go_wp2
  go_loopw [6, 7, 8, 9] (fun n _ _ _ wr => ∃ (pos m : Nat), wr = w.iter s pos ∧ n = .int .u64 m ∧ pos ≤ s.size ∧ m ≤ most ∧ digL most m (pos == 0) (s.data.toList.drop pos) = digS most s) (fun _ _ _ _ wr => s.size - wr.iterPos w.heap.size)
  case atStart => exact ⟨0, 0, rfl, rfl, Nat.zero_le _, Nat.zero_le _, by rw [List.drop_zero]; rfl⟩
  case round =>
    obtain ⟨pos, m, rfl, rfl, hp0, hmm, hd⟩ := hrel
    have HD := Lib.hid hd
    clear hd
    by_cases hp : pos < s.size
    · have hnx : ∀ ty, (Instr.next (.pointer (some ⟨w.heap.size, 0, none⟩)) true ty).run Tryd.prog (w.iter s pos) = _ := fun ty => run_next_any w s pos ty hp
      have HDC := Lib.hid (drop_cons hp)
      rw [HDC.out] at HD
      by_cases ha : 128 ≤ (s[pos]'hp).toNat
      · obtain ⟨r1, r2⟩ := decode_high s pos hp ha
        have r3 := decode_le s pos
        have HX : Hid (digS most s = none) := by rw [← HD.out]; exact digL_no (.inr (.inl (by omega)))
        generalize Utf8.decode s pos = dc at *
        obtain ⟨rn, wd⟩ := dc
        have b1 : decide (rn < 48) = false := decide_eq_false (by have : 128 ≤ rn := r1; omega)
        have b2 : decide (57 < rn) = true := decide_eq_true (by have : 128 ≤ rn := r1; omega)
        have i1 : ¬ (rn : Int) < 48 := by have : 128 ≤ rn := r1; omega
        have i2 : (57 : Int) < (rn : Int) := by have : 128 ≤ rn := r1; omega
        clear HD HDC r1 r2 r3 ha hp hp0 hmm
        go_wp2_with fail
        go_ret2
        exact ⟨by rw [HX.out]; rfl, _, rfl⟩
      · have hda := decode_ascii s pos hp (by omega)
        rw [hda] at hnx
        have hu := (s[pos]'hp).toNat_lt
        generalize hus : (s[pos]'hp) = u at *
        have HPS := Lib.hid (And.intro hp (And.intro hp0 hmm))
        clear hda hus
        have hnx' : ∀ ty, (Instr.next (.pointer (some ⟨w.heap.size, 0, none⟩)) true ty).run Tryd.prog (w.iter s pos) = .ok (.tuple #[.bool true, .int .i64 pos, .int .i32 (u.toNat : Int)]) (w.iter s (pos + 1)) := hnx
        clear hnx
        by_cases c1 : u.toNat < 48
        · have HX : Hid (digS most s = none) := by rw [← HD.out]; exact digL_no (.inl c1)
          have b1 : decide (u.toNat < 48) = true := decide_eq_true c1
          have i1 : (u.toNat : Int) < 48 := by omega
          clear HD HDC c1 hu ha hp hp0 hmm
          go_wp2_with fail
          go_ret2
          exact ⟨by rw [HX.out]; rfl, _, rfl⟩
        have b1 : decide (u.toNat < 48) = false := decide_eq_false c1
        have i1 : ¬ (u.toNat : Int) < 48 := by omega
        by_cases c2 : 57 < u.toNat
        · have HX : Hid (digS most s = none) := by rw [← HD.out]; exact digL_no (.inr (.inl c2))
          have b2 : decide (57 < u.toNat) = true := decide_eq_true c2
          have i2 : (57 : Int) < (u.toNat : Int) := by omega
          clear HD HDC c1 c2 hu ha hp hp0 hmm
          go_wp2_with fail
          go_ret2
          exact ⟨by rw [HX.out]; rfl, _, rfl⟩
        have b2 : decide (57 < u.toNat) = false := decide_eq_false c2
        have i2 : ¬ (57 : Int) < (u.toNat : Int) := by omega
        obtain ⟨d, hd⟩ : ∃ d, u.toNat - 48 = d := ⟨_, rfl⟩
        have e1 : IntKind.i32.wrap ((u.toNat : Int) - 48) = (d : Int) := by rw [IntWalk.i32_in _ (by omega)]; omega
        have e2 : IntKind.u64.wrap (d : Int) = (d : Int) := IntWalk.u64_in _ (by omega)
        obtain ⟨q, hq⟩ : ∃ q, most - d = q := ⟨_, rfl⟩
        have e3 : IntKind.u64.wrap ((most : Int) - (d : Int)) = (q : Int) := by rw [IntWalk.u64_in _ (by omega)]; omega
        obtain ⟨z, hz⟩ : ∃ z, q / 10 = z := ⟨_, rfl⟩
        have e4 : Int.tdiv (q : Int) 10 = (z : Int) := by rw [Int.tdiv_eq_ediv_of_nonneg (by omega)]; omega
        have e4' : (q : Int) / 10 = (z : Int) := by omega
        have e7 : IntKind.u64.wrap (z : Int) = (z : Int) := IntWalk.u64_in _ (by omega)
        have HL : Hid (∀ first r, digL most m first (u :: r) = if (first = false ∧ m = 0) ∨ z < m then none else digL most (m * 10 + d) false r) := by
          intro first r
          by_cases hc : (first = false ∧ m = 0) ∨ z < m
          · rw [if_pos hc]
            rcases hc with hc | hc
            · exact digL_no (.inr (.inr (.inl hc)))
            · exact digL_no (.inr (.inr (.inr (by rw [hd, hq, hz]; exact hc))))
          · rw [if_neg hc, digL_yes, hd]
            rintro (h1 | h1 | h1 | h1)
            · exact c1 h1
            · exact c2 h1
            · exact hc (.inl h1)
            · rw [hd, hq, hz] at h1; exact hc (.inr h1)
        have HZ : Hid (z * 10 + d ≤ most) := by unfold Hid; omega
        clear c1 c2 hu ha
        have go : (0 < pos ∧ m = 0) ∨ (¬ (0 < pos ∧ m = 0) ∧ z < m) ∨ (¬ (0 < pos ∧ m = 0) ∧ ¬ z < m) := by omega
        have hcl : True := trivial
        clear hd hq hz
        rcases go with ⟨h1, rfl⟩ | ⟨h1, h2⟩ | ⟨h1, h2⟩
        · have HX : Hid (digS most s = none) := by unfold Hid; rw [← HD.out, HL.out, if_pos (.inl ⟨by simp; omega, rfl⟩)]
          have b3 : decide (0 < pos) = true := decide_eq_true h1
          have i3 : (0 : Int) < (pos : Int) := by omega
          clear HD HDC HL h1 hp hp0 hmm
          go_wp2_with fail
          go_ret2
          exact ⟨by rw [HX.out]; rfl, _, rfl⟩
        · have HX : Hid (digS most s = none) := by unfold Hid; rw [← HD.out, HL.out, if_pos (.inr h2)]
          have b4 : decide (z < m) = true := decide_eq_true h2
          have i4 : (z : Int) < (m : Int) := by omega
          have hw : (decide (0 < pos) = false ∧ ¬ (0 : Int) < (pos : Int)) ∨ (decide (0 < pos) = true ∧ (0 : Int) < (pos : Int) ∧ (m == 0) = false ∧ ((m : Int) == 0) = false) := by
            by_cases h : 0 < pos
            · exact .inr ⟨decide_eq_true h, by omega, by simp; omega, by simp; omega⟩
            · exact .inl ⟨decide_eq_false h, by omega⟩
          clear HD HDC HL h1 h2 hp hp0 hmm
          rcases hw with ⟨b3, i3⟩ | ⟨b3, i3, b5, i5⟩
          · go_wp2_with fail
            go_ret2
            exact ⟨by rw [HX.out]; rfl, _, rfl⟩
          · go_wp2_with fail
            go_ret2
            exact ⟨by rw [HX.out]; rfl, _, rfl⟩
        · have HX : Hid (digL most (m * 10 + d) false (s.data.toList.drop (pos + 1)) = digS most s) := by
            have hc : ¬ (((pos == 0) = false ∧ m = 0) ∨ z < m) := by
              rintro (⟨h3, h4⟩ | h3)
              · exact h1 ⟨by simp at h3; omega, h4⟩
              · exact h2 h3
            unfold Hid
            rw [← HD.out, HL.out, if_neg hc]
          have b4 : decide (z < m) = false := decide_eq_false h2
          have i4 : ¬ (z : Int) < (m : Int) := by omega
          have e5 : IntKind.u64.wrap ((m : Int) * 10) = ((m * 10 : Nat) : Int) := by have := HZ.out; rw [IntWalk.u64_in _ (by omega)]; omega
          have e6 : IntKind.u64.wrap (((m * 10 : Nat) : Int) + (d : Int)) = ((m * 10 + d : Nat) : Int) := by have := HZ.out; rw [IntWalk.u64_in _ (by omega)]; omega
          have HB : Hid (m * 10 + d ≤ most) := by have := HZ.out; unfold Hid; omega
          have hw : (decide (0 < pos) = false ∧ ¬ (0 : Int) < (pos : Int)) ∨ (decide (0 < pos) = true ∧ (0 : Int) < (pos : Int) ∧ (m == 0) = false ∧ ((m : Int) == 0) = false) := by
            by_cases h : 0 < pos
            · exact .inr ⟨decide_eq_true h, by omega, by simp; omega, by simp; omega⟩
            · exact .inl ⟨decide_eq_false h, by omega⟩
          generalize m * 10 = m10 at *
          clear HD HDC HL h1 h2 hp hp0 hmm
          rcases hw with ⟨b3, i3⟩ | ⟨b3, i3, b5, i5⟩
          · go_wp2_with fail
            go_roundw
            case rel => exact ⟨pos + 1, m10 + d, rfl, rfl, HPS.out.1, HB.out, HX.out⟩
            case measure => simp; have := HPS.out.1; omega
          · go_wp2_with fail
            go_roundw
            case rel => exact ⟨pos + 1, m10 + d, rfl, rfl, HPS.out.1, HB.out, HX.out⟩
            case measure => simp; have := HPS.out.1; omega
    · have hnx : ∀ ty, (Instr.next (.pointer (some ⟨w.heap.size, 0, none⟩)) true ty).run Tryd.prog (w.iter s pos) = _ := fun ty => run_next_end w s pos ty hp
      have HX : Hid (digS most s = some m) := by
        rw [← HD.out, List.drop_of_length_le (by rw [← Lib.size_eq]; omega)]
        rfl
      clear HD hp hp0 hmm
      go_wp2_with fail
      go_ret2
      exact ⟨by rw [HX.out]; rfl, _, rfl⟩
end Go.Proofs.YtpjfnnlopcccaaaDoor
namespace Go.Proofs.YtpjfnnlopcccaaaDoor
open Go Go.RowKit
set_option linter.unusedVariables false
set_option linter.unusedSimpArgs false
set_option maxRecDepth 100000
def mostOf (below : Bool) (bits : Nat) : Nat := if below then 2 ^ (bits - 1) else 2 ^ (bits - 1) - 1
/-- The number that a word is; none: it is none. -/
def digN (most : Nat) (s : ByteArray) : Option Nat := if s.size = 0 then none else digS most s
def signS (below : Bool) (s : ByteArray) (bits : Nat) : Option Int := (digN (mostOf below bits) s).bind fun n => if below = true ∧ n = 0 then none else some (if below then -(n : Int) else n)
def signA (o : Option Int) : Ending := .returned (.tuple #[.int .i64 (o.getD 0), .bool o.isSome])
theorem digL_le {most : Nat} (h9 : 9 ≤ most) : ∀ {l : List UInt8} {n m : Nat} {first : Bool}, n ≤ most → digL most n first l = some m → m ≤ most
  | [], n, m, _, hn, h => by unfold digL at h; cases h; exact hn
  | b :: r, n, m, first, hn, h => by
    unfold digL at h
    split at h
    · cases h
    · rename_i hc
      exact digL_le h9 (by omega) h
theorem digN_le {most m : Nat} {s : ByteArray} (h9 : 9 ≤ most) (h : digN most s = some m) : m ≤ most := by
  unfold digN at h
  split at h
  · cases h
  · exact digL_le h9 (Nat.zero_le _) h
theorem isEmpty_size (s : ByteArray) : s.toList.isEmpty = decide (s.size = 0) := by
  rw [Lib.toList_data, Lib.size_eq]
  cases s.data.toList <;> simp
/-- What digits answers, as a number or none. -/
theorem digA_eq (most : Nat) (s : ByteArray) : ∃ n : Nat, digA s (digS most s) = .returned (.tuple #[.int .u64 (n : Int), .bool (digN most s).isSome]) ∧ ∀ m, digN most s = some m → m = n := by
  refine ⟨(digS most s).getD 0, ?_, fun m hm => ?_⟩
  · unfold digA digN
    rw [isEmpty_size]
    by_cases h : s.size = 0
    · rw [if_pos h, decide_eq_true h]; simp
    · rw [if_neg h, decide_eq_false h]; simp
  · unfold digN at hm
    split at hm
    · cases hm
    · rw [hm]; rfl
set_option maxHeartbeats 2000000 in
theorem signed_any (below : Bool) (s : ByteArray) (bits : Nat) (hb : bits = 16 ∨ bits = 32) (w : World) :
    Calls Tryd.prog 90 #[.bool below, .string s, .int .i64 bits] w fun e w' => e = signA (signS below s bits) ∧ ∃ pos, w' = w.iter s pos := by
  have hmost : 9 ≤ mostOf below bits ∧ mostOf below bits ≤ 2147483648 := by
    rcases hb with rfl | rfl <;> cases below <;> decide
  have CD := digits_any s (mostOf below bits) hmost.1 (by omega) w
  obtain ⟨n, en, hn⟩ := digA_eq (mostOf below bits) s
  rw [en] at CD
  have hnle : ∀ m, digN (mostOf below bits) s = some m → n ≤ 2147483648 := fun m hm => by
    have h1 := hn m hm
    have h2 := digN_le hmost.1 hm
    omega
  have HC : Hid (Calls Tryd.prog 53 #[.string s, .int .u64 (mostOf below bits)] w fun e w' => e = .returned (.tuple #[.int .u64 (n : Int), .bool (digN (mostOf below bits) s).isSome]) ∧ ∃ pos, w' = w.iter s pos) := CD
  have HS : Hid (signS below s bits = (digN (mostOf below bits) s).bind fun n => if below = true ∧ n = 0 then none else some (if below then -(n : Int) else n)) := rfl
  clear CD en
  have hways : digN (mostOf below bits) s = none ∨ (digN (mostOf below bits) s = some n ∧ n ≤ 2147483648) := by
    rcases h : digN (mostOf below bits) s with _ | m
    · exact .inl rfl
    · exact .inr ⟨by rw [← hn m h], hnle m h⟩
  clear hn hnle hmost
  have e16 : mostOf false 16 = 32767 := by decide
  have e16' : mostOf true 16 = 32768 := by decide
  have e32 : mostOf false 32 = 2147483647 := by decide
  have e32' : mostOf true 32 = 2147483648 := by decide
  rcases hb with rfl | rfl <;> cases below
  all_goals first
    | rw [e16] at HC HS hways
    | rw [e16'] at HC HS hways
    | rw [e32] at HC HS hways
    | rw [e32'] at HC HS hways
  all_goals clear e16 e16' e32 e32'
  all_goals
    rcases hways with hd | ⟨hd, hle⟩
    all_goals rw [hd] at HC HS
    all_goals clear hd
  all_goals try (
    have HX : Hid (signS _ s _ = none) := HS.out
    clear HS
    go_enter Tryd.func90, Tryd.ntmps90
    go_wp2_with (go_at_call 53; refine HC.out.mono ?_; rintro e w1 ⟨rfl, pos, rfl⟩)
    go_ret2
    exact ⟨by rw [HX.out]; rfl, _, rfl⟩)
  all_goals
    have e9 : IntKind.i64.wrap (n : Int) = (n : Int) := IntWalk.i64_in _ (by omega)
    have e8 : IntKind.i64.wrap (-(n : Int)) = -(n : Int) := IntWalk.i64_in _ (by omega)
  all_goals
    go_enter Tryd.func90, Tryd.ntmps90
    go_wp2_with (go_at_call 53; refine HC.out.mono ?_; rintro e w1 ⟨rfl, pos, rfl⟩)
  all_goals go_ret2
  all_goals refine ⟨?_, _, rfl⟩
  all_goals rw [HS.out]
  all_goals unfold signA
  all_goals first
    | rfl
    | (have hz := ‹(((n : Nat) : Int) == 0) = false›
       have h0 : n ≠ 0 := fun h => by rw [h] at hz; cases hz
       simp [h0])
    | (have hz := ‹(((n : Nat) : Int) == 0) = true›
       have h0 : n = 0 := by have := eq_of_beq hz; omega
       simp [h0])
    | simp
end Go.Proofs.YtpjfnnlopcccaaaDoor
namespace Go.Proofs.YtpjfnnlopcccaaaDoor
open Go Go.RowKit
set_option linter.unusedVariables false
set_option linter.unusedSimpArgs false
theorem get_at' (s : ByteArray) (i : Nat) (h : i < s.size) : s.get! i = s[i]'h := by
  simp [ByteArray.get!, getElem!_pos, h]
  rfl
theorem high_bytes (s : ByteArray) (pos : Nat) (h : pos < s.size) (ha : 128 ≤ (s[pos]'h).toNat) : ∀ j, j < (Utf8.decode s pos).2 → pos + j < s.size ∧ 128 ≤ (s.get! (pos + j)).toNat := by
  have hg : 128 ≤ (s.get! (pos + 0)).toNat := by rw [Nat.add_zero, get_at' s pos h]; exact ha
  have hc : ∀ k, (decide (pos + k < s.size) && (s.get! (pos + k)).toNat / 64 == 2) = true → pos + k < s.size ∧ 128 ≤ (s.get! (pos + k)).toNat := by
    intro k hk
    rw [Bool.and_eq_true, decide_eq_true_eq, beq_iff_eq] at hk
    exact ⟨hk.1, by omega⟩
  have hz : pos + 0 < s.size ∧ 128 ≤ (s.get! (pos + 0)).toNat := ⟨h, hg⟩
  have h1 := hc 1
  have h2 := hc 2
  have h3 := hc 3
  unfold Utf8.decode
  simp only
  intro j
  repeat' split
  all_goals intro hj
  all_goals simp only at hj
  all_goals simp only [Bool.and_eq_true] at *
  all_goals
    first
      | (have : j = 0 := by omega
         subst this; exact hz)
      | (have : j = 0 ∨ j = 1 := by omega
         rcases this with rfl | rfl
         · exact hz
         · exact h1 (by simp_all))
      | (have : j = 0 ∨ j = 1 ∨ j = 2 := by omega
         rcases this with rfl | rfl | rfl
         · exact hz
         · exact h1 (by simp_all)
         · exact h2 (by simp_all))
      | (have : j = 0 ∨ j = 1 ∨ j = 2 ∨ j = 3 := by omega
         rcases this with rfl | rfl | rfl | rfl
         · exact hz
         · exact h1 (by simp_all)
         · exact h2 (by simp_all)
         · exact h3 (by simp_all))
end Go.Proofs.YtpjfnnlopcccaaaDoor
namespace Go.Proofs.YtpjfnnlopcccaaaDoor
open Go Go.RowKit
set_option linter.unusedVariables false
set_option linter.unusedSimpArgs false
/-- Words that were read, where one begins that is being read, blanks behind the last. -/
def wordsL (s : ByteArray) : List UInt8 → Nat → List ByteArray → Option Nat → Nat → Option (List ByteArray)
  | [], _, ws, none, _ => some ws
  | [], _, ws, some f, _ => some (ws ++ [s.extract f s.size])
  | b :: r, at', ws, some f, gap => if b.toNat = 32 then wordsL s r (at' + 1) (ws ++ [s.extract f at']) none 1 else wordsL s r (at' + 1) ws (some f) gap
  | b :: r, at', ws, none, gap =>
    if b.toNat = 32 then wordsL s r (at' + 1) ws none (gap + 1)
    else if ws.length = 8 ∨ (0 < ws.length ∧ 1 < gap) then none
    else wordsL s r (at' + 1) ws (some at') gap
/-- From a place on. -/
def wordsAt (s : ByteArray) (at' : Nat) (ws : List ByteArray) (from' : Option Nat) (gap : Nat) : Option (List ByteArray) := wordsL s (s.data.toList.drop at') at' ws from' gap
def wordsS (s : ByteArray) : Option (List ByteArray) := wordsAt s 0 [] none 0
theorem wordsAt_end {s : ByteArray} {ws : List ByteArray} {from' : Option Nat} {gap at' : Nat} (h : s.size ≤ at') :
    wordsAt s at' ws from' gap = some (match (from' : Option Nat) with | none => ws | some f => ws ++ [s.extract f s.size]) := by
  unfold wordsAt
  rw [List.drop_eq_nil_of_le (by rw [← Lib.size_eq]; exact h)]
  cases from' <;> rfl
theorem wordsAt_blank_in {s : ByteArray} {ws : List ByteArray} {f gap at' : Nat} (h : at' < s.size) (hb : (s[at']'h).toNat = 32) :
    wordsAt s at' ws (some f) gap = wordsAt s (at' + 1) (ws ++ [s.extract f at']) none 1 := by
  unfold wordsAt
  rw [drop_cons h, wordsL, if_pos hb]
theorem wordsAt_in {s : ByteArray} {ws : List ByteArray} {f gap at' : Nat} (h : at' < s.size) (hb : (s[at']'h).toNat ≠ 32) :
    wordsAt s at' ws (some f) gap = wordsAt s (at' + 1) ws (some f) gap := by
  unfold wordsAt
  rw [drop_cons h, wordsL, if_neg hb]
theorem wordsAt_blank {s : ByteArray} {ws : List ByteArray} {gap at' : Nat} (h : at' < s.size) (hb : (s[at']'h).toNat = 32) :
    wordsAt s at' ws none gap = wordsAt s (at' + 1) ws none (gap + 1) := by
  unfold wordsAt
  rw [drop_cons h, wordsL, if_pos hb]
theorem wordsAt_no {s : ByteArray} {ws : List ByteArray} {gap at' : Nat} (h : at' < s.size) (hb : (s[at']'h).toNat ≠ 32) (hm : ws.length = 8 ∨ (0 < ws.length ∧ 1 < gap)) :
    wordsAt s at' ws none gap = none := by
  unfold wordsAt
  rw [drop_cons h, wordsL, if_neg hb, if_pos hm]
theorem wordsAt_new {s : ByteArray} {ws : List ByteArray} {gap at' : Nat} (h : at' < s.size) (hb : (s[at']'h).toNat ≠ 32) (hm : ¬ (ws.length = 8 ∨ (0 < ws.length ∧ 1 < gap))) :
    wordsAt s at' ws none gap = wordsAt s (at' + 1) ws (some at') gap := by
  unfold wordsAt
  rw [drop_cons h, wordsL, if_neg hb, if_neg hm]
/-- The bytes of a rune that is being read end no word. -/
theorem wordsAt_skip {s : ByteArray} {ws : List ByteArray} {f gap at' : Nat} : ∀ {k : Nat}, (∀ j, j < k → at' + j < s.size ∧ 128 ≤ (s.get! (at' + j)).toNat) →
    wordsAt s at' ws (some f) gap = wordsAt s (at' + k) ws (some f) gap
  | 0, _ => rfl
  | k + 1, h => by
    rw [wordsAt_skip (k := k) fun j hj => h j (by omega)]
    obtain ⟨h1, h2⟩ := h k (by omega)
    rw [get_at' s _ h1] at h2
    exact wordsAt_in h1 (by omega)
theorem wordsAt_rune_in {s : ByteArray} {ws : List ByteArray} {f gap at' : Nat} (h : at' < s.size) (ha : 128 ≤ (s[at']'h).toNat) :
    wordsAt s at' ws (some f) gap = wordsAt s (at' + (Utf8.decode s at').2) ws (some f) gap := wordsAt_skip (high_bytes s at' h ha)
theorem wordsAt_rune_new {s : ByteArray} {ws : List ByteArray} {gap at' : Nat} (h : at' < s.size) (ha : 128 ≤ (s[at']'h).toNat) (hm : ¬ (ws.length = 8 ∨ (0 < ws.length ∧ 1 < gap))) :
    wordsAt s at' ws none gap = wordsAt s (at' + (Utf8.decode s at').2) ws (some at') gap := by
  have h1 := (decode_high s at' h ha).2
  have hs := high_bytes s at' h ha
  rw [wordsAt_new h (by omega) hm]
  have e : at' + (Utf8.decode s at').2 = (at' + 1) + ((Utf8.decode s at').2 - 1) := by omega
  rw [e]
  exact wordsAt_skip fun j hj => by
    have := hs (j + 1) (by omega)
    rw [show at' + 1 + j = at' + (j + 1) by omega]
    exact this
theorem wordsAt_rune_le {s : ByteArray} {at' : Nat} (h : at' < s.size) : at' + (Utf8.decode s at').2 ≤ s.size := by
  by_cases ha : 128 ≤ (s[at']'h).toNat
  · have h1 := (decode_high s at' h ha).2
    have := (high_bytes s at' h ha ((Utf8.decode s at').2 - 1) (by omega)).1
    omega
  · rw [decode_ascii s at' h (by omega)]
    exact h
/-- No more than eight words are read. -/
theorem wordsL_le {s : ByteArray} : ∀ {l : List UInt8} {at' gap : Nat} {ws : List ByteArray} {from' : Option Nat} {o : List ByteArray},
    ws.length + (if from'.isSome then 1 else 0) ≤ 8 → wordsL s l at' ws from' gap = some o → o.length ≤ 8
  | [], at', gap, ws, none, o, h, e => by
    rw [wordsL] at e; cases e; simpa using h
  | [], at', gap, ws, some f, o, h, e => by
    rw [wordsL] at e; cases e; simpa using h
  | b :: r, at', gap, ws, some f, o, h, e => by
    rw [wordsL] at e
    split at e
    · exact wordsL_le (by simpa using h) e
    · exact wordsL_le h e
  | b :: r, at', gap, ws, none, o, h, e => by
    rw [wordsL] at e
    split at e
    · exact wordsL_le h e
    · split at e
      · cases e
      · rename_i hm
        refine wordsL_le ?_ e
        have h' : ws.length ≤ 8 := by simpa using h
        show ws.length + 1 ≤ 8
        omega
theorem wordsS_le {s : ByteArray} {o : List ByteArray} (h : wordsS s = some o) : o.length ≤ 8 := wordsL_le (by decide) h
end Go.Proofs.YtpjfnnlopcccaaaDoor
namespace Go.Proofs.YtpjfnnlopcccaaaDoor
open Go Go.RowKit
set_option linter.unusedVariables false
set_option linter.unusedSimpArgs false
/-- The world with the iterator at a further place. -/
def stepTo (w : World) (k : Nat) (s : ByteArray) (pos : Nat) : World := { w with heap := w.heap.setIfInBounds k (.stringIter s pos) }
theorem stepTo_at {w : World} {k : Nat} {s : ByteArray} {pos : Nat} (h : k < w.heap.size) : (stepTo w k s pos).heap[k]? = some (.stringIter s pos) := by
  unfold stepTo
  simp [Array.getElem?_setIfInBounds, h]
theorem stepTo_other {w : World} {k j : Nat} {s : ByteArray} {pos : Nat} (h : j ≠ k) : (stepTo w k s pos).heap[j]? = w.heap[j]? := by
  unfold stepTo
  rw [Array.getElem?_setIfInBounds, if_neg (Ne.symm h)]
theorem stepTo_size {w : World} {k : Nat} {s : ByteArray} {pos : Nat} : (stepTo w k s pos).heap.size = w.heap.size := by
  unfold stepTo
  simp
theorem run_next_at {P : Program} {w : World} {k : Nat} {s : ByteArray} {pos : Nat} (hk : w.heap[k]? = some (.stringIter s pos)) (ty : TypeId) (h : pos < s.size) :
    (Instr.next (.pointer (some ⟨k, 0, none⟩)) true ty).run P w = .ok (.tuple #[.bool true, .int .i64 pos, .int .i32 (Utf8.decode s pos).1]) (stepTo w k s (pos + (Utf8.decode s pos).2)) := by
  simp only [Instr.next, getObj, setObj, Sem.run_bind, Sem.run, hk, Result.andThen, h, if_true]
  simp [goInt, stepTo]
theorem run_next_over {P : Program} {w : World} {k : Nat} {s : ByteArray} {pos : Nat} (hk : w.heap[k]? = some (.stringIter s pos)) (ty : TypeId) (h : ¬ pos < s.size) :
    (Instr.next (.pointer (some ⟨k, 0, none⟩)) true ty).run P w = .ok (.tuple #[.bool false]) w := by
  simp [Instr.next, getObj, Sem.run, hk, h]
end Go.Proofs.YtpjfnnlopcccaaaDoor
