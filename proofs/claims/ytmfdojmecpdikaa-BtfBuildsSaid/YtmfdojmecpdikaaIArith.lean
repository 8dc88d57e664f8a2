/-
  Numbers of insn: bytes of a number, bits of signed kinds.
-/
import Derived.Test.YtmfdojmecpdikaaRows
import Derived.Laws.BitsLemmas
import Derived.Laws.Bits64b
import Derived.WalkKit
namespace Go.Proofs.Ytmfdojmecpdikaa
open Go Go.RowKit
set_option linter.unusedVariables false
/-- x and X are the same modulo the kind's width. -/
def IsRep (k : IntKind) (x : Int) (X : Nat) : Prop := BitVec.ofInt k.bits x = BitVec.ofNat k.bits X
theorem rep_nat (k : IntKind) (X : Nat) : IsRep k (X : Int) X := BitVec.ofInt_natCast _ _
theorem rep_of (k : IntKind) {x : Int} {X : Nat} (h : x = (X : Int)) : IsRep k x X := by rw [h]; exact rep_nat k X
theorem rep_mod64 (x : Int) : IsRep .i64 x (x % 18446744073709551616).toNat := by
  unfold IsRep
  apply BitVec.eq_of_toNat_eq
  simp [IntKind.bits, BitVec.toNat_ofInt]
  omega
theorem rep_wrap (k : IntKind) {x : Int} {X : Nat} (h : IsRep k x X) : IsRep k (k.wrap x) X := by
  unfold IsRep at h ⊢
  rw [← h]
  apply BitVec.eq_of_toInt_eq
  simp only [BitVec.toInt_ofInt]
  cases k <;> simp [IntKind.wrap, IntKind.bits, IntKind.signed, Int.bmod] <;> split <;> omega
theorem rep_or (k : IntKind) {x y : Int} {X Y : Nat} (h : IsRep k x X) (g : IsRep k y Y) : IsRep k (bits .or k x y) (X ||| Y) := by
  unfold IsRep at h g
  simp only [bits, h, g]
  refine rep_wrap k (X := X ||| Y) ?_
  unfold IsRep
  rw [BitVec.ofInt_natCast]
  apply BitVec.eq_of_toNat_eq
  simp [BitVec.toNat_ofNat]
theorem rep_and (k : IntKind) {x y : Int} {X Y : Nat} (h : IsRep k x X) (g : IsRep k y Y) : IsRep k (bits .and k x y) (X &&& Y) := by
  unfold IsRep at h g
  simp only [bits, h, g]
  refine rep_wrap k (X := X &&& Y) ?_
  unfold IsRep
  rw [BitVec.ofInt_natCast]
  apply BitVec.eq_of_toNat_eq
  simp [BitVec.toNat_ofNat]
/-- Two numbers of a kind with one representative are one. -/
theorem rep_eq (k : IntKind) {x y : Int} {X : Nat} (h : IsRep k x X) (g : IsRep k y X) (hx : k.wrap x = x) (hy : k.wrap y = y) : x = y := by
  have e : (BitVec.ofInt k.bits x).toNat = (BitVec.ofInt k.bits y).toNat := by rw [show BitVec.ofInt k.bits x = BitVec.ofInt k.bits y from Eq.trans h (Eq.symm g)]
  simp only [BitVec.toNat_ofInt] at e
  have hp : (0 : Int) < ((2 ^ k.bits : Nat) : Int) := by exact_mod_cast Nat.two_pow_pos k.bits
  have h1 := Int.emod_nonneg x (show ((2 ^ k.bits : Nat) : Int) ≠ 0 by omega)
  have h2 := Int.emod_nonneg y (show ((2 ^ k.bits : Nat) : Int) ≠ 0 by omega)
  have hm : x % ((2 ^ k.bits : Nat) : Int) = y % ((2 ^ k.bits : Nat) : Int) := by omega
  have hm' : x % (2 : Int) ^ k.bits = y % (2 : Int) ^ k.bits := by simpa using hm
  calc x = k.wrap x := hx.symm
    _ = k.wrap y := by unfold IntKind.wrap; rw [hm']
    _ = y := hy
theorem or_add (a b i : Nat) (h : a < 2 ^ i) : a ||| b * 2 ^ i = a + b * 2 ^ i := by
  rw [Nat.or_comm, Nat.mul_comm, Nat.add_comm]
  exact (Nat.two_pow_add_eq_or_of_lt h b).symm
theorem wrap_idem (k : IntKind) (x : Int) : k.wrap (k.wrap x) = k.wrap x := by
  cases k <;> simp [IntKind.wrap, IntKind.bits, IntKind.signed] <;> split <;> (try split) <;> omega
theorem bits_wrapped (op : BinOp) (k : IntKind) (a b : Int) (h : op = .or ∨ op = .and) : k.wrap (bits op k a b) = bits op k a b := by
  rcases h with rfl | rfl <;> exact wrap_idem k _
theorem and_i64 (a : Int) (i : Nat) (hi : i ≤ 62) : bits .and .i64 a ((2 : Int) ^ i - 1) = a % 2 ^ i := by
  have hpos : 0 < 2 ^ i := Nat.two_pow_pos i
  have h62 : 2 ^ i ≤ 2 ^ 62 := Nat.pow_le_pow_right (by decide) hi
  have hm : ((2 : Int) ^ i - 1) = ((2 ^ i - 1 : Nat) : Int) := by rw [Int.natCast_sub hpos]; simp
  have h1 := rep_and .i64 (rep_mod64 a) (rep_of .i64 hm)
  rw [Nat.and_two_pow_sub_one_eq_mod] at h1
  have e : (((a % 18446744073709551616).toNat % 2 ^ i : Nat) : Int) = a % 2 ^ i := by
    rw [Int.natCast_emod, Int.toNat_of_nonneg (by omega)]
    have : ((2 : Int) ^ i) ∣ 18446744073709551616 := ⟨2 ^ (64 - i), by
      rw [← Int.pow_add, show i + (64 - i) = 64 by omega]; rfl⟩
    have h3 := Int.emod_emod_of_dvd a this
    simpa using h3
  refine rep_eq .i64 h1 (rep_of .i64 e.symm) (bits_wrapped _ _ _ _ (.inr rfl)) ?_
  rw [IntKind.wrap_i64]
  have h2 : 0 ≤ a % (2 : Int) ^ i := Int.emod_nonneg _ (by have : (0 : Int) < 2 ^ i := by exact_mod_cast hpos
                                                           omega)
  have h3 : a % (2 : Int) ^ i < 2 ^ i := Int.emod_lt_of_pos _ (by exact_mod_cast hpos)
  have h4 : (2 : Int) ^ i ≤ 2 ^ 62 := by exact_mod_cast h62
  omega
theorem and_i64_7 (a : Int) : bits .and .i64 a 7 = a % 8 := and_i64 a 3 (by decide)
theorem and_i64_3 (a : Int) : bits .and .i64 a 3 = a % 4 := and_i64 a 2 (by decide)
theorem and_i64_15 (a : Int) : bits .and .i64 a 15 = a % 16 := and_i64 a 4 (by decide)
theorem or_regs (d s : Int) (hd : 0 ≤ d ∧ d ≤ 15) (hs : 0 ≤ s ∧ s ≤ 15) : bits .or .i64 (s * 16) d = s * 16 + d :=
  bits_join .i64 63 (by decide) (fun n h0 h1 => by rw [IntKind.wrap_i64]; omega) 4 (s * 16) d (by omega) (by omega) (by omega) (by omega) (by omega) (by omega)
theorem and_u64_low (a : Int) (h : 0 ≤ a) (h' : a ≤ 18446744073709551615) : bits .and .u64 a 4294967295 = a % 4294967296 := by
  obtain ⟨a, rfl⟩ := Int.eq_ofNat_of_zero_le h
  have := bits_and_u64_nat a 4294967295 (by omega) (by decide)
  rw [show ((4294967295 : Nat) : Int) = 4294967295 from rfl] at this
  rw [this]
  have e : a &&& 4294967295 = a % 4294967296 := Nat.and_two_pow_sub_one_eq_mod a 32
  rw [e]
  omega
theorem or_halves (a b : Int) (ha : 0 ≤ a ∧ a < 4294967296) (hb : 0 ≤ b ∧ b < 4294967296) : bits .or .u64 a (b * 4294967296) = a + b * 4294967296 := by
  obtain ⟨a, rfl⟩ := Int.eq_ofNat_of_zero_le ha.1
  obtain ⟨b, rfl⟩ := Int.eq_ofNat_of_zero_le hb.1
  have h := bits_or_u64_nat a (b * 4294967296) (by omega) (by omega)
  rw [show ((b * 4294967296 : Nat) : Int) = (b : Int) * 4294967296 by simp] at h
  rw [h, show a ||| b * 4294967296 = a + b * 4294967296 from or_add a b 32 (by omega)]
  simp
theorem or_i16 (a b : Int) (ha : 0 ≤ a ∧ a ≤ 255) (hb : 0 ≤ b ∧ b ≤ 255) : bits .or .i16 a (IntKind.i16.wrap (b * 256)) = IntKind.i16.wrap (a + b * 256) := by
  obtain ⟨a, rfl⟩ := Int.eq_ofNat_of_zero_le ha.1
  obtain ⟨b, rfl⟩ := Int.eq_ofNat_of_zero_le hb.1
  have h := rep_or .i16 (rep_nat .i16 a) (rep_wrap .i16 (show IsRep .i16 ((b : Int) * 256) (b * 256) from rep_of _ (by simp)))
  rw [show a ||| b * 256 = a + b * 256 from or_add a b 8 (by omega)] at h
  exact rep_eq .i16 h (rep_wrap .i16 (show IsRep .i16 ((a : Int) + b * 256) (a + b * 256) from rep_of _ (by simp))) (bits_wrapped _ _ _ _ (.inl rfl)) (wrap_idem _ _)
theorem or_i32 (a b c d : Int) (ha : 0 ≤ a ∧ a ≤ 255) (hb : 0 ≤ b ∧ b ≤ 255) (hc : 0 ≤ c ∧ c ≤ 255) (hd : 0 ≤ d ∧ d ≤ 255) :
    bits .or .i32 (bits .or .i32 (bits .or .i32 a (b * 256)) (c * 65536)) (IntKind.i32.wrap (d * 16777216)) = IntKind.i32.wrap (a + b * 256 + c * 65536 + d * 16777216) := by
  obtain ⟨a, rfl⟩ := Int.eq_ofNat_of_zero_le ha.1
  obtain ⟨b, rfl⟩ := Int.eq_ofNat_of_zero_le hb.1
  obtain ⟨c, rfl⟩ := Int.eq_ofNat_of_zero_le hc.1
  obtain ⟨d, rfl⟩ := Int.eq_ofNat_of_zero_le hd.1
  have h := rep_or .i32 (rep_or .i32 (rep_or .i32 (rep_nat .i32 a) (show IsRep .i32 ((b : Int) * 256) (b * 256) from rep_of _ (by simp))) (show IsRep .i32 ((c : Int) * 65536) (c * 65536) from rep_of _ (by simp))) (rep_wrap .i32 (show IsRep .i32 ((d : Int) * 16777216) (d * 16777216) from rep_of _ (by simp)))
  rw [show a ||| b * 256 = a + b * 256 from or_add a b 8 (by omega), show (a + b * 256) ||| c * 65536 = a + b * 256 + c * 65536 from or_add _ c 16 (by omega), show (a + b * 256 + c * 65536) ||| d * 16777216 = a + b * 256 + c * 65536 + d * 16777216 from or_add _ d 24 (by omega)] at h
  exact rep_eq .i32 h (rep_wrap .i32 (show IsRep .i32 ((a : Int) + b * 256 + c * 65536 + d * 16777216) (a + b * 256 + c * 65536 + d * 16777216) from rep_of _ (by simp))) (bits_wrapped _ _ _ _ (.inl rfl)) (wrap_idem _ _)
end Go.Proofs.Ytmfdojmecpdikaa
