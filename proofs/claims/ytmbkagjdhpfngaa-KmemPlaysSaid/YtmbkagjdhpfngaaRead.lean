/-
  Read: the number that so many bytes are, or the fault.
-/
import Derived.Test.YtmbkagjdhpfngaaAlloc2
import Derived.Lib.EndianBits
namespace Go.Proofs.Ytmbkagjdhpfngaa
open Go Go.RowKit Go.Maps
set_option linter.unusedVariables false

/-- The number whose bytes these are, the lowest first. -/
def le : List UInt8 → Nat
  | [] => 0
  | b :: r => b.toNat + 256 * le r
theorem le_snoc : ∀ (l : List UInt8) (b : UInt8), le (l ++ [b]) = le l + b.toNat * 256 ^ l.length
  | [], b => by simp [le]
  | x :: r, b => by simp only [List.cons_append, le, le_snoc r b, List.length_cons, Nat.pow_succ]; rw [Nat.mul_add, Nat.add_assoc]; congr 2; rw [Nat.mul_comm, Nat.mul_assoc]
theorem le_lt : ∀ l : List UInt8, le l < 256 ^ l.length
  | [] => by simp [le]
  | x :: r => by
    have := le_lt r
    have := x.toNat_lt
    simp only [le, List.length_cons, Nat.pow_succ]
    omega
theorem pow_256 (k : Nat) : (256 : Nat) ^ k = 2 ^ (8 * k) := by rw [Nat.pow_mul]
theorem or_le (l : List UInt8) (b : UInt8) (h : l.length < 8) : bits .or .u64 (le l : Int) (((b.toNat : Int) * 2 ^ (8 * l.length)) % 18446744073709551616) = (le (l ++ [b]) : Int) := by
  have h1 := le_lt l
  rw [pow_256] at h1
  have h2 := b.toNat_lt
  have h3 : b.toNat * 2 ^ (8 * l.length) < 2 ^ 64 := by
    have : b.toNat * 2 ^ (8 * l.length) < 256 * 2 ^ (8 * l.length) := (Nat.mul_lt_mul_right (Nat.two_pow_pos _)).2 h2
    have h4 : 256 * 2 ^ (8 * l.length) = 2 ^ (8 * l.length + 8) := by rw [Nat.pow_add]; omega
    have h5 : (2 : Nat) ^ (8 * l.length + 8) ≤ 2 ^ 64 := Nat.pow_le_pow_right (by omega) (by omega)
    omega
  have h6 : 2 ^ (8 * l.length) ≤ 2 ^ 64 := Nat.pow_le_pow_right (by omega) (by omega)
  have e : ((b.toNat : Int) * 2 ^ (8 * l.length)) % 18446744073709551616 = ((b.toNat * 2 ^ (8 * l.length) : Nat) : Int) := by
    rw [Int.emod_eq_of_lt]
    · simp
    · exact Int.mul_nonneg (by omega) (Int.pow_nonneg (by omega))
    · have : ((b.toNat * 2 ^ (8 * l.length) : Nat) : Int) < ((2 ^ 64 : Nat) : Int) := by exact_mod_cast h3
      simpa using this
  have h7 : le l < 2 ^ 64 := by omega
  rw [e, bits_join_low .u64 64 (by decide) wraps_u64 (8 * l.length) (le l) _ (by omega) (by exact_mod_cast h1) (by exact_mod_cast h7) (by omega) ?_ (by exact_mod_cast h3), le_snoc, pow_256]
  · simp
  · have : b.toNat * 2 ^ (8 * l.length) % 2 ^ (8 * l.length) = 0 := Nat.mul_mod_left _ _
    exact_mod_cast this

section
variable {w : World} {S : Nat → Prop} {bm made fail : Nat} {st : Nat → Option RG} {rl : List Nat} {mv rv : Value}
theorem read_nil (a size : Int) (w : World) :
    Calls Try.prog 20 #[.pointer none, .int .u64 a, .int .i64 size] w fun e w' => e = .returned (.tuple #[.int .u64 0, .int .i64 1]) ∧ w = w' := by
  go_enter Try.func20, Try.ntmps20
  go_wp2_with fail
  go_ret2
  exact ⟨rfl, rfl⟩
theorem read_arg (p : Addr) (a size : Int) (hs : ¬ (size = 1 ∨ size = 2 ∨ size = 4 ∨ size = 8)) (w : World) :
    Calls Try.prog 20 #[.pointer (some p), .int .u64 a, .int .i64 size] w fun e w' => e = .returned (.tuple #[.int .u64 0, .int .i64 1]) ∧ w = w' := by
  have c := isSize_no size hs w
  clear hs
  go_enter Try.func20, Try.ntmps20
  go_wp2_with (go_at_call 41; refine c.mono ?_; rintro e w' ⟨rfl, rfl⟩)
  go_ret2
  exact ⟨rfl, rfl⟩
theorem read_fault (p : Addr) (a size z : Int) (hs : size = 1 ∨ size = 2 ∨ size = 4 ∨ size = 8) (w : World)
    (hf : Calls Try.prog 42 #[.pointer (some p), .int .u64 a, .int .i64 size, .int .i64 1] w fun e w' => e = .returned (.tuple #[.slice none 0 0, .int .i64 z]) ∧ w = w') :
    Calls Try.prog 20 #[.pointer (some p), .int .u64 a, .int .i64 size] w fun e w' => e = .returned (.tuple #[.int .u64 0, .int .i64 z]) ∧ w = w' := by
  have c := isSize_yes size hs w
  clear hs
  go_enter Try.func20, Try.ntmps20
  go_wp2_with (first
    | (go_at_call 41; refine c.mono ?_; rintro e w' ⟨rfl, rfl⟩)
    | (go_at_call 42; refine hf.mono ?_; rintro e w' ⟨rfl, rfl⟩))
  go_loop [10, 29] (fun n i => n = .int .u64 0 ∧ i = .int .i64 0) (fun _ _ => 0)
  case atStart => exact ⟨rfl, rfl⟩
  case round =>
    obtain ⟨rfl, rfl⟩ := hrel
    go_wp2
    go_ret2
    exact ⟨rfl, rfl⟩
/-- A region of the memory with the row g: what it holds, cell by cell. -/
theorem AllPost.cell {w' : World} {n g : Nat} {r : RG} (h : AllPost w S bm made fail st rl mv rv n r w' g) (j : Nat) : w'.cell? ⟨g, j, none⟩ = (r.bytes.map byteV)[j]? := by
  have := (h.1.regs n _ (upd_same st n _)).rows g rfl
  have := this.cell j
  simpa using this
def ReadPost (w : World) (S : Nat → Prop) (bm made fail : Nat) (st : Nat → Option RG) (rl : List Nat) (mv rv : Value) (n : Nat) (r : RG) (w' : World) : Prop := ∃ g, AllPost w S bm made fail st rl mv rv n r w' g
theorem read_ok (h : KM w S bm made fail st rl mv rv) (n o : Nat) (hn : n ≤ 4294967295) (ho : o ≤ 4294967295) (k : Nat) (hk : (k : Int) = 1 ∨ (k : Int) = 2 ∨ (k : Int) = 4 ∨ (k : Int) = 8) {r : RG} (hs : st n = some r) (hp : (bits .and .i64 r.perm 1 != 1) = false) (hb : o + k ≤ r.bytes.length) :
    Calls Try.prog 20 #[.pointer (some ⟨bm, 0, none⟩), .int .u64 (addr n o), .int .i64 (k : Int)] w fun e w' =>
      e = .returned (.tuple #[.int .u64 (le ((r.bytes.drop o).take k)), .int .i64 0]) ∧ ReadPost w S bm made fail st rl mv rv n r w' := by
  have c := isSize_yes k hk w
  have cf := find_ok h n o hn ho k (by omega) 1 hs hp hb
  have hk8 : k ≤ 8 := by omega
  have hk1 : 0 < k := by omega
  have hle := (h.regs n r hs).le
  clear h hs hp hk
  generalize addr n o = a at *
  have HP : Hid (∀ w' g, AllPost w S bm made fail st rl mv rv n r w' g → ReadPost w S bm made fail st rl mv rv n r w' ∧ ∀ j, w'.cell? ⟨g, j, none⟩ = (r.bytes.map byteV)[j]?) := fun w' g h => ⟨⟨g, h⟩, fun j => h.cell j⟩
  generalize ReadPost w S bm made fail st rl mv rv n r = post at HP ⊢
  unfold FindPost at cf
  generalize AllPost w S bm made fail st rl mv rv n r = apost at HP cf
  generalize hxs : r.bytes = xs at *
  clear hxs
  go_enter Try.func20, Try.ntmps20
  go_wp2_with (first
    | (go_at_call 41; refine c.mono ?_; rintro e w' ⟨rfl, rfl⟩)
    | (go_at_call 42; refine cf.mono ?_; rintro e w' ⟨g, A, rfl, hA, ha⟩; obtain rfl := hA hk1; clear hA; have HC := Lib.hid ha; clear ha))
  have HC2 := Lib.hid (HP.out _ _ HC.out)
  go_loop [10, 29] (fun n i => ∃ j : Nat, j ≤ k ∧ n = .int .u64 (le ((xs.drop o).take j)) ∧ i = .int .i64 j) (fun _ i => k - (intOf i).toNat)
  case atStart => exact ⟨0, by omega, rfl, rfl⟩
  case round =>
    obtain ⟨j, hj, rfl, rfl⟩ := hrel
    by_cases hlt : j < k
    · have hx : o + j < xs.length := by omega
      have hcell := HC2.out.2 (o + j)
      rw [List.getElem?_map, List.getElem?_eq_getElem hx] at hcell
      simp only [Option.map_some, byteV] at hcell
      have hj8 : (8 : Int) * j ≤ 63 := by omega
      go_wp2
      go_round
      case rel =>
        refine ⟨j + 1, by omega, ?_, by go_num⟩
        have e1 := or_le ((xs.drop o).take j) xs[o + j] (by simp; omega)
        have e2 : ((xs.drop o).take j).length = j := by simp; omega
        have e3 : (xs.drop o).take (j + 1) = (xs.drop o).take j ++ [xs[o + j]] := by
          rw [List.take_succ_eq_append_getElem (by simp; omega)]; simp
        rw [e3, ← e1, e2, IntKind.wrap_u64, IntKind.wrap_u64]
        have e4 : ((xs[o + j].toNat : Nat) : Int) % 18446744073709551616 = xs[o + j].toNat := by
          have := xs[o + j].toNat_lt; omega
        rw [e4]
      case measure => simp [intOf]; omega
    · have : j = k := by omega
      subst this
      go_wp2
      go_ret2
      exact ⟨rfl, HC2.out.1⟩
end
end Go.Proofs.Ytmbkagjdhpfngaa
