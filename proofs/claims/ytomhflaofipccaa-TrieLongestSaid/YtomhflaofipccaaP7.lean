/-
  The reference's memory as it lies in the heap ('RM'); its first, at, wide. The reference's first and at where there is a region; wide. The reference's Read, Size, SetFail; where Write, Bytes and Put only answer. The reference's Bytes, Put, Write. The reference's Put, Free, Retire. The reference's Grace.
-/
import Derived.Test.YtomhflaofipccaaRegions
import Derived.Laws.Bits64b
import Derived.OwnWalk
import Derived.Laws.Bits64
import Derived.Lib.LazyBuf
namespace Go.Proofs.Ytomhflaofipccaa
open Go Go.RowKit Go.Maps
set_option linter.unusedVariables false

/-- How many regions are live. -/
def cnt (vs : Nat → Option RV) (made : Nat) : Nat := ((List.range made).filter fun i => (vs (i + 1)).isSome).length
section
variable {w w' : World} {T U : Nat → Prop} {bx made fail : Nat} {vs : Nat → Option RV} {rb gb : Nat → Nat} {lv : Value}
end
theorem and_off (n o : Nat) (hn : n ≤ 4294967295) (ho : o ≤ 4294967295) : bits .and .u64 (addr n o) 4294967295 = (o : Int) := by
  obtain ⟨h0, h1, h2, h3⟩ := addr_bd hn ho
  obtain ⟨a, ha⟩ := Int.eq_ofNat_of_zero_le h0
  rw [ha] at h1 h3 ⊢
  have := bits_and_u64_nat a 4294967295 (by omega) (by decide)
  rw [show ((4294967295 : Nat) : Int) = 4294967295 from rfl] at this
  rw [this]
  have e : a &&& 4294967295 = a % 4294967296 := Nat.and_two_pow_sub_one_eq_mod a 32
  rw [e]
  omega
section
variable {w : World} {T : Nat → Prop} {bx made fail : Nat} {vs : Nat → Option RV} {rb gb : Nat → Nat} {lv : Value}
end
end Go.Proofs.Ytomhflaofipccaa
namespace Go.Proofs.Ytomhflaofipccaa
open Go Go.RowKit Go.Maps
set_option linter.unusedVariables false
section
variable {w : World} {T : Nat → Prop} {bx made fail : Nat} {vs : Nat → Option RV} {rb gb : Nat → Nat} {lv : Value}
def AtPost (w : World) (v : Value) (o z : Int) (e : Ending) (w' : World) : Prop := e = .returned (.tuple #[v, .int .i64 o, .int .i64 z]) ∧ w = w'
end
end Go.Proofs.Ytomhflaofipccaa
namespace Go.Proofs.Ytomhflaofipccaa
open Go Go.RowKit Go.Maps
set_option linter.unusedVariables false
section
variable {w : World} {T : Nat → Prop} {bx made fail : Nat} {vs : Nat → Option RV} {rb gb : Nat → Nat} {lv : Value}
theorem or_step (N b : Nat) (hN : N < 72057594037927936) (hb : b < 256) : bits .or .u64 ((N : Int) * 256) (b : Int) = ((b + 256 * N : Nat) : Int) := by
  have h1 : N * 256 < 18446744073709551616 := by omega
  have h2 : b < 18446744073709551616 := by omega
  have h3 := bits_or_u64_nat (N * 256) b h1 h2
  have e : (N * 256) ||| b = N * 256 + b := by
    have := Nat.shiftLeft_add_eq_or_of_lt (show b < 2 ^ 8 from hb) N
    rw [Nat.shiftLeft_eq] at this
    exact this.symm
  rw [e] at h3
  rw [show ((N : Int) * 256) = ((N * 256 : Nat) : Int) from rfl, h3, show N * 256 + b = b + 256 * N by omega]
end
end Go.Proofs.Ytomhflaofipccaa
namespace Go.Proofs.Ytomhflaofipccaa
open Go Go.RowKit Go.Maps
set_option linter.unusedVariables false
def updv (vs : Nat → Option RV) (n : Nat) (r : Option RV) : Nat → Option RV := fun k => if k = n then r else vs k
theorem updv_same (vs : Nat → Option RV) (n : Nat) (r : Option RV) : updv vs n r n = r := by simp [updv]
theorem updv_other (vs : Nat → Option RV) {n k : Nat} (r : Option RV) (h : k ≠ n) : updv vs n r k = vs k := by simp [updv, h]
theorem cnt_congr {vs vs' : Nat → Option RV} {made : Nat} (h : ∀ n, 1 ≤ n → n ≤ made → (vs n).isSome = (vs' n).isSome) : cnt vs made = cnt vs' made := by
  unfold cnt
  congr 1
  apply List.filter_congr
  intro i hi
  exact h (i + 1) (by omega) (by have := List.mem_range.1 hi; omega)
section
variable {w w1 w2 : World} {T : Nat → Prop} {bx made fail : Nat} {vs : Nat → Option RV} {rb gb : Nat → Nat} {lv : Value}
theorem conv_win (w' : World) (g o k : Nat) (xs : List UInt8) (hb : o + k ≤ xs.length) (A : Addr) (hA : 0 < k → A = ⟨g, o, none⟩) (hc : ∀ j, w'.cell? ⟨g, j, none⟩ = (xs.map byteV)[j]?) (k' : Nat) (hk' : k' = k) (c : Nat) (hcc : c = xs.length - o) :
      (convert 42 9 (.slice (some A) k' c)).run Try.prog w' = .ok (.string (bstr ((xs.drop o).take k))) w' := by
  subst hk'
  subst hcc
  rcases Nat.eq_zero_or_pos k' with h0 | h0
  · subst h0
    have := run_convert_bytes_zero (P := Try.prog) w' 42 5 Try.underlying42 Try.underlying5 (some A) (xs.length - o) 9 Try.underlying9
    rw [this]; rfl
  · obtain rfl := hA h0
    have := Lib.run_convert_window (P := Try.prog) w' 42 5 9 Try.underlying42 Try.underlying5 Try.underlying9 g 0 (bstr xs) (fun i hi => by
      have hi' : i < xs.length := by rw [← bstr_size]; exact hi
      rw [hc, List.getElem?_map, Nat.zero_add, List.getElem?_eq_getElem hi']
      rfl) o k' (xs.length - o) (by rw [bstr_size]; exact hb)
    rw [Nat.zero_add, bstr_extract] at this
    exact this
end
end Go.Proofs.Ytomhflaofipccaa
namespace Go.Proofs.Ytomhflaofipccaa
open Go Go.RowKit Go.Maps
set_option linter.unusedVariables false
theorem cnt_succ (vs : Nat → Option RV) (m : Nat) : cnt vs (m + 1) = cnt vs m + (if (vs (m + 1)).isSome then 1 else 0) := by
  unfold cnt
  rw [List.range_succ, List.filter_append, List.length_append]
  congr 1
  by_cases h : (vs (m + 1)).isSome <;> simp [h]
theorem cnt_none {vs : Nat → Option RV} {n : Nat} (h1 : 1 ≤ n) (hs : (vs n).isSome = true) : ∀ made, n ≤ made → cnt (updv vs n none) made + 1 = cnt vs made
  | 0, h => by omega
  | m + 1, h => by
    rw [cnt_succ, cnt_succ]
    by_cases e : n = m + 1
    · subst e
      rw [updv_same, hs, cnt_congr (vs := updv vs (m + 1) none) (vs' := vs) (fun k _ hk => by rw [updv_other _ _ (by omega)])]
      rfl
    · rw [updv_other _ _ (fun e' => e e'.symm)]
      have := cnt_none h1 hs m (by omega)
      omega
theorem cnt_le (vs : Nat → Option RV) (made : Nat) : cnt vs made ≤ made := by
  unfold cnt
  exact Nat.le_trans (List.length_filter_le _ _) (by simp)
section
variable {w w1 w2 : World} {T : Nat → Prop} {bx made fail : Nat} {vs : Nat → Option RV} {rb gb : Nat → Nat} {lv : Value}
end
end Go.Proofs.Ytomhflaofipccaa
namespace Go.Proofs.Ytomhflaofipccaa
open Go Go.RowKit Go.Maps
set_option linter.unusedVariables false
/-- What Grace leaves of a region. -/
def keepv : Option RV → Option RV
  | some q => if q.2.2 then none else some q
  | none => none
def gracev (vs : Nat → Option RV) (i : Nat) : Nat → Option RV := fun n => if n ≤ i then keepv (vs n) else vs n
theorem gracev_zero {vs : Nat → Option RV} (h : vs 0 = none) : gracev vs 0 = vs := by
  funext n
  unfold gracev
  split
  · have : n = 0 := by omega
    subst this; rw [h]; rfl
  · rfl
theorem gracev_at (vs : Nat → Option RV) (i : Nat) : gracev vs i (i + 1) = vs (i + 1) := by unfold gracev; rw [if_neg (by omega)]
theorem gracev_succ (vs : Nat → Option RV) (i : Nat) : updv (gracev vs i) (i + 1) (keepv (vs (i + 1))) = gracev vs (i + 1) := by
  funext n
  unfold updv gracev
  by_cases h : n = i + 1
  · subst h; rw [if_pos rfl, if_pos (Nat.le_refl _)]
  · rw [if_neg h]
    by_cases h2 : n ≤ i
    · rw [if_pos h2, if_pos (by omega)]
    · rw [if_neg h2, if_neg (by omega)]
theorem gracev_stay {vs : Nat → Option RV} {i : Nat} (h : keepv (vs (i + 1)) = vs (i + 1)) : gracev vs (i + 1) = gracev vs i := by
  rw [← gracev_succ, h]
  funext n
  unfold updv
  split
  · rename_i e; subst e; exact (gracev_at vs i).symm
  · rfl
section
variable {w w1 w2 : World} {T : Nat → Prop} {bx made fail : Nat} {vs : Nat → Option RV} {rb gb : Nat → Nat} {lv : Value}
end
end Go.Proofs.Ytomhflaofipccaa
