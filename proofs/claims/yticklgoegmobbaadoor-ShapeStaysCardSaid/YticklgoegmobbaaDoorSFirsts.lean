/-
  firsts: of each slot whether an instruction begins there, or what is wrong.
-/
import Derived.Test.YticklgoegmobbaaDoorSNext
import Derived.Laws.MakeOwn
import Derived.OwnWalk
namespace Go.Proofs.YticklgoegmobbaaDoor
open Go Go.RowKit
set_option linter.unusedVariables false
set_option linter.unusedSimpArgs false
set_option maxRecDepth 100000
theorem infoB : (Tryd.prog.info? 4).map (fun i => (i.zero, i.size, i.bytes)) = some (some (.bool false), 1, 1) := by kernel_rfl
theorem make_bools (n : Nat) (hn : n ≤ 140737488355328) (w : World) :
    (Instr.makeSlice 33 (.int .i64 n) (.int .i64 n)).run Tryd.prog w = .ok (.slice (some ⟨w.heap.size, 0, none⟩) n n) (w.alloc (.cells (rowB n fun _ => false) 4)) := by
  obtain ⟨i, hi, hz, hsz, hby⟩ := info_parts infoB
  have := run_make (P := Tryd.prog) w 33 4 i (.bool false) Tryd.underlying33 hi hz .i64 .i64 n n (by omega) (Int.le_refl _) (by rw [hby]; omega) (by omega)
  rw [hsz, show ((n : Int)).toNat = n from rfl, rowB_made] at this
  exact this
def FirstsAns (B : Nat) (X : Nat → Slot) (n : Nat) (e : Ending) (w' : World) : Prop :=
  match chk X n with
  | some k => e = .returned (.tuple #[.slice none 0 0, .int .i64 (k : Int), .int .i64 32])
  | none => ∃ g, B ≤ g ∧ e = .returned (.tuple #[.slice (some ⟨g, 0, none⟩) n n, .int .i64 0, .int .i64 0]) ∧ Blk w' g 4 (rowB n (fst X))
theorem ans_bad {B n k : Nat} {X : Nat → Slot} {e : Ending} {w' : World} (h : chk X n = some k) (he : e = .returned (.tuple #[.slice none 0 0, .int .i64 (k : Int), .int .i64 32])) : FirstsAns B X n e w' := by
  unfold FirstsAns
  rw [h]
  exact he
theorem ans_ok {B n g : Nat} {X : Nat → Slot} {e : Ending} {w' : World} (h : chk X n = none) (hg : B ≤ g) (he : e = .returned (.tuple #[.slice (some ⟨g, 0, none⟩) n n, .int .i64 0, .int .i64 0])) (hb : Blk w' g 4 (rowB n (fst X))) : FirstsAns B X n e w' := by
  unfold FirstsAns
  rw [h]
  exact ⟨g, hg, he, hb⟩
/-- What the first loop knows at the place k, l being the last instruction's place. -/
structure Scan (X : Nat → Slot) (n k l : Nat) : Prop where
  le : k ≤ n
  at_ : fst X k = true
  ok : ∀ i, i < k → fst X i = true → wholeS X n i = true
  lo : l < k ∨ (l = 0 ∧ k = 0)
  lf : fst X l = true
  lmax : ∀ i, i < k → fst X i = true → i ≤ l
section
variable {X : Nat → Slot} {n k l : Nat}
theorem Scan.init (X : Nat → Slot) (n : Nat) : Scan X n 0 0 := ⟨by omega, rfl, fun i h => by omega, .inr ⟨rfl, rfl⟩, rfl, fun i h => by omega⟩
theorem whole_room (h : wholeS X n k = true) (hk : k < n) : k + slN (X k) ≤ n := by
  unfold slN
  cases hw : wideS (X k)
  · simp; omega
  · simp [wholeS, hw] at h
    simp
    omega
theorem slN_pos (x : Slot) : 1 ≤ slN x ∧ slN x ≤ 2 := by unfold slN; split <;> omega
/-- Between an instruction's place and the next none begins. -/
theorem fst_mid (hf : fst X k = true) {i : Nat} (h1 : k < i) (h2 : i < k + slN (X k)) : fst X i = false := by
  unfold slN at h2
  cases hw : wideS (X k)
  · simp [hw] at h2; omega
  · simp [hw] at h2
    have : i = k + 1 := by omega
    subst this
    simp [fst, hf, hw]
theorem Scan.step (h : Scan X n k l) (hk : k < n) (hw : wholeS X n k = true) : Scan X n (k + slN (X k)) k := by
  have hp := slN_pos (X k)
  refine ⟨whole_room hw hk, fst_next h.at_, fun i hi hf => ?_, .inl (by omega), h.at_, fun i hi hf => ?_⟩
  · rcases Nat.lt_or_ge i k with h1 | h1
    · exact h.ok i h1 hf
    · rcases Nat.lt_or_ge k i with h2 | h2
      · rw [fst_mid h.at_ h2 hi] at hf; cases hf
      · rw [show i = k by omega]; exact hw
  · rcases Nat.lt_or_ge k i with h2 | h2
    · rw [fst_mid h.at_ h2 hi] at hf; cases hf
    · exact h2
theorem Scan.last (h : Scan X n n l) (hn : 0 < n) : l = lastOf X n := by
  have hl : l < n := by rcases h.lo with h1 | ⟨_, h2⟩ <;> omega
  unfold lastOf
  split
  · rename_i hf
    have := h.lmax (n - 1) (by omega) hf
    omega
  · rename_i hf
    have h1 : l ≠ n - 1 := fun e => hf (by rw [← e]; exact h.lf)
    obtain ⟨m, rfl⟩ : ∃ m, n = m + 2 := ⟨n - 2, by omega⟩
    simp [fst] at hf
    have := h.lmax m (by omega) hf.1
    omega
theorem Scan.bad (h : Scan X n k l) (hk : k < n) (hw : wholeS X n k = false) : scanBad X n = some k :=
  find_range_some hk (by simp [h.at_, hw]) fun j hj => by
    cases hf : fst X j
    · rfl
    · simp [h.ok j hj hf]
theorem Scan.fine (h : Scan X n n l) : scanBad X n = none :=
  find_range_none fun j hj => by
    cases hf : fst X j
    · rfl
    · simp [h.ok j hj hf]
end
theorem row_step {X : Nat → Slot} {n k : Nat} (hf : fst X k = true) :
    (rowB n (fun i => decide (i < k) && fst X i)).setIfInBounds k (.bool true) = rowB n (fun i => decide (i < k + slN (X k)) && fst X i) := by
  rw [rowB_set]
  congr 1
  funext i
  have hp := slN_pos (X k)
  by_cases h1 : i = k
  · rw [if_pos h1, h1, hf]; simp; omega
  · rw [if_neg h1]
    rcases Nat.lt_or_ge i k with h2 | h2
    · simp [h2, show i < k + slN (X k) by omega]
    · rcases Nat.lt_or_ge i (k + slN (X k)) with h3 | h3
      · rw [fst_mid hf (by omega) h3]; simp
      · simp [show ¬ i < k by omega, show ¬ i < k + slN (X k) by omega]
theorem row_none (X : Nat → Slot) (n : Nat) : (rowB n fun _ => false) = rowB n (fun i => decide (i < 0) && fst X i) := by
  congr 1
theorem row_all (X : Nat → Slot) (n : Nat) : rowB n (fun i => decide (i < n) && fst X i) = rowB n (fst X) := by
  unfold rowB
  congr 1
  exact List.map_congr_left fun i hi => by simp [List.mem_range.1 hi]
theorem Blk.below {w w' : World} {g : Nat} {t : TypeId} {cs : Array Value} (h : Blk w g t cs) (hb : Below w.heap.size w w') : Blk w' g t cs := (hb.block g h.lt).trans h
end Go.Proofs.YticklgoegmobbaaDoor
