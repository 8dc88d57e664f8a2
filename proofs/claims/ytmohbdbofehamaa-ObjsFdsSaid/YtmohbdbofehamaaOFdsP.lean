/-
  The law ObjsFds: what a table is behind so many Adds.
-/
import Derived.Test.YtmohbdbofehamaaOAwake
namespace Go.Proofs.Ytmohbdbofehamaa
open Go Go.RowKit Go.Maps OSt
set_option linter.unusedVariables false
set_option linter.unusedSimpArgs false
set_option maxRecDepth 100000
/-- Behind m Adds (of the numbers from 0 on). -/
def fdsF (m : Nat) : List Nat := (List.range 64).map fun i => if i < m then i + 1 else 0
def osF (m : Nat) : List Ob := (List.range m).map fun i : Nat => (⟨(i : Int), 0, true⟩ : Ob)
def FS (m : Nat) : OSt := ⟨osF m, fdsF m, [], 0⟩
theorem fs_new : FS 0 = newO := rfl
theorem fdsF_next : ∀ m, m < 64 → freeAt (fdsF m) = some m ∧ (fdsF m).set m (m + 1) = fdsF (m + 1) := by decide +kernel
theorem fdsF_full : freeAt (fdsF 64) = none := by decide +kernel
theorem osF_length (m : Nat) : (osF m).length = m := by simp [osF]
theorem fs_add {m : Nat} (h : m < 64) : addS (FS m) (m : Int) = FS (m + 1) ∧ addN (FS m) = (m : Int) ∧ openE (FS m) = 0 := by
  obtain ⟨h1, h2⟩ := fdsF_next m h
  have hf : (FS m).free = some m := h1
  unfold addS addN openE
  rw [hf]
  refine ⟨?_, rfl, rfl⟩
  simp only [Option.elim_some]
  unfold FS
  simp only [osF_length, h2]
  rw [show osF m ++ [(⟨(m : Int), 0, true⟩ : Ob)] = osF (m + 1) by simp [osF, List.range_succ]]
theorem fs_full (k : Int) : addS (FS 64) k = FS 64 ∧ openE (FS 64) = 8 := by
  have hf : (FS 64).free = none := fdsF_full
  unfold addS openE
  rw [hf]
  exact ⟨rfl, rfl⟩
theorem fs_ok : ∀ m, m ≤ 64 → OOk 64 (FS m)
  | 0, _ => fs_new ▸ newO_ok 64
  | m + 1, h => by
    have hm : ∀ m, m ≤ 64 → OOk m (FS m) := fun m => by
      induction m with
      | zero => intro _; exact fs_new ▸ newO_ok 0
      | succ m ih => intro h; exact (fs_add (show m < 64 by omega)).1 ▸ ok_add (ih (by omega)) _
    exact (hm (m + 1) h).mono h
theorem fs_close : ∀ M, M < 65 → ∀ G, G < M → closeL (FS M) (G : Int) = [G + 1] ∧ fdE (FS M) (G : Int) = 0 ∧ freeAt (closeS (FS M) (G : Int)).fds = some G ∧ (closeS (FS M) (G : Int)).os.length = M := by decide +kernel
theorem fs_ok2 {M G : Nat} (hM : M ≤ 64) (hG : G < M) : OOk 64 (closeS (FS M) (G : Int)) := ok_close (fs_ok M hM) _
end Go.Proofs.Ytmohbdbofehamaa
