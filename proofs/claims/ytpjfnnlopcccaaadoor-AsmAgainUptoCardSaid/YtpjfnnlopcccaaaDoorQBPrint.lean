/-
  What is read of a line has a line: slot by slot.
-/
import Derived.Test.YtpjfnnlopcccaaaDoorQBForm3
namespace Go.Proofs.YtpjfnnlopcccaaaDoor
open Go Go.RowKit Go.Maps
set_option linter.unusedVariables false
set_option linter.unusedSimpArgs false
set_option maxRecDepth 100000
/-- A slot that has a line of its own. -/
def Has (x : Slot) : Prop := x.Ok ∧ x.d ≤ 10 ∧ x.s ≤ 10 ∧ x.o ≠ 24 ∧ (bodyT x emptyT).size ≠ 0
def HasW (x y : Slot) : Prop := x.Ok ∧ y.Ok ∧ x.d ≤ 10 ∧ x.s ≤ 10 ∧ x.o = 24 ∧ (wideT x y).size ≠ 0
theorem said_ne {ws : List ByteArray} (h : ws ≠ []) (hw : ∀ w ∈ ws, w.size ≠ 0) : (saidT ws).size ≠ 0 := by
  unfold saidT
  rw [if_neg]
  · show (joinT ws).size ≠ 0
    rw [Lib.size_eq, joinT_list]
    rcases ws with _ | ⟨w, ws⟩
    · exact absurd rfl h
    · have hW := hw w (by simp)
      rw [Lib.size_eq] at hW
      rcases ws with _ | ⟨w2, ws⟩
      · rw [List.map_cons, List.map_nil, Lib.join_one]; exact hW
      · rw [List.map_cons, List.map_cons, join_two, List.length_append]; omega
  · intro e
    obtain ⟨x, hx, he⟩ := List.any_eq_true.1 e
    exact hw x hx (of_decide_eq_true he)
theorem regS_le {s p : ByteArray} {n : Nat} (h : regS s p = some n) : n ≤ 10 := by
  unfold regS at h
  split at h
  · exact digN_le (by decide) h
  · cases h
theorem signS_le {below : Bool} {s : ByteArray} {bits : Nat} {v : Int} (h9 : 9 ≤ mostOf below bits) (h : signS below s bits = some v) : -(mostOf below bits : Int) ≤ v ∧ v ≤ (mostOf below bits : Int) ∧ (below = false → 0 ≤ v) ∧ (below = true → v ≤ 0) := by
  unfold signS at h
  obtain ⟨n, hn, h⟩ := Option.bind_eq_some_iff.1 h
  have hle := digN_le h9 hn
  split at h
  · cases h
  · cases h
    cases below
    · rw [if_neg (by decide)]
      exact ⟨by omega, by omega, fun _ => (by omega), fun h => by cases h⟩
    · rw [if_pos rfl]
      exact ⟨by omega, by omega, fun h => (by cases h), fun _ => by omega⟩
theorem immS_le {s : ByteArray} {v : Int} (h : immS s = some v) : -2147483648 ≤ v ∧ v ≤ 2147483647 := by
  unfold immS at h
  cases hb : begins s minusT
  · rw [hb] at h
    have := signS_le (by decide) h
    have e : (mostOf false 32 : Int) = 2147483647 := by decide
    rw [e] at this
    omega
  · rw [hb] at h
    have := signS_le (by decide) h
    have e : (mostOf true 32 : Int) = 2147483648 := by decide
    rw [e] at this
    have := this.2.2.2 rfl
    omega
theorem sign16_le {b : Bool} {s : ByteArray} {v : Int} (h : signS b s 16 = some v) : -32768 ≤ v ∧ v ≤ 32767 := by
  cases b
  · have := signS_le (by decide) h
    have e : (mostOf false 16 : Int) = 32767 := by decide
    rw [e] at this
    omega
  · have := signS_le (by decide) h
    have e : (mostOf true 16 : Int) = 32768 := by decide
    rw [e] at this
    have := this.2.2.2 rfl
    omega
theorem furtherS_le {s : ByteArray} {v : Int} (h : furtherS s = some v) : -32768 ≤ v ∧ v ≤ 32767 := by
  unfold furtherS at h
  split at h
  · exact sign16_le h
  · split at h
    · exact sign16_le h
    · cases h
/-- What the second of the two says. -/
theorem secS_le {c p : ByteArray} {S : Sec} (h : secS c p 0 0 = S) (hok : S.ok = true) : (S.reg = true ∧ S.imm = 0 ∧ 0 ≤ S.src ∧ S.src ≤ 10) ∨ (S.reg = false ∧ S.src = 0 ∧ -2147483648 ≤ S.imm ∧ S.imm ≤ 2147483647) := by
  subst h
  unfold secS at *
  by_cases hb : begins c p = true
  · rw [if_pos hb] at *
    simp only at hok ⊢
    obtain ⟨n, hn⟩ := Option.isSome_iff_exists.1 hok
    have h1 := regS_le hn
    rw [regS_val hn]
    left
    exact ⟨trivial, trivial, by omega, by omega⟩
  · rw [if_neg hb] at *
    simp only at hok ⊢
    obtain ⟨n, hn⟩ := Option.isSome_iff_exists.1 hok
    have h1 := immS_le hn
    rw [hn]
    right
    exact ⟨trivial, trivial, h1.1, h1.2⟩
theorem secT_ne {s m : Int} {src : Bool} {q : Int} (h : (src = true ∧ m = 0) ∨ (src = false ∧ s = 0)) : (secT s m src (letterS q)).size ≠ 0 := by
  unfold secT
  rcases h with ⟨rfl, rfl⟩ | ⟨rfl, rfl⟩
  · rw [if_pos rfl, if_pos rfl]; exact (isW_reg (isW_letter q) s).1
  · rw [if_neg (by decide), if_pos rfl]; exact (isW_dec m).1
theorem secR_le {q p d x : Int} {c : ByteArray} {y : Slot} (h : secR q p d x c = some y) :
    ∃ reg : Bool, y.o = (if reg = true then bits .or .i64 p 8 else p) ∧ y.d = d ∧ y.f = x ∧ ((reg = true ∧ y.m = 0) ∨ (reg = false ∧ y.s = 0)) ∧ 0 ≤ y.s ∧ y.s ≤ 10 ∧ -2147483648 ≤ y.m ∧ y.m ≤ 2147483647 := by
  unfold secR at h
  obtain ⟨S, hS⟩ : ∃ S, secS c (letterS q) 0 0 = S := ⟨_, rfl⟩
  rw [hS] at h
  by_cases hok : S.ok = true
  · rw [if_pos hok] at h
    cases h
    rcases secS_le hS hok with ⟨h1, h2, h3, h4⟩ | ⟨h1, h2, h3, h4⟩
    · exact ⟨S.reg, rfl, rfl, rfl, .inl ⟨h1, h2⟩, h3, h4, by simp only [h2]; omega, by simp only [h2]; omega⟩
    · exact ⟨S.reg, rfl, rfl, rfl, .inr ⟨h1, h2⟩, by simp only [h2]; omega, by simp only [h2]; omega, h3, h4⟩
  · rw [if_neg hok] at h; cases h
theorem testR_mem {q d f : Int} {m c : ByteArray} {y : Slot} : ∀ {l : List (ByteArray × Int)}, testR q d f m c l = some y → ∃ nm k, (nm, k) ∈ l ∧ secR q (bits .or .i64 q k) d f c = some y
  | [], h => by cases h
  | (nm, k) :: l, h => by
    unfold testR at h
    split at h
    · exact ⟨nm, k, by simp, h⟩
    · obtain ⟨nm', k', hm, hc⟩ := testR_mem h
      exact ⟨nm', k', List.mem_cons_of_mem _ hm, hc⟩
theorem operR_mem {q d : Int} {m c : ByteArray} {y : Slot} : ∀ {l : List (ByteArray × Int × Int)}, operR q d m c l = some y → ∃ nm k x, (nm, k, x) ∈ l ∧ secR q (bits .or .i64 q k) d x c = some y
  | [], h => by cases h
  | (nm, k, x) :: l, h => by
    unfold operR at h
    split at h
    · exact ⟨nm, k, x, by simp, h⟩
    · obtain ⟨nm', k', x', hm, hc⟩ := operR_mem h
      exact ⟨nm', k', x', List.mem_cons_of_mem _ hm, hc⟩
theorem testG_finds {z : Int} {g : ByteArray → ByteArray} : ∀ {l : List (ByteArray × Int)} {nm : ByteArray}, (nm, z) ∈ l → ∃ nm', (nm', z) ∈ l ∧ testG z g l = g nm'
  | (a, k) :: l, nm, h => by
    unfold testG
    by_cases h1 : k = z
    · rw [if_pos h1]
      exact ⟨a, by rw [h1]; simp, rfl⟩
    · rw [if_neg h1]
      rcases List.mem_cons.1 h with e | e
      · cases e; exact absurd rfl h1
      · obtain ⟨nm', hm, hc⟩ := testG_finds e
        exact ⟨nm', List.mem_cons_of_mem _ hm, hc⟩
theorem operG_finds {z f : Int} {g : ByteArray → ByteArray} {e : ByteArray} : ∀ {l : List (ByteArray × Int × Int)} {nm : ByteArray}, (nm, z, f) ∈ l → ∃ nm', (nm', z, f) ∈ l ∧ operG z f g e l = g nm'
  | (a, k, x) :: l, nm, h => by
    unfold operG
    by_cases h1 : k = z ∧ x = f
    · rw [if_pos h1]
      exact ⟨a, by rw [h1.1, h1.2]; simp, rfl⟩
    · rw [if_neg h1]
      rcases List.mem_cons.1 h with e | e
      · cases e; exact absurd ⟨rfl, rfl⟩ h1
      · obtain ⟨nm', hm, hc⟩ := operG_finds e
        exact ⟨nm', List.mem_cons_of_mem _ hm, hc⟩
/-! ### What an Op is made of -/
theorem op_tests : ∀ x ∈ testL, ∀ q ∈ [(5 : Int), 6], ∀ reg : Bool, (0 ≤ (if reg = true then bits .or .i64 (bits .or .i64 q x.2) 8 else bits .or .i64 q x.2) ∧ (if reg = true then bits .or .i64 (bits .or .i64 q x.2) 8 else bits .or .i64 q x.2) ≤ 255) ∧ (if reg = true then bits .or .i64 (bits .or .i64 q x.2) 8 else bits .or .i64 q x.2) % 8 = q ∧ bits .and .i64 (if reg = true then bits .or .i64 (bits .or .i64 q x.2) 8 else bits .or .i64 q x.2) 240 = x.2 ∧ (bits .and .i64 (if reg = true then bits .or .i64 (bits .or .i64 q x.2) 8 else bits .or .i64 q x.2) 8 != 0) = reg := by decide +kernel
theorem op_opers : ∀ x ∈ operL, (x.2.2 = 0 ∨ x.2.2 = 1) ∧ ∀ q ∈ [(4 : Int), 7], ∀ reg : Bool, (0 ≤ (if reg = true then bits .or .i64 (bits .or .i64 q x.2.1) 8 else bits .or .i64 q x.2.1) ∧ (if reg = true then bits .or .i64 (bits .or .i64 q x.2.1) 8 else bits .or .i64 q x.2.1) ≤ 255) ∧ (if reg = true then bits .or .i64 (bits .or .i64 q x.2.1) 8 else bits .or .i64 q x.2.1) % 8 = q ∧ bits .and .i64 (if reg = true then bits .or .i64 (bits .or .i64 q x.2.1) 8 else bits .or .i64 q x.2.1) 240 = x.2.1 ∧ (bits .and .i64 (if reg = true then bits .or .i64 (bits .or .i64 q x.2.1) 8 else bits .or .i64 q x.2.1) 8 != 0) = reg := by decide +kernel
theorem op_minus : ∀ q ∈ [(4 : Int), 7], (0 ≤ bits .or .i64 q 128 ∧ bits .or .i64 q 128 ≤ 255) ∧ bits .or .i64 q 128 % 8 = q ∧ bits .or .i64 q 128 = bits .or .i64 128 q := by decide +kernel
theorem op_ext : ∀ q ∈ [(4 : Int), 7], (0 ≤ bits .or .i64 q 184 ∧ bits .or .i64 q 184 ≤ 255) ∧ bits .or .i64 q 184 % 8 = q ∧ bits .or .i64 q 184 = bits .or .i64 184 q := by decide +kernel
theorem op_moves : ∀ x ∈ moveL, (∃ nm, moveOf moveL x.2.1 x.2.2 = some nm) ∧ (0 ≤ bits .or .i64 (bits .or .i64 x.2.1 x.2.2) 1 ∧ bits .or .i64 (bits .or .i64 x.2.1 x.2.2) 1 ≤ 255) ∧ bits .or .i64 (bits .or .i64 x.2.1 x.2.2) 1 % 8 = 1 ∧ bits .and .i64 (bits .or .i64 (bits .or .i64 x.2.1 x.2.2) 1) 224 = x.2.1 ∧ bits .and .i64 (bits .or .i64 (bits .or .i64 x.2.1 x.2.2) 1) 24 = x.2.2 := by
  intro x hx
  refine ⟨?_, ?_⟩
  · refine Option.isSome_iff_exists.1 ?_
    revert x; decide +kernel
  · revert x; decide +kernel
theorem op_stores : ∀ x ∈ moveL, x.2.1 = 96 → (0 ≤ bits .or .i64 (bits .or .i64 x.2.1 x.2.2) 2 ∧ bits .or .i64 (bits .or .i64 x.2.1 x.2.2) 2 ≤ 255) ∧ bits .or .i64 (bits .or .i64 x.2.1 x.2.2) 2 % 8 = 2 ∧ bits .and .i64 (bits .or .i64 (bits .or .i64 x.2.1 x.2.2) 2) 224 = 96 ∧ bits .and .i64 (bits .or .i64 (bits .or .i64 x.2.1 x.2.2) 2) 24 = x.2.2 ∧ (0 ≤ bits .or .i64 (bits .or .i64 x.2.1 x.2.2) 3 ∧ bits .or .i64 (bits .or .i64 x.2.1 x.2.2) 3 ≤ 255) ∧ bits .or .i64 (bits .or .i64 x.2.1 x.2.2) 3 % 8 = 3 ∧ bits .and .i64 (bits .or .i64 (bits .or .i64 x.2.1 x.2.2) 3) 224 = 96 ∧ bits .and .i64 (bits .or .i64 (bits .or .i64 x.2.1 x.2.2) 3) 24 = x.2.2 ∧ (0 ≤ bits .or .i64 (bits .or .i64 192 x.2.2) 3 ∧ bits .or .i64 (bits .or .i64 192 x.2.2) 3 ≤ 255) ∧ bits .or .i64 (bits .or .i64 192 x.2.2) 3 % 8 = 3 ∧ bits .and .i64 (bits .or .i64 (bits .or .i64 192 x.2.2) 3) 224 = 192 ∧ bits .and .i64 (bits .or .i64 (bits .or .i64 192 x.2.2) 3) 24 = x.2.2 := by decide +kernel
theorem lock_mem {k : ByteArray} {fe : Bool} {v : Int} : ∀ {l : List (ByteArray × Int × Bool)}, lockF k fe l = some v → ∃ nm i fo, (nm, i, fo) ∈ l ∧ (fe = true → fo = true) ∧ v = if fe = true then i + 1 else i
  | [], h => by cases h
  | (nm, i, fo) :: l, h => by
    unfold lockF at h
    split at h
    · rename_i hc
      cases h
      exact ⟨nm, i, fo, by simp, hc.2, rfl⟩
    · obtain ⟨nm', i', fo', hm, h1, h2⟩ := lock_mem h
      exact ⟨nm', i', fo', List.mem_cons_of_mem _ hm, h1, h2⟩
theorem lock_finds (r : ByteArray) (hr : r.size ≠ 0) : ∀ x ∈ lockL, (0 ≤ x.2.1 ∧ x.2.1 ≤ 241) ∧ (lockG r x.2.1 lockL).size ≠ 0 ∧ (x.2.2 = true → (lockG r (x.2.1 + 1) lockL).size ≠ 0) := by
  intro x hx
  simp only [lockL, List.mem_cons, List.not_mem_nil, or_false] at hx
  have h2 : ∀ nm : ByteArray, nm.size ≠ 0 → (saidT [nm, r]).size ≠ 0 := fun nm hn => said_ne (by simp) (fun w hw => by
    simp only [List.mem_cons, List.not_mem_nil, or_false] at hw
    rcases hw with rfl | rfl <;> assumption)
  have h3 : ∀ nm : ByteArray, nm.size ≠ 0 → (saidT [nm, r, fetchT]).size ≠ 0 := fun nm hn => said_ne (by simp) (fun w hw => by
    simp only [List.mem_cons, List.not_mem_nil, or_false] at hw
    rcases hw with rfl | rfl | rfl
    · assumption
    · assumption
    · decide)
  rcases hx with rfl | rfl | rfl | rfl | rfl | rfl
  · refine ⟨by decide, ?_, fun _ => ?_⟩
    · simp only [lockG, if_true]; exact h2 _ (by decide)
    · simp [lockG, -ByteArray.size_eq_zero_iff]; exact h3 _ (by decide)
  · refine ⟨by decide, ?_, fun _ => ?_⟩
    · simp only [lockG, if_true]; exact h2 _ (by decide)
    · simp [lockG, -ByteArray.size_eq_zero_iff]; exact h3 _ (by decide)
  · refine ⟨by decide, ?_, fun _ => ?_⟩
    · simp only [lockG, if_true]; exact h2 _ (by decide)
    · simp [lockG, -ByteArray.size_eq_zero_iff]; exact h3 _ (by decide)
  · refine ⟨by decide, ?_, fun _ => ?_⟩
    · simp only [lockG, if_true]; exact h2 _ (by decide)
    · simp [lockG, -ByteArray.size_eq_zero_iff]; exact h3 _ (by decide)
  · refine ⟨by decide, ?_, fun h => by cases h⟩
    simp [lockG, -ByteArray.size_eq_zero_iff]; exact h2 _ (by decide)
  · refine ⟨by decide, ?_, fun h => by cases h⟩
    simp [lockG, -ByteArray.size_eq_zero_iff]; exact h2 _ (by decide)
end Go.Proofs.YtpjfnnlopcccaaaDoor
