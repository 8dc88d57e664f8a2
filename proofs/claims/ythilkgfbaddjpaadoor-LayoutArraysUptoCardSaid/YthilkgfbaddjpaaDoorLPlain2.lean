/-
  Layer 7, plainly: a field lies in its whole; a path is walked piece by piece.
-/
import Derived.Test.YthilkgfbaddjpaaDoorLPlain
namespace Go.Proofs.YthilkgfbaddjpaaDoor
open Go Go.RowKit
set_option linter.unusedVariables false
set_option linter.unusedSimpArgs false
theorem tyAt_get {l : List Ty} {j : Nat} (h1 : 1 ≤ j) (hj : j ≤ l.length) : l[j - 1]? = some (tyAt l j) := by
  obtain ⟨t, ht⟩ : ∃ t, l[j - 1]? = some t := ⟨_, List.getElem?_eq_getElem (by omega)⟩
  have hat : tyAt l j = t := by unfold tyAt; rw [if_neg (by omega), List.getD_eq_getElem?_getD, ht]; rfl
  rw [hat]
  exact ht
theorem Good.strip_size {l : List Ty} (h : Good l) : ∀ (f j : Nat), j ≤ l.length → (szL l).getD (stripF l f j) (0, 0) = (szL l).getD j (0, 0)
  | 0, j, hj => rfl
  | f + 1, j, hj => by
    unfold stripF
    split
    · rename_i h8
      obtain ⟨j1, t1, t2, _⟩ := h.typedef hj h8
      rw [h.strip_size f _ (by omega), h.sizes_eq j j1 hj _ (tyAt_get j1 hj)]
      unfold msrA
      rw [if_neg (by omega), if_pos h8]
    · rfl
theorem Good.struct_size {l : List Ty} (h : Good l) {j : Nat} (hj : j ≤ l.length) (hk : (tyAt l j).kind = 4) : (szL l).getD j (0, 0) = ((tyAt l j).size, 0) := by
  have h0 : 1 ≤ j := by
    rcases Nat.eq_zero_or_pos j with rfl | h0
    · unfold tyAt noTy at hk; simp at hk
    · exact h0
  rw [h.sizes_eq j h0 hj _ (tyAt_get h0 hj)]
  unfold msrA
  rw [if_neg (by omega), if_neg (by omega), if_neg (by omega)]
theorem Good.code0 {l : List Ty} (h : Good l) {j : Nat} (h1 : 1 ≤ j) : ((szL l).getD j (0, 0)).2 = 0 := by
  rw [List.getD_eq_getElem?_getD]
  cases e : (szL l)[j]? with
  | none => rfl
  | some z => exact h.sizes j z h1 e
/-- A path leads to what lies in its whole. -/
theorem Good.walk {l : List Ty} (h : Good l) : ∀ (ps : List ByteArray) (off : Int) (j : Nat), j ≤ l.length → ∀ x, walkP l ps off j = some x →
    x.2 ≤ l.length ∧ off ≤ x.1 ∧ x.1 - off + ((szL l).getD x.2 (0, 0)).1 ≤ ((szL l).getD j (0, 0)).1
  | [], off, j, hj, x, hx => by
    cases hx
    exact ⟨hj, Int.le_refl _, by simp only; omega⟩
  | nm :: ps, off, j, hj, x, hx => by
    rw [walkP_cons] at hx
    cases hm : memF (tyAt l (stripS l j)) nm with
    | none => rw [hm] at hx; cases hx
    | some m =>
      rw [hm] at hx
      have hs : stripS l j ≤ l.length := h.strip_le 2000 j hj
      obtain ⟨m1, m2, m3, m4, _, m6, _⟩ := h.member (j := stripS l j) hs hm
      obtain ⟨k1, k2, k3⟩ := h.walk ps _ _ (by omega) x hx
      have e1 := h.struct_size hs m4
      have e2 : (szL l).getD (stripS l j) (0, 0) = (szL l).getD j (0, 0) := h.strip_size 2000 j hj
      rw [e1] at e2
      have e3 : ((szL l).getD j (0, 0)).1 = (tyAt l (stripS l j)).size := by rw [← e2]
      exact ⟨k1, by omega, by omega⟩
theorem walk_shift (l : List Ty) : ∀ (ps : List ByteArray) (off c : Int) (j : Nat), walkP l ps (off + c) j = (walkP l ps off j).map fun x => (x.1 + c, x.2)
  | [], off, c, j => rfl
  | nm :: ps, off, c, j => by
    rw [walkP_cons, walkP_cons]
    cases memF (tyAt l (stripS l j)) nm with
    | none => rfl
    | some m =>
      show walkP l ps (off + c + m.off / 8) m.ty.toNat = (walkP l ps (off + m.off / 8) m.ty.toNat).map _
      rw [show off + c + m.off / 8 = off + m.off / 8 + c by omega, walk_shift l ps]
theorem walk_append (l : List Ty) : ∀ (ps qs : List ByteArray) (off : Int) (j : Nat), walkP l (ps ++ qs) off j = (walkP l ps off j).bind fun x => walkP l qs x.1 x.2
  | [], qs, off, j => rfl
  | nm :: ps, qs, off, j => by
    rw [List.cons_append, walkP_cons, walkP_cons]
    cases memF (tyAt l (stripS l j)) nm with
    | none => rfl
    | some m => exact walk_append l ps qs _ _
/-- Piece by piece. -/
theorem Good.pieces {l : List Ty} (h : Good l) (ps : List ByteArray) (cut : Nat) (j : Nat) (hj : j ≤ l.length) (x : Int × Nat) (hx : walkP l ps 0 j = some x) :
    ∃ y z, walkP l (ps.take cut) 0 j = some y ∧ y.2 ≤ l.length ∧ walkP l (ps.drop cut) 0 y.2 = some z ∧ y.1 + z.1 = x.1 ∧ z.2 = x.2 := by
  rw [← List.take_append_drop cut ps, walk_append] at hx
  cases hy : walkP l (ps.take cut) 0 j with
  | none => rw [hy] at hx; cases hx
  | some y =>
    rw [hy] at hx
    have hx2 : walkP l (ps.drop cut) (0 + y.1) y.2 = some x := by rw [Int.zero_add]; exact hx
    rw [walk_shift] at hx2
    cases hz : walkP l (ps.drop cut) 0 y.2 with
    | none => rw [hz] at hx2; cases hx2
    | some z =>
      rw [hz] at hx2
      cases hx2
      exact ⟨y, z, rfl, (h.walk _ 0 j hj y hy).1, hz, by simp only; omega, rfl⟩
end Go.Proofs.YthilkgfbaddjpaaDoor
