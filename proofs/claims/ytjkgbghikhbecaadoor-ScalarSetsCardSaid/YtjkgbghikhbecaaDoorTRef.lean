/-
  The reference of layer 15: Has, In, add, Cast, Meet, Join; the law's may and one.
-/
import Derived.Test.YtjkgbghikhbecaaDoorTLen
import Derived.Test.YtjkgbghikhbecaaDoorBlk
import Derived.Lib.Hide
import Derived.Deep.Cut
import Derived.Deep.CutRange
import Derived.Deep.QuietTactic
import Derived.BigQuiet
namespace Go.Proofs.YtjkgbghikhbecaaDoor
open Go Go.RowKit Tn
set_option linter.unusedVariables false
set_option linter.unusedSimpArgs false
set_option maxRecDepth 100000
abbrev tnT : TypeId := 24
abbrev uv (x : B64) : Value := .int .u64 (n64 x)
abbrev tv (t : TN) : Value := .agg #[uv t.1, uv t.2]
theorem n64_zero : n64 0 = 0 := rfl
theorem n64_eq0 (x : B64) : (n64 x == 0) = decide (x = 0) := by
  rw [← n64_zero, n64_beq]; rfl
theorem n64_ne0 (x : B64) : (n64 x != 0) = !decide (x = 0) := by
  unfold bne; rw [n64_eq0]
instance (a b : TN) : Decidable (tIn a b) := by unfold tIn; infer_instance
theorem below_new (w : World) (o : Obj) : Below w.heap.size w (w.alloc o) := (Below.refl w.heap.size w).alloc (Nat.le_refl _) o
theorem xhas_any (t : TN) (n : B64) (w : World) : Calls Tryd.prog 38 #[tv t, uv n] w fun e w' => e = .returned (.bool (decide (has t n))) ∧ Below w.heap.size w w' := by
  have B := Lib.hid (below_new w (.cells #[uv t.1, uv t.2] tnT))
  obtain ⟨v, m⟩ := t
  have E : Hid ((n64 ((n ^^^ v) &&& ~~~m) == 0) = decide (has (v, m) n)) := n64_eq0 _
  have r1 := n64_xor
  have r2 := n64_andNot
  go_enter Tryd.func38, Tryd.ntmps38
  go_wp2_with fail
  go_ret
  exact ⟨by rw [E.out]; rfl, B.out⟩
theorem xin_any (a b : TN) (w : World) : Calls Tryd.prog 40 #[tv a, tv b] w fun e w' => e = .returned (.bool (decide (tIn a b))) ∧ Below w.heap.size w w' := by
  have B := Lib.hid (((Below.refl w.heap.size w).alloc (Nat.le_refl _) (.cells #[uv a.1, uv a.2] tnT)).alloc (by simp) (.cells #[uv b.1, uv b.2] tnT))
  obtain ⟨v, m⟩ := a
  obtain ⟨p, q⟩ := b
  have E1 := n64_eq0 (q &&& ~~~m)
  have E2 := n64_eq0 ((v ^^^ p) &&& ~~~m)
  have E : Hid ((decide (q &&& ~~~m = 0) && decide ((v ^^^ p) &&& ~~~m = 0)) = decide (tIn (v, m) (p, q))) := by
    rw [← Bool.decide_and]; rfl
  have r1 := n64_xor
  have r2 := n64_andNot
  by_cases h1 : q &&& ~~~m = 0
  · rw [decide_eq_true h1] at E1 E
    rw [Bool.true_and] at E
    clear h1
    go_enter Tryd.func40, Tryd.ntmps40
    go_wp2_with fail
    go_ret
    exact ⟨by rw [← E.out]; rfl, B.out⟩
  · rw [decide_eq_false h1] at E1 E
    rw [Bool.false_and] at E
    clear h1
    go_enter Tryd.func40, Tryd.ntmps40
    go_wp2_with fail
    go_ret
    exact ⟨by rw [← E.out]; rfl, B.out⟩
theorem keeps_drewN (w : World) (n : Nat) : Keeps (fun _ => False) w (w.drewN n) := ⟨rfl, rfl, rfl, Nat.le_refl _, fun _ _ _ => rfl⟩
theorem keeps_drew (w : World) : Keeps (fun _ => False) w w.drew := ⟨rfl, rfl, rfl, Nat.le_refl _, fun _ _ _ => rfl⟩
theorem keeps_below {w w' : World} (hb : Below w.heap.size w w') : Keeps (fun _ => False) w w' := Below.keeps hb (fun b h1 h2 => by omega)
/-- The result's block g, made behind the call's beginning. -/
structure RB (w : World) (g : Nat) (W : World) : Prop where
  blk : ∃ cs, cs.size = 2 ∧ Blk W g tnT cs
  below : Below w.heap.size w W
  new : w.heap.size ≤ g
theorem RB.keeps {w W W' : World} {g : Nat} (h : RB w g W) (k : Keeps (fun _ => False) W W') : RB w g W' := by
  obtain ⟨⟨cs, hs, hb⟩, h2, h3⟩ := h
  exact ⟨⟨cs, hs, hb.keeps k (fun h => h)⟩, h2.trans (k.below (fun _ h => h.elim) h2.size), h3⟩
theorem RB.fill {w W : World} {g : Nat} (h : RB w g W) (u1 u2 : Value) : Blk ((W.setCell ⟨g, 0, none⟩ u1).setCell ⟨g, 1, none⟩ u2) g tnT #[u1, u2] ∧ Below w.heap.size w ((W.setCell ⟨g, 0, none⟩ u1).setCell ⟨g, 1, none⟩ u2) := by
  obtain ⟨⟨⟨cs⟩, hs, hb⟩, h2, h3⟩ := h
  match cs, hs with
  | [a, b], _ => exact ⟨by simpa using (hb.set_ 0 u1).set_ 1 u2, (h2.setCell (p := ⟨g, 0, none⟩) h3 u1).setCell (p := ⟨g, 1, none⟩) h3 u2⟩
theorem RB.frozen {w W : World} {g : Nat} (h : RB w g W) : W.frozen? ⟨g, 0, none⟩ = false ∧ W.frozen? ⟨g, 1, none⟩ = false := by
  obtain ⟨⟨cs, hs, hb⟩, h2, h3⟩ := h
  exact ⟨hb.frozen 0, hb.frozen 1⟩
theorem RB.cells {w W : World} {g : Nat} (h : RB w g W) : ∃ a b, W.cell? ⟨g, 0, none⟩ = some a ∧ W.cell? ⟨g, 1, none⟩ = some b := by
  obtain ⟨⟨⟨cs⟩, hs, hb⟩, h2, h3⟩ := h
  match cs, hs with
  | [a, b], _ => exact ⟨a, b, hb.cell 0, hb.cell 1⟩
theorem one_box (a : TN) (w : World) : (((w.alloc (.cells #[uv a.1, uv a.2] tnT)).alloc (.cells #[.int .u64 0, .int .u64 0] tnT)).cell? ⟨w.heap.size, 0, none⟩ = some (uv a.1) ∧ ((w.alloc (.cells #[uv a.1, uv a.2] tnT)).alloc (.cells #[.int .u64 0, .int .u64 0] tnT)).cell? ⟨w.heap.size, 1, none⟩ = some (uv a.2)) ∧ RB w (w.heap.size + 1) ((w.alloc (.cells #[uv a.1, uv a.2] tnT)).alloc (.cells #[.int .u64 0, .int .u64 0] tnT)) := by
  have h1 := (Blk.new w tnT #[uv a.1, uv a.2]).alloc (.cells #[.int .u64 0, .int .u64 0] tnT)
  have h2 := Blk.new (w.alloc (.cells #[uv a.1, uv a.2] tnT)) tnT #[.int .u64 0, .int .u64 0]
  rw [show (w.alloc (.cells #[uv a.1, uv a.2] tnT)).heap.size = w.heap.size + 1 by simp] at h2
  exact ⟨⟨h1.cell 0, h1.cell 1⟩, ⟨_, rfl, h2⟩, ((Below.refl w.heap.size w).alloc (Nat.le_refl _) _).alloc (by simp) _, by omega⟩
theorem two_boxes (a b : TN) (w : World) : ((((w.alloc (.cells #[uv a.1, uv a.2] tnT)).alloc (.cells #[uv b.1, uv b.2] tnT)).alloc (.cells #[.int .u64 0, .int .u64 0] tnT)).cell? ⟨w.heap.size, 0, none⟩ = some (uv a.1) ∧ (((w.alloc (.cells #[uv a.1, uv a.2] tnT)).alloc (.cells #[uv b.1, uv b.2] tnT)).alloc (.cells #[.int .u64 0, .int .u64 0] tnT)).cell? ⟨w.heap.size, 1, none⟩ = some (uv a.2) ∧ (((w.alloc (.cells #[uv a.1, uv a.2] tnT)).alloc (.cells #[uv b.1, uv b.2] tnT)).alloc (.cells #[.int .u64 0, .int .u64 0] tnT)).cell? ⟨w.heap.size + 1, 0, none⟩ = some (uv b.1) ∧ (((w.alloc (.cells #[uv a.1, uv a.2] tnT)).alloc (.cells #[uv b.1, uv b.2] tnT)).alloc (.cells #[.int .u64 0, .int .u64 0] tnT)).cell? ⟨w.heap.size + 1, 1, none⟩ = some (uv b.2)) ∧
    RB w (w.heap.size + 1 + 1) (((w.alloc (.cells #[uv a.1, uv a.2] tnT)).alloc (.cells #[uv b.1, uv b.2] tnT)).alloc (.cells #[.int .u64 0, .int .u64 0] tnT)) := by
  have h1 := ((Blk.new w tnT #[uv a.1, uv a.2]).alloc (.cells #[uv b.1, uv b.2] tnT)).alloc (.cells #[.int .u64 0, .int .u64 0] tnT)
  have h2 := (Blk.new (w.alloc (.cells #[uv a.1, uv a.2] tnT)) tnT #[uv b.1, uv b.2]).alloc (.cells #[.int .u64 0, .int .u64 0] tnT)
  rw [show (w.alloc (.cells #[uv a.1, uv a.2] tnT)).heap.size = w.heap.size + 1 by simp] at h2
  have h3 := Blk.new ((w.alloc (.cells #[uv a.1, uv a.2] tnT)).alloc (.cells #[uv b.1, uv b.2] tnT)) tnT #[.int .u64 0, .int .u64 0]
  rw [show ((w.alloc (.cells #[uv a.1, uv a.2] tnT)).alloc (.cells #[uv b.1, uv b.2] tnT)).heap.size = w.heap.size + 1 + 1 by simp] at h3
  exact ⟨⟨h1.cell 0, h1.cell 1, h2.cell 0, h2.cell 1⟩, ⟨_, rfl, h3⟩, (((Below.refl w.heap.size w).alloc (Nat.le_refl _) _).alloc (by simp) _).alloc (by simp; omega) _, by omega⟩
end Go.Proofs.YtjkgbghikhbecaaDoor
