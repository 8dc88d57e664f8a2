/-
  next: the places to which an instruction may go.
-/
import Derived.Test.YticklgoegmobbaaDoorSHolds
import Derived.Test.YticklgoegmobbaaDoorSWhole2
namespace Go.Proofs.YticklgoegmobbaaDoor
open Go Go.RowKit
set_option linter.unusedVariables false
set_option linter.unusedSimpArgs false
set_option maxRecDepth 100000
def intsA (L : List Int) : Array Value := (L.map (Value.int .i64)).toArray
/-- A new row of these numbers, or none. -/
def Fresh (B : Nat) (w : World) (v : Value) (L : List Int) : Prop := (L = [] ∧ v = .slice none 0 0) ∨ (∃ g, B ≤ g ∧ v = .slice (some ⟨g, 0, none⟩) L.length L.length ∧ Blk w g 3 (intsA L))
set_option maxHeartbeats 2000000 in
theorem next_any (o d s f m : Int) (i : Nat) (hi : i ≤ 1048576) (hf : -32768 ≤ f ∧ f ≤ 32767) (w : World) :
    Calls Tryd.prog 23 #[insV o d s f m, .int .i64 i] w fun e w' => (∃ v, e = .returned v ∧ Fresh w.heap.size w' v (nxt ⟨o, d, s, f, m⟩ i)) ∧ Below w.heap.size w w' := by
  have n5 := Cells5.new w ⟨o, d, s, f, m⟩ 39
  have N5 := Lib.hid n5
  clear n5
  have LT := Lib.hid (lt_box w (.cells #[.int .i64 o, .int .i64 d, .int .i64 s, .int .i64 f, .int .i64 m] 39))
  have B0 : Hid (Below w.heap.size w (w.alloc (.cells #[.int .i64 o, .int .i64 d, .int .i64 s, .int .i64 f, .int .i64 m] 39))) := (Below.refl _ w).alloc (Nat.le_refl _) _
  have CT := Lib.hid (target_any o d s f m i (by omega) hf)
  have CA := Lib.hid (aims_any o d s f m)
  have CS := Lib.hid (slots_any o d s f m)
  unfold insV at CT CA CS ⊢
  have e1 : IntKind.i64.wrap ((i : Int) + 1) = (i : Int) + 1 := by rw [IntKind.wrap_i64]; omega
  have e2 : IntKind.i64.wrap ((i : Int) + (slN ⟨o, d, s, f, m⟩ : Nat)) = (i : Int) + (slN ⟨o, d, s, f, m⟩ : Nat) := by rw [IntKind.wrap_i64]; have : slN ⟨o, d, s, f, m⟩ ≤ 2 := (by unfold slN; split <;> omega); omega
  cases h1 : (o == 149)
  · cases h2 : (o == 5)
    · cases h3 : (aimS ⟨o, d, s, f, m⟩)
      · have hL : Hid (nxt ⟨o, d, s, f, m⟩ i = [(i : Int) + (slN ⟨o, d, s, f, m⟩ : Nat)]) := by unfold nxt; simp [h1, h2, h3, Hid]
        rw [h3] at CA
        go_enter Tryd.func23, Tryd.ntmps23
        go_wp2_with (first
          | (go_at_call 35; refine (CA.out _).mono ?_; rintro e w1 ⟨rfl, hb⟩; obtain ⟨d0, d1, d2, d3, d4⟩ := N5.out.below hb LT.out; have E1 := Lib.hid hb; clear hb)
          | (go_at_call 21; refine (CS.out _).mono ?_; rintro e w2 ⟨rfl, hb⟩; have E2 : Hid (Below w.heap.size w w2) := (B0.out.trans (E1.out.mono B0.out.size)).trans (hb.mono (B0.out.trans (E1.out.mono B0.out.size)).size); clear hb))
        go_ret
        rw [hL.out]
        exact ⟨⟨_, rfl, .inr ⟨w2.heap.size, E2.out.size, rfl, Blk.new w2 _ _⟩⟩, E2.out.alloc E2.out.size _⟩
      · have hL : Hid (nxt ⟨o, d, s, f, m⟩ i = [(i : Int) + 1, (i : Int) + 1 + f]) := by unfold nxt; simp [h1, h2, h3, Hid, tgt]
        rw [h3] at CA
        go_enter Tryd.func23, Tryd.ntmps23
        go_wp2_with (first
          | (go_at_call 35; refine (CA.out _).mono ?_; rintro e w1 ⟨rfl, hb⟩; obtain ⟨d0, d1, d2, d3, d4⟩ := N5.out.below hb LT.out; have E1 := Lib.hid hb; clear hb)
          | (go_at_call 36; refine (CT.out _).mono ?_; rintro e w2 ⟨rfl, hb⟩; have E2 : Hid (Below w.heap.size w w2) := (B0.out.trans (E1.out.mono B0.out.size)).trans (hb.mono (B0.out.trans (E1.out.mono B0.out.size)).size); clear hb))
        go_ret
        rw [hL.out]
        exact ⟨⟨_, rfl, .inr ⟨w2.heap.size, E2.out.size, rfl, Blk.new w2 _ _⟩⟩, E2.out.alloc E2.out.size _⟩
    · have hL : Hid (nxt ⟨o, d, s, f, m⟩ i = [(i : Int) + 1 + f]) := by unfold nxt; simp [h1, h2, Hid, tgt]
      go_enter Tryd.func23, Tryd.ntmps23
      go_wp2_with (go_at_call 36; refine (CT.out _).mono ?_; rintro e w2 ⟨rfl, hb⟩; have E2 : Hid (Below w.heap.size w w2) := B0.out.trans (hb.mono B0.out.size); clear hb)
      go_ret
      rw [hL.out]
      exact ⟨⟨_, rfl, .inr ⟨w2.heap.size, E2.out.size, rfl, Blk.new w2 _ _⟩⟩, E2.out.alloc E2.out.size _⟩
  · have hL : Hid (nxt ⟨o, d, s, f, m⟩ i = []) := by unfold nxt; simp [h1, Hid]
    go_enter Tryd.func23, Tryd.ntmps23
    go_wp2_with fail
    go_ret
    rw [hL.out]
    exact ⟨⟨_, rfl, .inl ⟨rfl, rfl⟩⟩, B0.out⟩
end Go.Proofs.YticklgoegmobbaaDoor
