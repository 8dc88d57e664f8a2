/-
  Reaches of package shape: the search, walked.
-/
import Derived.Test.YticklgoegmobbaaDoorSCheck
import Derived.Test.YticklgoegmobbaaDoorSReach
import Derived.WalkSmall
import Derived.Maps.AppendAt
import Derived.Laws.OwnMore
import Derived.Lib.SlBytesRow
namespace Go.Proofs.YticklgoegmobbaaDoor
open Go Go.RowKit
set_option linter.unusedVariables false
set_option linter.unusedSimpArgs false
set_option maxRecDepth 100000
theorem wpList_append_run {P : Program} {ops : Array Oper} {rest : List Oper} {o : Oper} {a : Act} {w : World} {Q : Exit → Act → World → Prop} (hgd : o.guard = none) (s x : Operand) (t : TypeId)
    (ho : o.op = .call { callee := .builtin .append, args := #[s, x], argTypes := #[t, t] }) (v xv v' : Value) (w' : World) (hs : a.eval s = v) (hx : a.eval x = xv) (ty : TypeId) (hty : o.type = ty) (hrun : (Builtin.append_ #[t, t] ty #[v, xv]).run P w = .ok v' w')
    (h : wpList P ops Q rest (a.put o.dst v') w') : wpList P ops Q (o :: rest) a w := by
  refine wpList_plain hgd fun K hK => ?_
  subst hty
  unfold Oper.wp execOp
  simp only [ho, resolve, invoke, builtin, Sem.run_bind, Sem.run_pure, Result.andThen_ok, List.map_toArray, List.map_cons, List.map_nil, hs, hx, hrun]
  exact hK _ _ h
theorem infoI : (Tryd.prog.info? 3).map (fun i => (i.zero, i.size, i.bytes)) = some (some (.int .i64 0), 1, 8) := by kernel_rfl
theorem append_ints {w : World} {B B' : Nat} {v V : Value} {n : Nat} {xs : List Value} {L : List Int} (ho : w.ownsRow B 3 1 v n xs) (hF : Fresh B' w V L) (hn : n + L.length ≤ 1048576) (hB : B ≤ w.heap.size) :
    ∃ v' w', (Builtin.append_ #[29, 29] 29 #[v, V]).run Tryd.prog w = .ok v' w' ∧ w'.ownsRow B 3 1 v' (n + L.length) (xs ++ L.map (Value.int .i64)) ∧ w.grownBy w' v.ownBlock := by
  obtain ⟨i0, hi, hz0, hz1, hz2⟩ := info_parts infoI
  rcases hF with ⟨rfl, rfl⟩ | ⟨g, _, rfl, hb⟩
  · refine ⟨v, w, run_append_owned_none w B _ _ _ i0 1 Tryd.underlying29 hi v n xs ho, ?_, ⟨rfl, rfl, rfl, Nat.le_refl _, fun _ _ _ => rfl⟩⟩
    simpa using ho
  · obtain ⟨v', w', hr, h1, h2, _, _⟩ := run_append_own_at (P := Tryd.prog) w B 29 29 3 i0 (.int .i64 0) 1 8 Tryd.underlying29 hi hz0 hz1 hz2 rfl (by decide) v n xs ho ⟨g, 0, none⟩ L.length L.length (L.map (Value.int .i64)) (by simp) (fun j u hj => by
      rw [show (⟨g, 0, none⟩ : Addr).add j = ⟨g, j, none⟩ by unfold Addr.add; split <;> simp_all, hb.cell j]
      simpa [intsA] using hj) (fun u hu => by
        obtain ⟨z, _, rfl⟩ := List.mem_map.1 hu
        rfl) (by unfold maxLen; omega) (by omega) hB
    exact ⟨v', w', hr, h1, h2⟩
theorem ownsRow_blocks {w w' : World} {base : Nat} {e : TypeId} {s : Nat} {v : Value} {n : Nat} {xs : List Value} (h : w.ownsRow base e s v n xs) (hb : ∀ k, base ≤ k → k < w.heap.size → w'.heap[k]? = w.heap[k]?) : w'.ownsRow base e s v n xs := by
  refine ⟨h.1, ?_⟩
  rcases h.2 with hn | ⟨g, cap, cur, rfl, h1, h2, rest⟩
  · exact .inl hn
  · have hlt : g < w.heap.size := by
      rcases Nat.lt_or_ge g w.heap.size with hlt | hge
      · exact hlt
      · rw [Array.getElem?_eq_none hge] at h2; cases h2
    exact .inr ⟨g, cap, cur, rfl, h1, (hb g h1 hlt).trans h2, rest⟩
theorem own_cut {w : World} {base : Nat} {e : TypeId} {v : Value} {q : Nat} {xs : List Value} {x : Value} (h : w.ownsRow base e 1 v (q + 1) (xs ++ [x])) (hq : xs.length = q) :
    ∃ g cap, v = .slice (some ⟨g, 0, none⟩) (q + 1) cap ∧ base ≤ g ∧ q + 1 ≤ cap ∧ w.cell? ⟨g, q, none⟩ = some x ∧ w.ownsRow base e 1 (.slice (some ⟨g, 0, none⟩) q cap) q xs := by
  have h0 := h
  rcases h.2 with ⟨_, hn⟩ | ⟨g, cap, cur, rfl, h1, h2, h3, h4, h5, h6⟩
  · omega
  · refine ⟨g, cap, rfl, h1, h3, ?_, ownsRow_pop (by omega) h0⟩
    have := h0.cellAt q (by omega)
    rw [this, List.getElem?_append_right (by omega), hq, Nat.sub_self]
    rfl
def markW (w : World) (g i : Nat) : Bool := match w.cell? ⟨g, i, none⟩ with | some (.bool b) => b | _ => false
theorem markW_row {w : World} {g n i : Nat} {t : TypeId} {R : Nat → Bool} (h : Blk w g t (rowB n R)) (hi : i < n) : markW w g i = R i := by
  unfold markW
  rw [h.cell i, rowB_get n R i hi]
theorem left_congr {R R' : Nat → Bool} {n : Nat} (h : ∀ i, i < n → R i = R' i) : left R n = left R' n := by
  unfold left
  exact List.countP_congr fun i hi => by rw [h i (List.mem_range.1 hi)]
def lenV : Value → Nat
  | .slice _ n _ => n
  | _ => 0
theorem lenV_own {w : World} {base : Nat} {e : TypeId} {s : Nat} {v : Value} {n : Nat} {xs : List Value} (h : w.ownsRow base e s v n xs) : lenV v = n := by
  rcases h.2 with ⟨rfl, rfl⟩ | ⟨g, cap, cur, rfl, _⟩ <;> rfl
def natsV (T : List Nat) : List Value := T.map fun (t : Nat) => Value.int .i64 (t : Int)
theorem nats_ints {L : List Int} (h : ∀ t, t ∈ L → 0 ≤ t) : L.map (Value.int .i64) = natsV (L.map Int.toNat) := by
  unfold natsV
  rw [List.map_map]
  exact List.map_congr_left fun t ht => by simp [Int.toNat_of_nonneg (h t ht)]
theorem mark_row (X : Nat → Slot) (R : Nat → Bool) (a : Nat) : (fun i => R i || (decide (a ≤ i) && decide (i < a + slN (X a)))) = mark X R a := by
  funext i
  unfold mark slN
  congr 1
  cases hw : wideS (X a)
  · rw [Bool.eq_iff_iff]; simp; omega
  · rw [Bool.eq_iff_iff]; simp; omega
theorem row_put (n a j : Nat) (R : Nat → Bool) : (rowB n (fun i => R i || (decide (a ≤ i) && decide (i < a + j)))).setIfInBounds (a + j) (.bool true) = rowB n (fun i => R i || (decide (a ≤ i) && decide (i < a + (j + 1)))) := by
  rw [rowB_set]
  congr 1
  funext i
  by_cases h : i = a + j
  · subst h; simp
  · rw [if_neg h]
    congr 1
    rw [Bool.eq_iff_iff]
    simp
    omega
theorem row_zero (n a : Nat) (R : Nat → Bool) : rowB n R = rowB n (fun i => R i || (decide (a ≤ i) && decide (i < a + 0))) := by
  congr 1
  funext i
  have : (decide (a ≤ i) && decide (i < a + 0)) = false := by simp
  rw [this, Bool.or_false]
/-- What Reaches answers. -/
def ReachAns (B : Nat) (X : Nat → Slot) (n : Nat) (e : Ending) (w' : World) : Prop :=
  ∃ g R, B ≤ g ∧ e = .returned (.slice (some ⟨g, 0, none⟩) n n) ∧ Blk w' g 4 (rowB n R) ∧ (chk X n = none → ∀ i, i < n → (R i = true ↔ Reached X i)) ∧ (chk X n ≠ none → ∀ i, i < n → R i = false)
set_option maxHeartbeats 1000000 in
theorem reaches_bad (A : Option Addr) (n c k : Nat) (X : Nat → Slot) (hn : n ≤ 140737488355328) (w : World) (h : Slots w A n X) (hS : Sizes w) (hk : chk X n = some k) :
    Calls Tryd.prog 13 #[.slice A n c] w fun e w' => ReachAns w.heap.size X n e w' ∧ Below w.heap.size w w' := by
  have hmk := make_bools n hn w
  have hb0 : Below w.heap.size w (w.alloc (.cells (rowB n fun _ => false) 4)) := (Below.refl _ w).alloc (Nat.le_refl _) _
  have CF := Lib.hid (firsts_bad A n c k X _ (h.below hb0) (hS.below hb0) hk)
  have B0 := Lib.hid hb0
  have HK := Lib.hid hk
  have R0 := Lib.hid (Blk.new w 4 (rowB n fun _ => false))
  clear hb0 h hS hk
  go_enter Tryd.func13, Tryd.ntmps13
  go_wp2_with (go_at_call 18; refine CF.out.mono ?_; rintro e w1 ⟨rfl, hb⟩; have HB := Lib.hid hb; clear hb)
  go_ret
  exact ⟨⟨w.heap.size, fun _ => false, Nat.le_refl _, rfl, R0.out.below HB.out, fun h => absurd (HK.out.symm.trans h) (by simp), fun _ _ _ => rfl⟩, B0.out.trans (HB.out.mono B0.out.size)⟩
end Go.Proofs.YticklgoegmobbaaDoor
