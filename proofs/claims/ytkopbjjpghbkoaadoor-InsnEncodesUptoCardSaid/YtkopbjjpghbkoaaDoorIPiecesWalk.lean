/-
  The law InsnPieces, walked.
-/
import Derived.Test.YtkopbjjpghbkoaaDoorISame
import Derived.Laws.OwnMore
namespace Go.Proofs.YtkopbjjpghbkoaaDoor
open Go Go.RowKit
set_option linter.unusedVariables false
theorem wpList_append_run {P : Program} {ops : Array Oper} {rest : List Oper} {o : Oper} {a : Act} {w : World} {Q : Exit → Act → World → Prop} (hgd : o.guard = none) (s x : Operand) (t : TypeId)
    (ho : o.op = .call { callee := .builtin .append, args := #[s, x], argTypes := #[t, t] }) (v xv v' : Value) (w' : World) (hs : a.eval s = v) (hx : a.eval x = xv) (ty : TypeId) (hty : o.type = ty) (hrun : (Builtin.append_ #[t, t] ty #[v, xv]).run P w = .ok v' w')
    (h : wpList P ops Q rest (a.put o.dst v') w') : wpList P ops Q (o :: rest) a w := by
  refine wpList_plain hgd fun K hK => ?_
  subst hty
  unfold Oper.wp execOp
  simp only [ho, resolve, invoke, builtin, Sem.run_bind, Sem.run_pure, Result.andThen_ok, List.map_toArray, List.map_cons, List.map_nil, hs, hx, hrun]
  exact hK _ _ h
def cellsAll (X : Nat → Slot) (n : Nat) : List Value := (List.range n).flatMap fun k => (X k).cells
theorem cellsAll_succ (X : Nat → Slot) (n : Nat) : cellsAll X (n + 1) = cellsAll X n ++ (X n).cells := by simp [cellsAll, List.range_succ]
theorem cellsAll_length (X : Nat → Slot) (n : Nat) : (cellsAll X n).length = n * 5 := by
  induction n with
  | zero => rfl
  | succ n ih => rw [cellsAll_succ, List.length_append, ih]; simp [Slot.cells]; omega
theorem cellsAll_get (X : Nat → Slot) : ∀ (n k j : Nat), k < n → j < 5 → (cellsAll X n)[k * 5 + j]? = (X k).cells[j]?
  | 0, k, j, hk, _ => by omega
  | n + 1, k, j, hk, hj => by
    rw [cellsAll_succ]
    have hl := cellsAll_length X n
    rcases Nat.lt_or_ge k n with h | h
    · rw [List.getElem?_append_left (by omega)]
      exact cellsAll_get X n k j h hj
    · have : k = n := by omega
      subst this
      rw [List.getElem?_append_right (by omega), show k * 5 + j - (cellsAll X k).length = j by omega]
theorem cellsAll_one (X : Nat → Slot) (n : Nat) (u : Value) (h : u ∈ cellsAll X n) : u.oneCell' = true := by
  simp only [cellsAll, List.mem_flatMap, List.mem_range, Slot.cells, List.mem_cons, List.not_mem_nil, or_false] at h
  obtain ⟨k, _, h⟩ := h
  rcases h with rfl | rfl | rfl | rfl | rfl <;> rfl
/-- The one list, then the other. -/
def both (X Y : Nat → Slot) (n : Nat) : Nat → Slot := fun i => if i < n then X i else Y (i - n)
theorem both_cells (X Y : Nat → Slot) (n : Nat) : ∀ m, cellsAll (both X Y n) (n + m) = cellsAll X n ++ cellsAll Y m
  | 0 => by
    rw [Nat.add_zero, show cellsAll Y 0 = [] from rfl, List.append_nil]
    unfold cellsAll
    exact congrArg List.flatten (List.map_congr_left fun i hi => by rw [both, if_pos (List.mem_range.1 hi)])
  | m + 1 => by
    rw [← Nat.add_assoc, cellsAll_succ, both_cells X Y n m, cellsAll_succ, List.append_assoc]
    congr 2
    rw [both, if_neg (by omega), Nat.add_sub_cancel_left]
theorem both_bytes (X Y : Nat → Slot) (n : Nat) : ∀ m, encAll (both X Y n) (n + m) = encAll X n ++ encAll Y m
  | 0 => by
    rw [Nat.add_zero, show encAll Y 0 = [] from rfl, List.append_nil]
    unfold encAll
    exact congrArg List.flatten (List.map_congr_left fun i hi => by rw [both, if_pos (List.mem_range.1 hi)])
  | m + 1 => by
    rw [← Nat.add_assoc, encAll_succ, both_bytes X Y n m, encAll_succ, List.append_assoc]
    congr 2
    rw [both, if_neg (by omega), Nat.add_sub_cancel_left]
theorem both_ok (X Y : Nat → Slot) (n m : Nat) : AllOk (both X Y n) (n + m) ↔ AllOk X n ∧ AllOk Y m := by
  constructor
  · intro h
    refine ⟨fun i hi => ?_, fun i hi => ?_⟩
    · have := h i (by omega)
      rwa [both, if_pos hi] at this
    · have := h (n + i) (by omega)
      rwa [both, if_neg (by omega), Nat.add_sub_cancel_left] at this
  · rintro ⟨h1, h2⟩ i hi
    unfold both
    split
    · rename_i h; exact h1 i h
    · exact h2 _ (by omega)
theorem slots_of_own {w : World} {base n : Nat} {v : Value} {X : Nat → Slot} (h : w.ownsRow base 37 5 v n (cellsAll X n)) : ∃ A c, v = .slice A n c ∧ Slots w A n X := by
  obtain ⟨A, c, rfl, hc⟩ := own_form_any h
  refine ⟨A, c, rfl, fun i hi => ?_⟩
  obtain ⟨g, rfl, hg, hcell⟩ := hc (by omega)
  refine ⟨g, 0, rfl, hg, ?_⟩
  rw [Nat.zero_add]
  exact ⟨hcell _ _ (cellsAll_get X n i 0 hi (by omega)), hcell _ _ (cellsAll_get X n i 1 hi (by omega)), hcell _ _ (cellsAll_get X n i 2 hi (by omega)), hcell _ _ (cellsAll_get X n i 3 hi (by omega)), hcell _ _ (cellsAll_get X n i 4 hi (by omega))⟩
/-- An append of a list of slots, nil let in, to a row of the call's own. -/
theorem append_slots {w0 w : World} {v : Value} {n m c : Nat} {xs : List Value} {A : Option Addr} {Y : Nat → Slot} (hb : Below w0.heap.size w0 w) (ho : w.ownsRow w0.heap.size 37 5 v n xs) (hY : Slots w A m Y) (hA : A = none → m = 0 ∧ c = 0) (hnm : n + m ≤ 2097152) :
    ∃ v' w', (Builtin.append_ #[22, 22] 22 #[v, .slice A m c]).run Tryd.prog w = .ok v' w' ∧ w'.ownsRow w0.heap.size 37 5 v' (n + m) (xs ++ cellsAll Y m) ∧ Below w0.heap.size w0 w' := by
  obtain ⟨i0, hi, hz0, hz1, hz2⟩ := info_parts info37
  rcases A with _ | ad
  · obtain ⟨rfl, rfl⟩ := hA rfl
    refine ⟨v, w, run_append_owned_none w w0.heap.size _ _ _ i0 5 Tryd.underlying22 hi v n xs ho, ?_, hb⟩
    rw [Nat.add_zero, show cellsAll Y 0 = [] from rfl, List.append_nil]
    exact ho
  · obtain ⟨v', w', hr, h1, h2, _, _⟩ := run_append_own_at (P := Tryd.prog) w w0.heap.size 22 22 37 i0 (.agg #[.int .i64 0, .int .i64 0, .int .i64 0, .int .i64 0, .int .i64 0]) 5 40 Tryd.underlying22 hi hz0 hz1 hz2 rfl (by decide) v n xs ho ad m c (cellsAll Y m) (cellsAll_length Y m) (fun j u hj => by
      have hlt : j < m * 5 := by
        have := (List.getElem?_eq_some_iff.1 hj).1
        rwa [cellsAll_length] at this
      obtain ⟨b, off, e, _, c0, c1, c2, c3, c4⟩ := hY (j / 5) (by omega)
      obtain rfl := Option.some.inj e
      rw [Go.WideShapes.add_plain]
      have e5 : j = j / 5 * 5 + j % 5 := by omega
      rw [e5, cellsAll_get Y m (j / 5) (j % 5) (by omega) (by omega)] at hj
      have hr : j % 5 = 0 ∨ j % 5 = 1 ∨ j % 5 = 2 ∨ j % 5 = 3 ∨ j % 5 = 4 := by omega
      rcases hr with h | h | h | h | h <;> rw [h] at hj <;> simp only [Slot.cells, List.getElem?_cons_zero, List.getElem?_cons_succ, Option.some.injEq] at hj <;> subst hj
      · rw [show off + j = off + j / 5 * 5 by omega]; exact c0
      · rw [show off + j = off + j / 5 * 5 + 1 by omega]; exact c1
      · rw [show off + j = off + j / 5 * 5 + 2 by omega]; exact c2
      · rw [show off + j = off + j / 5 * 5 + 3 by omega]; exact c3
      · rw [show off + j = off + j / 5 * 5 + 4 by omega]; exact c4) (cellsAll_one Y m) (by unfold maxLen; omega) (by omega) hb.size
    exact ⟨v', w', hr, h1, hb.grown h2 hb.size (fun k e => (ho.lt k e).1)⟩
theorem bstr_app (a b : List UInt8) : bstr (a ++ b) = bstr a ++ bstr b := by
  apply ByteArray.ext
  simp [bstr, ByteArray.data_append]
set_option maxRecDepth 100000 in
set_option maxHeartbeats 1000000 in
theorem pieces_walk (A A' : Option Addr) (n m c c' : Nat) (X Y : Nat → Slot) (w : World) (hnm : n + m ≤ 1048576) (hX : Slots w A n X) (hY : Slots w A' m Y) (hA : A = none → n = 0 ∧ c = 0) (hA' : A' = none → m = 0 ∧ c' = 0) (hS : Sizes w) :
    Calls Tryd.prog 6 #[.slice A n c, .slice A' m c'] w fun e w' => e = .returned (.bool true) ∧ Below w.heap.size w w' := by
  have HS := Lib.hid hS
  have HX := Lib.hid hX
  have HY := Lib.hid hY
  have HA := Lib.hid hA
  have HA' := Lib.hid hA'
  have HNM := Lib.hid hnm
  have CE := Lib.hid (encode_any A n c X (by omega) w hX)
  have CF := Lib.hid (fun w h => encode_any A' m c' Y (by omega) w h)
  have CN := Lib.hid encode_any
  have CZ := Lib.hid awake_any
  have HM2 : Hid (0 + n + m ≤ 2097152) := by unfold Hid; omega
  have HN2 : Hid (0 + n ≤ 2097152) := by unfold Hid; omega
  clear hS hX hY hA hA'
  by_cases hok : AllOk X n ∧ AllOk Y m
  · have eu : encAns (both X Y n) (n + m) = .returned (.tuple #[.string (bstr (encAll X n) ++ bstr (encAll Y m)), .int .i64 0]) := by
      rw [encAns_ok ((both_ok X Y n m).2 hok), both_bytes, bstr_app]
    rw [encAns_ok hok.1] at CE
    rw [encAns_ok hok.2] at CF
    have sx : (bstr (encAll X n)).size = 8 * n := by rw [bstr_size, encAll_length]; omega
    have sy : (bstr (encAll Y m)).size = 8 * m := by rw [bstr_size, encAll_length]; omega
    have s1 : ¬ (8 * n + 8 * m > 9223372036854775807) := by omega
    have e8 : wrap64 (8 * (n : Int)) = 8 * (n : Int) := by unfold wrap64; omega
    have EU := Lib.hid eu
    clear eu hok
    generalize bstr (encAll X n) = bx at CE EU sx
    generalize bstr (encAll Y m) = by' at CF EU sy
    go_enter Tryd.func6, Tryd.ntmps6
    go_wp2_with (first
      | (go_at_call 8; first
          | (have h4 := B4.out; have CU := CN.out A4 (n + m) c4 (both X Y n) HNM.out w4 S4.out; rw [EU.out] at CU; refine CU.mono ?_; rintro e w5 ⟨rfl, hb5⟩; have B5 : Hid (Below w.heap.size w w5) := h4.trans (hb5.mono h4.size); clear hb5 h4 CU)
          | (have h1 := B1.out; refine (CF.out w1 (HY.out.below h1)).mono ?_; rintro e w2 ⟨rfl, hb2⟩; have B2 : Hid (Below w.heap.size w w2) := h1.trans (hb2.mono h1.size); clear hb2 h1)
          | (refine CE.out.mono ?_; rintro e w1 ⟨rfl, hb1⟩; have B1 := Lib.hid hb1; clear hb1))
      | (at_builtin; first
          | (obtain ⟨v4, w4, hr4, ho4, hb4⟩ := append_slots (w0 := w) B3.out HO3.out (HY.out.below B3.out) HA'.out HM2.out
             rw [List.nil_append, ← both_cells, Nat.zero_add] at ho4
             obtain ⟨A4, c4, rfl, hs4⟩ := slots_of_own ho4
             have S4 := Lib.hid hs4
             have B4 := Lib.hid hb4
             clear ho4 hb4 hs4
             refine wpList_append_run rfl _ _ 22 rfl v3 (.slice A' m c') (.slice A4 (n + m) c4) w4 rfl rfl 22 rfl hr4 ?_
             clear hr4)
          | (obtain ⟨v3, w3, hr3, ho3, hb3⟩ := append_slots (w0 := w) (v := .slice none 0 0) (xs := []) B2.out (World.ownsRow_nil _ _ _ _) (HX.out.below B2.out) HA.out HN2.out
             have HO3 := Lib.hid ho3
             have B3 := Lib.hid hb3
             clear ho3 hb3
             refine wpList_append_run rfl _ _ 22 rfl (.slice none 0 0) (.slice A n c) v3 w3 rfl rfl 22 rfl hr3 ?_
             clear hr3))
      | (go_at_call 13; refine (CZ.out _ (HS.out.below B5.out)).mono ?_; rintro e w6 ⟨rfl, hb6⟩; have B6 : Hid (Below w.heap.size w w6) := B5.out.trans (hb6.mono B5.out.size); clear hb6))
    go_ret
    exact ⟨rfl, B6.out⟩
  · have eu : encAns (both X Y n) (n + m) = .returned (.tuple #[.string ⟨#[]⟩, .int .i64 30]) := by
      rw [encAns_bad (fun h => hok ((both_ok X Y n m).1 h))]
      rfl
    have EU := Lib.hid eu
    clear eu
    have hexy : (∃ s, encAns X n = .returned (.tuple #[.string s, .int .i64 0])) ∧ (encAns Y m = .returned (.tuple #[.string (bstr []), .int .i64 30])) ∨ encAns X n = .returned (.tuple #[.string (bstr []), .int .i64 30]) ∧ ∃ t e, encAns Y m = .returned (.tuple #[.string t, .int .i64 e]) := by
      by_cases h1 : AllOk X n
      · exact .inl ⟨⟨_, encAns_ok h1⟩, encAns_bad (fun h2 => hok ⟨h1, h2⟩)⟩
      · refine .inr ⟨encAns_bad h1, ?_⟩
        by_cases h2 : AllOk Y m
        · exact ⟨_, _, encAns_ok h2⟩
        · exact ⟨_, _, encAns_bad h2⟩
    clear hok
    rcases hexy with ⟨⟨sx, ex⟩, ey⟩ | ⟨ex, sy, fy, ey⟩
    all_goals
      rw [ex] at CE
      rw [ey] at CF
      clear ex ey
      go_enter Tryd.func6, Tryd.ntmps6
      go_wp2_with (first
        | (go_at_call 8; first
            | (have h4 := B4.out; have CU := CN.out A4 (n + m) c4 (both X Y n) HNM.out w4 S4.out; rw [EU.out] at CU; refine CU.mono ?_; rintro e w5 ⟨rfl, hb5⟩; have B5 : Hid (Below w.heap.size w w5) := h4.trans (hb5.mono h4.size); clear hb5 h4 CU)
            | (have h1 := B1.out; refine (CF.out w1 (HY.out.below h1)).mono ?_; rintro e w2 ⟨rfl, hb2⟩; have B2 : Hid (Below w.heap.size w w2) := h1.trans (hb2.mono h1.size); clear hb2 h1)
            | (refine CE.out.mono ?_; rintro e w1 ⟨rfl, hb1⟩; have B1 := Lib.hid hb1; clear hb1))
        | (at_builtin; first
            | (obtain ⟨v4, w4, hr4, ho4, hb4⟩ := append_slots (w0 := w) B3.out HO3.out (HY.out.below B3.out) HA'.out HM2.out
               rw [List.nil_append, ← both_cells, Nat.zero_add] at ho4
               obtain ⟨A4, c4, rfl, hs4⟩ := slots_of_own ho4
               have S4 := Lib.hid hs4
               have B4 := Lib.hid hb4
               clear ho4 hb4 hs4
               refine wpList_append_run rfl _ _ 22 rfl v3 (.slice A' m c') (.slice A4 (n + m) c4) w4 rfl rfl 22 rfl hr4 ?_
               clear hr4)
            | (obtain ⟨v3, w3, hr3, ho3, hb3⟩ := append_slots (w0 := w) (v := .slice none 0 0) (xs := []) B2.out (World.ownsRow_nil _ _ _ _) (HX.out.below B2.out) HA.out HN2.out
               have HO3 := Lib.hid ho3
               have B3 := Lib.hid hb3
               clear ho3 hb3
               refine wpList_append_run rfl _ _ 22 rfl (.slice none 0 0) (.slice A n c) v3 w3 rfl rfl 22 rfl hr3 ?_
               clear hr3))
        | (go_at_call 13; refine (CZ.out _ (HS.out.below B5.out)).mono ?_; rintro e w6 ⟨rfl, hb6⟩; have B6 : Hid (Below w.heap.size w w6) := B5.out.trans (hb6.mono B5.out.size); clear hb6))
      go_ret
      exact ⟨rfl, B6.out⟩
end Go.Proofs.YtkopbjjpghbkoaaDoor
