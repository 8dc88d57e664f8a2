/-
  Package queue: a row as a list; a map's calls.
-/
import Derived.Test.YtgmombgjjmgooaaQRing
namespace Go.Proofs.Ytgmombgjjmgooaa
open Go Go.RowKit
set_option linter.unusedVariables false
set_option linter.unusedSimpArgs false
set_option maxRecDepth 100000
theorem below_undrew {w w' : World} (h : Below w.drew.heap.size w.drew w') : Below w.heap.size w w' := ⟨h.os, h.tape, h.output, h.size, h.block⟩
theorem ring_val {f mx i : Nat} (hf : f < mx) (hi : i ≤ mx) : (f + i) % mx = if f + i < mx then f + i else f + i - mx := by
  split
  · exact Nat.mod_eq_of_lt (by assumption)
  · rw [Nat.mod_eq_sub_mod (by omega), Nat.mod_eq_of_lt (by omega)]
structure RowAt (w : World) (r g mx f : Nat) (L : List ByteArray) : Prop where
  row : Blk w r rowT (rowC g mx f L.length)
  cells : ∃ cs : Array Value, Blk w g 9 cs ∧ cs.size = mx ∧ ∀ i s, L[i]? = some s → cs[(f + i) % mx]? = some (.string s)
  f_lt : f < mx
  len : L.length ≤ mx
  most : mx ≤ 4096
def Row (w : World) (r g mx : Nat) (L : List ByteArray) : Prop := ∃ f, RowAt w r g mx f L
section
variable {w w' : World} {x r g mx f : Nat} {L : List ByteArray}
theorem Row.below (h : Row w r g mx L) (hb : Below w.heap.size w w') : Row w' r g mx L := by
  obtain ⟨f, h1, ⟨cs, h2, h3, h4⟩, h5, h6, h7⟩ := h
  exact ⟨f, blk_below h1 hb, ⟨cs, blk_below h2 hb, h3, h4⟩, h5, h6, h7⟩
theorem Row.keeps {S : Nat → Prop} (h : Row w r g mx L) (k : Keeps S w w') (hr : ¬ S r) (hg : ¬ S g) : Row w' r g mx L := by
  obtain ⟨f, h1, ⟨cs, h2, h3, h4⟩, h5, h6, h7⟩ := h
  exact ⟨f, h1.keeps k hr, ⟨cs, h2.keeps k hg, h3, h4⟩, h5, h6, h7⟩
theorem Row.drewN (h : Row w r g mx L) (n : Nat) : Row (w.drewN n) r g mx L := h.below (below_drewN w n)
theorem Row.lt (h : Row w r g mx L) : r < w.heap.size ∧ g < w.heap.size := by
  obtain ⟨f, h1, ⟨cs, h2, h3, h4⟩, h5, h6, h7⟩ := h
  exact ⟨h1.lt, h2.lt⟩
theorem row_new (mx : Nat) (h0 : 0 < mx) (hm : mx ≤ 4096) (w : World) : Calls Try.prog 18 #[.int .i64 mx] w fun e w' => ∃ r g, e = .returned (rp r) ∧ Row w' r g mx [] ∧ w.heap.size ≤ r ∧ w.heap.size ≤ g ∧ Below w.heap.size w w' := by
  refine (newRow_any mx hm w).mono ?_
  rintro e w' ⟨rfl, h1, ⟨cs, h2, h3⟩, h4⟩
  exact ⟨_, _, rfl, ⟨0, h1, ⟨cs, h3, h2, fun i s hi => by simp at hi⟩, h0, by simp, hm⟩, by omega, Nat.le_refl _, h4⟩
theorem row_full (h : Row w r g mx L) : Calls Try.prog 21 #[rp r] w fun e w' => e = .returned (.bool (decide (L.length = mx))) ∧ ∃ m, w' = w.drewN m := by
  obtain ⟨f, h1, _⟩ := h
  exact full_any h1
theorem row_oldest {a : ByteArray} (h : Row w r g mx (a :: L)) : Calls Try.prog 29 #[rp r] w fun e w' => e = .returned (.string a) ∧ ∃ m, w' = w.drewN m := by
  obtain ⟨f, h1, ⟨cs, h2, h3, h4⟩, h5, h6, h7⟩ := h
  exact oldest_any h1 h2 h5 (by have := h4 0 a rfl; rwa [Nat.add_zero, Nat.mod_eq_of_lt h5] at this)
theorem row_newest {a : ByteArray} (h : Row w r g mx (L ++ [a])) : Calls Try.prog 28 #[rp r] w fun e w' => e = .returned (.string a) ∧ ∃ m, w' = w.drewN m := by
  obtain ⟨f, h1, ⟨cs, h2, h3, h4⟩, h5, h6, h7⟩ := h
  have hl : (L ++ [a]).length = L.length + 1 := by simp
  refine newest_any h1 h2 h5 (by omega) h6 h7 ?_
  have := h4 L.length a (by simp)
  rwa [hl, Nat.add_sub_cancel]
theorem row_dropOldest {a : ByteArray} (h : Row w r g mx (a :: L)) : Calls Try.prog 22 #[rp r] w fun e w' => e = .returned (.tuple #[]) ∧ Row w' r g mx L ∧ Keeps (rg r g) w w' := by
  obtain ⟨f, h1, ⟨cs, h2, h3, h4⟩, h5, h6, h7⟩ := h
  have hl : (a :: L).length = L.length + 1 := by simp
  rw [hl] at h1 h6
  refine (dropOldest_any h1 h2 h3 h5 (by omega) h6 h7).mono ?_
  rintro e w' ⟨rfl, k1, k2, k3⟩
  refine ⟨rfl, ⟨(f + 1) % mx, k1, ⟨_, k2, by simpa using h3, fun i s hi => ?_⟩, Nat.mod_lt _ (by omega), by omega, h7⟩, k3⟩
  have hlt : i < L.length := (List.getElem?_eq_some_iff.1 hi).1
  have e1 : ((f + 1) % mx + i) % mx = (f + (i + 1)) % mx := by rw [Nat.mod_add_mod]; congr 1; omega
  have e2 : (f + (i + 1)) % mx ≠ f := by rw [ring_val h5 (by omega)]; split <;> omega
  rw [e1, Array.getElem?_setIfInBounds_ne (by omega)]
  exact h4 (i + 1) s (by simpa using hi)
theorem row_dropNewest {a : ByteArray} (h : Row w r g mx (L ++ [a])) : Calls Try.prog 26 #[rp r] w fun e w' => e = .returned (.tuple #[]) ∧ Row w' r g mx L ∧ Keeps (rg r g) w w' := by
  obtain ⟨f, h1, ⟨cs, h2, h3, h4⟩, h5, h6, h7⟩ := h
  have hl : (L ++ [a]).length = L.length + 1 := by simp
  rw [hl] at h1 h6
  refine (dropNewest_any h1 h2 h3 h5 (by omega) h6 h7).mono ?_
  rintro e w' ⟨rfl, k1, k2, k3⟩
  refine ⟨rfl, ⟨f, k1, ⟨_, k2, by simpa using h3, fun i s hi => ?_⟩, h5, by omega, h7⟩, k3⟩
  have hlt : i < L.length := (List.getElem?_eq_some_iff.1 hi).1
  have e2 : (f + (L.length + 1 - 1)) % mx ≠ (f + i) % mx := by rw [ring_val h5 (by omega), ring_val h5 (by omega)]; split <;> split <;> omega
  rw [Array.getElem?_setIfInBounds_ne e2]
  exact h4 i s (by rw [List.getElem?_append_left hlt]; exact hi)
theorem row_add {s : ByteArray} (h : Row w r g mx L) (hn : L.length < mx) : Calls Try.prog 23 #[rp r, .string s] w fun e w' => e = .returned (.tuple #[]) ∧ Row w' r g mx (L ++ [s]) ∧ Keeps (rg r g) w w' := by
  obtain ⟨f, h1, ⟨cs, h2, h3, h4⟩, h5, h6, h7⟩ := h
  refine (add_any h1 h2 h3 h5 hn h7).mono ?_
  rintro e w' ⟨rfl, k1, k2, k3⟩
  have hl : (L ++ [s]).length = L.length + 1 := by simp
  have hp : (f + L.length) % mx < mx := Nat.mod_lt _ (by omega)
  refine ⟨rfl, ⟨f, by rw [hl]; exact k1, ⟨_, k2, by simpa using h3, fun i u hi => ?_⟩, h5, by omega, h7⟩, k3⟩
  rcases Nat.lt_or_ge i L.length with hlt | hge
  · have e2 : (f + L.length) % mx ≠ (f + i) % mx := by rw [ring_val h5 (by omega), ring_val h5 (by omega)]; split <;> split <;> omega
    rw [Array.getElem?_setIfInBounds_ne e2]
    exact h4 i u (by rwa [List.getElem?_append_left hlt] at hi)
  · have hi' := (List.getElem?_eq_some_iff.1 hi).1
    obtain rfl : i = L.length := by omega
    simp at hi
    subst hi
    rw [Array.getElem?_setIfInBounds_self_of_lt (by omega)]
abbrev mapC (k v mx : Int) (r : Nat) : Array Value := #[.int .i64 k, .int .i64 0, .int .i64 v, .int .i64 mx, rp r]
abbrev mapT : TypeId := 54
structure QM (w : World) (x r g : Nat) (k : Int) (v mx : Nat) (L : List ByteArray) : Prop where
  map : Blk w x mapT (mapC k v mx r)
  row : Row w r g mx L
  v4 : v ≤ 4096
section
variable {k : Int} {v : Nat}
theorem QM.ne (h : QM w x r g k v mx L) : x ≠ r ∧ x ≠ g := by
  obtain ⟨h1, ⟨f, h2, ⟨cs, h3, _⟩, _⟩, _⟩ := h
  exact ⟨h1.ne_ h2 (by decide), h1.ne_ h3 (by decide)⟩
theorem QM.below (h : QM w x r g k v mx L) (hb : Below w.heap.size w w') : QM w' x r g k v mx L := ⟨blk_below h.map hb, h.row.below hb, h.v4⟩
theorem QM.drewN (h : QM w x r g k v mx L) (n : Nat) : QM (w.drewN n) x r g k v mx L := h.below (below_drewN w n)
theorem QM.turn {L' : List ByteArray} (h : QM w x r g k v mx L) (hr : Row w' r g mx L') (hk : Keeps (rg r g) w w') : QM w' x r g k v mx L' :=
  ⟨h.map.keeps hk (by have := h.ne; rintro (h | h); exact this.1 h; exact this.2 h), hr, h.v4⟩
theorem none_nil (w : World) : Calls Try.prog 20 #[.pointer none] w fun e w' => e = .returned (.bool true) ∧ w = w' := by
  go_enter Try.func20, Try.ntmps20
  go_wp2_with fail
  go_ret
  exact ⟨rfl, rfl⟩
theorem none_no (h : Blk w x mapT (mapC k v mx r)) : Calls Try.prog 20 #[rp x] w fun e w' => e = .returned (.bool false) ∧ w = w' := by
  have c4 : w.cell? ⟨x, 4, none⟩ = some (rp r) := h.cell 4
  clear h
  go_enter Try.func20, Try.ntmps20
  go_wp2_with fail
  go_ret
  exact ⟨rfl, rfl⟩
theorem stacked_any (h : Blk w x mapT (mapC k v mx r)) : Calls Try.prog 25 #[rp x] w fun e w' => e = .returned (.bool (decide (k = 23))) ∧ w = w' := by
  have c0 : w.cell? ⟨x, 0, none⟩ = some (.int .i64 k) := h.cell 0
  have e1 : (k == 23) = decide (k = 23) := rfl
  clear h
  go_enter Try.func25, Try.ntmps25
  go_wp2_with fail
  go_ret
  exact ⟨rfl, rfl⟩
theorem len_nil (w : World) : Calls Try.prog 15 #[.pointer none] w fun e w' => e = .returned (.int .i64 0) ∧ w = w' := by
  go_enter Try.func15, Try.ntmps15
  go_wp2_with (go_at_call 20; refine (none_nil _).mono ?_; rintro e w1 ⟨rfl, rfl⟩)
  go_ret
  exact ⟨rfl, rfl⟩
theorem len_any (h : QM w x r g k v mx L) : Calls Try.prog 15 #[rp x] w fun e w' => e = .returned (.int .i64 L.length) ∧ w = w' := by
  have c4 : w.cell? ⟨x, 4, none⟩ = some (rp r) := h.map.cell 4
  obtain ⟨f, hr, _⟩ := h.row
  have c5 : w.cell? ⟨r, 2, none⟩ = some (.int .i64 L.length) := hr.cell 2
  have CN := Lib.hid (none_no h.map)
  clear h hr
  go_enter Try.func15, Try.ntmps15
  go_wp2_with (go_at_call 20; refine CN.out.mono ?_; rintro e w1 ⟨rfl, rfl⟩)
  go_ret
  exact ⟨rfl, rfl⟩
theorem peek_nil (w : World) : Calls Try.prog 13 #[.pointer none] w fun e w' => e = .returned (.tuple #[.string ⟨#[]⟩, .int .i64 1]) ∧ w = w' := by
  go_enter Try.func13, Try.ntmps13
  go_wp2_with (go_at_call 20; refine (none_nil _).mono ?_; rintro e w1 ⟨rfl, rfl⟩)
  go_ret2
  exact ⟨rfl, rfl⟩
theorem peek_none (h : QM w x r g k v mx []) : Calls Try.prog 13 #[rp x] w fun e w' => e = .returned (.tuple #[.string ⟨#[]⟩, .int .i64 4]) ∧ ∃ m, w' = w.drewN m := by
  have c4 : w.cell? ⟨x, 4, none⟩ = some (rp r) := h.map.cell 4
  obtain ⟨f, hr, _⟩ := h.row
  have c5 : w.cell? ⟨r, 2, none⟩ = some (.int .i64 0) := hr.cell 2
  have CN := Lib.hid (none_no h.map)
  clear h hr
  go_enter Try.func13, Try.ntmps13
  go_wp2_with (go_at_call 20; refine CN.out.mono ?_; rintro e w1 ⟨rfl, rfl⟩)
  go_ret2
  exact ⟨rfl, 0, rfl⟩
theorem peek_queue {a : ByteArray} (hk : k ≠ 23) (h : QM w x r g k v mx (a :: L)) : Calls Try.prog 13 #[rp x] w fun e w' => e = .returned (.tuple #[.string a, .int .i64 0]) ∧ ∃ m, w' = w.drewN m := by
  have c4 : w.cell? ⟨x, 4, none⟩ = some (rp r) := h.map.cell 4
  have CO := Lib.hid (row_oldest h.row)
  obtain ⟨f, hr, _⟩ := h.row
  have c5 : w.cell? ⟨r, 2, none⟩ = some (.int .i64 ((L.length + 1 : Nat) : Int)) := hr.cell 2
  have e5 : (((L.length + 1 : Nat) : Int) == 0) = false := by simp; omega
  have CN := Lib.hid (none_no h.map)
  have CS := Lib.hid (stacked_any h.map)
  rw [decide_eq_false hk] at CS
  clear h hr hk
  generalize L.length + 1 = n at *
  go_enter Try.func13, Try.ntmps13
  go_wp2_with (first
    | (go_at_call 20; refine CN.out.mono ?_; rintro e w1 ⟨rfl, rfl⟩)
    | (go_at_call 25; refine CS.out.mono ?_; rintro e w1 ⟨rfl, rfl⟩)
    | (go_at_call 29; refine CO.out.mono ?_; rintro e w1 ⟨rfl, m, rfl⟩))
  go_ret2
  exact ⟨rfl, _, rfl⟩
theorem peek_stack {a : ByteArray} (h : QM w x r g 23 v mx (L ++ [a])) : Calls Try.prog 13 #[rp x] w fun e w' => e = .returned (.tuple #[.string a, .int .i64 0]) ∧ ∃ m, w' = w.drewN m := by
  have c4 : w.cell? ⟨x, 4, none⟩ = some (rp r) := h.map.cell 4
  have CO := Lib.hid (row_newest h.row)
  obtain ⟨f, hr, _⟩ := h.row
  have hl : (L ++ [a]).length = L.length + 1 := by simp
  rw [hl] at hr
  have c5 : w.cell? ⟨r, 2, none⟩ = some (.int .i64 ((L.length + 1 : Nat) : Int)) := hr.cell 2
  have e5 : (((L.length + 1 : Nat) : Int) == 0) = false := by simp; omega
  have CN := Lib.hid (none_no h.map)
  have CS := Lib.hid (stacked_any h.map)
  clear h hr hl
  generalize L.length + 1 = n at *
  go_enter Try.func13, Try.ntmps13
  go_wp2_with (first
    | (go_at_call 20; refine CN.out.mono ?_; rintro e w1 ⟨rfl, rfl⟩)
    | (go_at_call 25; refine CS.out.mono ?_; rintro e w1 ⟨rfl, rfl⟩)
    | (go_at_call 28; refine CO.out.mono ?_; rintro e w1 ⟨rfl, m, rfl⟩))
  go_ret2
  exact ⟨rfl, _, rfl⟩
end
end
end Go.Proofs.Ytgmombgjjmgooaa
