/-
  Layer 7: a list of types and three more behind it, as append makes it.
-/
import Derived.Test.YthilkgfbaddjpaaDoorLExt
import Derived.Test.YthilkgfbaddjpaaDoorLClose
import Derived.Laws.OwnMore
namespace Go.Proofs.YthilkgfbaddjpaaDoor
open Go Go.RowKit Go.WideElems Go.Deep
set_option linter.unusedVariables false
set_option linter.unusedSimpArgs false
set_option maxRecDepth 100000
theorem infoT : (Tryd.prog.info? 34).map (fun i => (i.zero, i.size, i.bytes)) = some (some (.agg #[.int .i64 0, .string ⟨#[]⟩, .int .i64 0, .int .i64 0, .int .i64 0, .slice none 0 0]), 6, 72) := by kernel_rfl
def rowsC (Y : Nat → List Value) (n : Nat) : List Value := (List.range n).flatMap Y
section
variable {Y : Nat → List Value}
theorem rowsC_succ (n : Nat) : rowsC Y (n + 1) = rowsC Y n ++ Y n := by simp [rowsC, List.range_succ]
theorem rowsC_length : ∀ (n : Nat), (∀ k, k < n → (Y k).length = 6) → (rowsC Y n).length = n * 6
  | 0, _ => rfl
  | n + 1, h => by rw [rowsC_succ, List.length_append, rowsC_length n fun k hk => h k (by omega), h n (by omega)]; omega
theorem rowsC_get : ∀ (n k j : Nat), (∀ k, k < n → (Y k).length = 6) → k < n → j < 6 → (rowsC Y n)[k * 6 + j]? = (Y k)[j]?
  | 0, k, j, _, hk, _ => by omega
  | n + 1, k, j, h, hk, hj => by
    rw [rowsC_succ]
    have hl := rowsC_length (Y := Y) n fun k hk => h k (by omega)
    rcases Nat.lt_or_ge k n with h' | h'
    · rw [List.getElem?_append_left (by omega)]
      exact rowsC_get n k j (fun k hk => h k (by omega)) h' hj
    · have : k = n := by omega
      subst this
      rw [List.getElem?_append_right (by omega), show k * 6 + j - (rowsC Y k).length = j by omega]
theorem rowsC_one (n : Nat) (h : ∀ k, k < n → ∀ u ∈ Y k, u.oneCell' = true) (u : Value) (hu : u ∈ rowsC Y n) : u.oneCell' = true := by
  simp only [rowsC, List.mem_flatMap, List.mem_range] at hu
  obtain ⟨k, hk, hu⟩ := hu
  exact h k hk u hu
end
def rowT (t : Ty) (A' : Option Addr) (c' : Nat) : List Value := [.int .i64 t.kind, .string t.name, .int .i64 t.size, .int .i64 t.ty, .int .i64 t.count, .slice A' t.mems.length c']
def newT (id count : Int) (n : Nat) : List Value := rowT (arrT id count) none 0 ++ (rowT (nameT (n + 1)) none 0 ++ rowT (ptrT (n + 2)) none 0)
theorem own_any {w : World} {base : Nat} {e : TypeId} {s : Nat} {v : Value} {n : Nat} {xs : List Value} (h : w.ownsRow base e s v n xs) :
    ∃ A c, v = .slice A n c ∧ (0 < n → ∃ g, A = some ⟨g, 0, none⟩ ∧ g < w.heap.size ∧ ∀ j u, xs[j]? = some u → w.cell? ⟨g, j, none⟩ = some u) := by
  rcases h.2 with ⟨rfl, rfl⟩ | ⟨g, cap, cur, rfl, hb, hg, h1, h2, h3, h4⟩
  · exact ⟨none, 0, rfl, fun h => by omega⟩
  · refine ⟨_, cap, rfl, fun _ => ⟨g, rfl, ?_, fun j u hu => ?_⟩⟩
    · rcases Nat.lt_or_ge g w.heap.size with hlt | hge
      · exact hlt
      · rw [Array.getElem?_eq_none hge] at hg; cases hg
    · have := h.cells (g := g) rfl j u hu
      rw [Go.WideShapes.add_plain, Nat.zero_add] at this
      exact this
section
variable {w : World} {A : Option Addr} {c : Nat} {l : List Ty} {id count : Int}
/-- The list, copied behind nothing. -/
theorem copied (hT : TysAt w A l) (hnil : A = none → l.length = 0 ∧ c = 0) (hl : l.length ≤ 1000) :
    ∃ (Y : Nat → List Value) (v1 : Value) (w1 : World), (∀ k, k < l.length → (Y k).length = 6) ∧ (∀ k, k < l.length → ∀ u ∈ Y k, u.oneCell' = true) ∧ (∀ i t, l[i]? = some t → ∃ A' c', Y i = rowT t A' c' ∧ MemsAt w A' t.mems ∧ t.name.size ≤ 9223372036854775807 ∧ t.mems.length ≤ 9223372036854775807) ∧
      (Builtin.append_ #[22, 22] 22 #[.slice none 0 0, .slice A l.length c]).run Tryd.prog w = .ok v1 w1 ∧ w1.ownsRow w.heap.size 34 6 v1 l.length (rowsC Y l.length) ∧ Below w.heap.size w w1 := by
  obtain ⟨i0, hi, hz0, hz1, hz2⟩ := info_parts infoT
  have each : ∀ i, i < l.length → ∃ r : List Value, ∃ t A' c', l[i]? = some t ∧ r = rowT t A' c' ∧ MemsAt w A' t.mems ∧ t.name.size ≤ 9223372036854775807 ∧ t.mems.length ≤ 9223372036854775807 ∧ ∃ b off, A = some ⟨b, off, none⟩ ∧ ∀ j u, r[j]? = some u → w.cell? ⟨b, off + i * 6 + j, none⟩ = some u := by
    intro i hi
    obtain ⟨t, ht⟩ : ∃ t, l[i]? = some t := ⟨_, List.getElem?_eq_getElem hi⟩
    obtain ⟨b, off, A', c', rfl, hlt, c0, c1, c2, c3, c4, c5, hm, hs, hn⟩ := hT i t ht
    refine ⟨_, t, A', c', ht, rfl, hm, hs, hn, b, off, rfl, fun j u hj => ?_⟩
    unfold rowT at hj
    match j, hj with
    | 0, hj => cases hj; exact c0
    | 1, hj => cases hj; exact c1
    | 2, hj => cases hj; exact c2
    | 3, hj => cases hj; exact c3
    | 4, hj => cases hj; exact c4
    | 5, hj => cases hj; exact c5
    | j + 6, hj => simp at hj
  obtain ⟨Y, hY⟩ := choose_lt each
  have y6 : ∀ k, k < l.length → (Y k).length = 6 := fun k hk => by
    obtain ⟨t, A', c', _, hr, _⟩ := hY k hk
    rw [hr]; rfl
  have y1 : ∀ k, k < l.length → ∀ u ∈ Y k, u.oneCell' = true := fun k hk u hu => by
    obtain ⟨t, A', c', _, hr, _⟩ := hY k hk
    rw [hr] at hu
    simp only [rowT, List.mem_cons, List.not_mem_nil, or_false] at hu
    rcases hu with rfl | rfl | rfl | rfl | rfl | rfl <;> rfl
  have yt : ∀ i t, l[i]? = some t → ∃ A' c', Y i = rowT t A' c' ∧ MemsAt w A' t.mems ∧ t.name.size ≤ 9223372036854775807 ∧ t.mems.length ≤ 9223372036854775807 := fun i t ht => by
    obtain ⟨t', A', c', ht', hr, h1, h2, h3, _⟩ := hY i (List.getElem?_eq_some_iff.1 ht).1
    rw [ht] at ht'
    cases ht'
    exact ⟨A', c', hr, h1, h2, h3⟩
  rcases A with _ | ad
  · obtain ⟨h0, rfl⟩ := hnil rfl
    have ho := World.ownsRow_nil w w.heap.size 34 6
    refine ⟨Y, .slice none 0 0, w, y6, y1, yt, ?_, ?_, Below.refl _ w⟩
    · rw [h0]; exact run_append_owned_none w w.heap.size _ _ _ i0 6 Tryd.underlying22 hi _ 0 [] ho
    · rw [h0]; exact ho
  · obtain ⟨v', w', hr, h1, h2, _, _⟩ := run_append_own_at (P := Tryd.prog) w w.heap.size 22 22 34 i0 (.agg #[.int .i64 0, .string ⟨#[]⟩, .int .i64 0, .int .i64 0, .int .i64 0, .slice none 0 0]) 6 72 Tryd.underlying22 hi hz0 hz1 hz2 rfl (by decide) (.slice none 0 0) 0 [] (World.ownsRow_nil _ _ _ _) ad l.length c (rowsC Y l.length) (rowsC_length _ y6) (fun j u hj => by
      have hlt : j < l.length * 6 := by
        have := (List.getElem?_eq_some_iff.1 hj).1
        rwa [rowsC_length _ y6] at this
      obtain ⟨t, A', c', _, _, _, _, _, b, off, e, hc⟩ := hY (j / 6) (by omega)
      obtain rfl := Option.some.inj e
      rw [Go.WideShapes.add_plain]
      have e6 : j = j / 6 * 6 + j % 6 := by omega
      rw [e6, rowsC_get l.length (j / 6) (j % 6) y6 (by omega) (by omega)] at hj
      have := hc (j % 6) u hj
      rw [show off + j = off + j / 6 * 6 + j % 6 by omega]
      exact this) (rowsC_one _ y1) (by unfold maxLen; omega) (by omega) (Nat.le_refl _)
    refine ⟨Y, v', w', y6, y1, yt, hr, ?_, (Below.refl _ w).grown h2 (Nat.le_refl _) (fun k e => by cases e)⟩
    rw [List.nil_append, Nat.zero_add] at h1
    exact h1
theorem newT_one (id count : Int) (n : Nat) : ∀ u ∈ newT id count n, u.oneCell' = true := by
  intro u hu
  simp only [newT, rowT, List.cons_append, List.nil_append, List.mem_cons, List.not_mem_nil, or_false] at hu
  rcases hu with rfl | rfl | rfl | rfl | rfl | rfl | rfl | rfl | rfl | rfl | rfl | rfl | rfl | rfl | rfl | rfl | rfl | rfl <;> rfl
/-- .. and three more behind it. -/
theorem extended {Y : Nat → List Value} {v1 : Value} {w1 : World} (id count : Int) (y6 : ∀ k, k < l.length → (Y k).length = 6) (yt : ∀ i t, l[i]? = some t → ∃ A' c', Y i = rowT t A' c' ∧ MemsAt w A' t.mems ∧ t.name.size ≤ 9223372036854775807 ∧ t.mems.length ≤ 9223372036854775807)
    (ho : w1.ownsRow w.heap.size 34 6 v1 l.length (rowsC Y l.length)) (hb : Below w.heap.size w w1) (hl : l.length ≤ 1000) :
    ∃ A2 c2 w3, (Builtin.append_ #[22, 22] 22 #[v1, .slice (some ⟨w1.heap.size, 0, none⟩) 3 3]).run Tryd.prog (w1.alloc (.cells (newT id count l.length).toArray 34)) = .ok (.slice A2 (extL l id count).length c2) w3 ∧ TysAt w3 A2 (extL l id count) ∧ Below w.heap.size w w3 := by
  obtain ⟨i0, hi, hz0, hz1, hz2⟩ := info_parts infoT
  have hB := Blk.new w1 34 (newT id count l.length).toArray
  have b2 : Below w.heap.size w (w1.alloc (.cells (newT id count l.length).toArray 34)) := hb.alloc hb.size _
  have ho2 := ho.alloc (.cells (newT id count l.length).toArray 34)
  obtain ⟨v', w', hr, h1, h2, _, _⟩ := run_append_own_at (P := Tryd.prog) (w1.alloc (.cells (newT id count l.length).toArray 34)) w.heap.size 22 22 34 i0 (.agg #[.int .i64 0, .string ⟨#[]⟩, .int .i64 0, .int .i64 0, .int .i64 0, .slice none 0 0]) 6 72 Tryd.underlying22 hi hz0 hz1 hz2 rfl (by decide) v1 l.length (rowsC Y l.length) ho2 ⟨w1.heap.size, 0, none⟩ 3 3 (newT id count l.length) rfl (fun j u hj => by
      rw [Go.WideShapes.add_plain, Nat.zero_add]
      have := hB.cell j
      rw [this]
      simpa using hj) (newT_one _ _ _) (by unfold maxLen; omega) (by omega) b2.size
  have b3 : Below w.heap.size w w' := b2.grown h2 b2.size (fun k e => (ho2.lt k e).1)
  obtain ⟨A2, c2, rfl, hc⟩ := own_any h1
  obtain ⟨g, rfl, hg, hcell⟩ := hc (by omega)
  refine ⟨_, c2, w', by rw [ext_len]; exact hr, ?_, b3⟩
  have hlen := rowsC_length (Y := Y) l.length y6
  have old : ∀ k j u, k < l.length → j < 6 → (Y k)[j]? = some u → w'.cell? ⟨g, 0 + k * 6 + j, none⟩ = some u := fun k j u hk hj hu => by
    refine hcell _ u ?_
    rw [Nat.zero_add, List.getElem?_append_left (by omega), rowsC_get l.length k j y6 hk hj]
    exact hu
  have new : ∀ j u, (newT id count l.length)[j]? = some u → w'.cell? ⟨g, 0 + l.length * 6 + j, none⟩ = some u := fun j u hu => by
    refine hcell _ u ?_
    rw [Nat.zero_add, List.getElem?_append_right (by omega), show l.length * 6 + j - (rowsC Y l.length).length = j by omega]
    exact hu
  intro i t ht
  rcases Nat.lt_or_ge i l.length with hlt | hge
  · rw [ext_old hlt] at ht
    obtain ⟨A', c', hr, hm, hs, hn⟩ := yt i t ht
    refine ⟨g, 0, A', c', rfl, hg, ?_, ?_, ?_, ?_, ?_, ?_, hm.below b3, hs, hn⟩
    · exact old i 0 _ hlt (by omega) (by rw [hr]; rfl)
    · exact old i 1 _ hlt (by omega) (by rw [hr]; rfl)
    · exact old i 2 _ hlt (by omega) (by rw [hr]; rfl)
    · exact old i 3 _ hlt (by omega) (by rw [hr]; rfl)
    · exact old i 4 _ hlt (by omega) (by rw [hr]; rfl)
    · exact old i 5 _ hlt (by omega) (by rw [hr]; rfl)
  · have hil : i < l.length + 3 := by rw [← ext_len (l := l) (id := id) (count := count)]; exact (List.getElem?_eq_some_iff.1 ht).1
    have hi3 : i = l.length ∨ i = l.length + 1 ∨ i = l.length + 2 := by omega
    rcases hi3 with rfl | rfl | rfl
    · rw [ext_0] at ht
      cases ht
      exact ⟨g, 0, none, 0, rfl, hg, new 0 _ rfl, new 1 _ rfl, new 2 _ rfl, new 3 _ rfl, new 4 _ rfl, new 5 _ rfl, (fun i m h => by simp [arrT] at h), (show (0 : Nat) ≤ _ by decide), by simp [arrT]⟩
    · rw [ext_1] at ht
      cases ht
      have e : ∀ j, 0 + (l.length + 1) * 6 + j = 0 + l.length * 6 + (6 + j) := fun j => by omega
      refine ⟨g, 0, none, 0, rfl, hg, ?_, ?_, ?_, ?_, ?_, ?_, (fun i m h => by simp [nameT] at h), (show (1 : Nat) ≤ _ by decide), by simp [nameT]⟩
      · exact (e 0) ▸ new 6 _ rfl
      · exact (e 1) ▸ new 7 _ rfl
      · exact (e 2) ▸ new 8 _ rfl
      · exact (e 3) ▸ new 9 _ rfl
      · exact (e 4) ▸ new 10 _ rfl
      · exact (e 5) ▸ new 11 _ rfl
    · rw [ext_2] at ht
      cases ht
      have e : ∀ j, 0 + (l.length + 2) * 6 + j = 0 + l.length * 6 + (12 + j) := fun j => by omega
      refine ⟨g, 0, none, 0, rfl, hg, ?_, ?_, ?_, ?_, ?_, ?_, (fun i m h => by simp [ptrT] at h), (show (0 : Nat) ≤ _ by decide), by simp [ptrT]⟩
      · exact (e 0) ▸ new 12 _ rfl
      · exact (e 1) ▸ new 13 _ rfl
      · exact (e 2) ▸ new 14 _ rfl
      · exact (e 3) ▸ new 15 _ rfl
      · exact (e 4) ▸ new 16 _ rfl
      · exact (e 5) ▸ new 17 _ rfl
end
end Go.Proofs.YthilkgfbaddjpaaDoor
