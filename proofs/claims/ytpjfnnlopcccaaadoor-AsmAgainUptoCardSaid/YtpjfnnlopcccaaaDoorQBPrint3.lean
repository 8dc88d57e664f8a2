/-
  What is read of a text has a text, and of that the same is read.
-/
import Derived.Test.YtpjfnnlopcccaaaDoorQBPrint2
namespace Go.Proofs.YtpjfnnlopcccaaaDoor
open Go Go.RowKit Go.Maps
set_option linter.unusedVariables false
set_option linter.unusedSimpArgs false
set_option maxRecDepth 100000
theorem nthS_app (a Z : List Slot) : nthS (a ++ Z) = both (nthS a) (nthS Z) a.length := by
  funext i
  unfold both nthS
  split
  · rename_i h
    rw [List.getD_eq_getElem?_getD, List.getD_eq_getElem?_getD, List.getElem?_append_left h]
  · rename_i h
    rw [List.getD_eq_getElem?_getD, List.getD_eq_getElem?_getD, List.getElem?_append_right (by omega)]
theorem text_one {x : Slot} (h : Has x) : ∃ t, textFrom (nthS [x]) 1 0 = some t := by
  obtain ⟨hO, hd, hs, h24, hne⟩ := h
  refine ⟨_, text_step (X := nthS [x]) (n := 1) (i := 0) (t := (bodyT x emptyT).data.toList) (by decide) h24 hO hd hs (bstr_data _).symm ?_ (textFrom_end (by decide))⟩
  intro e
  rw [Lib.size_eq, e] at hne
  exact hne rfl
theorem text_two {x y : Slot} (h : HasW x y) : ∃ t, textFrom (nthS [x, y]) 2 0 = some t := by
  obtain ⟨hx, hy, hd, hs, h24, hne⟩ := h
  have hsl : slotsAt (nthS [x, y]) 2 0 = 2 := if_pos ⟨h24, by decide⟩
  have hA : AllOk (fun j => nthS [x, y] (0 + j)) 2 := fun i hi => by
    have : i = 0 ∨ i = 1 := by omega
    rcases this with rfl | rfl
    · exact hx
    · exact hy
  have hl : lineAt (nthS [x, y]) 2 0 = wideT x y := by
    unfold lineAt
    rw [hsl, lineN_ok hA hd hs]
    unfold bodyT
    rw [if_pos (show (nthS [x, y] (0 + 0)).o % 8 = 0 by rw [show (nthS [x, y] (0 + 0)).o = 24 from h24]; decide)]
    rfl
  have e : textFrom (nthS [x, y]) 2 0 = some ((wideT x y).data.toList ++ [10] ++ []) := by
    rw [textFrom_yes (by decide) (by rw [hl]; exact hne), hsl, textFrom_end (by decide), hl, Option.map_some]
  exact ⟨_, e⟩
theorem line_text {s : ByteArray} {a : List Slot} (h : lineR s = some a) : ∃ t, textFrom (nthS a) a.length 0 = some t ∧ a.length ≤ 2 := by
  unfold lineR at h
  split at h
  · cases h
  · cases h; exact ⟨[], textFrom_end (by decide), by decide⟩
  · rcases slots_has h with ⟨x, rfl, hx⟩ | ⟨x, y, rfl, hx⟩
    · obtain ⟨t, ht⟩ := text_one hx
      exact ⟨t, ht, by simp⟩
    · obtain ⟨t, ht⟩ := text_two hx
      exact ⟨t, ht, by simp⟩
theorem read_text : ∀ {L : List ByteArray} {X : List Slot}, readAll L = some X → ∃ t, textFrom (nthS X) X.length 0 = some t ∧ X.length ≤ 2 * L.length
  | [], X, h => by
    cases h
    exact ⟨[], textFrom_end (by decide), by decide⟩
  | s :: l, X, h => by
    unfold readAll at h
    split at h
    · cases h
    · rename_i a ha
      obtain ⟨Z, hZ, rfl⟩ := Option.map_eq_some_iff.1 h
      obtain ⟨t, ht, hn⟩ := line_text ha
      obtain ⟨r, hr, hm⟩ := read_text hZ
      refine ⟨t ++ r, ?_, by rw [List.length_append, List.length_cons]; omega⟩
      rw [nthS_app, List.length_append]
      exact text_both ht hr
theorem read_end : readAll (linesOf (bstr [10])) = some [] := by kernel_rfl
theorem line_none : lineR (bstr []) = some [] := by kernel_rfl
theorem line_blank : lineR (bstr [32, 32]) = some [] := by kernel_rfl
theorem read_around (X : Nat → Slot) (n : Nat) {t : List UInt8} (h : textFrom X n 0 = some t) : readAll (linesOf (bstr ([10, 32, 32, 10] ++ t ++ [10]))) = some ((List.range' 0 n).map X) := by
  have h1 := text_back X n read_end n 0 (by omega) t h
  rw [Nat.sub_zero, List.append_nil] at h1
  have e : linesOf (bstr ([10, 32, 32, 10] ++ t ++ [10])) = bstr [] :: bstr [32, 32] :: linesOf (bstr (t ++ [10])) := by
    have e1 := lines_cons (a := []) (r := [32, 32, 10] ++ t ++ [10]) (by simp)
    have e2 := lines_cons (a := [32, 32]) (r := t ++ [10]) (by decide)
    rw [show [10, 32, 32, 10] ++ t ++ [10] = [] ++ [10] ++ ([32, 32, 10] ++ t ++ [10]) from rfl, e1, show [32, 32, 10] ++ t ++ [10] = [32, 32] ++ [10] ++ (t ++ [10]) from by simp, e2]
  rw [e, readAll, line_none]
  simp only
  rw [readAll, line_blank]
  simp only
  rw [h1]
  rfl
end Go.Proofs.YtpjfnnlopcccaaaDoor
