/-
  Package asm: the examples of the chapter.
-/
import Derived.Test.YtpjfnnlopcccaaaDoorQVRead2
namespace Go.Proofs.YtpjfnnlopcccaaaDoor
open Go Go.RowKit Go.Maps
set_option linter.unusedVariables false
set_option linter.unusedSimpArgs false
set_option maxRecDepth 100000
abbrev exA : List Slot := [⟨99, 10, 1, -4, 0⟩, ⟨21, 1, 0, 3, 0⟩, ⟨149, 0, 0, 0, 0⟩]
abbrev exT : List UInt8 := [42, 40, 117, 51, 50, 32, 42, 41, 40, 114, 49, 48, 32, 45, 32, 52, 41, 32, 61, 32, 114, 49, 10, 105, 102, 32, 114, 49, 32, 61, 61, 32, 48, 32, 103, 111, 116, 111, 32, 43, 51, 10, 101, 120, 105, 116, 10]
abbrev exR : ByteArray := ⟨#[114, 49, 32, 61, 32, 53, 10, 10, 32, 32, 119, 49, 32, 43, 61, 32, 45, 51, 32, 10]⟩
abbrev exS : ByteArray := ⟨#[101, 120, 105, 116, 10, 114, 49, 32, 61, 32, 48, 53]⟩
theorem readR : readAll (linesOf exR) = some [⟨183, 1, 0, 0, 5⟩, ⟨4, 1, 0, 0, -3⟩] := by kernel_rfl
theorem readS : readAll (linesOf exS) = none := by kernel_rfl
theorem badS : badAt (linesOf exS) = 2 := by kernel_rfl
theorem lineN_ok {X : Nat → Slot} {n : Nat} (hA : AllOk X n) (hd : (X 0).d ≤ 10) (hs : (X 0).s ≤ 10) : lineN X n = bodyT (X 0) (if n = 2 then wideT (X 0) (X 1) else emptyT) := if_pos ⟨hA, hd, hs⟩
theorem one_ok {X : Nat → Slot} (h : (X 0).Ok) : AllOk X 1 := fun i hi => by
  obtain rfl : i = 0 := by omega
  exact h
theorem text_step {X : Nat → Slot} {n i : Nat} {t : List UInt8} {r : Option (List UInt8)} (hi : i < n) (hw : (X i).o ≠ 24) (hO : (X i).Ok) (hd : (X i).d ≤ 10) (hs : (X i).s ≤ 10) (ht : bodyT (X i) emptyT = bstr t) (hne : t ≠ []) (hr : textFrom X n (i + 1) = r) : textFrom X n i = r.map fun r => t ++ [10] ++ r := by
  have hsl : slotsAt X n i = 1 := if_neg (fun h => hw h.1)
  have hl : lineAt X n i = bstr t := by
    unfold lineAt
    rw [hsl, lineN_ok (one_ok hO) hd hs]
    exact ht
  rw [textFrom_yes hi (by rw [hl, bstr_size]; exact fun e => hne (List.length_eq_zero_iff.1 e)), hsl, hr, hl]
  rfl
theorem textA : textFrom (nthS exA) 3 0 = some exT := by
  have h3 : textFrom (nthS exA) 3 3 = some [] := textFrom_end (by decide)
  have h2 := text_step (X := nthS exA) (n := 3) (i := 2) (t := [101, 120, 105, 116]) (by decide) (by decide) (by decide) (by decide) (by decide) (by kernel_rfl) (by decide) h3
  have h1 := text_step (X := nthS exA) (n := 3) (i := 1) (t := [105, 102, 32, 114, 49, 32, 61, 61, 32, 48, 32, 103, 111, 116, 111, 32, 43, 51]) (by decide) (by decide) (by decide) (by decide) (by decide) (by kernel_rfl) (by decide) h2
  have h0 := text_step (X := nthS exA) (n := 3) (i := 0) (t := [42, 40, 117, 51, 50, 32, 42, 41, 40, 114, 49, 48, 32, 45, 32, 52, 41, 32, 61, 32, 114, 49]) (by decide) (by decide) (by decide) (by decide) (by decide) (by kernel_rfl) (by decide) h1
  rw [h0]
  rfl
set_option maxHeartbeats 4000000 in
theorem awake_any (w : World) (hT : Tabs w) : Calls Tryd.prog 7 #[] w fun e w' => e = .returned (.bool true) ∧ Below w.heap.size w w' := by
  have C1 : Hid (∀ w' : World, Tabs w' → Slots w' (some ⟨w.heap.size, 0, none⟩) 3 (nthS exA) → Calls Tryd.prog 6 #[.slice (some ⟨w.heap.size, 0, none⟩) 3 3] w' fun e w'' => e = .returned (.tuple #[.string (bstr exT), .int .i64 0]) ∧ Below w'.heap.size w' w'') := by
    intro w' hw hsl
    have h := Text_any _ 3 3 (nthS exA) (by decide) (by decide) w' hw hsl
    unfold textE at h
    rw [textA] at h
    exact h
  have C2 : Hid (∀ w' : World, Tabs w' → Calls Tryd.prog 8 #[.string exR] w' fun e w'' => Below w'.heap.size w' w'' ∧ ∃ v, e = .returned (.tuple #[v, .int .i64 0, .int .i64 0]) ∧ rowAt w'' w'.heap.size v [⟨183, 1, 0, 0, 5⟩, ⟨4, 1, 0, 0, -3⟩]) := by
    intro w' hw
    have h := Read_any exR (by decide) w' hw
    unfold ReadG at h
    rw [readR] at h
    exact h
  have C3 : Hid (∀ w' : World, Tabs w' → Calls Tryd.prog 8 #[.string exS] w' fun e w'' => Below w'.heap.size w' w'' ∧ e = .returned (.tuple #[.slice none 0 0, .int .i64 2, .int .i64 31])) := by
    intro w' hw
    have h := Read_any exS (by decide) w' hw
    unfold ReadG at h
    rw [readS, badS] at h
    exact h
  have H1 : Hid (Tabs (w.alloc (.cells #[.int .i64 99, .int .i64 10, .int .i64 1, .int .i64 (-4), .int .i64 0, .int .i64 21, .int .i64 1, .int .i64 0, .int .i64 3, .int .i64 0, .int .i64 149, .int .i64 0, .int .i64 0, .int .i64 0, .int .i64 0] inT))) := hT.below (below_alloc w _)
  have HS : Hid (Slots (w.alloc (.cells #[.int .i64 99, .int .i64 10, .int .i64 1, .int .i64 (-4), .int .i64 0, .int .i64 21, .int .i64 1, .int .i64 0, .int .i64 3, .int .i64 0, .int .i64 149, .int .i64 0, .int .i64 0, .int .i64 0, .int .i64 0] inT)) (some ⟨w.heap.size, 0, none⟩) 3 (nthS exA)) := by
    intro i hi
    have hB := Blk.new w inT #[.int .i64 99, .int .i64 10, .int .i64 1, .int .i64 (-4), .int .i64 0, .int .i64 21, .int .i64 1, .int .i64 0, .int .i64 3, .int .i64 0, .int .i64 149, .int .i64 0, .int .i64 0, .int .i64 0, .int .i64 0]
    refine ⟨w.heap.size, 0, rfl, by simp, ?_⟩
    rcases (by omega : i = 0 ∨ i = 1 ∨ i = 2) with rfl | rfl | rfl
    · exact ⟨hB.cell 0, hB.cell 1, hB.cell 2, hB.cell 3, hB.cell 4⟩
    · exact ⟨hB.cell 5, hB.cell 6, hB.cell 7, hB.cell 8, hB.cell 9⟩
    · exact ⟨hB.cell 10, hB.cell 11, hB.cell 12, hB.cell 13, hB.cell 14⟩
  have hq : ∀ w, (binOp .eql inT (.agg #[.int .i64 4, .int .i64 1, .int .i64 0, .int .i64 0, .int .i64 (-3)]) (.agg #[.int .i64 4, .int .i64 1, .int .i64 0, .int .i64 0, .int .i64 (-3)])).run Tryd.prog w = .ok (.bool true) w := fun w => eq5 4 1 0 0 (-3) 4 1 0 0 (-3) w
  have ht : ((bstr exT).toList == [42, 40, 117, 51, 50, 32, 42, 41, 40, 114, 49, 48, 32, 45, 32, 52, 41, 32, 61, 32, 114, 49, 10, 105, 102, 32, 114, 49, 32, 61, 61, 32, 48, 32, 103, 111, 116, 111, 32, 43, 51, 10, 101, 120, 105, 116, 10]) = true := (same_const (bstr exT) [42, 40, 117, 51, 50, 32, 42, 41, 40, 114, 49, 48, 32, 45, 32, 52, 41, 32, 61, 32, 114, 49, 10, 105, 102, 32, 114, 49, 32, 61, 61, 32, 48, 32, 103, 111, 116, 111, 32, 43, 51, 10, 101, 120, 105, 116, 10]).trans (by unfold sameT; exact decide_eq_true rfl)
  obtain ⟨tx, htx⟩ : ∃ t, bstr exT = t := ⟨_, rfl⟩
  rw [htx] at C1 ht
  clear htx hT
  go_enter Tryd.func7, Tryd.ntmps7
  go_wp2_with (first
    | (go_at_call 6; refine (C1.out _ H1.out HS.out).mono ?_; rintro e w2 ⟨rfl, hb⟩; have B2 := Lib.hid ((below_alloc w _).on hb); have T2 := Lib.hid (H1.out.below hb); clear hb)
    | (go_at_call 8; first
      | (refine (C2.out _ T2.out).mono ?_; clear C2; rintro e w3 ⟨hb, v, rfl, hrow⟩; have B3 := Lib.hid (B2.out.on hb); have T3 := Lib.hid (T2.out.below hb); obtain ⟨A, c, rfl, hcl⟩ := own_form_any hrow; obtain ⟨g, rfl, hg, hcell⟩ := hcl (by decide); have HG := Lib.hid hg; have HC := Lib.hid hcell; clear hb hrow hcl hg hcell)
      | (refine (C3.out _ T3.out).mono ?_; rintro e w4 ⟨hb, rfl⟩; have B4 := Lib.hid (B3.out.on hb); have c5 : w4.cell? ⟨g, 5, none⟩ = some (.int .i64 4) := (hb.cell (p := ⟨g, 5, none⟩) HG.out).trans (HC.out 5 _ rfl); have c6 : w4.cell? ⟨g, 6, none⟩ = some (.int .i64 1) := (hb.cell (p := ⟨g, 6, none⟩) HG.out).trans (HC.out 6 _ rfl); have c7 : w4.cell? ⟨g, 7, none⟩ = some (.int .i64 0) := (hb.cell (p := ⟨g, 7, none⟩) HG.out).trans (HC.out 7 _ rfl); have c8 : w4.cell? ⟨g, 8, none⟩ = some (.int .i64 0) := (hb.cell (p := ⟨g, 8, none⟩) HG.out).trans (HC.out 8 _ rfl); have c9 : w4.cell? ⟨g, 9, none⟩ = some (.int .i64 (-3)) := (hb.cell (p := ⟨g, 9, none⟩) HG.out).trans (HC.out 9 _ rfl); clear hb)))
  go_ret
  exact ⟨rfl, B4.out⟩
end Go.Proofs.YtpjfnnlopcccaaaDoor
