/-
  The reference's guess: two slots, or no line. The reference's guess: right sides.
-/
import Derived.Test.YtemiklbkfogjeaaGreatDoorQ31
namespace Go.Proofs.YtemiklbkfogjeaaGreatDoor
open Go Go.RowKit Go.Maps
set_option linter.unusedVariables false
set_option linter.unusedSimpArgs false
set_option maxRecDepth 100000
set_option maxHeartbeats 4000000 in
theorem guess_short_n1E (s : ByteArray) (hz : s.size ≤ 1048576) (w : World) {L : List ByteArray} {a0 : ByteArray} (hL : wordsR s = L) (hl : L.length = 1) (h0 : wordAt L 0 = a0) (hx : (s.toList == [101, 120, 105, 116]) = false) (hi : (a0.toList == [105, 102]) = false) (hk : (a0.toList == [108, 111, 99, 107]) = false) (he : (a0.toList == []) = true) (he1 : a0.toList.isEmpty = true) :
  Calls Tryz.prog 16 #[.string s] w (GIs w [zeroS]) := by
 have hw0 := words04_any s hz w
 rw [hL] at hw0
 have HNE : Hid (L ≠ []) := fun h => wordsR_ne s (hL.trans h)
 have HL := Lib.hid hl
 have CW := Lib.hid hw0
 have H0 := Lib.hid h0
 clear hw0 hL hl hz h0
 go_enter Tryz.func16, Tryz.ntmps16
 go_upto_region 2 with (go_at_call 26; refine CW.out.mono ?_; rintro e w1 ⟨V, rfl, hb, hst⟩; obtain ⟨g, c, rfl, hgw⟩ := words_gw hst hb HNE.out; have G := Lib.hid hgw; clear hb hst hgw; rw [HL.out] at G ⊢)
 have q0 : w1.cell? ⟨g, 0, none⟩ = some (.string a0) := H0.out ▸ G.out.word 0 (by omega)
 go_wp2_with fail
 go_ret
 exact gis_one G.out.below _ _ _ _ _
set_option maxHeartbeats 4000000 in
theorem guess_short_n1F (s : ByteArray) (hz : s.size ≤ 1048576) (w : World) {L : List ByteArray} {a0 : ByteArray} (hL : wordsR s = L) (hl : L.length = 1) (h0 : wordAt L 0 = a0) (hx : (s.toList == [101, 120, 105, 116]) = false) (hi : (a0.toList == [105, 102]) = false) (hk : (a0.toList == [108, 111, 99, 107]) = false) (he : (a0.toList == []) = false) (he1 : a0.toList.isEmpty = false) (hp : (0 : Int) < (a0.size : Int)) {v : Nat} (xv : ∀ W : World, (Instr.index 9 (.string a0) (.int .i64 (0 : Int))).run Tryz.prog W = .ok (.int .u8 (v : Int)) W) (hv : ((v : Int) == 42) = false) :
  Calls Tryz.prog 16 #[.string s] w (GIs w [zeroS]) := by
 have hw0 := words04_any s hz w
 rw [hL] at hw0
 have HNE : Hid (L ≠ []) := fun h => wordsR_ne s (hL.trans h)
 have HL := Lib.hid hl
 have CW := Lib.hid hw0
 have H0 := Lib.hid h0
 clear hw0 hL hl hz h0
 go_enter Tryz.func16, Tryz.ntmps16
 go_upto_region 2 with (go_at_call 26; refine CW.out.mono ?_; rintro e w1 ⟨V, rfl, hb, hst⟩; obtain ⟨g, c, rfl, hgw⟩ := words_gw hst hb HNE.out; have G := Lib.hid hgw; clear hb hst hgw; rw [HL.out] at G ⊢)
 have q0 : w1.cell? ⟨g, 0, none⟩ = some (.string a0) := H0.out ▸ G.out.word 0 (by omega)
 go_wp2_with fail
 go_ret
 exact gis_one G.out.below _ _ _ _ _
set_option maxHeartbeats 4000000 in
theorem guess_short_n2E (s : ByteArray) (hz : s.size ≤ 1048576) (w : World) {L : List ByteArray} {a0 a1 : ByteArray} (hL : wordsR s = L) (hl : L.length = 2) (h0 : wordAt L 0 = a0) (h1 : wordAt L 1 = a1) (hx : (s.toList == [101, 120, 105, 116]) = false) (hc : (a0.toList == [99, 97, 108, 108]) = false) (hg : (a0.toList == [103, 111, 116, 111]) = false) (hi : (a0.toList == [105, 102]) = false) (hk : (a0.toList == [108, 111, 99, 107]) = false) (he : (a0.toList == []) = true) (he1 : a0.toList.isEmpty = true) :
  Calls Tryz.prog 16 #[.string s] w (GIs w [zeroS]) := by
 have hw0 := words04_any s hz w
 rw [hL] at hw0
 have HNE : Hid (L ≠ []) := fun h => wordsR_ne s (hL.trans h)
 have HL := Lib.hid hl
 have CW := Lib.hid hw0
 have H0 := Lib.hid h0
 have H1 := Lib.hid h1
 clear hw0 hL hl hz h0 h1
 go_enter Tryz.func16, Tryz.ntmps16
 go_upto_region 2 with (go_at_call 26; refine CW.out.mono ?_; rintro e w1 ⟨V, rfl, hb, hst⟩; obtain ⟨g, c, rfl, hgw⟩ := words_gw hst hb HNE.out; have G := Lib.hid hgw; clear hb hst hgw; rw [HL.out] at G ⊢)
 have q0 : w1.cell? ⟨g, 0, none⟩ = some (.string a0) := H0.out ▸ G.out.word 0 (by omega)
 have q1 : w1.cell? ⟨g, 1, none⟩ = some (.string a1) := H1.out ▸ G.out.word 1 (by omega)
 go_wp2_with fail
 go_ret
 exact gis_one G.out.below _ _ _ _ _
set_option maxHeartbeats 4000000 in
theorem guess_short_n2F (s : ByteArray) (hz : s.size ≤ 1048576) (w : World) {L : List ByteArray} {a0 a1 : ByteArray} (hL : wordsR s = L) (hl : L.length = 2) (h0 : wordAt L 0 = a0) (h1 : wordAt L 1 = a1) (hx : (s.toList == [101, 120, 105, 116]) = false) (hc : (a0.toList == [99, 97, 108, 108]) = false) (hg : (a0.toList == [103, 111, 116, 111]) = false) (hi : (a0.toList == [105, 102]) = false) (hk : (a0.toList == [108, 111, 99, 107]) = false) (he : (a0.toList == []) = false) (he1 : a0.toList.isEmpty = false) (hp : (0 : Int) < (a0.size : Int)) {v : Nat} (xv : ∀ W : World, (Instr.index 9 (.string a0) (.int .i64 (0 : Int))).run Tryz.prog W = .ok (.int .u8 (v : Int)) W) (hv : ((v : Int) == 42) = false) :
  Calls Tryz.prog 16 #[.string s] w (GIs w [zeroS]) := by
 have hw0 := words04_any s hz w
 rw [hL] at hw0
 have HNE : Hid (L ≠ []) := fun h => wordsR_ne s (hL.trans h)
 have HL := Lib.hid hl
 have CW := Lib.hid hw0
 have H0 := Lib.hid h0
 have H1 := Lib.hid h1
 clear hw0 hL hl hz h0 h1
 go_enter Tryz.func16, Tryz.ntmps16
 go_upto_region 2 with (go_at_call 26; refine CW.out.mono ?_; rintro e w1 ⟨V, rfl, hb, hst⟩; obtain ⟨g, c, rfl, hgw⟩ := words_gw hst hb HNE.out; have G := Lib.hid hgw; clear hb hst hgw; rw [HL.out] at G ⊢)
 have q0 : w1.cell? ⟨g, 0, none⟩ = some (.string a0) := H0.out ▸ G.out.word 0 (by omega)
 have q1 : w1.cell? ⟨g, 1, none⟩ = some (.string a1) := H1.out ▸ G.out.word 1 (by omega)
 go_wp2_with fail
 go_ret
 exact gis_one G.out.below _ _ _ _ _
set_option maxHeartbeats 4000000 in
theorem guess_short_nME (s : ByteArray) (hz : s.size ≤ 1048576) (w : World) {L : List ByteArray} {a0 a1 a2 : ByteArray} (hL : wordsR s = L) {n : Nat} (hl : L.length = n) (h0 : wordAt L 0 = a0) (h1 : wordAt L 1 = a1) (h2 : wordAt L 2 = a2) (hx : (s.toList == [101, 120, 105, 116]) = false) (hM : 3 ≤ n ∧ n ≠ 4 ∧ n ≠ 5) (hi : (a0.toList == [105, 102]) = false) (hk : (a0.toList == [108, 111, 99, 107]) = false) (he : (a0.toList == []) = true) (he1 : a0.toList.isEmpty = true) :
  Calls Tryz.prog 16 #[.string s] w (GIs w [zeroS]) := by
 have hw0 := words04_any s hz w
 rw [hL] at hw0
 have HNE : Hid (L ≠ []) := fun h => wordsR_ne s (hL.trans h)
 have HL := Lib.hid hl
 have CW := Lib.hid hw0
 have H0 := Lib.hid h0
 have H1 := Lib.hid h1
 have H2 := Lib.hid h2
 have n2 : ((n : Int) == 2) = false := by simp; omega
 have n2' : (n == 2) = false := by simp; omega
 have n4 : ((n : Int) == 4) = false := by simp; omega
 have n4' : (n == 4) = false := by simp; omega
 have n5 : ((n : Int) == 5) = false := by simp; omega
 have n5' : (n == 5) = false := by simp; omega
 have n3 : decide ((n : Int) < 3) = false := decide_eq_false (by omega)
 have n3' : decide (n < 3) = false := decide_eq_false (by omega)
 have i0 : (0 : Int) < (n : Int) := by omega
 have i1 : (1 : Int) < (n : Int) := by omega
 have i2 : (2 : Int) < (n : Int) := by omega
 clear hw0 hL hl hz h0 h1 h2
 go_enter Tryz.func16, Tryz.ntmps16
 go_upto_region 2 with (go_at_call 26; refine CW.out.mono ?_; rintro e w1 ⟨V, rfl, hb, hst⟩; obtain ⟨g, c, rfl, hgw⟩ := words_gw hst hb HNE.out; have G := Lib.hid hgw; clear hb hst hgw; rw [HL.out] at G ⊢)
 have q0 : w1.cell? ⟨g, 0, none⟩ = some (.string a0) := H0.out ▸ G.out.word 0 (by omega)
 have q1 : w1.cell? ⟨g, 1, none⟩ = some (.string a1) := H1.out ▸ G.out.word 1 (by omega)
 have q2 : w1.cell? ⟨g, 2, none⟩ = some (.string a2) := H2.out ▸ G.out.word 2 (by omega)
 go_wp2_with fail
 go_ret
 exact gis_one G.out.below _ _ _ _ _
set_option maxHeartbeats 4000000 in
theorem guess_short_n4E (s : ByteArray) (hz : s.size ≤ 1048576) (w : World) {L : List ByteArray} {a0 a1 a2 a3 : ByteArray} (hL : wordsR s = L) (hl : L.length = 4) (h0 : wordAt L 0 = a0) (h1 : wordAt L 1 = a1) (h2 : wordAt L 2 = a2) (h3 : wordAt L 3 = a3) (hx : (s.toList == [101, 120, 105, 116]) = false) (hll : (a3.toList == [108, 108]) = false) (hi : (a0.toList == [105, 102]) = false) (hk : (a0.toList == [108, 111, 99, 107]) = false) (he : (a0.toList == []) = true) (he1 : a0.toList.isEmpty = true) :
  Calls Tryz.prog 16 #[.string s] w (GIs w [zeroS]) := by
 have hw0 := words04_any s hz w
 rw [hL] at hw0
 have HNE : Hid (L ≠ []) := fun h => wordsR_ne s (hL.trans h)
 have HL := Lib.hid hl
 have CW := Lib.hid hw0
 have H0 := Lib.hid h0
 have H1 := Lib.hid h1
 have H2 := Lib.hid h2
 have H3 := Lib.hid h3
 clear hw0 hL hl hz h0 h1 h2 h3
 go_enter Tryz.func16, Tryz.ntmps16
 go_upto_region 2 with (go_at_call 26; refine CW.out.mono ?_; rintro e w1 ⟨V, rfl, hb, hst⟩; obtain ⟨g, c, rfl, hgw⟩ := words_gw hst hb HNE.out; have G := Lib.hid hgw; clear hb hst hgw; rw [HL.out] at G ⊢)
 have q0 : w1.cell? ⟨g, 0, none⟩ = some (.string a0) := H0.out ▸ G.out.word 0 (by omega)
 have q1 : w1.cell? ⟨g, 1, none⟩ = some (.string a1) := H1.out ▸ G.out.word 1 (by omega)
 have q2 : w1.cell? ⟨g, 2, none⟩ = some (.string a2) := H2.out ▸ G.out.word 2 (by omega)
 have q3 : w1.cell? ⟨g, 3, none⟩ = some (.string a3) := H3.out ▸ G.out.word 3 (by omega)
 go_wp2_with fail
 go_ret
 exact gis_one G.out.below _ _ _ _ _
set_option maxHeartbeats 4000000 in
theorem guess_short_n5E (s : ByteArray) (hz : s.size ≤ 1048576) (w : World) {L : List ByteArray} {a0 a1 a2 a3 a4 : ByteArray} (hL : wordsR s = L) (hl : L.length = 5) (h0 : wordAt L 0 = a0) (h1 : wordAt L 1 = a1) (h2 : wordAt L 2 = a2) (h3 : wordAt L 3 = a3) (h4 : wordAt L 4 = a4) (hx : (s.toList == [101, 120, 105, 116]) = false) (hll : (a4.toList == [108, 108]) = false) (hi : (a0.toList == [105, 102]) = false) (hk : (a0.toList == [108, 111, 99, 107]) = false) (he : (a0.toList == []) = true) (he1 : a0.toList.isEmpty = true) :
  Calls Tryz.prog 16 #[.string s] w (GIs w [zeroS]) := by
 have hw0 := words04_any s hz w
 rw [hL] at hw0
 have HNE : Hid (L ≠ []) := fun h => wordsR_ne s (hL.trans h)
 have HL := Lib.hid hl
 have CW := Lib.hid hw0
 have H0 := Lib.hid h0
 have H1 := Lib.hid h1
 have H2 := Lib.hid h2
 have H3 := Lib.hid h3
 have H4 := Lib.hid h4
 clear hw0 hL hl hz h0 h1 h2 h3 h4
 go_enter Tryz.func16, Tryz.ntmps16
 go_upto_region 2 with (go_at_call 26; refine CW.out.mono ?_; rintro e w1 ⟨V, rfl, hb, hst⟩; obtain ⟨g, c, rfl, hgw⟩ := words_gw hst hb HNE.out; have G := Lib.hid hgw; clear hb hst hgw; rw [HL.out] at G ⊢)
 have q0 : w1.cell? ⟨g, 0, none⟩ = some (.string a0) := H0.out ▸ G.out.word 0 (by omega)
 have q1 : w1.cell? ⟨g, 1, none⟩ = some (.string a1) := H1.out ▸ G.out.word 1 (by omega)
 have q2 : w1.cell? ⟨g, 2, none⟩ = some (.string a2) := H2.out ▸ G.out.word 2 (by omega)
 have q3 : w1.cell? ⟨g, 3, none⟩ = some (.string a3) := H3.out ▸ G.out.word 3 (by omega)
 have q4 : w1.cell? ⟨g, 4, none⟩ = some (.string a4) := H4.out ▸ G.out.word 4 (by omega)
 go_wp2_with fail
 go_ret
 exact gis_one G.out.below _ _ _ _ _
set_option maxHeartbeats 4000000 in
theorem guess_ll4E (s : ByteArray) (hz : s.size ≤ 1048576) (w : World) {L : List ByteArray} {a0 a2 a3 : ByteArray} (hL : wordsR s = L) (hl : L.length = 4) (h0 : wordAt L 0 = a0) (h2 : wordAt L 2 = a2) (h3 : wordAt L 3 = a3) (hx : (s.toList == [101, 120, 105, 116]) = false) (hll : (a3.toList == [108, 108]) = true) (hi : (a0.toList == [105, 102]) = false) (hk : (a0.toList == [108, 111, 99, 107]) = false) (he : (a0.toList == []) = true) (he1 : a0.toList.isEmpty = true) (hs0 : a0.size ≤ 4611686018427387904) (hs2 : a2.size ≤ 4611686018427387904) (hu : unumD a2 ≤ maxU) :
  Calls Tryz.prog 16 #[.string s] w (GIs w [⟨24, regR a0 114, 0, 0, lo32 (unumD a2)⟩, ⟨0, 0, 0, 0, hi32 (unumD a2)⟩]) := by
 have hw0 := words04_any s hz w
 rw [hL] at hw0
 have HNE : Hid (L ≠ []) := fun h => wordsR_ne s (hL.trans h)
 have HL := Lib.hid hl
 have CW := Lib.hid hw0
 have H0 := Lib.hid h0
 have H2 := Lib.hid h2
 have H3 := Lib.hid h3
 have CU : Hid (∀ W, Calls Tryz.prog 32 #[.string a2] W fun e w' => e = .returned (.tuple #[.int .u64 ((unumD a2 : Nat) : Int), .bool (digN maxU a2).isSome]) ∧ W = w') := fun W => unumber_any a2 hs2 W
 have CR : Hid (∀ W, Calls Tryz.prog 34 #[.string a0, .int .u8 114] W fun e w' => e = .returned (.int .i64 (regR a0 114)) ∧ W = w') := fun W => regOf04_any a0 114 hs0 W
 have CL := Lib.hid (fun (d : Int) W => lay04_any d (unumD a2) hu W)
 generalize unumD a2 = u at *
 generalize regR a0 114 = rg at *
 generalize (digN maxU a2).isSome = nb at *
 generalize lo32 u = lo at *
 generalize hi32 u = hi at *
 clear hw0 hL hl hz h0 h2 h3 hu
 go_enter Tryz.func16, Tryz.ntmps16
 go_upto_region 2 with (go_at_call 26; refine CW.out.mono ?_; rintro e w1 ⟨V, rfl, hb, hst⟩; obtain ⟨g, c, rfl, hgw⟩ := words_gw hst hb HNE.out; have G := Lib.hid hgw; clear hb hst hgw; rw [HL.out] at G ⊢)
 have q0 : w1.cell? ⟨g, 0, none⟩ = some (.string a0) := H0.out ▸ G.out.word 0 (by omega)
 have q2 : w1.cell? ⟨g, 2, none⟩ = some (.string a2) := H2.out ▸ G.out.word 2 (by omega)
 have q3 : w1.cell? ⟨g, 3, none⟩ = some (.string a3) := H3.out ▸ G.out.word 3 (by omega)
 go_wp2_with (first
  | (go_at_call 32; refine (CU.out _).mono ?_; rintro e w2 ⟨rfl, rfl⟩)
  | (go_at_call 34; refine (CR.out _).mono ?_; rintro e w2 ⟨rfl, rfl⟩)
  | (go_at_call 33; refine (CL.out _ _).mono ?_; rintro e w3 ⟨rfl, hb⟩; have G3 := Lib.hid (G.out.grow hb); clear hb))
 go_ret
 exact gis_two' (G3.out.below.alloc G3.out.below.size _) (by simp) _ _ _ _ _ _ _ _ _ _
set_option maxHeartbeats 4000000 in
theorem guess_ll5E (s : ByteArray) (hz : s.size ≤ 1048576) (w : World) {L : List ByteArray} {a0 a3 a4 : ByteArray} (hL : wordsR s = L) (hl : L.length = 5) (h0 : wordAt L 0 = a0) (h3 : wordAt L 3 = a3) (h4 : wordAt L 4 = a4) (hx : (s.toList == [101, 120, 105, 116]) = false) (hll : (a4.toList == [108, 108]) = true) (hi : (a0.toList == [105, 102]) = false) (hk : (a0.toList == [108, 111, 99, 107]) = false) (he : (a0.toList == []) = true) (he1 : a0.toList.isEmpty = true) (hs0 : a0.size ≤ 4611686018427387904) (hs3 : a3.size ≤ 4611686018427387904) :
  Calls Tryz.prog 16 #[.string s] w (GIs w [⟨24, regR a0 114, 1, 0, numD a3⟩, ⟨0, 0, 0, 0, 0⟩]) := by
 have hw0 := words04_any s hz w
 rw [hL] at hw0
 have HNE : Hid (L ≠ []) := fun h => wordsR_ne s (hL.trans h)
 have HL := Lib.hid hl
 have CW := Lib.hid hw0
 have H0 := Lib.hid h0
 have H3 := Lib.hid h3
 have H4 := Lib.hid h4
 have CU : Hid (∀ W, Calls Tryz.prog 27 #[.string a3] W fun e w' => e = .returned (.tuple #[.int .i64 (numD a3), .bool (numR a3).isSome]) ∧ W = w') := fun W => number04_any a3 hs3 W
 have CR : Hid (∀ W, Calls Tryz.prog 34 #[.string a0, .int .u8 114] W fun e w' => e = .returned (.int .i64 (regR a0 114)) ∧ W = w') := fun W => regOf04_any a0 114 hs0 W
 generalize numD a3 = u at *
 generalize regR a0 114 = rg at *
 generalize (numR a3).isSome = nb at *
 clear hw0 hL hl hz h0 h3 h4
 go_enter Tryz.func16, Tryz.ntmps16
 go_upto_region 2 with (go_at_call 26; refine CW.out.mono ?_; rintro e w1 ⟨V, rfl, hb, hst⟩; obtain ⟨g, c, rfl, hgw⟩ := words_gw hst hb HNE.out; have G := Lib.hid hgw; clear hb hst hgw; rw [HL.out] at G ⊢)
 have q0 : w1.cell? ⟨g, 0, none⟩ = some (.string a0) := H0.out ▸ G.out.word 0 (by omega)
 have q3 : w1.cell? ⟨g, 3, none⟩ = some (.string a3) := H3.out ▸ G.out.word 3 (by omega)
 have q4 : w1.cell? ⟨g, 4, none⟩ = some (.string a4) := H4.out ▸ G.out.word 4 (by omega)
 go_wp2_with (first
  | (go_at_call 27; refine (CU.out _).mono ?_; rintro e w2 ⟨rfl, rfl⟩)
  | (go_at_call 34; refine (CR.out _).mono ?_; rintro e w2 ⟨rfl, rfl⟩))
 go_ret
 exact gis_two G.out.below _ _ _ _ _ _ _ _ _ _
set_option maxHeartbeats 4000000 in
theorem guess_ll4F (s : ByteArray) (hz : s.size ≤ 1048576) (w : World) {L : List ByteArray} {a0 a2 a3 : ByteArray} (hL : wordsR s = L) (hl : L.length = 4) (h0 : wordAt L 0 = a0) (h2 : wordAt L 2 = a2) (h3 : wordAt L 3 = a3) (hx : (s.toList == [101, 120, 105, 116]) = false) (hll : (a3.toList == [108, 108]) = true) (hi : (a0.toList == [105, 102]) = false) (hk : (a0.toList == [108, 111, 99, 107]) = false) (he : (a0.toList == []) = false) (he1 : a0.toList.isEmpty = false) (hp : (0 : Int) < (a0.size : Int)) {v : Nat} (xv : ∀ W : World, (Instr.index 9 (.string a0) (.int .i64 (0 : Int))).run Tryz.prog W = .ok (.int .u8 (v : Int)) W) (hv : ((v : Int) == 42) = false) (hs0 : a0.size ≤ 4611686018427387904) (hs2 : a2.size ≤ 4611686018427387904) (hu : unumD a2 ≤ maxU) :
  Calls Tryz.prog 16 #[.string s] w (GIs w [⟨24, regR a0 114, 0, 0, lo32 (unumD a2)⟩, ⟨0, 0, 0, 0, hi32 (unumD a2)⟩]) := by
 have hw0 := words04_any s hz w
 rw [hL] at hw0
 have HNE : Hid (L ≠ []) := fun h => wordsR_ne s (hL.trans h)
 have HL := Lib.hid hl
 have CW := Lib.hid hw0
 have H0 := Lib.hid h0
 have H2 := Lib.hid h2
 have H3 := Lib.hid h3
 have CU : Hid (∀ W, Calls Tryz.prog 32 #[.string a2] W fun e w' => e = .returned (.tuple #[.int .u64 ((unumD a2 : Nat) : Int), .bool (digN maxU a2).isSome]) ∧ W = w') := fun W => unumber_any a2 hs2 W
 have CR : Hid (∀ W, Calls Tryz.prog 34 #[.string a0, .int .u8 114] W fun e w' => e = .returned (.int .i64 (regR a0 114)) ∧ W = w') := fun W => regOf04_any a0 114 hs0 W
 have CL := Lib.hid (fun (d : Int) W => lay04_any d (unumD a2) hu W)
 generalize unumD a2 = u at *
 generalize regR a0 114 = rg at *
 generalize (digN maxU a2).isSome = nb at *
 generalize lo32 u = lo at *
 generalize hi32 u = hi at *
 clear hw0 hL hl hz h0 h2 h3 hu
 go_enter Tryz.func16, Tryz.ntmps16
 go_upto_region 2 with (go_at_call 26; refine CW.out.mono ?_; rintro e w1 ⟨V, rfl, hb, hst⟩; obtain ⟨g, c, rfl, hgw⟩ := words_gw hst hb HNE.out; have G := Lib.hid hgw; clear hb hst hgw; rw [HL.out] at G ⊢)
 have q0 : w1.cell? ⟨g, 0, none⟩ = some (.string a0) := H0.out ▸ G.out.word 0 (by omega)
 have q2 : w1.cell? ⟨g, 2, none⟩ = some (.string a2) := H2.out ▸ G.out.word 2 (by omega)
 have q3 : w1.cell? ⟨g, 3, none⟩ = some (.string a3) := H3.out ▸ G.out.word 3 (by omega)
 go_wp2_with (first
  | (go_at_call 32; refine (CU.out _).mono ?_; rintro e w2 ⟨rfl, rfl⟩)
  | (go_at_call 34; refine (CR.out _).mono ?_; rintro e w2 ⟨rfl, rfl⟩)
  | (go_at_call 33; refine (CL.out _ _).mono ?_; rintro e w3 ⟨rfl, hb⟩; have G3 := Lib.hid (G.out.grow hb); clear hb))
 go_ret
 exact gis_two' (G3.out.below.alloc G3.out.below.size _) (by simp) _ _ _ _ _ _ _ _ _ _
set_option maxHeartbeats 4000000 in
theorem guess_ll5F (s : ByteArray) (hz : s.size ≤ 1048576) (w : World) {L : List ByteArray} {a0 a3 a4 : ByteArray} (hL : wordsR s = L) (hl : L.length = 5) (h0 : wordAt L 0 = a0) (h3 : wordAt L 3 = a3) (h4 : wordAt L 4 = a4) (hx : (s.toList == [101, 120, 105, 116]) = false) (hll : (a4.toList == [108, 108]) = true) (hi : (a0.toList == [105, 102]) = false) (hk : (a0.toList == [108, 111, 99, 107]) = false) (he : (a0.toList == []) = false) (he1 : a0.toList.isEmpty = false) (hp : (0 : Int) < (a0.size : Int)) {v : Nat} (xv : ∀ W : World, (Instr.index 9 (.string a0) (.int .i64 (0 : Int))).run Tryz.prog W = .ok (.int .u8 (v : Int)) W) (hv : ((v : Int) == 42) = false) (hs0 : a0.size ≤ 4611686018427387904) (hs3 : a3.size ≤ 4611686018427387904) :
  Calls Tryz.prog 16 #[.string s] w (GIs w [⟨24, regR a0 114, 1, 0, numD a3⟩, ⟨0, 0, 0, 0, 0⟩]) := by
 have hw0 := words04_any s hz w
 rw [hL] at hw0
 have HNE : Hid (L ≠ []) := fun h => wordsR_ne s (hL.trans h)
 have HL := Lib.hid hl
 have CW := Lib.hid hw0
 have H0 := Lib.hid h0
 have H3 := Lib.hid h3
 have H4 := Lib.hid h4
 have CU : Hid (∀ W, Calls Tryz.prog 27 #[.string a3] W fun e w' => e = .returned (.tuple #[.int .i64 (numD a3), .bool (numR a3).isSome]) ∧ W = w') := fun W => number04_any a3 hs3 W
 have CR : Hid (∀ W, Calls Tryz.prog 34 #[.string a0, .int .u8 114] W fun e w' => e = .returned (.int .i64 (regR a0 114)) ∧ W = w') := fun W => regOf04_any a0 114 hs0 W
 generalize numD a3 = u at *
 generalize regR a0 114 = rg at *
 generalize (numR a3).isSome = nb at *
 clear hw0 hL hl hz h0 h3 h4
 go_enter Tryz.func16, Tryz.ntmps16
 go_upto_region 2 with (go_at_call 26; refine CW.out.mono ?_; rintro e w1 ⟨V, rfl, hb, hst⟩; obtain ⟨g, c, rfl, hgw⟩ := words_gw hst hb HNE.out; have G := Lib.hid hgw; clear hb hst hgw; rw [HL.out] at G ⊢)
 have q0 : w1.cell? ⟨g, 0, none⟩ = some (.string a0) := H0.out ▸ G.out.word 0 (by omega)
 have q3 : w1.cell? ⟨g, 3, none⟩ = some (.string a3) := H3.out ▸ G.out.word 3 (by omega)
 have q4 : w1.cell? ⟨g, 4, none⟩ = some (.string a4) := H4.out ▸ G.out.word 4 (by omega)
 go_wp2_with (first
  | (go_at_call 27; refine (CU.out _).mono ?_; rintro e w2 ⟨rfl, rfl⟩)
  | (go_at_call 34; refine (CR.out _).mono ?_; rintro e w2 ⟨rfl, rfl⟩))
 go_ret
 exact gis_two G.out.below _ _ _ _ _ _ _ _ _ _
set_option maxHeartbeats 4000000 in
theorem guess_sides_nM (s : ByteArray) (hz : s.size ≤ 1048576) (w : World) {L : List ByteArray} {a0 a1 a2 : ByteArray} (hL : wordsR s = L) {n : Nat} (hl : L.length = n) (h0 : wordAt L 0 = a0) (h1 : wordAt L 1 = a1) (h2 : wordAt L 2 = a2) (hx : (s.toList == [101, 120, 105, 116]) = false) (hM : 3 ≤ n ∧ n ≠ 4 ∧ n ≠ 5) (hi : (a0.toList == [105, 102]) = false) (hk : (a0.toList == [108, 111, 99, 107]) = false) (he : (a0.toList == []) = false) (he1 : a0.toList.isEmpty = false) (hp : (0 : Int) < (a0.size : Int)) {v : Nat} (xv : ∀ W : World, (Instr.index 9 (.string a0) (.int .i64 (0 : Int))).run Tryz.prog W = .ok (.int .u8 (v : Int)) W) (hv : ((v : Int) == 42) = false) {ld : UInt8} {cl : Int} (hB : (ld = 114 ∧ cl = 7 ∧ ((v : Int) == 119) = false) ∨ (ld = 119 ∧ cl = 4 ∧ ((v : Int) == 119) = true)) (hs : ∀ x ∈ L, x.size ≤ 4611686018427387904) (hq : (a1.toList == [61]) = true) :
  Calls Tryz.prog 16 #[.string s] w (GIs w [sidesG L ld cl]) := by
 have hw0 := words04_any s hz w
 rw [hL] at hw0
 have HNE : Hid (L ≠ []) := fun h => wordsR_ne s (hL.trans h)
 have HL := Lib.hid hl
 have CW := Lib.hid hw0
 have H0 := Lib.hid h0
 have H1 := Lib.hid h1
 have H2 := Lib.hid h2
 have n2 : ((n : Int) == 2) = false := by simp; omega
 have n2' : (n == 2) = false := by simp; omega
 have n4 : ((n : Int) == 4) = false := by simp; omega
 have n4' : (n == 4) = false := by simp; omega
 have n5 : ((n : Int) == 5) = false := by simp; omega
 have n5' : (n == 5) = false := by simp; omega
 have n3 : decide ((n : Int) < 3) = false := decide_eq_false (by omega)
 have n3' : decide (n < 3) = false := decide_eq_false (by omega)
 have i0 : (0 : Int) < (n : Int) := by omega
 have i1 : (1 : Int) < (n : Int) := by omega
 have i2 : (2 : Int) < (n : Int) := by omega
 have CT : Hid (∀ (g c : Nat) (W : World), GW w g c n L W → Calls Tryz.prog 35 #[.slice (some ⟨g, 0, none⟩) n c, .int .u8 (ld.toNat : Int), .int .i64 cl] W (SaysI W (sidesG L ld cl))) := fun g c W hg => by
  have h := sides04_any g 0 c L (by rw [HL.out]; omega) (by rw [hg.len]; exact hg.le) hg.cle hs ld cl (by rcases hB with h | h <;> omega) W hg.words hg.lt
  rw [HL.out] at h
  exact h
 generalize sidesG L ld cl = X0 at *
 obtain ⟨xo, xd, xs, xf, xm⟩ := X0
 clear hw0 hL hl hz h0 h1 h2 hs
 rcases hB with ⟨rfl, rfl, hw⟩ | ⟨rfl, rfl, hw⟩
 all_goals
  go_enter Tryz.func16, Tryz.ntmps16
  go_upto_region 2 with (go_at_call 26; refine CW.out.mono ?_; rintro e w1 ⟨V, rfl, hb, hst⟩; obtain ⟨g, c, rfl, hgw⟩ := words_gw hst hb HNE.out; have G := Lib.hid hgw; clear hb hst hgw; rw [HL.out] at G ⊢)
  have q0 : w1.cell? ⟨g, 0, none⟩ = some (.string a0) := H0.out ▸ G.out.word 0 (by omega)
  have q1 : w1.cell? ⟨g, 1, none⟩ = some (.string a1) := H1.out ▸ G.out.word 1 (by omega)
  have q2 : w1.cell? ⟨g, 2, none⟩ = some (.string a2) := H2.out ▸ G.out.word 2 (by omega)
  go_wp2_with (go_at_call 35; refine (CT.out _ _ _ G.out).mono ?_; rintro e w2 ⟨rfl, hb⟩; have G2 := Lib.hid (G.out.grow hb); clear hb)
  go_ret
  exact gis_one G2.out.below _ _ _ _ _
set_option maxHeartbeats 4000000 in
theorem guess_sides_n4 (s : ByteArray) (hz : s.size ≤ 1048576) (w : World) {L : List ByteArray} {a0 a1 a2 a3 : ByteArray} (hL : wordsR s = L) (hl : L.length = 4) (h0 : wordAt L 0 = a0) (h1 : wordAt L 1 = a1) (h2 : wordAt L 2 = a2) (h3 : wordAt L 3 = a3) (hx : (s.toList == [101, 120, 105, 116]) = false) (hll : (a3.toList == [108, 108]) = false) (hi : (a0.toList == [105, 102]) = false) (hk : (a0.toList == [108, 111, 99, 107]) = false) (he : (a0.toList == []) = false) (he1 : a0.toList.isEmpty = false) (hp : (0 : Int) < (a0.size : Int)) {v : Nat} (xv : ∀ W : World, (Instr.index 9 (.string a0) (.int .i64 (0 : Int))).run Tryz.prog W = .ok (.int .u8 (v : Int)) W) (hv : ((v : Int) == 42) = false) {ld : UInt8} {cl : Int} (hB : (ld = 114 ∧ cl = 7 ∧ ((v : Int) == 119) = false) ∨ (ld = 119 ∧ cl = 4 ∧ ((v : Int) == 119) = true)) (hs : ∀ x ∈ L, x.size ≤ 4611686018427387904) (hq : (a1.toList == [61]) = true) :
  Calls Tryz.prog 16 #[.string s] w (GIs w [sidesG L ld cl]) := by
 have hw0 := words04_any s hz w
 rw [hL] at hw0
 have HNE : Hid (L ≠ []) := fun h => wordsR_ne s (hL.trans h)
 have HL := Lib.hid hl
 have CW := Lib.hid hw0
 have H0 := Lib.hid h0
 have H1 := Lib.hid h1
 have H2 := Lib.hid h2
 have H3 := Lib.hid h3
 have CT : Hid (∀ (g c : Nat) (W : World), GW w g c 4 L W → Calls Tryz.prog 35 #[.slice (some ⟨g, 0, none⟩) 4 c, .int .u8 (ld.toNat : Int), .int .i64 cl] W (SaysI W (sidesG L ld cl))) := fun g c W hg => by
  have h := sides04_any g 0 c L (by rw [HL.out]; omega) (by rw [hg.len]; exact hg.le) hg.cle hs ld cl (by rcases hB with h | h <;> omega) W hg.words hg.lt
  rw [HL.out] at h
  exact h
 generalize sidesG L ld cl = X0 at *
 obtain ⟨xo, xd, xs, xf, xm⟩ := X0
 clear hw0 hL hl hz h0 h1 h2 h3 hs
 rcases hB with ⟨rfl, rfl, hw⟩ | ⟨rfl, rfl, hw⟩
 all_goals
  go_enter Tryz.func16, Tryz.ntmps16
  go_upto_region 2 with (go_at_call 26; refine CW.out.mono ?_; rintro e w1 ⟨V, rfl, hb, hst⟩; obtain ⟨g, c, rfl, hgw⟩ := words_gw hst hb HNE.out; have G := Lib.hid hgw; clear hb hst hgw; rw [HL.out] at G ⊢)
  have q0 : w1.cell? ⟨g, 0, none⟩ = some (.string a0) := H0.out ▸ G.out.word 0 (by omega)
  have q1 : w1.cell? ⟨g, 1, none⟩ = some (.string a1) := H1.out ▸ G.out.word 1 (by omega)
  have q2 : w1.cell? ⟨g, 2, none⟩ = some (.string a2) := H2.out ▸ G.out.word 2 (by omega)
  have q3 : w1.cell? ⟨g, 3, none⟩ = some (.string a3) := H3.out ▸ G.out.word 3 (by omega)
  go_wp2_with (go_at_call 35; refine (CT.out _ _ _ G.out).mono ?_; rintro e w2 ⟨rfl, hb⟩; have G2 := Lib.hid (G.out.grow hb); clear hb)
  go_ret
  exact gis_one G2.out.below _ _ _ _ _
set_option maxHeartbeats 4000000 in
theorem guess_sides_n5 (s : ByteArray) (hz : s.size ≤ 1048576) (w : World) {L : List ByteArray} {a0 a1 a2 a3 a4 : ByteArray} (hL : wordsR s = L) (hl : L.length = 5) (h0 : wordAt L 0 = a0) (h1 : wordAt L 1 = a1) (h2 : wordAt L 2 = a2) (h3 : wordAt L 3 = a3) (h4 : wordAt L 4 = a4) (hx : (s.toList == [101, 120, 105, 116]) = false) (hll : (a4.toList == [108, 108]) = false) (hi : (a0.toList == [105, 102]) = false) (hk : (a0.toList == [108, 111, 99, 107]) = false) (he : (a0.toList == []) = false) (he1 : a0.toList.isEmpty = false) (hp : (0 : Int) < (a0.size : Int)) {v : Nat} (xv : ∀ W : World, (Instr.index 9 (.string a0) (.int .i64 (0 : Int))).run Tryz.prog W = .ok (.int .u8 (v : Int)) W) (hv : ((v : Int) == 42) = false) {ld : UInt8} {cl : Int} (hB : (ld = 114 ∧ cl = 7 ∧ ((v : Int) == 119) = false) ∨ (ld = 119 ∧ cl = 4 ∧ ((v : Int) == 119) = true)) (hs : ∀ x ∈ L, x.size ≤ 4611686018427387904) (hq : (a1.toList == [61]) = true) :
  Calls Tryz.prog 16 #[.string s] w (GIs w [sidesG L ld cl]) := by
 have hw0 := words04_any s hz w
 rw [hL] at hw0
 have HNE : Hid (L ≠ []) := fun h => wordsR_ne s (hL.trans h)
 have HL := Lib.hid hl
 have CW := Lib.hid hw0
 have H0 := Lib.hid h0
 have H1 := Lib.hid h1
 have H2 := Lib.hid h2
 have H3 := Lib.hid h3
 have H4 := Lib.hid h4
 have CT : Hid (∀ (g c : Nat) (W : World), GW w g c 5 L W → Calls Tryz.prog 35 #[.slice (some ⟨g, 0, none⟩) 5 c, .int .u8 (ld.toNat : Int), .int .i64 cl] W (SaysI W (sidesG L ld cl))) := fun g c W hg => by
  have h := sides04_any g 0 c L (by rw [HL.out]; omega) (by rw [hg.len]; exact hg.le) hg.cle hs ld cl (by rcases hB with h | h <;> omega) W hg.words hg.lt
  rw [HL.out] at h
  exact h
 generalize sidesG L ld cl = X0 at *
 obtain ⟨xo, xd, xs, xf, xm⟩ := X0
 clear hw0 hL hl hz h0 h1 h2 h3 h4 hs
 rcases hB with ⟨rfl, rfl, hw⟩ | ⟨rfl, rfl, hw⟩
 all_goals
  go_enter Tryz.func16, Tryz.ntmps16
  go_upto_region 2 with (go_at_call 26; refine CW.out.mono ?_; rintro e w1 ⟨V, rfl, hb, hst⟩; obtain ⟨g, c, rfl, hgw⟩ := words_gw hst hb HNE.out; have G := Lib.hid hgw; clear hb hst hgw; rw [HL.out] at G ⊢)
  have q0 : w1.cell? ⟨g, 0, none⟩ = some (.string a0) := H0.out ▸ G.out.word 0 (by omega)
  have q1 : w1.cell? ⟨g, 1, none⟩ = some (.string a1) := H1.out ▸ G.out.word 1 (by omega)
  have q2 : w1.cell? ⟨g, 2, none⟩ = some (.string a2) := H2.out ▸ G.out.word 2 (by omega)
  have q3 : w1.cell? ⟨g, 3, none⟩ = some (.string a3) := H3.out ▸ G.out.word 3 (by omega)
  have q4 : w1.cell? ⟨g, 4, none⟩ = some (.string a4) := H4.out ▸ G.out.word 4 (by omega)
  go_wp2_with (go_at_call 35; refine (CT.out _ _ _ G.out).mono ?_; rintro e w2 ⟨rfl, hb⟩; have G2 := Lib.hid (G.out.grow hb); clear hb)
  go_ret
  exact gis_one G2.out.below _ _ _ _ _
end Go.Proofs.YtemiklbkfogjeaaGreatDoor
