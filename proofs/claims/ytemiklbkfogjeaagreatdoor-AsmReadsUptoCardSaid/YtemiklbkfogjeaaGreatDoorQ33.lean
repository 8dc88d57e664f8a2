/-
  The reference's guess: operations of two sides. The reference's guess: operations of two sides, further. The reference's guess: operations of two sides, further. The reference's guess, whole.
-/
import Derived.Test.YtemiklbkfogjeaaGreatDoorQ31
import Derived.Test.YtemiklbkfogjeaaGreatDoorQ32
namespace Go.Proofs.YtemiklbkfogjeaaGreatDoor
open Go Go.RowKit Go.Maps
set_option linter.unusedVariables false
set_option linter.unusedSimpArgs false
set_option maxRecDepth 100000
set_option maxHeartbeats 4000000 in
theorem guess_O_nM (s : ByteArray) (hz : s.size ≤ 1048576) (w : World) {L : List ByteArray} {a0 a1 a2 : ByteArray} (hL : wordsR s = L) {n : Nat} (hl : L.length = n) (h0 : wordAt L 0 = a0) (h1 : wordAt L 1 = a1) (h2 : wordAt L 2 = a2) (hx : (s.toList == [101, 120, 105, 116]) = false) (hM : 3 ≤ n ∧ n ≠ 4 ∧ n ≠ 5) (hi : (a0.toList == [105, 102]) = false) (hk : (a0.toList == [108, 111, 99, 107]) = false) (he : (a0.toList == []) = false) (he1 : a0.toList.isEmpty = false) (hp : (0 : Int) < (a0.size : Int)) {v : Nat} (xv : ∀ W : World, (Instr.index 9 (.string a0) (.int .i64 (0 : Int))).run Tryz.prog W = .ok (.int .u8 (v : Int)) W) (hv : ((v : Int) == 42) = false) {ld : UInt8} {cl : Int} (hB : (ld = 114 ∧ cl = 7 ∧ ((v : Int) == 119) = false) ∨ (ld = 119 ∧ cl = 4 ∧ ((v : Int) == 119) = true)) (hq : (a1.toList == [61]) = false) (hs0 : a0.size ≤ 4611686018427387904) (hs1 : a1.size ≤ 4611686018427387904) (hs2 : a2.size ≤ 4611686018427387904) {X : List Slot} (hK : ((0 ≤ findR a1 operNames 0 ∧ findR a1 operNames 0 ≤ 12) ∧ X = [⟨if (opdR a2 ld).2.2 = true then 16 * findR a1 operNames 0 + cl + 8 else 16 * findR a1 operNames 0 + cl, regR a0 ld, (opdR a2 ld).1, 0, (opdR a2 ld).2.1⟩]) ∨ (findR a1 operNames 0 = -1 ∧ begins a1 sT = true ∧ (0 ≤ findR (headR a1 sT) divNames 0 ∧ findR (headR a1 sT) divNames 0 ≤ 9) ∧ X = [⟨if (opdR a2 ld).2.2 = true then 16 * findR (headR a1 sT) divNames 0 + cl + 8 else 16 * findR (headR a1 sT) divNames 0 + cl, regR a0 ld, (opdR a2 ld).1, 1, (opdR a2 ld).2.1⟩]) ∨ (findR a1 operNames 0 = -1 ∧ begins a1 sT = true ∧ findR (headR a1 sT) divNames 0 = -1 ∧ X = [zeroS]) ∨ (findR a1 operNames 0 = -1 ∧ begins a1 sT = false ∧ X = [zeroS])) :
  Calls Tryz.prog 16 #[.string s] w (GIs w X) := by
 have hw0 := words04_any s hz w
 rw [hL] at hw0
 have HNE : Hid (L ≠ []) := fun h => wordsR_ne s (hL.trans h)
 have HL := Lib.hid hl
 have CW := Lib.hid hw0
 have H0 := Lib.hid h0
 have H1 := Lib.hid h1
 have H2 := Lib.hid h2
 have n2 : ((n : Int) == 2) = false := by simp; omega
 have n2' : (n == 2) = false := by simp; omega
 have n4 : ((n : Int) == 4) = false := by simp; omega
 have n4' : (n == 4) = false := by simp; omega
 have n5 : ((n : Int) == 5) = false := by simp; omega
 have n5' : (n == 5) = false := by simp; omega
 have n3 : decide ((n : Int) < 3) = false := decide_eq_false (by omega)
 have n3' : decide (n < 3) = false := decide_eq_false (by omega)
 have i0 : (0 : Int) < (n : Int) := by omega
 have i1 : (1 : Int) < (n : Int) := by omega
 have i2 : (2 : Int) < (n : Int) := by omega
 have CH : Hid (∀ W, Calls Tryz.prog 36 #[.string a1, .string ⟨#[115]⟩] W fun e w' => e = .returned (.tuple #[.string (headR a1 sT), .bool (begins a1 sT)]) ∧ W = w') := fun W => head04_any a1 sT hs1 (by decide) W
 have CF : Hid (∀ W : World, Calls Tryz.prog 37 #[.slice (some ⟨W.heap.size, 0, none⟩) 13 13, .string a1] (W.alloc objA) fun e w' => e = .returned (.int .i64 (findR a1 operNames 0)) ∧ W.alloc objA = w') := fun W => find04_any _ 13 operNames a1 (by decide) _ (strs_lit W operNames)
 have CD : Hid (∀ (W : World) (z : Nat), W.heap.size = z → Calls Tryz.prog 37 #[.slice (some ⟨z, 0, none⟩) 10 10, .string (headR a1 sT)] (W.alloc objD) fun e w' => e = .returned (.int .i64 (findR (headR a1 sT) divNames 0)) ∧ W.alloc objD = w') := fun W z hz => hz ▸ find04_any _ 10 divNames (headR a1 sT) (by decide) _ (strs_lit W divNames)
 have CO := Lib.hid (fun W => operand04_any a2 ld hs2 W)
 have CR := Lib.hid (fun W => regOf04_any a0 ld hs0 W)
 generalize (opdR a2 ld).1 = p1 at *
 generalize (opdR a2 ld).2.1 = p2 at *
 generalize (opdR a2 ld).2.2 = p3 at *
 generalize regR a0 ld = rg at *
 generalize findR a1 operNames 0 = k at *
 generalize findR (headR a1 sT) divNames 0 = k2 at *
 generalize headR a1 sT = t1 at *
 generalize begins a1 sT = bs at *
 have hcl : cl = 7 ∨ cl = 4 := by rcases hB with h | h; exact .inl h.2.1; exact .inr h.2.1
 have E : Hid (∀ k : Int, 0 ≤ k ∧ k ≤ 12 → IntKind.i64.wrap (16 * k) = 16 * k ∧ IntKind.i64.wrap (16 * k + cl) = 16 * k + cl ∧ IntKind.i64.wrap (16 * k + cl + 8) = 16 * k + cl + 8 ∧ decide (k < 0) = false) := fun k h => ⟨IntWalk.i64_in _ (by omega), IntWalk.i64_in _ (by omega), IntWalk.i64_in _ (by omega), decide_eq_false (by omega)⟩
 clear hcl
 clear hw0 hL hl hz h0 h1 h2
 rcases hK with ⟨h, rfl⟩ | ⟨rfl, rfl, h, rfl⟩ | ⟨rfl, rfl, rfl, rfl⟩ | ⟨rfl, rfl, rfl⟩
 focus
  obtain ⟨e1, e2, e3, g1⟩ := E.out k h
  clear h
 rotate_left 1
 focus
  obtain ⟨e1, e2, e3, g1⟩ := E.out k2 ⟨h.1, by omega⟩
  clear h
 rotate_left 3
 all_goals (clear E; rcases hB with ⟨rfl, rfl, hw⟩ | ⟨rfl, rfl, hw⟩)
 all_goals
  go_enter Tryz.func16, Tryz.ntmps16
  go_upto_region 2 with (go_at_call 26; refine CW.out.mono ?_; rintro e w1 ⟨V, rfl, hb, hst⟩; obtain ⟨g, c, rfl, hgw⟩ := words_gw hst hb HNE.out; have G := Lib.hid hgw; clear hb hst hgw; rw [HL.out] at G ⊢)
  have q0 : w1.cell? ⟨g, 0, none⟩ = some (.string a0) := H0.out ▸ G.out.word 0 (by omega)
  have q1 : w1.cell? ⟨g, 1, none⟩ = some (.string a1) := H1.out ▸ G.out.word 1 (by omega)
  have q2 : w1.cell? ⟨g, 2, none⟩ = some (.string a2) := H2.out ▸ G.out.word 2 (by omega)
  have G3 := Lib.hid (G.out.grow (below_alloc' w1 objA))
  have G4 := Lib.hid (G3.out.grow (below_alloc' _ objD))
  have s0 : (w1.alloc objA).cell? ⟨g, 0, none⟩ = some (.string a0) := H0.out ▸ G3.out.word 0 (by omega)
  have s1 : (w1.alloc objA).cell? ⟨g, 1, none⟩ = some (.string a1) := H1.out ▸ G3.out.word 1 (by omega)
  have s2 : (w1.alloc objA).cell? ⟨g, 2, none⟩ = some (.string a2) := H2.out ▸ G3.out.word 2 (by omega)
  cases p3
  all_goals
   go_wp2_with (first
    | (go_at_call 36; refine (CH.out _).mono ?_; rintro e w2 ⟨rfl, rfl⟩)
    | (go_at_call 37; (have tk := tok); refine (CD.out (w1.alloc objA) (w1.heap.size + 1) (by simp)).mono ?_; rintro e w3 ⟨rfl, rfl⟩; have r0 : ((w1.alloc objA).alloc objD).cell? ⟨g, 0, none⟩ = some (.string a0) := H0.out ▸ G4.out.word 0 (by omega); have r2 : ((w1.alloc objA).alloc objD).cell? ⟨g, 2, none⟩ = some (.string a2) := H2.out ▸ G4.out.word 2 (by omega))
    | (go_at_call 37; refine (CF.out _).mono ?_; rintro e w3 ⟨rfl, rfl⟩; have tok := True.intro)
    | (go_at_call 38; refine (CO.out _).mono ?_; rintro e w2 ⟨rfl, rfl⟩)
    | (go_at_call 34; refine (CR.out _).mono ?_; rintro e w2 ⟨rfl, rfl⟩))
   go_ret
   first
    | exact gis_one' (G3.out.below.alloc G3.out.below.size _) (by simp) _ _ _ _ _
    | exact gis_one' (G4.out.below.alloc G4.out.below.size _) (by simp) _ _ _ _ _
    | exact gis_one' G4.out.below (by simp) _ _ _ _ _
    | exact gis_one' G3.out.below (by simp) _ _ _ _ _
set_option maxHeartbeats 4000000 in
theorem guess_O_n4 (s : ByteArray) (hz : s.size ≤ 1048576) (w : World) {L : List ByteArray} {a0 a1 a2 a3 : ByteArray} (hL : wordsR s = L) (hl : L.length = 4) (h0 : wordAt L 0 = a0) (h1 : wordAt L 1 = a1) (h2 : wordAt L 2 = a2) (h3 : wordAt L 3 = a3) (hx : (s.toList == [101, 120, 105, 116]) = false) (hll : (a3.toList == [108, 108]) = false) (hi : (a0.toList == [105, 102]) = false) (hk : (a0.toList == [108, 111, 99, 107]) = false) (he : (a0.toList == []) = false) (he1 : a0.toList.isEmpty = false) (hp : (0 : Int) < (a0.size : Int)) {v : Nat} (xv : ∀ W : World, (Instr.index 9 (.string a0) (.int .i64 (0 : Int))).run Tryz.prog W = .ok (.int .u8 (v : Int)) W) (hv : ((v : Int) == 42) = false) {ld : UInt8} {cl : Int} (hB : (ld = 114 ∧ cl = 7 ∧ ((v : Int) == 119) = false) ∨ (ld = 119 ∧ cl = 4 ∧ ((v : Int) == 119) = true)) (hq : (a1.toList == [61]) = false) (hs0 : a0.size ≤ 4611686018427387904) (hs1 : a1.size ≤ 4611686018427387904) (hs2 : a2.size ≤ 4611686018427387904) {X : List Slot} (hK : ((0 ≤ findR a1 operNames 0 ∧ findR a1 operNames 0 ≤ 12) ∧ X = [⟨if (opdR a2 ld).2.2 = true then 16 * findR a1 operNames 0 + cl + 8 else 16 * findR a1 operNames 0 + cl, regR a0 ld, (opdR a2 ld).1, 0, (opdR a2 ld).2.1⟩]) ∨ (findR a1 operNames 0 = -1 ∧ begins a1 sT = true ∧ (0 ≤ findR (headR a1 sT) divNames 0 ∧ findR (headR a1 sT) divNames 0 ≤ 9) ∧ X = [⟨if (opdR a2 ld).2.2 = true then 16 * findR (headR a1 sT) divNames 0 + cl + 8 else 16 * findR (headR a1 sT) divNames 0 + cl, regR a0 ld, (opdR a2 ld).1, 1, (opdR a2 ld).2.1⟩]) ∨ (findR a1 operNames 0 = -1 ∧ begins a1 sT = true ∧ findR (headR a1 sT) divNames 0 = -1 ∧ X = [zeroS]) ∨ (findR a1 operNames 0 = -1 ∧ begins a1 sT = false ∧ X = [zeroS])) :
  Calls Tryz.prog 16 #[.string s] w (GIs w X) := by
 have hw0 := words04_any s hz w
 rw [hL] at hw0
 have HNE : Hid (L ≠ []) := fun h => wordsR_ne s (hL.trans h)
 have HL := Lib.hid hl
 have CW := Lib.hid hw0
 have H0 := Lib.hid h0
 have H1 := Lib.hid h1
 have H2 := Lib.hid h2
 have H3 := Lib.hid h3
 have CH : Hid (∀ W, Calls Tryz.prog 36 #[.string a1, .string ⟨#[115]⟩] W fun e w' => e = .returned (.tuple #[.string (headR a1 sT), .bool (begins a1 sT)]) ∧ W = w') := fun W => head04_any a1 sT hs1 (by decide) W
 have CF : Hid (∀ W : World, Calls Tryz.prog 37 #[.slice (some ⟨W.heap.size, 0, none⟩) 13 13, .string a1] (W.alloc objA) fun e w' => e = .returned (.int .i64 (findR a1 operNames 0)) ∧ W.alloc objA = w') := fun W => find04_any _ 13 operNames a1 (by decide) _ (strs_lit W operNames)
 have CD : Hid (∀ (W : World) (z : Nat), W.heap.size = z → Calls Tryz.prog 37 #[.slice (some ⟨z, 0, none⟩) 10 10, .string (headR a1 sT)] (W.alloc objD) fun e w' => e = .returned (.int .i64 (findR (headR a1 sT) divNames 0)) ∧ W.alloc objD = w') := fun W z hz => hz ▸ find04_any _ 10 divNames (headR a1 sT) (by decide) _ (strs_lit W divNames)
 have CO := Lib.hid (fun W => operand04_any a2 ld hs2 W)
 have CR := Lib.hid (fun W => regOf04_any a0 ld hs0 W)
 generalize (opdR a2 ld).1 = p1 at *
 generalize (opdR a2 ld).2.1 = p2 at *
 generalize (opdR a2 ld).2.2 = p3 at *
 generalize regR a0 ld = rg at *
 generalize findR a1 operNames 0 = k at *
 generalize findR (headR a1 sT) divNames 0 = k2 at *
 generalize headR a1 sT = t1 at *
 generalize begins a1 sT = bs at *
 have hcl : cl = 7 ∨ cl = 4 := by rcases hB with h | h; exact .inl h.2.1; exact .inr h.2.1
 have E : Hid (∀ k : Int, 0 ≤ k ∧ k ≤ 12 → IntKind.i64.wrap (16 * k) = 16 * k ∧ IntKind.i64.wrap (16 * k + cl) = 16 * k + cl ∧ IntKind.i64.wrap (16 * k + cl + 8) = 16 * k + cl + 8 ∧ decide (k < 0) = false) := fun k h => ⟨IntWalk.i64_in _ (by omega), IntWalk.i64_in _ (by omega), IntWalk.i64_in _ (by omega), decide_eq_false (by omega)⟩
 clear hcl
 clear hw0 hL hl hz h0 h1 h2 h3
 rcases hK with ⟨h, rfl⟩ | ⟨rfl, rfl, h, rfl⟩ | ⟨rfl, rfl, rfl, rfl⟩ | ⟨rfl, rfl, rfl⟩
 focus
  obtain ⟨e1, e2, e3, g1⟩ := E.out k h
  clear h
 rotate_left 1
 focus
  obtain ⟨e1, e2, e3, g1⟩ := E.out k2 ⟨h.1, by omega⟩
  clear h
 rotate_left 3
 all_goals (clear E; rcases hB with ⟨rfl, rfl, hw⟩ | ⟨rfl, rfl, hw⟩)
 all_goals
  go_enter Tryz.func16, Tryz.ntmps16
  go_upto_region 2 with (go_at_call 26; refine CW.out.mono ?_; rintro e w1 ⟨V, rfl, hb, hst⟩; obtain ⟨g, c, rfl, hgw⟩ := words_gw hst hb HNE.out; have G := Lib.hid hgw; clear hb hst hgw; rw [HL.out] at G ⊢)
  have q0 : w1.cell? ⟨g, 0, none⟩ = some (.string a0) := H0.out ▸ G.out.word 0 (by omega)
  have q1 : w1.cell? ⟨g, 1, none⟩ = some (.string a1) := H1.out ▸ G.out.word 1 (by omega)
  have q2 : w1.cell? ⟨g, 2, none⟩ = some (.string a2) := H2.out ▸ G.out.word 2 (by omega)
  have q3 : w1.cell? ⟨g, 3, none⟩ = some (.string a3) := H3.out ▸ G.out.word 3 (by omega)
  have G3 := Lib.hid (G.out.grow (below_alloc' w1 objA))
  have G4 := Lib.hid (G3.out.grow (below_alloc' _ objD))
  have s0 : (w1.alloc objA).cell? ⟨g, 0, none⟩ = some (.string a0) := H0.out ▸ G3.out.word 0 (by omega)
  have s1 : (w1.alloc objA).cell? ⟨g, 1, none⟩ = some (.string a1) := H1.out ▸ G3.out.word 1 (by omega)
  have s2 : (w1.alloc objA).cell? ⟨g, 2, none⟩ = some (.string a2) := H2.out ▸ G3.out.word 2 (by omega)
  cases p3
  all_goals
   go_wp2_with (first
    | (go_at_call 36; refine (CH.out _).mono ?_; rintro e w2 ⟨rfl, rfl⟩)
    | (go_at_call 37; (have tk := tok); refine (CD.out (w1.alloc objA) (w1.heap.size + 1) (by simp)).mono ?_; rintro e w3 ⟨rfl, rfl⟩; have r0 : ((w1.alloc objA).alloc objD).cell? ⟨g, 0, none⟩ = some (.string a0) := H0.out ▸ G4.out.word 0 (by omega); have r2 : ((w1.alloc objA).alloc objD).cell? ⟨g, 2, none⟩ = some (.string a2) := H2.out ▸ G4.out.word 2 (by omega))
    | (go_at_call 37; refine (CF.out _).mono ?_; rintro e w3 ⟨rfl, rfl⟩; have tok := True.intro)
    | (go_at_call 38; refine (CO.out _).mono ?_; rintro e w2 ⟨rfl, rfl⟩)
    | (go_at_call 34; refine (CR.out _).mono ?_; rintro e w2 ⟨rfl, rfl⟩))
   go_ret
   first
    | exact gis_one' (G3.out.below.alloc G3.out.below.size _) (by simp) _ _ _ _ _
    | exact gis_one' (G4.out.below.alloc G4.out.below.size _) (by simp) _ _ _ _ _
    | exact gis_one' G4.out.below (by simp) _ _ _ _ _
    | exact gis_one' G3.out.below (by simp) _ _ _ _ _
set_option maxHeartbeats 4000000 in
theorem guess_O_n5 (s : ByteArray) (hz : s.size ≤ 1048576) (w : World) {L : List ByteArray} {a0 a1 a2 a3 a4 : ByteArray} (hL : wordsR s = L) (hl : L.length = 5) (h0 : wordAt L 0 = a0) (h1 : wordAt L 1 = a1) (h2 : wordAt L 2 = a2) (h3 : wordAt L 3 = a3) (h4 : wordAt L 4 = a4) (hx : (s.toList == [101, 120, 105, 116]) = false) (hll : (a4.toList == [108, 108]) = false) (hi : (a0.toList == [105, 102]) = false) (hk : (a0.toList == [108, 111, 99, 107]) = false) (he : (a0.toList == []) = false) (he1 : a0.toList.isEmpty = false) (hp : (0 : Int) < (a0.size : Int)) {v : Nat} (xv : ∀ W : World, (Instr.index 9 (.string a0) (.int .i64 (0 : Int))).run Tryz.prog W = .ok (.int .u8 (v : Int)) W) (hv : ((v : Int) == 42) = false) {ld : UInt8} {cl : Int} (hB : (ld = 114 ∧ cl = 7 ∧ ((v : Int) == 119) = false) ∨ (ld = 119 ∧ cl = 4 ∧ ((v : Int) == 119) = true)) (hq : (a1.toList == [61]) = false) (hs0 : a0.size ≤ 4611686018427387904) (hs1 : a1.size ≤ 4611686018427387904) (hs2 : a2.size ≤ 4611686018427387904) {X : List Slot} (hK : ((0 ≤ findR a1 operNames 0 ∧ findR a1 operNames 0 ≤ 12) ∧ X = [⟨if (opdR a2 ld).2.2 = true then 16 * findR a1 operNames 0 + cl + 8 else 16 * findR a1 operNames 0 + cl, regR a0 ld, (opdR a2 ld).1, 0, (opdR a2 ld).2.1⟩]) ∨ (findR a1 operNames 0 = -1 ∧ begins a1 sT = true ∧ (0 ≤ findR (headR a1 sT) divNames 0 ∧ findR (headR a1 sT) divNames 0 ≤ 9) ∧ X = [⟨if (opdR a2 ld).2.2 = true then 16 * findR (headR a1 sT) divNames 0 + cl + 8 else 16 * findR (headR a1 sT) divNames 0 + cl, regR a0 ld, (opdR a2 ld).1, 1, (opdR a2 ld).2.1⟩]) ∨ (findR a1 operNames 0 = -1 ∧ begins a1 sT = true ∧ findR (headR a1 sT) divNames 0 = -1 ∧ X = [zeroS]) ∨ (findR a1 operNames 0 = -1 ∧ begins a1 sT = false ∧ X = [zeroS])) :
  Calls Tryz.prog 16 #[.string s] w (GIs w X) := by
 have hw0 := words04_any s hz w
 rw [hL] at hw0
 have HNE : Hid (L ≠ []) := fun h => wordsR_ne s (hL.trans h)
 have HL := Lib.hid hl
 have CW := Lib.hid hw0
 have H0 := Lib.hid h0
 have H1 := Lib.hid h1
 have H2 := Lib.hid h2
 have H3 := Lib.hid h3
 have H4 := Lib.hid h4
 have CH : Hid (∀ W, Calls Tryz.prog 36 #[.string a1, .string ⟨#[115]⟩] W fun e w' => e = .returned (.tuple #[.string (headR a1 sT), .bool (begins a1 sT)]) ∧ W = w') := fun W => head04_any a1 sT hs1 (by decide) W
 have CF : Hid (∀ W : World, Calls Tryz.prog 37 #[.slice (some ⟨W.heap.size, 0, none⟩) 13 13, .string a1] (W.alloc objA) fun e w' => e = .returned (.int .i64 (findR a1 operNames 0)) ∧ W.alloc objA = w') := fun W => find04_any _ 13 operNames a1 (by decide) _ (strs_lit W operNames)
 have CD : Hid (∀ (W : World) (z : Nat), W.heap.size = z → Calls Tryz.prog 37 #[.slice (some ⟨z, 0, none⟩) 10 10, .string (headR a1 sT)] (W.alloc objD) fun e w' => e = .returned (.int .i64 (findR (headR a1 sT) divNames 0)) ∧ W.alloc objD = w') := fun W z hz => hz ▸ find04_any _ 10 divNames (headR a1 sT) (by decide) _ (strs_lit W divNames)
 have CO := Lib.hid (fun W => operand04_any a2 ld hs2 W)
 have CR := Lib.hid (fun W => regOf04_any a0 ld hs0 W)
 generalize (opdR a2 ld).1 = p1 at *
 generalize (opdR a2 ld).2.1 = p2 at *
 generalize (opdR a2 ld).2.2 = p3 at *
 generalize regR a0 ld = rg at *
 generalize findR a1 operNames 0 = k at *
 generalize findR (headR a1 sT) divNames 0 = k2 at *
 generalize headR a1 sT = t1 at *
 generalize begins a1 sT = bs at *
 have hcl : cl = 7 ∨ cl = 4 := by rcases hB with h | h; exact .inl h.2.1; exact .inr h.2.1
 have E : Hid (∀ k : Int, 0 ≤ k ∧ k ≤ 12 → IntKind.i64.wrap (16 * k) = 16 * k ∧ IntKind.i64.wrap (16 * k + cl) = 16 * k + cl ∧ IntKind.i64.wrap (16 * k + cl + 8) = 16 * k + cl + 8 ∧ decide (k < 0) = false) := fun k h => ⟨IntWalk.i64_in _ (by omega), IntWalk.i64_in _ (by omega), IntWalk.i64_in _ (by omega), decide_eq_false (by omega)⟩
 clear hcl
 clear hw0 hL hl hz h0 h1 h2 h3 h4
 rcases hK with ⟨h, rfl⟩ | ⟨rfl, rfl, h, rfl⟩ | ⟨rfl, rfl, rfl, rfl⟩ | ⟨rfl, rfl, rfl⟩
 focus
  obtain ⟨e1, e2, e3, g1⟩ := E.out k h
  clear h
 rotate_left 1
 focus
  obtain ⟨e1, e2, e3, g1⟩ := E.out k2 ⟨h.1, by omega⟩
  clear h
 rotate_left 3
 all_goals (clear E; rcases hB with ⟨rfl, rfl, hw⟩ | ⟨rfl, rfl, hw⟩)
 all_goals
  go_enter Tryz.func16, Tryz.ntmps16
  go_upto_region 2 with (go_at_call 26; refine CW.out.mono ?_; rintro e w1 ⟨V, rfl, hb, hst⟩; obtain ⟨g, c, rfl, hgw⟩ := words_gw hst hb HNE.out; have G := Lib.hid hgw; clear hb hst hgw; rw [HL.out] at G ⊢)
  have q0 : w1.cell? ⟨g, 0, none⟩ = some (.string a0) := H0.out ▸ G.out.word 0 (by omega)
  have q1 : w1.cell? ⟨g, 1, none⟩ = some (.string a1) := H1.out ▸ G.out.word 1 (by omega)
  have q2 : w1.cell? ⟨g, 2, none⟩ = some (.string a2) := H2.out ▸ G.out.word 2 (by omega)
  have q3 : w1.cell? ⟨g, 3, none⟩ = some (.string a3) := H3.out ▸ G.out.word 3 (by omega)
  have q4 : w1.cell? ⟨g, 4, none⟩ = some (.string a4) := H4.out ▸ G.out.word 4 (by omega)
  have G3 := Lib.hid (G.out.grow (below_alloc' w1 objA))
  have G4 := Lib.hid (G3.out.grow (below_alloc' _ objD))
  have s0 : (w1.alloc objA).cell? ⟨g, 0, none⟩ = some (.string a0) := H0.out ▸ G3.out.word 0 (by omega)
  have s1 : (w1.alloc objA).cell? ⟨g, 1, none⟩ = some (.string a1) := H1.out ▸ G3.out.word 1 (by omega)
  have s2 : (w1.alloc objA).cell? ⟨g, 2, none⟩ = some (.string a2) := H2.out ▸ G3.out.word 2 (by omega)
  cases p3
  all_goals
   go_wp2_with (first
    | (go_at_call 36; refine (CH.out _).mono ?_; rintro e w2 ⟨rfl, rfl⟩)
    | (go_at_call 37; (have tk := tok); refine (CD.out (w1.alloc objA) (w1.heap.size + 1) (by simp)).mono ?_; rintro e w3 ⟨rfl, rfl⟩; have r0 : ((w1.alloc objA).alloc objD).cell? ⟨g, 0, none⟩ = some (.string a0) := H0.out ▸ G4.out.word 0 (by omega); have r2 : ((w1.alloc objA).alloc objD).cell? ⟨g, 2, none⟩ = some (.string a2) := H2.out ▸ G4.out.word 2 (by omega))
    | (go_at_call 37; refine (CF.out _).mono ?_; rintro e w3 ⟨rfl, rfl⟩; have tok := True.intro)
    | (go_at_call 38; refine (CO.out _).mono ?_; rintro e w2 ⟨rfl, rfl⟩)
    | (go_at_call 34; refine (CR.out _).mono ?_; rintro e w2 ⟨rfl, rfl⟩))
   go_ret
   first
    | exact gis_one' (G3.out.below.alloc G3.out.below.size _) (by simp) _ _ _ _ _
    | exact gis_one' (G4.out.below.alloc G4.out.below.size _) (by simp) _ _ _ _ _
    | exact gis_one' G4.out.below (by simp) _ _ _ _ _
    | exact gis_one' G3.out.below (by simp) _ _ _ _ _
theorem cutL_small : ∀ (acc l : List UInt8), ∀ x ∈ cutL acc l, x.length ≤ acc.length + l.length
 | acc, [], x, hx => by
  simp [cutL] at hx
  subst hx; simp
 | acc, b :: r, x, hx => by
  unfold cutL at hx
  split at hx
  ·rcases List.mem_cons.1 hx with rfl | hx
   ·simp
   ·have := cutL_small [] r x hx
    simp at this ⊢; omega
  ·have := cutL_small (acc ++ [b]) r x hx
   simp at this ⊢; omega
theorem wordsR_small {s x : ByteArray} (h : x ∈ wordsR s) : x.size ≤ s.size := by
 unfold wordsR at h
 obtain ⟨l, hl, rfl⟩ := List.mem_map.1 h
 have := cutL_small [] s.data.toList l hl
 rw [bstr_size, ← size_list]
 simpa using this
theorem isT_iff {a : ByteArray} {l : List UInt8} {b : Bool} (h : isT a l = b) : (a.toList == l) = b := (isT_beq a l).trans h
/-- A first word that is none. -/
theorem emp_of {a : ByteArray} (h : a.size = 0) : (a.toList == []) = true ∧ a.toList.isEmpty = true := by
 have h1 := eq_nil a
 have h2 := isEmpty_size a
 rw [decide_eq_true h] at h1 h2
 exact ⟨h1, h2⟩
theorem non_of {a : ByteArray} (h : a.size ≠ 0) : (a.toList == []) = false ∧ a.toList.isEmpty = false ∧ (0 : Int) < (a.size : Int) ∧ ∃ v : Nat, (∀ W : World, (Instr.index 9 (.string a) (.int .i64 (0 : Int))).run Tryz.prog W = .ok (.int .u8 (v : Int)) W) ∧ ∀ c : UInt8, ((v : Int) == (c.toNat : Int)) = decide (hdS a = some c) := by
 have h1 := eq_nil a
 have h2 := isEmpty_size a
 rw [decide_eq_false h] at h1 h2
 have hp : 0 < a.size := by omega
 refine ⟨h1, h2, by omega, (a[0]'hp).toNat, fun W => idx_at a 0 hp W, fun c => ?_⟩
 rw [hdS_some hp, Bool.eq_iff_iff, beq_iff_eq, decide_eq_true_iff]
 constructor
 ·intro e
  have : (a[0]'hp).toNat = c.toNat := by omega
  rw [UInt8.toNat_inj.1 this]
 ·intro e
  rw [Option.some.inj e]
theorem hd_none {a : ByteArray} {c : UInt8} (h : hdS a = some c) : a.size ≠ 0 := fun e => by rw [hdS_none e] at h; cases h
theorem findR_le {s : ByteArray} {l : List ByteArray} {n : Nat} (hl : l.length = n + 1) (h : 0 ≤ findR s l 0) : 0 ≤ findR s l 0 ∧ findR s l 0 ≤ n := by
 rcases findR_ways s l 0 with h1 | ⟨j, hj, h1⟩
 ·omega
 ·omega
theorem findR_no {s : ByteArray} {l : List ByteArray} (h : ¬ 0 ≤ findR s l 0) : findR s l 0 = -1 := by
 rcases findR_ways s l 0 with h1 | ⟨j, hj, h1⟩
 ·exact h1
 ·omega
theorem unumD_le (s : ByteArray) : unumD s ≤ maxU := by
 unfold unumD
 cases h : digN maxU s with
 | none => exact Nat.zero_le _
 | some u => exact digN_le (by decide) h
theorem shape3 {L : List ByteArray} (h : 3 ≤ L.length) : ∃ r, L = wordAt L 0 :: wordAt L 1 :: wordAt L 2 :: r := by
 match L, h with
 | a :: b :: c :: r, _ => exact ⟨r, rfl⟩
theorem guess04_any (s : ByteArray) (hz : s.size ≤ 1048576) (w : World) : Calls Tryz.prog 16 #[.string s] w (GIs w (guessG s (wordsR s))) := by
 obtain ⟨L, hL⟩ : ∃ L, wordsR s = L := ⟨_, rfl⟩
 rw [hL]
 have hne : L ≠ [] := hL ▸ wordsR_ne s
 have hpos : 1 ≤ L.length := by cases L with
  | nil => exact absurd rfl hne
  | cons a l => simp
 have hs : ∀ x ∈ L, x.size ≤ 4611686018427387904 := fun x hx => by
  have := wordsR_small (s := s) (hL ▸ hx)
  omega
 have hsi : ∀ i, (wordAt L i).size ≤ 4611686018427387904 := fun i => by
  unfold wordAt
  rw [List.getD_eq_getElem?_getD]
  cases h : L[i]? with
  | none => show (⟨#[]⟩ : ByteArray).size ≤ _; decide
  | some x => exact hs x (List.mem_of_getElem? h)
 unfold guessG
 by_cases h1 : isT s [101, 120, 105, 116] = true
 ·rw [if_pos h1]
  exact guess_exit s hz w hL rfl (isT_iff h1)
 rw [if_neg h1]
 have hx := isT_iff (Bool.eq_false_iff.2 h1)
 by_cases h2 : L.length = 2 ∧ isT (wordAt L 0) [99, 97, 108, 108] = true
 ·rw [if_pos h2]
  exact guess_call s hz w hL h2.1 rfl rfl hx (isT_iff h2.2) (hsi 1)
 rw [if_neg h2]
 by_cases h3 : L.length = 2 ∧ isT (wordAt L 0) [103, 111, 116, 111] = true
 ·rw [if_pos h3]
  exact guess_goto s hz w hL h3.1 rfl rfl hx (isT_iff (Bool.eq_false_iff.2 fun h => h2 ⟨h3.1, h⟩)) (isT_iff h3.2) (hsi 1)
 rw [if_neg h3]
 have hcc : L.length = 2 → ((wordAt L 0).toList == [99, 97, 108, 108]) = false := fun h => isT_iff (Bool.eq_false_iff.2 fun h' => h2 ⟨h, h'⟩)
 have hgg : L.length = 2 → ((wordAt L 0).toList == [103, 111, 116, 111]) = false := fun h => isT_iff (Bool.eq_false_iff.2 fun h' => h3 ⟨h, h'⟩)
 by_cases h4 : isT (wordAt L 0) [105, 102] = true
 ·rw [if_pos h4]
  by_cases hn : L.length = 2
  ·exact guess_if_n2 s hz w hL hn rfl rfl hx (hcc hn) (hgg hn) (isT_iff h4) hs
  ·exact guess_if_nX s hz w hL rfl rfl hx ⟨hpos, hn⟩ (isT_iff h4) hs
 rw [if_neg h4]
 have hi := isT_iff (Bool.eq_false_iff.2 h4)
 by_cases h5 : isT (wordAt L 0) [108, 111, 99, 107] = true
 ·rw [if_pos h5]
  by_cases hn : L.length = 2
  ·exact guess_lock_n2 s hz w hL hn rfl rfl hx (hcc hn) (hgg hn) hi (isT_iff h5) hs
  ·exact guess_lock_nX s hz w hL rfl rfl hx ⟨hpos, hn⟩ hi (isT_iff h5) hs
 rw [if_neg h5]
 have hk := isT_iff (Bool.eq_false_iff.2 h5)
 by_cases h6 : hdS (wordAt L 0) = some 42
 ·rw [if_pos h6]
  obtain ⟨he, he1, hp, v, xv, hv⟩ := non_of (hd_none h6)
  have hv42 : ((v : Int) == 42) = true := (hv 42).trans (decide_eq_true h6)
  by_cases hn : L.length = 2
  ·exact guess_star_n2 s hz w hL hn rfl rfl hx (hcc hn) (hgg hn) hi hk he he1 hp xv hv42 hs
  ·exact guess_star_nX s hz w hL rfl rfl hx ⟨hpos, hn⟩ hi hk he he1 hp xv hv42 hs
 rw [if_neg h6]
 by_cases h7 : L.length = 4 ∧ isT (wordAt L 3) [108, 108] = true
 ·rw [if_pos h7]
  by_cases h0 : (wordAt L 0).size = 0
  ·obtain ⟨he, he1⟩ := emp_of h0
   exact guess_ll4E s hz w hL h7.1 rfl rfl rfl hx (isT_iff h7.2) hi hk he he1 (hsi 0) (hsi 2) (unumD_le _)
  ·obtain ⟨he, he1, hp, v, xv, hv⟩ := non_of h0
   exact guess_ll4F s hz w hL h7.1 rfl rfl rfl hx (isT_iff h7.2) hi hk he he1 hp xv ((hv 42).trans (decide_eq_false h6)) (hsi 0) (hsi 2) (unumD_le _)
 rw [if_neg h7]
 by_cases h8 : L.length = 5 ∧ isT (wordAt L 4) [108, 108] = true
 ·rw [if_pos h8]
  by_cases h0 : (wordAt L 0).size = 0
  ·obtain ⟨he, he1⟩ := emp_of h0
   exact guess_ll5E s hz w hL h8.1 rfl rfl rfl hx (isT_iff h8.2) hi hk he he1 (hsi 0) (hsi 3)
  ·obtain ⟨he, he1, hp, v, xv, hv⟩ := non_of h0
   exact guess_ll5F s hz w hL h8.1 rfl rfl rfl hx (isT_iff h8.2) hi hk he he1 hp xv ((hv 42).trans (decide_eq_false h6)) (hsi 0) (hsi 3)
 rw [if_neg h8]
 have h4n : L.length = 4 → ((wordAt L 3).toList == [108, 108]) = false := fun h => isT_iff (Bool.eq_false_iff.2 fun h' => h7 ⟨h, h'⟩)
 have h5n : L.length = 5 → ((wordAt L 4).toList == [108, 108]) = false := fun h => isT_iff (Bool.eq_false_iff.2 fun h' => h8 ⟨h, h'⟩)
 by_cases h9 : L.length < 3 ∨ (wordAt L 0).size = 0
 ·rw [if_pos h9]
  by_cases h0 : (wordAt L 0).size = 0
  ·obtain ⟨he, he1⟩ := emp_of h0
   by_cases n1 : L.length = 1
   ·exact guess_short_n1E s hz w hL n1 rfl hx hi hk he he1
   by_cases n2 : L.length = 2
   ·exact guess_short_n2E s hz w hL n2 rfl rfl hx (hcc n2) (hgg n2) hi hk he he1
   by_cases n4 : L.length = 4
   ·exact guess_short_n4E s hz w hL n4 rfl rfl rfl rfl hx (h4n n4) hi hk he he1
   by_cases n5 : L.length = 5
   ·exact guess_short_n5E s hz w hL n5 rfl rfl rfl rfl rfl hx (h5n n5) hi hk he he1
   exact guess_short_nME s hz w hL rfl rfl rfl rfl hx ⟨by omega, n4, n5⟩ hi hk he he1
  ·obtain ⟨he, he1, hp, v, xv, hv⟩ := non_of h0
   have hv42 : ((v : Int) == 42) = false := (hv 42).trans (decide_eq_false h6)
   have h3' : L.length < 3 := h9.resolve_right h0
   by_cases n1 : L.length = 1
   ·exact guess_short_n1F s hz w hL n1 rfl hx hi hk he he1 hp xv hv42
   ·have n2 : L.length = 2 := by omega
    exact guess_short_n2F s hz w hL n2 rfl rfl hx (hcc n2) (hgg n2) hi hk he he1 hp xv hv42
 rw [if_neg h9]
 have h0 : (wordAt L 0).size ≠ 0 := fun h => h9 (.inr h)
 have hn3 : 3 ≤ L.length := by
  rcases Nat.lt_or_ge L.length 3 with h | h
  ·exact absurd (.inl h) h9
  ·exact h
 obtain ⟨he, he1, hp, v, xv, hv⟩ := non_of h0
 have hv42 : ((v : Int) == 42) = false := (hv 42).trans (decide_eq_false h6)
 obtain ⟨r, hr⟩ := shape3 hn3
 have hO : otherG L = if isT (wordAt L 1) [61] = true then [sidesG L (leadR (wordAt L 0)) (aluClass (wordAt L 0))]
  else if 0 ≤ findR (wordAt L 1) operNames 0 then [operG04 (wordAt L 0) (wordAt L 2) (findR (wordAt L 1) operNames 0) 0]
  else if begins (wordAt L 1) sT = true ∧ 0 ≤ findR (headR (wordAt L 1) sT) divNames 0 then [operG04 (wordAt L 0) (wordAt L 2) (findR (headR (wordAt L 1) sT) divNames 0) 1]
  else [zeroS] := by
  generalize wordAt L 0 = x0 at hr ⊢
  generalize wordAt L 1 = x1 at hr ⊢
  generalize wordAt L 2 = x2 at hr ⊢
  subst hr
  rfl
 rw [hO]
 clear hO hr
 by_cases hw : hdS (wordAt L 0) = some 119
 ·have eL : leadR (wordAt L 0) = 119 := if_pos hw
  have eC : aluClass (wordAt L 0) = 4 := if_pos hw
  unfold operG04
  rw [eL, eC]
  have hv119 : ((v : Int) == 119) = true := (hv 119).trans (decide_eq_true hw)
  by_cases g1 : isT (wordAt L 1) [61] = true
  ·rw [if_pos g1]
   by_cases n4 : L.length = 4
   ·exact guess_sides_n4 s hz w hL n4 rfl rfl rfl rfl hx (h4n n4) hi hk he he1 hp xv hv42 (.inr ⟨rfl, rfl, hv119⟩) hs (isT_iff g1)
   by_cases n5 : L.length = 5
   ·exact guess_sides_n5 s hz w hL n5 rfl rfl rfl rfl rfl hx (h5n n5) hi hk he he1 hp xv hv42 (.inr ⟨rfl, rfl, hv119⟩) hs (isT_iff g1)
   exact guess_sides_nM s hz w hL rfl rfl rfl rfl hx ⟨hn3, n4, n5⟩ hi hk he he1 hp xv hv42 (.inr ⟨rfl, rfl, hv119⟩) hs (isT_iff g1)
  rw [if_neg g1]
  have hq := isT_iff (Bool.eq_false_iff.2 g1)
  by_cases g2 : 0 ≤ findR (wordAt L 1) operNames 0
  ·rw [if_pos g2]
   by_cases n4 : L.length = 4
   ·exact guess_O_n4 s hz w hL n4 rfl rfl rfl rfl hx (h4n n4) hi hk he he1 hp xv hv42 (.inr ⟨rfl, rfl, hv119⟩) hq (hsi 0) (hsi 1) (hsi 2) (.inl ⟨findR_le rfl g2, rfl⟩)
   by_cases n5 : L.length = 5
   ·exact guess_O_n5 s hz w hL n5 rfl rfl rfl rfl rfl hx (h5n n5) hi hk he he1 hp xv hv42 (.inr ⟨rfl, rfl, hv119⟩) hq (hsi 0) (hsi 1) (hsi 2) (.inl ⟨findR_le rfl g2, rfl⟩)
   exact guess_O_nM s hz w hL rfl rfl rfl rfl hx ⟨hn3, n4, n5⟩ hi hk he he1 hp xv hv42 (.inr ⟨rfl, rfl, hv119⟩) hq (hsi 0) (hsi 1) (hsi 2) (.inl ⟨findR_le rfl g2, rfl⟩)
  rw [if_neg g2]
  by_cases g3 : begins (wordAt L 1) sT = true ∧ 0 ≤ findR (headR (wordAt L 1) sT) divNames 0
  ·rw [if_pos g3]
   by_cases n4 : L.length = 4
   ·exact guess_O_n4 s hz w hL n4 rfl rfl rfl rfl hx (h4n n4) hi hk he he1 hp xv hv42 (.inr ⟨rfl, rfl, hv119⟩) hq (hsi 0) (hsi 1) (hsi 2) (.inr (.inl ⟨findR_no g2, g3.1, findR_le rfl g3.2, rfl⟩))
   by_cases n5 : L.length = 5
   ·exact guess_O_n5 s hz w hL n5 rfl rfl rfl rfl rfl hx (h5n n5) hi hk he he1 hp xv hv42 (.inr ⟨rfl, rfl, hv119⟩) hq (hsi 0) (hsi 1) (hsi 2) (.inr (.inl ⟨findR_no g2, g3.1, findR_le rfl g3.2, rfl⟩))
   exact guess_O_nM s hz w hL rfl rfl rfl rfl hx ⟨hn3, n4, n5⟩ hi hk he he1 hp xv hv42 (.inr ⟨rfl, rfl, hv119⟩) hq (hsi 0) (hsi 1) (hsi 2) (.inr (.inl ⟨findR_no g2, g3.1, findR_le rfl g3.2, rfl⟩))
  rw [if_neg g3]
  by_cases g4 : begins (wordAt L 1) sT = true
  ·have g5 := findR_no fun h => g3 ⟨g4, h⟩
   by_cases n4 : L.length = 4
   ·exact guess_O_n4 s hz w hL n4 rfl rfl rfl rfl hx (h4n n4) hi hk he he1 hp xv hv42 (.inr ⟨rfl, rfl, hv119⟩) hq (hsi 0) (hsi 1) (hsi 2) (.inr (.inr (.inl ⟨findR_no g2, g4, g5, rfl⟩)))
   by_cases n5 : L.length = 5
   ·exact guess_O_n5 s hz w hL n5 rfl rfl rfl rfl rfl hx (h5n n5) hi hk he he1 hp xv hv42 (.inr ⟨rfl, rfl, hv119⟩) hq (hsi 0) (hsi 1) (hsi 2) (.inr (.inr (.inl ⟨findR_no g2, g4, g5, rfl⟩)))
   exact guess_O_nM s hz w hL rfl rfl rfl rfl hx ⟨hn3, n4, n5⟩ hi hk he he1 hp xv hv42 (.inr ⟨rfl, rfl, hv119⟩) hq (hsi 0) (hsi 1) (hsi 2) (.inr (.inr (.inl ⟨findR_no g2, g4, g5, rfl⟩)))
  ·have g5 := Bool.eq_false_iff.2 g4
   by_cases n4 : L.length = 4
   ·exact guess_O_n4 s hz w hL n4 rfl rfl rfl rfl hx (h4n n4) hi hk he he1 hp xv hv42 (.inr ⟨rfl, rfl, hv119⟩) hq (hsi 0) (hsi 1) (hsi 2) (.inr (.inr (.inr ⟨findR_no g2, g5, rfl⟩)))
   by_cases n5 : L.length = 5
   ·exact guess_O_n5 s hz w hL n5 rfl rfl rfl rfl rfl hx (h5n n5) hi hk he he1 hp xv hv42 (.inr ⟨rfl, rfl, hv119⟩) hq (hsi 0) (hsi 1) (hsi 2) (.inr (.inr (.inr ⟨findR_no g2, g5, rfl⟩)))
   exact guess_O_nM s hz w hL rfl rfl rfl rfl hx ⟨hn3, n4, n5⟩ hi hk he he1 hp xv hv42 (.inr ⟨rfl, rfl, hv119⟩) hq (hsi 0) (hsi 1) (hsi 2) (.inr (.inr (.inr ⟨findR_no g2, g5, rfl⟩)))
 ·have eL : leadR (wordAt L 0) = 114 := if_neg hw
  have eC : aluClass (wordAt L 0) = 7 := if_neg hw
  unfold operG04
  rw [eL, eC]
  have hv119 : ((v : Int) == 119) = false := (hv 119).trans (decide_eq_false hw)
  by_cases g1 : isT (wordAt L 1) [61] = true
  ·rw [if_pos g1]
   by_cases n4 : L.length = 4
   ·exact guess_sides_n4 s hz w hL n4 rfl rfl rfl rfl hx (h4n n4) hi hk he he1 hp xv hv42 (.inl ⟨rfl, rfl, hv119⟩) hs (isT_iff g1)
   by_cases n5 : L.length = 5
   ·exact guess_sides_n5 s hz w hL n5 rfl rfl rfl rfl rfl hx (h5n n5) hi hk he he1 hp xv hv42 (.inl ⟨rfl, rfl, hv119⟩) hs (isT_iff g1)
   exact guess_sides_nM s hz w hL rfl rfl rfl rfl hx ⟨hn3, n4, n5⟩ hi hk he he1 hp xv hv42 (.inl ⟨rfl, rfl, hv119⟩) hs (isT_iff g1)
  rw [if_neg g1]
  have hq := isT_iff (Bool.eq_false_iff.2 g1)
  by_cases g2 : 0 ≤ findR (wordAt L 1) operNames 0
  ·rw [if_pos g2]
   by_cases n4 : L.length = 4
   ·exact guess_O_n4 s hz w hL n4 rfl rfl rfl rfl hx (h4n n4) hi hk he he1 hp xv hv42 (.inl ⟨rfl, rfl, hv119⟩) hq (hsi 0) (hsi 1) (hsi 2) (.inl ⟨findR_le rfl g2, rfl⟩)
   by_cases n5 : L.length = 5
   ·exact guess_O_n5 s hz w hL n5 rfl rfl rfl rfl rfl hx (h5n n5) hi hk he he1 hp xv hv42 (.inl ⟨rfl, rfl, hv119⟩) hq (hsi 0) (hsi 1) (hsi 2) (.inl ⟨findR_le rfl g2, rfl⟩)
   exact guess_O_nM s hz w hL rfl rfl rfl rfl hx ⟨hn3, n4, n5⟩ hi hk he he1 hp xv hv42 (.inl ⟨rfl, rfl, hv119⟩) hq (hsi 0) (hsi 1) (hsi 2) (.inl ⟨findR_le rfl g2, rfl⟩)
  rw [if_neg g2]
  by_cases g3 : begins (wordAt L 1) sT = true ∧ 0 ≤ findR (headR (wordAt L 1) sT) divNames 0
  ·rw [if_pos g3]
   by_cases n4 : L.length = 4
   ·exact guess_O_n4 s hz w hL n4 rfl rfl rfl rfl hx (h4n n4) hi hk he he1 hp xv hv42 (.inl ⟨rfl, rfl, hv119⟩) hq (hsi 0) (hsi 1) (hsi 2) (.inr (.inl ⟨findR_no g2, g3.1, findR_le rfl g3.2, rfl⟩))
   by_cases n5 : L.length = 5
   ·exact guess_O_n5 s hz w hL n5 rfl rfl rfl rfl rfl hx (h5n n5) hi hk he he1 hp xv hv42 (.inl ⟨rfl, rfl, hv119⟩) hq (hsi 0) (hsi 1) (hsi 2) (.inr (.inl ⟨findR_no g2, g3.1, findR_le rfl g3.2, rfl⟩))
   exact guess_O_nM s hz w hL rfl rfl rfl rfl hx ⟨hn3, n4, n5⟩ hi hk he he1 hp xv hv42 (.inl ⟨rfl, rfl, hv119⟩) hq (hsi 0) (hsi 1) (hsi 2) (.inr (.inl ⟨findR_no g2, g3.1, findR_le rfl g3.2, rfl⟩))
  rw [if_neg g3]
  by_cases g4 : begins (wordAt L 1) sT = true
  ·have g5 := findR_no fun h => g3 ⟨g4, h⟩
   by_cases n4 : L.length = 4
   ·exact guess_O_n4 s hz w hL n4 rfl rfl rfl rfl hx (h4n n4) hi hk he he1 hp xv hv42 (.inl ⟨rfl, rfl, hv119⟩) hq (hsi 0) (hsi 1) (hsi 2) (.inr (.inr (.inl ⟨findR_no g2, g4, g5, rfl⟩)))
   by_cases n5 : L.length = 5
   ·exact guess_O_n5 s hz w hL n5 rfl rfl rfl rfl rfl hx (h5n n5) hi hk he he1 hp xv hv42 (.inl ⟨rfl, rfl, hv119⟩) hq (hsi 0) (hsi 1) (hsi 2) (.inr (.inr (.inl ⟨findR_no g2, g4, g5, rfl⟩)))
   exact guess_O_nM s hz w hL rfl rfl rfl rfl hx ⟨hn3, n4, n5⟩ hi hk he he1 hp xv hv42 (.inl ⟨rfl, rfl, hv119⟩) hq (hsi 0) (hsi 1) (hsi 2) (.inr (.inr (.inl ⟨findR_no g2, g4, g5, rfl⟩)))
  ·have g5 := Bool.eq_false_iff.2 g4
   by_cases n4 : L.length = 4
   ·exact guess_O_n4 s hz w hL n4 rfl rfl rfl rfl hx (h4n n4) hi hk he he1 hp xv hv42 (.inl ⟨rfl, rfl, hv119⟩) hq (hsi 0) (hsi 1) (hsi 2) (.inr (.inr (.inr ⟨findR_no g2, g5, rfl⟩)))
   by_cases n5 : L.length = 5
   ·exact guess_O_n5 s hz w hL n5 rfl rfl rfl rfl rfl hx (h5n n5) hi hk he he1 hp xv hv42 (.inl ⟨rfl, rfl, hv119⟩) hq (hsi 0) (hsi 1) (hsi 2) (.inr (.inr (.inr ⟨findR_no g2, g5, rfl⟩)))
   exact guess_O_nM s hz w hL rfl rfl rfl rfl hx ⟨hn3, n4, n5⟩ hi hk he he1 hp xv hv42 (.inl ⟨rfl, rfl, hv119⟩) hq (hsi 0) (hsi 1) (hsi 2) (.inr (.inr (.inr ⟨findR_no g2, g5, rfl⟩)))
end Go.Proofs.YtemiklbkfogjeaaGreatDoor
