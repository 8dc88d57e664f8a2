/-
  The reference's guess: what it answers, plainly; the words while it runs; two slots of a number. The reference's guess: a first word that says what it is.
-/
import Derived.Test.YtemiklbkfogjeaaGreatDoorQ30
namespace Go.Proofs.YtemiklbkfogjeaaGreatDoor
open Go Go.RowKit Go.Maps
set_option linter.unusedVariables false
set_option linter.unusedSimpArgs false
set_option maxRecDepth 100000
/-- The lower half of a number, with its sign; and the upper one. -/
def lo32 (u : Nat) : Int := ((u : Int) + 2147483648) % 4294967296 - 2147483648
def hi32 (u : Nat) : Int := ((u : Int) / 4294967296 + 2147483648) % 4294967296 - 2147483648
def unumD (s : ByteArray) : Nat := (digN maxU s).getD 0
def operNames : List ByteArray := [⟨#[43, 61]⟩, ⟨#[45, 61]⟩, ⟨#[42, 61]⟩, ⟨#[47, 61]⟩, ⟨#[124, 61]⟩, ⟨#[38, 61]⟩, ⟨#[60, 60, 61]⟩, ⟨#[62, 62, 61]⟩, ⟨#[]⟩, ⟨#[37, 61]⟩, ⟨#[94, 61]⟩, ⟨#[]⟩, ⟨#[115, 62, 62, 61]⟩]
def divNames : List ByteArray := [⟨#[]⟩, ⟨#[]⟩, ⟨#[]⟩, ⟨#[47, 61]⟩, ⟨#[]⟩, ⟨#[]⟩, ⟨#[]⟩, ⟨#[]⟩, ⟨#[]⟩, ⟨#[37, 61]⟩]
abbrev sT : ByteArray := ⟨#[115]⟩
def aluClass (a : ByteArray) : Int := if hdS a = some 119 then 4 else 7
/-- An operation of two sides: k its place among the names, off the slot's. -/
def operG04 (w0 w2 : ByteArray) (k off : Int) : Slot :=
 ⟨if (opdR w2 (leadR w0)).2.2 = true then 16 * k + aluClass w0 + 8 else 16 * k + aluClass w0, regR w0 (leadR w0), (opdR w2 (leadR w0)).1, off, (opdR w2 (leadR w0)).2.1⟩
def otherG (L : List ByteArray) : List Slot := match L with
 | w0 :: w1 :: w2 :: _ =>
  if isT w1 [61] = true then [sidesG L (leadR w0) (aluClass w0)]
  else if 0 ≤ findR w1 operNames 0 then [operG04 w0 w2 (findR w1 operNames 0) 0]
  else if begins w1 sT = true ∧ 0 ≤ findR (headR w1 sT) divNames 0 then [operG04 w0 w2 (findR (headR w1 sT) divNames 0) 1]
  else [zeroS]
 | _ => [zeroS]
def wordAt (L : List ByteArray) (i : Nat) : ByteArray := L.getD i ⟨#[]⟩
def guessG (s : ByteArray) (L : List ByteArray) : List Slot :=
 if isT s [101, 120, 105, 116] = true then [⟨149, 0, 0, 0, 0⟩]
 else if L.length = 2 ∧ isT (wordAt L 0) [99, 97, 108, 108] = true then [⟨133, 0, 0, 0, numD (wordAt L 1)⟩]
 else if L.length = 2 ∧ isT (wordAt L 0) [103, 111, 116, 111] = true then [⟨5, 0, 0, offR (wordAt L 1), 0⟩]
 else if isT (wordAt L 0) [105, 102] = true then [testG' L]
 else if isT (wordAt L 0) [108, 111, 99, 107] = true then [lockedG L]
 else if hdS (wordAt L 0) = some 42 then [storeG L]
 else if L.length = 4 ∧ isT (wordAt L 3) [108, 108] = true then [⟨24, regR (wordAt L 0) 114, 0, 0, lo32 (unumD (wordAt L 2))⟩, ⟨0, 0, 0, 0, hi32 (unumD (wordAt L 2))⟩]
 else if L.length = 5 ∧ isT (wordAt L 4) [108, 108] = true then [⟨24, regR (wordAt L 0) 114, 1, 0, numD (wordAt L 3)⟩, ⟨0, 0, 0, 0, 0⟩]
 else if L.length < 3 ∨ (wordAt L 0).size = 0 then [zeroS]
 else otherG L
/-- The slots lie in a row of their own. -/
def GIs (w : World) (X : List Slot) (e : Ending) (w' : World) : Prop := ∃ g, e = .returned (.slice (some ⟨g, 0, none⟩) X.length X.length) ∧ Below w.heap.size w w' ∧ Blk w' g isT' (X.flatMap Slot.cells).toArray
theorem gis_one {w W : World} (h : Below w.heap.size w W) (o d s f m : Int) : GIs w [⟨o, d, s, f, m⟩] (.returned (.slice (some ⟨W.heap.size, 0, none⟩) 1 1)) (W.alloc (.cells #[.int .i64 o, .int .i64 d, .int .i64 s, .int .i64 f, .int .i64 m] isT')) :=
 ⟨W.heap.size, rfl, h.alloc h.size _, Blk.new W isT' #[.int .i64 o, .int .i64 d, .int .i64 s, .int .i64 f, .int .i64 m]⟩
theorem gis_two {w W : World} (h : Below w.heap.size w W) (o d s f m o' d' s' f' m' : Int) : GIs w [⟨o, d, s, f, m⟩, ⟨o', d', s', f', m'⟩] (.returned (.slice (some ⟨W.heap.size, 0, none⟩) 2 2)) (W.alloc (.cells #[.int .i64 o, .int .i64 d, .int .i64 s, .int .i64 f, .int .i64 m, .int .i64 o', .int .i64 d', .int .i64 s', .int .i64 f', .int .i64 m'] isT')) :=
 ⟨W.heap.size, rfl, h.alloc h.size _, Blk.new W isT' #[.int .i64 o, .int .i64 d, .int .i64 s, .int .i64 f, .int .i64 m, .int .i64 o', .int .i64 d', .int .i64 s', .int .i64 f', .int .i64 m']⟩
theorem gis_one' {w W : World} (h : Below w.heap.size w W) {z : Nat} (hz : W.heap.size = z) (o d s f m : Int) : GIs w [⟨o, d, s, f, m⟩] (.returned (.slice (some ⟨z, 0, none⟩) 1 1)) (W.alloc (.cells #[.int .i64 o, .int .i64 d, .int .i64 s, .int .i64 f, .int .i64 m] isT')) := hz ▸ gis_one h o d s f m
theorem gis_two' {w W : World} (h : Below w.heap.size w W) {z : Nat} (hz : W.heap.size = z) (o d s f m o' d' s' f' m' : Int) : GIs w [⟨o, d, s, f, m⟩, ⟨o', d', s', f', m'⟩] (.returned (.slice (some ⟨z, 0, none⟩) 2 2)) (W.alloc (.cells #[.int .i64 o, .int .i64 d, .int .i64 s, .int .i64 f, .int .i64 m, .int .i64 o', .int .i64 d', .int .i64 s', .int .i64 f', .int .i64 m'] isT')) := hz ▸ gis_two h o d s f m o' d' s' f' m'
/-- The words lie at g. -/
structure GW (w : World) (g c n : Nat) (L : List ByteArray) (W : World) : Prop where
 below : Below w.heap.size w W
 words : StrsAt W (some ⟨g, 0, none⟩) L
 lt : g < W.heap.size
 len : L.length = n
 le : n ≤ c
 cle : c ≤ 9223372036854775807
theorem GW.grow {w : World} {g c n : Nat} {L : List ByteArray} {W W' : World} (h : GW w g c n L W) (k : Below W.heap.size W W') : GW w g c n L W' := ⟨below_on' h.below k, h.words.below k, Nat.lt_of_lt_of_le h.lt k.size, h.len, h.le, h.cle⟩
theorem GW.word {w : World} {g c n : Nat} {L : List ByteArray} {W : World} (h : GW w g c n L W) (i : Nat) (hi : i < n) : W.cell? ⟨g, i, none⟩ = some (.string (wordAt L i)) := by
 have hl := h.len
 obtain ⟨b', o', e, _, hc⟩ := h.words i (wordAt L i) (by unfold wordAt; rw [List.getD_eq_getElem?_getD, List.getElem?_eq_getElem (by omega)]; rfl)
 cases e
 rw [Nat.zero_add] at hc
 exact hc
theorem words_gw {w w' : World} {V : Value} {L : List ByteArray} (h : Strs w' w.heap.size V L) (hb : Below w.heap.size w w') (hne : L ≠ []) : ∃ g c, V = .slice (some ⟨g, 0, none⟩) L.length c ∧ GW w g c L.length L w' := by
 rcases strs_form h with ⟨_, hm⟩ | ⟨g, c, rfl, _, hlc, hcm, hlt, hcell⟩
 ·exact absurd hm hne
 ·refine ⟨g, c, rfl, hb, fun i s hi => ⟨g, 0, rfl, hlt, by rw [Nat.zero_add]; exact hcell i s hi⟩, hlt, rfl, hlc, ?_⟩
  have : maxLen ≤ 9223372036854775807 := by unfold maxLen; decide
  omega
theorem cutL_ne : ∀ (acc l : List UInt8), cutL acc l ≠ []
 | acc, [] => by simp [cutL]
 | acc, b :: r => by
  unfold cutL
  split
  ·simp
  ·exact cutL_ne _ r
theorem wordsR_ne (s : ByteArray) : wordsR s ≠ [] := by
 unfold wordsR
 intro h
 exact cutL_ne _ _ (List.map_eq_nil_iff.1 h)
theorem wrap_lo (u : Nat) : wrap64 (wrap32 (u : Int)) = lo32 u := by unfold wrap64 wrap32 lo32; omega
theorem wrap_hi (u : Nat) : wrap64 (wrap32 ((u : Int) / 4294967296)) = hi32 u := by unfold wrap64 wrap32 hi32; omega
set_option maxHeartbeats 1000000 in
theorem lay04_any (d : Int) (u : Nat) (hu : u ≤ maxU) (w : World) :
  Calls Tryz.prog 33 #[.int .i64 d, .int .u64 (u : Int)] w fun e w' => e = .returned (.agg #[.int .i64 24, .int .i64 d, .int .i64 0, .int .i64 0, .int .i64 (lo32 u), .int .i64 0, .int .i64 0, .int .i64 0, .int .i64 0, .int .i64 (hi32 u)]) ∧ Below w.heap.size w w' := by
 go_enter Tryz.func33, Tryz.ntmps33
 go_wp2_with fail
 rw [wrap_lo, wrap_hi]
 refine bodyPost_ret (results_cell_row rfl _ _ w.heap.size 66 _ (0, 0) _ rfl (Blk.new w _ _) Tryz.underlying66 rfl (by kernel_rfl)) rfl ?_
 exact ⟨rfl, (Below.refl _ w).alloc (Nat.le_refl _) _⟩
theorem test04_any (b o c : Nat) (L : List ByteArray) (hs : ∀ x ∈ L, x.size ≤ 4611686018427387904) (w : World) (hA : StrsAt w (some ⟨b, o, none⟩) L) :
  Calls Tryz.prog 29 #[.slice (some ⟨b, o, none⟩) L.length c] w (SaysI w (testG' L)) := by
 match L, hs, hA with
 | [], hs, hA => exact test04_none _ c _ w hA (.inl (by decide))
 | [_], hs, hA => exact test04_none _ c _ w hA (.inl (by simp))
 | [_, _], hs, hA => exact test04_none _ c _ w hA (.inl (by simp))
 | [_, _, _], hs, hA => exact test04_none _ c _ w hA (.inl (by simp))
 | [_, _, _, _], hs, hA => exact test04_none _ c _ w hA (.inl (by simp))
 | [_, _, _, _, _], hs, hA => exact test04_none _ c _ w hA (.inl (by simp))
 | [q0, a, m, cc, q4, e], hs, hA =>
  by_cases hz : a.size = 0
  ·have eg : testG' [q0, a, m, cc, q4, e] = zeroS := if_pos hz
   rw [eg]
   exact test04_none _ c _ w hA (.inr ⟨rfl, a, rfl, hz⟩)
  ·exact test04_some b o c q0 a m cc q4 e hz hs w hA
 | _ :: _ :: _ :: _ :: _ :: _ :: _ :: r, hs, hA => exact test04_none _ c _ w hA (.inl (by simp))
abbrev objA : Obj := (.cells #[.string ⟨#[43, 61]⟩, .string ⟨#[45, 61]⟩, .string ⟨#[42, 61]⟩, .string ⟨#[47, 61]⟩, .string ⟨#[124, 61]⟩, .string ⟨#[38, 61]⟩, .string ⟨#[60, 60, 61]⟩, .string ⟨#[62, 62, 61]⟩, .string ⟨#[]⟩, .string ⟨#[37, 61]⟩, .string ⟨#[94, 61]⟩, .string ⟨#[]⟩, .string ⟨#[115, 62, 62, 61]⟩] 9)
abbrev objD : Obj := (.cells #[.string ⟨#[]⟩, .string ⟨#[]⟩, .string ⟨#[]⟩, .string ⟨#[47, 61]⟩, .string ⟨#[]⟩, .string ⟨#[]⟩, .string ⟨#[]⟩, .string ⟨#[]⟩, .string ⟨#[]⟩, .string ⟨#[37, 61]⟩] 9)
set_option maxHeartbeats 4000000 in
theorem guess_exit (s : ByteArray) (hz : s.size ≤ 1048576) (w : World) {L : List ByteArray} (hL : wordsR s = L) {n : Nat} (hl : L.length = n) (hx : (s.toList == [101, 120, 105, 116]) = true) :
  Calls Tryz.prog 16 #[.string s] w (GIs w [⟨149, 0, 0, 0, 0⟩]) := by
 have hw0 := words04_any s hz w
 rw [hL] at hw0
 have HNE : Hid (L ≠ []) := fun h => wordsR_ne s (hL.trans h)
 have HL := Lib.hid hl
 have CW := Lib.hid hw0
 clear hw0 hL hl hz
 go_enter Tryz.func16, Tryz.ntmps16
 go_upto_region 2 with (go_at_call 26; refine CW.out.mono ?_; rintro e w1 ⟨V, rfl, hb, hst⟩; obtain ⟨g, c, rfl, hgw⟩ := words_gw hst hb HNE.out; have G := Lib.hid hgw; clear hb hst hgw; rw [HL.out] at G ⊢)
 go_wp2_with fail
 go_ret
 exact gis_one G.out.below _ _ _ _ _
set_option maxHeartbeats 4000000 in
theorem guess_call (s : ByteArray) (hz : s.size ≤ 1048576) (w : World) {L : List ByteArray} {a0 a1 : ByteArray} (hL : wordsR s = L) (hl : L.length = 2) (h0 : wordAt L 0 = a0) (h1 : wordAt L 1 = a1) (hx : (s.toList == [101, 120, 105, 116]) = false) (hc : (a0.toList == [99, 97, 108, 108]) = true) (hs1 : a1.size ≤ 4611686018427387904) :
  Calls Tryz.prog 16 #[.string s] w (GIs w [⟨133, 0, 0, 0, numD a1⟩]) := by
 have hw0 := words04_any s hz w
 rw [hL] at hw0
 have HNE : Hid (L ≠ []) := fun h => wordsR_ne s (hL.trans h)
 have HL := Lib.hid hl
 have CW := Lib.hid hw0
 have H0 := Lib.hid h0
 have H1 := Lib.hid h1
 have CN : Hid (∀ W, Calls Tryz.prog 27 #[.string a1] W fun e w' => e = .returned (.tuple #[.int .i64 (numD a1), .bool (numR a1).isSome]) ∧ W = w') := fun W => number04_any a1 hs1 W
 generalize numD a1 = nd at *
 generalize (numR a1).isSome = nb at *
 clear hw0 hL hl hz h0 h1
 go_enter Tryz.func16, Tryz.ntmps16
 go_upto_region 2 with (go_at_call 26; refine CW.out.mono ?_; rintro e w1 ⟨V, rfl, hb, hst⟩; obtain ⟨g, c, rfl, hgw⟩ := words_gw hst hb HNE.out; have G := Lib.hid hgw; clear hb hst hgw; rw [HL.out] at G ⊢)
 have q0 : w1.cell? ⟨g, 0, none⟩ = some (.string a0) := H0.out ▸ G.out.word 0 (by omega)
 have q1 : w1.cell? ⟨g, 1, none⟩ = some (.string a1) := H1.out ▸ G.out.word 1 (by omega)
 go_wp2_with (go_at_call 27; refine (CN.out _).mono ?_; rintro e w2 ⟨rfl, rfl⟩)
 go_ret
 exact gis_one G.out.below _ _ _ _ _
set_option maxHeartbeats 4000000 in
theorem guess_goto (s : ByteArray) (hz : s.size ≤ 1048576) (w : World) {L : List ByteArray} {a0 a1 : ByteArray} (hL : wordsR s = L) (hl : L.length = 2) (h0 : wordAt L 0 = a0) (h1 : wordAt L 1 = a1) (hx : (s.toList == [101, 120, 105, 116]) = false) (hc : (a0.toList == [99, 97, 108, 108]) = false) (hg : (a0.toList == [103, 111, 116, 111]) = true) (hs1 : a1.size ≤ 4611686018427387904) :
  Calls Tryz.prog 16 #[.string s] w (GIs w [⟨5, 0, 0, offR a1, 0⟩]) := by
 have hw0 := words04_any s hz w
 rw [hL] at hw0
 have HNE : Hid (L ≠ []) := fun h => wordsR_ne s (hL.trans h)
 have HL := Lib.hid hl
 have CW := Lib.hid hw0
 have H0 := Lib.hid h0
 have H1 := Lib.hid h1
 have CN : Hid (∀ W, Calls Tryz.prog 28 #[.string a1] W fun e w' => e = .returned (.int .i64 (offR a1)) ∧ W = w') := fun W => offset04_any a1 hs1 W
 generalize offR a1 = nd at *
 clear hw0 hL hl hz h0 h1
 go_enter Tryz.func16, Tryz.ntmps16
 go_upto_region 2 with (go_at_call 26; refine CW.out.mono ?_; rintro e w1 ⟨V, rfl, hb, hst⟩; obtain ⟨g, c, rfl, hgw⟩ := words_gw hst hb HNE.out; have G := Lib.hid hgw; clear hb hst hgw; rw [HL.out] at G ⊢)
 have q0 : w1.cell? ⟨g, 0, none⟩ = some (.string a0) := H0.out ▸ G.out.word 0 (by omega)
 have q1 : w1.cell? ⟨g, 1, none⟩ = some (.string a1) := H1.out ▸ G.out.word 1 (by omega)
 go_wp2_with (go_at_call 28; refine (CN.out _).mono ?_; rintro e w2 ⟨rfl, rfl⟩)
 go_ret
 exact gis_one G.out.below _ _ _ _ _
set_option maxHeartbeats 4000000 in
theorem guess_if_n2 (s : ByteArray) (hz : s.size ≤ 1048576) (w : World) {L : List ByteArray} {a0 a1 : ByteArray} (hL : wordsR s = L) (hl : L.length = 2) (h0 : wordAt L 0 = a0) (h1 : wordAt L 1 = a1) (hx : (s.toList == [101, 120, 105, 116]) = false) (hc : (a0.toList == [99, 97, 108, 108]) = false) (hg : (a0.toList == [103, 111, 116, 111]) = false) (hi : (a0.toList == [105, 102]) = true) (hs : ∀ x ∈ L, x.size ≤ 4611686018427387904) :
  Calls Tryz.prog 16 #[.string s] w (GIs w [testG' L]) := by
 have hw0 := words04_any s hz w
 rw [hL] at hw0
 have HNE : Hid (L ≠ []) := fun h => wordsR_ne s (hL.trans h)
 have HL := Lib.hid hl
 have CW := Lib.hid hw0
 have H0 := Lib.hid h0
 have H1 := Lib.hid h1
 have CT : Hid (∀ (g c : Nat) (W : World), GW w g c 2 L W → Calls Tryz.prog 29 #[.slice (some ⟨g, 0, none⟩) 2 c] W (SaysI W (testG' L))) := fun g c W hg => by
  have h := test04_any g 0 c L hs W hg.words
  rw [HL.out] at h
  exact h
 generalize testG' L = X0 at *
 obtain ⟨xo, xd, xs, xf, xm⟩ := X0
 clear hw0 hL hl hz h0 h1 hs
 go_enter Tryz.func16, Tryz.ntmps16
 go_upto_region 2 with (go_at_call 26; refine CW.out.mono ?_; rintro e w1 ⟨V, rfl, hb, hst⟩; obtain ⟨g, c, rfl, hgw⟩ := words_gw hst hb HNE.out; have G := Lib.hid hgw; clear hb hst hgw; rw [HL.out] at G ⊢)
 have q0 : w1.cell? ⟨g, 0, none⟩ = some (.string a0) := H0.out ▸ G.out.word 0 (by omega)
 have q1 : w1.cell? ⟨g, 1, none⟩ = some (.string a1) := H1.out ▸ G.out.word 1 (by omega)
 go_wp2_with (go_at_call 29; refine (CT.out _ _ _ G.out).mono ?_; rintro e w2 ⟨rfl, hb⟩; have G2 := Lib.hid (G.out.grow hb); clear hb)
 go_ret
 exact gis_one G2.out.below _ _ _ _ _
set_option maxHeartbeats 4000000 in
theorem guess_lock_n2 (s : ByteArray) (hz : s.size ≤ 1048576) (w : World) {L : List ByteArray} {a0 a1 : ByteArray} (hL : wordsR s = L) (hl : L.length = 2) (h0 : wordAt L 0 = a0) (h1 : wordAt L 1 = a1) (hx : (s.toList == [101, 120, 105, 116]) = false) (hc : (a0.toList == [99, 97, 108, 108]) = false) (hg : (a0.toList == [103, 111, 116, 111]) = false) (hi : (a0.toList == [105, 102]) = false) (hk : (a0.toList == [108, 111, 99, 107]) = true) (hs : ∀ x ∈ L, x.size ≤ 4611686018427387904) :
  Calls Tryz.prog 16 #[.string s] w (GIs w [lockedG L]) := by
 have hw0 := words04_any s hz w
 rw [hL] at hw0
 have HNE : Hid (L ≠ []) := fun h => wordsR_ne s (hL.trans h)
 have HL := Lib.hid hl
 have CW := Lib.hid hw0
 have H0 := Lib.hid h0
 have H1 := Lib.hid h1
 have CT : Hid (∀ (g c : Nat) (W : World), GW w g c 2 L W → Calls Tryz.prog 30 #[.slice (some ⟨g, 0, none⟩) 2 c] W (SaysI W (lockedG L))) := fun g c W hg => by
  have h := locked04_any (some ⟨g, 0, none⟩) c L (by rw [hg.len]; exact hg.le) hg.cle hs W hg.words
  rw [HL.out] at h
  exact h
 generalize lockedG L = X0 at *
 obtain ⟨xo, xd, xs, xf, xm⟩ := X0
 clear hw0 hL hl hz h0 h1 hs
 go_enter Tryz.func16, Tryz.ntmps16
 go_upto_region 2 with (go_at_call 26; refine CW.out.mono ?_; rintro e w1 ⟨V, rfl, hb, hst⟩; obtain ⟨g, c, rfl, hgw⟩ := words_gw hst hb HNE.out; have G := Lib.hid hgw; clear hb hst hgw; rw [HL.out] at G ⊢)
 have q0 : w1.cell? ⟨g, 0, none⟩ = some (.string a0) := H0.out ▸ G.out.word 0 (by omega)
 have q1 : w1.cell? ⟨g, 1, none⟩ = some (.string a1) := H1.out ▸ G.out.word 1 (by omega)
 go_wp2_with (go_at_call 30; refine (CT.out _ _ _ G.out).mono ?_; rintro e w2 ⟨rfl, hb⟩; have G2 := Lib.hid (G.out.grow hb); clear hb)
 go_ret
 exact gis_one G2.out.below _ _ _ _ _
set_option maxHeartbeats 4000000 in
theorem guess_star_n2 (s : ByteArray) (hz : s.size ≤ 1048576) (w : World) {L : List ByteArray} {a0 a1 : ByteArray} (hL : wordsR s = L) (hl : L.length = 2) (h0 : wordAt L 0 = a0) (h1 : wordAt L 1 = a1) (hx : (s.toList == [101, 120, 105, 116]) = false) (hc : (a0.toList == [99, 97, 108, 108]) = false) (hg : (a0.toList == [103, 111, 116, 111]) = false) (hi : (a0.toList == [105, 102]) = false) (hk : (a0.toList == [108, 111, 99, 107]) = false) (he : (a0.toList == []) = false) (he1 : a0.toList.isEmpty = false) (hp : (0 : Int) < (a0.size : Int)) {v : Nat} (xv : ∀ W : World, (Instr.index 9 (.string a0) (.int .i64 (0 : Int))).run Tryz.prog W = .ok (.int .u8 (v : Int)) W) (hv : ((v : Int) == 42) = true) (hs : ∀ x ∈ L, x.size ≤ 4611686018427387904) :
  Calls Tryz.prog 16 #[.string s] w (GIs w [storeG L]) := by
 have hw0 := words04_any s hz w
 rw [hL] at hw0
 have HNE : Hid (L ≠ []) := fun h => wordsR_ne s (hL.trans h)
 have HL := Lib.hid hl
 have CW := Lib.hid hw0
 have H0 := Lib.hid h0
 have H1 := Lib.hid h1
 have CT : Hid (∀ (g c : Nat) (W : World), GW w g c 2 L W → Calls Tryz.prog 31 #[.slice (some ⟨g, 0, none⟩) 2 c] W (SaysI W (storeG L))) := fun g c W hg => by
  have h := store04_any (some ⟨g, 0, none⟩) c L hs W hg.words
  rw [HL.out] at h
  exact h
 generalize storeG L = X0 at *
 obtain ⟨xo, xd, xs, xf, xm⟩ := X0
 clear hw0 hL hl hz h0 h1 hs
 go_enter Tryz.func16, Tryz.ntmps16
 go_upto_region 2 with (go_at_call 26; refine CW.out.mono ?_; rintro e w1 ⟨V, rfl, hb, hst⟩; obtain ⟨g, c, rfl, hgw⟩ := words_gw hst hb HNE.out; have G := Lib.hid hgw; clear hb hst hgw; rw [HL.out] at G ⊢)
 have q0 : w1.cell? ⟨g, 0, none⟩ = some (.string a0) := H0.out ▸ G.out.word 0 (by omega)
 have q1 : w1.cell? ⟨g, 1, none⟩ = some (.string a1) := H1.out ▸ G.out.word 1 (by omega)
 go_wp2_with (go_at_call 31; refine (CT.out _ _ _ G.out).mono ?_; rintro e w2 ⟨rfl, hb⟩; have G2 := Lib.hid (G.out.grow hb); clear hb)
 go_ret
 exact gis_one G2.out.below _ _ _ _ _
set_option maxHeartbeats 4000000 in
theorem guess_if_nX (s : ByteArray) (hz : s.size ≤ 1048576) (w : World) {L : List ByteArray} {a0 : ByteArray} (hL : wordsR s = L) {n : Nat} (hl : L.length = n) (h0 : wordAt L 0 = a0) (hx : (s.toList == [101, 120, 105, 116]) = false) (hM : 1 ≤ n ∧ n ≠ 2) (hi : (a0.toList == [105, 102]) = true) (hs : ∀ x ∈ L, x.size ≤ 4611686018427387904) :
  Calls Tryz.prog 16 #[.string s] w (GIs w [testG' L]) := by
 have hw0 := words04_any s hz w
 rw [hL] at hw0
 have HNE : Hid (L ≠ []) := fun h => wordsR_ne s (hL.trans h)
 have HL := Lib.hid hl
 have CW := Lib.hid hw0
 have H0 := Lib.hid h0
 have n2 : ((n : Int) == 2) = false := by simp; omega
 have n2' : (n == 2) = false := by simp; omega
 have i0 : (0 : Int) < (n : Int) := by omega
 have CT : Hid (∀ (g c : Nat) (W : World), GW w g c n L W → Calls Tryz.prog 29 #[.slice (some ⟨g, 0, none⟩) n c] W (SaysI W (testG' L))) := fun g c W hg => by
  have h := test04_any g 0 c L hs W hg.words
  rw [HL.out] at h
  exact h
 generalize testG' L = X0 at *
 obtain ⟨xo, xd, xs, xf, xm⟩ := X0
 clear hw0 hL hl hz h0 hs
 go_enter Tryz.func16, Tryz.ntmps16
 go_upto_region 2 with (go_at_call 26; refine CW.out.mono ?_; rintro e w1 ⟨V, rfl, hb, hst⟩; obtain ⟨g, c, rfl, hgw⟩ := words_gw hst hb HNE.out; have G := Lib.hid hgw; clear hb hst hgw; rw [HL.out] at G ⊢)
 have q0 : w1.cell? ⟨g, 0, none⟩ = some (.string a0) := H0.out ▸ G.out.word 0 (by omega)
 go_wp2_with (go_at_call 29; refine (CT.out _ _ _ G.out).mono ?_; rintro e w2 ⟨rfl, hb⟩; have G2 := Lib.hid (G.out.grow hb); clear hb)
 go_ret
 exact gis_one G2.out.below _ _ _ _ _
set_option maxHeartbeats 4000000 in
theorem guess_lock_nX (s : ByteArray) (hz : s.size ≤ 1048576) (w : World) {L : List ByteArray} {a0 : ByteArray} (hL : wordsR s = L) {n : Nat} (hl : L.length = n) (h0 : wordAt L 0 = a0) (hx : (s.toList == [101, 120, 105, 116]) = false) (hM : 1 ≤ n ∧ n ≠ 2) (hi : (a0.toList == [105, 102]) = false) (hk : (a0.toList == [108, 111, 99, 107]) = true) (hs : ∀ x ∈ L, x.size ≤ 4611686018427387904) :
  Calls Tryz.prog 16 #[.string s] w (GIs w [lockedG L]) := by
 have hw0 := words04_any s hz w
 rw [hL] at hw0
 have HNE : Hid (L ≠ []) := fun h => wordsR_ne s (hL.trans h)
 have HL := Lib.hid hl
 have CW := Lib.hid hw0
 have H0 := Lib.hid h0
 have n2 : ((n : Int) == 2) = false := by simp; omega
 have n2' : (n == 2) = false := by simp; omega
 have i0 : (0 : Int) < (n : Int) := by omega
 have CT : Hid (∀ (g c : Nat) (W : World), GW w g c n L W → Calls Tryz.prog 30 #[.slice (some ⟨g, 0, none⟩) n c] W (SaysI W (lockedG L))) := fun g c W hg => by
  have h := locked04_any (some ⟨g, 0, none⟩) c L (by rw [hg.len]; exact hg.le) hg.cle hs W hg.words
  rw [HL.out] at h
  exact h
 generalize lockedG L = X0 at *
 obtain ⟨xo, xd, xs, xf, xm⟩ := X0
 clear hw0 hL hl hz h0 hs
 go_enter Tryz.func16, Tryz.ntmps16
 go_upto_region 2 with (go_at_call 26; refine CW.out.mono ?_; rintro e w1 ⟨V, rfl, hb, hst⟩; obtain ⟨g, c, rfl, hgw⟩ := words_gw hst hb HNE.out; have G := Lib.hid hgw; clear hb hst hgw; rw [HL.out] at G ⊢)
 have q0 : w1.cell? ⟨g, 0, none⟩ = some (.string a0) := H0.out ▸ G.out.word 0 (by omega)
 go_wp2_with (go_at_call 30; refine (CT.out _ _ _ G.out).mono ?_; rintro e w2 ⟨rfl, hb⟩; have G2 := Lib.hid (G.out.grow hb); clear hb)
 go_ret
 exact gis_one G2.out.below _ _ _ _ _
set_option maxHeartbeats 4000000 in
theorem guess_star_nX (s : ByteArray) (hz : s.size ≤ 1048576) (w : World) {L : List ByteArray} {a0 : ByteArray} (hL : wordsR s = L) {n : Nat} (hl : L.length = n) (h0 : wordAt L 0 = a0) (hx : (s.toList == [101, 120, 105, 116]) = false) (hM : 1 ≤ n ∧ n ≠ 2) (hi : (a0.toList == [105, 102]) = false) (hk : (a0.toList == [108, 111, 99, 107]) = false) (he : (a0.toList == []) = false) (he1 : a0.toList.isEmpty = false) (hp : (0 : Int) < (a0.size : Int)) {v : Nat} (xv : ∀ W : World, (Instr.index 9 (.string a0) (.int .i64 (0 : Int))).run Tryz.prog W = .ok (.int .u8 (v : Int)) W) (hv : ((v : Int) == 42) = true) (hs : ∀ x ∈ L, x.size ≤ 4611686018427387904) :
  Calls Tryz.prog 16 #[.string s] w (GIs w [storeG L]) := by
 have hw0 := words04_any s hz w
 rw [hL] at hw0
 have HNE : Hid (L ≠ []) := fun h => wordsR_ne s (hL.trans h)
 have HL := Lib.hid hl
 have CW := Lib.hid hw0
 have H0 := Lib.hid h0
 have n2 : ((n : Int) == 2) = false := by simp; omega
 have n2' : (n == 2) = false := by simp; omega
 have i0 : (0 : Int) < (n : Int) := by omega
 have CT : Hid (∀ (g c : Nat) (W : World), GW w g c n L W → Calls Tryz.prog 31 #[.slice (some ⟨g, 0, none⟩) n c] W (SaysI W (storeG L))) := fun g c W hg => by
  have h := store04_any (some ⟨g, 0, none⟩) c L hs W hg.words
  rw [HL.out] at h
  exact h
 generalize storeG L = X0 at *
 obtain ⟨xo, xd, xs, xf, xm⟩ := X0
 clear hw0 hL hl hz h0 hs
 go_enter Tryz.func16, Tryz.ntmps16
 go_upto_region 2 with (go_at_call 26; refine CW.out.mono ?_; rintro e w1 ⟨V, rfl, hb, hst⟩; obtain ⟨g, c, rfl, hgw⟩ := words_gw hst hb HNE.out; have G := Lib.hid hgw; clear hb hst hgw; rw [HL.out] at G ⊢)
 have q0 : w1.cell? ⟨g, 0, none⟩ = some (.string a0) := H0.out ▸ G.out.word 0 (by omega)
 go_wp2_with (go_at_call 31; refine (CT.out _ _ _ G.out).mono ?_; rintro e w2 ⟨rfl, hb⟩; have G2 := Lib.hid (G.out.grow hb); clear hb)
 go_ret
 exact gis_one G2.out.below _ _ _ _ _
end Go.Proofs.YtemiklbkfogjeaaGreatDoor
