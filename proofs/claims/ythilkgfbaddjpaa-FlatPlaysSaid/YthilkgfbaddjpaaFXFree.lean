/-
  Package flat: Free.
-/
import Derived.Test.YthilkgfbaddjpaaFXPut
namespace Go.Proofs.Ythilkgfbaddjpaa
open Go Go.RowKit Go.Maps
set_option linter.unusedVariables false
set_option linter.unusedSimpArgs false
set_option maxRecDepth 100000
/-- What Free leaves. -/
structure XFree (w : World) (S : Nat → Prop) (bm x : Nat) (m : PS) (S' : Nat → Prop) (w' : World) : Prop where
  side : KSide w' S' bm m
  map : Blk w' x 77 goneC
  keeps : Keeps (fun b => S b ∨ b = x) w w'
  sub : ∀ b, S' b → S b ∨ w.heap.size ≤ b
def wiped (w : World) (x : Nat) : World := (((((w.setCell ⟨x, 0, none⟩ (.pointer none)).setCell ⟨x, 1, none⟩ (.int .i64 0)).setCell ⟨x, 2, none⟩ (.int .i64 0)).setCell ⟨x, 3, none⟩ (.int .i64 0)).setCell ⟨x, 4, none⟩ (.int .i64 0)).setCell ⟨x, 5, none⟩ .nilIface
theorem wiped_blk {w : World} {x : Nat} {a0 a1 a2 a3 a4 a5 : Value} (h : Blk w x 77 #[a0, a1, a2, a3, a4, a5]) : Blk (wiped w x) x 77 goneC := by
  have := (((((h.set_ 0 (.pointer none)).set_ 1 (.int .i64 0)).set_ 2 (.int .i64 0)).set_ 3 (.int .i64 0)).set_ 4 (.int .i64 0)).set_ 5 .nilIface
  simpa [wiped] using this
theorem wiped_keeps (w : World) (x : Nat) : Keeps (fun b => b = x) w (wiped w x) := by
  have f : ∀ (w' : World) (i : Nat) (u : Value), Keeps (fun b => b = x) w w' → Keeps (fun b => b = x) w (w'.setCell ⟨x, i, none⟩ u) := fun w' i u h => h.setCell (p := ⟨x, i, none⟩) (.inl rfl) u
  exact f _ _ _ (f _ _ _ (f _ _ _ (f _ _ _ (f _ _ _ (f _ _ _ (Keeps.refl _ w))))))
theorem wiped_free {w w1 w2 : World} {S S2 : Nat → Prop} {bm x : Nat} {m : PS} {a0 a1 a2 a3 a4 a5 : Value} (hx : x < w.heap.size) (nx : ¬ S x) (k1 : Keeps (fun _ => False) w w1) (h : KS w1 S bm m S2 w2) (hb : Blk w2 x 77 #[a0, a1, a2, a3, a4, a5]) : XFree w S bm x m S2 (wiped w2 x) where
  side := h.1.keeps' (wiped_keeps w2 x) (fun b hs e => by
    subst e
    rcases h.2.2 b hs with hs | hs
    · exact nx hs
    · have := k1.size; omega)
  map := wiped_blk hb
  keeps := ((k1.mono fun _ hf => hf.elim).trans (h.2.1.mono fun b hs => .inl (.inl hs))).trans ((wiped_keeps w2 x).mono fun b e => .inl (.inr e))
  sub := fun b hs => (h.2.2 b hs).imp id fun hz => Nat.le_trans k1.size hz
section
variable {w : World} {S : Nat → Prop} {bm : Nat}
set_option maxHeartbeats 2000000 in
theorem xfree_ok_s  (v mx : Int) (x : Nat) (z : Nat → List UInt8) (mn fn : Nat) (hk : KSide w S bm ⟨mn, fn, rng 0 1 z⟩) (h : Blk w x 77 (mapC bm 2 v mx (sharedV (addr 1 0)))) (nx : ¬ S x) :
    Calls Try.prog 24 #[.pointer (some ⟨x, 0, none⟩)] w fun e w' => e = .returned (.int .i64 0) ∧ ∃ S', XFree w S bm x ⟨mn, fn, rng 1 1 z⟩ S' w' := by
  have CG := Lib.hid (gone_no _ _ _ _ _ _ _ h)
  have CA := Lib.hid (sall_any (addr 1 0) w.drew)
  have mA := mAllS
  have HF := Lib.hid hk
  have HM := Lib.hid h
  have NX := Lib.hid nx
  have S0 : Hid (w.cell? ⟨x, 0, none⟩ = some (.pointer (some ⟨bm, 0, none⟩)) ∧ w.cell? ⟨x, 5, none⟩ = some (sharedV (addr 1 0))) := ⟨h.cell 0, h.cell 5⟩
  clear h hk nx 
  go_enter Try.func24, Try.ntmps24
  go_upto_region 3 with (go_at_call 43; refine CG.out.mono ?_; rintro e w' ⟨rfl, rfl⟩)
  go_region_held3 (fun W => W.cell? ⟨x, 0, none⟩ = some (.pointer (some ⟨bm, 0, none⟩)) ∧ W.cell? ⟨x, 5, none⟩ = some (sharedV (addr 1 0)))
    (first | exact S0.out | exact S1.out | exact S2.out)
    (first
      | (go_at_call 114; refine CA.out.mono ?_; rintro e w1 ⟨g, rfl, hb, hg, hk⟩; have B1 := Lib.hid (keeps_drew_grow hb); have HG := Lib.hid hg; have HK := Lib.hid hk; have HM1 := Lib.hid (HM.out.keeps B1.out (fun hf => hf.elim)); clear hb hg hk; have S1 : Hid (w1.cell? ⟨x, 0, none⟩ = some (.pointer (some ⟨bm, 0, none⟩)) ∧ w1.cell? ⟨x, 5, none⟩ = some (sharedV (addr 1 0))) := ⟨HM1.out.cell 0, HM1.out.cell 5⟩)
      | (go_at_call 49; refine (ffree mn fn 1 1 z (by decide) _ (HF.out.keeps' B1.out (fun _ _ hf => hf)) (fun i hi => by obtain rfl : i = 0 := (by omega); exact ⟨g, rfl, HK.out.lt, fun hs => by have := HF.out.lt' g hs; have := HG.out; have e : w.drew.heap.size = w.heap.size := rfl; omega, HK.out.cell 0⟩)).mono ?_; rintro e w2 ⟨rfl, S2', hk2⟩; have HK2 := Lib.hid hk2; have HM2 := Lib.hid (HM1.out.keeps hk2.2.1 NX.out); have S2 : Hid (w2.cell? ⟨x, 0, none⟩ = some (.pointer (some ⟨bm, 0, none⟩)) ∧ w2.cell? ⟨x, 5, none⟩ = some (sharedV (addr 1 0))) := ⟨HM2.out.cell 0, HM2.out.cell 5⟩; clear hk2))
  have d0 := HM2.out.cell 0
  have d1 := HM2.out.cell 1
  have d2 := HM2.out.cell 2
  have d3 := HM2.out.cell 3
  have d4 := HM2.out.cell 4
  have d5 := HM2.out.cell 5
  have z0 := HM2.out.frozen 0
  have z1 := HM2.out.frozen 1
  have z2 := HM2.out.frozen 2
  have z3 := HM2.out.frozen 3
  have z4 := HM2.out.frozen 4
  have z5 := HM2.out.frozen 5
  clear S0 S1 S2 mA CA
  go_wp2_with fail
  go_ret
  exact ⟨rfl, S2', wiped_free HM.out.lt NX.out B1.out HK2.out HM2.out⟩
set_option maxHeartbeats 2000000 in
theorem xfree_ok_e (g n cc : Nat) (hn8 : n ≤ 8) (gl : g < w.heap.size) (ng : ¬ S g) (hgc : ∀ i, i < n → w.cell? ⟨g, i, none⟩ = some (.int .u64 (addr (i + 1) 0))) (v mx : Int) (x : Nat) (z : Nat → List UInt8) (mn fn : Nat) (hk : KSide w S bm ⟨mn, fn, rng 0 n z⟩) (h : Blk w x 77 (mapC bm 6 v mx (eachV (some ⟨g, 0, none⟩) n cc))) (nx : ¬ S x) :
    Calls Try.prog 24 #[.pointer (some ⟨x, 0, none⟩)] w fun e w' => e = .returned (.int .i64 0) ∧ ∃ S', XFree w S bm x ⟨mn, fn, rng n n z⟩ S' w' := by
  have CG := Lib.hid (gone_no _ _ _ _ _ _ _ h)
  have CA := Lib.hid (eall_any (some ⟨g, 0, none⟩) n cc w.drew)
  have HGL := Lib.hid (And.intro gl (And.intro ng (And.intro hn8 hgc)))
  have mA := mAllE
  have HF := Lib.hid hk
  have HM := Lib.hid h
  have NX := Lib.hid nx
  have S0 : Hid (w.cell? ⟨x, 0, none⟩ = some (.pointer (some ⟨bm, 0, none⟩)) ∧ w.cell? ⟨x, 5, none⟩ = some (eachV (some ⟨g, 0, none⟩) n cc)) := ⟨h.cell 0, h.cell 5⟩
  clear h hk nx hn8 gl ng hgc
  go_enter Try.func24, Try.ntmps24
  go_upto_region 3 with (go_at_call 43; refine CG.out.mono ?_; rintro e w' ⟨rfl, rfl⟩)
  go_region_held3 (fun W => W.cell? ⟨x, 0, none⟩ = some (.pointer (some ⟨bm, 0, none⟩)) ∧ W.cell? ⟨x, 5, none⟩ = some (eachV (some ⟨g, 0, none⟩) n cc))
    (first | exact S0.out | exact S1.out | exact S2.out)
    (first
      | (go_at_call 111; refine CA.out.mono ?_; rintro e w1 ⟨rfl, hb⟩; have B1 := Lib.hid (keeps_drew_grow hb); have HM1 := Lib.hid (HM.out.keeps B1.out (fun hf => hf.elim)); clear hb; have S1 : Hid (w1.cell? ⟨x, 0, none⟩ = some (.pointer (some ⟨bm, 0, none⟩)) ∧ w1.cell? ⟨x, 5, none⟩ = some (eachV (some ⟨g, 0, none⟩) n cc)) := ⟨HM1.out.cell 0, HM1.out.cell 5⟩)
      | (go_at_call 49; refine (ffree mn fn n cc z HGL.out.2.2.1 _ (HF.out.keeps' B1.out (fun _ _ hf => hf)) (fun i hi => ⟨g, rfl, Nat.lt_of_lt_of_le HGL.out.1 B1.out.size, HGL.out.2.1, (World.cell?_of_block (B1.out.block g HGL.out.1 (fun hf => hf))).trans (HGL.out.2.2.2 i hi)⟩)).mono ?_; rintro e w2 ⟨rfl, S2', hk2⟩; have HK2 := Lib.hid hk2; have HM2 := Lib.hid (HM1.out.keeps hk2.2.1 NX.out); have S2 : Hid (w2.cell? ⟨x, 0, none⟩ = some (.pointer (some ⟨bm, 0, none⟩)) ∧ w2.cell? ⟨x, 5, none⟩ = some (eachV (some ⟨g, 0, none⟩) n cc)) := ⟨HM2.out.cell 0, HM2.out.cell 5⟩; clear hk2))
  have d0 := HM2.out.cell 0
  have d1 := HM2.out.cell 1
  have d2 := HM2.out.cell 2
  have d3 := HM2.out.cell 3
  have d4 := HM2.out.cell 4
  have d5 := HM2.out.cell 5
  have z0 := HM2.out.frozen 0
  have z1 := HM2.out.frozen 1
  have z2 := HM2.out.frozen 2
  have z3 := HM2.out.frozen 3
  have z4 := HM2.out.frozen 4
  have z5 := HM2.out.frozen 5
  clear S0 S1 S2 mA CA
  go_wp2_with fail
  go_ret
  exact ⟨rfl, S2', wiped_free HM.out.lt NX.out B1.out HK2.out HM2.out⟩
end
end Go.Proofs.Ythilkgfbaddjpaa
