/-
  Layer 6, the reference's reader, plainly: there and back.
-/
import Derived.Test.YtmfdojmecpdikaaCMath
namespace Go.Proofs.Ytmfdojmecpdikaa
open Go Go.RowKit
set_option linter.unusedVariables false
set_option linter.unusedSimpArgs false
set_option maxRecDepth 100000
theorem qparse_build (l : List Ty) (more : List UInt8) (hall : l.all mayB = true) (hlen : l.length ≤ 1024) : qparseF (buildF l ++ more) = some l := by
  obtain ⟨W, hW⟩ : ∃ W, W = l.foldl putW newW := ⟨_, rfl⟩
  obtain ⟨s1, s2⟩ := all_size l newW hall
  obtain ⟨x, hx⟩ := all_pre l newW
  have hP := all_ok l newW new_ok
  have hts := all_ts (fun s => (findE (l.foldl putW newW).es s).getD 0) l newW (fun s p h => by simp [h])
  rw [← hW] at s1 s2 hx hP hts
  have n1 : W.ns.length < 4294967296 := by have : newW.ns.length = 1 := rfl; omega
  have n2 : W.ts.length < 4294967296 := by have : newW.ts.length = 0 := rfl; omega
  have hb : buildF l ++ more = opening ++ (le4 0 ++ (le4 W.ts.length ++ (le4 W.ts.length ++ (le4 W.ns.length ++ (W.ts ++ (W.ns ++ more)))))) := by
    unfold buildF blobW; rw [← hW]; simp [le4s]
  rw [hb]
  have d8 : ∀ r : List UInt8, (opening ++ r).drop 8 = r := fun r => rfl
  have d12 : ∀ (a : Int) (r : List UInt8), (opening ++ (le4 a ++ r)).drop 12 = r := fun a r => rfl
  have d16 : ∀ (a b : Int) (r : List UInt8), (opening ++ (le4 a ++ (le4 b ++ r))).drop 16 = r := fun a b r => rfl
  have d20 : ∀ (a b c : Int) (r : List UInt8), (opening ++ (le4 a ++ (le4 b ++ (le4 c ++ r)))).drop 20 = r := fun a b c r => rfl
  have d24 : ∀ (a b c d : Int) (r : List UInt8), (opening ++ (le4 a ++ (le4 b ++ (le4 c ++ (le4 d ++ r))))).drop 24 = r := fun a b c d r => rfl
  have t8 : ∀ r : List UInt8, (opening ++ r).take 8 = opening := fun r => rfl
  have p1 : partOf (W.ts ++ (W.ns ++ more)) 0 W.ts.length = W.ts := by
    unfold partOf; simp
  have p2 : partOf (W.ts ++ (W.ns ++ more)) W.ts.length W.ns.length = W.ns := by
    unfold partOf; simp
  have hns : ∃ y, W.ns = 0 :: y := ⟨x, by rw [hx]; rfl⟩
  unfold qparseF
  have ho : openB (opening ++ (le4 0 ++ (le4 W.ts.length ++ (le4 W.ts.length ++ (le4 W.ns.length ++ (W.ts ++ (W.ns ++ more))))))) = true := by
    unfold openB
    rw [d8, d12, d16, d20, d24, t8, num4_le4 0 (by omega) (by omega), num4_le4 _ (by omega) (by omega), num4_le4 _ (by omega) (by omega), num4_le4 _ (by omega) (by omega), p2]
    obtain ⟨y, hy⟩ := hns
    have e1 : liesIn (W.ts ++ (W.ns ++ more)) 0 W.ts.length = true := by simp [liesIn]; omega
    have e2 : liesIn (W.ts ++ (W.ns ++ more)) W.ts.length W.ns.length = true := by simp [liesIn]; omega
    rw [e1, e2, hy]
    simp [opening, le4_length, headZero]
    omega
  rw [if_pos ho]
  unfold openV
  rw [d8, d12, d16, d20, d24, num4_le4 0 (by omega) (by omega), num4_le4 _ (by omega) (by omega), num4_le4 _ (by omega) (by omega), num4_le4 _ (by omega) (by omega), p1, p2]
  have ht := hts.1
  rw [show newW.ts = [] from rfl, List.nil_append] at ht
  have fin := qtypes_at (fun s => (findE W.es s).getD 0) W.ns l (W.ts.length + 1) [] hall (by simpa using hlen) (by rw [← ht]; exact Nat.lt_succ_self _) (fun t htl => by
    obtain ⟨g1, g2⟩ := hts.2 t htl
    refine ⟨?_, fun m hm => ?_⟩
    · obtain ⟨k1, k2⟩ := hP _ _ g1
      exact ⟨by omega, k1⟩
    · obtain ⟨k1, k2⟩ := hP _ _ (g2 m hm)
      exact ⟨by omega, k1⟩)
  rw [← ht] at fin
  simpa using fin
end Go.Proofs.Ytmfdojmecpdikaa
