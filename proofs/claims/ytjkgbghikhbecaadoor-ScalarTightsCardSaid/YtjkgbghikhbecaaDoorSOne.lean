/-
  Law 16's One.
-/
import Derived.Test.YtjkgbghikhbecaaDoorSWide
import Derived.Deep.LoopGhost
import Derived.Deep.RegionHeld3
namespace Go.Proofs.YtjkgbghikhbecaaDoor
open Go Go.RowKit Go.Maps Tn
set_option linter.unusedVariables false
set_option linter.unusedSimpArgs false
set_option maxRecDepth 100000
set_option maxHeartbeats 2000000 in
theorem one_any (s : SC) (n : B64) (w : World) : Calls Tryd.prog 24 #[sv s, uv n] w fun e w' => (∃ (x : B64) (ok : Bool), e = .returned (.tuple #[uv x, .bool ok]) ∧ (ok = true → hasS s x)) ∧ Below w.heap.size w w' := by
  have B := Lib.hid (HL.push (HL.start w) scT (sC s))
  have r1 := n64_and
  have r2 := n64_or
  go_enter Tryd.func24, Tryd.ntmps24
  go_upto_region 1 with fail
  have hb := B.out
  clear B
  generalize w.alloc (.cells #[uv s.1.1, uv s.1.2, uv s.2.1, uv s.2.2] scT) = wz at *
  obtain ⟨c0, c1, c2, c3⟩ := hb.all.1.four
  have HB := Lib.hid hb
  clear hb
  go_upto_region 2 with fail
  have hb := HB.out.push 22 #[uv (s.1.1 ||| n &&& s.1.2), uv s.2.1, uv s.2.2, uv s.1.1, uv (s.1.1 ||| s.1.2)]
  clear c0 c1 c2 c3 HB r1 r2
  generalize wz.heap.size = g1 at *
  generalize wz.alloc (.cells #[uv (s.1.1 ||| n &&& s.1.2), uv s.2.1, uv s.2.2, uv s.1.1, uv (s.1.1 ||| s.1.2)] 22) = w1 at *
  have HB := Lib.hid hb
  clear hb
  go_wp2_with fail
  go_loopg [7] 5 (fun k s7 wr => ∃ i : Nat, i + k = 5 ∧ s7 = .int .i64 i ∧ HL w [(g1, 22, #[uv (s.1.1 ||| n &&& s.1.2), uv s.2.1, uv s.2.2, uv s.1.1, uv (s.1.1 ||| s.1.2)]), (w.heap.size, scT, sC s)] wr)
  case atStart => exact ⟨0, by omega, rfl, HB.out⟩
  case round =>
    clear HB
    obtain ⟨i, hik, rfl, hb⟩ := hrel
    have HIK := Lib.hid hik
    have HB := Lib.hid hb
    by_cases hg : gk = 0
    · have g1' : decide ((i : Int) < 5) = false := decide_eq_false (by omega)
      have g2 : decide (i < 5) = false := decide_eq_false (by omega)
      clear hik hg hb
      go_wp2_with fail
      go_ret2
      exact ⟨⟨0, false, rfl, fun h => by cases h⟩, HB.out.below⟩
    · have hi : i < 5 := by omega
      have mi : ∃ xi : B64, ∀ W, HL w [(g1, 22, #[uv (s.1.1 ||| n &&& s.1.2), uv s.2.1, uv s.2.2, uv s.1.1, uv (s.1.1 ||| s.1.2)]), (w.heap.size, scT, sC s)] W → W.cell? ⟨g1, i, none⟩ = some (uv xi) := by
        rcases (show i = 0 ∨ i = 1 ∨ i = 2 ∨ i = 3 ∨ i = 4 by omega) with rfl | rfl | rfl | rfl | rfl
        · exact ⟨_, fun W h => h.all.1.cell 0⟩
        · exact ⟨_, fun W h => h.all.1.cell 1⟩
        · exact ⟨_, fun W h => h.all.1.cell 2⟩
        · exact ⟨_, fun W h => h.all.1.cell 3⟩
        · exact ⟨_, fun W h => h.all.1.cell 4⟩
      obtain ⟨xi, mi⟩ := mi
      have MI := Lib.hid mi
      have g3 : decide ((i : Int) < 5) = true := decide_eq_true (by omega)
      have g2 : decide (i < 5) = true := decide_eq_true hi
      have e1 : IntKind.i64.wrap ((i : Int) + 1) = (i : Int) + 1 := by rw [IntKind.wrap_i64]; omega
      have i1 : (i : Int) < 5 := by omega
      have key : ∀ W, HL w [(g1, 22, #[uv (s.1.1 ||| n &&& s.1.2), uv s.2.1, uv s.2.2, uv s.1.1, uv (s.1.1 ||| s.1.2)]), (w.heap.size, scT, sC s)] W → (W.cell? ⟨w.heap.size, 0, none⟩ = some (uv s.1.1) ∧ W.cell? ⟨w.heap.size, 1, none⟩ = some (uv s.1.2) ∧ W.cell? ⟨w.heap.size, 2, none⟩ = some (uv s.2.1) ∧ W.cell? ⟨w.heap.size, 3, none⟩ = some (uv s.2.2)) ∧ W.cell? ⟨g1, i, none⟩ = some (uv xi) := fun W h => ⟨h.all.2.1.four, mi W h⟩
      have KEY := Lib.hid key
      have S0 := Lib.hid (key _ hb)
      obtain ⟨⟨c0, c1, c2, c3⟩, m0⟩ := key _ hb
      have CH := Lib.hid (fun W => xs_has s xi W)
      clear mi key hb hik hg
      obtain ⟨bb, hbb⟩ : ∃ b, decide (hasS s xi) = b := ⟨_, rfl⟩
      rw [hbb] at CH
      have HBB := Lib.hid hbb
      clear hbb
      go_upto_region 5 with fail
      go_region_held3 (fun W => (W.cell? ⟨w.heap.size, 0, none⟩ = some (uv s.1.1) ∧ W.cell? ⟨w.heap.size, 1, none⟩ = some (uv s.1.2) ∧ W.cell? ⟨w.heap.size, 2, none⟩ = some (uv s.2.1) ∧ W.cell? ⟨w.heap.size, 3, none⟩ = some (uv s.2.2)) ∧ W.cell? ⟨g1, i, none⟩ = some (uv xi))
        (first | exact S0.out)
        (first
          | (go_at_call 18; refine (CH.out _).mono ?_; rintro e w10 ⟨rfl, hb⟩; have ha := (by first | exact HB.out.call hb | exact (HB.out.keeps (keeps_drewN _ _)).call hb | exact (HB.out.keeps (keeps_drew _)).call hb); have HB := Lib.hid ha; have S0 := Lib.hid (KEY.out _ ha); clear ha hb))
      have S1 := S0.out
      obtain ⟨⟨c0, c1, c2, c3⟩, m0⟩ := S1
      cases bb
      · go_wp2_with fail
        go_roundg (gk - 1)
        case measure => have := HIK.out; omega
        case rel => exact ⟨i + 1, by have := HIK.out; omega, by rw [Int.natCast_add]; rfl, HB.out⟩
      · go_wp2_with fail
        go_ret2
        exact ⟨⟨xi, true, rfl, fun _ => of_decide_eq_true HBB.out⟩, HB.out.below⟩
end Go.Proofs.YtjkgbghikhbecaaDoor
