/-
  The law ScalarKeeps, walked.
-/
import Derived.Test.YtjkgbghikhbecaaDoorSProg
import Derived.Deep.CutRange
import Derived.Deep.LoopGhost
namespace Go.Proofs.YtjkgbghikhbecaaDoor
open Go Go.RowKit Go.Maps Tn
set_option linter.unusedVariables false
set_option linter.unusedSimpArgs false
set_option maxRecDepth 100000
abbrev u3T : TypeId := 45
abbrev u3 (a b c : B64) : Array Value := #[uv a, uv b, uv c]
theorem HL.setV {w W : World} {t : TypeId} {cs : Array Value} {s : SC} (h : HL w [(w.heap.size + 1, t, cs), (w.heap.size, scT, sC s)] W) (x : B64) : HL w [(w.heap.size + 1, t, cs), (w.heap.size, scT, sC ((x, s.1.2), s.2))] (W.setCell ⟨w.heap.size, 0, none⟩ (uv x)) := by
  obtain ⟨⟨h1, h2, _⟩, h3⟩ := h
  exact ⟨⟨h1.far (p := ⟨w.heap.size, 0, none⟩) (by show w.heap.size + 1 ≠ w.heap.size; omega) _, by simpa using h2.set_ 0 (uv x), trivial⟩, h3.setCell (p := ⟨w.heap.size, 0, none⟩) (Nat.le_refl _) _⟩
set_option maxHeartbeats 2000000 in
theorem keeps_any (s : SC) (n0 n1 n2 : B64) (w : World) (hE : Edges w) : Calls Tryd.prog 6 #[sv s, .agg (u3 n0 n1 n2)] w fun e w' => e = .returned (.bool true) ∧ Below w.heap.size w w' := by
  have F := Lib.hid (HL.two w scT u3T (sC s) (u3 n0 n1 n2))
  have CA := Lib.hid (fun W (hb : Below w.heap.size w W) => awake16 W (hE.below hb))
  clear hE
  have r2 := n64_andNot
  go_enter Tryd.func6, Tryd.ntmps6
  go_upto_region 1 with fail
  have hb := F.out
  clear F
  generalize (w.alloc (.cells #[uv s.1.1, uv s.1.2, uv s.2.1, uv s.2.2] scT)).alloc (.cells #[uv n0, uv n1, uv n2] u3T) = wz at *
  obtain ⟨c0, c1, c2, c3⟩ := hb.all.2.1.four
  obtain ⟨f0, f1, f2, f3⟩ := hb.all.2.1.soft4
  have HB := Lib.hid hb
  clear hb
  go_upto_region 2 with fail
  have hb := HB.out.setV (s.1.1 &&& ~~~s.1.2)
  generalize wz.setCell ⟨w.heap.size, 0, none⟩ (uv (s.1.1 &&& ~~~s.1.2)) = wa at *
  clear HB c0 c1 c2 c3 f0 f1 f2 f3 r2
  have hm : may (s.1.1 &&& ~~~s.1.2, s.1.2) := may_of _ _
  obtain ⟨u, hu⟩ : ∃ u : SC, ((s.1.1 &&& ~~~s.1.2, s.1.2), s.2) = u := ⟨_, rfl⟩
  have hmu : may u.1 := by rw [← hu]; exact hm
  rw [hu] at hb
  clear hu hm
  have MK := Lib.hid (tight_bool hmu)
  clear hmu
  have CT := Lib.hid (fun W => ps_tight u W)
  have CH := Lib.hid ps_has
  generalize tightV u = T at *
  generalize (tightS u).isSome = ok at *
  obtain ⟨c0, c1, c2, c3⟩ := hb.all.2.1.four
  have HB := Lib.hid hb
  clear hb
  go_upto_region 3 with (go_at_call 7; refine (CT.out _).mono ?_; rintro e w2 ⟨rfl, hb⟩; have HB2 := Lib.hid (HB.out.call hb); clear hb)
  have hb := HB2.out.push scT (sC T)
  clear c0 c1 c2 c3 HB HB2 CT
  generalize w2.heap.size = g5 at *
  generalize w2.alloc (.cells #[uv T.1.1, uv T.1.2, uv T.2.1, uv T.2.2] scT) = w3 at *
  have HB := Lib.hid hb
  clear hb
  go_wp2_with fail
  go_loopg [7] 3 (fun k s7 wr => ∃ i : Nat, i + k = 3 ∧ s7 = .int .i64 i ∧ HL w [(g5, scT, sC T), (w.heap.size + 1, u3T, u3 n0 n1 n2), (w.heap.size, scT, sC u)] wr)
  case atStart => exact ⟨0, by omega, rfl, HB.out⟩
  case round =>
    clear HB
    obtain ⟨i, hik, rfl, hb⟩ := hrel
    have HIK := Lib.hid hik
    have HB := Lib.hid hb
    by_cases hg : gk = 0
    · have hi : i = 3 := by omega
      subst hi
      clear hik hg hb
      go_wp2_with (go_at_call 16; refine (CA.out _ HB.out.below).mono ?_; rintro e w6 ⟨rfl, hb⟩; have HB := Lib.hid (HB.out.call hb); clear hb)
      go_ret
      exact ⟨rfl, HB.out.below⟩
    · have hi : i < 3 := by omega
      have mi : ∃ xi : B64, wr.cell? ⟨w.heap.size + 1, i, none⟩ = some (uv xi) := by
        obtain ⟨m0, m1, m2⟩ := hb.all.2.1.three
        rcases (show i = 0 ∨ i = 1 ∨ i = 2 by omega) with rfl | rfl | rfl
        · exact ⟨_, m0⟩
        · exact ⟨_, m1⟩
        · exact ⟨_, m2⟩
      obtain ⟨xi, mi⟩ := mi
      have g1 : decide ((i : Int) < 3) = true := decide_eq_true (by omega)
      have g2 : decide (i < 3) = true := decide_eq_true hi
      have e1 : IntKind.i64.wrap ((i : Int) + 1) = (i : Int) + 1 := by rw [IntKind.wrap_i64]; omega
      have HI := Lib.hid hi
      obtain ⟨c0, c1, c2, c3⟩ := hb.all.2.2.1.four
      clear hik hg hb
      go_upto_region 6 with fail
      go_cut [8] from 23 to 50 (fun s8 wc => s8 = uv xi ∧ wc = wr)
      case first =>
        go_wp2_with fail
        go_meet
        case rel => exact ⟨rfl, rfl⟩
      case rest =>
        obtain ⟨rfl, rfl⟩ := hcut
        clear mi hi
        obtain ⟨bb, hbb⟩ : ∃ b, ((i : Int) == 0) = b := ⟨_, rfl⟩
        go_upto_if 31 with fail
        clear hbb
        go_cut [8] from 23 to 50 (fun s8 wc => ∃ x : B64, s8 = uv x ∧ HL w [(g5, scT, sC T), (w.heap.size + 1, u3T, u3 n0 n1 n2), (w.heap.size, scT, sC u)] wc)
        case first =>
          clear g1 g2 e1
          cases bb
          · go_wp2_with fail
            go_meet
            case rel => exact ⟨xi, rfl, HB.out⟩
          · have r1 := n64_and xi u.1.2
            have r2 := n64_or u.1.1 (xi &&& u.1.2)
            go_wp2_with fail
            go_meet
            case rel => exact ⟨u.1.1 ||| (xi &&& u.1.2), rfl, HB.out⟩
        case rest =>
          obtain ⟨x, rfl, hb⟩ := hcut
          clear HB c0 c1 c2 c3
          have HB := Lib.hid hb
          obtain ⟨c0, c1, c2, c3⟩ := hb.all.2.2.1.four
          obtain ⟨d0, d1, d2, d3⟩ := hb.all.1.four
          clear hb
          have K := MK.out x
          cases h1 : decide (hasS u x) <;> cases h2 : decide (hasS T x) <;> cases ok <;> rw [h1, h2] at K
          all_goals
            first
            | exact absurd K (by decide)
            | (clear K
               go_wp2_with (go_at_call 17; refine (CH.out _ _ _).mono ?_; rintro e w6 ⟨rfl, hb⟩; have ha := HB.out.call hb; have cc := ha.all.2.2.1.four; obtain ⟨c0, c1, c2, c3⟩ := cc; have cc := ha.all.1.four; obtain ⟨d0, d1, d2, d3⟩ := cc; have HB := Lib.hid ha; clear ha hb)
               go_roundg (gk - 1)
               case measure => have := HIK.out; have := HI.out; omega
               case rel => exact ⟨i + 1, by have := HIK.out; have := HI.out; omega, by rw [Int.natCast_add]; rfl, HB.out⟩)
end Go.Proofs.YtjkgbghikhbecaaDoor
