/-
  Layer 6: whether a type may be.
-/
import Derived.Test.YtmfdojmecpdikaaBNameFn
import Derived.Deep.QuietTactic
import Derived.BigQuiet
import Derived.Deep.Cut
namespace Go.Proofs.Ytmfdojmecpdikaa
open Go Go.RowKit
set_option linter.unusedVariables false
set_option linter.unusedSimpArgs false
set_option maxRecDepth 100000
set_option maxHeartbeats 4000000 in
theorem may_any (A : Option Addr) (c : Nat) (t : Ty) (hlen : t.mems.length ≤ 9223372036854775807) (hsz : t.name.size ≤ 9223372036854775807) (w : World) (h : MemsAt w A t.mems) :
    Calls Try.prog 11 #[tyV t (.slice A t.mems.length c)] w fun e w' => e = .returned (.bool (mayB t)) ∧ Below w.heap.size w w' := by
  rw [may_eq, kind_eq]
  have CN := Lib.hid (fun w => nameFn_any t.name hsz w)
  have C1 := Lib.hid (fun w => fits_any t.size w)
  have C2 := Lib.hid (fun w => fits_any t.ty w)
  have C3 := Lib.hid (fun w => fits_any t.count w)
  have CS := Lib.hid (fun w => sized_any t.size w)
  have HML := Lib.hid hlen
  have HMA := Lib.hid h
  have hbk : Blk (w.alloc (.cells #[.int .i64 t.kind, .string t.name, .int .i64 t.size, .int .i64 t.ty, .int .i64 t.count, .slice A t.mems.length c] 36)) w.heap.size 36 #[.int .i64 t.kind, .string t.name, .int .i64 t.size, .int .i64 t.ty, .int .i64 t.count, .slice A t.mems.length c] := Blk.new _ _ _
  have HBK := Lib.hid hbk
  have HBB : Hid (Below w.heap.size w (w.alloc (.cells #[.int .i64 t.kind, .string t.name, .int .i64 t.size, .int .i64 t.ty, .int .i64 t.count, .slice A t.mems.length c] 36))) := (Below.refl _ w).alloc (Nat.le_refl _) _
  have i5 : (t.mems.length : Int) ≤ 9223372036854775807 := by omega
  have HMB : Hid (∃ mb, membersB t.mems = mb) := ⟨_, rfl⟩
  obtain ⟨mb, hmb⟩ := HMB.out
  clear HMB
  have HMB := Lib.hid hmb
  rw [hmb]
  clear h hbk hlen hsz hmb
  unfold tyV
  generalize nameB t.name = nb at *
  generalize fitsB t.size = f1 at *
  generalize fitsB t.ty = f2 at *
  generalize fitsB t.count = f3 at *
  cases nb
  · go_enter Try.func11, Try.ntmps11
    go_wp2_with (first
      | (go_at_call 21; refine (CN.out _).mono ?_; rintro e w1 ⟨rfl, hb1⟩; have HB1 := Lib.hid (HBB.out.trans (hb1.mono HBB.out.size)); have HK1 := Lib.hid (HBK.out.below_ hb1); have d2 : w1.cell? ⟨w.heap.size, 2, none⟩ = some (.int .i64 t.size) := HK1.out.cell 2; have d3 : w1.cell? ⟨w.heap.size, 3, none⟩ = some (.int .i64 t.ty) := HK1.out.cell 3; have d4 : w1.cell? ⟨w.heap.size, 4, none⟩ = some (.int .i64 t.count) := HK1.out.cell 4; have d5 : w1.cell? ⟨w.heap.size, 5, none⟩ = some (.slice A t.mems.length c) := HK1.out.cell 5; clear hb1)
      | (go_at_call 24; first
        | (have tk := tok3; refine (C3.out _).mono ?_; rintro e w4 ⟨rfl, rfl⟩)
        | (have tk := tok2; refine (C2.out _).mono ?_; rintro e w3 ⟨rfl, rfl⟩; have tok3 := True.intro; clear tok2)
        | (refine (C1.out _).mono ?_; rintro e w2 ⟨rfl, rfl⟩; have tok2 := True.intro))
      | (go_at_call 25; refine (members_any A c t.mems HML.out _ (HMA.out.below HB1.out)).mono ?_; rw [HMB.out]; rintro e w5 ⟨rfl, hb5⟩; have HB5 := Lib.hid (HB1.out.trans (hb5.mono HB1.out.size)); have HK5 := Lib.hid (HK1.out.below_ hb5); have k1 : w5.cell? ⟨w.heap.size, 1, none⟩ = some (.string t.name) := HK5.out.cell 1; have k5 : w5.cell? ⟨w.heap.size, 5, none⟩ = some (.slice A t.mems.length c) := HK5.out.cell 5; clear hb5))
    go_ret
    exact ⟨rfl, HB1.out⟩
  · cases f1
    · go_enter Try.func11, Try.ntmps11
      go_wp2_with (first
        | (go_at_call 21; refine (CN.out _).mono ?_; rintro e w1 ⟨rfl, hb1⟩; have HB1 := Lib.hid (HBB.out.trans (hb1.mono HBB.out.size)); have HK1 := Lib.hid (HBK.out.below_ hb1); have d2 : w1.cell? ⟨w.heap.size, 2, none⟩ = some (.int .i64 t.size) := HK1.out.cell 2; have d3 : w1.cell? ⟨w.heap.size, 3, none⟩ = some (.int .i64 t.ty) := HK1.out.cell 3; have d4 : w1.cell? ⟨w.heap.size, 4, none⟩ = some (.int .i64 t.count) := HK1.out.cell 4; have d5 : w1.cell? ⟨w.heap.size, 5, none⟩ = some (.slice A t.mems.length c) := HK1.out.cell 5; clear hb1)
        | (go_at_call 24; first
          | (have tk := tok3; refine (C3.out _).mono ?_; rintro e w4 ⟨rfl, rfl⟩)
          | (have tk := tok2; refine (C2.out _).mono ?_; rintro e w3 ⟨rfl, rfl⟩; have tok3 := True.intro; clear tok2)
          | (refine (C1.out _).mono ?_; rintro e w2 ⟨rfl, rfl⟩; have tok2 := True.intro))
        | (go_at_call 25; refine (members_any A c t.mems HML.out _ (HMA.out.below HB1.out)).mono ?_; rw [HMB.out]; rintro e w5 ⟨rfl, hb5⟩; have HB5 := Lib.hid (HB1.out.trans (hb5.mono HB1.out.size)); have HK5 := Lib.hid (HK1.out.below_ hb5); have k1 : w5.cell? ⟨w.heap.size, 1, none⟩ = some (.string t.name) := HK5.out.cell 1; have k5 : w5.cell? ⟨w.heap.size, 5, none⟩ = some (.slice A t.mems.length c) := HK5.out.cell 5; clear hb5))
      go_ret
      exact ⟨rfl, HB1.out⟩
    · cases f2
      · go_enter Try.func11, Try.ntmps11
        go_wp2_with (first
          | (go_at_call 21; refine (CN.out _).mono ?_; rintro e w1 ⟨rfl, hb1⟩; have HB1 := Lib.hid (HBB.out.trans (hb1.mono HBB.out.size)); have HK1 := Lib.hid (HBK.out.below_ hb1); have d2 : w1.cell? ⟨w.heap.size, 2, none⟩ = some (.int .i64 t.size) := HK1.out.cell 2; have d3 : w1.cell? ⟨w.heap.size, 3, none⟩ = some (.int .i64 t.ty) := HK1.out.cell 3; have d4 : w1.cell? ⟨w.heap.size, 4, none⟩ = some (.int .i64 t.count) := HK1.out.cell 4; have d5 : w1.cell? ⟨w.heap.size, 5, none⟩ = some (.slice A t.mems.length c) := HK1.out.cell 5; clear hb1)
          | (go_at_call 24; first
            | (have tk := tok3; refine (C3.out _).mono ?_; rintro e w4 ⟨rfl, rfl⟩)
            | (have tk := tok2; refine (C2.out _).mono ?_; rintro e w3 ⟨rfl, rfl⟩; have tok3 := True.intro; clear tok2)
            | (refine (C1.out _).mono ?_; rintro e w2 ⟨rfl, rfl⟩; have tok2 := True.intro))
          | (go_at_call 25; refine (members_any A c t.mems HML.out _ (HMA.out.below HB1.out)).mono ?_; rw [HMB.out]; rintro e w5 ⟨rfl, hb5⟩; have HB5 := Lib.hid (HB1.out.trans (hb5.mono HB1.out.size)); have HK5 := Lib.hid (HK1.out.below_ hb5); have k1 : w5.cell? ⟨w.heap.size, 1, none⟩ = some (.string t.name) := HK5.out.cell 1; have k5 : w5.cell? ⟨w.heap.size, 5, none⟩ = some (.slice A t.mems.length c) := HK5.out.cell 5; clear hb5))
        go_ret
        exact ⟨rfl, HB1.out⟩
      · cases f3
        · go_enter Try.func11, Try.ntmps11
          go_wp2_with (first
            | (go_at_call 21; refine (CN.out _).mono ?_; rintro e w1 ⟨rfl, hb1⟩; have HB1 := Lib.hid (HBB.out.trans (hb1.mono HBB.out.size)); have HK1 := Lib.hid (HBK.out.below_ hb1); have d2 : w1.cell? ⟨w.heap.size, 2, none⟩ = some (.int .i64 t.size) := HK1.out.cell 2; have d3 : w1.cell? ⟨w.heap.size, 3, none⟩ = some (.int .i64 t.ty) := HK1.out.cell 3; have d4 : w1.cell? ⟨w.heap.size, 4, none⟩ = some (.int .i64 t.count) := HK1.out.cell 4; have d5 : w1.cell? ⟨w.heap.size, 5, none⟩ = some (.slice A t.mems.length c) := HK1.out.cell 5; clear hb1)
            | (go_at_call 24; first
              | (have tk := tok3; refine (C3.out _).mono ?_; rintro e w4 ⟨rfl, rfl⟩)
              | (have tk := tok2; refine (C2.out _).mono ?_; rintro e w3 ⟨rfl, rfl⟩; have tok3 := True.intro; clear tok2)
              | (refine (C1.out _).mono ?_; rintro e w2 ⟨rfl, rfl⟩; have tok2 := True.intro))
            | (go_at_call 25; refine (members_any A c t.mems HML.out _ (HMA.out.below HB1.out)).mono ?_; rw [HMB.out]; rintro e w5 ⟨rfl, hb5⟩; have HB5 := Lib.hid (HB1.out.trans (hb5.mono HB1.out.size)); have HK5 := Lib.hid (HK1.out.below_ hb5); have k1 : w5.cell? ⟨w.heap.size, 1, none⟩ = some (.string t.name) := HK5.out.cell 1; have k5 : w5.cell? ⟨w.heap.size, 5, none⟩ = some (.slice A t.mems.length c) := HK5.out.cell 5; clear hb5))
          go_ret
          exact ⟨rfl, HB1.out⟩
        · cases mb
          · go_enter Try.func11, Try.ntmps11
            go_wp2_with (first
              | (go_at_call 21; refine (CN.out _).mono ?_; rintro e w1 ⟨rfl, hb1⟩; have HB1 := Lib.hid (HBB.out.trans (hb1.mono HBB.out.size)); have HK1 := Lib.hid (HBK.out.below_ hb1); have d2 : w1.cell? ⟨w.heap.size, 2, none⟩ = some (.int .i64 t.size) := HK1.out.cell 2; have d3 : w1.cell? ⟨w.heap.size, 3, none⟩ = some (.int .i64 t.ty) := HK1.out.cell 3; have d4 : w1.cell? ⟨w.heap.size, 4, none⟩ = some (.int .i64 t.count) := HK1.out.cell 4; have d5 : w1.cell? ⟨w.heap.size, 5, none⟩ = some (.slice A t.mems.length c) := HK1.out.cell 5; clear hb1)
              | (go_at_call 24; first
                | (have tk := tok3; refine (C3.out _).mono ?_; rintro e w4 ⟨rfl, rfl⟩)
                | (have tk := tok2; refine (C2.out _).mono ?_; rintro e w3 ⟨rfl, rfl⟩; have tok3 := True.intro; clear tok2)
                | (refine (C1.out _).mono ?_; rintro e w2 ⟨rfl, rfl⟩; have tok2 := True.intro))
              | (go_at_call 25; refine (members_any A c t.mems HML.out _ (HMA.out.below HB1.out)).mono ?_; rw [HMB.out]; rintro e w5 ⟨rfl, hb5⟩; have HB5 := Lib.hid (HB1.out.trans (hb5.mono HB1.out.size)); have HK5 := Lib.hid (HK1.out.below_ hb5); have k1 : w5.cell? ⟨w.heap.size, 1, none⟩ = some (.string t.name) := HK5.out.cell 1; have k5 : w5.cell? ⟨w.heap.size, 5, none⟩ = some (.slice A t.mems.length c) := HK5.out.cell 5; clear hb5))
            go_ret
            exact ⟨rfl, HB5.out⟩
          · go_enter Try.func11, Try.ntmps11
            go_upto_region 3 with (first
              | (go_at_call 21; refine (CN.out _).mono ?_; rintro e w1 ⟨rfl, hb1⟩; have HB1 := Lib.hid (HBB.out.trans (hb1.mono HBB.out.size)); have HK1 := Lib.hid (HBK.out.below_ hb1); have d2 : w1.cell? ⟨w.heap.size, 2, none⟩ = some (.int .i64 t.size) := HK1.out.cell 2; have d3 : w1.cell? ⟨w.heap.size, 3, none⟩ = some (.int .i64 t.ty) := HK1.out.cell 3; have d4 : w1.cell? ⟨w.heap.size, 4, none⟩ = some (.int .i64 t.count) := HK1.out.cell 4; have d5 : w1.cell? ⟨w.heap.size, 5, none⟩ = some (.slice A t.mems.length c) := HK1.out.cell 5; clear hb1)
              | (go_at_call 24; first
                | (have tk := tok3; refine (C3.out _).mono ?_; rintro e w4 ⟨rfl, rfl⟩)
                | (have tk := tok2; refine (C2.out _).mono ?_; rintro e w3 ⟨rfl, rfl⟩; have tok3 := True.intro; clear tok2)
                | (refine (C1.out _).mono ?_; rintro e w2 ⟨rfl, rfl⟩; have tok2 := True.intro))
              | (go_at_call 25; refine (members_any A c t.mems HML.out _ (HMA.out.below HB1.out)).mono ?_; rw [HMB.out]; rintro e w5 ⟨rfl, hb5⟩; have HB5 := Lib.hid (HB1.out.trans (hb5.mono HB1.out.size)); have HK5 := Lib.hid (HK1.out.below_ hb5); have k1 : w5.cell? ⟨w.heap.size, 1, none⟩ = some (.string t.name) := HK5.out.cell 1; have k5 : w5.cell? ⟨w.heap.size, 5, none⟩ = some (.slice A t.mems.length c) := HK5.out.cell 5; clear hb5))
            go_quiet (fail)
            generalize hW : World.drewN _ _ = W
            have hbW : Below w.heap.size w W := by rw [← hW]; exact ⟨HB5.out.os, HB5.out.tape, HB5.out.output, HB5.out.size, HB5.out.block⟩
            have hkW : Blk W w.heap.size 36 #[.int .i64 t.kind, .string t.name, .int .i64 t.size, .int .i64 t.ty, .int .i64 t.count, .slice A t.mems.length c] := by rw [← hW]; exact HK5.out
            have HBW := Lib.hid hbW
            have q0 : W.cell? ⟨w.heap.size, 0, none⟩ = some (.int .i64 t.kind) := hkW.cell 0
            have q2 : W.cell? ⟨w.heap.size, 2, none⟩ = some (.int .i64 t.size) := hkW.cell 2
            have q3 : W.cell? ⟨w.heap.size, 3, none⟩ = some (.int .i64 t.ty) := hkW.cell 3
            have q4 : W.cell? ⟨w.heap.size, 4, none⟩ = some (.int .i64 t.count) := hkW.cell 4
            clear hW hbW hkW k1 k5 d2 d3 d4 d5 HB1 HB5 HK1 HK5
            generalize w.heap.size = Bx at q0 q2 q3 q4 ⊢
            by_cases k1 : t.kind = 1
            · rw [k1] at q0
              cases hn : t.name.toList.isEmpty
              · cases hz : sizedB t.size
                · go_wp2_with (go_at_call 26; refine (CS.out _).mono ?_; rw [hz]; rintro e w6 ⟨rfl, rfl⟩)
                  go_ret
                  exact ⟨ret_bool (by simp [kindT, k1, hn, hz]), HBW.out⟩
                · cases hy : (t.ty == 0)
                  · go_wp2_with (go_at_call 26; refine (CS.out _).mono ?_; rw [hz]; rintro e w6 ⟨rfl, rfl⟩)
                    go_ret
                    exact ⟨ret_bool (by simp [kindT, k1, hn, hz, hy]), HBW.out⟩
                  · cases hc : (t.count == 0)
                    · go_wp2_with (go_at_call 26; refine (CS.out _).mono ?_; rw [hz]; rintro e w6 ⟨rfl, rfl⟩)
                      go_ret
                      exact ⟨ret_bool (by simp [kindT, k1, hn, hz, hy, hc]), HBW.out⟩
                    · cases hp : decide (0 < t.mems.length)
                      · go_wp2_with (go_at_call 26; refine (CS.out _).mono ?_; rw [hz]; rintro e w6 ⟨rfl, rfl⟩)
                        go_ret
                        exact ⟨ret_bool (by simp [kindT, k1, hn, hz, hy, hc, hp]), HBW.out⟩
                      · go_wp2_with (go_at_call 26; refine (CS.out _).mono ?_; rw [hz]; rintro e w6 ⟨rfl, rfl⟩)
                        go_ret
                        exact ⟨ret_bool (by simp [kindT, k1, hn, hz, hy, hc, hp]), HBW.out⟩
              · go_wp2_with fail
                go_ret
                exact ⟨ret_bool (by simp [kindT, k1, hn]), HBW.out⟩
            · have g1 : (t.kind == 1) = false := by simpa using k1
              by_cases k2 : t.kind = 2
              · rw [k2] at q0
                cases hn : t.name.toList.isEmpty
                · go_wp2_with fail
                  go_ret
                  exact ⟨ret_bool (by simp [kindT, k2, hn]), HBW.out⟩
                · cases h0 : (t.size == 0)
                  · go_wp2_with fail
                    go_ret
                    exact ⟨ret_bool (by simp [kindT, k2, hn, h0]), HBW.out⟩
                  · cases hc : (t.count == 0)
                    · go_wp2_with fail
                      go_ret
                      exact ⟨ret_bool (by simp [kindT, k2, hn, h0, hc]), HBW.out⟩
                    · cases hp : decide (0 < t.mems.length)
                      · go_wp2_with fail
                        go_ret
                        exact ⟨ret_bool (by simp [kindT, k2, hn, h0, hc, hp]), HBW.out⟩
                      · go_wp2_with fail
                        go_ret
                        exact ⟨ret_bool (by simp [kindT, k2, hn, h0, hc, hp]), HBW.out⟩
              · have g2 : (t.kind == 2) = false := by simpa using k2
                by_cases k8 : t.kind = 8
                · rw [k8] at q0
                  cases hn : t.name.toList.isEmpty
                  · cases h0 : (t.size == 0)
                    · go_wp2_with fail
                      go_ret
                      exact ⟨ret_bool (by simp [kindT, k8, hn, h0]), HBW.out⟩
                    · cases hc : (t.count == 0)
                      · go_wp2_with fail
                        go_ret
                        exact ⟨ret_bool (by simp [kindT, k8, hn, h0, hc]), HBW.out⟩
                      · cases hp : decide (0 < t.mems.length)
                        · go_wp2_with fail
                          go_ret
                          exact ⟨ret_bool (by simp [kindT, k8, hn, h0, hc, hp]), HBW.out⟩
                        · go_wp2_with fail
                          go_ret
                          exact ⟨ret_bool (by simp [kindT, k8, hn, h0, hc, hp]), HBW.out⟩
                  · go_wp2_with fail
                    go_ret
                    exact ⟨ret_bool (by simp [kindT, k8, hn]), HBW.out⟩
                · have g8 : (t.kind == 8) = false := by simpa using k8
                  by_cases k3 : t.kind = 3
                  · rw [k3] at q0
                    cases hn : t.name.toList.isEmpty
                    · go_wp2_with fail
                      go_ret
                      exact ⟨ret_bool (by simp [kindT, k3, hn]), HBW.out⟩
                    · cases h0 : (t.size == 0)
                      · go_wp2_with fail
                        go_ret
                        exact ⟨ret_bool (by simp [kindT, k3, hn, h0]), HBW.out⟩
                      · cases hp : decide (0 < t.mems.length)
                        · go_wp2_with fail
                          go_ret
                          exact ⟨ret_bool (by simp [kindT, k3, hn, h0, hp]), HBW.out⟩
                        · go_wp2_with fail
                          go_ret
                          exact ⟨ret_bool (by simp [kindT, k3, hn, h0, hp]), HBW.out⟩
                  · have g3 : (t.kind == 3) = false := by simpa using k3
                    by_cases k4 : t.kind = 4
                    · rw [k4] at q0
                      cases hy : (t.ty == 0)
                      · go_wp2_with fail
                        go_ret
                        exact ⟨ret_bool (by simp [kindT, k4, hy]), HBW.out⟩
                      · cases hc : (t.count == 0)
                        · go_wp2_with fail
                          go_ret
                          exact ⟨ret_bool (by simp [kindT, k4, hy, hc]), HBW.out⟩
                        · go_wp2_with fail
                          go_ret
                          exact ⟨ret_bool (by simp [kindT, k4, hy, hc]), HBW.out⟩
                    · have g4 : (t.kind == 4) = false := by simpa using k4
                      clear k1 k2 k8 k3 k4
                      go_wp2_with fail
                      go_ret
                      exact ⟨ret_bool (by simp [kindT, g1, g2, g8, g3, g4]), HBW.out⟩
end Go.Proofs.Ytmfdojmecpdikaa
