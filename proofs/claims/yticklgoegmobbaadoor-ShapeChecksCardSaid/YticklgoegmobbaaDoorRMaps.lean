/-
  Maps of the reference, walked.
-/
import Derived.Test.YticklgoegmobbaaDoorSMaps0
import Derived.Deep.DrawnRows
import Derived.Deep.RegionHeld3
import Derived.Deep.QuietTactic
import Derived.BigQuiet
namespace Go.Proofs.YticklgoegmobbaaDoor
open Go Go.RowKit Go.Maps
set_option linter.unusedVariables false
set_option linter.unusedSimpArgs false
set_option maxRecDepth 100000
theorem infoR : (Tryd.prog.info? 3).map (fun i => (i.zero, i.size, i.bytes)) = some (some (.int .i64 0), 1, 8) := by kernel_rfl
theorem row_form {w : World} {base : Nat} {e : TypeId} {v : Value} {L : List Int} (h : w.ownsRow base e 1 v L.length (L.map (Value.int .i64))) :
    ∃ A c, v = .slice A L.length c ∧ ∀ j, (hj : j < L.length) → ∃ g, A = some ⟨g, 0, none⟩ ∧ w.cell? ⟨g, j, none⟩ = some (.int .i64 L[j]) := by
  rcases h.2 with ⟨rfl, hn⟩ | ⟨g, cap, cur, rfl, h1, h2, h3, h4, h5, h6⟩
  · exact ⟨none, 0, by rw [hn], fun j hj => by omega⟩
  · refine ⟨_, cap, rfl, fun j hj => ⟨g, rfl, ?_⟩⟩
    have := h.cellAt j (by simpa using hj)
    rw [this]
    simp [hj]
theorem ownsRow_heap {w w' : World} {base : Nat} {e : TypeId} {s : Nat} {v : Value} {n : Nat} {xs : List Value} (h : w.ownsRow base e s v n xs) (hh : w'.heap = w.heap) : w'.ownsRow base e s v n xs := by
  refine ⟨h.1, ?_⟩
  rcases h.2 with hn | ⟨g, cap, cur, rfl, hb, rest⟩
  · exact .inl hn
  · exact .inr ⟨g, cap, cur, rfl, hb, by rw [hh]; exact rest⟩
set_option maxHeartbeats 4000000 in
theorem maps05_any (A : Option Addr) (n c : Nat) (X : Nat → Slot) (hn : n ≤ 4398046511104) (w : World) (h : Slots w A n X) :
    Calls Tryd.prog 11 #[.slice A n c] w fun e w' => (∃ v, e = .returned v ∧ w'.ownsRow w.heap.size 3 1 v (restM X n 0 []).length ((restM X n 0 []).map (Value.int .i64))) ∧ Below w.heap.size w w' := by
  obtain ⟨i0, hi, hz0, hz1, hz2⟩ := info_parts infoR
  have H := Lib.hid h
  clear h
  go_enter Tryd.func11, Tryd.ntmps11
  go_wp2_with fail
  go_loopw [3, 4] (fun v i wr => ∃ (k : Nat) (acc : List Int), i = .int .i64 k ∧ k ≤ n + 1 ∧ acc.length ≤ k ∧ restM X n k acc = restM X n 0 [] ∧ wr.ownsRow w.heap.size 3 1 v acc.length (acc.map (Value.int .i64)) ∧ Below w.heap.size w wr) (fun _ i _ => n + 2 - (intOf i).toNat)
  case atStart => exact ⟨0, [], rfl, by omega, Nat.le_refl _, rfl, World.ownsRow_nil _ _ _ _, Below.refl _ _⟩
  case round =>
    obtain ⟨k, acc, rfl, hk, hal, hre, hrow, hb⟩ := hrel
    by_cases hkn : k < n
    · have g1 : decide (k < n) = true := by simpa using hkn
      have hst := restM_step (X := X) (acc := acc) hkn
      rw [hre] at hst
      have HST := Lib.hid hst
      obtain ⟨b, off, hA, hlt, hc⟩ := H.out k hkn
      subst hA
      have HC := Lib.hid hc
      have HLT := Lib.hid hlt
      obtain ⟨c0, c1, c2, c3, c4⟩ := HC.out.below hb HLT.out
      have i1 : (0 : Int) ≤ (k : Int) := by omega
      have i2 : (k : Int) < (n : Int) := by omega
      have HB := Lib.hid hb
      have HROW := Lib.hid hrow
      clear hc hlt hb hre hst
      cases h1 : ((X k).o == 24)
      · have hne : ((X k).o != 24) = true := by simp only [bne, h1]; rfl
        have hstep : stepM acc (X k) = acc := by unfold stepM; rw [h1]; rfl
        have hs1 : slN (X k) = 1 := by unfold slN wideS; rw [h1]; rfl
        rw [hstep, hs1] at HST
        clear hstep hs1 hrow
        go_wp2_with fail
        go_roundw
        case rel => exact ⟨k + 1, acc, by go_num, by omega, by omega, HST.out.symm, HROW.out, HB.out⟩
        case measure => simp [intOf]; omega
      · have hne : ((X k).o != 24) = false := by simp only [bne, h1]; rfl
        have hs2 : slN (X k) = 2 := by unfold slN wideS; rw [h1]; rfl
        have hstep : stepM acc (X k) = if ((X k).s != 1 || acc.contains (X k).m) = true then acc else acc ++ [(X k).m] := by
          unfold stepM; rw [h1]; cases h2 : ((X k).s == 1) <;> cases h3 : acc.contains (X k).m <;> simp_all
        rw [hs2, hstep] at HST
        clear hstep hs2
        obtain ⟨G, cap, rfl, hcells⟩ := row_form hrow
        have HCE := Lib.hid hcells
        clear hrow hcells
        generalize hS1 : ((X k).s != 1) = S1 at HST ⊢
        go_wp2_with fail
        go_loopw [5, 6] (fun th i ws => ∃ j : Nat, i = .int .i64 j ∧ j ≤ acc.length ∧ th = .bool (S1 || (acc.take j).contains (X k).m) ∧ ws.heap = wr.heap ∧ Below w.heap.size w ws) (fun _ i _ => acc.length - (intOf i).toNat)
        case atStart => exact ⟨0, rfl, by omega, by simp [hS1], rfl, HB.out⟩
        case round =>
          obtain ⟨j, rfl, hj, rfl, hh, hb⟩ := hrel
          have HH := Lib.hid hh
          have HB2 := Lib.hid hb
          clear hh hb
          by_cases hja : j < acc.length
          · have g2 : decide (j < acc.length) = true := by simpa using hja
            obtain ⟨g, rfl, hx⟩ := HCE.out j hja
            have k1 : wr.cell? ⟨g, j, none⟩ = some (.int .i64 acc[j]) := (World.cell?_of_block (by rw [HH.out])).trans hx
            obtain ⟨m0, m1, m2, m3, m4⟩ := HC.out.below HB2.out HLT.out
            have j1 : (0 : Int) ≤ (j : Int) := by omega
            have j2 : (j : Int) < (acc.length : Int) := by omega
            have htk : (acc.take (j + 1)).contains (X k).m = ((acc.take j).contains (X k).m || (acc[j] == (X k).m)) := by
              rw [List.take_add_one, List.getElem?_eq_getElem hja]
              simp only [Option.toList, List.contains_eq_any_beq, List.any_append, List.any_cons, List.any_nil, Bool.or_false]
              congr 1
              first | rfl | exact BEq.comm
            have HTK := Lib.hid htk
            clear htk hx
            generalize acc[j] = z at k1 HTK
            generalize (acc.take j).contains (X k).m = C0 at HTK ⊢
            cases hT : (S1 || C0)
            · have hz : Hid ((S1 || (acc.take (j + 1)).contains (X k).m) = (z == (X k).m)) := by rw [HTK.out, ← Bool.or_assoc, hT]; rfl
              clear HTK hT
              cases hzz : (z == (X k).m)
              all_goals
                rw [hzz] at hz
                go_wp2_with fail
                go_quiet (fail)
                go_wp2_with fail
                go_roundw
                case rel => exact ⟨j + 1, by go_num, by omega, by rw [hz.out], HH.out, (let h := HB2.out; ⟨h.os, h.tape, h.output, h.size, h.block⟩)⟩
                case measure => simp [intOf]; omega
            · have hz : Hid ((S1 || (acc.take (j + 1)).contains (X k).m) = true) := by rw [HTK.out, ← Bool.or_assoc, hT]; rfl
              clear HTK hT
              go_wp2_with fail
              go_quiet (fail)
              go_wp2_with fail
              go_roundw
              case rel => exact ⟨j + 1, by go_num, by omega, by rw [hz.out], HH.out, (let h := HB2.out; ⟨h.os, h.tape, h.output, h.size, h.block⟩)⟩
              case measure => simp [intOf]; omega
          · have g2 : decide (j < acc.length) = false := by simpa using hja
            have hje : j = acc.length := by omega
            have hall : (S1 || (acc.take j).contains (X k).m) = (S1 || acc.contains (X k).m) := by rw [hje, List.take_length]
            rw [hall]
            have HROW2 := Lib.hid (ownsRow_heap HROW.out HH.out)
            obtain ⟨m0, m1, m2, m3, m4⟩ := HC.out.below HB2.out HLT.out
            clear hall hje
            cases hT : (S1 || acc.contains (X k).m)
            · rw [hT, if_neg (by simp)] at HST
              go_wp2_with (at_builtin; refine wpList_append_own_at _ rfl _ _ 29 rfl w.heap.size 3 i0 (.int .i64 0) 1 8 Tryd.underlying29 hi hz0 hz1 hz2 rfl (by decide) _ _ _ rfl (HROW2.out.alloc _) ⟨wr.heap.size, 0, none⟩ 1 1 [.int .i64 (X k).m] rfl rfl (cell_one_new _ _ _) (ints_oneCell .i64 [(X k).m]) (by unfold maxLen; omega) (by omega) (by have := HB2.out.size; simp at *; omega) ?_; intro v' w4 hown' hgrow4 hnil2 hloc
                           have HB4 : Hid (Below w.heap.size w w4) := (HB2.out.alloc HB2.out.size _).grown hgrow4 (by have := HB2.out.size; simp; omega) (fun j hj => (HROW2.out.lt j hj).1)
                           have HROW4 := Lib.hid hown'
                           clear hown' hgrow4 hnil2 hloc)
              go_roundw
              case rel => exact ⟨k + 2, acc ++ [(X k).m], by go_num, by omega, by simp; omega, HST.out.symm, by simpa using HROW4.out, HB4.out⟩
              case measure => simp [intOf]; omega
            · rw [hT, if_pos rfl] at HST
              go_wp2_with fail
              go_roundw
              case rel => exact ⟨k + 2, acc, by go_num, by omega, by omega, HST.out.symm, HROW2.out, HB2.out⟩
              case measure => simp [intOf]; omega
    · have g1 : decide (k < n) = false := by simpa using hkn
      have he := restM_end (X := X) (acc := acc) hkn
      rw [hre] at he
      have HE := Lib.hid he
      have HB := Lib.hid hb
      have HROW := Lib.hid hrow
      clear he hre hb hrow
      go_wp2_with fail
      go_ret
      rw [HE.out]
      exact ⟨⟨_, rfl, HROW.out⟩, HB.out⟩
end Go.Proofs.YticklgoegmobbaaDoor
