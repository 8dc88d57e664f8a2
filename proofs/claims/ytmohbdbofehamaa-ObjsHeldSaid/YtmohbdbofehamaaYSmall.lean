/-
  The reference of layer 14: there, path, find.
-/
import Derived.Test.YtmohbdbofehamaaYState
namespace Go.Proofs.Ytmohbdbofehamaa
open Go Go.RowKit Go.Maps OSt
set_option linter.unusedVariables false
set_option linter.unusedSimpArgs false
set_option maxRecDepth 100000
theorem ret_b {a b : Bool} (h : a = b) : Ending.returned (.bool a) = .returned (.bool b) := by rw [h]
section
variable {y : Nat} {w0 w w' : World} {Q Q0 U : Nat → Prop} {s s' : OSt} {VL VP VL' VP' : Value} {n id f k i : Nat} {fd : Int} {p : ByteArray}
/-- Object id stands at place id - 1. -/
theorem obj_at {o : Ob} (h : s.obj id = some o) : id ≠ 0 ∧ s.os[id - 1]? = some o := by
  unfold obj at h
  split at h
  · cases h
  · exact ⟨by assumption, h⟩
theorem xthere_any (h : YG y w0 Q0 s w) (hn : s.os.length ≤ 1000000) (m : Int) : Calls Try.prog 47 #[tp y, .int .i64 m] w fun e w' => e = .returned (.bool (thereI s m)) ∧ w = w' := by
  obtain ⟨VL, VP, h⟩ := h
  by_cases h1 : 1 ≤ m
  · have g1 : decide (1 ≤ m) = true := decide_eq_true h1
    obtain ⟨j, rfl⟩ := Int.eq_ofNat_of_zero_le (show 0 ≤ m by omega)
    by_cases h2 : j ≤ s.os.length
    · have hj : j - 1 < s.os.length := by omega
      obtain ⟨o, ho⟩ : ∃ o, s.os[j - 1]? = some o := ⟨_, List.getElem?_eq_getElem hj⟩
      obtain ⟨g, c, rfl, hc1, hc2⟩ := yoR_row h.obs (fun e => by rw [e] at hj; simp at hj)
      have c0 : w.cell? ⟨y, 0, none⟩ = some (.slice (some ⟨g, 0, none⟩) s.os.length c) := h.tab.cell 0
      have d0 : w.cell? ⟨g, (j - 1) * 3 + 2, none⟩ = some (.bool o.there) := yoR_at h.obs ho (by decide) rfl
      have e1 : thereI s (j : Int) = o.there := by
        unfold thereI obj
        rw [g1, Int.toNat_natCast, if_neg (by omega), ho]; rfl
      rw [e1]
      have e2 : IntKind.i64.wrap ((j : Int) - 1) = ((j - 1 : Nat) : Int) := by rw [IntWalk.i64_in _ (by omega)]; omega
      have g2 : decide ((j : Int) ≤ (s.os.length : Int)) = true := decide_eq_true (by omega)
      have g3 : decide (j ≤ s.os.length) = true := decide_eq_true h2
      have i1 : ((j - 1 : Nat) : Int) < (s.os.length : Int) := by omega
      clear h h1 h2 ho hn e1
      generalize j - 1 = q at *
      generalize s.os.length = L at *
      go_enter Try.func47, Try.ntmps47
      go_wp2_with fail
      go_ret
      exact ⟨rfl, rfl⟩
    · obtain ⟨A, c, rfl⟩ := yoR_shape h.obs
      have c0 : w.cell? ⟨y, 0, none⟩ = some (.slice A s.os.length c) := h.tab.cell 0
      have e1 : thereI s (j : Int) = false := by
        rw [← Bool.not_eq_true, thereI_nat]
        intro h3
        have := isThere_pos h3; omega
      rw [e1]
      have g2 : decide ((j : Int) ≤ (s.os.length : Int)) = false := decide_eq_false (by omega)
      have g3 : decide (j ≤ s.os.length) = false := decide_eq_false h2
      clear h h1 h2 hn e1
      generalize s.os.length = L at *
      go_enter Try.func47, Try.ntmps47
      go_wp2_with fail
      go_ret
      exact ⟨rfl, rfl⟩
  · have g1 : decide (1 ≤ m) = false := decide_eq_false h1
    have e1 : thereI s m = false := by unfold thereI; rw [g1]; rfl
    rw [e1]
    clear h h1 hn e1
    go_enter Try.func47, Try.ntmps47
    go_wp2_with fail
    go_ret
    exact ⟨rfl, rfl⟩
/-- What is left to test when no byte is 0. -/
def pathR (p : ByteArray) : Bool := decide (2 ≤ p.size) && decide (p.size ≤ 256) && decide (p.data[0]? = some 47)
theorem xpath_any (p : ByteArray) (hp : p.size ≤ maxLen) (w : World) : Calls Try.prog 48 #[.string p] w fun e w' => e = .returned (.bool (pathB p)) ∧ w = w' := by
  have hm : p.size ≤ 9223372036854775807 := by unfold maxLen at hp; omega
  have HM := Lib.hid hm
  clear hp hm
  go_enter Try.func48, Try.ntmps48
  go_wp2_with fail
  go_loopw [3] (fun v wr => ∃ j : Nat, v = .int .i64 (j : Int) ∧ wr = w ∧ j ≤ p.size ∧ ∀ i : Nat, i < j → ∀ b : UInt8, p.data[i]? = some b → b ≠ 0) (fun v _ => p.size - (Lib.intOf v).toNat)
  case atStart => exact ⟨0, rfl, rfl, Nat.zero_le _, fun i hi => absurd hi (Nat.not_lt_zero _)⟩
  case round =>
    obtain ⟨j, rfl, hwr, hj, hno⟩ := hrel
    obtain rfl : w = wr := hwr.symm
    have HNO := Lib.hid hno
    have HJ := Lib.hid hj
    clear hno hj
    by_cases hlt : j < p.size
    · have HLT := Lib.hid hlt
      have e0 : Hid (p.data[j]? = some (p[j]'hlt)) := by
        have h0' : j < p.data.size := hlt
        unfold Hid
        rw [Array.getElem?_eq_getElem h0']; rfl
      have g1 : decide ((j : Int) < (p.size : Int)) = true := decide_eq_true (by omega)
      have g2 : decide (j < p.size) = true := decide_eq_true hlt
      have i1 : (j : Int) < (p.size : Int) := by omega
      have e2 : (j : Int) + 1 ≤ 9223372036854775807 := by have := HM.out; omega
      by_cases hb : (p[j]'hlt) = 0
      · have g3 : (((p[j]'hlt).toNat : Int) == 0) = true := by rw [hb]; rfl
        have HE : Hid (pathB p = false) := by
          have hmem : (0 : UInt8) ∈ p.data.toList := by
            rw [← hb]
            exact List.mem_of_getElem? (i := j) (by rw [Array.getElem?_toList]; exact e0.out)
          unfold Hid pathB
          rw [decide_eq_false (fun h : (0 : UInt8) ∉ p.data.toList => h hmem), Bool.and_false]
        clear hb
        go_wp2_with fail
        go_ret
        exact ⟨ret_b HE.out.symm, rfl⟩
      · have g3 : (((p[j]'hlt).toNat : Int) == 0) = false := by
          rw [beq_eq_false_iff_ne]
          intro e
          exact hb (UInt8.toNat_inj.1 (by show (p[j]'hlt).toNat = 0; omega))
        have HB := Lib.hid hb
        clear hb
        go_wp2_with fail
        go_roundw
        case rel =>
          refine ⟨j + 1, by go_num, trivial, by have := HLT.out; omega, fun i hi b hbb => ?_⟩
          rcases Nat.lt_or_ge i j with h3 | h3
          · exact HNO.out i h3 b hbb
          · obtain rfl : i = j := by omega
            rw [e0.out] at hbb; cases hbb; exact HB.out
        case measure => have := HLT.out; simp [Lib.intOf]; omega
    · have g0 : decide ((j : Int) < (p.size : Int)) = false := decide_eq_false (by omega)
      have g0' : decide (j < p.size) = false := decide_eq_false hlt
      have HR : Hid (pathB p = pathR p) := by
        unfold Hid pathB pathR
        rw [decide_eq_true (show (0 : UInt8) ∉ p.data.toList from fun hmem => by
          obtain ⟨i, hi, he⟩ := List.getElem_of_mem hmem
          have hi' : i < p.data.size := by simpa using hi
          have hi2 : i < p.size := hi'
          have := HJ.out
          refine HNO.out i (by omega) 0 ?_ rfl
          rw [← Array.getElem?_toList, List.getElem?_eq_getElem hi, he]), Bool.and_true]
      clear HNO hlt
      by_cases h1 : 2 ≤ p.size
      · have g1 : decide (2 ≤ p.size) = true := decide_eq_true h1
        have q1 : decide ((2 : Int) ≤ (p.size : Int)) = true := decide_eq_true (by omega)
        by_cases h2 : p.size ≤ 256
        · have g2 : decide (p.size ≤ 256) = true := decide_eq_true h2
          have q2 : decide ((p.size : Int) ≤ 256) = true := decide_eq_true (by omega)
          have h0 : 0 < p.size := by omega
          have e0 : p.data[0]? = some (p[0]'h0) := by
            have h0' : 0 < p.data.size := h0
            rw [Array.getElem?_eq_getElem h0']; rfl
          have g3 : (((p[0]'h0).toNat : Int) == 47) = pathR p := by
            unfold pathR
            rw [g1, g2, e0, Bool.eq_iff_iff, beq_iff_eq]
            simp only [Bool.true_and, Bool.and_self, decide_eq_true_eq, Option.some.injEq]
            exact ⟨fun e => UInt8.toNat_inj.1 (by show (p[0]'h0).toNat = 47; omega), fun e => by rw [e]; rfl⟩
          clear e0 h1 h2
          generalize pathR p = r at *
          go_wp2_with fail
          go_ret
          exact ⟨ret_b (by rw [HR.out]), rfl⟩
        · have g2 : decide (p.size ≤ 256) = false := decide_eq_false h2
          have q2 : decide ((p.size : Int) ≤ 256) = false := decide_eq_false (by omega)
          have HA : Hid (pathR p = false) := by unfold Hid pathR; rw [g2]; simp
          clear h1 h2
          go_wp2_with fail
          go_ret
          exact ⟨ret_b (by rw [HR.out, HA.out]), rfl⟩
      · have g1 : decide (2 ≤ p.size) = false := decide_eq_false h1
        have q1 : decide ((2 : Int) ≤ (p.size : Int)) = false := decide_eq_false (by omega)
        have HA : Hid (pathR p = false) := by unfold Hid pathR; rw [g1]; simp
        clear h1
        go_wp2_with fail
        go_ret
        exact ⟨ret_b (by rw [HR.out, HA.out]), rfl⟩
def findI (s : OSt) (p : ByteArray) : Int := (findP s.pins p).elim (-1) fun i => (i : Int)
set_option maxHeartbeats 1000000 in
theorem xfind_any (h : YG y w0 Q0 s w) (ho : OOk n s) (hn : n ≤ 100000) (p : ByteArray) : Calls Try.prog 49 #[tp y, .string p] w fun e w' => e = .returned (.int .i64 (findI s p)) ∧ w = w' := by
  obtain ⟨VL, VP, h⟩ := h
  have hpl : s.pins.length ≤ 100000 := Nat.le_trans ho.pl hn
  rcases ypR_form h.pns with ⟨rfl, h0⟩ | ⟨g, c, cur, rfl, hlc, hcm, hg, hcells⟩
  · have c0 : w.cell? ⟨y, 65, none⟩ = some (.slice none 0 0) := (h.tab.cell _).trans (refC_pins ho.len)
    have e1 : findI s p = -1 := by unfold findI; rw [h0]; rfl
    rw [e1]
    clear h ho hn h0 e1 hpl
    go_enter Try.func49, Try.ntmps49
    go_wp2_with fail
    go_loopw [5] (fun i wr => i = .int .i64 0 ∧ wr = w) (fun _ _ => 0)
    case atStart => exact ⟨rfl, rfl⟩
    case round =>
      obtain ⟨rfl, rfl⟩ := hrel
      go_wp2_with fail
      go_ret
      exact ⟨rfl, rfl⟩
  · have H := Lib.hid h.pns
    have c0 : w.cell? ⟨y, 65, none⟩ = some (.slice (some ⟨g, 0, none⟩) s.pins.length c) := (h.tab.cell _).trans (refC_pins ho.len)
    obtain ⟨L, hL⟩ : ∃ L, s.pins.length = L := ⟨_, rfl⟩
    have HN := Lib.hid hL
    have HPL := Lib.hid hpl
    rw [hL] at c0 hpl
    clear h ho hn hcells hlc hcm hL hg
    go_enter Try.func49, Try.ntmps49
    go_wp2_with fail
    go_loopw [5] (fun i wr => ∃ j : Nat, j ≤ L ∧ i = .int .i64 j ∧ wr = w ∧ findP (s.pins.take j) p = none) (fun i _ => L - (Lib.intOf i).toNat)
    case atStart => exact ⟨0, by omega, rfl, rfl, rfl⟩
    case round =>
      obtain ⟨j, hj, rfl, hw, hf⟩ := hrel
      obtain rfl : w = wr := hw.symm
      have HF := Lib.hid hf; clear hf
      by_cases hjn : j < L
      · obtain ⟨e, he⟩ : ∃ e, s.pins[j]? = some e := ⟨_, List.getElem?_eq_getElem (by rw [HN.out]; exact hjn)⟩
        have HE := Lib.hid he
        have d0 : w.cell? ⟨g, j * 2, none⟩ = some (.string e.1) := by
          have := ypR_at H.out he (j := 0) (by decide) rfl
          simpa using this
        clear he
        have g1 : decide (j < L) = true := by simpa using hjn
        have i1 : (j : Int) < (L : Int) := by omega
        cases hk : (e.1.toList == p.toList)
        · have HK := Lib.hid hk
          go_wp2_with fail
          go_roundw
          case rel => exact ⟨j + 1, by omega, by go_num, trivial, findP_step HF.out HE.out HK.out⟩
          case measure => simp [Lib.intOf]; omega
        · have HK := Lib.hid hk
          have HA : Hid (findI s p = (j : Int)) := by unfold findI; rw [findP_at HF.out HE.out HK.out]; rfl
          go_wp2_with fail
          go_ret
          exact ⟨ret_i HA.out.symm, rfl⟩
      · obtain rfl : j = L := by omega
        have HA : Hid (findI s p = -1) := by
          have := HF.out
          rw [List.take_of_length_le (by rw [HN.out]; exact Nat.le_refl _)] at this
          unfold findI; rw [this]; rfl
        go_wp2_with fail
        go_ret
        exact ⟨ret_i HA.out.symm, rfl⟩
end
end Go.Proofs.Ytmohbdbofehamaa
