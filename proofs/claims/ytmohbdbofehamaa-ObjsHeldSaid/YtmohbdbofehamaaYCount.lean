/-
  The reference of layer 14: count, dies.
-/
import Derived.Test.YtmohbdbofehamaaYSmall
namespace Go.Proofs.Ytmohbdbofehamaa
open Go Go.RowKit Go.Maps OSt
set_option linter.unusedVariables false
set_option linter.unusedSimpArgs false
set_option maxRecDepth 100000
theorem count_take {l : List Nat} {j a id : Nat} (h : l[j]? = some a) : (l.take (j + 1)).count id = (l.take j).count id + (if a = id then 1 else 0) := by
  rw [List.take_add_one, h, Option.toList_some, List.count_append, List.count_singleton]
  simp only [beq_iff_eq]
theorem countP_take {l : List (ByteArray × Nat)} {j id : Nat} {a : ByteArray × Nat} (h : l[j]? = some a) : (l.take (j + 1)).countP (fun p => p.2 == id) = (l.take j).countP (fun p => p.2 == id) + (if a.2 = id then 1 else 0) := by
  rw [List.take_add_one, h, Option.toList_some, List.countP_append, List.countP_singleton]
  simp only [beq_iff_eq]
theorem count_take_le (l : List Nat) (j id : Nat) : (l.take j).count id ≤ l.length := Nat.le_trans List.count_le_length (by rw [List.length_take]; omega)
theorem countP_take_le (l : List (ByteArray × Nat)) (j id : Nat) : (l.take j).countP (fun p => p.2 == id) ≤ l.length := Nat.le_trans List.countP_le_length (by rw [List.length_take]; omega)
section
variable {y : Nat} {w0 w w' : World} {Q Q0 U : Nat → Prop} {s s' : OSt} {VL VP VL' VP' : Value} {n id f k i : Nat} {fd : Int} {p : ByteArray}
theorem some_of (hid : (s.obj id).isSome = true) : ∃ o, s.obj id = some o ∧ o.kind = s.kindOf id ∧ o.holds = s.holdsOf id := by
  obtain ⟨o, ho⟩ := Option.isSome_iff_exists.1 hid
  exact ⟨o, ho, by unfold kindOf; rw [ho]; rfl, by unfold holdsOf; rw [ho]; rfl⟩
set_option maxHeartbeats 2000000 in
theorem xcount_any (h : YG y w0 Q0 s w) (ho : OOk n s) (hn : n ≤ 100000) (hid : s.isThere id) : Calls Try.prog 56 #[tp y, .int .i64 (id : Int)] w fun e w' => e = .returned (.int .i64 ((s.leads id + s.holdsOf id : Nat) : Int)) ∧ w = w' := by
  obtain ⟨VL, VP, h⟩ := h
  obtain ⟨o, hobj, _, hho⟩ := some_of (isThere_some hid)
  obtain ⟨hid0, hat⟩ := obj_at hobj
  have hidl := (isThere_pos hid).2
  obtain ⟨g, c, rfl, hc1, hc2⟩ := yoR_row h.obs (fun e => by rw [e] at hat; simp at hat)
  obtain ⟨A, cp, rfl⟩ := ypR_shape h.pns
  have c0 : w.cell? ⟨y, 0, none⟩ = some (.slice (some ⟨g, 0, none⟩) s.os.length c) := h.tab.cell 0
  have c65 : w.cell? ⟨y, 65, none⟩ = some (.slice A s.pins.length cp) := (h.tab.cell _).trans (refC_pins ho.len)
  have d1 : w.cell? ⟨g, (id - 1) * 3 + 1, none⟩ = some (.int .i64 (o.holds : Int)) := yoR_at h.obs hat (by decide) rfl
  rw [hho] at d1
  have e2 : IntKind.i64.wrap ((id : Int) - 1) = ((id - 1 : Nat) : Int) := by
    have := ho.os
    rw [IntWalk.i64_in _ (by omega)]; omega
  have i1 : ((id - 1 : Nat) : Int) < (s.os.length : Int) := by omega
  have HH : Hid (s.holdsOf id ≤ 100000) := Nat.le_trans (ho.hl id) hn
  have HPL : Hid (s.pins.length ≤ 100000) := Nat.le_trans ho.pl hn
  have HL := Lib.hid ho.len
  have HT := Lib.hid h.tab
  have HP := Lib.hid h.pns
  have HLD : Hid (s.leads id = s.fds.count id + s.pins.countP (fun p => p.2 == id)) := rfl
  generalize s.leads id = LD at *
  generalize s.holdsOf id = H0 at *
  clear h ho hn hid hobj hho hat hidl hc1 hc2
  generalize id - 1 = q at *
  generalize s.os.length = L at *
  go_enter Try.func56, Try.ntmps56
  go_wp2_with fail
  clear c0 d1 e2 i1
  go_loopw [5, 6] (fun m v wr => ∃ j : Nat, v = .int .i64 (j : Int) ∧ m = .int .i64 ((H0 + (s.fds.take j).count id : Nat) : Int) ∧ wr = w ∧ j ≤ 64) (fun _ v _ => 64 - (Lib.intOf v).toNat)
  case atStart => exact ⟨0, rfl, by simp, rfl, Nat.zero_le _⟩
  case round =>
    obtain ⟨j, rfl, rfl, hwr, hj⟩ := hrel
    obtain rfl : w = wr := hwr.symm
    have HJ := Lib.hid hj
    clear hj
    by_cases hlt : j < 64
    · have hjl : j < s.fds.length := by rw [HL.out]; exact hlt
      obtain ⟨a, ha⟩ : ∃ a, s.fds[j]? = some a := ⟨_, List.getElem?_eq_getElem hjl⟩
      have HS := Lib.hid (count_take (id := id) ha)
      have c1 : w.cell? ⟨y, 1 + j, none⟩ = some (.int .i64 (a : Int)) := (HT.out.cell _).trans (refC_fd ha)
      have g1 : decide ((j : Int) < 64) = true := decide_eq_true (by omega)
      have g2 : decide (j < 64) = true := decide_eq_true hlt
      have g3 : decide (64 ≤ j) = false := decide_eq_false (by omega)
      have i1 : (j : Int) < 64 := by omega
      have hle := count_take_le s.fds j id
      have E1 : Hid (wrap64 ((H0 : Int) + ((s.fds.take j).count id : Int) + 1) = ((H0 + (s.fds.take j).count id + 1 : Nat) : Int)) := by
        have := HH.out; have := HL.out
        unfold Hid wrap64; omega
      have HLT := Lib.hid hlt
      clear ha hjl hlt hle
      by_cases h0 : a = id
      · have g4 : ((a : Int) == (id : Int)) = true := by simp [h0]
        have HZ : Hid (H0 + (s.fds.take (j + 1)).count id = H0 + (s.fds.take j).count id + 1) := by
          have := HS.out; rw [if_pos h0] at this; unfold Hid; omega
        clear h0
        go_wp2_with fail
        go_roundw
        case rel => exact ⟨j + 1, by go_num, by rw [HZ.out]; exact congrArg _ E1.out, trivial, by have := HLT.out; omega⟩
        case measure => have := HLT.out; simp [Lib.intOf]; omega
      · have g4 : ((a : Int) == (id : Int)) = false := by simp; omega
        have HZ : Hid (H0 + (s.fds.take (j + 1)).count id = H0 + (s.fds.take j).count id) := by
          have := HS.out; rw [if_neg h0] at this; unfold Hid; omega
        clear h0
        go_wp2_with fail
        go_roundw
        case rel => exact ⟨j + 1, by go_num, by rw [HZ.out], trivial, by have := HLT.out; omega⟩
        case measure => have := HLT.out; simp [Lib.intOf]; omega
    · obtain rfl : j = 64 := by have := HJ.out; omega
      have hT : s.fds.take 64 = s.fds := List.take_of_length_le (by have := HL.out; omega)
      have HB : Hid ((s.fds.take 64).count id = s.fds.count id) := by rw [hT]; exact rfl
      clear hT hlt HJ
      go_wp2_with fail
      rw [HB.out]
      obtain ⟨L2, hL2⟩ : ∃ L2, s.pins.length = L2 := ⟨_, rfl⟩
      have HL2 := Lib.hid hL2
      rw [hL2] at c65
      clear hL2
      go_loopw [5, 7] (fun m v wr => ∃ j : Nat, v = .int .i64 (j : Int) ∧ m = .int .i64 ((H0 + s.fds.count id + (s.pins.take j).countP (fun p => p.2 == id) : Nat) : Int) ∧ wr = w ∧ j ≤ L2) (fun _ v _ => L2 - (Lib.intOf v).toNat)
      case atStart => exact ⟨0, rfl, by simp, rfl, Nat.zero_le _⟩
      case round =>
        obtain ⟨j, rfl, rfl, hwr, hj⟩ := hrel
        obtain rfl : w = wr := hwr.symm
        have HJ := Lib.hid hj
        clear hj
        by_cases hlt : j < L2
        · have hjl : j < s.pins.length := by rw [HL2.out]; exact hlt
          obtain ⟨a, ha⟩ : ∃ a, s.pins[j]? = some a := ⟨_, List.getElem?_eq_getElem hjl⟩
          obtain ⟨gp, cp', hgp, _⟩ := ypR_row HP.out (fun e => by rw [e] at hjl; simp at hjl)
          cases hgp
          have HS := Lib.hid (countP_take (id := id) ha)
          have d1 : w.cell? ⟨gp, j * 2 + 1, none⟩ = some (.int .i64 (a.2 : Int)) := ypR_at HP.out ha (by decide) rfl
          have g1 : decide ((j : Int) < (L2 : Int)) = true := decide_eq_true (by omega)
          have g2 : decide (j < L2) = true := decide_eq_true hlt
          have i1 : (j : Int) < (L2 : Int) := by omega
          have hle := countP_take_le s.pins j id
          have hle2 : s.fds.count id ≤ s.fds.length := List.count_le_length
          have e3 : (j : Int) + 1 ≤ 9223372036854775807 := by have := HPL.out; omega
          have E1 : Hid (wrap64 ((H0 : Int) + (s.fds.count id : Int) + ((s.pins.take j).countP (fun p => p.2 == id) : Int) + 1) = ((H0 + s.fds.count id + (s.pins.take j).countP (fun p => p.2 == id) + 1 : Nat) : Int)) := by
            have := HH.out; have := HL.out; have := HPL.out
            unfold Hid wrap64; omega
          have HLT := Lib.hid hlt
          clear ha hjl hlt hle hle2
          by_cases h0 : a.2 = id
          · have g4 : ((a.2 : Int) == (id : Int)) = true := by simp [h0]
            have HZ : Hid (H0 + s.fds.count id + (s.pins.take (j + 1)).countP (fun p => p.2 == id) = H0 + s.fds.count id + (s.pins.take j).countP (fun p => p.2 == id) + 1) := by
              have := HS.out; rw [if_pos h0] at this; unfold Hid; omega
            clear h0
            go_wp2_with fail
            go_roundw
            case rel => exact ⟨j + 1, by go_num, by rw [HZ.out]; exact congrArg _ E1.out, trivial, by have := HLT.out; omega⟩
            case measure => have := HLT.out; simp [Lib.intOf]; omega
          · have g4 : ((a.2 : Int) == (id : Int)) = false := by simp; omega
            have HZ : Hid (H0 + s.fds.count id + (s.pins.take (j + 1)).countP (fun p => p.2 == id) = H0 + s.fds.count id + (s.pins.take j).countP (fun p => p.2 == id)) := by
              have := HS.out; rw [if_neg h0] at this; unfold Hid; omega
            clear h0
            go_wp2_with fail
            go_roundw
            case rel => exact ⟨j + 1, by go_num, by rw [HZ.out], trivial, by have := HLT.out; omega⟩
            case measure => have := HLT.out; simp [Lib.intOf]; omega
        · obtain rfl : j = L2 := by have := HJ.out; omega
          have HE : Hid (((H0 + s.fds.count id + (s.pins.take j).countP (fun p => p.2 == id) : Nat) : Int) = ((LD + H0 : Nat) : Int)) := by
            have := HLD.out
            rw [List.take_of_length_le (by have := HL2.out; omega)]
            unfold Hid; omega
          clear hlt
          have g0 : decide ((j : Int) < (j : Int)) = false := decide_eq_false (by omega)
          go_wp2_with fail
          go_ret
          exact ⟨ret_i HE.out, rfl⟩
end
end Go.Proofs.Ytmohbdbofehamaa
