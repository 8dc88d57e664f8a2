/-
  Layer 7: which types are well by themselves.
-/
import Derived.Test.YthilkgfbaddjpaaDoorLTypes
import Derived.Lib.Hide
import Derived.Deep.Cut
import Derived.Outline
namespace Go.Proofs.YthilkgfbaddjpaaDoor
open Go Go.RowKit
set_option linter.unusedVariables false
set_option linter.unusedSimpArgs false
set_option maxRecDepth 100000
theorem ret_bool {a b : Bool} (h : a = b) : Ending.returned (.bool a) = .returned (.bool b) := by rw [h]
def leadsB (id n : Int) : Bool := decide (1 ≤ id) && decide (id ≤ n)
def memB (n : Int) (m : Mem) : Bool := leadsB m.ty n && (decide (0 ≤ m.off) && decide (m.off % 8 = 0))
def sizedB (n : Int) : Bool := decide (n = 1 ∨ n = 2 ∨ n = 4 ∨ n = 8)
def aloneB (n : Int) (t : Ty) : Bool :=
  if t.kind = 1 then sizedB t.size
  else if t.kind = 2 then decide (t.ty = 0) || leadsB t.ty n
  else if t.kind = 8 then leadsB t.ty n
  else if t.kind = 3 then leadsB t.ty n && (decide (0 ≤ t.count) && decide (t.count ≤ 65536))
  else if t.kind = 4 then decide (0 ≤ t.size) && (decide (t.size ≤ 65536) && t.mems.all (memB n))
  else false
theorem leads_any (id n : Int) (w : World) :
    Calls Tryd.prog 35 #[.int .i64 id, .int .i64 n] w fun e w' => e = .returned (.bool (leadsB id n)) ∧ w = w' := by
  unfold leadsB
  by_cases h1 : 1 ≤ id
  · by_cases h2 : id ≤ n
    · have g1 : decide (1 ≤ id) = true := by simpa using h1
      have g2 : decide (id ≤ n) = true := by simpa using h2
      rw [g1, g2]
      go_enter Tryd.func35, Tryd.ntmps35
      go_wp2_with fail
      go_ret
      exact ⟨rfl, rfl⟩
    · have g1 : decide (1 ≤ id) = true := by simpa using h1
      have g2 : decide (id ≤ n) = false := by simpa using h2
      rw [g1, g2]
      go_enter Tryd.func35, Tryd.ntmps35
      go_wp2_with fail
      go_ret
      exact ⟨rfl, rfl⟩
  · have g1 : decide (1 ≤ id) = false := by simpa using h1
    rw [g1]
    go_enter Tryd.func35, Tryd.ntmps35
    go_wp2_with fail
    go_ret
    exact ⟨rfl, rfl⟩
theorem all_take_succ {α : Type} (f : α → Bool) (l : List α) (k : Nat) (m : α) (hm : l[k]? = some m) (h : (l.take k).all f = true) (hb : f m = true) : (l.take (k + 1)).all f = true := by
  rw [List.take_add_one, hm]
  simp [h, hb]
theorem all_bad {α : Type} (f : α → Bool) (l : List α) (k : Nat) (m : α) (hm : l[k]? = some m) (hb : f m = false) : l.all f = false := by
  rw [List.all_eq_false]
  exact ⟨m, List.mem_of_getElem? hm, by simp [hb]⟩
set_option maxHeartbeats 2000000 in
theorem membersAlone_any (A : Option Addr) (c : Nat) (ms : List Mem) (n : Int) (hlen : ms.length ≤ 9223372036854775807) (w : World) (h : MemsAt w A ms) :
    Calls Tryd.prog 38 #[.slice A ms.length c, .int .i64 n] w fun e w' => e = .returned (.bool (ms.all (memB n))) ∧ Below w.heap.size w w' := by
  have i1 : (ms.length : Int) ≤ 9223372036854775807 := by omega
  have H := Lib.hid h
  clear h hlen
  go_enter Tryd.func38, Tryd.ntmps38
  go_wp2_with fail
  go_loopw [6, 9] (fun a i wr => ∃ k : Nat, k ≤ ms.length ∧ i = .int .i64 k ∧ Below w.heap.size w wr ∧ (ms.take k).all (memB n) = true) (fun _ i _ => ms.length - (intOf i).toNat)
  case atStart => exact ⟨0, by omega, rfl, Below.refl _ _, rfl⟩
  case round =>
    obtain ⟨k, hk, rfl, hb, hall⟩ := hrel
    have HB := Lib.hid hb
    have HALL := Lib.hid hall
    clear hb hall
    by_cases hkn : k < ms.length
    · obtain ⟨m, hm⟩ : ∃ m, ms[k]? = some m := ⟨_, List.getElem?_eq_getElem hkn⟩
      obtain ⟨b, o, rfl, hlt, u0, u1, u2, _⟩ := (H.out.below (HB.out.mono (Nat.le_refl _))) k m hm
      have HM := Lib.hid hm
      have g1 : decide (k < ms.length) = true := by simpa using hkn
      have i2 : (k : Int) < (ms.length : Int) := by omega
      have i3 : (0 : Int) ≤ (k : Int) := by omega
      have HK : Hid (k < ms.length) := hkn
      clear hm hkn
      obtain ⟨mn, mt, mo⟩ := m
      simp only at u0 u1 u2
      have CL := Lib.hid (fun W => leads_any mt n W)
      have hb2 : Below w.heap.size w (wr.alloc (.cells #[.string mn, .int .i64 mt, .int .i64 mo] 60)) := HB.out.alloc HB.out.size _
      have HB2 := Lib.hid hb2
      clear hb2
      have hbad : ∀ q, memB n ⟨mn, mt, mo⟩ = q → Hid (memB n ⟨mn, mt, mo⟩ = q) := fun q h => h
      cases hl : leadsB mt n
      · have HF : Hid (ms.all (memB n) = false) := all_bad _ _ _ _ HM.out (by unfold memB; rw [hl]; rfl)
        rw [hl] at CL
        clear hl hbad
        go_wp2_with (go_at_call 35; refine (CL.out _).mono ?_; rintro e w1 ⟨rfl, rfl⟩)
        go_ret
        rw [HF.out]
        exact ⟨rfl, HB2.out⟩
      · rw [hl] at CL
        by_cases h0 : 0 ≤ mo
        · have q1 : decide (mo < 0) = false := by simpa using h0
          have e8 : mo % 8 = mo.tmod 8 := (Int.tmod_eq_emod_of_nonneg h0).symm
          by_cases h8 : mo % 8 = 0
          · have HA : Hid ((ms.take (k + 1)).all (memB n) = true) := all_take_succ _ _ _ _ HM.out HALL.out (by unfold memB; rw [hl]; simp [h0, h8])
            have q2 : (mo % 8 != 0) = false := by simpa using h8
            clear hl hbad h8 e8
            go_wp2_with (go_at_call 35; refine (CL.out _).mono ?_; rintro e w1 ⟨rfl, rfl⟩)
            go_roundw
            case rel => exact ⟨k + 1, by have := HK.out; omega, by go_num, HB2.out, HA.out⟩
            case measure => have := HK.out; simp [intOf]; omega
          · have HF : Hid (ms.all (memB n) = false) := all_bad _ _ _ _ HM.out (by unfold memB; rw [hl]; simp [h8])
            have q2 : (mo % 8 != 0) = true := by simpa using h8
            clear hl hbad h8 e8
            go_wp2_with (go_at_call 35; refine (CL.out _).mono ?_; rintro e w1 ⟨rfl, rfl⟩)
            go_ret
            rw [HF.out]
            exact ⟨rfl, HB2.out⟩
        · have q1 : decide (mo < 0) = true := by simp; omega
          have HF : Hid (ms.all (memB n) = false) := all_bad _ _ _ _ HM.out (by unfold memB; rw [hl]; simp [h0])
          clear hl hbad h0
          go_wp2_with (go_at_call 35; refine (CL.out _).mono ?_; rintro e w1 ⟨rfl, rfl⟩)
          go_ret
          rw [HF.out]
          exact ⟨rfl, HB2.out⟩
    · have : k = ms.length := by omega
      subst this
      have g1 : decide (ms.length < ms.length) = false := by simp
      have HF : Hid (ms.all (memB n) = true) := by have := HALL.out; rwa [List.take_length] at this
      go_wp2_with fail
      go_ret
      rw [HF.out]
      exact ⟨rfl, HB.out⟩
end Go.Proofs.YthilkgfbaddjpaaDoor
