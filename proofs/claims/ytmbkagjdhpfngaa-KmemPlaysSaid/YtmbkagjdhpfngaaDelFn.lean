/-
  slices.IndexFunc, slices.DeleteFunc with Free's function: one number is taken out of a row.
-/
import Derived.Test.YtmbkagjdhpfngaaSortPdq
import Derived.Lib.SliceRun
import Derived.BigFrame
namespace Go.Proofs.Ytmbkagjdhpfngaa
open Go Go.RowKit Go.Maps
set_option linter.unusedVariables false

theorem free1_any (y x s : Nat) (w : World) (hc : w.cell? ⟨s, 0, none⟩ = some (.int .u32 (x : Int))) :
    Calls Try.prog 38 #[.int .u32 (y : Int), .pointer (some ⟨s, 0, none⟩)] w fun e w' => e = .returned (.bool (decide (y = x))) ∧ w = w' := by
  by_cases h : y = x
  · have h1 : ((y : Int) == (x : Int)) = true := by simp; omega
    have HE := Lib.hid (decide_eq_true h)
    clear h
    go_enter Try.func38, Try.ntmps38
    go_wp2
    go_ret
    exact ⟨by rw [HE.out]; rfl, rfl⟩
  · have h1 : ((y : Int) == (x : Int)) = false := by simp; omega
    have HE := Lib.hid (decide_eq_false h)
    clear h
    go_enter Try.func38, Try.ntmps38
    go_wp2
    go_ret
    exact ⟨by rw [HE.out]; rfl, rfl⟩
theorem zero_u32 (w : World) : (zeroValue 39).run Try.prog w = .ok (.int .u32 0) w := by kernel_rfl
theorem clear_one (w : World) (g o m c : Nat) (hm : m = 1) (u : Value) (hc : w.cell? ⟨g, o, none⟩ = some u) (hf : w.frozen? ⟨g, o, none⟩ = false) (ty : TypeId) :
    (Builtin.clear_ #[40] ty #[.slice (some ⟨g, o, none⟩) m c]).run Try.prog w = .ok (.tuple #[]) (w.setCell ⟨g, o, none⟩ (.int .u32 0)) := by
  subst hm
  refine Lib.run_clear_slice w 40 39 ty (.int .u32 0) Try.underlying40 zero_u32 rfl rfl g o 1 c (by omega) (fun j hj => ?_) (fun j hj => ?_)
  · obtain rfl : j = 0 := by omega
    rw [Nat.add_zero, hc]; rfl
  · obtain rfl : j = 0 := by omega
    exact hf
theorem setB_same (d : Array Nat) (i x : Nat) (hi : i < d.size) : (d.setIfInBounds i x)[i]! = x := by simp [hi]
theorem setB_other (d : Array Nat) (i t x : Nat) (h : t ≠ i) : (d.setIfInBounds i x)[t]! = d[t]! := by
  by_cases ht : t < d.size
  · have ht' : t < (d.setIfInBounds i x).size := by simpa using ht
    rw [getElem!_pos (d.setIfInBounds i x) t ht', getElem!_pos d t ht, Array.getElem_setIfInBounds_ne _ (Ne.symm h)]
  · have ht' : ¬ t < (d.setIfInBounds i x).size := by simpa using ht
    rw [getElem!_neg (d.setIfInBounds i x) t ht', getElem!_neg d t ht]
section
variable {w0 w : World} {g s x : Nat} {sp : List Value} {d : Array Nat}
theorem SRow.aside (h : SRow w0 w g sp d) (hs : Blk w0 s 39 #[.int .u32 (x : Int)]) (hsg : s ≠ g) : w.cell? ⟨s, 0, none⟩ = some (.int .u32 (x : Int)) :=
  (hs.keeps h.keep hsg).cell 0
set_option maxRecDepth 100000 in
theorem indexFunc_any (idx cap : Nat) (hsg : s ≠ g) (hs : Blk w0 s 39 #[.int .u32 (x : Int)]) (hidx : idx < d.size) (hat : d[idx]! = x) (hbef : ∀ j, j < idx → d[j]! ≠ x) (hcap : d.size ≤ cap) (hc : d.size ≤ 1048576) (h : SRow w0 w g sp d) :
    Calls Try.prog 48 #[.slice (some ⟨g, 0, none⟩) d.size cap, .func (.func 38) #[] #[.pointer (some ⟨s, 0, none⟩)]] w fun e w' => e = .returned (.int .i64 (idx : Int)) ∧ w = w' := by
  have CL := Lib.hid (fun y => free1_any y x s w (h.aside hs hsg))
  have HC := Lib.hid (fun (i : Nat) (hi : i < d.size) => h.cell hi)
  have HB := Lib.hid hbef
  have HA := Lib.hid hat
  clear h hbef hat hs
  obtain ⟨n, hn⟩ : ∃ n, n = d.size := ⟨_, rfl⟩
  rw [← hn] at hidx hcap hc HC ⊢
  clear hn
  go_enter Try.func48, Try.ntmps48
  go_wp2
  go_loop [8] (fun i => ∃ k : Nat, k ≤ idx ∧ i = .int .i64 k) (fun i => idx + 1 - (intOf i).toNat)
  case atStart => exact ⟨0, by omega, rfl⟩
  case round =>
    obtain ⟨k, hk, rfl⟩ := hrel
    have ck := HC.out k (by omega)
    have i1 : (k : Int) < (n : Int) := by omega
    have g1 : decide (k < n) = true := by simp; omega
    by_cases hki : k = idx
    · subst hki
      have cc := CL.out x
      rw [HA.out] at ck
      have he : decide (x = x) = true := by simp
      rw [he] at cc
      have CC := Lib.hid cc; clear cc
      go_wp2_with (go_at_call 38; refine CC.out.mono ?_; rintro e w' ⟨rfl, rfl⟩)
      go_ret
      exact ⟨rfl, rfl⟩
    · have hne := HB.out k (by omega)
      obtain ⟨y, hy⟩ : ∃ y, d[k]! = y := ⟨_, rfl⟩
      rw [hy] at ck hne
      clear hy
      have cc := CL.out y
      rw [decide_eq_false hne] at cc
      have CC := Lib.hid cc; clear cc
      go_wp2_with (go_at_call 38; refine CC.out.mono ?_; rintro e w' ⟨rfl, rfl⟩)
      go_round
      case rel => exact ⟨k + 1, by omega, by go_num⟩
      case measure => simp [intOf]; omega
/-- The places from idx on moved one down, as far as j. -/
def Moved (d dk : Array Nat) (idx j : Nat) : Prop := dk.size = d.size ∧ ∀ t, t < d.size → dk[t]! = if t < idx then d[t]! else if t + 1 < j then d[t + 1]! else d[t]!
def DelPost (w0 : World) (g : Nat) (d : Array Nat) (idx cap : Nat) (e : Ending) (w' : World) : Prop :=
  e = .returned (.slice (some ⟨g, 0, none⟩) (d.size - 1) cap) ∧ ∃ (dk : Array Nat) (sp : List Value), Moved d dk idx d.size ∧ Keeps (fun b => b = g) w0 w' ∧ Blk w' g 39 (((dk.toList.take (d.size - 1)).map encU) ++ sp).toArray ∧ sp.length = cap - (d.size - 1)
end
set_option maxRecDepth 100000 in
set_option maxHeartbeats 2000000 in
theorem deleteFunc_any (w0 w : World) (g s x : Nat) (sp : List Value) (d : Array Nat) (idx cap : Nat) (hsg : s ≠ g) (hs : Blk w0 s 39 #[.int .u32 (x : Int)]) (hidx : idx < d.size) (hat : d[idx]! = x) (hone : ∀ j, j < d.size → j ≠ idx → d[j]! ≠ x) (hcap : d.size ≤ cap) (hsp : sp.length = cap - d.size) (hc : d.size ≤ 1048576) (h : SRow w0 w g sp d) :
    Calls Try.prog 37 #[.slice (some ⟨g, 0, none⟩) d.size cap, .func (.func 38) #[] #[.pointer (some ⟨s, 0, none⟩)]] w (DelPost w0 g d idx cap) := by
  have CI := Lib.hid (indexFunc_any idx cap hsg hs hidx hat (fun j hj => hone j (by omega) (by omega)) hcap hc h)
  have HON := Lib.hid hone
  have HS := Lib.hid hs
  have H0 := Lib.hid h
  obtain ⟨n, hn⟩ : ∃ n, n = d.size := ⟨_, rfl⟩
  have HSP := Lib.hid hsp
  unfold DelPost
  rw [← hn] at hidx hcap hc CI HON HSP ⊢
  have HN := Lib.hid hn
  clear hn h hs hone hat hsp
  have g0 : ((idx : Int) == -1) = false := by simp
  go_enter Try.func37, Try.ntmps37
  go_wp2_with (go_at_call 48; refine CI.out.mono ?_; rintro e w' ⟨rfl, rfl⟩)
  go_loopw [5, 6] (fun i j wr => ∃ (k : Nat) (dk : Array Nat), idx + 1 ≤ k ∧ k ≤ n ∧ i = .int .i64 ((k : Int) - 1) ∧ j = .int .i64 k ∧ SRow w0 wr g sp dk ∧ Moved d dk idx k) (fun _ j _ => n - (intOf j).toNat)
  case atStart => exact ⟨idx + 1, d, by omega, by omega, by first | (congr 1; omega) | congr 1, by go_num, H0.out, rfl, fun t ht => by split; rfl; split; omega; rfl⟩
  case round =>
    clear H0 CI
    obtain ⟨k, dk, hk1, hk2, rfl, rfl, hr, hmv⟩ := hrel
    have HR := Lib.hid hr; clear hr
    have HM := Lib.hid hmv; clear hmv
    have hz : dk.size = n := HM.out.1.trans HN.out.symm
    have HZ := Lib.hid hz; clear hz
    by_cases hkn : k < n
    · have hkd : k < dk.size := by rw [HZ.out]; exact hkn
      have hkd1 : k - 1 < dk.size := by omega
      have ck := HR.out.cell hkd
      have ck1 := HR.out.cell hkd1
      have fk1 := HR.out.frozen (k - 1)
      have hne : dk[k]! ≠ x := by
        rw [HM.out.2 k (by rw [← HN.out]; exact hkn), if_neg (by omega), if_neg (by omega)]
        exact HON.out k hkn (by omega)
      have hset := HR.out.set_ hkd1 dk[k]!
      have hmoved : Moved d (dk.setIfInBounds (k - 1) dk[k]!) idx (k + 1) := by
        refine ⟨by rw [Array.size_setIfInBounds]; exact HM.out.1, fun t ht => ?_⟩
        by_cases e : t = k - 1
        · subst e
          rw [setB_same _ _ _ hkd1, HM.out.2 k (by rw [← HN.out]; exact hkn), if_neg (by omega), if_neg (by omega), if_neg (by omega), if_pos (by omega), show k - 1 + 1 = k by omega]
        · rw [setB_other _ _ _ _ e, HM.out.2 t ht]
          by_cases h1 : t < idx
          · rw [if_pos h1, if_pos h1]
          · rw [if_neg h1, if_neg h1]
            by_cases h2 : t + 1 < k
            · rw [if_pos h2, if_pos (by omega)]
            · rw [if_neg h2]
              by_cases h3 : t + 1 < k + 1
              · omega
              · rw [if_neg h3]
      obtain ⟨y, hy⟩ : ∃ y, dk[k]! = y := ⟨_, rfl⟩
      rw [hy] at ck hne hset hmoved
      clear hy
      have HSET := Lib.hid hset
      have HMV := Lib.hid hmoved
      have cc := free1_any y x s wr (HR.out.aside HS.out hsg)
      rw [decide_eq_false hne] at cc
      have CC := Lib.hid cc
      clear cc hset hmoved
      have i1 : (k : Int) < (n : Int) := by omega
      have g1 : decide (k < n) = true := by simp; omega
      have i2 : (0 : Int) ≤ (k : Int) - 1 := by omega
      have i3 : (k : Int) - 1 < (n : Int) := by omega
      have e2 : ((k : Int) - 1).toNat = k - 1 := by omega
      go_wp2_with (go_at_call 38; refine CC.out.mono ?_; rintro e w' ⟨rfl, rfl⟩)
      go_roundw
      case rel => exact ⟨k + 1, _, by omega, by omega, by first | (congr 1; omega) | congr 1, by go_num, HSET.out, HMV.out⟩
      case measure => simp [intOf]; omega
    · have hkn' : k = n := by omega
      subst hkn'
      have hl : k - 1 < dk.size := by rw [HZ.out]; omega
      have c1 := HR.out.cell hl
      have f1 := HR.out.frozen (k - 1)
      have hcl := clear_one wr g (k - 1) (k - (k - 1)) (cap - (k - 1)) (by omega) _ c1 f1
      have HEND := Lib.hid (show Keeps (fun b => b = g) w0 (wr.setCell ⟨g, k - 1, none⟩ (.int .u32 0)) ∧ Blk (wr.setCell ⟨g, k - 1, none⟩ (.int .u32 0)) g 39 (((dk.toList.take (k - 1)).map encU) ++ (.int .u32 0 :: sp)).toArray ∧ (Value.int .u32 0 :: sp).length = cap - (k - 1) from by
        have hs2 := HR.out.set_ hl 0
        refine ⟨hs2.keep, ?_, by simp [HSP.out]; omega⟩
        have hb := hs2.row
        have e : ((dk.setIfInBounds (k - 1) 0).toList.map encU ++ sp) = ((dk.toList.take (k - 1)).map encU) ++ (.int .u32 0 :: sp) := by
          have hlen : dk.toList.length = k := by rw [Array.length_toList]; exact HZ.out
          rw [Array.toList_setIfInBounds, List.set_eq_take_append_cons_drop, if_pos (by omega), List.drop_of_length_le (by omega)]
          simp [encU]
        rw [e] at hb
        exact hb)
      have g1 : decide (k < k) = false := by simp
      have i2 : (0 : Int) ≤ (k : Int) - 1 := by omega
      have i3 : (k : Int) - 1 ≤ (k : Int) := by omega
      have e2 : ((k : Int) - 1).toNat = k - 1 := by omega
      clear c1 f1
      have HM2 := HM
      go_wp2_with (simp only [hcl])
      go_ret
      exact ⟨rfl, dk, _, HM2.out, HEND.out⟩
end Go.Proofs.Ytmbkagjdhpfngaa
