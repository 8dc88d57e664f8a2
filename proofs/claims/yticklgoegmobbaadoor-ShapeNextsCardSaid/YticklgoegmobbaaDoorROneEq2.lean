/-
  One of package shape is the reference's One. One of package shape is the reference's One: jumps and operations. One of package shape is the reference's One: operations, and all of it.
-/
import Derived.Test.YticklgoegmobbaaDoorROne5
import Derived.Test.YticklgoegmobbaaDoorROneEq
namespace Go.Proofs.YticklgoegmobbaaDoor
open Go Go.RowKit
set_option linter.unusedVariables false
set_option linter.unusedSimpArgs false
set_option maxRecDepth 100000
theorem line_in {o d s f m : Int} (h : 0 ≤ o ∧ o ≤ 255) : lineL o d s f m = if (o % 8 == 4) || (o % 8 == 7) then aluT o d s f m
  else if (o % 8 == 1) || ((o % 8 == 2) || (o % 8 == 3)) then movesL o d s f m
  else if (o % 8 == 5) || (o % 8 == 6) then jumpsL o d s f m
  else [] := by
  unfold lineL
  rw [if_neg (by simp; omega), if_neg (by simp; omega)]
theorem fits_iff (o d s f m : Int) : FitsR o d s f m ↔ ((0 ≤ o ∧ o ≤ 255) ∧ (0 ≤ d ∧ d ≤ 10) ∧ (0 ≤ s ∧ s ≤ 10) ∧ (-32768 ≤ f ∧ f ≤ 32767) ∧ (-2147483648 ≤ m ∧ m ≤ 2147483647)) := Iff.rfl
theorem sizeV_eq (o : Int) : sizeV o = if o % 8 < 1 ∨ 3 < o % 8 then 0 else if o / 8 % 4 = 0 then 4 else if o / 8 % 4 = 1 then 2 else if o / 8 % 4 = 2 then 1 else 8 := rfl
theorem eq_out {o d s f m : Int} (h : ¬ (0 ≤ o ∧ o ≤ 255)) : oneB o d s f m = r05B o d s f m := by
  have h1 : decide (FitsR o d s f m) = false := decide_eq_false (fun hf => h hf.1)
  have h2 : (o == 24) = false := by simp; omega
  have h3 : lineL o d s f m = [] := by
    unfold lineL
    by_cases h4 : o < 0
    · rw [if_pos (by simpa using h4)]
    · rw [if_neg (by simpa using h4), if_pos (by simp; omega)]
  unfold oneB r05B
  rw [h1, h2, h3]
  rfl
theorem eq_c0 {o d s f m : Int} (h : 0 ≤ o ∧ o ≤ 255) (hc : o % 8 = 0) : oneB o d s f m = r05B o d s f m := by
  have hl : lineL o d s f m = [] := by rw [line_in h]; simp [hc]
  unfold oneB r05B
  rw [hl]
  by_cases h24 : o = 24
  · subst h24
    rw [Bool.eq_iff_iff]
    simp [wideOkB, FitsR]
    omega
  · have : (o == 24) = false := by simpa using h24
    simp [hc, wideOkB, this]
theorem eq_c2 {o d s f m : Int} (h : 0 ≤ o ∧ o ≤ 255) (hc : o % 8 = 2) : oneB o d s f m = r05B o d s f m := by
  have h24 : (o == 24) = false := by simp; omega
  have hw : writesN o d s m = -1 := by simp [writesN, hc]
  have hi : r05Imm o m = true := by simp [r05Imm, hc]
  have hl : (lineL o d s f m).isEmpty = !(moveOk d s f m && ((o / 32 == 3) && (s == 0))) := by rw [line_in h]; simp only [hc]; rw [show ((2 : Int) == 4 || (2 : Int) == 7) = false from rfl]; simp [moves_empty, hc]
  unfold oneB r05B
  rw [h24, hl, hw, hi]
  rw [Bool.eq_iff_iff]
  simp [hc, storeB, and224 h, fits_iff, moveOk, regIn, offIn, immIn]
  omega
theorem eq_c1 {o d s f m : Int} (h : 0 ≤ o ∧ o ≤ 255) (hc : o % 8 = 1) : oneB o d s f m = r05B o d s f m := by
  have h24 : (o == 24) = false := by simp; omega
  have hw : writesN o d s m = d := by simp [writesN, hc]
  have hi : r05Imm o m = true := by simp [r05Imm, hc]
  have hl : (lineL o d s f m).isEmpty = !(moveOk d s f m && (((o / 32 == 4 && !(o == 153)) || o / 32 == 3) && (m == 0))) := by rw [line_in h]; simp only [hc]; rw [show ((1 : Int) == 4 || (1 : Int) == 7) = false from rfl]; simp [moves_empty, hc]
  have hsz : (sizeV o < 8) ↔ o / 8 % 4 ≠ 3 := by rw [sizeV_eq]; rw [if_neg (by omega)]; (repeat' split) <;> omega
  unfold oneB r05B
  rw [h24, hl, hw, hi]
  rw [Bool.eq_iff_iff]
  simp [hc, loadB, and224 h, fits_iff, moveOk, regIn, offIn, immIn, hsz]
  omega
theorem eq_c3 {o d s f m : Int} (h : 0 ≤ o ∧ o ≤ 255) (hc : o % 8 = 3) : oneB o d s f m = r05B o d s f m := by
  have h24 : (o == 24) = false := by simp; omega
  have hi : r05Imm o m = true := by simp [r05Imm, hc]
  have hl : (lineL o d s f m).isEmpty = !(moveOk d s f m && (((o / 32 == 3) && (m == 0)) || (((o == 195) || (o == 219)) && (lockM m || lockF m)))) := by rw [line_in h]; simp only [hc]; rw [show ((3 : Int) == 4 || (3 : Int) == 7) = false from rfl]; simp [moves_empty, hc]
  by_cases h6 : o / 32 = 6
  · have hsz : ((sizeV o == 4) || (sizeV o == 8)) = ((o == 195) || (o == 219)) := by
      rw [Bool.eq_iff_iff, sizeV_eq, if_neg (by omega)]
      (repeat' split) <;> (simp; omega)
    have hm3 : (o / 32 == 3) = false := by simp; omega
    have e96 : (bits .and .i64 o 224 == 96) = false := by rw [and224 h]; simp; omega
    have e192 : (bits .and .i64 o 224 == 192) = true := by rw [and224 h]; simp; omega
    have hw : ((o == 195) || (o == 219)) = true → (lockM m || lockF m) = true → (writesN o d s m == 10) = (lockF m && (s == 10)) := by
      intro h1 h2
      unfold writesN
      rw [hc, h1]
      simp only [lockM, lockF, Bool.or_eq_true, beq_iff_eq] at h2
      rcases h2 with (rfl | rfl | rfl | rfl | rfl) | (rfl | rfl | rfl | rfl | rfl) <;> simp [lockF]
    unfold oneB r05B
    rw [h24, hl, hi, hm3]
    simp only [hc, storeSrcB, e96, e192, lockB, hsz, Bool.false_and, Bool.false_or, Bool.true_and, if_false, Bool.false_eq_true, if_true]
    cases h1 : ((o == 195) || (o == 219))
    · simp [storeSrcB, e96, e192, lockB, hsz, h1]
    · cases h2 : (lockM m || lockF m)
      · simp only [Bool.or_eq_false_iff] at h2
        simp [storeSrcB, e96, e192, lockB, hsz, h1, h2.1, h2.2]
      · rw [hw h1 h2]
        have hM : lockM m = true → lockF m = false := by
          unfold lockM lockF
          simp only [Bool.or_eq_true, beq_iff_eq]
          rintro (rfl | rfl | rfl | rfl | rfl) <;> rfl
        rw [Bool.eq_iff_iff]
        cases h3 : lockM m <;> cases h4 : lockF m <;> simp_all [fits_iff, moveOk, regIn, offIn, immIn] <;> omega
  · have e192 : (bits .and .i64 o 224 == 192) = false := by rw [and224 h]; simp; omega
    have h195 : (o == 195) = false := by simp; omega
    have h219 : (o == 219) = false := by simp; omega
    have hw : writesN o d s m = -1 := by simp [writesN, hc, h195, h219]
    unfold oneB r05B
    rw [h24, hl, hw, hi]
    rw [Bool.eq_iff_iff]
    simp [hc, storeSrcB, e192, and224 h, fits_iff, moveOk, regIn, offIn, immIn, h195, h219]
    (repeat' split) <;> omega
end Go.Proofs.YticklgoegmobbaaDoor
namespace Go.Proofs.YticklgoegmobbaaDoor
open Go Go.RowKit
set_option linter.unusedVariables false
set_option linter.unusedSimpArgs false
set_option maxRecDepth 100000
theorem nameJ_all : ((List.range 256).all fun (n : Nat) => (nameJ ((n : Int) / 16).toNat).isEmpty == !jumpKs (bits .and .i64 (n : Int) 240)) = true := by kernel_rfl
theorem nameJ_ks {o : Int} (h : 0 ≤ o ∧ o ≤ 255) : (nameJ (o / 16).toNat).isEmpty = !jumpKs (bits .and .i64 o 240) := by
  obtain ⟨n, rfl⟩ := Int.eq_ofNat_of_zero_le h.1
  exact eq_of_beq (List.all_eq_true.1 nameJ_all n (List.mem_range.2 (by omega)))
theorem eq_c56 {o d s f m : Int} (h : 0 ≤ o ∧ o ≤ 255) (hc : o % 8 = 5 ∨ o % 8 = 6) : oneB o d s f m = r05B o d s f m := by
  have h24 : (o == 24) = false := by simp; omega
  have hw : writesN o d s m = -1 := by rcases hc with hc | hc <;> simp [writesN, hc]
  have hi : r05Imm o m = true := by rcases hc with hc | hc <;> simp [r05Imm, hc]
  have hl : (lineL o d s f m).isEmpty = (jumpsL o d s f m).isEmpty := by rw [line_in h]; rcases hc with hc | hc <;> simp [hc]
  have ho : oneB o d s f m = (decide (FitsR o d s f m) && jumpB o d s f m) := by unfold oneB; rcases hc with hc | hc <;> simp [hc]
  rw [ho]
  unfold r05B
  rw [h24, hl, hw, hi, jumps_empty, nameJ_ks h]
  unfold jumpB secondB
  cases h5 : (o == 5)
  · cases h133 : (o == 133)
    · cases h149 : (o == 149)
      · cases hk : jumpKs (bits .and .i64 o 240) <;> cases hJ : (bits .and .i64 o 8 == 0)
        all_goals
          rw [Bool.eq_iff_iff]
          simp [fits_iff, regIn, offIn, immIn]
          try omega
      · rw [Bool.eq_iff_iff]
        simp [fits_iff, regIn, offIn, immIn]
        omega
    · rw [Bool.eq_iff_iff]
      simp [fits_iff, regIn, offIn, immIn]
      omega
  · rw [Bool.eq_iff_iff]
    simp [fits_iff, regIn, offIn, immIn]
    omega
end Go.Proofs.YticklgoegmobbaaDoor
namespace Go.Proofs.YticklgoegmobbaaDoor
open Go Go.RowKit
set_option linter.unusedVariables false
set_option linter.unusedSimpArgs false
set_option maxRecDepth 100000
theorem minus_all : ((List.range 256).all fun (n : Nat) => !(bits .and .i64 (n : Int) 240 == 128) || (!(((n : Int) % 8 == 4) || ((n : Int) % 8 == 7)) || (((n : Int) == bits .or .i64 128 ((n : Int) % 8)) == (bits .and .i64 (n : Int) 8 == 0)))) = true := by kernel_rfl
theorem minus_is {o : Int} (h : 0 ≤ o ∧ o ≤ 255) (hK : (bits .and .i64 o 240 == 128) = true) (hc : ((o % 8 == 4) || (o % 8 == 7)) = true) : (o == bits .or .i64 128 (o % 8)) = (bits .and .i64 o 8 == 0) := by
  obtain ⟨n, rfl⟩ := Int.eq_ofNat_of_zero_le h.1
  have := List.all_eq_true.1 minus_all n (List.mem_range.2 (by omega))
  rw [hK, hc] at this
  simpa using this
theorem ks_all : ((List.range 256).all fun (n : Nat) => (bits .and .i64 (n : Int) 240 == 128) || (secondKs (bits .and .i64 (n : Int) 240) == !decide (12 < bits .and .i64 (n : Int) 240 / 16))) = true := by kernel_rfl
theorem ks_is {o : Int} (h : 0 ≤ o ∧ o ≤ 255) (hK : (bits .and .i64 o 240 == 128) = false) : secondKs (bits .and .i64 o 240) = !decide (12 < bits .and .i64 o 240 / 16) := by
  obtain ⟨n, rfl⟩ := Int.eq_ofNat_of_zero_le h.1
  have := List.all_eq_true.1 ks_all n (List.mem_range.2 (by omega))
  rw [hK, Bool.false_or] at this
  exact eq_of_beq this
theorem aluImm_is (o m : Int) (hc : ((o % 8 == 4) || (o % 8 == 7)) = true) : r05Imm o m = (!(bits .and .i64 o 8 == 0) || aluImmB o m) := by
  unfold r05Imm aluImmB bitsN
  rw [hc]
  cases hJ : (bits .and .i64 o 8 == 0) <;> cases h7 : (o % 8 == 7)
  · simp
  · simp
  all_goals
    cases h48 : ((bits .and .i64 o 240 == 48) || (bits .and .i64 o 240 == 144)) <;> cases h96 : ((bits .and .i64 o 240 == 96) || ((bits .and .i64 o 240 == 112) || (bits .and .i64 o 240 == 192)))
    · simp
    · simp only [Bool.true_and, if_true, if_false, Bool.false_eq_true, Bool.not_true, Bool.false_or]
      rw [Bool.eq_iff_iff]
      simp
      omega
    · simp
    · exfalso
      simp only [Bool.or_eq_true, beq_iff_eq] at h48 h96
      omega
theorem eq_alu {o d s f m : Int} (h : 0 ≤ o ∧ o ≤ 255) (hc : ((o % 8 == 4) || (o % 8 == 7)) = true) : oneB o d s f m = r05B o d s f m := by
  have hc' : o % 8 = 4 ∨ o % 8 = 7 := by simpa using hc
  have h24 : (o == 24) = false := by simp; omega
  have hw : writesN o d s m = d := by rcases hc' with hc | hc <;> simp [writesN, hc]
  have hl : (lineL o d s f m).isEmpty = (aluT o d s f m).isEmpty := by rw [line_in h]; rcases hc' with hc | hc <;> simp [hc]
  have ho : oneB o d s f m = (decide (FitsR o d s f m) && aluB o d s f m) := by unfold oneB; rcases hc' with hc | hc <;> simp [hc]
  have hi := aluImm_is o m hc
  rw [ho]
  unfold r05B
  rw [h24, hl, hw, hi, alu_empty]
  unfold aluB
  cases h128 : (bits .and .i64 o 240 == 128)
  · rw [ks_is h h128]
    cases h208 : (bits .and .i64 o 240 == 208)
    · unfold secondB aluOffB extendsB
      cases hJ : (bits .and .i64 o 8 == 0) <;> cases h13 : decide (12 < bits .and .i64 o 240 / 16) <;> cases h48 : ((bits .and .i64 o 240 == 48) || (bits .and .i64 o 240 == 144)) <;> cases h176 : (bits .and .i64 o 240 == 176) <;> cases h7 : (o % 8 == 7) <;> cases hI : aluImmB o m
      all_goals
        first
          | (exfalso; simp only [Bool.or_eq_true, beq_iff_eq] at h48 h176; omega)
          | (rw [Bool.eq_iff_iff]; simp [fits_iff, regIn, immIn]; done)
          | (rw [Bool.eq_iff_iff]; simp [fits_iff, regIn, immIn]; omega)
    · have hI : aluImmB o m = true := by
        have e : bits .and .i64 o 240 = 208 := by simpa using h208
        unfold aluImmB
        rw [e]
        rfl
      rw [hI]
      rw [Bool.eq_iff_iff]
      simp [fits_iff, regIn, turnB]
      omega
  · have h208 : (bits .and .i64 o 240 == 208) = false := by
      have e : bits .and .i64 o 240 = 128 := by simpa using h128
      rw [e]; rfl
    have hI : aluImmB o m = true := by
      have e : bits .and .i64 o 240 = 128 := by simpa using h128
      unfold aluImmB
      rw [e]
      rfl
    rw [minus_is h h128 hc, h208, hI]
    cases hJ : (bits .and .i64 o 8 == 0)
    all_goals
      rw [Bool.eq_iff_iff]
      simp [fits_iff, regIn]
      try omega
theorem one_eq (o d s f m : Int) : oneB o d s f m = r05B o d s f m := by
  by_cases h : 0 ≤ o ∧ o ≤ 255
  · have hc : o % 8 = 0 ∨ o % 8 = 1 ∨ o % 8 = 2 ∨ o % 8 = 3 ∨ (o % 8 = 4 ∨ o % 8 = 7) ∨ (o % 8 = 5 ∨ o % 8 = 6) := by omega
    rcases hc with hc | hc | hc | hc | hc | hc
    · exact eq_c0 h hc
    · exact eq_c1 h hc
    · exact eq_c2 h hc
    · exact eq_c3 h hc
    · exact eq_alu h (by simpa using hc)
    · exact eq_c56 h hc
  · exact eq_out h
end Go.Proofs.YticklgoegmobbaaDoor
