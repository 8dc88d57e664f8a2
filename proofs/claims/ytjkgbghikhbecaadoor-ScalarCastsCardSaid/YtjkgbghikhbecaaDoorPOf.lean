/-
  Package tnum: Of. math/bits.Len64 off the library's shelf.
-/
import Derived.Shelf.Strconv.Itoa0
import Derived.Lib.BitFns
import Derived.Test.YtjkgbghikhbecaaDoorPSmall
namespace Go.Proofs.YtjkgbghikhbecaaDoor
open Go Go.Shelf Go.RowKit Go.Maps Tn
set_option linter.unusedVariables false
set_option linter.unusedSimpArgs false
set_option maxRecDepth 100000
def lenRen : Go.Shelf.Ren := ⟨fun | 129 => 45 | n => n, fun | 46 => 43 | 3 => 3 | 53 => 22 | 4 => 4 | 5 => 5 | 9 => 9 | n => n, fun | n => n⟩
theorem lenLaid : Go.Proofs.Lays.n129 Tryd.prog lenRen := {
  mixed := by kernel_rfl
  f129 := Tryd.func45.trans (congrArg some (by kernel_rfl))
  t3 := Tryd.underlying3
  a3 := Tryd.isAgg3
  z3 := Tryd.sizeOf3
  v3 := Tryd.zeroValue3
  t4 := Tryd.underlying4
  a4 := Tryd.isAgg4
  z4 := Tryd.sizeOf4
  v4 := Tryd.zeroValue4
  t5 := Tryd.underlying5
  a5 := Tryd.isAgg5
  z5 := Tryd.sizeOf5
  v5 := Tryd.zeroValue5
  t9 := Tryd.underlying9
  a9 := Tryd.isAgg9
  z9 := Tryd.sizeOf9
  v9 := Tryd.zeroValue9
  t46 := Tryd.underlying43
  a46 := Tryd.isAgg43
  z46 := Tryd.sizeOf43
  v46 := Tryd.zeroValue43
  t53 := Tryd.underlying22
  a53 := Tryd.isAgg22
  z53 := Tryd.sizeOf22
  v53 := Tryd.zeroValue22 }
theorem bitLen_lenN : ∀ (n : Nat), n < 2 ^ 64 → Lib.bitLen n = lenN n := by
  intro n
  induction n using Nat.strongRecOn with
  | _ n ih =>
    intro h
    by_cases h0 : n = 0
    · subst h0; rw [lenN_zero]; rfl
    · rw [Lib.bitLen_half n h0 h, lenN_pos h0, ih (n / 2) (by omega) (by omega)]
      omega
theorem len64_any (x : B64) (w : World) : Calls Tryd.prog 45 #[uv x] w fun e w' => e = .returned (.int .i64 (blen x : Nat)) ∧ w' = w :=
  (Any.bits_Len64 lenLaid (n64 x) w (n64_lo x) (n64_le x)).mono (by
    rintro e w' ⟨rfl, rfl⟩
    refine ⟨?_, rfl⟩
    rw [bitLen_lenN _ (by have := x.isLt; unfold n64; omega)]
    rfl)
theorem lowM_of (k : Nat) (h : k ≤ 64) : IntKind.u64.wrap (IntKind.u64.wrap (2 ^ min k 64) - 1) = n64 (lowM k) := by
  rw [show min k 64 = k by omega]
  rw [IntKind.wrap_u64, IntKind.wrap_u64]
  unfold n64 lowM
  rw [BitVec.toNat_ofNat]
  have h1 : 1 ≤ 2 ^ k := Nat.one_le_two_pow
  have h2 : 2 ^ k ≤ 2 ^ 64 := Nat.pow_le_pow_right (by decide) h
  have e : ((2 : Int) ^ k) = ((2 ^ k : Nat) : Int) := by simp
  rw [e]
  generalize 2 ^ k = z at *
  omega
theorem pof_any (lo hi : B64) (w : World) : Calls Tryd.prog 26 #[uv lo, uv hi] w fun e w' => e = .returned (tv (tRange lo hi)) ∧ Below w.heap.size w w' := by
  have F := Lib.hid (res_box w)
  have CP := Lib.hid (fun W => partly_any lo (lowM (blen (lo ^^^ hi))) W)
  have CL := Lib.hid (len64_any (lo ^^^ hi))
  have r1 := n64_xor
  have HL := Lib.hid (lowM_of (blen (lo ^^^ hi)) (blen_le _))
  have hle := blen_le (lo ^^^ hi)
  unfold tRange tOf
  generalize blen (lo ^^^ hi) = k at *
  have hk : decide ((k : Int) < 0) = false := decide_eq_false (by omega)
  clear hle
  go_enter Tryd.func26, Tryd.ntmps26
  go_upto_region 1 with fail
  have hr := F.out
  clear F
  generalize w.alloc (.cells #[.int .u64 0, .int .u64 0] tnT) = wz at *
  have HR := Lib.hid hr
  clear hr
  go_upto_region 2 with (go_at_call 45; refine (CL.out _).mono ?_; rintro e w1 ⟨rfl, rfl⟩)
  have hl := HL.out
  go_wp2_with (go_at_call 44; refine (CP.out _).mono ?_; rintro e w1 ⟨rfl, hb⟩; have hr := HR.out.keeps (keeps_below hb); have ff := hr.frozen; obtain ⟨f0, f1⟩ := ff; have cc := hr.cells; obtain ⟨x0, x1, d0, d1⟩ := cc; have HR1 := Lib.hid hr; clear hr hb)
  obtain ⟨k1, k2⟩ := HR1.out.fill (uv (lo &&& ~~~lowM k)) (uv (lowM k))
  refine bodyPost_ret (results_cell_row rfl _ _ w.heap.size tnT _ (0, 0) _ rfl k1 Tryd.underlying24 rfl (by kernel_rfl)) rfl ?_
  exact ⟨rfl, k2⟩
end Go.Proofs.YtjkgbghikhbecaaDoor
