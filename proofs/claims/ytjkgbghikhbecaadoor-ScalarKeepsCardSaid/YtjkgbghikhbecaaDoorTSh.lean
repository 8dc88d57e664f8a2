/-
  The reference of layer 15: Cast, shift.
-/
import Derived.Test.YtjkgbghikhbecaaDoorTRef2
namespace Go.Proofs.YtjkgbghikhbecaaDoor
open Go Go.RowKit Tn
set_option linter.unusedVariables false
set_option linter.unusedSimpArgs false
set_option maxRecDepth 100000
theorem tand_8 (x : B64) : bits .and .u64 (n64 x) 255 = n64 (x &&& lowM 8) := Tn.n64_and x (lowM 8)
theorem tand_16 (x : B64) : bits .and .u64 (n64 x) 65535 = n64 (x &&& lowM 16) := Tn.n64_and x (lowM 16)
theorem tand_32 (x : B64) : bits .and .u64 (n64 x) 4294967295 = n64 (x &&& lowM 32) := Tn.n64_and x (lowM 32)
theorem xcast_any (a : TN) (b : Int) (w : World) : Calls Tryd.prog 34 #[tv a, .int .i64 b] w fun e w' => e = .returned (tv (tCast a b)) ∧ Below w.heap.size w w' := by
  obtain ⟨v, m⟩ := a
  have F := Lib.hid (one_box (v, m) w)
  have q8 := tand_8
  have q16 := tand_16
  have q32 := tand_32
  by_cases h8 : b = 8
  · subst h8
    go_enter Tryd.func34, Tryd.ntmps34
    go_upto_region 1 with fail
    obtain ⟨⟨c0, c1⟩, hr⟩ := F.out
    clear F
    generalize (w.alloc (.cells #[uv v, uv m] tnT)).alloc (.cells #[.int .u64 0, .int .u64 0] tnT) = wz at *
    obtain ⟨f0, f1⟩ := hr.frozen
    obtain ⟨x0, x1, d0, d1⟩ := hr.cells
    have HR := Lib.hid hr
    clear hr
    go_wp2_with fail
    obtain ⟨k1, k2⟩ := HR.out.fill (uv (v &&& lowM 8)) (uv (m &&& lowM 8))
    refine bodyPost_ret (results_cell_row rfl _ _ (w.heap.size + 1) tnT _ (0, 0) _ rfl k1 Tryd.underlying24 rfl (by kernel_rfl)) rfl ?_
    exact ⟨rfl, k2⟩
  by_cases h16 : b = 16
  · subst h16
    go_enter Tryd.func34, Tryd.ntmps34
    go_upto_region 1 with fail
    obtain ⟨⟨c0, c1⟩, hr⟩ := F.out
    clear F
    generalize (w.alloc (.cells #[uv v, uv m] tnT)).alloc (.cells #[.int .u64 0, .int .u64 0] tnT) = wz at *
    obtain ⟨f0, f1⟩ := hr.frozen
    obtain ⟨x0, x1, d0, d1⟩ := hr.cells
    have HR := Lib.hid hr
    clear hr
    go_wp2_with fail
    obtain ⟨k1, k2⟩ := HR.out.fill (uv (v &&& lowM 16)) (uv (m &&& lowM 16))
    refine bodyPost_ret (results_cell_row rfl _ _ (w.heap.size + 1) tnT _ (0, 0) _ rfl k1 Tryd.underlying24 rfl (by kernel_rfl)) rfl ?_
    exact ⟨rfl, k2⟩
  by_cases h32 : b = 32
  · subst h32
    go_enter Tryd.func34, Tryd.ntmps34
    go_upto_region 1 with fail
    obtain ⟨⟨c0, c1⟩, hr⟩ := F.out
    clear F
    generalize (w.alloc (.cells #[uv v, uv m] tnT)).alloc (.cells #[.int .u64 0, .int .u64 0] tnT) = wz at *
    obtain ⟨f0, f1⟩ := hr.frozen
    obtain ⟨x0, x1, d0, d1⟩ := hr.cells
    have HR := Lib.hid hr
    clear hr
    go_wp2_with fail
    obtain ⟨k1, k2⟩ := HR.out.fill (uv (v &&& lowM 32)) (uv (m &&& lowM 32))
    refine bodyPost_ret (results_cell_row rfl _ _ (w.heap.size + 1) tnT _ (0, 0) _ rfl k1 Tryd.underlying24 rfl (by kernel_rfl)) rfl ?_
    exact ⟨rfl, k2⟩
  have e8 : (b != 8) = true := by simpa using h8
  have e16 : (b != 16) = true := by simpa using h16
  have e32 : (b != 32) = true := by simpa using h32
  have E : Hid (tCast (v, m) b = (v, m)) := if_neg (by omega)
  clear h8 h16 h32 q8 q16 q32
  go_enter Tryd.func34, Tryd.ntmps34
  go_upto_region 1 with fail
  obtain ⟨⟨c0, c1⟩, hr⟩ := F.out
  clear F
  generalize (w.alloc (.cells #[uv v, uv m] tnT)).alloc (.cells #[.int .u64 0, .int .u64 0] tnT) = wz at *
  obtain ⟨f0, f1⟩ := hr.frozen
  obtain ⟨x0, x1, d0, d1⟩ := hr.cells
  have HR := Lib.hid hr
  clear hr
  go_wp2_with fail
  obtain ⟨k1, k2⟩ := HR.out.fill (uv (v)) (uv (m))
  refine bodyPost_ret (results_cell_row rfl _ _ (w.heap.size + 1) tnT _ (0, 0) _ rfl k1 Tryd.underlying24 rfl (by kernel_rfl)) rfl ?_
  exact ⟨by rw [E.out], k2⟩
theorem low_and (x : B64) : bits .and .u64 (n64 x) 4294967295 = n64 (up32 (lo32 x)) := by rw [and_low _ (n64_lo x) (n64_le x), n64_low]
theorem wide_shl (x : B64) (k : Nat) : IntKind.u64.wrap (n64 x * 2 ^ k) = n64 (x <<< k) := by rw [IntKind.wrap_u64, n64_shl]
theorem wide_sshr (x : B64) (k : Nat) : IntKind.u64.wrap (wrap64 (n64 x) / 2 ^ k) = n64 (x.sshiftRight k) := by rw [IntKind.wrap_u64, n64_sshr]
theorem and_mod (z : Int) : bits .and .u64 (IntKind.u64.wrap z) 4294967295 = z % 4294967296 := by
  rw [IntKind.wrap_u64, and_low _ (by omega) (by omega)]
  omega
theorem nar_shl (x : B64) (k : Nat) : bits .and .u64 (IntKind.u64.wrap (bits .and .u64 (n64 x) 4294967295 * 2 ^ k)) 4294967295 = n64 (up32 (lo32 x <<< k)) := by rw [and_mod, low_and, up_shl]
theorem nar_shr (x : B64) (k : Nat) : bits .and .u64 (bits .and .u64 (n64 x) 4294967295 / 2 ^ k) 4294967295 = n64 (up32 (lo32 x >>> k)) := by
  rw [low_and, n64_shr, and_low _ (n64_lo _) (n64_le _), ← n64_shr, up_shr]
theorem nar_sshr (x : B64) (k : Nat) : bits .and .u64 (IntKind.u64.wrap (wrap64 (wrap32 (bits .and .u64 (n64 x) 4294967295)) / 2 ^ k)) 4294967295 = n64 (up32 ((lo32 x).sshiftRight k)) := by
  rw [and_mod, low_and, wrap32_64, up_sshr]
end Go.Proofs.YtjkgbghikhbecaaDoor
