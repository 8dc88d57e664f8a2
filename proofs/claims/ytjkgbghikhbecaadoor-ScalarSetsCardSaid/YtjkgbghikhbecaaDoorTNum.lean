/-
  Numbers of 64 bits as the model has them (integers) and as bits (BitVec 64).
-/
import Derived.Test.YtjkgbghikhbecaaDoorTBits
import Derived.Test.YtjkgbghikhbecaaDoorArith
namespace Go.Proofs.YtjkgbghikhbecaaDoor.Tn
open Go.RowKit (wrap32 wrap64)
set_option linter.unusedVariables false
set_option linter.unusedSimpArgs false
/-- The integer of 64 bits. -/
def n64 (x : B64) : Int := (x.toNat : Int)
theorem n64_lo (x : B64) : 0 ≤ n64 x := by unfold n64; omega
theorem n64_hi (x : B64) : n64 x < 18446744073709551616 := by have := x.isLt; unfold n64; omega
theorem n64_le (x : B64) : n64 x ≤ 18446744073709551615 := by have := n64_hi x; omega
theorem n64_inj {x y : B64} : n64 x = n64 y ↔ x = y := by
  unfold n64
  constructor
  · intro h; exact BitVec.eq_of_toNat_eq (by omega)
  · intro h; rw [h]
theorem n64_of (z : Int) (h1 : 0 ≤ z) (h2 : z < 18446744073709551616) : ∃ x, z = n64 x := ⟨BitVec.ofNat 64 z.toNat, by unfold n64; rw [BitVec.toNat_ofNat]; omega⟩
theorem n64_beq (x y : B64) : (n64 x == n64 y) = (x == y) := by
  rw [Bool.eq_iff_iff, beq_iff_eq, beq_iff_eq, n64_inj]
theorem n64_and (x y : B64) : bits .and .u64 (n64 x) (n64 y) = n64 (x &&& y) := by
  rw [u64_and _ _ (n64_lo x) (n64_hi x) (n64_lo y) (n64_hi y)]; unfold n64; simp
theorem n64_or (x y : B64) : bits .or .u64 (n64 x) (n64 y) = n64 (x ||| y) := by
  rw [u64_or _ _ (n64_lo x) (n64_hi x) (n64_lo y) (n64_hi y)]; unfold n64; simp
theorem n64_xor (x y : B64) : bits .xor .u64 (n64 x) (n64 y) = n64 (x ^^^ y) := by
  rw [u64_xor _ _ (n64_lo x) (n64_hi x) (n64_lo y) (n64_hi y)]; unfold n64; simp
theorem n64_andNot (x y : B64) : bits .andNot .u64 (n64 x) (n64 y) = n64 (x &&& ~~~y) := by
  rw [u64_andNot _ _ (n64_lo x) (n64_hi x) (n64_lo y) (n64_hi y)]
  unfold n64
  rw [BitVec.toNat_and, BitVec.toNat_not]
  simp
theorem n64_add (x y : B64) : (n64 x + n64 y) % 18446744073709551616 = n64 (x + y) := by
  unfold n64; rw [BitVec.toNat_add]; omega
theorem n64_sub (x y : B64) : (n64 x - n64 y) % 18446744073709551616 = n64 (x - y) := by
  have := x.isLt
  have := y.isLt
  unfold n64; rw [BitVec.toNat_sub]; omega
theorem n64_mul (x y : B64) : (n64 x * n64 y) % 18446744073709551616 = n64 (x * y) := by
  unfold n64
  rw [BitVec.toNat_mul, ← Int.natCast_mul]
  omega
theorem n64_addw (x y : B64) : IntKind.u64.wrap (n64 x + n64 y) = n64 (x + y) := by rw [IntKind.wrap_u64, n64_add]
theorem n64_subw (x y : B64) : IntKind.u64.wrap (n64 x - n64 y) = n64 (x - y) := by rw [IntKind.wrap_u64, n64_sub]
theorem n64_mulw (x y : B64) : IntKind.u64.wrap (n64 x * n64 y) = n64 (x * y) := by rw [IntKind.wrap_u64, n64_mul]
theorem n64_shl (x : B64) (k : Nat) : (n64 x * 2 ^ k) % 18446744073709551616 = n64 (x <<< k) := by
  unfold n64
  rw [BitVec.toNat_shiftLeft, Nat.shiftLeft_eq]
  have e : ((x.toNat : Int) * 2 ^ k) = ((x.toNat * 2 ^ k : Nat) : Int) := by simp
  rw [e]
  omega
theorem n64_shr (x : B64) (k : Nat) : n64 x / 2 ^ k = n64 (x >>> k) := by
  unfold n64
  rw [BitVec.toNat_ushiftRight, Nat.shiftRight_eq_div_pow]
  simp
theorem n64_dbl (x : B64) : ((n64 x : Int) * (2 : Int)) % (18446744073709551616 : Int) = n64 (x <<< 1) := by
  have h := n64_shl x 1
  simpa using h
theorem n64_dblw (x : B64) : IntKind.u64.wrap (n64 x * (2 : Int)) = n64 (x <<< 1) := by rw [IntKind.wrap_u64]; exact n64_dbl x
theorem n64_half (x : B64) : (n64 x : Int) / (2 : Int) = n64 (x >>> 1) := by
  have h := n64_shr x 1
  simpa using h
theorem n64_or1 (x : B64) : bits .or .u64 (n64 x) 1 = n64 (x ||| 1) := n64_or x 1
theorem n64_and1 (x : B64) : bits .and .u64 (n64 x) 1 = n64 (x &&& 1) := n64_and x 1
theorem n64_int (x : B64) : wrap64 (n64 x) = x.toInt := by
  have := x.isLt
  unfold wrap64 n64
  rw [BitVec.toInt_eq_toNat_cond]
  split <;> omega
theorem n64_toInt (x : B64) : x.toInt % 18446744073709551616 = n64 x := by
  rw [← n64_int]
  have := n64_hi x
  have := n64_lo x
  unfold wrap64
  omega
theorem n64_sshr (x : B64) (k : Nat) : (wrap64 (n64 x) / 2 ^ k) % 18446744073709551616 = n64 (x.sshiftRight k) := by
  rw [n64_int, ← n64_toInt (x.sshiftRight k), BitVec.toInt_sshiftRight, Int.shiftRight_eq_div_pow]
  simp
/-- The lower 32 bits. -/
def lo32 (x : B64) : BitVec 32 := x.setWidth 32
def up32 (x : BitVec 32) : B64 := x.setWidth 64
theorem n64_low (x : B64) : n64 x % 4294967296 = n64 (up32 (lo32 x)) := by
  unfold n64 up32 lo32
  rw [BitVec.toNat_setWidth, BitVec.toNat_setWidth]
  omega
theorem n64_up (x : BitVec 32) : n64 (up32 x) = (x.toNat : Int) := by
  have := x.isLt
  unfold n64 up32
  rw [BitVec.toNat_setWidth]
  omega
theorem n32_int (x : B64) : wrap32 (n64 x) = (lo32 x).toInt := by
  unfold wrap32 n64 lo32
  rw [BitVec.toInt_eq_toNat_cond, BitVec.toNat_setWidth]
  split <;> omega
/-- What the six operations make, and the shifts. -/
def bop (op : Int) (x y : B64) : B64 := if op = 0 then x + y else if op = 16 then x - y else if op = 32 then x * y else if op = 64 then x ||| y else if op = 80 then x &&& y else x ^^^ y
theorem binV_bop {op : Int} (h : op = 0 ∨ op = 16 ∨ op = 32 ∨ op = 64 ∨ op = 80 ∨ op = 160) (x y : B64) : binV op true false (n64 x) (n64 y) = n64 (bop op x y) ∧ binE op false = 0 := by
  have c1 : cut true (n64 x) = n64 x := cut_t _ (n64_lo _) (n64_le _)
  have c2 : cut true (n64 y) = n64 y := cut_t _ (n64_lo _) (n64_le _)
  have c3 : ∀ z, cut true z = z % 18446744073709551616 := fun z => rfl
  have c4 : ∀ z, n64 z % 18446744073709551616 = n64 z := fun z => by have := n64_lo z; have := n64_hi z; omega
  rcases h with rfl | rfl | rfl | rfl | rfl | rfl
  · refine ⟨?_, rfl⟩
    show cut true (cut true (n64 x) + cut true (n64 y)) = n64 (x + y)
    rw [c1, c2, c3, n64_add]
  · refine ⟨?_, rfl⟩
    show cut true (cut true (n64 x) - cut true (n64 y)) = n64 (x - y)
    rw [c1, c2, c3, n64_sub]
  · refine ⟨?_, rfl⟩
    show cut true (cut true (n64 x) * cut true (n64 y)) = n64 (x * y)
    rw [c1, c2, c3, n64_mul]
  · refine ⟨?_, rfl⟩
    show cut true (bits .or .u64 (cut true (n64 x)) (cut true (n64 y))) = n64 (x ||| y)
    rw [c1, c2, c3, n64_or, c4]
  · refine ⟨?_, rfl⟩
    show cut true (bits .and .u64 (cut true (n64 x)) (cut true (n64 y))) = n64 (x &&& y)
    rw [c1, c2, c3, n64_and, c4]
  · refine ⟨?_, rfl⟩
    show cut true (bits .xor .u64 (cut true (n64 x)) (cut true (n64 y))) = n64 (x ^^^ y)
    rw [c1, c2, c3, n64_xor, c4]
def sop (op : Int) (wide : Bool) (k : Nat) (x : B64) : B64 :=
  if wide then (if op = 96 then x <<< k else if op = 112 then x >>> k else x.sshiftRight k)
  else up32 (if op = 96 then lo32 x <<< k else if op = 112 then lo32 x >>> k else (lo32 x).sshiftRight k)
theorem shc_k (wide : Bool) {k : Nat} (h : k ≤ if wide then 63 else 31) : shc wide (cut wide (k : Int)) = (k : Int) := by
  rw [shc_cut]
  unfold shc
  cases wide <;> simp at h ⊢ <;> omega
theorem up_shl (x : B64) (k : Nat) : (n64 (up32 (lo32 x)) * 2 ^ k) % 4294967296 = n64 (up32 (lo32 x <<< k)) := by
  rw [n64_up, n64_up, BitVec.toNat_shiftLeft, Nat.shiftLeft_eq]
  have e : (((lo32 x).toNat : Int) * 2 ^ k) = (((lo32 x).toNat * 2 ^ k : Nat) : Int) := by simp
  rw [e]
  omega
theorem up_shr (x : B64) (k : Nat) : (n64 (up32 (lo32 x)) / 2 ^ k) % 4294967296 = n64 (up32 (lo32 x >>> k)) := by
  have h := (lo32 x >>> k).isLt
  rw [n64_up, n64_up]
  have e : ((lo32 x).toNat : Int) / 2 ^ k = ((lo32 x >>> k).toNat : Int) := by
    rw [BitVec.toNat_ushiftRight, Nat.shiftRight_eq_div_pow]; simp
  rw [e]
  omega
theorem toInt32 (x : BitVec 32) : x.toInt % 4294967296 = (x.toNat : Int) := by
  have := x.isLt
  rw [BitVec.toInt_eq_toNat_cond]
  split <;> omega
theorem up_sshr (x : B64) (k : Nat) : (wrap32 (n64 (up32 (lo32 x))) / 2 ^ k) % 4294967296 = n64 (up32 ((lo32 x).sshiftRight k)) := by
  rw [n32_int, n64_up, ← toInt32, BitVec.toInt_sshiftRight, Int.shiftRight_eq_div_pow]
  have e : lo32 (up32 (lo32 x)) = lo32 x := by
    apply BitVec.eq_of_toNat_eq
    unfold lo32 up32
    simp only [BitVec.toNat_setWidth]
    omega
  rw [e]
  simp
theorem binV_of {op : Int} (wide : Bool) (a b : Int) (h : binOk op false = true) : binV op wide false a b = cut wide (opV op wide false (cut wide a) (cut wide b)) ∧ binE op false = 0 := ⟨if_pos h, if_pos h⟩
theorem opV_96 (wide s : Bool) (a b : Int) : opV 96 wide s a b = a * 2 ^ (shc wide b).toNat := by
  unfold opV
  rw [if_neg (by decide), if_neg (by decide), if_neg (by decide), if_neg (by decide), if_neg (by decide), if_neg (by decide), if_pos rfl]
theorem opV_112 (wide s : Bool) (a b : Int) : opV 112 wide s a b = a / 2 ^ (shc wide b).toNat := by
  unfold opV
  rw [if_neg (by decide), if_neg (by decide), if_neg (by decide), if_neg (by decide), if_neg (by decide), if_neg (by decide), if_neg (by decide), if_pos rfl]
theorem opV_192 (wide s : Bool) (a b : Int) : opV 192 wide s a b = sgn wide a / 2 ^ (shc wide b).toNat := by
  unfold opV
  rw [if_neg (by decide), if_neg (by decide), if_neg (by decide), if_neg (by decide), if_neg (by decide), if_neg (by decide), if_neg (by decide), if_neg (by decide), if_neg (by decide), if_neg (by decide), if_neg (by decide), if_neg (by decide)]
theorem cut_w (z : Int) : cut true z = z % 18446744073709551616 := rfl
theorem cut_n (z : Int) : cut false z = z % 4294967296 := rfl
theorem sgn_w (z : Int) : sgn true z = wrap64 z := rfl
theorem sgn_n (z : Int) : sgn false z = wrap32 z := rfl
theorem n64_mod (z : B64) : n64 z % 18446744073709551616 = n64 z := by have := n64_lo z; have := n64_hi z; omega
theorem binV_sop {op : Int} (h : op = 96 ∨ op = 112 ∨ op = 192) (wide : Bool) (x : B64) {k : Nat} (hk : k ≤ if wide then 63 else 31) : binV op wide false (n64 x) (k : Int) = n64 (sop op wide k x) ∧ binE op false = 0 := by
  have hs := shc_k wide hk
  have hok : binOk op false = true := by rcases h with rfl | rfl | rfl <;> decide
  obtain ⟨e1, e2⟩ := binV_of (op := op) wide (n64 x) (k : Int) hok
  refine ⟨?_, e2⟩
  rw [e1]
  clear e1 e2 hok
  unfold sop
  cases wide
  · simp only [Bool.false_eq_true, if_false]
    rcases h with rfl | rfl | rfl
    · rw [if_pos rfl, opV_96, hs, Int.toNat_natCast, cut_n, cut_n, n64_low, up_shl]
    · rw [if_neg (by decide), if_pos rfl, opV_112, hs, Int.toNat_natCast, cut_n, cut_n, n64_low, up_shr]
    · rw [if_neg (by decide), if_neg (by decide), opV_192, hs, Int.toNat_natCast, cut_n, cut_n, sgn_n, n64_low, up_sshr]
  · simp only [if_true]
    rcases h with rfl | rfl | rfl
    · rw [if_pos rfl, opV_96, hs, Int.toNat_natCast, cut_w, cut_w, n64_mod, n64_shl]
    · rw [if_neg (by decide), if_pos rfl, opV_112, hs, Int.toNat_natCast, cut_w, cut_w, n64_mod, n64_shr, n64_mod]
    · rw [if_neg (by decide), if_neg (by decide), opV_192, hs, Int.toNat_natCast, cut_w, cut_w, sgn_w, n64_mod, n64_sshr]
end Go.Proofs.YtjkgbghikhbecaaDoor.Tn
