/-
  The law KmemHolds, walked.
-/
import Derived.Test.YtkegmgpepciadaaAwake
namespace Go.Proofs.Ytkegmgpepciadaa
open Go Go.RowKit Go.Maps
set_option linter.unusedVariables false

theorem conv_blk {w : World} {g cap : Nat} {ys : List UInt8} (h : Blk w g 5 (ys.map byteV).toArray) :
    (convert 44 9 (.slice (some ⟨g, 0, none⟩) ys.length cap)).run Try.prog w = .ok (.string (bstr ys)) w := by
  have := Lib.run_convert_whole (P := Try.prog) w 44 5 9 Try.underlying44 Try.underlying5 Try.underlying9 g 0 (bstr ys) (fun i hi => by
    have hi' : i < ys.length := by rw [← bstr_size]; exact hi
    have := h.cell (0 + i)
    rw [List.getElem?_toArray, List.getElem?_map, Nat.zero_add, List.getElem?_eq_getElem hi'] at this
    rw [Nat.zero_add]
    exact this) cap
  rw [bstr_size] at this
  exact this
def zs32 : List UInt8 := List.replicate 32 0
theorem zs32_length : zs32.length = 32 := by simp [zs32]
theorem zs32_map : (zs32.map byteV).toArray = Array.replicate 32 (.int .u8 0) := rfl
theorem make32 (w : World) : (Instr.makeSlice 44 (.int .i64 32) (.int .i64 32)).run Try.prog w = .ok (.slice (some ⟨w.heap.size, 0, none⟩) 32 32) (w.alloc (.cells (Array.replicate 32 (Value.int .u8 0)) 5)) := make_run 32 (by omega) w
theorem new32 (w : World) : Blk (w.alloc (.cells (Array.replicate 32 (Value.int .u8 0)) 5)) w.heap.size 5 (zs32.map byteV).toArray := by rw [zs32_map]; exact Blk.new w _ _
theorem conv32 (w : World) : (convert 44 9 (.slice (some ⟨w.heap.size, 0, none⟩) 32 32)).run Try.prog (w.alloc (.cells (Array.replicate 32 (Value.int .u8 0)) 5)) = .ok (.string (bstr zs32)) (w.alloc (.cells (Array.replicate 32 (Value.int .u8 0)) 5)) :=
  conv_blk (ys := zs32) (new32 w)

theorem conv32' (w : World) : (convert 44 9 (.slice (some ⟨w.heap.size + 1, 0, none⟩) 32 32)).run Try.prog ((w.alloc (.cells (Array.replicate 32 (Value.int .u8 0)) 5)).alloc (.cells (Array.replicate 32 (Value.int .u8 0)) 5)) = .ok (.string (bstr zs32)) ((w.alloc (.cells (Array.replicate 32 (Value.int .u8 0)) 5)).alloc (.cells (Array.replicate 32 (Value.int .u8 0)) 5)) := by
  have := conv32 (w.alloc (.cells (Array.replicate 32 (Value.int .u8 0)) 5))
  simpa using this
/-- What the law's first part leaves: two regions of 32 bytes, the first of which holds ys. -/
def HoldsSt (B : Nat) (w0 : World) (bm : Nat) (ys : List UInt8) (w : World) : Prop :=
  ∃ st r1 r2, KF B w0 w bm 2 0 st [] ∧ st 1 = some r1 ∧ st 2 = some r2 ∧ r1.v = (3, ys, false) ∧ r2.v = (3, zs32, false)
section
variable {B : Nat} {w0 w : World} {bm : Nat} {ys : List UInt8}
theorem addr_1 (o : Nat) : addr 1 o = 4294967296 + (o : Int) := by unfold addr; omega
theorem addr_2_0 : addr 2 0 = 8589934592 := rfl
theorem holds_alloc1 (w : World) :
    Calls Try.prog 14 #[.pointer (some ⟨w.heap.size, 0, none⟩), .int .i64 32, .int .i64 3] (w.alloc (.cells #[.map none, .int .u32 0, .slice none 0 0, .int .i64 0] 62)) fun e w' => e = .returned (.tuple #[.int .u64 4294967296, .int .i64 0]) ∧ KFr w.heap.size w w.heap.size 1 0 (fun _ => none) [] 1 (3, zs32, false) w' :=
  kf_alloc (KF.start w) (by omega) (by omega) 32 3 (by omega) (by omega) (by omega) (by omega)
theorem holds_alloc2 (h : KFr B w0 bm 1 0 (fun _ => none) [] 1 (3, zs32, false) w) :
    Calls Try.prog 14 #[.pointer (some ⟨bm, 0, none⟩), .int .i64 32, .int .i64 3] w fun e w' => e = .returned (.tuple #[.int .u64 8589934592, .int .i64 0]) ∧ HoldsSt B w0 bm zs32 w' := by
  obtain ⟨r1, k1, e1⟩ := h
  refine (kf_alloc k1 (by omega) (by omega) 32 3 (by omega) (by omega) (by omega) (by omega)).mono ?_
  rintro e w' ⟨rfl, r2, k2, e2⟩
  exact ⟨rfl, _, r1, r2, k2, by simp [upd], by simp [upd], e1, e2⟩
theorem holds_write (h : HoldsSt B w0 bm zs32 w) (o k u : Nat) (hk : (k : Int) = 1 ∨ (k : Int) = 2 ∨ (k : Int) = 4 ∨ (k : Int) = 8) (hu : u ≤ 18446744073709551615) (ho : o + k ≤ 32) :
    Calls Try.prog 15 #[.pointer (some ⟨bm, 0, none⟩), .int .u64 (4294967296 + (o : Int)), .int .i64 (k : Int), .int .u64 (u : Int)] w fun e w' => e = .returned (.int .i64 0) ∧ HoldsSt B w0 bm (setAt zs32 o (wb u k)) w' := by
  obtain ⟨st, r1, r2, hk', h1, h2, e1, e2⟩ := h
  have hp : r1.perm = 3 := congrArg Prod.fst e1
  have hb : r1.bytes = zs32 := congrArg (fun x => x.2.1) e1
  have hq : r1.ret = false := congrArg (fun x => x.2.2) e1
  have c := kf_write hk' 1 o (by omega) (by omega) k hk u hu h1 (by rw [hp]; decide) (by rw [hb, zs32_length]; exact ho)
  rw [addr_1] at c
  refine c.mono ?_
  rintro e w' ⟨rfl, r, kr, er⟩
  exact ⟨rfl, _, r, r2, kr, upd_same _ _ _, by rw [upd_other _ _ (by omega)]; exact h2, by rw [er, hp, hb, hq], e2⟩
theorem holds_nowrite (h : HoldsSt B w0 bm zs32 w) (o : Nat) (size u : Int) (ho : o ≤ 39) (hs : ¬ ((size = 1 ∨ size = 2 ∨ size = 4 ∨ size = 8) ∧ o + size ≤ 32)) :
    Calls Try.prog 15 #[.pointer (some ⟨bm, 0, none⟩), .int .u64 (4294967296 + (o : Int)), .int .i64 size, .int .u64 u] w fun e w' => ∃ z, e = .returned (.int .i64 z) ∧ (z == 0) = false ∧ w = w' := by
  obtain ⟨st, r1, r2, ⟨hb', hB, S, mv, rv, hkm, hS⟩, h1, h2, e1, e2⟩ := h
  have hp : r1.perm = 3 := congrArg Prod.fst e1
  have hb : r1.bytes = zs32 := congrArg (fun x => x.2.1) e1
  by_cases hz : size = 1 ∨ size = 2 ∨ size = 4 ∨ size = 8
  · obtain ⟨k, rfl⟩ : ∃ k : Nat, size = k := ⟨size.toNat, by omega⟩
    have cf := find_bound hkm 1 o (by omega) (by omega) k (by omega) 2 h1 (by rw [hp]; decide) (by rw [hb, zs32_length]; omega)
    rw [addr_1] at cf
    exact (write_fault _ _ _ u 22 hz w cf).mono (by rintro e w' ⟨rfl, rfl⟩; exact ⟨22, rfl, rfl, rfl⟩)
  · exact (write_arg _ _ size u hz w).mono (by rintro e w' ⟨rfl, rfl⟩; exact ⟨1, rfl, rfl, rfl⟩)
theorem holds_bytes1 (h : HoldsSt B w0 bm ys w) (hl : ys.length = 32) :
    Calls Try.prog 16 #[.pointer (some ⟨bm, 0, none⟩), .int .u64 4294967296, .int .i64 32] w fun e w' => e = .returned (.tuple #[.string (bstr ys), .int .i64 0]) ∧ HoldsSt B w0 bm ys w' := by
  obtain ⟨st, r1, r2, hk', h1, h2, e1, e2⟩ := h
  have hb : r1.bytes = ys := congrArg (fun x => x.2.1) e1
  have c := kf_bytes hk' 1 0 (by omega) (by omega) 32 (by omega) h1 (by rw [hb, hl]; omega)
  rw [addr_1_0, hb, List.drop_zero, List.take_of_length_le (by omega)] at c
  refine c.mono ?_
  rintro e w' ⟨rfl, r, kr, er⟩
  exact ⟨rfl, _, r, r2, kr, upd_same _ _ _, by rw [upd_other _ _ (by omega)]; exact h2, by rw [er, e1], e2⟩
theorem holds_bytes2 (h : HoldsSt B w0 bm ys w) :
    Calls Try.prog 16 #[.pointer (some ⟨bm, 0, none⟩), .int .u64 8589934592, .int .i64 32] w fun e w' => e = .returned (.tuple #[.string (bstr zs32), .int .i64 0]) ∧ Below B w0 w' ∧ B ≤ w'.heap.size := by
  obtain ⟨st, r1, r2, hk', h1, h2, e1, e2⟩ := h
  have hb : r2.bytes = zs32 := congrArg (fun x => x.2.1) e2
  have c := kf_bytes hk' 2 0 (by omega) (by omega) 32 (by omega) h2 (by rw [hb, zs32_length]; omega)
  rw [addr_2_0, hb, List.drop_zero, List.take_of_length_le (by rw [zs32_length]; omega)] at c
  refine c.mono ?_
  rintro e w' ⟨rfl, r, kr, er⟩
  exact ⟨rfl, kr.1, kr.2.1⟩
end
set_option maxRecDepth 100000 in
set_option maxHeartbeats 2000000 in
theorem holds_walk_no (size a u : Int) (ha : 0 ≤ a) (ha' : a ≤ 18446744073709551615) (hs : ¬ ((size = 1 ∨ size = 2 ∨ size = 4 ∨ size = 8) ∧ a % 40 + size ≤ 32)) (w : World) :
    Calls Try.prog 4 #[.int .i64 size, .int .u64 a, .int .u64 u] w fun e w' => e = .returned (.bool true) ∧ Below w.heap.size w w' := by
  obtain ⟨o, ho, ho'⟩ : ∃ o : Nat, a % 40 = (o : Int) ∧ o ≤ 39 := ⟨(a % 40).toNat, by omega, by omega⟩
  rw [ho] at hs
  have HS := Lib.hid hs; clear hs
  have c0 := Lib.hid (new_any w)
  have c1 := Lib.hid (holds_alloc1 w)
  have hmk := make32
  have hcv := conv32
  have hcv2 := conv32'
  generalize hz : bstr zs32 = zz at hcv hcv2
  have HZ := Lib.hid hz; clear hz
  go_enter Try.func4, Try.ntmps4
  go_wp2_with fail
  refine c0.out.mono ?_
  rintro e w1 ⟨rfl, rfl⟩
  go_wp2_with fail
  refine c1.out.mono ?_
  rintro e w1 ⟨rfl, h1⟩
  have c2 := Lib.hid (holds_alloc2 h1); clear h1
  go_wp2_with fail
  refine c2.out.mono ?_
  rintro e w2 ⟨rfl, h2⟩
  have c3 := Lib.hid (holds_nowrite h2 o size u ho' HS.out)
  have H2 := Lib.hid h2; clear h2
  go_wp2_with fail
  refine c3.out.mono ?_
  rintro e w' ⟨z, rfl, hz0, rfl⟩
  have c4 := Lib.hid (holds_bytes1 H2.out zs32_length)
  rw [HZ.out] at c4
  go_wp2_with fail
  refine c4.out.mono ?_
  rintro e w3 ⟨rfl, h3⟩
  have c5 := Lib.hid (holds_bytes2 h3); clear h3
  rw [HZ.out] at c5
  go_wp2_with fail
  refine c5.out.mono ?_
  rintro e w4 ⟨rfl, hb4, hB4⟩
  have HB4 := Lib.hid hb4; clear hb4
  have cz := Lib.hid awake_any
  go_wp2_with (go_at_call 13; refine (cz.out _).mono ?_; rintro e w5 ⟨rfl, hb5⟩; have HB5 := Lib.hid hb5; clear hb5)
  go_ret
  exact ⟨rfl, (((HB4.out.alloc hB4 _).alloc (by simp; omega) _)).trans (HB5.out.mono (by simp; omega))⟩
set_option maxRecDepth 100000 in
set_option maxHeartbeats 2000000 in
theorem holds_walk_yes (k : Nat) (a : Int) (u : Nat) (ha : 0 ≤ a) (ha' : a ≤ 18446744073709551615) (hk : (k : Int) = 1 ∨ (k : Int) = 2 ∨ (k : Int) = 4 ∨ (k : Int) = 8) (hu : u ≤ 18446744073709551615) (hs : a % 40 + k ≤ 32) (w : World) :
    Calls Try.prog 4 #[.int .i64 (k : Int), .int .u64 a, .int .u64 (u : Int)] w fun e w' => e = .returned (.bool true) ∧ Below w.heap.size w w' := by
  obtain ⟨o, ho, ho'⟩ : ∃ o : Nat, a % 40 = (o : Int) ∧ o + k ≤ 32 := ⟨(a % 40).toNat, by omega, by omega⟩
  have hk8 : k ≤ 8 := by omega
  have HK := Lib.hid hk; clear hk hs
  have c0 := Lib.hid (new_any w)
  have c1 := Lib.hid (holds_alloc1 w)
  have hmk := make32
  have hcv := conv32
  generalize hz : bstr zs32 = zz at hcv
  have HZ := Lib.hid hz; clear hz
  have hyl : (setAt zs32 o (wb u k)).length = 32 := by rw [setAt_length _ _ _ (by rw [wb_length, zs32_length]; exact ho'), zs32_length]
  have HYL := Lib.hid hyl; clear hyl
  have cz := Lib.hid awake_any
  go_enter Try.func4, Try.ntmps4
  go_wp2_with fail
  refine c0.out.mono ?_
  rintro e w1 ⟨rfl, rfl⟩
  go_wp2_with fail
  refine c1.out.mono ?_
  rintro e w1 ⟨rfl, h1⟩
  have c2 := Lib.hid (holds_alloc2 h1); clear h1
  go_wp2_with fail
  refine c2.out.mono ?_
  rintro e w2 ⟨rfl, h2⟩
  have c3 := Lib.hid (holds_write h2 o k u HK.out hu ho'); clear h2
  go_wp2_with fail
  refine c3.out.mono ?_
  rintro e w3 ⟨rfl, h3⟩
  have c4 := Lib.hid (holds_bytes1 h3 HYL.out); clear h3
  go_wp2_with fail
  refine c4.out.mono ?_
  rintro e w4 ⟨rfl, h4⟩
  have c5 := Lib.hid (holds_bytes2 h4); clear h4
  rw [HZ.out] at c5
  go_wp2_with fail
  refine c5.out.mono ?_
  rintro e w5 ⟨rfl, hb5, hB5⟩
  have HB5 := Lib.hid hb5; clear hb5
  clear c0 c1 c2 c3 c4 c5
  go_wp2_with fail
  have hblk : Blk ((w5.alloc (.cells (Array.replicate 32 (Value.int .u8 0)) 5)).alloc (.cells (Array.replicate 32 (Value.int .u8 0)) 5)) (w5.heap.size + 1) 5 ((setAt zs32 o (wb u 0)).map byteV).toArray := by
    have := new32 (w5.alloc (.cells (Array.replicate 32 (Value.int .u8 0)) 5)); simpa [wb, setAt_nil] using this
  have hbel : Below w.heap.size w ((w5.alloc (.cells (Array.replicate 32 (Value.int .u8 0)) 5)).alloc (.cells (Array.replicate 32 (Value.int .u8 0)) 5)) := (HB5.out.alloc hB5 _).alloc (by simp; omega) _
  have HBL := Lib.hid hblk; clear hblk
  have HBE := Lib.hid hbel; clear hbel
  generalize hW : (w5.alloc (.cells (Array.replicate 32 (Value.int .u8 0)) 5)).alloc (.cells (Array.replicate 32 (Value.int .u8 0)) 5) = w6 at HBL HBE ⊢
  have hg : w.heap.size ≤ w5.heap.size + 1 := by omega
  clear hW hmk hcv
  generalize w5.heap.size + 1 = g at *
  go_loopw [18] (fun i wr => ∃ j : Nat, j ≤ k ∧ i = .int .i64 j ∧ Below w.heap.size w wr ∧ Blk wr g 5 ((setAt zs32 o (wb u j)).map byteV).toArray) (fun i _ => k - (intOf i).toNat)
  case atStart => exact ⟨0, by omega, rfl, HBE.out, HBL.out⟩
  case round =>
    obtain ⟨j, hj, rfl, hkw, hbw⟩ := hrel
    have HW := Lib.hid hkw; clear hkw
    have HB := Lib.hid hbw; clear hbw
    have hxl : (setAt zs32 o (wb u j)).length = 32 := by rw [setAt_length _ _ _ (by rw [wb_length, zs32_length]; omega), zs32_length]
    by_cases hlt : j < k
    · have hx : o + j < (setAt zs32 o (wb u j)).length := by omega
      have hcell := HB.out.cell (o + j)
      rw [List.getElem?_toArray, List.getElem?_map, List.getElem?_eq_getElem hx] at hcell
      simp only [Option.map_some] at hcell
      have hfr := HB.out.frozen (o + j)
      have hj8 : (8 : Int) * j ≤ 63 := by omega
      have HX := Lib.hid hxl; clear hxl
      go_wp2
      go_roundw
      case rel =>
        refine ⟨j + 1, by omega, by go_num, ?_, ?_⟩
        · exact HW.out.setCell (p := ⟨g, o + j, none⟩) hg _
        · have e0 := HB.out.set_ (o + j) (byteV (UInt8.ofNat (u / 256 ^ j)))
          have e1 : byteV (UInt8.ofNat (u / 256 ^ j)) = .int .u8 ((u : Int) / 2 ^ (8 * j) % 256) := by
            rw [byteV_ofNat, pow_256]
            congr 1
          have e2 : ((setAt zs32 o (wb u j)).map byteV).toArray.setIfInBounds (o + j) (byteV (UInt8.ofNat (u / 256 ^ j))) = ((setAt zs32 o (wb u (j + 1))).map byteV).toArray := by
            rw [wb_succ, setAt_snoc _ _ _ _ (by rw [wb_length, zs32_length]; omega), wb_length, List.map_set]
            simp
          rw [e2, e1] at e0
          exact e0
      case measure => simp [intOf]; omega
    · have : j = k := by omega
      subst this
      have hcw := conv_blk (cap := 32) HB.out
      rw [hxl] at hcw
      clear hxl
      go_wp2_with (go_at_call 13; refine (cz.out _).mono ?_; rintro e w7 ⟨rfl, hb7⟩; have HB7 := Lib.hid hb7; clear hb7)
      go_ret
      exact ⟨rfl, HW.out.trans (HB7.out.mono HW.out.size)⟩
theorem holds_walk (size a u : Int) (ha : 0 ≤ a) (ha' : a ≤ 18446744073709551615) (hu : 0 ≤ u) (hu' : u ≤ 18446744073709551615) (w : World) :
    Calls Try.prog 4 #[.int .i64 size, .int .u64 a, .int .u64 u] w fun e w' => e = .returned (.bool true) ∧ Below w.heap.size w w' := by
  by_cases h : (size = 1 ∨ size = 2 ∨ size = 4 ∨ size = 8) ∧ a % 40 + size ≤ 32
  · obtain ⟨k, rfl⟩ : ∃ k : Nat, size = k := ⟨size.toNat, by omega⟩
    obtain ⟨v, rfl⟩ : ∃ v : Nat, u = v := ⟨u.toNat, by omega⟩
    exact holds_walk_yes k a v ha ha' h.1 (by omega) h.2 w
  · exact holds_walk_no size a u ha ha' h w
end Go.Proofs.Ytkegmgpepciadaa
