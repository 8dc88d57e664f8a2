/-
  Package ring's store: a record's head is read and written.
-/
import Derived.Test.YtdihlmhipkcedaaGSto
namespace Go.Proofs.Ytdihlmhipkcedaa
open Go Go.RowKit Go.Maps
set_option linter.unusedVariables false
set_option linter.unusedSimpArgs false
set_option maxRecDepth 100000
def headV (size state : Int) : Value := .agg #[.int .i64 size, .int .i64 state]
theorem join_i64 (l : List UInt8) (b : UInt8) (h : l.length < 7) : bits .or .i64 (le l : Int) (IntKind.i64.wrap ((b.toNat : Int) * 2 ^ (8 * l.length))) = (le (l ++ [b]) : Int) := by
  have h1 := le_lt l
  rw [pow_256] at h1
  have h2 := b.toNat_lt
  have h3 : b.toNat * 2 ^ (8 * l.length) < 2 ^ 62 := by
    have : b.toNat * 2 ^ (8 * l.length) < 256 * 2 ^ (8 * l.length) := (Nat.mul_lt_mul_right (Nat.two_pow_pos _)).2 h2
    have h4 : 256 * 2 ^ (8 * l.length) = 2 ^ (8 * l.length + 8) := by rw [Nat.pow_add]; omega
    have h5 : (2 : Nat) ^ (8 * l.length + 8) ≤ 2 ^ 62 := Nat.pow_le_pow_right (by omega) (by omega)
    omega
  have h6 : 2 ^ (8 * l.length) ≤ 2 ^ 62 := Nat.pow_le_pow_right (by omega) (by omega)
  have e : IntKind.i64.wrap ((b.toNat : Int) * 2 ^ (8 * l.length)) = ((b.toNat * 2 ^ (8 * l.length) : Nat) : Int) := by
    have e0 : (b.toNat : Int) * 2 ^ (8 * l.length) = ((b.toNat * 2 ^ (8 * l.length) : Nat) : Int) := by simp
    rw [e0, IntWalk.i64_in _ (by omega)]
  have h7 : le l < 2 ^ 62 := by omega
  rw [e, bits_join_low .i64 62 (by decide) (fun n g0 g1 => IntWalk.i64_in _ (by omega)) (8 * l.length) (le l) _ (by omega) (by exact_mod_cast h1) (by exact_mod_cast h7) (by omega) ?_ (by exact_mod_cast h3), le_snoc, pow_256]
  · simp
  · have : b.toNat * 2 ^ (8 * l.length) % 2 ^ (8 * l.length) = 0 := Nat.mul_mod_left _ _
    exact_mod_cast this
abbrev bytesT : TypeId := 53
theorem sizeB2 (w : World) : (sizeOf (Try.prog.elem bytesT)).run Try.prog w = .ok 1 w := by kernel_rfl
theorem elemB2 : Try.prog.underlying bytesT = some (.slice (Try.prog.elem bytesT)) := by kernel_rfl
theorem slice_seven (g p c : Nat) (hc : 8 ≤ c) (w : World) : (Instr.slice bytesT (.slice (some ⟨g, p, none⟩) c c) none (some (.int .i64 7)) none).run Try.prog w = .ok (.slice (some ⟨g, p, none⟩) 7 c) w := by
  rw [run_slice_h (ht := elemB2) (h0 := by omega) (h2 := by omega), sizeB2]
  simp [Result.andThen, sliced, Addr.add]
section
variable {w : World} {g mx p size state : Nat} {bs : List UInt8}
set_option maxHeartbeats 1000000 in
theorem head_any (h : Blk w g u8T (bs.map byteV).toArray) (hl : bs.length = mx) (hp : p + 8 ≤ mx) (hm : mx ≤ 65536) (hh : (bs.drop p).take 8 = hb size state) (hs : size < 256 ^ 7) (ht : state < 256) :
    Calls Try.prog 20 #[rowV g mx, .int .i64 p] w fun e w' => e = .returned (headV size state) ∧ Below w.heap.size w w' := by
  have CP := Lib.hid (fun w => pieces_any g p 8 mx (by omega) (by omega) (by omega) hm w)
  rw [show min (p + 8) mx - p = 8 by omega, show p + 8 - min (p + 8) mx = 0 by omega] at CP
  have hget : ∀ i, i < 8 → bs[p + i]? = (hb size state)[i]? := fun i hi => by rw [← hh, List.getElem?_take, if_pos hi, List.getElem?_drop]
  have hb7 : bs[p + 7]? = some (UInt8.ofNat state) := (hget 7 (by omega)).trans (hb_state size state ht)
  have c7 : ∀ W, Blk W g u8T (bs.map byteV).toArray → W.cell? ⟨g, p + 7, none⟩ = some (.int .u8 state) := fun W hW => by
    rw [hW.cell, List.getElem?_toArray, List.getElem?_map, hb7, Option.map_some, byteV_ofNat, Nat.mod_eq_of_lt ht]
  have cj : ∀ W, Blk W g u8T (bs.map byteV).toArray → ∀ j b, (hb size state)[j]? = some b → j < 8 → W.cell? ⟨g, p + j, none⟩ = some (.int .u8 (b.toNat : Int)) := fun W hW j b e hj => by
    rw [hW.cell, List.getElem?_toArray, List.getElem?_map, hget j hj, e]; rfl
  have hsz := hb_size size state hs
  have C7 := Lib.hid c7; have CJ := Lib.hid cj; have HS := Lib.hid hsz; have HL := Lib.hid (hb_length size state)
  have H := Lib.hid h
  have SL := fun w => slice_seven g p 8 (by omega) w
  clear hget hb7 hh hs c7 cj hsz h
  generalize hb size state = hd at *
  have HB := Lib.hid (Blk.new w headT #[.int .i64 0, .int .i64 0])
  have B0 := Lib.hid (below_alloc w (.cells #[.int .i64 0, .int .i64 0] headT))
  have est : IntKind.i64.wrap (state : Int) = (state : Int) := IntWalk.i64_in _ (by omega)
  go_enter Try.func20, Try.ntmps20
  go_upto_region 2 with (go_at_call 33; refine (CP.out _).mono ?_; rintro e w1 ⟨rfl, m, hm1⟩; have B1 : Hid (Below w.heap.size w w1) := hm1 ▸ below_then B0.out (below_drewN _ m); have HB1 : Hid (Blk w1 w.heap.size headT #[.int .i64 0, .int .i64 0]) := hm1 ▸ HB.out.drewN m; clear hm1)
  have H1 := Lib.hid (blk_below H.out B1.out)
  have d7 := C7.out w1 H1.out
  clear B0 HB
  go_upto_region 4 with fail
  have HB2 := Lib.hid (Blk.new w1 headT #[.int .i64 0, .int .i64 state])
  have HW2 := Lib.hid (show Keeps (fun _ => False) w1 (w1.alloc (.cells #[.int .i64 0, .int .i64 state] headT)) from keeps_grow (below_alloc _ _))
  go_loopw [24] (fun i wr => ∃ j : Nat, j ≤ 7 ∧ i = .int .i64 j ∧ Below w1.heap.size w1 wr ∧ Blk wr w1.heap.size headT #[.int .i64 (le (hd.take j)), .int .i64 state]) (fun i _ => 7 - (intOf i).toNat)
  case atStart => exact ⟨0, by omega, rfl, below_alloc _ _, by simpa [le] using HB2.out⟩
  case round =>
    obtain ⟨j, hj, rfl, hkw, hbw⟩ := hrel
    have HW := Lib.hid hkw; clear hkw
    have HBR := Lib.hid hbw; clear hbw
    by_cases hlt : j < 7
    · have hx : j < hd.length := by have := HL.out; omega
      have hcell := CJ.out wr (blk_below H1.out HW.out) j hd[j] (List.getElem?_eq_getElem hx) (by omega)
      have c0 : wr.cell? ⟨w1.heap.size, 0, none⟩ = some (.int .i64 (le (hd.take j))) := HBR.out.cell 0
      have f0 : wr.frozen? ⟨w1.heap.size, 0, none⟩ = false := HBR.out.frozen 0
      have hj8 : (8 : Int) * j ≤ 63 := by omega
      have hj9 : IntKind.i64.wrap (8 * (j : Int)) = 8 * (j : Int) := IntWalk.i64_in _ (by omega)
      have hj0 : (0 : Int) ≤ 8 * (j : Int) := by omega
      have e8 : IntKind.i64.wrap (hd[j].toNat : Int) = (hd[j].toNat : Int) := IntWalk.i64_in _ (by have := hd[j].toNat_lt; omega)
      have S1 := Lib.hid c0
      generalize hv : hd[j] = v at *
      clear d7
      go_wp2_with fail
      have ej : bits .or .i64 (le (hd.take j) : Int) (IntKind.i64.wrap ((v.toNat : Int) * 2 ^ (8 * (j : Int)).toNat)) = (le (hd.take (j + 1)) : Int) := by
        have e1 := join_i64 (hd.take j) v (by rw [List.length_take]; omega)
        rw [List.length_take, Nat.min_eq_left (by omega)] at e1
        rw [show (8 * (j : Int)).toNat = 8 * j by omega, e1, List.take_succ_eq_append_getElem hx, hv]
      have EJ := Lib.hid ej
      clear ej
      go_region_law (fail)
      rw [EJ.out]
      go_wp2_with fail
      go_roundw
      case rel =>
        refine ⟨j + 1, by omega, by go_num, (HW.out.setCell (p := ⟨w1.heap.size, 0, none⟩) (Nat.le_refl _) _).drew, ?_⟩
        exact HBR.out.set_ 0 (.int .i64 (le (hd.take (j + 1))))
      case measure => simp [intOf]; omega
    · have : j = 7 := by omega
      subst this
      have c0 : wr.cell? ⟨w1.heap.size, 0, none⟩ = some (.int .i64 (le (hd.take 7))) := HBR.out.cell 0
      have c1 : wr.cell? ⟨w1.heap.size, 1, none⟩ = some (.int .i64 state) := HBR.out.cell 1
      rw [HS.out] at c0
      have hb0 : Blk wr w.heap.size headT #[.int .i64 0, .int .i64 0] := blk_below HB1.out HW.out
      have e0 : wr.cell? ⟨w.heap.size, 0, none⟩ = some (.int .i64 0) := hb0.cell 0
      have e1 : wr.cell? ⟨w.heap.size, 1, none⟩ = some (.int .i64 0) := hb0.cell 1
      have e2 : ∀ i, wr.frozen? ⟨w.heap.size, i, none⟩ = false := fun i => hb0.frozen i
      have HB0 := Lib.hid hb0
      clear hb0 d7
      go_wp2_with fail
      refine bodyPost_ret (results_cell_row rfl _ _ w.heap.size headT _ (0, 0) _ rfl ((HB0.out.set_ 0 _).set_ 1 _) Try.underlying59 rfl (by kernel_rfl)) rfl ⟨?_, ((below_then B1.out HW.out).setCell (Nat.le_refl _) _).setCell (Nat.le_refl _) _⟩
      rfl
set_option maxHeartbeats 1000000 in
theorem setHead_any (h : Blk w g u8T (bs.map byteV).toArray) (hl : bs.length = mx) (hp : p + 8 ≤ mx) (hm : mx ≤ 65536) (hs : size < 1048576) (ht : state < 256) :
    Calls Try.prog 25 #[rowV g mx, .int .i64 p, headV size state] w fun e w' => e = .returned (.tuple #[]) ∧ Blk w' g u8T ((setAt bs p (hb size state)).map byteV).toArray ∧ Keeps (fun b => b = g) w w' := by
  have CP := Lib.hid (fun w => pieces_any g p 8 mx (by omega) (by omega) (by omega) hm w)
  rw [show min (p + 8) mx - p = 8 by omega, show p + 8 - min (p + 8) mx = 0 by omega] at CP
  have SL := fun w => slice_seven g p 8 (by omega) w
  have HB := Lib.hid (Blk.new w headT #[.int .i64 size, .int .i64 state])
  have B0 := Lib.hid (below_alloc w (.cells #[.int .i64 size, .int .i64 state] headT))
  have HG := Lib.hid (show g ≠ w.heap.size from fun e => by have := h.lt; omega)
  have H := Lib.hid h
  clear h
  unfold headV
  go_enter Try.func25, Try.ntmps25
  go_upto_region 3 with (go_at_call 33; refine (CP.out _).mono ?_; rintro e w1 ⟨rfl, m, hm1⟩; have B1 : Hid (Below w.heap.size w w1) := hm1 ▸ below_then B0.out (below_drewN _ m); have HB1 : Hid (Blk w1 w.heap.size headT #[.int .i64 size, .int .i64 state]) := hm1 ▸ HB.out.drewN m; clear hm1)
  have H1 := Lib.hid (blk_below H.out B1.out)
  clear B0 HB
  go_loopw [18] (fun i wr => ∃ j : Nat, j ≤ 7 ∧ i = .int .i64 j ∧ Keeps (fun b => b = g) w1 wr ∧ Blk wr g u8T ((setAt bs p (wb size j)).map byteV).toArray) (fun i _ => 7 - (intOf i).toNat)
  case atStart => exact ⟨0, by omega, rfl, Keeps.refl _ _, by simpa [wb, setAt_nil] using H1.out⟩
  case round =>
    obtain ⟨j, hj, rfl, hkw, hbw⟩ := hrel
    have HW := Lib.hid hkw; clear hkw
    have HBR := Lib.hid hbw; clear hbw
    have HH := Lib.hid (HB1.out.keeps HW.out (fun e => HG.out e.symm))
    by_cases hlt : j < 7
    · have hx : p + j < (setAt bs p (wb size j)).length := by rw [setAt_length _ _ _ (by rw [wb_length]; omega)]; omega
      have hcell := HBR.out.cell (p + j)
      rw [List.getElem?_toArray, List.getElem?_map, List.getElem?_eq_getElem hx] at hcell
      simp only [Option.map_some] at hcell
      have hfr := HBR.out.frozen (p + j)
      have c0 : wr.cell? ⟨w.heap.size, 0, none⟩ = some (.int .i64 size) := HH.out.cell 0
      have hj9 : IntKind.i64.wrap (8 * (j : Int)) = 8 * (j : Int) := IntWalk.i64_in _ (by omega)
      have hj0 : (0 : Int) ≤ 8 * (j : Int) := by omega
      have hj8 : 8 * (j : Int) ≤ 63 := by omega
      go_wp2_with fail
      go_roundw
      case rel =>
        refine ⟨j + 1, by omega, by go_num, ?_, ?_⟩
        · exact HW.out.setCell (p := ⟨g, p + j, none⟩) (.inl rfl) _
        · have e0 := HBR.out.set_ (p + j) (byteV (UInt8.ofNat (size / 256 ^ j)))
          have e1 : byteV (UInt8.ofNat (size / 256 ^ j)) = .int .u8 ((size : Int) / 2 ^ (8 * j) % 256) := by
            rw [byteV_ofNat, pow_256]
            congr 1
          have e2 : ((setAt bs p (wb size j)).map byteV).toArray.setIfInBounds (p + j) (byteV (UInt8.ofNat (size / 256 ^ j))) = ((setAt bs p (wb size (j + 1))).map byteV).toArray := by
            rw [wb_succ, setAt_snoc _ _ _ _ (by rw [wb_length]; omega), wb_length, List.map_set]
            simp
          rw [e2, e1] at e0
          exact e0
      case measure => simp [intOf]; omega
    · have : j = 7 := by omega
      subst this
      have hx : p + 7 < (setAt bs p (wb size 7)).length := by rw [setAt_length _ _ _ (by rw [wb_length]; omega)]; omega
      have hcell := HBR.out.cell (p + 7)
      rw [List.getElem?_toArray, List.getElem?_map, List.getElem?_eq_getElem hx] at hcell
      simp only [Option.map_some] at hcell
      have hfr := HBR.out.frozen (p + 7)
      have c1 : wr.cell? ⟨w.heap.size, 1, none⟩ = some (.int .i64 state) := HH.out.cell 1
      have e0 := HBR.out.set_ (p + 7) (byteV (UInt8.ofNat state))
      have e1 : byteV (UInt8.ofNat state) = .int .u8 (state : Int) := by rw [byteV_ofNat, Nat.mod_eq_of_lt ht]
      have e2 : ((setAt bs p (wb size 7)).map byteV).toArray.setIfInBounds (p + 7) (byteV (UInt8.ofNat state)) = ((setAt bs p (hb size state)).map byteV).toArray := by
        rw [show hb size state = wb size 7 ++ [UInt8.ofNat state] from rfl, setAt_snoc _ _ _ _ (by rw [wb_length]; omega), wb_length, List.map_set]
        simp
      rw [e2, e1] at e0
      have E0 := Lib.hid e0
      have est : IntKind.u8.wrap (state : Int) = (state : Int) := by rw [IntKind.wrap_u8]; omega
      clear e0 e1 e2
      go_wp2_with fail
      go_end0
      exact ⟨rfl, E0.out, (((keeps_grow B1.out).mono fun _ h => h.elim).trans (HW.out.mono fun _ h => .inl h)).setCell (p := ⟨g, p + 7, none⟩) (.inl rfl) _⟩
end
end Go.Proofs.Ytdihlmhipkcedaa
