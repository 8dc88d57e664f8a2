/-
  Layer 7: the types that a type holds.
-/
import Derived.Test.YthilkgfbaddjpaaDoorLAlone
import Derived.Maps.AppendAt
import Derived.Laws.MakeOwn
import Derived.OwnWalk
namespace Go.Proofs.YthilkgfbaddjpaaDoor
open Go Go.RowKit
set_option linter.unusedVariables false
set_option linter.unusedSimpArgs false
set_option maxRecDepth 100000
def intC (l : List Int) : List Value := l.map fun n => .int .i64 n
theorem intC_len (l : List Int) : (intC l).length = l.length := by simp [intC]
def partsL (t : Ty) : List Int := if t.kind = 8 then [t.ty] else if t.kind = 3 then [t.ty] else if t.kind = 4 then t.mems.map (·.ty) else []
def PostParts (w : World) (t : Ty) (e : Ending) (w' : World) : Prop :=
  Below w.heap.size w w' ∧ ∃ v, e = .returned v ∧ w'.ownsRow w.heap.size 3 1 v (partsL t).length (intC (partsL t))
theorem own_one (w : World) (base : Nat) (hb : base ≤ w.heap.size) (x : Int) : (w.alloc (.cells #[.int .i64 x] 3)).ownsRow base 3 1 (.slice (some ⟨w.heap.size, 0, none⟩) 1 1) 1 [.int .i64 x] :=
  ⟨rfl, .inr ⟨_, _, _, rfl, hb, Blk.new _ _ _, by decide, by decide, rfl, rfl⟩⟩
theorem infoI : (Tryd.prog.info? 3).map (fun i => (i.zero, i.size, i.bytes)) = some (some (.int .i64 0), 1, 8) := by kernel_rfl
theorem made_ints (n : Nat) : madeCells (Value.int .i64 0).cells (n * 1) = (intC (List.replicate n 0)).toArray := by
  apply Array.ext_getElem?
  intro j
  rw [Nat.mul_one]
  rcases Nat.lt_or_ge j n with hj | hj
  · simp [madeCells, intC, hj, Value.cells, Nat.mod_one]
  · rw [Array.getElem?_eq_none (by rw [size_madeCells]; exact hj), Array.getElem?_eq_none (by simp [intC]; exact hj)]
theorem make_ints (n : Nat) (hn : n ≤ 17592186044416) (w : World) :
    (Instr.makeSlice 52 (.int .i64 n) (.int .i64 n)).run Tryd.prog w = .ok (.slice (some ⟨w.heap.size, 0, none⟩) n n) (w.alloc (.cells (intC (List.replicate n 0)).toArray 3)) := by
  obtain ⟨i, hi, hz, hsz, hby⟩ := info_parts infoI
  have := run_make (P := Tryd.prog) w 52 3 i (.int .i64 0) Tryd.underlying52 hi hz .i64 .i64 n n (by omega) (Int.le_refl _) (by rw [hby]; omega) (by omega)
  rw [hsz, show ((n : Int)).toNat = n from rfl] at this
  rw [this, made_ints]
def ptake (ms : List Mem) (k : Nat) : List Int := (ms.take k).map (·.ty) ++ List.replicate (ms.length - k) 0
theorem ptake_len (ms : List Mem) (k : Nat) (hk : k ≤ ms.length) : (ptake ms k).length = ms.length := by simp [ptake]; omega
theorem ptake_step (ms : List Mem) (k : Nat) (m : Mem) (hm : ms[k]? = some m) : (intC (ptake ms k)).toArray.setIfInBounds k (.int .i64 m.ty) = (intC (ptake ms (k + 1))).toArray := by
  obtain ⟨hk, rfl⟩ := List.getElem?_eq_some_iff.1 hm
  obtain ⟨j, hj⟩ : ∃ j, ms.length - k = j + 1 := ⟨ms.length - k - 1, by omega⟩
  have hj2 : ms.length - (k + 1) = j := by omega
  have hl : ((ms.take k).map (·.ty)).length = k := by simp; omega
  unfold ptake intC
  rw [List.take_add_one, hm, hj, hj2]
  simp only [List.setIfInBounds_toArray, List.map_append, List.replicate_succ, List.map_cons, Option.toList_some, List.map_nil]
  rw [List.set_append_right _ _ (by simp; omega)]
  simp
  have : min k ms.length = k := by omega
  rw [this, Nat.sub_self]
  simp
set_option maxHeartbeats 2000000 in
theorem parts_any (t : Ty) (A : Option Addr) (c : Nat) (hlen : t.mems.length ≤ 1099511627776) (w : World) (h : MemsAt w A t.mems) :
    Calls Tryd.prog 39 #[tyV t (.slice A t.mems.length c)] w (PostParts w t) := by
  obtain ⟨kd, nm, sz, ty, ct, ms⟩ := t
  simp only at hlen h
  unfold tyV
  simp only
  have b1 : Below w.heap.size w (w.alloc (.cells #[.int .i64 kd, .string nm, .int .i64 sz, .int .i64 ty, .int .i64 ct, .slice A ms.length c] 34)) := (Below.refl _ w).alloc (Nat.le_refl _) _
  have B1 := Lib.hid b1
  have HM := Lib.hid (h.below b1)
  have HM0 := Lib.hid h
  have HL := Lib.hid hlen
  clear h b1 hlen
  by_cases k8 : kd = 8
  · subst k8
    go_enter Tryd.func39, Tryd.ntmps39
    go_wp2_with fail
    go_ret
    refine ⟨B1.out.alloc B1.out.size _, .slice (some ⟨w.heap.size + 1, 0, none⟩) 1 1, rfl, ?_⟩
    rw [show partsL ⟨8, nm, sz, ty, ct, ms⟩ = [ty] by simp [partsL]]
    have := own_one (w.alloc (.cells #[.int .i64 8, .string nm, .int .i64 sz, .int .i64 ty, .int .i64 ct, .slice A ms.length c] 34)) w.heap.size B1.out.size ty
    rw [show (w.alloc (.cells #[.int .i64 8, .string nm, .int .i64 sz, .int .i64 ty, .int .i64 ct, .slice A ms.length c] 34)).heap.size = w.heap.size + 1 by simp] at this
    exact this
  · by_cases k3 : kd = 3
    · subst k3
      go_enter Tryd.func39, Tryd.ntmps39
      go_wp2_with fail
      go_ret
      refine ⟨B1.out.alloc B1.out.size _, .slice (some ⟨w.heap.size + 1, 0, none⟩) 1 1, rfl, ?_⟩
      rw [show partsL ⟨3, nm, sz, ty, ct, ms⟩ = [ty] by simp [partsL]]
      have := own_one (w.alloc (.cells #[.int .i64 3, .string nm, .int .i64 sz, .int .i64 ty, .int .i64 ct, .slice A ms.length c] 34)) w.heap.size B1.out.size ty
      rw [show (w.alloc (.cells #[.int .i64 3, .string nm, .int .i64 sz, .int .i64 ty, .int .i64 ct, .slice A ms.length c] 34)).heap.size = w.heap.size + 1 by simp] at this
      exact this
    · by_cases k4 : kd = 4
      · subst k4
        have i1 : (ms.length : Int) ≤ 1099511627776 := by have := HL.out; omega
        go_enter Tryd.func39, Tryd.ntmps39
        go_upto_region 6 with fail
        have mk := make_ints ms.length (by have := HL.out; omega) (w.alloc (.cells #[.int .i64 4, .string nm, .int .i64 sz, .int .i64 ty, .int .i64 ct, .slice A ms.length c] 34))
        go_wp2_with fail
        clear mk
        have V0 : Hid (Blk ((w.alloc (.cells #[.int .i64 4, .string nm, .int .i64 sz, .int .i64 ty, .int .i64 ct, .slice A ms.length c] 34)).alloc (.cells (intC (List.replicate ms.length 0)).toArray 3)) (w.heap.size + 1) 3 (intC (ptake ms 0)).toArray) := by
          have := Blk.new (w.alloc (.cells #[.int .i64 4, .string nm, .int .i64 sz, .int .i64 ty, .int .i64 ct, .slice A ms.length c] 34)) 3 (intC (List.replicate ms.length 0)).toArray
          rw [show (w.alloc (.cells #[.int .i64 4, .string nm, .int .i64 sz, .int .i64 ty, .int .i64 ct, .slice A ms.length c] 34)).heap.size = w.heap.size + 1 by simp] at this
          rw [show ptake ms 0 = List.replicate ms.length 0 by simp [ptake]]
          exact this
        have B2 : Hid (Below w.heap.size w ((w.alloc (.cells #[.int .i64 4, .string nm, .int .i64 sz, .int .i64 ty, .int .i64 ct, .slice A ms.length c] 34)).alloc (.cells (intC (List.replicate ms.length 0)).toArray 3))) := B1.out.alloc B1.out.size _
        have MW : Hid (MemsAt w A ms) := HM0.out
        clear HM
        generalize World.alloc _ _ = W2 at V0 B2 ⊢
        go_loopw [4, 5, 23] (fun u v i wr => ∃ k : Nat, k ≤ ms.length ∧ i = .int .i64 k ∧ Below w.heap.size w wr ∧ Blk wr (w.heap.size + 1) 3 (intC (ptake ms k)).toArray) (fun _ _ i _ => ms.length - (intOf i).toNat)
        case atStart => exact ⟨0, by omega, rfl, B2.out, V0.out⟩
        case round =>
          clear V0 B2
          obtain ⟨k, hk, rfl, hb, hv⟩ := hrel
          have HB := Lib.hid hb
          have HV := Lib.hid hv
          clear hb hv
          by_cases hkn : k < ms.length
          · obtain ⟨m, hm⟩ : ∃ m, ms[k]? = some m := ⟨_, List.getElem?_eq_getElem hkn⟩
            obtain ⟨b, o, rfl, hlt, u0, u1, u2, _⟩ := (MW.out.below HB.out) k m hm
            have HMK := Lib.hid hm
            have g1 : decide (k < ms.length) = true := by simpa using hkn
            have i2 : (k : Int) < (ms.length : Int) := by omega
            have i3 : (0 : Int) ≤ (k : Int) := by omega
            have HK : Hid (k < ms.length) := hkn
            have hp := ptake_len ms k hk
            clear hm hkn
            obtain ⟨mn, mt, mo⟩ := m
            simp only at u0 u1 u2
            have V3 : Hid (Blk (wr.alloc (.cells #[.string mn, .int .i64 mt, .int .i64 mo] 60)) (w.heap.size + 1) 3 (intC (ptake ms k)).toArray) := HV.out.alloc _
            have B3 : Hid (Below w.heap.size w (wr.alloc (.cells #[.string mn, .int .i64 mt, .int .i64 mo] 60))) := HB.out.alloc HB.out.size _
            have cold : ∃ u, (wr.alloc (.cells #[.string mn, .int .i64 mt, .int .i64 mo] 60)).cell? ⟨w.heap.size + 1, k, none⟩ = some u := by
              rw [V3.out.cell k]
              exact ⟨_, Array.getElem?_eq_getElem (by simp [intC, hp]; exact HK.out)⟩
            obtain ⟨u, cu⟩ := cold
            have fu : (wr.alloc (.cells #[.string mn, .int .i64 mt, .int .i64 mo] 60)).frozen? ⟨w.heap.size + 1, k, none⟩ = false := V3.out.frozen k
            clear hp
            go_upto_region 11 with fail
            have V4 : Hid (Blk ((wr.alloc (.cells #[.string mn, .int .i64 mt, .int .i64 mo] 60)).setCell ⟨w.heap.size + 1, k, none⟩ (.int .i64 mt)) (w.heap.size + 1) 3 (intC (ptake ms (k + 1))).toArray) := by
              have := V3.out.set_ k (.int .i64 mt)
              rw [show (Value.int .i64 mt) = .int .i64 (⟨mn, mt, mo⟩ : Mem).ty from rfl, ptake_step ms k _ HMK.out] at this
              exact this
            clear cu fu
            go_wp2_with fail
            go_roundw
            case rel => exact ⟨k + 1, by have := HK.out; omega, by go_num, B3.out.setCell (by simp) _, V4.out⟩
            case measure => have := HK.out; simp [intOf]; omega
          · have : k = ms.length := by omega
            subst this
            have g1 : decide (ms.length < ms.length) = false := by simp
            go_wp2_with fail
            go_ret
            refine ⟨HB.out, _, rfl, ?_⟩
            have hv := HV.out
            have e : partsL ⟨4, nm, sz, ty, ct, ms⟩ = ptake ms ms.length := by simp [partsL, ptake]
            rw [e, ptake_len ms _ (Nat.le_refl _)]
            exact ⟨by simp [intC_len, ptake_len], .inr ⟨_, _, _, rfl, by omega, hv, Nat.le_refl _, by have := HL.out; unfold maxLen; omega, by simp [intC, ptake], by
              show List.take (ms.length * 1) (intC (ptake ms ms.length)) = _
              rw [Nat.mul_one]
              exact List.take_of_length_le (by rw [intC_len, ptake_len ms _ (Nat.le_refl _)]; exact Nat.le_refl _)⟩⟩
      · have z8 : (kd == 8) = false := by simpa using k8
        have z3 : (kd == 3) = false := by simpa using k3
        have z4 : (kd == 4) = false := by simpa using k4
        have e : partsL ⟨kd, nm, sz, ty, ct, ms⟩ = [] := by simp [partsL, k8, k3, k4]
        have HE := Lib.hid e
        clear e k8 k3 k4
        go_enter Tryd.func39, Tryd.ntmps39
        go_wp2_with fail
        go_ret
        refine ⟨B1.out, _, rfl, ?_⟩
        rw [HE.out]
        exact World.ownsRow_nil _ _ _ _
end Go.Proofs.YthilkgfbaddjpaaDoor
