/-
  The law TnumShiftsSound, walked.
-/
import Derived.Test.YthgfaajclghjhaaTHeld
import Derived.Test.YthgfaajclghjhaaRefAll
import Derived.Deep.RegionHeld3
import Derived.Deep.LoopGhost
namespace Go.Proofs.Ythgfaajclghjhaa
open Go Go.RowKit Go.Maps Tn
set_option linter.unusedVariables false
set_option linter.unusedSimpArgs false
set_option maxRecDepth 100000
abbrev u2T : TypeId := 38
abbrev u2 (a b : B64) : Array Value := #[uv a, uv b]
/-- The machine's shift of any number by as many bits as may be. -/
theorem alu_sh {op : Int} (h : op = 96 ∨ op = 112 ∨ op = 192) (wide : Bool) {k : Nat} (hk : k ≤ if wide then 63 else 31) (x : B64) (W : World) : Calls Try.prog 28 #[.int .i64 op, .bool wide, .bool false, uv x, .int .u64 (k : Int)] W fun e w' => e = .returned (.tuple #[uv (sop op wide k x), .int .i64 0]) ∧ W = w' := by
  have hk63 : k ≤ 63 := by cases wide <;> simp at hk <;> omega
  have h1 := ref_any (n64 x) (k : Int) (n64_lo x) (n64_le x) (by omega) (by omega) W op wide false
  obtain ⟨e1, e2⟩ := binV_sop h wide x hk
  rw [e1, e2] at h1
  exact h1
/-- What the law knows of one round: Shift's answer, and where it is one, the machine's too. -/
theorem round_ways (op : Int) (wide : Bool) (k : Nat) (a : TN) {x : B64} (hx : has a x) :
    (∃ X : TN, ∃ z : B64, (∀ W, Calls Try.prog 13 #[.int .i64 op, tv a, .int .i64 (k : Int), .bool wide] W fun e w' => e = .returned (.tuple #[tv X, .int .i64 0]) ∧ Below W.heap.size W w') ∧
      (∀ W, Calls Try.prog 28 #[.int .i64 op, .bool wide, .bool false, uv x, .int .u64 (k : Int)] W fun e w' => e = .returned (.tuple #[uv z, .int .i64 0]) ∧ W = w') ∧ has X z) ∨
    (∀ W, Calls Try.prog 13 #[.int .i64 op, tv a, .int .i64 (k : Int), .bool wide] W fun e w' => e = .returned (.tuple #[.agg #[.int .u64 0, .int .u64 0], .int .i64 1]) ∧ Below W.heap.size W w') := by
  by_cases h : shIs op (k : Int) wide
  · refine .inl ⟨tShift op wide k a, sop op wide k x, fun W => ?_, fun W => ?_, shift_has op wide k hx⟩
    · have := pShift_any op (k : Int) wide a W
      unfold shT shX at this
      rw [if_pos h, if_pos h, Int.toNat_natCast] at this
      exact this
    · obtain ⟨ho, _, hk⟩ := h
      exact alu_sh ho wide (by cases wide <;> simp at hk ⊢ <;> omega) x W
  · refine .inr fun W => ?_
    have := pShift_any op (k : Int) wide a W
    unfold shT shX at this
    rw [if_neg h, if_neg h] at this
    exact this
theorem nand_255 (x : B64) : bits .and .u64 (n64 x) 255 = n64 (x &&& 255) := Tn.n64_and x 255
theorem nand_low (x : B64) : bits .and .u64 (n64 x) 4294967295 = n64 (x &&& 4294967295) := Tn.n64_and x 4294967295
set_option maxHeartbeats 2000000 in
theorem shsound_any (op : Int) (a : TN) (n0 n1 : B64) (w : World) : Calls Try.prog 7 #[.int .i64 op, tv a, .agg (u2 n0 n1)] w fun e w' => e = .returned (.bool true) ∧ Below w.heap.size w w' := by
  have F := Lib.hid (HL.two w tnT u2T (tC a) (u2 n0 n1))
  go_enter Try.func7, Try.ntmps7
  go_upto_region 1 with fail
  have hb := F.out
  clear F
  generalize (w.alloc (.cells #[uv a.1, uv a.2] tnT)).alloc (.cells #[uv n0, uv n1] u2T) = wz at *
  have HB := Lib.hid hb
  obtain ⟨⟨hn, ha, _⟩, _⟩ := hb
  obtain ⟨c0, c1⟩ := ha.two
  clear hn ha
  go_upto_region 2 with (go_at_call 9; refine (may_any a _).mono ?_; rintro e w1 ⟨rfl, hb1⟩; have hB := HB.out.call hb1; have f0 := hB.all.2.1.frozen 0; have f1 := hB.all.2.1.frozen 1; have d0 := hB.all.2.1.cell 0; have d1 := hB.all.2.1.cell 1; simp only [List.getElem?_toArray, List.getElem?_cons_zero, List.getElem?_cons_succ] at d0 d1; have HB1 := Lib.hid hB; clear hB hb1)
  have hb := HB1.out.set0 (tMay a)
  clear c0 c1 d0 d1 f0 f1 HB HB1
  generalize (w1.setCell ⟨w.heap.size, 0, none⟩ (uv (tMay a).1)).setCell ⟨w.heap.size, 1, none⟩ (uv (tMay a).2) = wy at *
  have hA := has_one (tMay a) n1
  have C1 := Lib.hid (fun W => one_any (tMay a) n1 W)
  generalize tMay a = a' at *
  generalize a'.1 ||| (n1 &&& a'.2) = x at *
  have HA := Lib.hid hA
  clear hA
  obtain ⟨k, hk, hk70⟩ : ∃ k : Nat, (k : Int) = n64 n0 % 70 ∧ k < 70 := ⟨n0.toNat % 70, by unfold n64; omega, by omega⟩
  have t1 : (n64 n0).tmod 70 = (k : Int) := by rw [Int.tmod_eq_emod_of_nonneg (n64_lo n0), hk]
  have t2 : n64 n0 % 70 = (k : Int) := hk.symm
  have t3 : IntKind.i64.wrap (k : Int) = (k : Int) := by rw [IntKind.wrap_i64]; omega
  have t4 : IntKind.u64.wrap (k : Int) = (k : Int) := by rw [IntKind.wrap_u64]; omega
  have t5 : wrap64 (k : Int) = (k : Int) := by unfold wrap64; omega
  clear hk hk70
  have key : ∀ W, HL w [(w.heap.size + 1, u2T, u2 n0 n1), (w.heap.size, tnT, tC a')] W → (W.cell? ⟨w.heap.size, 0, none⟩ = some (uv a'.1) ∧ W.cell? ⟨w.heap.size, 1, none⟩ = some (uv a'.2)) ∧ (W.cell? ⟨w.heap.size + 1, 0, none⟩ = some (uv n0) ∧ W.cell? ⟨w.heap.size + 1, 1, none⟩ = some (uv n1)) := by
    rintro W ⟨⟨hn, ha, _⟩, _⟩
    exact ⟨ha.two, hn.two⟩
  have KEY := Lib.hid key
  clear key
  have HB := Lib.hid hb
  clear hb
  obtain ⟨⟨c0, c1⟩, m0, m1⟩ := KEY.out _ HB.out
  go_upto_region 4 with (go_at_call 27; refine (C1.out _).mono ?_; rintro e w2 ⟨rfl, hb⟩; have ha := HB.out.call hb; have cc := KEY.out _ ha; obtain ⟨⟨c0, c1⟩, m0, m1⟩ := cc; have HB := Lib.hid ha; clear ha hb)
  clear m0 m1 C1 c0 c1 t1 t2
  go_wp2_with fail
  go_loopg [9] 2 (fun n s9 wr => n ≤ 2 ∧ s9 = .int .i64 (2 - (n : Int)) ∧ HL w [(w.heap.size + 1, u2T, u2 n0 n1), (w.heap.size, tnT, tC a')] wr)
  case atStart => exact ⟨by omega, rfl, HB.out⟩
  case round =>
    clear HB
    obtain ⟨hn, rfl, hb⟩ := hrel
    have HB := Lib.hid hb
    obtain ⟨⟨c0, c1⟩, _⟩ := KEY.out _ hb
    clear hb
    have HG : Hid (gk = 2 ∨ gk = 1 ∨ gk = 0) := by show _ ∨ _ ∨ _; omega
    clear hn
    rcases HG.out with hg | hg | hg
    · subst hg
      clear HG
      rcases round_ways op true k a' HA.out with ⟨X, z, hX, hz, hh⟩ | hX
      · have CX := Lib.hid hX
        have CZ := Lib.hid hz
        have CH := Lib.hid (fun W => phas_any X z W)
        have hd : decide (Tn.has X z) = true := decide_eq_true hh
        clear hX hz hh
        go_upto_region 8 with (go_at_call 13; refine (CX.out _).mono ?_; rintro e w3 ⟨rfl, hb⟩; have HB2 := Lib.hid (HB.out.call hb); clear hb)
        have hb := HB2.out.push tnT (tC X)
        clear c0 c1 HB HB2 CX
        generalize w3.heap.size = g1 at *
        generalize w3.alloc (.cells #[uv X.1, uv X.2] tnT) = w4 at *
        obtain ⟨x0, x1⟩ := hb.all.1.two
        have HB := Lib.hid hb
        clear hb
        go_wp2_with (first
          | (go_at_call 28; refine (CZ.out _).mono ?_; rintro e w5 ⟨rfl, rfl⟩)
          | (go_at_call 17; refine (CH.out _).mono ?_; rintro e w6 ⟨rfl, hb⟩; have HB := Lib.hid (HB.out.call hb); clear hb))
        go_roundg 1
        case measure => omega
        case rel => exact ⟨by omega, rfl, ⟨HB.out.all.2, HB.out.below⟩⟩
      · have CX := Lib.hid hX
        clear hX
        go_wp2_with (go_at_call 13; refine (CX.out _).mono ?_; rintro e w3 ⟨rfl, hb⟩; have HB2 := Lib.hid ((HB.out.call hb).push tnT #[.int .u64 0, .int .u64 0]); clear hb)
        go_roundg 1
        case measure => omega
        case rel => exact ⟨by omega, rfl, ⟨HB2.out.all.2, HB2.out.below⟩⟩
    · subst hg
      clear HG
      rcases round_ways op false k a' HA.out with ⟨X, z, hX, hz, hh⟩ | hX
      · have CX := Lib.hid hX
        have CZ := Lib.hid hz
        have CH := Lib.hid (fun W => phas_any X z W)
        have hd : decide (Tn.has X z) = true := decide_eq_true hh
        clear hX hz hh
        go_upto_region 8 with (go_at_call 13; refine (CX.out _).mono ?_; rintro e w3 ⟨rfl, hb⟩; have HB2 := Lib.hid (HB.out.call hb); clear hb)
        have hb := HB2.out.push tnT (tC X)
        clear c0 c1 HB HB2 CX
        generalize w3.heap.size = g1 at *
        generalize w3.alloc (.cells #[uv X.1, uv X.2] tnT) = w4 at *
        obtain ⟨x0, x1⟩ := hb.all.1.two
        have HB := Lib.hid hb
        clear hb
        go_wp2_with (first
          | (go_at_call 28; refine (CZ.out _).mono ?_; rintro e w5 ⟨rfl, rfl⟩)
          | (go_at_call 17; refine (CH.out _).mono ?_; rintro e w6 ⟨rfl, hb⟩; have HB := Lib.hid (HB.out.call hb); clear hb))
        go_roundg 0
        case measure => omega
        case rel => exact ⟨by omega, rfl, ⟨HB.out.all.2, HB.out.below⟩⟩
      · have CX := Lib.hid hX
        clear hX
        go_wp2_with (go_at_call 13; refine (CX.out _).mono ?_; rintro e w3 ⟨rfl, hb⟩; have HB2 := Lib.hid ((HB.out.call hb).push tnT #[.int .u64 0, .int .u64 0]); clear hb)
        go_roundg 0
        case measure => omega
        case rel => exact ⟨by omega, rfl, ⟨HB2.out.all.2, HB2.out.below⟩⟩
    · subst hg
      clear HG t3 t4 t5
      have CC := Lib.hid (fun b W => pcast_any a' b W)
      have CH := Lib.hid phas_any
      have CA := Lib.hid awake_any
      have h8 := cast_has8 HA.out
      have h32 := cast_has32 HA.out
      have r8 := nand_255 x
      have r32 := nand_low x
      obtain ⟨T8, e8⟩ : ∃ T, tCast a' 8 = T := ⟨_, rfl⟩
      obtain ⟨T32, e32⟩ : ∃ T, tCast a' 32 = T := ⟨_, rfl⟩
      rw [e8] at h8
      rw [e32] at h32
      generalize x &&& 255 = y8 at *
      generalize x &&& 4294967295 = y32 at *
      have q8 : decide (Tn.has T8 y8) = true := decide_eq_true h8
      have q32 : decide (Tn.has T32 y32) = true := decide_eq_true h32
      have E8 := Lib.hid e8
      have E32 := Lib.hid e32
      have CC8 : Hid (∀ W, Calls Try.prog 15 #[tv a', .int .i64 8] W fun e w' => e = .returned (tv T8) ∧ Below W.heap.size W w') := fun W => by rw [← E8.out]; exact CC.out 8 W
      have CC32 : Hid (∀ W, Calls Try.prog 15 #[tv a', .int .i64 32] W fun e w' => e = .returned (tv T32) ∧ Below W.heap.size W w') := fun W => by rw [← E32.out]; exact CC.out 32 W
      clear h8 h32 e8 e32 E8 E32 CC HA
      go_wp2_with (first
        | (go_at_call 15; first | ((with_reducible refine (CC8.out _).mono ?_); rintro e w6 ⟨rfl, hb⟩; have ha := HB.out.call hb; have cc := (KEY.out _ ha).1; obtain ⟨c0, c1⟩ := cc; have HB := Lib.hid ha; clear ha hb) | ((with_reducible refine (CC32.out _).mono ?_); rintro e w6 ⟨rfl, hb⟩; have ha := HB.out.call hb; have cc := (KEY.out _ ha).1; obtain ⟨c0, c1⟩ := cc; have HB := Lib.hid ha; clear ha hb))
        | (go_at_call 17; refine (CH.out _ _ _).mono ?_; rintro e w6 ⟨rfl, hb⟩; have ha := HB.out.call hb; have cc := (KEY.out _ ha).1; obtain ⟨c0, c1⟩ := cc; have HB := Lib.hid ha; clear ha hb)
        | (go_at_call 12; refine (CA.out _).mono ?_; rintro e w6 ⟨rfl, hb⟩; have HB := Lib.hid (HB.out.call hb); clear hb))
      go_ret
      exact ⟨rfl, HB.out.below⟩
end Go.Proofs.Ythgfaajclghjhaa
