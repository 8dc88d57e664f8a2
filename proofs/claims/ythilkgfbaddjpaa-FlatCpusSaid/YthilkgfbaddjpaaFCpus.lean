/-
  Layer 8: the law FlatCpus, walked.
-/
import Derived.Test.YthilkgfbaddjpaaFAsk6
import Derived.Test.YthilkgfbaddjpaaFApart
namespace Go.Proofs.Ythilkgfbaddjpaa
open Go Go.RowKit
set_option linter.unusedVariables false
set_option linter.unusedSimpArgs false
set_option maxRecDepth 100000
theorem set_in2 (xs l : List UInt8) (o : Nat) (h : o + l.length ≤ xs.length) : ((setAt xs o l).drop o).take l.length = l := by
  unfold setAt
  have h1 : (xs.take o).length = o := by rw [List.length_take]; omega
  rw [List.append_assoc, List.drop_append, h1, List.drop_of_length_le (by omega), List.nil_append, Nat.sub_self, List.drop_zero, List.take_append_of_le_length (Nat.le_refl _), List.take_of_length_le (Nat.le_refl _)]
theorem zeros_in (n o k : Nat) (h : o + k ≤ n) : ((List.replicate n (0 : UInt8)).drop o).take k = List.replicate k 0 := by
  rw [List.drop_replicate, List.take_replicate, Nat.min_eq_left (by omega)]
/-- The law's array, what each CPU's region holds. -/
def CP (B : Nat) (w0 w : World) (x bm v n : Nat) (Bs : Nat → List UInt8) : Prop := ∃ S st mv rv g c, FC B w0 w S bm n 0 st [] mv rv x v 2 g c n ∧ ∀ i, i < n → ∃ r, st (i + 1) = some r ∧ r.bytes = Bs i
section
variable {B : Nat} {w0 w : World} {x bm : Nat} {Bs : Nat → List UInt8} {v n : Nat}
theorem CP.grow {w' : World} (h : CP B w0 w x bm v n Bs) (hb : Below w.heap.size w w') : CP B w0 w' x bm v n Bs := by
  obtain ⟨S, st, mv, rv, g, c, hf, hr⟩ := h
  exact ⟨S, st, mv, rv, g, c, hf.grow hb, hr⟩
theorem CP.below_ (h : CP B w0 w x bm v n Bs) : Below B w0 w ∧ B ≤ w.heap.size := by
  obtain ⟨S, st, mv, rv, g, c, hf, hr⟩ := h
  exact ⟨hf.fs.below, hf.fs.sz⟩
theorem le_one : le [1, 0, 0, 0] = 1 := by decide
theorem cp_new (w : World) (v n : Nat) (h1 : 1 ≤ v) (h2 : v ≤ 40) (h5 : 1 ≤ n) (h6 : n ≤ 8) (vi ni : Int) (hv : (v : Int) = vi) (hn : (n : Int) = ni) :
    Calls Try.prog 12 #[.pointer (some ⟨w.heap.size, 0, none⟩), .agg #[.int .i64 6, .int .i64 4, .int .i64 vi, .int .i64 2], .int .i64 ni] (w.alloc (.cells #[.map none, .int .u32 0, .slice none 0 0, .int .i64 0] 66)) fun e w' => ∃ x, e = .returned (.tuple #[.pointer (some ⟨x, 0, none⟩), .int .i64 0]) ∧
      CP w.heap.size w w' x w.heap.size v n (fun _ => List.replicate (2 * wide v) 0) := by
  subst hv; subst hn
  obtain ⟨hb, hB, S, mv, rv, hk, hS⟩ := KF.start w
  refine (New_cpu hk n (.inl rfl) (by omega) v 2 h1 (by omega) (by decide) (by decide) h5 h6 (by unfold wide; omega)).mono ?_
  rintro e w' ⟨x, g, cc, S', st', mv', rfl, hp, ng, gl, hc⟩
  have hf := FS.made_ hb hS hB hp
  rw [Nat.zero_add, Nat.zero_sub] at hf
  refine ⟨x, rfl, S', st', mv', rv, g, cc, ⟨hf, ng, gl, fun i hi => ?_⟩, fun i hi => ?_⟩
  · have := hc i hi
    rw [show 0 + 1 + i = i + 1 by omega] at this
    exact this
  · obtain ⟨r, q1, _, q2, _⟩ := hp.new i hi
    exact ⟨r, by rw [← q1]; congr 1; omega, q2⟩
theorem cp_upd (h : CP B w0 w x bm v n Bs) (l : List UInt8) (hl : l.length = v) (h1 : 1 ≤ v) (h2 : v ≤ 40) (h5 : 1 ≤ n) (h6 : n ≤ 8) (hlen : ∀ i, (Bs i).length = 2 * wide v) (i : Nat) (hi : i < n) :
    Calls Try.prog 19 #[.pointer (some ⟨x, 0, none⟩), .string ⟨#[1, 0, 0, 0]⟩, .string (bstr l), .int .i64 0, .int .i64 i] w fun e w' => e = .returned (.int .i64 0) ∧ CP B w0 w' x bm v n (fun k => if (k == i) = true then setAt (Bs k) (wide v) l else Bs k) := by
  obtain ⟨S, st, mv, rv, g, c, hf, hr⟩ := h
  have hw := wide_le v h1
  refine (Update_cpu_one hf (by omega) (by decide) h6 h5 i hi [1, 0, 0, 0] rfl (by decide) l hl h1 (fun k hk => ?_)).mono ?_
  · obtain ⟨r, r1, r2⟩ := hr k hk
    exact ⟨r, r1, by rw [le_one, r2, hlen]; omega⟩
  · rintro e w' ⟨rfl, S', st', mv', hf', hu⟩
    refine ⟨rfl, S', st', mv', rv, g, c, hf', fun k hk => ?_⟩
    obtain ⟨r, r1, r2⟩ := hr k hk
    obtain ⟨r', q1, q2⟩ := hu k hk r r1
    rw [le_one, Nat.one_mul] at q2
    exact ⟨r', q1, by rw [q2, r2]⟩
theorem cp_upd_all (h : CP B w0 w x bm v n Bs) (l : List UInt8) (hl : l.length = v) (h1 : 1 ≤ v) (h2 : v ≤ 40) (h5 : 1 ≤ n) (h6 : n ≤ 8) (hlen : ∀ i, (Bs i).length = 2 * wide v) :
    Calls Try.prog 19 #[.pointer (some ⟨x, 0, none⟩), .string ⟨#[1, 0, 0, 0]⟩, .string (bstr l), .int .i64 0, .int .i64 (-1)] w fun e w' => e = .returned (.int .i64 0) ∧ CP B w0 w' x bm v n (fun k => setAt (Bs k) (wide v) l) := by
  obtain ⟨S, st, mv, rv, g, c, hf, hr⟩ := h
  have hw := wide_le v h1
  refine (Update_cpu_all hf (by omega) (by decide) h6 h5 [1, 0, 0, 0] rfl (by decide) l hl h1 (fun k hk => ?_)).mono ?_
  · obtain ⟨r, r1, r2⟩ := hr k hk
    exact ⟨r, r1, by rw [le_one, r2, hlen]; omega⟩
  · rintro e w' ⟨rfl, S', st', mv', hf', hu⟩
    refine ⟨rfl, S', st', mv', rv, g, c, hf', fun k hk => ?_⟩
    obtain ⟨r, r1, r2⟩ := hr k hk
    obtain ⟨r', q1, q2⟩ := hu k hk r r1
    rw [le_one, Nat.one_mul, if_pos rfl] at q2
    exact ⟨r', q1, by rw [q2, r2]⟩
theorem cp_look (h : CP B w0 w x bm v n Bs) (h2 : v ≤ 40) (h6 : n ≤ 8) (i : Nat) (hi : i < n) :
    Calls Try.prog 21 #[.pointer (some ⟨x, 0, none⟩), .string ⟨#[1, 0, 0, 0]⟩, .int .i64 i] w fun e w' => e = .returned (.int .u64 (addr (i + 1) (wide v))) ∧ CP B w0 w' x bm v n Bs := by
  obtain ⟨S, st, mv, rv, g, c, hf, hr⟩ := h
  refine (Lookup_cpu hf (by omega) (by decide) h6 i hi [1, 0, 0, 0] rfl (by decide)).mono ?_
  rintro e w' ⟨rfl, hb⟩
  rw [le_one, Nat.one_mul]
  exact ⟨rfl, S, st, mv, rv, g, c, hf.grow hb, hr⟩
theorem cp_bytes (h : CP B w0 w x bm v n Bs) (h1 : 1 ≤ v) (h2 : v ≤ 40) (h6 : n ≤ 8) (hlen : ∀ i, (Bs i).length = 2 * wide v) (i : Nat) (hi : i < n) :
    Calls Try.prog 20 #[.pointer (some ⟨bm, 0, none⟩), .int .u64 (addr (i + 1) (wide v)), .int .i64 v] w fun e w' => e = .returned (.tuple #[.string (bstr (((Bs i).drop (wide v)).take v)), .int .i64 0]) ∧ CP B w0 w' x bm v n Bs := by
  obtain ⟨S, st, mv, rv, g, c, hf, hr⟩ := h
  obtain ⟨r, r1, r2⟩ := hr i hi
  have hw := wide_le v h1
  refine (bytes_ok hf.fs.km (i + 1) (wide v) (by omega) (by omega) v (by omega) r1 (by rw [r2, hlen]; omega)).mono ?_
  rintro e w' ⟨rfl, g', hk, kk, _⟩
  rw [r2]
  refine ⟨rfl, _, _, _, rv, g, c, hf.turn hk kk, fun k hk => ?_⟩
  by_cases hki : k = i
  · subst hki
    exact ⟨_, upd_same _ _ _, r2⟩
  · obtain ⟨r', q1, q2⟩ := hr k hk
    exact ⟨r', by rw [upd_other _ _ (by omega)]; exact q1, q2⟩
end
theorem clamp_cpus (x y : Int) : ∃ n p : Nat, 1 ≤ n ∧ n ≤ 8 ∧ p < n ∧ max 1 (min x 8) = (n : Int) ∧ max 0 (min y ((n : Int) - 1)) = (p : Int) := by
  obtain ⟨n, h1, h2, h3⟩ : ∃ n : Nat, 1 ≤ n ∧ n ≤ 8 ∧ max 1 (min x 8) = (n : Int) := ⟨(max 1 (min x 8)).toNat, by omega, by omega, by omega⟩
  exact ⟨n, (max 0 (min y ((n : Int) - 1))).toNat, h1, h2, by omega, h3, by omega⟩
set_option maxHeartbeats 400000 in
theorem cpus_out (s : ByteArray) (x y : Int) (hs : s.size < 1 ∨ 40 < s.size) (w : World) :
    Calls Try.prog 5 #[.string s, .int .i64 x, .int .i64 y] w fun e w' => e = .returned (.bool true) ∧ Below w.heap.size w w' := by
  have hw : (decide ((s.size : Int) < 1) = true ∧ decide (s.size < 1) = true) ∨ (decide ((s.size : Int) < 1) = false ∧ decide (s.size < 1) = false ∧ decide (40 < (s.size : Int)) = true ∧ decide (40 < s.size) = true) := by
    by_cases h : s.size < 1
    · exact .inl ⟨decide_eq_true (by omega), decide_eq_true h⟩
    · exact .inr ⟨decide_eq_false (by omega), decide_eq_false h, decide_eq_true (by omega), decide_eq_true (by omega)⟩
  obtain ⟨n, p, n1, n8, pn, hn, hp⟩ := clamp_cpus x y
  have hwr : IntKind.i64.wrap ((n : Int) - 1) = (n : Int) - 1 := IntWalk.i64_in _ (by omega)
  clear hs n1 n8 pn
  rcases hw with ⟨h1, h2⟩ | ⟨h1, h2, h3, h4⟩
  all_goals (
    go_enter Try.func5, Try.ntmps5
    go_wp2_with (go_at_call 8; refine (awake_any _).mono ?_; rintro e w7 ⟨rfl, hb⟩; have B7 := Lib.hid hb; clear hb)
    go_ret
    exact ⟨rfl, B7.out⟩)
set_option maxHeartbeats 400000 in
theorem cpus_main (l : List UInt8) (x y : Int) (h1 : 1 ≤ l.length) (h2 : l.length ≤ 40) (w : World) :
    Calls Try.prog 5 #[.string (bstr l), .int .i64 x, .int .i64 y] w fun e w' => e = .returned (.bool true) ∧ Below w.heap.size w w' := by
  have hsz := bstr_size l
  have g1 : decide ((l.length : Int) < 1) = false := decide_eq_false (by omega)
  have g2 : decide (l.length < 1) = false := decide_eq_false (by omega)
  have g3 : decide (40 < (l.length : Int)) = false := decide_eq_false (by omega)
  have g4 : decide (40 < l.length) = false := decide_eq_false (by omega)
  obtain ⟨n, p, n1, n8, pn, hn, hp⟩ := clamp_cpus x y
  have hwr : IntKind.i64.wrap ((n : Int) - 1) = (n : Int) - 1 := IntWalk.i64_in _ (by omega)
  have C0 := Lib.hid (new_any w)
  have CN := Lib.hid (cp_new w l.length n h1 h2 n1 n8 l.length n rfl rfl)
  have H1 := Lib.hid h1
  have H2 := Lib.hid h2
  have N1 := Lib.hid n1
  have N8 := Lib.hid n8
  have PN := Lib.hid pn
  clear h1 h2 n1 n8 pn
  go_enter Try.func5, Try.ntmps5
  go_upto_region 5 with fail
  generalize min x 8 = q1 at *
  generalize min y ((n : Int) - 1) = q2 at *
  clear hn hp hwr
  go_upto_region 10 with (first
    | (go_at_call 9; refine C0.out.mono ?_; rintro e w1 ⟨rfl, rfl⟩)
    | (go_at_call 12; refine CN.out.mono ?_; rintro e w2 ⟨x1, rfl, hf⟩; have P2 := Lib.hid hf; clear hf))
  clear C0 CN
  have hw := wide_le l.length H1.out
  have BL : Hid (∀ _ : Nat, (List.replicate (2 * wide l.length) (0 : UInt8)).length = 2 * wide l.length) := fun _ => List.length_replicate
  have BL2 : Hid (∀ k : Nat, (if (k == p) = true then setAt (List.replicate (2 * wide l.length) 0) (wide l.length) l else List.replicate (2 * wide l.length) (0 : UInt8)).length = 2 * wide l.length) := fun k => by
    split
    · rw [setAt_length _ _ _ (by rw [List.length_replicate]; omega), List.length_replicate]
    · rw [List.length_replicate]
  have IN : Hid (((setAt (List.replicate (2 * wide l.length) 0) (wide l.length) l).drop (wide l.length)).take l.length = l) := set_in2 _ _ _ (by rw [List.length_replicate]; omega)
  have OUT : Hid (((List.replicate (2 * wide l.length) (0 : UInt8)).drop (wide l.length)).take l.length = List.replicate l.length 0) := zeros_in _ _ _ (by omega)
  have IN2 : Hid (∀ k : Nat, ((setAt (if (k == p) = true then setAt (List.replicate (2 * wide l.length) 0) (wide l.length) l else List.replicate (2 * wide l.length) (0 : UInt8)) (wide l.length) l).drop (wide l.length)).take l.length = l) := fun k => set_in2 _ _ _ (by rw [BL2.out k]; omega)
  have BL3 : Hid (∀ k : Nat, (setAt (if (k == p) = true then setAt (List.replicate (2 * wide l.length) 0) (wide l.length) l else List.replicate (2 * wide l.length) (0 : UInt8)) (wide l.length) l).length = 2 * wide l.length) := fun k => by rw [setAt_length _ _ _ (by rw [BL2.out k]; omega)]; exact BL2.out k
  clear hw
  go_upto_region 12 with (go_at_call 19; refine (cp_upd P2.out l rfl H1.out H2.out N1.out N8.out BL.out p PN.out).mono ?_; rintro e w3 ⟨rfl, hf⟩; have P3 := Lib.hid hf; clear hf)
  clear P2
  have HM := Lib.hid (make_run l.length (by have := H2.out; omega) w3)
  have HZ := Lib.hid (zero_conv l.length w3)
  have P4 := Lib.hid (P3.out.grow (below_alloc w3 (.cells (Array.replicate l.length (Value.int .u8 0)) 5)))
  clear P3
  go_wp2_with fail
  rw [HM.out]
  go_wp2_with fail
  rw [HZ.out]
  clear HM HZ
  obtain ⟨B1, hB1⟩ : ∃ B1 : Nat → List UInt8, (fun k => if (k == p) = true then setAt (List.replicate (2 * wide l.length) 0) (wide l.length) l else List.replicate (2 * wide l.length) (0 : UInt8)) = B1 := ⟨_, rfl⟩
  have L1 : Hid (∀ k, (B1 k).length = 2 * wide l.length) := fun k => by rw [← hB1]; exact BL2.out k
  have I1 : Hid (((B1 p).drop (wide l.length)).take l.length = l) := by rw [Hid, ← hB1]; simp only [beq_self_eq_true, if_true]; exact IN.out
  have O1 : Hid (∀ k, k ≠ p → ((B1 k).drop (wide l.length)).take l.length = List.replicate l.length 0) := fun k hk => by
    rw [← hB1]
    simp only [beq_iff_eq, hk, if_false]
    exact OUT.out
  have L2 : Hid (∀ k, (setAt (B1 k) (wide l.length) l).length = 2 * wide l.length) := fun k => by rw [← hB1]; exact BL3.out k
  have I2 : Hid (∀ k, ((setAt (B1 k) (wide l.length) l).drop (wide l.length)).take l.length = l) := fun k => by rw [← hB1]; exact IN2.out k
  rw [hB1] at P4
  clear hB1 BL BL2 BL3 IN IN2 OUT
  go_wp2_with fail
  go_loopw [12] (fun i wr => ∃ j : Nat, j ≤ n ∧ i = .int .i64 j ∧ CP w.heap.size w wr x1 w.heap.size l.length n B1) (fun i _ => n - (intOf i).toNat)
  case atStart => exact ⟨0, by omega, rfl, P4.out⟩
  case round =>
    obtain ⟨j, hj, rfl, hc⟩ := hrel
    have P5 := Lib.hid hc
    clear hc P4
    by_cases hlt : j < n
    · have HJ := Lib.hid hlt
      have HW : Hid (wrap64 ((j : Int) + 1) = (j : Int) + 1) := by unfold Hid wrap64; have := N8.out; omega
      by_cases hjp : j = p
      · have e1 : decide ((j : Int) = (p : Int)) = true := decide_eq_true (by omega)
        have e2 : ((j : Int) != (p : Int)) = false := by rw [hjp]; simp
        have e3 : ((j : Int) == (p : Int)) = true := by rw [hjp]; simp
        have IJ : Hid (((B1 j).drop (wide l.length)).take l.length = l) := by rw [hjp]; exact I1.out
        clear hjp
        go_upto_region 17 with (first
          | (go_at_call 21; refine (cp_look P5.out H2.out N8.out j HJ.out).mono ?_; rintro e w6 ⟨rfl, hp⟩; have P6 := Lib.hid hp; clear hp)
          | (go_at_call 20; refine (cp_bytes P6.out H1.out H2.out N8.out L1.out j HJ.out).mono ?_; rintro e w7 ⟨rfl, hp⟩; have P7 := Lib.hid hp; clear hp))
        rw [IJ.out]
        go_wp2_with fail
        exact ⟨⟨j + 1, by omega, by rw [HW.out]; go_num, P7.out⟩, by rw [HW.out]; simp [intOf]; omega⟩
      · have e1 : decide ((j : Int) = (p : Int)) = false := decide_eq_false (by omega)
        have e2 : ((j : Int) != (p : Int)) = true := by simp; omega
        have e3 : ((j : Int) == (p : Int)) = false := by rw [beq_eq_false_iff_ne]; omega
        have e4 : decide (j = p) = false := decide_eq_false hjp
        have IJ : Hid (((B1 j).drop (wide l.length)).take l.length = List.replicate l.length 0) := O1.out j hjp
        clear hjp
        go_upto_region 17 with (first
          | (go_at_call 21; refine (cp_look P5.out H2.out N8.out j HJ.out).mono ?_; rintro e w6 ⟨rfl, hp⟩; have P6 := Lib.hid hp; clear hp)
          | (go_at_call 20; refine (cp_bytes P6.out H1.out H2.out N8.out L1.out j HJ.out).mono ?_; rintro e w7 ⟨rfl, hp⟩; have P7 := Lib.hid hp; clear hp))
        rw [IJ.out]
        go_wp2_with fail
        exact ⟨⟨j + 1, by omega, by rw [HW.out]; go_num, P7.out⟩, by rw [HW.out]; simp [intOf]; omega⟩
    · have : j = n := by omega
      subst this
      go_upto_region 22 with (go_at_call 19; refine (cp_upd_all P5.out l rfl H1.out H2.out N1.out N8.out L1.out).mono ?_; rintro e w8 ⟨rfl, hf⟩; have P8 := Lib.hid hf; clear hf)
      clear P5
      clear I1 O1 L1
      go_loopw [15] (fun i wr => ∃ k : Nat, k ≤ j ∧ i = .int .i64 k ∧ CP w.heap.size w wr x1 w.heap.size l.length j (fun k => setAt (B1 k) (wide l.length) l)) (fun i _ => j - (intOf i).toNat)
      case atStart => exact ⟨0, by omega, rfl, P8.out⟩
      case round =>
        obtain ⟨k, hk, rfl, hc⟩ := hrel
        have P9 := Lib.hid hc
        clear hc P8
        by_cases hlt2 : k < j
        · have HJ := Lib.hid hlt2
          have HW : Hid (wrap64 ((k : Int) + 1) = (k : Int) + 1) := by unfold Hid wrap64; have := N8.out; omega
          go_upto_region 25 with (first
            | (go_at_call 21; refine (cp_look P9.out H2.out N8.out k HJ.out).mono ?_; rintro e w10 ⟨rfl, hp⟩; have P10 := Lib.hid hp; clear hp)
            | (go_at_call 20; refine (cp_bytes P10.out H1.out H2.out N8.out L2.out k HJ.out).mono ?_; rintro e w11 ⟨rfl, hp⟩; have P11 := Lib.hid hp; clear hp))
          rw [I2.out k]
          go_wp2_with fail
          exact ⟨⟨k + 1, by omega, by rw [HW.out]; go_num, P11.out⟩, by rw [HW.out]; simp [intOf]; omega⟩
        · have : k = j := by omega
          subst this
          go_wp2_with (go_at_call 8; refine (awake_later P9.out.below_.1 P9.out.below_.2).mono ?_; rintro e w12 ⟨rfl, hb⟩; have B12 := Lib.hid hb; clear hb)
          go_ret
          exact ⟨rfl, B12.out⟩
theorem cpus_walk (s : ByteArray) (x y : Int) (w : World) :
    Calls Try.prog 5 #[.string s, .int .i64 x, .int .i64 y] w fun e w' => e = .returned (.bool true) ∧ Below w.heap.size w w' := by
  by_cases h : s.size < 1 ∨ 40 < s.size
  · exact cpus_out s x y h w
  · have e := bstr_of s
    have hl : s.data.toList.length = s.size := by rw [Array.length_toList]; rfl
    rw [e]
    exact cpus_main _ x y (by omega) (by omega) w
end Go.Proofs.Ythilkgfbaddjpaa
