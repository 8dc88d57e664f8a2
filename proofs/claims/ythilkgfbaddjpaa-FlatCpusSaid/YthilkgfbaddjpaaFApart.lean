/-
  Layer 8: the law FlatApart, walked.
-/
import Derived.Test.YthilkgfbaddjpaaFPut
import Derived.Test.YthilkgfbaddjpaaFKeys
namespace Go.Proofs.Ythilkgfbaddjpaa
open Go Go.RowKit
set_option linter.unusedVariables false
set_option linter.unusedSimpArgs false
set_option maxRecDepth 100000
set_option maxHeartbeats 400000 in
theorem apart_out (s : ByteArray) (x y : Int) (hs : s.size < 1 ∨ 40 < s.size) (w : World) :
    Calls Try.prog 4 #[.string s, .int .i64 x, .int .i64 y] w fun e w' => e = .returned (.bool true) ∧ Below w.heap.size w w' := by
  have hw : (decide ((s.size : Int) < 1) = true ∧ decide (s.size < 1) = true) ∨ (decide ((s.size : Int) < 1) = false ∧ decide (s.size < 1) = false ∧ decide (40 < (s.size : Int)) = true ∧ decide (40 < s.size) = true) := by
    by_cases h : s.size < 1
    · exact .inl ⟨decide_eq_true (by omega), decide_eq_true h⟩
    · exact .inr ⟨decide_eq_false (by omega), decide_eq_false h, decide_eq_true (by omega), decide_eq_true (by omega)⟩
  clear hs
  rcases hw with ⟨h1, h2⟩ | ⟨h1, h2, h3, h4⟩
  all_goals (
    go_enter Try.func4, Try.ntmps4
    go_wp2_with (go_at_call 8; refine (awake_any _).mono ?_; rintro e w7 ⟨rfl, hb⟩; have B7 := Lib.hid hb; clear hb)
    go_ret
    exact ⟨rfl, B7.out⟩)
theorem set_in (n d a : Nat) (l : List UInt8) (h : a * d + l.length ≤ n) : ((setAt (List.replicate n 0) (a * d) l).drop (a * d)).take l.length = l := by
  unfold setAt
  have h1 : ((List.replicate n (0 : UInt8)).take (a * d)).length = a * d := by simp; omega
  rw [List.append_assoc, List.drop_append, h1, List.drop_of_length_le (by omega), List.nil_append, Nat.sub_self, List.drop_zero, List.take_append_of_le_length (Nat.le_refl _), List.take_of_length_le (Nat.le_refl _)]
theorem set_out (n d a b : Nat) (l : List UInt8) (hne : a ≠ b) (hd : l.length ≤ d) (ha : a * d + l.length ≤ n) (hb : b * d + l.length ≤ n) : ((setAt (List.replicate n 0) (a * d) l).drop (b * d)).take l.length = List.replicate l.length 0 := by
  have hap : a * d + l.length ≤ b * d ∨ b * d + l.length ≤ a * d := by
    rcases Nat.lt_or_ge a b with h | h
    · left
      have : (a + 1) * d ≤ b * d := Nat.mul_le_mul_right d h
      rw [Nat.add_mul] at this
      omega
    · right
      have : (b + 1) * d ≤ a * d := Nat.mul_le_mul_right d (by omega)
      rw [Nat.add_mul] at this
      omega
  apply List.ext_getElem?
  intro i
  by_cases hi : i < l.length
  · rw [List.getElem?_take_of_lt hi, List.getElem?_drop, setAt_get _ _ _ (by simp; omega), if_neg (by omega)]
    rw [List.getElem?_replicate, List.getElem?_replicate, if_pos (by omega), if_pos hi]
  · rw [List.getElem?_eq_none (by rw [List.length_take, List.length_drop, setAt_length _ _ _ (by simp; omega)]; simp; omega), List.getElem?_eq_none (by simp; omega)]
theorem rem8 (x : Int) : ∃ a : Nat, a < 8 ∧ (wrap64 (x.tmod 8 + 8)).tmod 8 = (a : Int) := by
  have h1 : x.tmod 8 < 8 := Int.tmod_lt_of_pos x (by decide)
  have h2 : -8 < x.tmod 8 := Int.lt_tmod_of_pos x (by decide)
  generalize x.tmod 8 = t at *
  have e : wrap64 (t + 8) = t + 8 := by unfold wrap64; omega
  rw [e, Int.tmod_eq_emod_of_nonneg (by omega)]
  exact ⟨((t + 8) % 8).toNat, by omega, by omega⟩
/-- The law's array, what its region holds. -/
def AP (B : Nat) (w0 w : World) (x bm v : Nat) (Bs : List UInt8) : Prop := ∃ S st mv rv, FS B w0 w S bm 1 0 st [] mv rv x (mapC bm 2 v 8 (sharedV (addr 1 0))) ∧ ∃ r, st 1 = some r ∧ r.bytes = Bs
section
variable {B : Nat} {w0 w : World} {x bm : Nat} {Bs : List UInt8} {v : Nat}
theorem AP.grow {w' : World} (h : AP B w0 w x bm v Bs) (hb : Below w.heap.size w w') : AP B w0 w' x bm v Bs := by
  obtain ⟨S, st, mv, rv, hf, hr⟩ := h
  exact ⟨S, st, mv, rv, hf.grow hb, hr⟩
theorem AP.below_ (h : AP B w0 w x bm v Bs) : Below B w0 w ∧ B ≤ w.heap.size := by
  obtain ⟨S, st, mv, rv, hf, hr⟩ := h
  exact ⟨hf.below, hf.sz⟩
theorem wide_le (v : Nat) (h1 : 1 ≤ v) : v ≤ wide v ∧ wide v ≤ v + 7 := by unfold wide; omega
theorem in_row (v a : Nat) (h1 : 1 ≤ v) (ha : a < 8) : a * wide v + v ≤ 8 * wide v := by
  have h := (wide_le v h1).1
  have : (a + 1) * wide v ≤ 8 * wide v := Nat.mul_le_mul_right _ ha
  rw [Nat.add_mul] at this
  omega
theorem ap_upd (h : AP B w0 w x bm v (List.replicate (8 * wide v) 0)) (l : List UInt8) (hl : l.length = v) (h1 : 1 ≤ v) (h2 : v ≤ 40) (a : Nat) (ha : a < 8) :
    Calls Try.prog 19 #[.pointer (some ⟨x, 0, none⟩), .string (bstr (wb a 4)), .string (bstr l), .int .i64 0, .int .i64 0] w fun e w' => e = .returned (.int .i64 0) ∧ AP B w0 w' x bm v (setAt (List.replicate (8 * wide v) 0) (a * wide v) l) := by
  obtain ⟨S, st, mv, rv, hf, r, hr, hB⟩ := h
  have hle := le_wb a (by omega)
  have hin := in_row v a h1 ha
  refine (Update_arr v 8 hf 0 (by omega) (by decide) (by decide) (wb a 4) (wb_length _ _) (by omega) l hl h1 hr (by rw [hle, hB, List.length_replicate]; exact hin)).mono ?_
  rintro e w' ⟨rfl, S', st', mv', hf', _, r', q1, _, q2, _⟩
  exact ⟨rfl, S', st', mv', rv, hf', r', q1, by rw [q2, hle, hB]⟩
theorem ap_look (h : AP B w0 w x bm v Bs) (h2 : v ≤ 40) (a : Nat) (ha : a < 8) :
    Calls Try.prog 21 #[.pointer (some ⟨x, 0, none⟩), .string (bstr (wb a 4)), .int .i64 0] w fun e w' => e = .returned (.int .u64 (addr 1 (a * wide v))) ∧ AP B w0 w' x bm v Bs := by
  obtain ⟨S, st, mv, rv, hf, hr⟩ := h
  have hle := le_wb a (by omega)
  refine (Lookup_arr v 8 1 0 (by omega) (by decide) (by decide) hf.map (wb a 4) (wb_length _ _) (by omega)).mono ?_
  rintro e w' ⟨rfl, hb⟩
  rw [hle]
  exact ⟨rfl, S, st, mv, rv, hf.grow hb, hr⟩
theorem ap_bytes (h : AP B w0 w x bm v Bs) (h1 : 1 ≤ v) (h2 : v ≤ 40) (a : Nat) (ha : a < 8) (hB : Bs.length = 8 * wide v) :
    Calls Try.prog 20 #[.pointer (some ⟨bm, 0, none⟩), .int .u64 (addr 1 (a * wide v)), .int .i64 v] w fun e w' => e = .returned (.tuple #[.string (bstr ((Bs.drop (a * wide v)).take v)), .int .i64 0]) ∧ AP B w0 w' x bm v Bs := by
  obtain ⟨S, st, mv, rv, hf, r, hr, rfl⟩ := h
  have hin := in_row v a h1 ha
  have hw := wide_le v h1
  refine (bytes_ok hf.km 1 (a * wide v) (by decide) (by omega) v (by omega) hr (by omega)).mono ?_
  rintro e w' ⟨rfl, g, hk, kk, _⟩
  exact ⟨rfl, _, _, _, rv, hf.turn hk kk, _, upd_same _ _ _, rfl⟩
end
theorem zero_conv (n : Nat) (W : World) : (convert 55 9 (.slice (some ⟨W.heap.size, 0, none⟩) n n)).run Try.prog (W.alloc (.cells (Array.replicate n (Value.int .u8 0)) 5)) = .ok (.string (bstr (List.replicate n 0))) (W.alloc (.cells (Array.replicate n (Value.int .u8 0)) 5)) := by
  have hb := Blk.new W 5 (Array.replicate n (Value.int .u8 0))
  have hc := Lib.run_convert_whole (P := Try.prog) (W.alloc (.cells (Array.replicate n (Value.int .u8 0)) 5)) 55 5 9 Try.underlying55 Try.underlying5 Try.underlying9 W.heap.size 0 (bstr (List.replicate n 0)) (fun i hi => by
    have hi' : i < n := by rw [bstr_size, List.length_replicate] at hi; exact hi
    have h1 := hb.cell i
    rw [Nat.zero_add, h1]
    have e : (bstr (List.replicate n 0))[i]'hi = 0 := by
      show ((List.replicate n (0 : UInt8)).toArray)[i] = 0
      simp
    rw [e]
    simp [hi']) n
  rw [bstr_size, List.length_replicate] at hc
  exact hc
set_option maxHeartbeats 400000 in
theorem apart_main (l : List UInt8) (x y : Int) (h1 : 1 ≤ l.length) (h2 : l.length ≤ 40) (w : World) :
    Calls Try.prog 4 #[.string (bstr l), .int .i64 x, .int .i64 y] w fun e w' => e = .returned (.bool true) ∧ Below w.heap.size w w' := by
  have hsz := bstr_size l
  have g1 : decide ((l.length : Int) < 1) = false := decide_eq_false (by omega)
  have g2 : decide (l.length < 1) = false := decide_eq_false (by omega)
  have g3 : decide (40 < (l.length : Int)) = false := decide_eq_false (by omega)
  have g4 : decide (40 < l.length) = false := decide_eq_false (by omega)
  obtain ⟨a, ha8, hae⟩ := rem8 x
  obtain ⟨b, hb8, hbe⟩ := rem8 y
  have C0 := Lib.hid (new_any w)
  have CN := Lib.hid (new_arr w l.length 8 h1 (by omega) (by decide) (by decide) (by unfold wide; omega) l.length 8 rfl rfl)
  have H1 := Lib.hid h1
  have H2 := Lib.hid h2
  have HA := Lib.hid ha8
  have HB := Lib.hid hb8
  have u1 : IntKind.u64.wrap (a : Int) = (a : Int) := wraps_u64 _ (by omega) (by omega)
  have u2 : IntKind.u64.wrap (b : Int) = (b : Int) := wraps_u64 _ (by omega) (by omega)
  clear h1 h2 ha8 hb8
  go_enter Try.func4, Try.ntmps4
  go_upto_region 7 with (first
    | (go_at_call 9; refine C0.out.mono ?_; rintro e w1 ⟨rfl, rfl⟩)
    | (go_at_call 12; refine CN.out.mono ?_; rintro e w2 ⟨x1, S2, st2, mv2, rv2, rfl, hf, r2, q1, _, q2, _⟩; have P2 : Hid (AP w.heap.size w w2 x1 w.heap.size l.length (List.replicate (8 * wide l.length) 0)) := ⟨S2, st2, mv2, rv2, hf, r2, q1, q2⟩; clear hf q1 q2))
  clear C0 CN
  go_upto_region 8 with fail
  clear hae hbe
  go_upto_region 9 with (first
    | (have _p := P3.out; go_at_call 18; refine (le_4 b (by have := HB.out; omega) _).mono ?_; rintro e w4 ⟨rfl, hb⟩; have P4 := Lib.hid (P3.out.grow hb); clear hb)
    | (go_at_call 18; refine (le_4 a (by have := HA.out; omega) _).mono ?_; rintro e w3 ⟨rfl, hb⟩; have P3 := Lib.hid (P2.out.grow hb); clear hb))
  clear P2 P3
  go_upto_region 10 with (go_at_call 19; refine (ap_upd P4.out l rfl H1.out H2.out a HA.out).mono ?_; rintro e w5 ⟨rfl, hp⟩; have P5 := Lib.hid hp; clear hp)
  have hin := in_row l.length a H1.out HA.out
  have hinb := in_row l.length b H1.out HB.out
  have hwd := wide_le l.length H1.out
  have hBl : (setAt (List.replicate (8 * wide l.length) 0) (a * wide l.length) l).length = 8 * wide l.length := by rw [setAt_length _ _ _ (by rw [List.length_replicate]; exact hin), List.length_replicate]
  have hIn := set_in (8 * wide l.length) (wide l.length) a l hin
  have hOut : a ≠ b → _ := fun hne => set_out (8 * wide l.length) (wide l.length) a b l hne hwd.1 hin hinb
  have BL := Lib.hid hBl
  have IN := Lib.hid hIn
  have OUT := Lib.hid hOut
  clear hin hinb hwd hBl hIn hOut P4
  go_upto_region 11 with (first
    | (go_at_call 21; refine (ap_look P5.out H2.out a HA.out).mono ?_; rintro e w6 ⟨rfl, hp⟩; have P6 := Lib.hid hp; clear hp)
    | (go_at_call 20; refine (ap_bytes P6.out H1.out H2.out a HA.out BL.out).mono ?_; rintro e w7 ⟨rfl, hp⟩; have P7 := Lib.hid hp; clear hp))
  rw [IN.out]
  clear P5 P6
  go_upto_region 12 with (first
    | (go_at_call 21; refine (ap_look P7.out H2.out b HB.out).mono ?_; rintro e w8 ⟨rfl, hp⟩; have P8 := Lib.hid hp; clear hp)
    | (go_at_call 20; refine (ap_bytes P8.out H1.out H2.out b HB.out BL.out).mono ?_; rintro e w9 ⟨rfl, hp⟩; have P9 := Lib.hid hp; clear hp))
  clear P7 P8
  by_cases hab : a = b
  · subst hab
    rw [IN.out]
    clear IN OUT BL
    go_wp2_with (go_at_call 8; refine (awake_later P9.out.below_.1 P9.out.below_.2).mono ?_; rintro e w10 ⟨rfl, hb⟩; have B10 := Lib.hid hb; clear hb)
    go_ret
    exact ⟨rfl, B10.out⟩
  · rw [OUT.out hab]
    have n1 : decide ((a : Int) = (b : Int)) = false := decide_eq_false (by omega)
    have n2 : ((a : Int) == (b : Int)) = false := by simp; omega
    have n3 : decide (a = b) = false := decide_eq_false hab
    have HM := Lib.hid (make_run l.length (by have := H2.out; omega) w9)
    have HZ := Lib.hid (zero_conv l.length w9)
    have P10 := Lib.hid (P9.out.grow (below_alloc w9 (.cells (Array.replicate l.length (Value.int .u8 0)) 5)))
    have hp : ∃ p, ((bstr (List.replicate l.length 0)).toList == (bstr l).toList) = p ∧ ((bstr l).toList == (bstr (List.replicate l.length 0)).toList) = p := ⟨_, rfl, by rw [Bool.eq_iff_iff]; simp only [beq_iff_eq]; exact eq_comm⟩
    obtain ⟨p, hp1, hp2⟩ := hp
    clear IN OUT BL hab
    cases p
    all_goals (
      go_wp2_with fail
      rw [HM.out]
      go_wp2_with fail
      rw [HZ.out]
      go_wp2_with (go_at_call 8; refine (awake_later P10.out.below_.1 P10.out.below_.2).mono ?_; rintro e w11 ⟨rfl, hb⟩; have B11 := Lib.hid hb; clear hb)
      go_ret
      exact ⟨rfl, B11.out⟩)
theorem apart_walk (s : ByteArray) (x y : Int) (w : World) :
    Calls Try.prog 4 #[.string s, .int .i64 x, .int .i64 y] w fun e w' => e = .returned (.bool true) ∧ Below w.heap.size w w' := by
  by_cases h : s.size < 1 ∨ 40 < s.size
  · exact apart_out s x y h w
  · have e := bstr_of s
    have hl : s.data.toList.length = s.size := by rw [Array.length_toList]; rfl
    rw [e]
    exact apart_main _ x y (by omega) (by omega) w
end Go.Proofs.Ythilkgfbaddjpaa
