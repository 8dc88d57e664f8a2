/-
  Layer 6: whether a text is a name; whether members and a type may be.
-/
import Derived.Test.YtmfdojmecpdikaaBLeaf
import Derived.Lib.ConvBytes
namespace Go.Proofs.Ytmfdojmecpdikaa
open Go Go.RowKit
set_option linter.unusedVariables false
set_option linter.unusedSimpArgs false
set_option maxRecDepth 100000
/-- The first k bytes begin a name. -/
def okTo (s : ByteArray) (k : Nat) : Prop := nameOk (s.data.toList.take k) = true
def okByte (s : ByteArray) (k : Nat) : Bool := letterB (s.data.toList.getD k 0) || (decide (k ≠ 0) && digitB (s.data.toList.getD k 0))
theorem nameOk_snoc (l : List UInt8) (c : UInt8) : nameOk (l ++ [c]) = (nameOk l && (letterB c || (decide (l.length ≠ 0) && digitB c))) := by
  cases l with
  | nil => simp [nameOk]
  | cons a r => simp [nameOk, Bool.and_assoc]
theorem okTo_succ (s : ByteArray) (k : Nat) (hk : k < s.size) (h : okTo s k) (hc : okByte s k = true) : okTo s (k + 1) := by
  unfold okTo at *
  have hk' : k < s.data.toList.length := by rw [size_list]; exact hk
  have e : s.data.toList.take (k + 1) = s.data.toList.take k ++ [s.data.toList.getD k 0] := by
    rw [List.take_succ_eq_append_getElem hk']
    simp [List.getD, List.getElem?_eq_getElem hk']
  rw [e, nameOk_snoc, h, Bool.true_and]
  unfold okByte at hc
  have e2 : (s.data.toList.take k).length = k := by rw [List.length_take]; omega
  rw [e2]; exact hc
theorem nameOk_take (l : List UInt8) (k : Nat) (h : nameOk l = true) : nameOk (l.take k) = true := by
  cases l with
  | nil => simpa using h
  | cons a r =>
    cases k with
    | zero => rfl
    | succ k =>
      simp only [nameOk, Bool.and_eq_true, List.all_eq_true, List.take_succ_cons] at *
      exact ⟨h.1, fun x hx => h.2 x (List.mem_of_mem_take hx)⟩
theorem okTo_bad (s : ByteArray) (k : Nat) (hk : k < s.size) (hc : okByte s k = false) : nameB s = false := by
  cases hb : nameB s
  · rfl
  · simp only [nameB, Bool.and_eq_true] at hb
    have h1 := nameOk_take _ (k + 1) hb.2
    have hk' : k < s.data.toList.length := by rw [size_list]; exact hk
    have e : s.data.toList.take (k + 1) = s.data.toList.take k ++ [s.data.toList.getD k 0] := by
      rw [List.take_succ_eq_append_getElem hk']
      simp [List.getD, List.getElem?_eq_getElem hk']
    have e2 : (s.data.toList.take k).length = k := by rw [List.length_take]; omega
    rw [e, nameOk_snoc, e2] at h1
    unfold okByte at hc
    rw [hc, Bool.and_false] at h1
    cases h1
theorem okTo_all (s : ByteArray) (h : okTo s s.size) (hs : s.size ≤ 128) : nameB s = true := by
  unfold okTo at h
  rw [List.take_of_length_le (by rw [size_list]; exact Nat.le_refl _)] at h
  unfold nameB
  rw [h, decide_eq_true hs]; rfl
theorem below_bytes (w : World) (e : TypeId) (s : ByteArray) : Below w.heap.size w (Lib.bytesWorld w e s) :=
  ⟨rfl, rfl, rfl, by rw [Lib.bytesWorld_size]; omega, fun k hk => Lib.bytesWorld_at_old w e s k hk⟩
set_option maxHeartbeats 2000000 in
theorem nameFn_any (s : ByteArray) (hs : s.size ≤ 9223372036854775807) (w : World) :
    Calls Try.prog 21 #[.string s] w fun e w' => e = .returned (.bool (nameB s)) ∧ Below w.heap.size w w' := by
  by_cases hbig : 128 < s.size
  · have e : nameB s = false := by unfold nameB; rw [decide_eq_false (by omega)]; rfl
    rw [e]
    have i1 : (128 : Int) < (s.size : Int) := by omega
    clear e hbig
    go_enter Try.func21, Try.ntmps21
    go_wp2_with fail
    go_ret
    exact ⟨rfl, Below.refl _ _⟩
  · have hcv := fun w => Lib.run_convert_string_bytes (P := Try.prog) w 9 45 5 s Try.underlying9 Try.underlying45 Try.underlying5
    have i1 : (s.size : Int) ≤ 128 := by omega
    have h128 : s.size ≤ 128 := by omega
    have H128 := Lib.hid h128
    clear hbig h128
    go_enter Try.func21, Try.ntmps21
    go_wp2_with fail
    clear hcv
    have hbw := below_bytes w 5 s
    have hcell := Lib.bytesWorld_cell w 5 s
    generalize Lib.bytesWorld w 5 s = W at *
    generalize grownCap w s.size 0 5 = cap at *
    have HBW := Lib.hid hbw
    have HC := Lib.hid hcell
    clear hbw hcell
    go_loop [3, 4, 11] (fun a b i => ∃ k : Nat, k ≤ s.size ∧ i = .int .i64 k ∧ okTo s k) (fun _ _ i => s.size - (intOf i).toNat)
    case atStart => exact ⟨0, by omega, rfl, rfl⟩
    case round =>
      obtain ⟨k, hk, rfl, hok⟩ := hrel
      have HOK := Lib.hid hok
      clear hok
      by_cases hks : k < s.size
      · have g1 : decide (k < s.size) = true := by simpa using hks
        have c0 : W.cell? ⟨w.heap.size, k, none⟩ = some (.int .u8 (s.data.toList.getD k 0).toNat) := HC.out k hks
        have CL := Lib.hid (fun w => letter_any (s.data.toList.getD k 0) w)
        have CD := Lib.hid (fun w => digit_any (s.data.toList.getD k 0) w)
        have HN : Hid (okByte s k = false → nameB s = false) := okTo_bad s k hks
        have HS : Hid (okByte s k = true → okTo s (k + 1)) := okTo_succ s k hks HOK.out
        have HD : Hid (okByte s k = (letterB (s.data.toList.getD k 0) || (decide (k ≠ 0) && digitB (s.data.toList.getD k 0)))) := (rfl : okByte s k = _)
        obtain ⟨ob, hob⟩ : ∃ ob, okByte s k = ob := ⟨_, rfl⟩
        rw [hob] at HN HS HD
        clear hob
        generalize s.data.toList.getD k 0 = c at *
        generalize letterB c = lb at *
        generalize digitB c = db at *
        cases lb
        · by_cases hk0 : k = 0
          · subst hk0
            go_wp2_with (first | (go_at_call 32; refine (CL.out _).mono ?_; rintro e w1 ⟨rfl, rfl⟩) | (go_at_call 33; refine (CD.out _).mono ?_; rintro e w1 ⟨rfl, rfl⟩))
            go_ret
            rw [HN.out (by rw [HD.out]; simp)]
            exact ⟨rfl, HBW.out⟩
          · have g2 : ((k : Int) == 0) = false := by simpa using hk0
            cases db
            · have HN2 : Hid (nameB s = false) := HN.out (by rw [HD.out]; simp)
              clear hk0
              go_wp2_with (first | (go_at_call 32; refine (CL.out _).mono ?_; rintro e w1 ⟨rfl, rfl⟩) | (go_at_call 33; refine (CD.out _).mono ?_; rintro e w1 ⟨rfl, rfl⟩))
              go_ret
              rw [HN2.out]
              exact ⟨rfl, HBW.out⟩
            · have HS2 : Hid (okTo s (k + 1)) := HS.out (by rw [HD.out]; simp [hk0])
              clear hk0
              go_wp2_with (first | (go_at_call 32; refine (CL.out _).mono ?_; rintro e w1 ⟨rfl, rfl⟩) | (go_at_call 33; refine (CD.out _).mono ?_; rintro e w1 ⟨rfl, rfl⟩))
              go_round
              case rel => exact ⟨k + 1, by omega, by go_num, HS2.out⟩
              case measure => simp [intOf]; omega
        · have HS2 : Hid (okTo s (k + 1)) := HS.out (by rw [HD.out]; simp)
          go_wp2_with (first | (go_at_call 32; refine (CL.out _).mono ?_; rintro e w1 ⟨rfl, rfl⟩) | (go_at_call 33; refine (CD.out _).mono ?_; rintro e w1 ⟨rfl, rfl⟩))
          go_round
          case rel => exact ⟨k + 1, by omega, by go_num, HS2.out⟩
          case measure => simp [intOf]; omega
      · have : k = s.size := by omega
        subst this
        have g1 : decide (s.size < s.size) = false := by simp
        go_wp2_with fail
        go_ret
        rw [okTo_all s HOK.out H128.out]
        exact ⟨rfl, HBW.out⟩
theorem Blk.below_ {w w' : World} {g : Nat} {t : TypeId} {cs : Array Value} (h : Blk w g t cs) (hb : Below w.heap.size w w') : Blk w' g t cs := (hb.block g h.lt).trans h
/-- Members that lie behind A. -/
def MemsAt (w : World) (A : Option Addr) (ms : List Mem) : Prop := ∀ i m, ms[i]? = some m → ∃ b off, A = some ⟨b, off, none⟩ ∧ b < w.heap.size ∧
  w.cell? ⟨b, off + i * 3, none⟩ = some (.string m.name) ∧ w.cell? ⟨b, off + i * 3 + 1, none⟩ = some (.int .i64 m.ty) ∧ w.cell? ⟨b, off + i * 3 + 2, none⟩ = some (.int .i64 m.off) ∧ m.name.size ≤ 9223372036854775807
theorem MemsAt.below {w w' : World} {A : Option Addr} {ms : List Mem} (h : MemsAt w A ms) (hb : Below w.heap.size w w') : MemsAt w' A ms := by
  intro i m hm
  obtain ⟨b, off, rfl, hlt, c0, c1, c2, hs⟩ := h i m hm
  exact ⟨b, off, rfl, Nat.lt_of_lt_of_le hlt hb.size, by rw [hb.cell (by simpa using hlt)]; exact c0, by rw [hb.cell (by simpa using hlt)]; exact c1, by rw [hb.cell (by simpa using hlt)]; exact c2, hs⟩
theorem all_take_succ (l : List Mem) (k : Nat) (m : Mem) (hm : l[k]? = some m) (h : (l.take k).all memB = true) (hb : memB m = true) : (l.take (k + 1)).all memB = true := by
  rw [List.take_add_one, hm]
  simp [h, hb]
theorem all_bad (l : List Mem) (k : Nat) (m : Mem) (hm : l[k]? = some m) (hb : memB m = false) : membersB l = false := by
  unfold membersB
  rw [Bool.and_eq_false_iff]
  right
  rw [List.all_eq_false]
  exact ⟨m, List.mem_of_getElem? hm, by simp [hb]⟩
set_option maxHeartbeats 2000000 in
theorem members_any (A : Option Addr) (c : Nat) (ms : List Mem) (hlen : ms.length ≤ 9223372036854775807) (w : World) (h : MemsAt w A ms) :
    Calls Try.prog 25 #[.slice A ms.length c] w fun e w' => e = .returned (.bool (membersB ms)) ∧ Below w.heap.size w w' := by
  by_cases hbig : 1024 < ms.length
  · have e : membersB ms = false := by unfold membersB; rw [decide_eq_false (by omega)]; rfl
    rw [e]
    have i1 : (1024 : Int) < (ms.length : Int) := by omega
    clear e hbig
    go_enter Try.func25, Try.ntmps25
    go_wp2_with fail
    go_ret
    exact ⟨rfl, Below.refl _ _⟩
  · have i1 : (ms.length : Int) ≤ 1024 := by omega
    have hle : ms.length ≤ 1024 := by omega
    have H := Lib.hid h
    have HLE := Lib.hid hle
    clear hbig h hle
    go_enter Try.func25, Try.ntmps25
    go_wp2_with fail
    go_loopw [4, 10] (fun a i wr => ∃ k : Nat, k ≤ ms.length ∧ i = .int .i64 k ∧ Below w.heap.size w wr ∧ (ms.take k).all memB = true) (fun _ i _ => ms.length - (intOf i).toNat)
    case atStart => exact ⟨0, by omega, rfl, Below.refl _ _, rfl⟩
    case round =>
      obtain ⟨k, hk, rfl, hb, hall⟩ := hrel
      have HB := Lib.hid hb
      have HA := Lib.hid hall
      clear hb hall
      by_cases hkn : k < ms.length
      · obtain ⟨m, hm⟩ : ∃ m, ms[k]? = some m := ⟨_, List.getElem?_eq_getElem hkn⟩
        obtain ⟨b, off, rfl, hlt, c0, c1, c2, hs⟩ := (H.out.below HB.out) k m hm
        have g1 : decide (k < ms.length) = true := by simpa using hkn
        have i2 : (k : Int) < (ms.length : Int) := by omega
        have HSB : Hid (memB m = true → (ms.take (k + 1)).all memB = true) := all_take_succ ms k m hm HA.out
        have HNB : Hid (memB m = false → membersB ms = false) := all_bad ms k m hm
        have HD : Hid (memB m = (nameB m.name && fitsB m.ty && fitsB m.off)) := (rfl : memB m = _)
        have CN := Lib.hid (fun w => nameFn_any m.name hs w)
        have C1 := Lib.hid (fun w => fits_any m.ty w)
        have C2 := Lib.hid (fun w => fits_any m.off w)
        obtain ⟨B, hB⟩ : ∃ B, B = wr.alloc (.cells #[.string m.name, .int .i64 m.ty, .int .i64 m.off] 53) := ⟨_, rfl⟩
        have hbk : Blk (wr.alloc (.cells #[.string m.name, .int .i64 m.ty, .int .i64 m.off] 53)) wr.heap.size 53 #[.string m.name, .int .i64 m.ty, .int .i64 m.off] := Blk.new _ _ _
        have HBK := Lib.hid hbk
        have HB2 : Hid (Below w.heap.size w (wr.alloc (.cells #[.string m.name, .int .i64 m.ty, .int .i64 m.off] 53))) := HB.out.alloc HB.out.size _
        generalize memB m = mb at *
        generalize nameB m.name = nb at *
        generalize fitsB m.ty = tb at *
        generalize fitsB m.off = ob at *
        clear hm hkn hlt hB hbk
        cases nb
        · go_wp2_with (go_at_call 21; refine (CN.out _).mono ?_; rintro e w1 ⟨rfl, hb1⟩; have HB1 := Lib.hid hb1; clear hb1)
          go_ret
          rw [HNB.out (by rw [HD.out]; rfl)]
          exact ⟨rfl, HB2.out.trans (HB1.out.mono HB2.out.size)⟩
        · cases tb
          · go_wp2_with (first | (go_at_call 21; refine (CN.out _).mono ?_; rintro e w1 ⟨rfl, hb1⟩; have HB1 := Lib.hid hb1; have HK1 := Lib.hid (HBK.out.below_ hb1); have d1 : w1.cell? ⟨wr.heap.size, 1, none⟩ = some (.int .i64 m.ty) := HK1.out.cell 1; have d2 : w1.cell? ⟨wr.heap.size, 2, none⟩ = some (.int .i64 m.off) := HK1.out.cell 2; clear hb1) | (go_at_call 24; first | (have tk := tok2; refine (C2.out _).mono ?_; rintro e w3 ⟨rfl, rfl⟩) | (refine (C1.out _).mono ?_; rintro e w2 ⟨rfl, rfl⟩; have tok2 := True.intro)))
            go_ret
            rw [HNB.out (by rw [HD.out]; rfl)]
            exact ⟨rfl, HB2.out.trans (HB1.out.mono HB2.out.size)⟩
          · cases ob
            · go_wp2_with (first | (go_at_call 21; refine (CN.out _).mono ?_; rintro e w1 ⟨rfl, hb1⟩; have HB1 := Lib.hid hb1; have HK1 := Lib.hid (HBK.out.below_ hb1); have d1 : w1.cell? ⟨wr.heap.size, 1, none⟩ = some (.int .i64 m.ty) := HK1.out.cell 1; have d2 : w1.cell? ⟨wr.heap.size, 2, none⟩ = some (.int .i64 m.off) := HK1.out.cell 2; clear hb1) | (go_at_call 24; first | (have tk := tok2; refine (C2.out _).mono ?_; rintro e w3 ⟨rfl, rfl⟩) | (refine (C1.out _).mono ?_; rintro e w2 ⟨rfl, rfl⟩; have tok2 := True.intro)))
              go_ret
              rw [HNB.out (by rw [HD.out]; rfl)]
              exact ⟨rfl, HB2.out.trans (HB1.out.mono HB2.out.size)⟩
            · have HS2 := Lib.hid (HSB.out (by rw [HD.out]; rfl))
              go_wp2_with (first | (go_at_call 21; refine (CN.out _).mono ?_; rintro e w1 ⟨rfl, hb1⟩; have HB1 := Lib.hid hb1; have HK1 := Lib.hid (HBK.out.below_ hb1); have d1 : w1.cell? ⟨wr.heap.size, 1, none⟩ = some (.int .i64 m.ty) := HK1.out.cell 1; have d2 : w1.cell? ⟨wr.heap.size, 2, none⟩ = some (.int .i64 m.off) := HK1.out.cell 2; clear hb1) | (go_at_call 24; first | (have tk := tok2; refine (C2.out _).mono ?_; rintro e w3 ⟨rfl, rfl⟩) | (refine (C1.out _).mono ?_; rintro e w2 ⟨rfl, rfl⟩; have tok2 := True.intro)))
              go_roundw
              case rel => exact ⟨k + 1, by omega, by go_num, HB2.out.trans (HB1.out.mono HB2.out.size), HS2.out⟩
              case measure => simp [intOf]; omega
      · have : k = ms.length := by omega
        subst this
        have g1 : decide (ms.length < ms.length) = false := by simp
        go_wp2_with fail
        go_ret
        have e : membersB ms = true := by
          have := HA.out
          rw [List.take_length] at this
          unfold membersB
          rw [this, decide_eq_true HLE.out]; rfl
        rw [e]
        exact ⟨rfl, HB.out⟩
theorem may_eq (t : Ty) : mayB t = (nameB t.name && (fitsB t.size && (fitsB t.ty && (fitsB t.count && (membersB t.mems && kindOk t))))) := by
  unfold mayB
  simp only [Bool.and_assoc]
/-- What the looks at a type's kind tell, test by test. -/
def kindT (k : Int) (named sz sz0 ty0 ct0 parted : Bool) : Bool :=
  if k == 1 then named && (sz && (ty0 && (ct0 && !parted))) else if k == 2 then !named && (sz0 && (ct0 && !parted)) else if k == 8 then named && (sz0 && (ct0 && !parted))
  else if k == 3 then !named && (sz0 && !parted) else if k == 4 then ty0 && ct0 else false
theorem kind_eq (t : Ty) : kindOk t = kindT t.kind (!t.name.toList.isEmpty) (sizedB t.size) (t.size == 0) (t.ty == 0) (t.count == 0) (decide (0 < t.mems.length)) := by
  have e1 : t.name.toList.isEmpty = decide (t.name.size = 0) := by
    rw [Bool.eq_iff_iff, List.isEmpty_iff_length_eq_zero, ByteArray.toList_eq, size_list]; simp
  have e2 : decide (0 < t.mems.length) = !decide (t.mems.length = 0) := by
    generalize t.mems.length = n; cases n <;> simp
  have e3 : ∀ n : Int, (n == 0) = decide (n = 0) := fun n => by rw [Bool.eq_iff_iff]; simp
  rw [e1, e2]
  unfold kindOk kindT
  simp only [e3, beq_iff_eq, Bool.not_not, Bool.and_assoc]
  have e4 : decide (t.name.size ≠ 0) = !decide (t.name.size = 0) := by rw [Bool.eq_iff_iff]; simp
  rw [e4]
end Go.Proofs.Ytmfdojmecpdikaa
