/-
  The reference of layer 11: Next. The reference of layer 11: New, Free. A table of prefixes, deed by deed: the reference gives the one answer. Layer 11: both memories side by side, both tables; Regions of both, behind which both stand.
-/
import Derived.Test.YtomhflaofipccaaGreatP32
import Derived.Test.YtomhflaofipccaaGreatP28
import Derived.Test.YtomhflaofipccaaGreatP29
import Derived.Test.YtomhflaofipccaaGreatP8
namespace Go.Proofs.YtomhflaofipccaaGreat
open Go Go.RowKit Go.Maps
set_option linter.unusedVariables false
set_option linter.unusedSimpArgs false
set_option maxRecDepth 100000
theorem no_lt {A : Prop} {e bst : ByteArray} (h : Op.bytesLess e.toList bst.toList = false) : ¬ (A ∧ (some bst = none ∨ ltS e ((some bst).getD ⟨#[]⟩) = true)) := by
  rintro ⟨_, hh | hh⟩
  · cases hh
  · have h2 : Op.bytesLess e.toList bst.toList = true := hh
    rw [h] at h2; cases h2
theorem no_q {q B : Prop} (h : ¬ q) : ¬ (q ∧ B) := fun hc => h hc.1
theorem nextP_no {p : HPar} {key k : ByteArray} (h : decide (IsKey p.key key) = false) : nextP p key k = true := by unfold nextP; rw [h]; rfl
theorem nextP_yes {p : HPar} {key k f : ByteArray} {b : Bool} (h : decide (IsKey p.key key) = true) (hf : f = formB key) (hg : gtS k f = b) : nextP p key k = b := by unfold nextP; rw [h, ← hf, hg]; rfl
section
variable {p : HPar} {w0 w w' : World} {Q Q0 U T T' : Nat → Prop} {s s' : HSt} {V V' : Value}
theorem YS.next_nil (h : YS p w0 Q0 s T V w) (hp : p.Ok) (key : ByteArray) (h0 : s.es = []) : Calls Tryz.prog 16 #[tp p.y, .string key] w fun e w' => e = nextA none ∧ YS p w0 Q0 s T V w' := by
  obtain ⟨f, _, CF⟩ := h.form hp key
  have HF := Lib.hid CF
  have hV : ∃ A c, V = .slice A 0 c := by
    obtain ⟨A, c, e⟩ := h.shape
    refine ⟨A, c, ?_⟩
    rw [e, h0]; rfl
  obtain ⟨A, c, rfl⟩ := hV
  have HA : Hid (∀ W, YS p w0 Q0 s T (.slice A 0 c) W → W.cell? ⟨p.y, 5, none⟩ = some (.slice A 0 c)) := fun W hW => hW.map.cell 5
  generalize decide (IsKey p.key key) = ok at *
  clear h CF h0
  go_enter Tryz.func16, Tryz.ntmps16
  go_upto_region 2 with (go_at_call 35; refine HF.out.mono ?_; rintro e w1 ⟨rfl, h1⟩; have H1 := Lib.hid h1; clear h1)
  have c5 := HA.out _ H1.out
  go_wp2_with fail
  go_loopw [8, 9, 10] (fun b f i wr => i = .int .i64 0 ∧ f = .bool false ∧ b = .string ⟨#[]⟩ ∧ wr = w1) (fun _ _ _ _ => 0)
  case atStart => exact ⟨rfl, rfl, rfl, rfl⟩
  case round =>
    obtain ⟨rfl, rfl, rfl, rfl⟩ := hrel
    go_wp2_with fail
    go_ret2
    exact ⟨rfl, H1.out⟩
set_option maxHeartbeats 4000000 in
theorem YS.next_ne (h : YS p w0 Q0 s T V w) (hp : p.Ok) (hl : s.es.length ≤ 4096) (key : ByteArray) (h0 : s.es ≠ []) (ha : decide (IsKey p.key key) = false) :
    Calls Tryz.prog 16 #[tp p.y, .string key] w fun e w' => e = nextA (nextTo (nextP p key) s.es s.es.length) ∧ YS p w0 Q0 s T V w' := by
  obtain ⟨f, hfe, CF⟩ := h.form hp key
  rw [ha] at CF
  have HF := Lib.hid CF
  have HNE := Lib.hid ha
  obtain ⟨g, c, rfl, h1, h2⟩ := h.row h0
  have HA : Hid (∀ W, YS p w0 Q0 s T (.slice (some ⟨g, 0, none⟩) s.es.length c) W → W.cell? ⟨p.y, 5, none⟩ = some (.slice (some ⟨g, 0, none⟩) s.es.length c)) := fun W hW => hW.map.cell 5
  clear h h1 h2 h0 ha CF hfe
  go_enter Tryz.func16, Tryz.ntmps16
  go_upto_region 2 with (go_at_call 35; refine HF.out.mono ?_; rintro e w1 ⟨rfl, h1⟩; have H1 := Lib.hid h1; clear h1)
  have c5 := HA.out _ H1.out
  go_wp2_with fail
  go_loopw [8, 9, 10] (fun b f i wr => ∃ j : Nat, j ≤ s.es.length ∧ i = .int .i64 j ∧ wr = w1 ∧ b = .string ((nextTo (nextP p key) s.es j).getD ⟨#[]⟩) ∧ f = .bool (nextTo (nextP p key) s.es j).isSome) (fun _ _ i _ => s.es.length - (intOf i).toNat)
  case atStart => exact ⟨0, by omega, rfl, rfl, rfl, rfl⟩
  case round =>
    obtain ⟨j, hj, rfl, hw, rfl, rfl⟩ := hrel
    obtain rfl : w1 = wr := hw.symm
    by_cases hjn : j < s.es.length
    · obtain ⟨e, he⟩ : ∃ e, s.es[j]? = some e := ⟨_, List.getElem?_eq_getElem hjn⟩
      have HE := Lib.hid he
      have d0 : w1.cell? ⟨g, j * 2, none⟩ = some (.string e.key) := (ents_cells H1.out.ents he).1
      have g1 : decide (j < s.es.length) = true := by simpa using hjn
      have i1 : (j : Int) < (s.es.length : Int) := by omega
      clear he
      rcases ho : nextTo (nextP p key) s.es j with _ | bst
      · have HO := Lib.hid ho
        clear ho
        rw [show (none : Option ByteArray).getD ⟨#[]⟩ = ⟨#[]⟩ from rfl, show (none : Option ByteArray).isSome = false from rfl]
        have HX : Hid (nextTo (nextP p key) s.es (j + 1) = some e.key) := by
          unfold Hid
          rw [nextTo_step HE.out, if_pos (by exact ⟨nextP_no HNE.out, .inl HO.out⟩)]
        clear HO HE
        go_upto_region 7 with fail
        go_wp2_with fail
        go_roundw
        case rel => exact ⟨j + 1, by omega, by go_num, trivial, by rw [HX.out]; rfl, by rw [HX.out]; rfl⟩
        case measure => simp [intOf]; omega
      · have HO := Lib.hid ho
        clear ho
        rw [show (some bst).getD ⟨#[]⟩ = bst from rfl, show (some bst).isSome = true from rfl]
        cases hl : Op.bytesLess e.key.toList bst.toList
        · have HLT := Lib.hid hl
          have HX : Hid (nextTo (nextP p key) s.es (j + 1) = some bst) := by
            unfold Hid
            rw [nextTo_step HE.out, if_neg (by rw [HO.out]; exact no_lt HLT.out), HO.out]
          clear HO HE
          go_upto_region 7 with fail
          go_wp2_with fail
          go_roundw
          case rel => exact ⟨j + 1, by omega, by go_num, trivial, by rw [HX.out]; rfl, by rw [HX.out]; rfl⟩
          case measure => simp [intOf]; omega
        · have HLT := Lib.hid hl
          have HX : Hid (nextTo (nextP p key) s.es (j + 1) = some e.key) := by
            unfold Hid
            rw [nextTo_step HE.out, if_pos (by rw [HO.out]; exact ⟨nextP_no HNE.out, .inr HLT.out⟩)]
          clear HO HE
          go_upto_region 7 with fail
          go_wp2_with fail
          go_roundw
          case rel => exact ⟨j + 1, by omega, by go_num, trivial, by rw [HX.out]; rfl, by rw [HX.out]; rfl⟩
          case measure => simp [intOf]; omega
    · obtain rfl : j = s.es.length := by omega
      have g1 : decide (s.es.length < s.es.length) = false := by simp
      rcases ho : nextTo (nextP p key) s.es s.es.length with _ | bst
      · have HO := Lib.hid ho
        clear ho
        rw [show (none : Option ByteArray).getD ⟨#[]⟩ = ⟨#[]⟩ from rfl, show (none : Option ByteArray).isSome = false from rfl]
        go_wp2_with fail
        go_ret2
        exact ⟨by rw [HO.out]; rfl, H1.out⟩
      · have HO := Lib.hid ho
        clear ho
        rw [show (some bst).getD ⟨#[]⟩ = bst from rfl, show (some bst).isSome = true from rfl]
        go_wp2_with fail
        go_ret2
        exact ⟨by rw [HO.out]; rfl, H1.out⟩
set_option maxHeartbeats 4000000 in
theorem YS.next_eq (h : YS p w0 Q0 s T V w) (hp : p.Ok) (hl : s.es.length ≤ 4096) (key : ByteArray) (h0 : s.es ≠ []) (ha : decide (IsKey p.key key) = true) :
    Calls Tryz.prog 16 #[tp p.y, .string key] w fun e w' => e = nextA (nextTo (nextP p key) s.es s.es.length) ∧ YS p w0 Q0 s T V w' := by
  obtain ⟨f, hfe, CF⟩ := h.form hp key
  rw [ha] at CF
  have HF := Lib.hid CF
  have HEQ := Lib.hid ha
  have HFE := Lib.hid (hfe (of_decide_eq_true ha))
  obtain ⟨g, c, rfl, h1, h2⟩ := h.row h0
  have HA : Hid (∀ W, YS p w0 Q0 s T (.slice (some ⟨g, 0, none⟩) s.es.length c) W → W.cell? ⟨p.y, 5, none⟩ = some (.slice (some ⟨g, 0, none⟩) s.es.length c)) := fun W hW => hW.map.cell 5
  clear h h1 h2 h0 ha CF hfe
  go_enter Tryz.func16, Tryz.ntmps16
  go_upto_region 2 with (go_at_call 35; refine HF.out.mono ?_; rintro e w1 ⟨rfl, h1⟩; have H1 := Lib.hid h1; clear h1)
  have c5 := HA.out _ H1.out
  go_wp2_with fail
  go_loopw [8, 9, 10] (fun b f i wr => ∃ j : Nat, j ≤ s.es.length ∧ i = .int .i64 j ∧ wr = w1 ∧ b = .string ((nextTo (nextP p key) s.es j).getD ⟨#[]⟩) ∧ f = .bool (nextTo (nextP p key) s.es j).isSome) (fun _ _ i _ => s.es.length - (intOf i).toNat)
  case atStart => exact ⟨0, by omega, rfl, rfl, rfl, rfl⟩
  case round =>
    obtain ⟨j, hj, rfl, hw, rfl, rfl⟩ := hrel
    obtain rfl : w1 = wr := hw.symm
    by_cases hjn : j < s.es.length
    · obtain ⟨e, he⟩ : ∃ e, s.es[j]? = some e := ⟨_, List.getElem?_eq_getElem hjn⟩
      have HE := Lib.hid he
      have d0 : w1.cell? ⟨g, j * 2, none⟩ = some (.string e.key) := (ents_cells H1.out.ents he).1
      have g1 : decide (j < s.es.length) = true := by simpa using hjn
      have i1 : (j : Int) < (s.es.length : Int) := by omega
      clear he
      rcases ho : nextTo (nextP p key) s.es j with _ | bst
      · have HO := Lib.hid ho
        clear ho
        rw [show (none : Option ByteArray).getD ⟨#[]⟩ = ⟨#[]⟩ from rfl, show (none : Option ByteArray).isSome = false from rfl]
        have bg := gt_run 9 e.key f
        cases hgt : gtS e.key f
        · rw [hgt] at bg
          have HGT := Lib.hid hgt
          clear hgt
          have HX : Hid (nextTo (nextP p key) s.es (j + 1) = none) := by
            unfold Hid
            rw [nextTo_step HE.out, if_neg (by refine no_q ?_; rw [nextP_yes HEQ.out HFE.out HGT.out]; decide), HO.out]
          clear HO HE
          go_upto_region 7 with fail
          go_wp2_with fail
          go_roundw
          case rel => exact ⟨j + 1, by omega, by go_num, trivial, by rw [HX.out]; rfl, by rw [HX.out]; rfl⟩
          case measure => simp [intOf]; omega
        · rw [hgt] at bg
          have HGT := Lib.hid hgt
          clear hgt
          have HX : Hid (nextTo (nextP p key) s.es (j + 1) = some e.key) := by
            unfold Hid
            rw [nextTo_step HE.out, if_pos (by exact ⟨nextP_yes HEQ.out HFE.out HGT.out, .inl HO.out⟩)]
          clear HO HE
          go_upto_region 7 with fail
          go_wp2_with fail
          go_roundw
          case rel => exact ⟨j + 1, by omega, by go_num, trivial, by rw [HX.out]; rfl, by rw [HX.out]; rfl⟩
          case measure => simp [intOf]; omega
      · have HO := Lib.hid ho
        clear ho
        rw [show (some bst).getD ⟨#[]⟩ = bst from rfl, show (some bst).isSome = true from rfl]
        have bg := gt_run 9 e.key f
        cases hgt : gtS e.key f
        · rw [hgt] at bg
          have HGT := Lib.hid hgt
          clear hgt
          have HX : Hid (nextTo (nextP p key) s.es (j + 1) = some bst) := by
            unfold Hid
            rw [nextTo_step HE.out, if_neg (by refine no_q ?_; rw [nextP_yes HEQ.out HFE.out HGT.out]; decide), HO.out]
          clear HO HE
          go_upto_region 7 with fail
          go_wp2_with fail
          go_roundw
          case rel => exact ⟨j + 1, by omega, by go_num, trivial, by rw [HX.out]; rfl, by rw [HX.out]; rfl⟩
          case measure => simp [intOf]; omega
        · rw [hgt] at bg
          have HGT := Lib.hid hgt
          clear hgt
          cases hl : Op.bytesLess e.key.toList bst.toList
          · have HLT := Lib.hid hl
            have HX : Hid (nextTo (nextP p key) s.es (j + 1) = some bst) := by
              unfold Hid
              rw [nextTo_step HE.out, if_neg (by rw [HO.out]; exact no_lt HLT.out), HO.out]
            clear HO HE
            go_upto_region 7 with fail
            go_wp2_with fail
            go_roundw
            case rel => exact ⟨j + 1, by omega, by go_num, trivial, by rw [HX.out]; rfl, by rw [HX.out]; rfl⟩
            case measure => simp [intOf]; omega
          · have HLT := Lib.hid hl
            have HX : Hid (nextTo (nextP p key) s.es (j + 1) = some e.key) := by
              unfold Hid
              rw [nextTo_step HE.out, if_pos (by rw [HO.out]; exact ⟨nextP_yes HEQ.out HFE.out HGT.out, .inr HLT.out⟩)]
            clear HO HE
            go_upto_region 7 with fail
            go_wp2_with fail
            go_roundw
            case rel => exact ⟨j + 1, by omega, by go_num, trivial, by rw [HX.out]; rfl, by rw [HX.out]; rfl⟩
            case measure => simp [intOf]; omega
    · obtain rfl : j = s.es.length := by omega
      have g1 : decide (s.es.length < s.es.length) = false := by simp
      rcases ho : nextTo (nextP p key) s.es s.es.length with _ | bst
      · have HO := Lib.hid ho
        clear ho
        rw [show (none : Option ByteArray).getD ⟨#[]⟩ = ⟨#[]⟩ from rfl, show (none : Option ByteArray).isSome = false from rfl]
        go_wp2_with fail
        go_ret2
        exact ⟨by rw [HO.out]; rfl, H1.out⟩
      · have HO := Lib.hid ho
        clear ho
        rw [show (some bst).getD ⟨#[]⟩ = bst from rfl, show (some bst).isSome = true from rfl]
        go_wp2_with fail
        go_ret2
        exact ⟨by rw [HO.out]; rfl, H1.out⟩
theorem YS.next (h : YS p w0 Q0 s T V w) (hp : p.Ok) (hl : s.es.length ≤ 4096) (key : ByteArray) :
    Calls Tryz.prog 16 #[tp p.y, .string key] w fun e w' => e = nextE p s key ∧ YS p w0 Q0 s T V w' := by
  by_cases h0 : s.es = []
  · have := h.next_nil hp key h0
    rw [show nextE p s key = nextA none by unfold nextE; rw [h0]; rfl]
    exact this
  · cases ha : decide (IsKey p.key key)
    · exact h.next_ne hp hl key h0 ha
    · exact h.next_eq hp hl key h0 ha
end
end Go.Proofs.YtomhflaofipccaaGreat
namespace Go.Proofs.YtomhflaofipccaaGreat
open Go Go.RowKit Go.Maps
set_option linter.unusedVariables false
set_option linter.unusedSimpArgs false
set_option maxRecDepth 100000
section
variable {p : HPar} {w0 w w' : World} {Q Q0 U T T' : Nat → Prop} {s s' : HSt} {V V' : Value}
theorem xnew_nil (k key v mx : Int) (w : World) : Calls Tryz.prog 6 #[.pointer none, specV k key v mx] w fun e w' => e = .returned (.tuple #[.pointer none, .int .i64 1]) ∧ Qt w w' := by
  have B : Hid (Qt w (w.alloc (.cells (specC k key v mx) 23))) := Lib.hid ((Keeps.refl _ w).alloc _)
  go_enter Tryz.func6, Tryz.ntmps6
  go_wp2_with fail
  go_ret2
  exact ⟨rfl, B.out⟩
theorem xnew_no (bx : Nat) (k key v mx : Int) (h : fitsH k key v mx = false) (w : World) : Calls Tryz.prog 6 #[tp bx, specV k key v mx] w fun e w' => e = .returned (.tuple #[.pointer none, .int .i64 1]) ∧ Qt w w' := by
  have CF := Lib.hid (xmay_any k key v mx)
  rw [h] at CF
  have B : Hid (Qt w (w.alloc (.cells (specC k key v mx) 23))) := Lib.hid ((Keeps.refl _ w).alloc _)
  have HB := Lib.hid (Blk.new w 23 (specC k key v mx))
  clear h
  have c0 : (w.alloc (.cells (specC k key v mx) 23)).cell? ⟨w.heap.size, 0, none⟩ = some (.int .i64 k) := HB.out.cell 0
  have c1 : (w.alloc (.cells (specC k key v mx) 23)).cell? ⟨w.heap.size, 1, none⟩ = some (.int .i64 key) := HB.out.cell 1
  have c2 : (w.alloc (.cells (specC k key v mx) 23)).cell? ⟨w.heap.size, 2, none⟩ = some (.int .i64 v) := HB.out.cell 2
  have c3 : (w.alloc (.cells (specC k key v mx) 23)).cell? ⟨w.heap.size, 3, none⟩ = some (.int .i64 mx) := HB.out.cell 3
  go_enter Tryz.func6, Tryz.ntmps6
  go_wp2_with (go_at_call 27; refine (CF.out _).mono ?_; rintro e w1 ⟨rfl, hb⟩; have B1 := Lib.hid (B.out.then_ hb); clear hb)
  go_ret2
  exact ⟨rfl, B1.out⟩
theorem xnew_ok (bx : Nat) (k key v mx : Int) (h : fitsH k key v mx = true) (w : World) : Calls Tryz.prog 6 #[tp bx, specV k key v mx] w fun e w' => ∃ x, e = .returned (.tuple #[tp x, .int .i64 0]) ∧ Blk w' x rT (rC bx k key v mx (.slice none 0 0) false) ∧ w.heap.size ≤ x ∧ Qt w w' := by
  have CF := Lib.hid (xmay_any k key v mx)
  rw [h] at CF
  have B : Hid (Qt w (w.alloc (.cells (specC k key v mx) 23))) := Lib.hid ((Keeps.refl _ w).alloc _)
  have HB := Lib.hid (Blk.new w 23 (specC k key v mx))
  clear h
  have c0 : (w.alloc (.cells (specC k key v mx) 23)).cell? ⟨w.heap.size, 0, none⟩ = some (.int .i64 k) := HB.out.cell 0
  have c1 : (w.alloc (.cells (specC k key v mx) 23)).cell? ⟨w.heap.size, 1, none⟩ = some (.int .i64 key) := HB.out.cell 1
  have c2 : (w.alloc (.cells (specC k key v mx) 23)).cell? ⟨w.heap.size, 2, none⟩ = some (.int .i64 v) := HB.out.cell 2
  have c3 : (w.alloc (.cells (specC k key v mx) 23)).cell? ⟨w.heap.size, 3, none⟩ = some (.int .i64 mx) := HB.out.cell 3
  go_enter Tryz.func6, Tryz.ntmps6
  go_upto_region 3 with (go_at_call 27; refine (CF.out _).mono ?_; rintro e w1 ⟨rfl, hb⟩; have B1 := Lib.hid (B.out.then_ hb); have HB1 := Lib.hid (HB.out.quiet hb); clear hb)
  clear c0 c1 c2 c3
  have c0 : w1.cell? ⟨w.heap.size, 0, none⟩ = some (.int .i64 k) := HB1.out.cell 0
  have c1 : w1.cell? ⟨w.heap.size, 1, none⟩ = some (.int .i64 key) := HB1.out.cell 1
  have c2 : w1.cell? ⟨w.heap.size, 2, none⟩ = some (.int .i64 v) := HB1.out.cell 2
  have c3 : w1.cell? ⟨w.heap.size, 3, none⟩ = some (.int .i64 mx) := HB1.out.cell 3
  go_wp2_with fail
  go_ret2
  exact ⟨w1.heap.size, rfl, Blk.new w1 rT (rC bx k key v mx (.slice none 0 0) false), B1.out.size, B1.out.alloc _⟩
theorem YS.free_gone (h : YS p w0 Q0 s T V w) (hg : s.gone = true) : Calls Tryz.prog 20 #[tp p.y] w fun e w' => e = .returned (.int .i64 1) ∧ w = w' := by
  have c6 : w.cell? ⟨p.y, 6, none⟩ = some (.bool s.gone) := h.map.cell 6
  rw [hg] at c6
  clear h hg
  go_enter Tryz.func20, Tryz.ntmps20
  go_wp2_with fail
  go_ret
  exact ⟨rfl, rfl⟩
set_option maxHeartbeats 2000000 in
theorem YS.free_all (h : YS p w0 Q0 s T V w) (hl : s.es.length ≤ 4096) (hg : s.gone = false) (hv : ∀ j e, s.es[j]? = some e → ∃ q, (freeTo s.m s.es j).vs e.n = some q) :
    Calls Tryz.prog 20 #[tp p.y] w fun e w' => e = .returned (.int .i64 0) ∧ ∃ T' V', YS p w0 Q0 { s with m := freeTo s.m s.es s.es.length, es := [], gone := true } T' V' w' := by
  have c6 : w.cell? ⟨p.y, 6, none⟩ = some (.bool s.gone) := h.map.cell 6
  have f6 : w.frozen? ⟨p.y, 6, none⟩ = false := h.map.frozen 6
  rw [hg] at c6
  have HV := Lib.hid hv
  have H1 : Hid (YS p w0 Q0 { s with gone := true } T V (w.setCell ⟨p.y, 6, none⟩ (.bool true))) :=
    h.local_ (s' := { s with gone := true }) rfl ((Keeps.refl (ownY p V) w).setCell (p := ⟨p.y, 6, none⟩) (.inl (.inl rfl)) _) (h.map.set_ 6 _)
      (ents_keeps h.ents ((Keeps.refl (fun b => b = p.y) w).setCell (p := ⟨p.y, 6, none⟩) (.inl rfl) _) (fun g hg' e => (h.own g hg').2.2 e)) (fun g hg' => .inl hg')
  have CF := Lib.hid (fun w1 T1 V1 j e q (he : s.es[j]? = some e) (hq : (freeTo s.m s.es j).vs e.n = some q) (h1 : YS p w0 Q0 { s with m := freeTo s.m s.es j, gone := true } T1 V1 w1) => h1.call (x_free p.bx (freeTo s.m s.es j) e.n q hq))
  obtain ⟨A, c, rfl⟩ := h.shape
  clear h hg hv
  go_enter Tryz.func20, Tryz.ntmps20
  go_upto_region 4 with fail
  generalize w.setCell ⟨p.y, 6, none⟩ (.bool true) = w1 at *
  clear c6 f6
  go_wp2_with fail
  go_loopw [3] (fun i wr => ∃ j : Nat, j ≤ s.es.length ∧ i = .int .i64 j ∧ ∃ T1, YS p w0 Q0 { s with m := freeTo s.m s.es j, gone := true } T1 (.slice A s.es.length c) wr) (fun i _ => s.es.length - (intOf i).toNat)
  case atStart => exact ⟨0, by omega, rfl, T, H1.out⟩
  case round =>
    clear H1
    obtain ⟨j, hj, rfl, T1, hJ⟩ := hrel
    have HJ := Lib.hid hJ; clear hJ
    have x5 : wr.cell? ⟨p.y, 5, none⟩ = some (.slice A s.es.length c) := HJ.out.map.cell 5
    by_cases hjn : j < s.es.length
    · obtain ⟨e, he⟩ : ∃ e, s.es[j]? = some e := ⟨_, List.getElem?_eq_getElem hjn⟩
      obtain ⟨q, hq⟩ := HV.out j e he
      have CJ := Lib.hid (fun w1 T1 V1 => CF.out w1 T1 V1 j e q he hq)
      obtain ⟨g, c', hA, _⟩ := HJ.out.row (by intro h; have : s.es = [] := h; rw [this] at hjn; simp at hjn)
      have hA' : A = some ⟨g, 0, none⟩ := by cases hA; rfl
      subst hA'
      have x0 : wr.cell? ⟨p.y, 0, none⟩ = some (tp p.bx) := HJ.out.map.cell 0
      have d1 : wr.cell? ⟨g, j * 2 + 1, none⟩ = some (.int .u64 (addr e.n 0)) := (ents_cells (es := s.es) HJ.out.ents he).2
      have HE := Lib.hid he
      have g1 : decide (j < s.es.length) = true := by simpa using hjn
      have i1 : (j : Int) < (s.es.length : Int) := by omega
      clear he hq hA CF HV
      go_upto_region 7 with fail
      have S0 : Hid (wr.cell? ⟨p.y, 0, none⟩ = some (tp p.bx) ∧ wr.cell? ⟨p.y, 5, none⟩ = some (.slice (some ⟨g, 0, none⟩) s.es.length c) ∧ wr.cell? ⟨g, j * 2 + 1, none⟩ = some (.int .u64 (addr e.n 0))) := ⟨x0, x5, d1⟩
      go_region_held3 (fun W => W.cell? ⟨p.y, 0, none⟩ = some (tp p.bx) ∧ W.cell? ⟨p.y, 5, none⟩ = some (.slice (some ⟨g, 0, none⟩) s.es.length c) ∧ W.cell? ⟨g, j * 2 + 1, none⟩ = some (.int .u64 (addr e.n 0)))
        (first | exact S0.out | exact S1.out)
        (first
          | (go_at_call 49; refine (CJ.out _ _ _ HJ.out.drew).mono ?_; rintro e' w4 ⟨rfl, T4, h4⟩; have H4 := Lib.hid h4; have S1 : Hid (w4.cell? ⟨p.y, 0, none⟩ = some (tp p.bx) ∧ w4.cell? ⟨p.y, 5, none⟩ = some (.slice (some ⟨g, 0, none⟩) s.es.length c) ∧ w4.cell? ⟨g, j * 2 + 1, none⟩ = some (.int .u64 (addr e.n 0))) := ⟨h4.map.cell 0, h4.map.cell 5, (ents_cells (es := s.es) h4.ents HE.out).2⟩; clear h4))
      go_wp2_with fail
      go_roundw
      case rel => exact ⟨j + 1, by omega, by go_num, T4, by rw [freeTo_step HE.out]; exact H4.out⟩
      case measure => simp [intOf]; omega
    · obtain rfl : j = s.es.length := by omega
      have f5 : wr.frozen? ⟨p.y, 5, none⟩ = false := HJ.out.map.frozen 5
      have g1 : decide (s.es.length < s.es.length) = false := by simp
      go_wp2_with fail
      go_ret
      refine ⟨rfl, T1, .slice none 0 0, HJ.out.local_ (s' := { s with m := freeTo s.m s.es s.es.length, es := [], gone := true }) rfl ((Keeps.refl (ownY p (.slice A s.es.length c)) wr).setCell (p := ⟨p.y, 5, none⟩) (.inl (.inl rfl)) _) (HJ.out.map.set_ 5 _) (World.ownsRow_nil _ _ _ _) (fun g hg' => by cases hg')⟩
end
end Go.Proofs.YtomhflaofipccaaGreat
namespace Go.Proofs.YtomhflaofipccaaGreat
open Go Go.RowKit Go.Maps
set_option linter.unusedVariables false
set_option linter.unusedSimpArgs false
/-- A call on the reference's table: from plain state s the answer is e0, and it leads to s'. -/
def GCallH (p : HPar) (f : FuncId) (args : Array Value) (s s' : HSt) (e0 : Ending) : Prop := ∀ w Q, YH p s Q w → Calls Tryz.prog f args w fun e w' => e = e0 ∧ YH p s' (more Q w w') w' ∧ Keeps Q w w'
section
variable {p : HPar} {s s' : HSt} {f : FuncId} {args : Array Value} {e0 : Ending}
theorem GCallH.of (h : ∀ w0 Q0 T V w, YS p w0 Q0 s T V w → Calls Tryz.prog f args w fun e w' => e = e0 ∧ ∃ T' V', YS p w0 Q0 s' T' V' w') : GCallH p f args s s' e0 := by
  rintro w Q ⟨T, V, hy⟩
  refine (h w Q T V w hy.start).mono ?_
  rintro e w' ⟨rfl, T', V', h'⟩
  exact ⟨rfl, h'.done⟩
theorem GCallH.same (h : ∀ w0 Q0 T V w, YS p w0 Q0 s T V w → Calls Tryz.prog f args w fun e w' => e = e0 ∧ YS p w0 Q0 s T V w') : GCallH p f args s s e0 :=
  .of fun w0 Q0 T V w hy => by
    refine (h w0 Q0 T V w hy).mono ?_
    rintro e w' ⟨rfl, h'⟩
    exact ⟨rfl, T, V, h'⟩
theorem GCallH.mem {m' : PS} (c : XCall f args p.bx s.m m' e0) : GCallH p f args s { s with m := m' } e0 :=
  .of fun w0 Q0 T V w hy => by
    refine (hy.call c).mono ?_
    rintro e w' ⟨rfl, T', h'⟩
    exact ⟨rfl, T', V, h'⟩
theorem bstr_dataU (s : ByteArray) : s = bstr s.data.toList := by unfold bstr; simp
theorem g_look (h : HOk p s) (key : ByteArray) : GCallH p 10 #[tp p.y, .string key] s s (.returned (.int .u64 (lookA p s key))) :=
  .same fun w0 Q0 T V w hy => hy.look h h.le key
theorem g_del (h : HOk p s) (key : ByteArray) : GCallH p 14 #[tp p.y, .string key] s (delS p s key) (.returned (.int .i64 (delA p s key))) := by
  by_cases hb : delBad p s key
  · rw [show delS p s key = s by unfold delS; rw [if_pos hb], show delA p s key = 1 by unfold delA; rw [if_pos hb]]
    exact .same fun w0 Q0 T V w hy => hy.del_bad h.par key hb
  · have hg : s.gone = false := by cases hg : s.gone; rfl; exact absurd (.inl hg) hb
    have hk : IsKey p.key key := Classical.byContradiction fun hk => hb (.inr hk)
    rcases hf : findE s.es (formB key) with _ | i
    · rw [show delS p s key = s by unfold delS; rw [if_neg hb, hf]; rfl, show delA p s key = 4 by unfold delA; rw [if_neg hb, hf]; rfl]
      exact .same fun w0 Q0 T V w hy => hy.del_none h.par h.le hg key hk hf
    · obtain ⟨e, he, _⟩ := found hf
      obtain ⟨_, _, b, hq, _⟩ := h.ent i e he
      rw [show delS p s key = s.cut i e (3, b, false) by unfold delS; rw [if_neg hb, hf]; exact rem_eq he hq, show delA p s key = 0 by unfold delA; rw [if_neg hb, hf]; rfl]
      exact .of fun w0 Q0 T V w hy => hy.del_some h.par h.le hg key hk i hf e he _ hq rfl
theorem g_next (h : HOk p s) (key : ByteArray) : GCallH p 16 #[tp p.y, .string key] s s (nextE p s key) :=
  .same fun w0 Q0 T V w hy => hy.next h.par h.le key
theorem g_free (h : HOk p s) : GCallH p 20 #[tp p.y] s (freeS s) (.returned (.int .i64 (freeA s))) := by
  cases hg : s.gone
  · rw [show freeS s = { s with m := freeTo s.m s.es s.es.length, es := [], gone := true } by unfold freeS; rw [if_neg (by rw [hg]; decide)], show freeA s = 0 by unfold freeA; rw [if_neg (by rw [hg]; decide)]]
    exact .of fun w0 Q0 T V w hy => hy.free_all h.le hg h.frees
  · rw [show freeS s = s by unfold freeS; rw [if_pos hg], show freeA s = 1 by unfold freeA; rw [if_pos hg]]
    refine .same fun w0 Q0 T V w hy => (hy.free_gone hg).mono ?_
    rintro e w' ⟨rfl, rfl⟩
    exact ⟨rfl, hy⟩
theorem g_upd (h : HOk p s) (hm : s.m.made < 4095) (key value : ByteArray) (fl : Int) : GCallH p 12 #[tp p.y, .string key, .string value, .int .i64 fl] s (updS p s key value fl) (.returned (.int .i64 (updA p s key value fl))) := by
  by_cases hb : updBad p s key value fl
  · rw [show updS p s key value fl = s by unfold updS; rw [if_pos hb], show updA p s key value fl = 1 by unfold updA; rw [if_pos hb]]
    exact .same fun w0 Q0 T V w hy => hy.upd_bad h.par key value fl hb
  · have hg : s.gone = false := by cases hg : s.gone; rfl; exact absurd (.inl hg) hb
    have hk : IsKey p.key key := Classical.byContradiction fun hk => hb (.inr (.inl hk))
    have hv : value.size = p.v := Classical.byContradiction fun hk => hb (.inr (.inr (.inl hk)))
    have hf0 : 0 ≤ fl := Classical.byContradiction fun hk => hb (.inr (.inr (.inr (.inl (by omega)))))
    have hf2 : fl ≤ 2 := Classical.byContradiction fun hk => hb (.inr (.inr (.inr (.inr (by omega)))))
    have v1 := h.par.v1
    have v2 := h.par.v2
    have m2 := h.par.m2
    have hle := h.len
    rcases hf : findE s.es (formB key) with _ | i
    · have eS : updS p s key value fl = (if fl = 2 then s else if s.es.length = p.mx then s else if s.m.fail = 1 then { s with m := { s.m with fail := 0 } } else s.insert p (formB key) value.data.toList) := by unfold updS; rw [if_neg hb, hf]; rfl
      have eA : updA p s key value fl = (if fl = 2 then 4 else if s.es.length = p.mx then 3 else if s.m.fail = 1 then 2 else 0) := by unfold updA; rw [if_neg hb, hf]; rfl
      rw [eS, eA]
      by_cases h2 : fl = 2
      · rw [if_pos h2, if_pos h2]
        exact .same fun w0 Q0 T V w hy => hy.upd_noneE h.par h.le hg key value fl hk hv hf0 hf2 hf h2
      · rw [if_neg h2, if_neg h2]
        by_cases h3 : s.es.length = p.mx
        · rw [if_pos h3, if_pos h3]
          exact .same fun w0 Q0 T V w hy => hy.upd_full h.par h.le hg key value fl hk hv hf0 hf2 hf h2 h3
        · rw [if_neg h3, if_neg h3]
          by_cases h4 : s.m.fail = 1
          · rw [if_pos h4, if_pos h4]
            refine .of fun w0 Q0 T V w hy => (hy.upd_mem h.par h.le hg key value fl hk hv hf0 hf2 hf h2 h3 h4 v1 v2).mono ?_
            rintro e w' ⟨rfl, T', h'⟩
            exact ⟨rfl, T', V, h'⟩
          · rw [if_neg h4, if_neg h4]
            exact .of fun w0 Q0 T V w hy => hy.upd_new h.par h.le hg key value fl hk hv hf0 hf2 hf h2 h3 h4 hm v1 v2 (by omega) _ (bstr_dataU value)
    · have eS : updS p s key value fl = (if fl = 1 then s else s.putAt i value.data.toList) := by unfold updS; rw [if_neg hb, hf]; rfl
      have eA : updA p s key value fl = (if fl = 1 then 5 else 0) := by unfold updA; rw [if_neg hb, hf]; rfl
      rw [eS, eA]
      by_cases h1 : fl = 1
      · rw [if_pos h1, if_pos h1]
        exact .same fun w0 Q0 T V w hy => hy.upd_exists h.par h.le hg key value fl hk hv hf0 hf2 i hf h1
      · rw [if_neg h1, if_neg h1]
        obtain ⟨e, he, _⟩ := found hf
        obtain ⟨hr, _, b, hq, hql⟩ := h.ent i e he
        rw [putAt_eq he hq]
        exact .of fun w0 Q0 T V w hy => hy.upd_put h.par h.le hg key value fl hk hv hf0 hf2 i hf h1 e he _ hq hql (by omega) v2 _ (bstr_dataU value)
end
end Go.Proofs.YtomhflaofipccaaGreat
namespace Go.Proofs.YtomhflaofipccaaGreat
open Go Go.RowKit Go.Maps
set_option linter.unusedVariables false
set_option linter.unusedSimpArgs false
set_option maxRecDepth 100000
theorem keeps_grow {w w' : World} (h : Below w.heap.size w w') : Keeps (fun _ => False) w w' := ⟨h.os, h.tape, h.output, h.size, fun b hb _ => h.block b hb⟩
/-- Both memories lie apart, in blocks from B on; the one holds mk, the other mx. -/
def ApartM (B : Nat) (w0 : World) (bm bx : Nat) (mk mx : PS) (w : World) (S T : Nat → Prop) : Prop :=
  KSide w S bm mk ∧ XSide w T bx mx ∧ (∀ b, S b → ¬ T b) ∧ (∀ b, S b → B ≤ b) ∧ (∀ b, T b → B ≤ b) ∧ Below B w0 w ∧ B ≤ w.heap.size
def BothM (B : Nat) (w0 : World) (bm bx : Nat) (mk mx : PS) (w : World) : Prop := ∃ S T, ApartM B w0 bm bx mk mx w S T
/-- Two rising lists of the same numbers are one. -/
theorem asc_eq : ∀ {a b : List Nat}, a.Pairwise (· < ·) → b.Pairwise (· < ·) → (∀ n, n ∈ a ↔ n ∈ b) → a = b
  | [], [], _, _, _ => rfl
  | [], y :: b, _, _, h => by simpa using (h y).2 (by simp)
  | x :: a, [], _, _, h => by simpa using (h x).1 (by simp)
  | x :: a, y :: b, ha, hb, h => by
    obtain ⟨ha1, ha2⟩ := List.pairwise_cons.1 ha
    obtain ⟨hb1, hb2⟩ := List.pairwise_cons.1 hb
    have hxy : x = y := by
      rcases List.mem_cons.1 ((h x).1 (by simp)) with e | e
      · exact e
      · rcases List.mem_cons.1 ((h y).2 (by simp)) with e' | e'
        · exact e'.symm
        · have := ha1 y e'; have := hb1 x e; omega
    subst hxy
    congr 1
    refine asc_eq ha2 hb2 fun n => ⟨fun hn => ?_, fun hn => ?_⟩
    · rcases List.mem_cons.1 ((h n).1 (List.mem_cons_of_mem _ hn)) with e | e
      · have := ha1 n hn; omega
      · exact e
    · rcases List.mem_cons.1 ((h n).2 (List.mem_cons_of_mem _ hn)) with e | e
      · have := hb1 n hn; omega
      · exact e
theorem lives_asc (vs : Nat → Option RV) (k : Nat) : (lives vs k).Pairwise (· < ·) := by
  unfold lives
  refine List.Pairwise.filter _ (List.pairwise_map.2 (List.pairwise_lt_range.imp (fun h => by omega)))
theorem lives_mem (vs : Nat → Option RV) (k : Nat) (hr : ∀ n q, vs n = some q → 1 ≤ n ∧ n ≤ k) (n : Nat) : n ∈ lives vs k ↔ (vs n).isSome = true := by
  unfold lives
  simp only [List.mem_filter, List.mem_map, List.mem_range]
  constructor
  · exact fun h => h.2
  · intro h
    rcases hs : vs n with _ | q
    · rw [hs] at h; cases h
    · have := hr n q hs
      exact ⟨⟨n - 1, by omega, by omega⟩, rfl⟩
/-- A list of regions as Same sees it. -/
theorem rowOf {w : World} {base n : Nat} {vs : Nat → Option RV} {v : Value} {ss : List Nat} (h : w.ownsRow base 104 3 v n (cellsR vs ss)) (hn : ss.length = n) :
    ∃ A c, v = .slice A n c ∧ RowOf w A n (fun k => (ss.getD k 0 : Nat)) (fun k => ((vs (ss.getD k 0)).getD (0, [], false)).1) (fun k => bstr ((vs (ss.getD k 0)).getD (0, [], false)).2.1) := by
  obtain ⟨A, c, rfl, hc⟩ := own_form_any h
  refine ⟨A, c, rfl, fun k hk => ?_⟩
  obtain ⟨g, rfl, hcell⟩ := hc (by omega)
  have hks : k < ss.length := by omega
  have e : ss.getD k 0 = ss[k] := by simp [List.getD, hks]
  refine ⟨g, rfl, ?_, ?_, ?_⟩
  · exact hcell _ _ ((cellsR_get vs ss k 0 hks (by omega)).trans (by simp only [e]; rfl))
  · exact hcell _ _ ((cellsR_get vs ss k 1 hks (by omega)).trans (by simp only [e]; rfl))
  · exact hcell _ _ ((cellsR_get vs ss k 2 hks (by omega)).trans (by simp only [e]; rfl))
theorem rm_start (w : World) : RM ((w.alloc (.cells #[.map none, .int .u32 0, .slice none 0 0, .int .i64 0] 66)).alloc (.cells #[.slice none 0 0, .int .i64 0, .int .i64 0] 30)) (fun b => b = w.heap.size + 1) (w.heap.size + 1) 0 0 (fun _ => none) (fun _ => 0) (fun _ => 0) (.slice none 0 0) where
  head := by have := Blk.new (w.alloc (.cells #[.map none, .int .u32 0, .slice none 0 0, .int .i64 0] 66)) 30 #[.slice none 0 0, .int .i64 0, .int .i64 0]; simpa [cnt] using this
  row := by simpa using World.ownsRow_nil _ _ _ _
  range := fun n q h => by cases h
  live := fun n q h => by cases h
  bytes := fun n q h => by cases h
  sized := fun n q h => by cases h
  dead := fun n h1 h2 => by omega
  injr := fun n m h1 h2 => by omega
  injg := fun n m q q' h => by cases h
  tbx := rfl
  trb := fun n h1 h2 => by omega
  tgb := fun n q h => by cases h
  tlv := fun g h => by cases h
  lt := fun b h => by simp; omega
  made_le := by omega
  fail_le := by omega
theorem bothM_start (w : World) : BothM w.heap.size w w.heap.size (w.heap.size + 1) ⟨0, 0, fun _ => none⟩ ⟨0, 0, fun _ => none⟩
    ((w.alloc (.cells #[.map none, .int .u32 0, .slice none 0 0, .int .i64 0] 66)).alloc (.cells #[.slice none 0 0, .int .i64 0, .int .i64 0] 30)) := by
  obtain ⟨hb, hB, S, mv, rv, hk, hS⟩ := KF.start w
  refine ⟨S, fun b => b = w.heap.size + 1, ⟨_, _, _, _, hk.keeps (T := fun _ => False) ((Keeps.refl _ _).alloc _) (fun _ _ h => h), fun _ => rfl⟩, ⟨fun _ => 0, fun _ => 0, .slice none 0 0, rm_start w⟩, ?_, hS, fun b h => by omega, hb.alloc hB _, by simp; omega⟩
  intro b h1 h2
  have h3 := hk.lt b h1
  simp at h3
  omega
section
variable {B : Nat} {w0 w w' : World} {bm bx : Nat} {m m' mk mx : PS} {S T S' T' : Nat → Prop} {f : FuncId} {args : Array Value} {e0 : Ending}
theorem ApartM.ks (h : ApartM B w0 bm bx m mx w S T) (hk : KS w S bm m' S' w') : ApartM B w0 bm bx m' mx w' S' T := by
  obtain ⟨h1, h2, h3, h4, h5, h6, h7⟩ := h
  refine ⟨hk.1, h2.keeps' hk.2.1 (fun b hb hs => h3 b hs hb), fun b hs ht => ?_, fun b hs => ?_, h5, h6.trans (hk.2.1.below h4 h7), Nat.le_trans h7 hk.2.1.size⟩
  · rcases hk.2.2 b hs with hs | hs
    · exact h3 b hs ht
    · have := h2.lt' b ht; omega
  · rcases hk.2.2 b hs with hs | hs
    · exact h4 b hs
    · omega
theorem ApartM.xs (h : ApartM B w0 bm bx mk m w S T) (hk : XS w T bx m' T' w') : ApartM B w0 bm bx mk m' w' S T' := by
  obtain ⟨h1, h2, h3, h4, h5, h6, h7⟩ := h
  refine ⟨h1.keeps' hk.2.1 h3, hk.1, fun b hs ht => ?_, h4, fun b hs => ?_, h6.trans (hk.2.1.below h5 h7), Nat.le_trans h7 hk.2.1.size⟩
  · rcases hk.2.2 b ht with ht | ht
    · exact h3 b hs ht
    · have := h1.lt' b hs; omega
  · rcases hk.2.2 b hs with hs | hs
    · exact h5 b hs
    · omega
theorem ApartM.quiet (h : ApartM B w0 bm bx mk mx w S T) (hb : Qt w w') : ApartM B w0 bm bx mk mx w' S T := by
  obtain ⟨h1, h2, h3, h4, h5, h6, h7⟩ := h
  exact ⟨h1.keeps' hb (fun _ _ h => h), h2.keeps' hb (fun _ _ h => h), h3, h4, h5, h6.trans (hb.below (fun _ h => h.elim) h7), Nat.le_trans h7 hb.size⟩
end
section
variable {B : Nat} {w0 w w' : World} {bm bx : Nat} {m m' mk mx' : PS} {f : FuncId} {args : Array Value} {e0 : Ending}
theorem BothM.kcall (h : BothM B w0 bm bx m mx' w) (c : KCall f args bm m m' e0) : Calls Tryz.prog f args w fun e w' => e = e0 ∧ BothM B w0 bm bx m' mx' w' := by
  obtain ⟨S, T, h1⟩ := h
  refine ((KS.start h1.1).call c).mono ?_
  rintro e w' ⟨rfl, hk, _⟩
  exact ⟨rfl, _, _, h1.ks hk⟩
theorem BothM.xcall (h : BothM B w0 bm bx mk m w) (c : XCall f args bx m m' e0) : Calls Tryz.prog f args w fun e w' => e = e0 ∧ BothM B w0 bm bx mk m' w' := by
  obtain ⟨S, T, h1⟩ := h
  refine ((XS.start h1.2.1).call c).mono ?_
  rintro e w' ⟨rfl, hk, _⟩
  exact ⟨rfl, _, _, h1.xs hk⟩
theorem BothM.quiet (h : BothM B w0 bm bx mk m w) (hb : Qt w w') : BothM B w0 bm bx mk m w' := by
  obtain ⟨S, T, h1⟩ := h
  exact ⟨S, T, h1.quiet hb⟩
theorem BothM.below (h : BothM B w0 bm bx mk m w) : Below B w0 w := by
  obtain ⟨S, T, h1⟩ := h
  exact h1.2.2.2.2.2.1
end
section
variable {bm bx : Nat}
/-- Which allocation fails. -/
theorem fail_pair (n : Int) : ∃ (f : Nat) (a : Int), KCall 7 #[.pointer (some ⟨bm, 0, none⟩), .int .i64 n] bm ⟨0, 0, fun _ => none⟩ ⟨0, f, fun _ => none⟩ (.returned (.int .i64 a)) ∧ XCall 8 #[.pointer (some ⟨bx, 0, none⟩), .int .i64 n] bx ⟨0, 0, fun _ => none⟩ ⟨0, f, fun _ => none⟩ (.returned (.int .i64 a)) := by
  by_cases h : n < 0 ∨ 1048576 < n
  · exact ⟨0, 1, KCall.same fun w _ _ _ _ _ _ _ => fail_arg _ n h w, XCall.same fun w _ _ _ _ _ => xfail_arg _ n h w⟩
  · obtain ⟨k, rfl⟩ := Int.eq_ofNat_of_zero_le (show 0 ≤ n by omega)
    refine ⟨k, 0, ?_, XCall.step fun w _ _ _ _ hr => xfail_ok hr k (by omega)⟩
    rintro w S ⟨st, rl, mv, rv, hk, hv⟩
    refine (fail_ok hk k (by omega)).mono ?_
    rintro e w' ⟨rfl, hk', kk⟩
    exact ⟨rfl, ⟨_, _, _, _, hk', hv⟩, kk⟩
end
/-- Both tables lie apart, in blocks from B on; the one is sx, the other sy. -/
def ApartH (B : Nat) (w0 : World) (p : HPar) (sx sy : HSt) (w : World) (P Q : Nat → Prop) : Prop :=
  PH p sx P w ∧ YH p sy Q w ∧ (∀ b, P b → ¬ Q b) ∧ (∀ b, P b → B ≤ b) ∧ (∀ b, Q b → B ≤ b) ∧ Below B w0 w ∧ B ≤ w.heap.size
def BothH (B : Nat) (w0 : World) (p : HPar) (sx sy : HSt) (w : World) : Prop := ∃ P Q, ApartH B w0 p sx sy w P Q
theorem YH.lt {p : HPar} {s : HSt} {Q : Nat → Prop} {w : World} (h : YH p s Q w) : ∀ b, Q b → b < w.heap.size := by
  obtain ⟨T, V, h⟩ := h; exact h.ql
theorem YH.keeps {p : HPar} {s : HSt} {Q U : Nat → Prop} {w w' : World} (h : YH p s Q w) (k : Keeps U w w') (hd : ∀ b, Q b → ¬ U b) : YH p s Q w' := by
  obtain ⟨T, V, h⟩ := h
  exact ⟨T, V, fun b hb => Nat.lt_of_lt_of_le (h.ql b hb) k.size, h.qy, h.side.keeps' k (fun b hb => hd b (h.tq b hb)), h.tq, h.ty, h.map.keeps k (hd _ h.qy), ents_keeps h.ents k (fun g hg => hd g (h.own g hg).1), h.own⟩
section
variable {B : Nat} {w0 w w' : World} {p : HPar} {s s' sx sy : HSt} {db : Nat} {cs : Array Value} {P Q U : Nat → Prop} {f : FuncId} {args : Array Value} {e0 : Ending}
theorem ApartH.quiet (h : ApartH B w0 p sx sy w P Q) (k : Keeps (fun _ => False) w w') : ApartH B w0 p sx sy w' P Q := by
  obtain ⟨h1, h2, h3, h4, h5, h6, h7⟩ := h
  exact ⟨h1.keeps k (fun _ _ h => h), h2.keeps k (fun _ _ h => h), h3, h4, h5, h6.trans (k.below (fun _ h => h.elim) h7), Nat.le_trans h7 k.size⟩
theorem ApartH.fcall (h : ApartH B w0 p s sy w P Q) (c : FCallH PH p f args s s' e0) :
    Calls Tryz.prog f args w fun e w' => e = e0 ∧ ApartH B w0 p s' sy w' (more P w w') Q ∧ Keeps P w w' := by
  obtain ⟨h1, h2, h3, h4, h5, h6, h7⟩ := h
  refine (c w P h1).mono ?_
  rintro e w' ⟨rfl, hk, kk⟩
  refine ⟨rfl, ⟨hk, h2.keeps kk (fun b hb hs => h3 b hs hb), ?_, ?_, h5, h6.trans (kk.below h4 h7), Nat.le_trans h7 kk.size⟩, kk⟩
  · rintro b (hs | ⟨hs, _⟩) ht
    · exact h3 b hs ht
    · have := h2.lt b ht; omega
  · rintro b (hs | ⟨hs, _⟩)
    · exact h4 b hs
    · omega
theorem ApartH.gcall (h : ApartH B w0 p sx s w P Q) (c : GCallH p f args s s' e0) :
    Calls Tryz.prog f args w fun e w' => e = e0 ∧ ApartH B w0 p sx s' w' P (more Q w w') ∧ Keeps Q w w' := by
  obtain ⟨h1, h2, h3, h4, h5, h6, h7⟩ := h
  refine (c w Q h2).mono ?_
  rintro e w' ⟨rfl, hk, kk⟩
  refine ⟨rfl, ⟨h1.keeps kk h3, hk, ?_, h4, ?_, h6.trans (kk.below h5 h7), Nat.le_trans h7 kk.size⟩, kk⟩
  · rintro b hs (ht | ⟨ht, _⟩)
    · exact h3 b hs ht
    · have := h1.lt b hs; omega
  · rintro b (hs | ⟨hs, _⟩)
    · exact h5 b hs
    · omega
end
section
variable {B : Nat} {w0 w w' : World} {p : HPar} {s s' sx sy : HSt} {bm bx : Nat} {m : PS}
theorem BothH.quiet (h : BothH B w0 p sx sy w) (k : Keeps (fun _ => False) w w') : BothH B w0 p sx sy w' := by
  obtain ⟨P, Q, h1⟩ := h
  exact ⟨P, Q, h1.quiet k⟩
theorem BothH.drew (h : BothH B w0 p sx sy w) : BothH B w0 p sx sy w.drew := h.quiet (Keeps.refl _ w).drew
theorem BothH.drewN (h : BothH B w0 p sx sy w) (n : Nat) : BothH B w0 p sx sy (w.drewN n) := h.quiet ((Keeps.refl _ w).drewN' n)
theorem BothH.below (h : BothH B w0 p sx sy w) : Below B w0 w := by
  obtain ⟨P, Q, h1⟩ := h
  exact h1.2.2.2.2.2.1
theorem BothH.sz (h : BothH B w0 p sx sy w) : B ≤ w.heap.size := by
  obtain ⟨P, Q, h1⟩ := h
  exact h1.2.2.2.2.2.2
theorem BothH.fcall {f : FuncId} {args : Array Value} {e0 : Ending} (h : BothH B w0 p s sy w) (c : FCallH PH p f args s s' e0) : Calls Tryz.prog f args w fun e w' => e = e0 ∧ BothH B w0 p s' sy w' := by
  obtain ⟨P, Q, h1⟩ := h
  refine (h1.fcall c).mono ?_
  rintro e w' ⟨rfl, h2, _⟩
  exact ⟨rfl, _, _, h2⟩
theorem BothH.gcall {f : FuncId} {args : Array Value} {e0 : Ending} (h : BothH B w0 p sx s w) (c : GCallH p f args s s' e0) : Calls Tryz.prog f args w fun e w' => e = e0 ∧ BothH B w0 p sx s' w' := by
  obtain ⟨P, Q, h1⟩ := h
  refine (h1.gcall c).mono ?_
  rintro e w' ⟨rfl, h2, _⟩
  exact ⟨rfl, _, _, h2⟩
theorem BothH.len (h : BothH B w0 p s sy w) (ho : HOk p s) : Calls Tryz.prog 21 #[tp p.x] w fun e w' => e = .returned (.int .i64 s.es.length) ∧ w = w' := by
  obtain ⟨P, Q, h1, _⟩ := h
  exact ph_len ho h1
theorem BothH.list (h : BothH B w0 p sx s w) : ∃ A c, w.cell? ⟨p.y, 5, none⟩ = some (.slice A s.es.length c) := by
  obtain ⟨P, Q, _, ⟨T, V, h⟩, _⟩ := h
  obtain ⟨A, c, rfl⟩ := ents_shape h.ents
  exact ⟨A, c, h.map.cell 5⟩
/-- A call on the memory that turns nothing of what it holds, whatever it answers. -/
theorem PH.same_ {P : Nat → Prop} {f : FuncId} {args : Array Value} {Φ : Ending → World → Prop} (h : PH p s P w) (c : ∀ S, KSide w S p.bm s.m → Calls Tryz.prog f args w fun e w' => Φ e w' ∧ KSide w' (more S w w') p.bm s.m ∧ Keeps S w w') :
    Calls Tryz.prog f args w fun e w' => Φ e w' ∧ PH p s (more P w w') w' ∧ Keeps P w w' := by
  rcases h with ⟨T, h⟩ | ⟨T, t, h⟩
  · refine (c T h.side).mono ?_
    rintro e w' ⟨hf, hk, kk⟩
    exact ⟨hf, (h.mem_ hk kk).done⟩
  · refine (c T h.side).mono ?_
    rintro e w' ⟨hf, hk, kk⟩
    exact ⟨hf, (h.mem_ hk kk).done⟩
/-- Behind kmem's Regions: both stand, and its list lies there. -/
def RegsH (B : Nat) (w0 : World) (p : HPar) (s : HSt) (v : Value) (w1 : World) : Prop :=
  BothH B w0 p s s w1 ∧ (lives s.m.vs s.m.made).length ≤ 4096 ∧ ∃ base, w1.ownsRow base 104 3 v (lives s.m.vs s.m.made).length (cellsR s.m.vs (lives s.m.vs s.m.made))
theorem kregsH (h : BothH B w0 p s s w) :
    Calls Tryz.prog 23 #[.pointer (some ⟨p.bm, 0, none⟩)] w fun e w1 => ∃ A c, e = .returned (.slice A (lives s.m.vs s.m.made).length c) ∧ RegsH B w0 p s (.slice A (lives s.m.vs s.m.made).length c) w1 := by
  obtain ⟨P, Q, h1, h2, h3, h4, h5, h6, h7⟩ := h
  refine (h1.same_ (Φ := fun e w1 => ∃ A c, e = .returned (.slice A (lives s.m.vs s.m.made).length c) ∧ (lives s.m.vs s.m.made).length ≤ 4096 ∧ ∃ base, w1.ownsRow base 104 3 (.slice A (lives s.m.vs s.m.made).length c) (lives s.m.vs s.m.made).length (cellsR s.m.vs (lives s.m.vs s.m.made))) ?_).mono ?_
  · rintro S ⟨st, rl, mv, rv, hk, hv⟩
    refine (regions_any2 hk s.m.vs hv).mono ?_
    rintro e w1 ⟨lv, ss, rfl, h8, h9, kk, ho, hl, hks⟩
    have hr : ∀ n q, s.m.vs n = some q → 1 ≤ n ∧ n ≤ s.m.made := fun n q hq => by
      obtain ⟨r, hs, _⟩ := st_some hv hq
      exact hk.range n r hs
    have e : ss = lives s.m.vs s.m.made := asc_eq h8 (lives_asc _ _) (fun n => (h9 n).trans (lives_mem _ _ hr n).symm)
    subst e
    obtain ⟨A, c, rfl, _⟩ := own_form_any ho
    exact ⟨⟨A, c, rfl, hl, _, ho⟩, hks, kk⟩
  · rintro e w1 ⟨⟨A, c, rfl, hl, base, ho⟩, hk, kk⟩
    refine ⟨A, c, rfl, ⟨more P w w1, Q, hk, h2.keeps kk (fun b hb hs => h3 b hs hb), ?_, ?_, h5, h6.trans (kk.below h4 h7), Nat.le_trans h7 kk.size⟩, hl, base, ho⟩
    · rintro b (hs | ⟨hs, _⟩) ht
      · exact h3 b hs ht
      · have := h2.lt b ht; omega
    · rintro b (hs | ⟨hs, _⟩)
      · exact h4 b hs
      · omega
theorem xregsH {w1 : World} {A : Option Addr} {n c : Nat} (h : RegsH B w0 p s (.slice A n c) w1) (hn : n = (lives s.m.vs s.m.made).length) :
    Calls Tryz.prog 24 #[.pointer (some ⟨p.bx, 0, none⟩)] w1 fun e w2 => ∃ A' c', e = .returned (.slice A' n c') ∧ BothH B w0 p s s w2 ∧ n ≤ 4096 ∧ ∃ N P Bs, RowOf w2 A n N P Bs ∧ RowOf w2 A' n N P Bs := by
  subst hn
  obtain ⟨h1, h4, base, h5⟩ := h
  have hb1 := h1
  obtain ⟨P, Q, _, ⟨T, V, hy⟩, _⟩ := hb1
  obtain ⟨rb, gb, lv, hr⟩ := hy.side
  refine (xregions_any hr).mono ?_
  rintro e w2 ⟨l, rfl, hb, ho⟩
  have O5 := ownsRow_block (w' := w2) h5 (fun g hg => hb.block g (h5.lt g hg).2)
  obtain ⟨A1, c1, e1, r1⟩ := rowOf O5 rfl
  obtain ⟨A2, c2, rfl, r2⟩ := rowOf ho rfl
  cases e1
  exact ⟨A2, c2, rfl, h1.quiet (keeps_grow hb), h4, _, _, _, r1, r2⟩
/-! ### both News -/
def MidH (B : Nat) (w0 : World) (bm bx : Nat) (k : Int) (key v mx : Nat) (m : PS) (x : Nat) (w1 : World) : Prop :=
  ∃ P T, (∀ y, PH ⟨bm, bx, x, y, k, key, v, mx⟩ ⟨m, [], false⟩ P w1) ∧ XSide w1 T bx m ∧ (∀ b, P b → ¬ T b) ∧ (∀ b, P b → B ≤ b) ∧ (∀ b, T b → B ≤ b) ∧ Below B w0 w1 ∧ B ≤ w1.heap.size
theorem hnew_mid (k : Int) (key v mx : Nat) (hf : fitsH k key v mx = true) (h : BothM B w0 bm bx m m w) :
    Calls Tryz.prog 5 #[tp bm, specV k key v mx] w fun e w' => ∃ x, e = .returned (.tuple #[tp x, .int .i64 0]) ∧ MidH B w0 bm bx k key v mx m x w' := by
  obtain ⟨S, T, a1, a2, a3, a4, a5, a6, a7⟩ := h
  refine (new_ok bm k key v mx hf w).mono ?_
  rintro e w' ⟨x, rfl, h1, h3, h5⟩
  refine ⟨x, rfl, more S w w', T, fun y => PH.made a1 h1 h3 h5, a2.keeps' h5 (fun _ _ h => h), ?_, ?_, a5, a6.trans (h5.below (fun _ h => h.elim) a7), Nat.le_trans a7 h5.size⟩
  · rintro b (hs | ⟨hs, _⟩) ht
    · exact a3 b hs ht
    · have := a2.lt' b ht; omega
  · rintro b (hs | ⟨hs, _⟩)
    · exact a4 b hs
    · omega
theorem hnew_both (k : Int) (key v mx : Nat) (hf : fitsH k key v mx = true) {x : Nat} (h : MidH B w0 bm bx k key v mx m x w) :
    Calls Tryz.prog 6 #[tp bx, specV k key v mx] w fun e w' => ∃ y, e = .returned (.tuple #[tp y, .int .i64 0]) ∧ BothH B w0 ⟨bm, bx, x, y, k, key, v, mx⟩ ⟨m, [], false⟩ ⟨m, [], false⟩ w' := by
  obtain ⟨P, T, a1, a2, a3, a4, a5, a6, a7⟩ := h
  refine (xnew_ok bx k key v mx hf w).mono ?_
  rintro e w' ⟨y, rfl, h1, h2, h3⟩
  have kk := h3
  have hT : ∀ b, T b → b < w.heap.size := a2.lt'
  refine ⟨y, rfl, P, more T w w', (a1 y).keeps kk (fun _ _ h => h), ⟨T, .slice none 0 0, ?_, .inr ⟨h2, h1.lt⟩, a2.keeps' kk (fun _ _ h => h), fun b hb => .inl hb, fun ht => ?_, h1, World.ownsRow_nil _ _ _ _, fun g hg => by cases hg⟩, ?_, a4, ?_, a6.trans (h3.below (fun _ h => h.elim) a7), Nat.le_trans a7 h3.size⟩
  · rintro b (h | h)
    · exact Nat.lt_of_lt_of_le (hT b h) h3.size
    · exact h.2
  · have h4 := hT _ ht
    have h2' : w.heap.size ≤ y := h2
    have h5 : y < w.heap.size := h4
    omega
  · rintro b hp (ht | ⟨ht, _⟩)
    · exact a3 b hp ht
    · have := (a1 y).lt b hp; omega
  · rintro b (hs | ⟨hs, _⟩)
    · exact a5 b hs
    · omega
end
abbrev dT : TypeId := 41
/-- .. and block db, none of theirs, holds cs. -/
def BothHD (B : Nat) (w0 : World) (p : HPar) (sx sy : HSt) (db : Nat) (cs : Array Value) (w : World) : Prop :=
  ∃ P Q, ApartH B w0 p sx sy w P Q ∧ Blk w db dT cs ∧ ¬ P db ∧ ¬ Q db
section
variable {B : Nat} {w0 w w' : World} {p : HPar} {s s' sx sy : HSt} {db : Nat} {cs : Array Value} {P Q U : Nat → Prop} {f : FuncId} {args : Array Value} {e0 : Ending}
theorem BothHD.c (h : BothHD B w0 p sx sy db cs w) (i : Nat) : w.cell? ⟨db, i, none⟩ = cs[i]? := by
  obtain ⟨P, Q, _, hb, _⟩ := h
  exact hb.cell i
theorem BothHD.y0 (h : BothHD B w0 p sx sy db cs w) : w.cell? ⟨p.y, 0, none⟩ = some (tp p.bx) := by
  obtain ⟨P, Q, ⟨_, ⟨T, V, h⟩, _⟩, _⟩ := h
  exact h.map.cell 0
theorem BothHD.out (h : BothHD B w0 p sx sy db cs w) : BothH B w0 p sx sy w := by
  obtain ⟨P, Q, h1, _⟩ := h
  exact ⟨P, Q, h1⟩
theorem BothH.enter (h : BothH B w0 p sx sy w) (cs : Array Value) : BothHD B w0 p sx sy w.heap.size cs (w.alloc (.cells cs dT)) := by
  obtain ⟨P, Q, h1⟩ := h
  exact ⟨P, Q, h1.quiet ((Keeps.refl _ w).alloc _), Blk.new w _ _, fun hs => by have := h1.1.lt _ hs; omega, fun hs => by have := h1.2.1.lt _ hs; omega⟩
theorem BothHD.drew (h : BothHD B w0 p sx sy db cs w) : BothHD B w0 p sx sy db cs w.drew := by
  obtain ⟨P, Q, h1, h2, h3, h4⟩ := h
  exact ⟨P, Q, h1.quiet (Keeps.refl _ w).drew, h2, h3, h4⟩
theorem BothHD.fcall (h : BothHD B w0 p s sy db cs w) (c : FCallH PH p f args s s' e0) : Calls Tryz.prog f args w fun e w' => e = e0 ∧ BothHD B w0 p s' sy db cs w' := by
  obtain ⟨P, Q, h1, h2, h3, h4⟩ := h
  refine (h1.fcall c).mono ?_
  rintro e w' ⟨rfl, h5, kk⟩
  refine ⟨rfl, _, _, h5, h2.keeps kk h3, ?_, h4⟩
  rintro (hs | ⟨hs, _⟩)
  · exact h3 hs
  · have := h2.lt; omega
theorem BothHD.gcall (h : BothHD B w0 p sx s db cs w) (c : GCallH p f args s s' e0) : Calls Tryz.prog f args w fun e w' => e = e0 ∧ BothHD B w0 p sx s' db cs w' := by
  obtain ⟨P, Q, h1, h2, h3, h4⟩ := h
  refine (h1.gcall c).mono ?_
  rintro e w' ⟨rfl, h5, kk⟩
  refine ⟨rfl, _, _, h5, h2.keeps kk h4, h3, ?_⟩
  rintro (hs | ⟨hs, _⟩)
  · exact h4 hs
  · have := h2.lt; omega
end
end Go.Proofs.YtomhflaofipccaaGreat
