/-
  Layer 6: the writer lays a type, kind by kind.
-/
import Derived.Test.YtmfdojmecpdikaaBPut0
namespace Go.Proofs.Ytmfdojmecpdikaa
open Go Go.RowKit Go.Maps
set_option linter.unusedVariables false
set_option linter.unusedSimpArgs false
set_option maxRecDepth 100000
theorem fold_bound (l : List Mem) (k : Nat) (st : WS) (h : membersB l = true) : ((l.take k).foldl memW st).ns.length ≤ st.ns.length + 132096 ∧ ((l.take k).foldl memW st).ts.length ≤ st.ts.length + 12288 := by
  simp only [membersB, Bool.and_eq_true, decide_eq_true_eq] at h
  have hall : (l.take k).all memB = true := List.all_eq_true.2 fun x hx => List.all_eq_true.1 h.2 x (List.mem_of_mem_take hx)
  obtain ⟨h1, h2⟩ := mems_ns (l.take k) st hall
  have : (l.take k).length ≤ 1024 := by rw [List.length_take]; omega
  omega
theorem fold_snoc (l : List Mem) (k : Nat) (m : Mem) (st : WS) (h : l[k]? = some m) : (l.take (k + 1)).foldl memW st = memW ((l.take k).foldl memW st) m := by
  rw [List.take_add_one, h, List.foldl_append]; rfl
theorem mem_small (l : List Mem) (k : Nat) (m : Mem) (h : membersB l = true) (hm : l[k]? = some m) : m.name.size ≤ 128 := by
  simp only [membersB, Bool.and_eq_true, decide_eq_true_eq] at h
  have := List.all_eq_true.1 h.2 m (List.mem_of_getElem? hm)
  simp only [memB, nameB, Bool.and_eq_true, decide_eq_true_eq] at this
  exact this.1.1.1

set_option maxHeartbeats 4000000 in
theorem put_1 {w0 w : World} {g : Nat} {st : WS} (h : WA w0 w w g st) (A : Option Addr) (c : Nat) (t : Ty) (hk : t.kind = 1) (ht : mayB t = true) (hM : MemsAt w0 A t.mems) (hs1 : st.ts.length ≤ 100000000000) (hs2 : st.ns.length ≤ 100000000000) :
    Calls Try.prog 13 #[.pointer (some ⟨g, 0, none⟩), .agg #[.int .i64 1, .string t.name, .int .i64 t.size, .int .i64 t.ty, .int .i64 t.count, .slice A t.mems.length c]] w fun e w' => e = .returned (.tuple #[]) ∧ WA w0 w w' g (putW st t) := by
  have ht' := ht
  simp only [mayB, Bool.and_eq_true, fitsB, decide_eq_true_eq, nameB] at ht'
  obtain ⟨⟨⟨⟨⟨⟨hn128, _⟩, hz0, hz1⟩, hy0, hy1⟩, hc0, hc1⟩, hmem⟩, _⟩ := ht'
  have hml : t.mems.length ≤ 1024 := by simp only [membersB, Bool.and_eq_true, decide_eq_true_eq] at hmem; exact hmem.1
  have hor : bits .or .i64 16777216 (t.mems.length : Int) = 16777216 + (t.mems.length : Int) := or_word 1 t.mems.length (by decide) (by omega)
  have hwk : IntKind.i64.wrap 16777216 = 16777216 := by decide
  have hp1 : (placeW st t.name.data.toList).ns.length ≤ st.ns.length + 129 := place_ns' st t.name hn128
  have hts := place_ts st t.name.data.toList
  have eH : headW st t = numsW (placeW st t.name.data.toList) [placeP st t.name.data.toList, 16777216 + (t.mems.length : Int)] := by unfold headW; rw [hk]; rfl
  have eK : kindNums t = [t.size, 8 * t.size] := by unfold kindNums; rw [hk]; rfl
  have eP : putW st t = t.mems.foldl memW (numsW (headW st t) (kindNums t)) := rfl
  rw [eP, eH, eK]
  have i1 : (t.mems.length : Int) ≤ 1024 := by omega
  have hw8 : IntKind.i64.wrap (8 * t.size) = 8 * t.size := IntWalk.i64_in _ (by omega)
  have HMEM := Lib.hid hmem
  have HM := Lib.hid hM
  have hW0 : WA w0 w (w.alloc (.cells #[.int .i64 1, .string t.name, .int .i64 t.size, .int .i64 t.ty, .int .i64 t.count, .slice A t.mems.length c] 36)) g st := h.alloc _
  have HW0 := Lib.hid hW0.drew
  have HB : Hid (Blk (w.alloc (.cells #[.int .i64 1, .string t.name, .int .i64 t.size, .int .i64 t.ty, .int .i64 t.count, .slice A t.mems.length c] 36)) w.heap.size 36 #[.int .i64 1, .string t.name, .int .i64 t.size, .int .i64 t.ty, .int .i64 t.count, .slice A t.mems.length c]) := Blk.new _ _ _
  have S0 : Hid ((w.alloc (.cells #[.int .i64 1, .string t.name, .int .i64 t.size, .int .i64 t.ty, .int .i64 t.count, .slice A t.mems.length c] 36)).drew.cell? ⟨w.heap.size, 0, none⟩ = some (.int .i64 1) ∧ (w.alloc (.cells #[.int .i64 1, .string t.name, .int .i64 t.size, .int .i64 t.ty, .int .i64 t.count, .slice A t.mems.length c] 36)).drew.cell? ⟨w.heap.size, 1, none⟩ = some (.string t.name) ∧ (w.alloc (.cells #[.int .i64 1, .string t.name, .int .i64 t.size, .int .i64 t.ty, .int .i64 t.count, .slice A t.mems.length c] 36)).drew.cell? ⟨w.heap.size, 5, none⟩ = some (.slice A t.mems.length c)) := ⟨HB.out.cell 0, HB.out.cell 1, HB.out.cell 5⟩
  have CP := Lib.hid (wa_place HW0.out t.name hn128 (by omega))
  have HL1 : Hid ((placeW st t.name.data.toList).ts.length + 4 * 2 ≤ 140737488355328) := show (placeW st t.name.data.toList).ts.length + 4 * 2 ≤ 140737488355328 by rw [hts]; omega
  have HL2 : Hid ((numsW (placeW st t.name.data.toList) [placeP st t.name.data.toList, 16777216 + (t.mems.length : Int)]).ts.length + 4 * 2 ≤ 140737488355328) := show ((placeW st t.name.data.toList).ts ++ le4s _).length + 4 * 2 ≤ 140737488355328 by rw [List.length_append, hts, le4s_length]; simp only [List.length_cons, List.length_nil]; omega
  have HT3 : Hid ((numsW (numsW (placeW st t.name.data.toList) [placeP st t.name.data.toList, 16777216 + (t.mems.length : Int)]) [t.size, 8 * t.size]).ts.length ≤ 100000000100) := show ((placeW st t.name.data.toList).ts ++ le4s _ ++ le4s _).length ≤ 100000000100 by rw [List.length_append, List.length_append, hts, le4s_length, le4s_length]; simp only [List.length_cons, List.length_nil]; omega
  have HN3 : Hid ((numsW (numsW (placeW st t.name.data.toList) [placeP st t.name.data.toList, 16777216 + (t.mems.length : Int)]) [t.size, 8 * t.size]).ns.length ≤ 100000000200) := show (placeW st t.name.data.toList).ns.length ≤ 100000000200 by omega
  clear h hM ht hk hW0 eH eK eP hts hp1 hmem hn128 hs1 hs2 hml
  obtain ⟨P0, hP0⟩ : ∃ P0, placeP st t.name.data.toList = P0 := ⟨_, rfl⟩
  rw [hP0] at CP HL2 HT3 HN3 ⊢
  obtain ⟨Q0, hQ0⟩ : ∃ Q0, placeW st t.name.data.toList = Q0 := ⟨_, rfl⟩
  rw [hQ0] at CP HL1 HL2 HT3 HN3 ⊢
  clear hP0 hQ0
  go_enter Try.func13, Try.ntmps13
  go_wp2_with fail
  go_region_held3 (fun W => W.cell? ⟨w.heap.size, 0, none⟩ = some (.int .i64 1) ∧ W.cell? ⟨w.heap.size, 1, none⟩ = some (.string t.name) ∧ W.cell? ⟨w.heap.size, 5, none⟩ = some (.slice A t.mems.length c))
    (first | exact S0.out | exact S3.out | exact S2.out | exact S1.out)
    (first
      | (go_at_call 28; refine CP.out.mono ?_; rintro e w1 ⟨rfl, hw, ht⟩; have HW1 := Lib.hid hw; have HB1 := Lib.hid (Blk.tagk (show Blk (w.alloc (.cells #[.int .i64 1, .string t.name, .int .i64 t.size, .int .i64 t.ty, .int .i64 t.count, .slice A t.mems.length c] 36)).drew w.heap.size 36 #[.int .i64 1, .string t.name, .int .i64 t.size, .int .i64 t.ty, .int .i64 t.count, .slice A t.mems.length c] from HB.out) ht (by decide)); have S1 : Hid (w1.cell? ⟨w.heap.size, 0, none⟩ = some (.int .i64 1) ∧ w1.cell? ⟨w.heap.size, 1, none⟩ = some (.string t.name) ∧ w1.cell? ⟨w.heap.size, 5, none⟩ = some (.slice A t.mems.length c)) := ⟨HB1.out.cell 0, HB1.out.cell 1, HB1.out.cell 5⟩; have HB2 := Lib.hid (HB1.out.alloc (.cells #[.int .i64 P0, .int .i64 (16777216 + (t.mems.length : Int))] 3)); have S2 : Hid ((w1.alloc (.cells #[.int .i64 P0, .int .i64 (16777216 + (t.mems.length : Int))] 3)).cell? ⟨w.heap.size, 0, none⟩ = some (.int .i64 1) ∧ (w1.alloc (.cells #[.int .i64 P0, .int .i64 (16777216 + (t.mems.length : Int))] 3)).cell? ⟨w.heap.size, 1, none⟩ = some (.string t.name) ∧ (w1.alloc (.cells #[.int .i64 P0, .int .i64 (16777216 + (t.mems.length : Int))] 3)).cell? ⟨w.heap.size, 5, none⟩ = some (.slice A t.mems.length c)) := ⟨HB2.out.cell 0, HB2.out.cell 1, HB2.out.cell 5⟩; clear hw ht)
      | (go_at_call 27; refine (wa_new HW1.out 2 [P0, 16777216 + (t.mems.length : Int)] _ rfl rfl HL1.out).mono ?_; rintro e w2 ⟨rfl, hw, ht⟩; have HW2 := Lib.hid hw; have HB3 := Lib.hid (HB1.out.tagk ht (by decide)); have S3 : Hid (w2.cell? ⟨w.heap.size, 0, none⟩ = some (.int .i64 1) ∧ w2.cell? ⟨w.heap.size, 1, none⟩ = some (.string t.name) ∧ w2.cell? ⟨w.heap.size, 5, none⟩ = some (.slice A t.mems.length c)) := ⟨HB3.out.cell 0, HB3.out.cell 1, HB3.out.cell 5⟩; clear hw ht))
  have r0 : w2.cell? ⟨w.heap.size, 0, none⟩ = some (.int .i64 1) := HB3.out.cell 0
  have r2 : w2.cell? ⟨w.heap.size, 2, none⟩ = some (.int .i64 t.size) := HB3.out.cell 2
  have r3 : w2.cell? ⟨w.heap.size, 3, none⟩ = some (.int .i64 t.ty) := HB3.out.cell 3
  have r4 : w2.cell? ⟨w.heap.size, 4, none⟩ = some (.int .i64 t.count) := HB3.out.cell 4
  go_wp2_with (go_at_call 27; refine (wa_new HW2.out 2 [t.size, 8 * t.size] _ rfl rfl HL2.out).mono ?_; rintro e w3 ⟨rfl, hw, ht⟩; have HW3 := Lib.hid hw; have HB4 := Lib.hid (HB3.out.tagk ht (by decide)); have q5 : w3.cell? ⟨w.heap.size, 5, none⟩ = some (.slice A t.mems.length c) := HB4.out.cell 5; clear hw ht)
  clear r0 r2 r3 r4
  obtain ⟨Z, hZ⟩ : ∃ Z, numsW (numsW Q0 [P0, 16777216 + (t.mems.length : Int)]) [t.size, 8 * t.size] = Z := ⟨_, rfl⟩
  rw [hZ] at HW3 HT3 HN3
  have HZ := Lib.hid hZ
  clear hZ HL2 HL1
  go_loopw [5, 59] (fun a i wr => ∃ k : Nat, k ≤ t.mems.length ∧ i = .int .i64 k ∧ WA w0 w wr g ((t.mems.take k).foldl memW Z)) (fun _ i _ => t.mems.length - (intOf i).toNat)
  case atStart => exact ⟨0, by omega, rfl, HW3.out⟩
  case round =>
    clear HW3 HW2 HW1 HB4 HB3 HB2 HB1 S0 S1 S2 S3 q5 HB
    obtain ⟨k, hk, rfl, hw⟩ := hrel
    have HW := Lib.hid hw
    clear hw
    by_cases hkn : k < t.mems.length
    · obtain ⟨m, hm⟩ : ∃ m, t.mems[k]? = some m := ⟨_, List.getElem?_eq_getElem hkn⟩
      obtain ⟨b, off, rfl, hlt, c0, c1, c2, hs⟩ := (HM.out.below HW.out.below) k m hm
      have g1 : decide (k < t.mems.length) = true := by simpa using hkn
      have i2 : (k : Int) < (t.mems.length : Int) := by omega
      have HFS := Lib.hid (fold_snoc t.mems k m Z hm)
      obtain ⟨fb1, fb2⟩ := fold_bound t.mems k Z HMEM.out
      have hb128 := mem_small t.mems k m HMEM.out hm
      have l1 := HN3.out
      have l2 := HT3.out
      have HBm : Hid (Blk (wr.alloc (.cells #[.string m.name, .int .i64 m.ty, .int .i64 m.off] 53)) wr.heap.size 53 #[.string m.name, .int .i64 m.ty, .int .i64 m.off]) := Blk.new _ _ _
      have S0 : Hid ((wr.alloc (.cells #[.string m.name, .int .i64 m.ty, .int .i64 m.off] 53)).drew.cell? ⟨wr.heap.size, 0, none⟩ = some (.string m.name) ∧ (wr.alloc (.cells #[.string m.name, .int .i64 m.ty, .int .i64 m.off] 53)).drew.cell? ⟨wr.heap.size, 1, none⟩ = some (.int .i64 m.ty) ∧ (wr.alloc (.cells #[.string m.name, .int .i64 m.ty, .int .i64 m.off] 53)).drew.cell? ⟨wr.heap.size, 2, none⟩ = some (.int .i64 m.off)) := ⟨HBm.out.cell 0, HBm.out.cell 1, HBm.out.cell 2⟩
      obtain ⟨Y, hY⟩ : ∃ Y, (t.mems.take k).foldl memW Z = Y := ⟨_, rfl⟩
      rw [hY] at HW HFS fb1 fb2
      have hWm := (HW.out.alloc (.cells #[.string m.name, .int .i64 m.ty, .int .i64 m.off] 53)).drew
      have CPm := Lib.hid (wa_place hWm m.name hb128 (by omega))
      have hYt := place_ts Y m.name.data.toList
      have HLm : Hid ((placeW Y m.name.data.toList).ts.length + 4 * 3 ≤ 140737488355328) := show (placeW Y m.name.data.toList).ts.length + 4 * 3 ≤ 140737488355328 by rw [hYt]; omega
      have EM : Hid (memW Y m = numsW (placeW Y m.name.data.toList) [placeP Y m.name.data.toList, m.ty, m.off]) := (rfl : memW Y m = _)
      obtain ⟨P1, hP1⟩ : ∃ P1, placeP Y m.name.data.toList = P1 := ⟨_, rfl⟩
      rw [hP1] at CPm EM
      obtain ⟨Q1, hQ1⟩ : ∃ Q1, placeW Y m.name.data.toList = Q1 := ⟨_, rfl⟩
      rw [hQ1] at CPm EM HLm
      clear hm hY hWm hYt hP1 hQ1 fb1 fb2 hb128 l1 l2 hlt hs
      go_wp2_with fail
      go_region_held3 (fun W => W.cell? ⟨wr.heap.size, 0, none⟩ = some (.string m.name) ∧ W.cell? ⟨wr.heap.size, 1, none⟩ = some (.int .i64 m.ty) ∧ W.cell? ⟨wr.heap.size, 2, none⟩ = some (.int .i64 m.off))
        (first | exact S0.out | exact S3.out | exact S2.out | exact S1.out)
        (first
          | (go_at_call 28; refine CPm.out.mono ?_; rintro e w4 ⟨rfl, hw, ht⟩; have HW4 := Lib.hid hw; have HB1 := Lib.hid (Blk.tagk (show Blk (wr.alloc (.cells #[.string m.name, .int .i64 m.ty, .int .i64 m.off] 53)).drew wr.heap.size 53 #[.string m.name, .int .i64 m.ty, .int .i64 m.off] from HBm.out) ht (by decide)); have S1 : Hid (w4.cell? ⟨wr.heap.size, 0, none⟩ = some (.string m.name) ∧ w4.cell? ⟨wr.heap.size, 1, none⟩ = some (.int .i64 m.ty) ∧ w4.cell? ⟨wr.heap.size, 2, none⟩ = some (.int .i64 m.off)) := ⟨HB1.out.cell 0, HB1.out.cell 1, HB1.out.cell 2⟩; have HB2 := Lib.hid (HB1.out.alloc (.cells #[.int .i64 P1, .int .i64 m.ty, .int .i64 m.off] 3)); have S2 : Hid ((w4.alloc (.cells #[.int .i64 P1, .int .i64 m.ty, .int .i64 m.off] 3)).cell? ⟨wr.heap.size, 0, none⟩ = some (.string m.name) ∧ (w4.alloc (.cells #[.int .i64 P1, .int .i64 m.ty, .int .i64 m.off] 3)).cell? ⟨wr.heap.size, 1, none⟩ = some (.int .i64 m.ty) ∧ (w4.alloc (.cells #[.int .i64 P1, .int .i64 m.ty, .int .i64 m.off] 3)).cell? ⟨wr.heap.size, 2, none⟩ = some (.int .i64 m.off)) := ⟨HB2.out.cell 0, HB2.out.cell 1, HB2.out.cell 2⟩; clear hw ht)
          | (go_at_call 27; refine (wa_new HW4.out 3 [P1, m.ty, m.off] _ rfl rfl HLm.out).mono ?_; rintro e w5 ⟨rfl, hw, ht⟩; have HW5 := Lib.hid hw; have HB3 := Lib.hid (HB1.out.tagk ht (by decide)); have S3 : Hid (w5.cell? ⟨wr.heap.size, 0, none⟩ = some (.string m.name) ∧ w5.cell? ⟨wr.heap.size, 1, none⟩ = some (.int .i64 m.ty) ∧ w5.cell? ⟨wr.heap.size, 2, none⟩ = some (.int .i64 m.off)) := ⟨HB3.out.cell 0, HB3.out.cell 1, HB3.out.cell 2⟩; clear hw ht))
      all_goals go_wp2_with fail
      all_goals go_roundw
      all_goals first
        | (simp [intOf]; omega)
        | exact ⟨k + 1, by omega, by go_num, by rw [HFS.out, EM.out]; exact HW5.out⟩
    · have : k = t.mems.length := by omega
      subst this
      have g1 : decide (t.mems.length < t.mems.length) = false := by simp
      go_wp2_with fail
      go_end0
      refine ⟨rfl, ?_⟩
      have := HW.out
      rw [List.take_length] at this
      rw [HZ.out]
      exact this

set_option maxHeartbeats 4000000 in
theorem put_2 {w0 w : World} {g : Nat} {st : WS} (h : WA w0 w w g st) (A : Option Addr) (c : Nat) (t : Ty) (hk : t.kind = 2) (ht : mayB t = true) (hM : MemsAt w0 A t.mems) (hs1 : st.ts.length ≤ 100000000000) (hs2 : st.ns.length ≤ 100000000000) :
    Calls Try.prog 13 #[.pointer (some ⟨g, 0, none⟩), .agg #[.int .i64 2, .string t.name, .int .i64 t.size, .int .i64 t.ty, .int .i64 t.count, .slice A t.mems.length c]] w fun e w' => e = .returned (.tuple #[]) ∧ WA w0 w w' g (putW st t) := by
  have ht' := ht
  simp only [mayB, Bool.and_eq_true, fitsB, decide_eq_true_eq, nameB] at ht'
  obtain ⟨⟨⟨⟨⟨⟨hn128, _⟩, hz0, hz1⟩, hy0, hy1⟩, hc0, hc1⟩, hmem⟩, _⟩ := ht'
  have hml : t.mems.length ≤ 1024 := by simp only [membersB, Bool.and_eq_true, decide_eq_true_eq] at hmem; exact hmem.1
  have hor : bits .or .i64 33554432 (t.mems.length : Int) = 33554432 + (t.mems.length : Int) := or_word 2 t.mems.length (by decide) (by omega)
  have hwk : IntKind.i64.wrap 33554432 = 33554432 := by decide
  have hp1 : (placeW st t.name.data.toList).ns.length ≤ st.ns.length + 129 := place_ns' st t.name hn128
  have hts := place_ts st t.name.data.toList
  have eH : headW st t = numsW (placeW st t.name.data.toList) [placeP st t.name.data.toList, 33554432 + (t.mems.length : Int)] := by unfold headW; rw [hk]; rfl
  have eK : kindNums t = [t.ty] := by unfold kindNums; rw [hk]; rfl
  have eP : putW st t = t.mems.foldl memW (numsW (headW st t) (kindNums t)) := rfl
  rw [eP, eH, eK]
  have i1 : (t.mems.length : Int) ≤ 1024 := by omega
  have HMEM := Lib.hid hmem
  have HM := Lib.hid hM
  have hW0 : WA w0 w (w.alloc (.cells #[.int .i64 2, .string t.name, .int .i64 t.size, .int .i64 t.ty, .int .i64 t.count, .slice A t.mems.length c] 36)) g st := h.alloc _
  have HW0 := Lib.hid hW0.drew
  have HB : Hid (Blk (w.alloc (.cells #[.int .i64 2, .string t.name, .int .i64 t.size, .int .i64 t.ty, .int .i64 t.count, .slice A t.mems.length c] 36)) w.heap.size 36 #[.int .i64 2, .string t.name, .int .i64 t.size, .int .i64 t.ty, .int .i64 t.count, .slice A t.mems.length c]) := Blk.new _ _ _
  have S0 : Hid ((w.alloc (.cells #[.int .i64 2, .string t.name, .int .i64 t.size, .int .i64 t.ty, .int .i64 t.count, .slice A t.mems.length c] 36)).drew.cell? ⟨w.heap.size, 0, none⟩ = some (.int .i64 2) ∧ (w.alloc (.cells #[.int .i64 2, .string t.name, .int .i64 t.size, .int .i64 t.ty, .int .i64 t.count, .slice A t.mems.length c] 36)).drew.cell? ⟨w.heap.size, 1, none⟩ = some (.string t.name) ∧ (w.alloc (.cells #[.int .i64 2, .string t.name, .int .i64 t.size, .int .i64 t.ty, .int .i64 t.count, .slice A t.mems.length c] 36)).drew.cell? ⟨w.heap.size, 5, none⟩ = some (.slice A t.mems.length c)) := ⟨HB.out.cell 0, HB.out.cell 1, HB.out.cell 5⟩
  have CP := Lib.hid (wa_place HW0.out t.name hn128 (by omega))
  have HL1 : Hid ((placeW st t.name.data.toList).ts.length + 4 * 2 ≤ 140737488355328) := show (placeW st t.name.data.toList).ts.length + 4 * 2 ≤ 140737488355328 by rw [hts]; omega
  have HL2 : Hid ((numsW (placeW st t.name.data.toList) [placeP st t.name.data.toList, 33554432 + (t.mems.length : Int)]).ts.length + 4 * 1 ≤ 140737488355328) := show ((placeW st t.name.data.toList).ts ++ le4s _).length + 4 * 1 ≤ 140737488355328 by rw [List.length_append, hts, le4s_length]; simp only [List.length_cons, List.length_nil]; omega
  have HT3 : Hid ((numsW (numsW (placeW st t.name.data.toList) [placeP st t.name.data.toList, 33554432 + (t.mems.length : Int)]) [t.ty]).ts.length ≤ 100000000100) := show ((placeW st t.name.data.toList).ts ++ le4s _ ++ le4s _).length ≤ 100000000100 by rw [List.length_append, List.length_append, hts, le4s_length, le4s_length]; simp only [List.length_cons, List.length_nil]; omega
  have HN3 : Hid ((numsW (numsW (placeW st t.name.data.toList) [placeP st t.name.data.toList, 33554432 + (t.mems.length : Int)]) [t.ty]).ns.length ≤ 100000000200) := show (placeW st t.name.data.toList).ns.length ≤ 100000000200 by omega
  clear h hM ht hk hW0 eH eK eP hts hp1 hmem hn128 hs1 hs2 hml
  obtain ⟨P0, hP0⟩ : ∃ P0, placeP st t.name.data.toList = P0 := ⟨_, rfl⟩
  rw [hP0] at CP HL2 HT3 HN3 ⊢
  obtain ⟨Q0, hQ0⟩ : ∃ Q0, placeW st t.name.data.toList = Q0 := ⟨_, rfl⟩
  rw [hQ0] at CP HL1 HL2 HT3 HN3 ⊢
  clear hP0 hQ0
  go_enter Try.func13, Try.ntmps13
  go_wp2_with fail
  go_region_held3 (fun W => W.cell? ⟨w.heap.size, 0, none⟩ = some (.int .i64 2) ∧ W.cell? ⟨w.heap.size, 1, none⟩ = some (.string t.name) ∧ W.cell? ⟨w.heap.size, 5, none⟩ = some (.slice A t.mems.length c))
    (first | exact S0.out | exact S3.out | exact S2.out | exact S1.out)
    (first
      | (go_at_call 28; refine CP.out.mono ?_; rintro e w1 ⟨rfl, hw, ht⟩; have HW1 := Lib.hid hw; have HB1 := Lib.hid (Blk.tagk (show Blk (w.alloc (.cells #[.int .i64 2, .string t.name, .int .i64 t.size, .int .i64 t.ty, .int .i64 t.count, .slice A t.mems.length c] 36)).drew w.heap.size 36 #[.int .i64 2, .string t.name, .int .i64 t.size, .int .i64 t.ty, .int .i64 t.count, .slice A t.mems.length c] from HB.out) ht (by decide)); have S1 : Hid (w1.cell? ⟨w.heap.size, 0, none⟩ = some (.int .i64 2) ∧ w1.cell? ⟨w.heap.size, 1, none⟩ = some (.string t.name) ∧ w1.cell? ⟨w.heap.size, 5, none⟩ = some (.slice A t.mems.length c)) := ⟨HB1.out.cell 0, HB1.out.cell 1, HB1.out.cell 5⟩; have HB2 := Lib.hid (HB1.out.alloc (.cells #[.int .i64 P0, .int .i64 (33554432 + (t.mems.length : Int))] 3)); have S2 : Hid ((w1.alloc (.cells #[.int .i64 P0, .int .i64 (33554432 + (t.mems.length : Int))] 3)).cell? ⟨w.heap.size, 0, none⟩ = some (.int .i64 2) ∧ (w1.alloc (.cells #[.int .i64 P0, .int .i64 (33554432 + (t.mems.length : Int))] 3)).cell? ⟨w.heap.size, 1, none⟩ = some (.string t.name) ∧ (w1.alloc (.cells #[.int .i64 P0, .int .i64 (33554432 + (t.mems.length : Int))] 3)).cell? ⟨w.heap.size, 5, none⟩ = some (.slice A t.mems.length c)) := ⟨HB2.out.cell 0, HB2.out.cell 1, HB2.out.cell 5⟩; clear hw ht)
      | (go_at_call 27; refine (wa_new HW1.out 2 [P0, 33554432 + (t.mems.length : Int)] _ rfl rfl HL1.out).mono ?_; rintro e w2 ⟨rfl, hw, ht⟩; have HW2 := Lib.hid hw; have HB3 := Lib.hid (HB1.out.tagk ht (by decide)); have S3 : Hid (w2.cell? ⟨w.heap.size, 0, none⟩ = some (.int .i64 2) ∧ w2.cell? ⟨w.heap.size, 1, none⟩ = some (.string t.name) ∧ w2.cell? ⟨w.heap.size, 5, none⟩ = some (.slice A t.mems.length c)) := ⟨HB3.out.cell 0, HB3.out.cell 1, HB3.out.cell 5⟩; clear hw ht))
  have r0 : w2.cell? ⟨w.heap.size, 0, none⟩ = some (.int .i64 2) := HB3.out.cell 0
  have r2 : w2.cell? ⟨w.heap.size, 2, none⟩ = some (.int .i64 t.size) := HB3.out.cell 2
  have r3 : w2.cell? ⟨w.heap.size, 3, none⟩ = some (.int .i64 t.ty) := HB3.out.cell 3
  have r4 : w2.cell? ⟨w.heap.size, 4, none⟩ = some (.int .i64 t.count) := HB3.out.cell 4
  go_wp2_with (go_at_call 27; refine (wa_new HW2.out 1 [t.ty] _ rfl rfl HL2.out).mono ?_; rintro e w3 ⟨rfl, hw, ht⟩; have HW3 := Lib.hid hw; have HB4 := Lib.hid (HB3.out.tagk ht (by decide)); have q5 : w3.cell? ⟨w.heap.size, 5, none⟩ = some (.slice A t.mems.length c) := HB4.out.cell 5; clear hw ht)
  clear r0 r2 r3 r4
  obtain ⟨Z, hZ⟩ : ∃ Z, numsW (numsW Q0 [P0, 33554432 + (t.mems.length : Int)]) [t.ty] = Z := ⟨_, rfl⟩
  rw [hZ] at HW3 HT3 HN3
  have HZ := Lib.hid hZ
  clear hZ HL2 HL1
  go_loopw [5, 59] (fun a i wr => ∃ k : Nat, k ≤ t.mems.length ∧ i = .int .i64 k ∧ WA w0 w wr g ((t.mems.take k).foldl memW Z)) (fun _ i _ => t.mems.length - (intOf i).toNat)
  case atStart => exact ⟨0, by omega, rfl, HW3.out⟩
  case round =>
    clear HW3 HW2 HW1 HB4 HB3 HB2 HB1 S0 S1 S2 S3 q5 HB
    obtain ⟨k, hk, rfl, hw⟩ := hrel
    have HW := Lib.hid hw
    clear hw
    by_cases hkn : k < t.mems.length
    · obtain ⟨m, hm⟩ : ∃ m, t.mems[k]? = some m := ⟨_, List.getElem?_eq_getElem hkn⟩
      obtain ⟨b, off, rfl, hlt, c0, c1, c2, hs⟩ := (HM.out.below HW.out.below) k m hm
      have g1 : decide (k < t.mems.length) = true := by simpa using hkn
      have i2 : (k : Int) < (t.mems.length : Int) := by omega
      have HFS := Lib.hid (fold_snoc t.mems k m Z hm)
      obtain ⟨fb1, fb2⟩ := fold_bound t.mems k Z HMEM.out
      have hb128 := mem_small t.mems k m HMEM.out hm
      have l1 := HN3.out
      have l2 := HT3.out
      have HBm : Hid (Blk (wr.alloc (.cells #[.string m.name, .int .i64 m.ty, .int .i64 m.off] 53)) wr.heap.size 53 #[.string m.name, .int .i64 m.ty, .int .i64 m.off]) := Blk.new _ _ _
      have S0 : Hid ((wr.alloc (.cells #[.string m.name, .int .i64 m.ty, .int .i64 m.off] 53)).drew.cell? ⟨wr.heap.size, 0, none⟩ = some (.string m.name) ∧ (wr.alloc (.cells #[.string m.name, .int .i64 m.ty, .int .i64 m.off] 53)).drew.cell? ⟨wr.heap.size, 1, none⟩ = some (.int .i64 m.ty) ∧ (wr.alloc (.cells #[.string m.name, .int .i64 m.ty, .int .i64 m.off] 53)).drew.cell? ⟨wr.heap.size, 2, none⟩ = some (.int .i64 m.off)) := ⟨HBm.out.cell 0, HBm.out.cell 1, HBm.out.cell 2⟩
      obtain ⟨Y, hY⟩ : ∃ Y, (t.mems.take k).foldl memW Z = Y := ⟨_, rfl⟩
      rw [hY] at HW HFS fb1 fb2
      have hWm := (HW.out.alloc (.cells #[.string m.name, .int .i64 m.ty, .int .i64 m.off] 53)).drew
      have CPm := Lib.hid (wa_place hWm m.name hb128 (by omega))
      have hYt := place_ts Y m.name.data.toList
      have HLm : Hid ((placeW Y m.name.data.toList).ts.length + 4 * 3 ≤ 140737488355328) := show (placeW Y m.name.data.toList).ts.length + 4 * 3 ≤ 140737488355328 by rw [hYt]; omega
      have EM : Hid (memW Y m = numsW (placeW Y m.name.data.toList) [placeP Y m.name.data.toList, m.ty, m.off]) := (rfl : memW Y m = _)
      obtain ⟨P1, hP1⟩ : ∃ P1, placeP Y m.name.data.toList = P1 := ⟨_, rfl⟩
      rw [hP1] at CPm EM
      obtain ⟨Q1, hQ1⟩ : ∃ Q1, placeW Y m.name.data.toList = Q1 := ⟨_, rfl⟩
      rw [hQ1] at CPm EM HLm
      clear hm hY hWm hYt hP1 hQ1 fb1 fb2 hb128 l1 l2 hlt hs
      go_wp2_with fail
      go_region_held3 (fun W => W.cell? ⟨wr.heap.size, 0, none⟩ = some (.string m.name) ∧ W.cell? ⟨wr.heap.size, 1, none⟩ = some (.int .i64 m.ty) ∧ W.cell? ⟨wr.heap.size, 2, none⟩ = some (.int .i64 m.off))
        (first | exact S0.out | exact S3.out | exact S2.out | exact S1.out)
        (first
          | (go_at_call 28; refine CPm.out.mono ?_; rintro e w4 ⟨rfl, hw, ht⟩; have HW4 := Lib.hid hw; have HB1 := Lib.hid (Blk.tagk (show Blk (wr.alloc (.cells #[.string m.name, .int .i64 m.ty, .int .i64 m.off] 53)).drew wr.heap.size 53 #[.string m.name, .int .i64 m.ty, .int .i64 m.off] from HBm.out) ht (by decide)); have S1 : Hid (w4.cell? ⟨wr.heap.size, 0, none⟩ = some (.string m.name) ∧ w4.cell? ⟨wr.heap.size, 1, none⟩ = some (.int .i64 m.ty) ∧ w4.cell? ⟨wr.heap.size, 2, none⟩ = some (.int .i64 m.off)) := ⟨HB1.out.cell 0, HB1.out.cell 1, HB1.out.cell 2⟩; have HB2 := Lib.hid (HB1.out.alloc (.cells #[.int .i64 P1, .int .i64 m.ty, .int .i64 m.off] 3)); have S2 : Hid ((w4.alloc (.cells #[.int .i64 P1, .int .i64 m.ty, .int .i64 m.off] 3)).cell? ⟨wr.heap.size, 0, none⟩ = some (.string m.name) ∧ (w4.alloc (.cells #[.int .i64 P1, .int .i64 m.ty, .int .i64 m.off] 3)).cell? ⟨wr.heap.size, 1, none⟩ = some (.int .i64 m.ty) ∧ (w4.alloc (.cells #[.int .i64 P1, .int .i64 m.ty, .int .i64 m.off] 3)).cell? ⟨wr.heap.size, 2, none⟩ = some (.int .i64 m.off)) := ⟨HB2.out.cell 0, HB2.out.cell 1, HB2.out.cell 2⟩; clear hw ht)
          | (go_at_call 27; refine (wa_new HW4.out 3 [P1, m.ty, m.off] _ rfl rfl HLm.out).mono ?_; rintro e w5 ⟨rfl, hw, ht⟩; have HW5 := Lib.hid hw; have HB3 := Lib.hid (HB1.out.tagk ht (by decide)); have S3 : Hid (w5.cell? ⟨wr.heap.size, 0, none⟩ = some (.string m.name) ∧ w5.cell? ⟨wr.heap.size, 1, none⟩ = some (.int .i64 m.ty) ∧ w5.cell? ⟨wr.heap.size, 2, none⟩ = some (.int .i64 m.off)) := ⟨HB3.out.cell 0, HB3.out.cell 1, HB3.out.cell 2⟩; clear hw ht))
      all_goals go_wp2_with fail
      all_goals go_roundw
      all_goals first
        | (simp [intOf]; omega)
        | exact ⟨k + 1, by omega, by go_num, by rw [HFS.out, EM.out]; exact HW5.out⟩
    · have : k = t.mems.length := by omega
      subst this
      have g1 : decide (t.mems.length < t.mems.length) = false := by simp
      go_wp2_with fail
      go_end0
      refine ⟨rfl, ?_⟩
      have := HW.out
      rw [List.take_length] at this
      rw [HZ.out]
      exact this

set_option maxHeartbeats 4000000 in
theorem put_8 {w0 w : World} {g : Nat} {st : WS} (h : WA w0 w w g st) (A : Option Addr) (c : Nat) (t : Ty) (hk : t.kind = 8) (ht : mayB t = true) (hM : MemsAt w0 A t.mems) (hs1 : st.ts.length ≤ 100000000000) (hs2 : st.ns.length ≤ 100000000000) :
    Calls Try.prog 13 #[.pointer (some ⟨g, 0, none⟩), .agg #[.int .i64 8, .string t.name, .int .i64 t.size, .int .i64 t.ty, .int .i64 t.count, .slice A t.mems.length c]] w fun e w' => e = .returned (.tuple #[]) ∧ WA w0 w w' g (putW st t) := by
  have ht' := ht
  simp only [mayB, Bool.and_eq_true, fitsB, decide_eq_true_eq, nameB] at ht'
  obtain ⟨⟨⟨⟨⟨⟨hn128, _⟩, hz0, hz1⟩, hy0, hy1⟩, hc0, hc1⟩, hmem⟩, _⟩ := ht'
  have hml : t.mems.length ≤ 1024 := by simp only [membersB, Bool.and_eq_true, decide_eq_true_eq] at hmem; exact hmem.1
  have hor : bits .or .i64 134217728 (t.mems.length : Int) = 134217728 + (t.mems.length : Int) := or_word 8 t.mems.length (by decide) (by omega)
  have hwk : IntKind.i64.wrap 134217728 = 134217728 := by decide
  have hp1 : (placeW st t.name.data.toList).ns.length ≤ st.ns.length + 129 := place_ns' st t.name hn128
  have hts := place_ts st t.name.data.toList
  have eH : headW st t = numsW (placeW st t.name.data.toList) [placeP st t.name.data.toList, 134217728 + (t.mems.length : Int)] := by unfold headW; rw [hk]; rfl
  have eK : kindNums t = [t.ty] := by unfold kindNums; rw [hk]; rfl
  have eP : putW st t = t.mems.foldl memW (numsW (headW st t) (kindNums t)) := rfl
  rw [eP, eH, eK]
  have i1 : (t.mems.length : Int) ≤ 1024 := by omega
  have HMEM := Lib.hid hmem
  have HM := Lib.hid hM
  have hW0 : WA w0 w (w.alloc (.cells #[.int .i64 8, .string t.name, .int .i64 t.size, .int .i64 t.ty, .int .i64 t.count, .slice A t.mems.length c] 36)) g st := h.alloc _
  have HW0 := Lib.hid hW0.drew
  have HB : Hid (Blk (w.alloc (.cells #[.int .i64 8, .string t.name, .int .i64 t.size, .int .i64 t.ty, .int .i64 t.count, .slice A t.mems.length c] 36)) w.heap.size 36 #[.int .i64 8, .string t.name, .int .i64 t.size, .int .i64 t.ty, .int .i64 t.count, .slice A t.mems.length c]) := Blk.new _ _ _
  have S0 : Hid ((w.alloc (.cells #[.int .i64 8, .string t.name, .int .i64 t.size, .int .i64 t.ty, .int .i64 t.count, .slice A t.mems.length c] 36)).drew.cell? ⟨w.heap.size, 0, none⟩ = some (.int .i64 8) ∧ (w.alloc (.cells #[.int .i64 8, .string t.name, .int .i64 t.size, .int .i64 t.ty, .int .i64 t.count, .slice A t.mems.length c] 36)).drew.cell? ⟨w.heap.size, 1, none⟩ = some (.string t.name) ∧ (w.alloc (.cells #[.int .i64 8, .string t.name, .int .i64 t.size, .int .i64 t.ty, .int .i64 t.count, .slice A t.mems.length c] 36)).drew.cell? ⟨w.heap.size, 5, none⟩ = some (.slice A t.mems.length c)) := ⟨HB.out.cell 0, HB.out.cell 1, HB.out.cell 5⟩
  have CP := Lib.hid (wa_place HW0.out t.name hn128 (by omega))
  have HL1 : Hid ((placeW st t.name.data.toList).ts.length + 4 * 2 ≤ 140737488355328) := show (placeW st t.name.data.toList).ts.length + 4 * 2 ≤ 140737488355328 by rw [hts]; omega
  have HL2 : Hid ((numsW (placeW st t.name.data.toList) [placeP st t.name.data.toList, 134217728 + (t.mems.length : Int)]).ts.length + 4 * 1 ≤ 140737488355328) := show ((placeW st t.name.data.toList).ts ++ le4s _).length + 4 * 1 ≤ 140737488355328 by rw [List.length_append, hts, le4s_length]; simp only [List.length_cons, List.length_nil]; omega
  have HT3 : Hid ((numsW (numsW (placeW st t.name.data.toList) [placeP st t.name.data.toList, 134217728 + (t.mems.length : Int)]) [t.ty]).ts.length ≤ 100000000100) := show ((placeW st t.name.data.toList).ts ++ le4s _ ++ le4s _).length ≤ 100000000100 by rw [List.length_append, List.length_append, hts, le4s_length, le4s_length]; simp only [List.length_cons, List.length_nil]; omega
  have HN3 : Hid ((numsW (numsW (placeW st t.name.data.toList) [placeP st t.name.data.toList, 134217728 + (t.mems.length : Int)]) [t.ty]).ns.length ≤ 100000000200) := show (placeW st t.name.data.toList).ns.length ≤ 100000000200 by omega
  clear h hM ht hk hW0 eH eK eP hts hp1 hmem hn128 hs1 hs2 hml
  obtain ⟨P0, hP0⟩ : ∃ P0, placeP st t.name.data.toList = P0 := ⟨_, rfl⟩
  rw [hP0] at CP HL2 HT3 HN3 ⊢
  obtain ⟨Q0, hQ0⟩ : ∃ Q0, placeW st t.name.data.toList = Q0 := ⟨_, rfl⟩
  rw [hQ0] at CP HL1 HL2 HT3 HN3 ⊢
  clear hP0 hQ0
  go_enter Try.func13, Try.ntmps13
  go_wp2_with fail
  go_region_held3 (fun W => W.cell? ⟨w.heap.size, 0, none⟩ = some (.int .i64 8) ∧ W.cell? ⟨w.heap.size, 1, none⟩ = some (.string t.name) ∧ W.cell? ⟨w.heap.size, 5, none⟩ = some (.slice A t.mems.length c))
    (first | exact S0.out | exact S3.out | exact S2.out | exact S1.out)
    (first
      | (go_at_call 28; refine CP.out.mono ?_; rintro e w1 ⟨rfl, hw, ht⟩; have HW1 := Lib.hid hw; have HB1 := Lib.hid (Blk.tagk (show Blk (w.alloc (.cells #[.int .i64 8, .string t.name, .int .i64 t.size, .int .i64 t.ty, .int .i64 t.count, .slice A t.mems.length c] 36)).drew w.heap.size 36 #[.int .i64 8, .string t.name, .int .i64 t.size, .int .i64 t.ty, .int .i64 t.count, .slice A t.mems.length c] from HB.out) ht (by decide)); have S1 : Hid (w1.cell? ⟨w.heap.size, 0, none⟩ = some (.int .i64 8) ∧ w1.cell? ⟨w.heap.size, 1, none⟩ = some (.string t.name) ∧ w1.cell? ⟨w.heap.size, 5, none⟩ = some (.slice A t.mems.length c)) := ⟨HB1.out.cell 0, HB1.out.cell 1, HB1.out.cell 5⟩; have HB2 := Lib.hid (HB1.out.alloc (.cells #[.int .i64 P0, .int .i64 (134217728 + (t.mems.length : Int))] 3)); have S2 : Hid ((w1.alloc (.cells #[.int .i64 P0, .int .i64 (134217728 + (t.mems.length : Int))] 3)).cell? ⟨w.heap.size, 0, none⟩ = some (.int .i64 8) ∧ (w1.alloc (.cells #[.int .i64 P0, .int .i64 (134217728 + (t.mems.length : Int))] 3)).cell? ⟨w.heap.size, 1, none⟩ = some (.string t.name) ∧ (w1.alloc (.cells #[.int .i64 P0, .int .i64 (134217728 + (t.mems.length : Int))] 3)).cell? ⟨w.heap.size, 5, none⟩ = some (.slice A t.mems.length c)) := ⟨HB2.out.cell 0, HB2.out.cell 1, HB2.out.cell 5⟩; clear hw ht)
      | (go_at_call 27; refine (wa_new HW1.out 2 [P0, 134217728 + (t.mems.length : Int)] _ rfl rfl HL1.out).mono ?_; rintro e w2 ⟨rfl, hw, ht⟩; have HW2 := Lib.hid hw; have HB3 := Lib.hid (HB1.out.tagk ht (by decide)); have S3 : Hid (w2.cell? ⟨w.heap.size, 0, none⟩ = some (.int .i64 8) ∧ w2.cell? ⟨w.heap.size, 1, none⟩ = some (.string t.name) ∧ w2.cell? ⟨w.heap.size, 5, none⟩ = some (.slice A t.mems.length c)) := ⟨HB3.out.cell 0, HB3.out.cell 1, HB3.out.cell 5⟩; clear hw ht))
  have r0 : w2.cell? ⟨w.heap.size, 0, none⟩ = some (.int .i64 8) := HB3.out.cell 0
  have r2 : w2.cell? ⟨w.heap.size, 2, none⟩ = some (.int .i64 t.size) := HB3.out.cell 2
  have r3 : w2.cell? ⟨w.heap.size, 3, none⟩ = some (.int .i64 t.ty) := HB3.out.cell 3
  have r4 : w2.cell? ⟨w.heap.size, 4, none⟩ = some (.int .i64 t.count) := HB3.out.cell 4
  go_wp2_with (go_at_call 27; refine (wa_new HW2.out 1 [t.ty] _ rfl rfl HL2.out).mono ?_; rintro e w3 ⟨rfl, hw, ht⟩; have HW3 := Lib.hid hw; have HB4 := Lib.hid (HB3.out.tagk ht (by decide)); have q5 : w3.cell? ⟨w.heap.size, 5, none⟩ = some (.slice A t.mems.length c) := HB4.out.cell 5; clear hw ht)
  clear r0 r2 r3 r4
  obtain ⟨Z, hZ⟩ : ∃ Z, numsW (numsW Q0 [P0, 134217728 + (t.mems.length : Int)]) [t.ty] = Z := ⟨_, rfl⟩
  rw [hZ] at HW3 HT3 HN3
  have HZ := Lib.hid hZ
  clear hZ HL2 HL1
  go_loopw [5, 59] (fun a i wr => ∃ k : Nat, k ≤ t.mems.length ∧ i = .int .i64 k ∧ WA w0 w wr g ((t.mems.take k).foldl memW Z)) (fun _ i _ => t.mems.length - (intOf i).toNat)
  case atStart => exact ⟨0, by omega, rfl, HW3.out⟩
  case round =>
    clear HW3 HW2 HW1 HB4 HB3 HB2 HB1 S0 S1 S2 S3 q5 HB
    obtain ⟨k, hk, rfl, hw⟩ := hrel
    have HW := Lib.hid hw
    clear hw
    by_cases hkn : k < t.mems.length
    · obtain ⟨m, hm⟩ : ∃ m, t.mems[k]? = some m := ⟨_, List.getElem?_eq_getElem hkn⟩
      obtain ⟨b, off, rfl, hlt, c0, c1, c2, hs⟩ := (HM.out.below HW.out.below) k m hm
      have g1 : decide (k < t.mems.length) = true := by simpa using hkn
      have i2 : (k : Int) < (t.mems.length : Int) := by omega
      have HFS := Lib.hid (fold_snoc t.mems k m Z hm)
      obtain ⟨fb1, fb2⟩ := fold_bound t.mems k Z HMEM.out
      have hb128 := mem_small t.mems k m HMEM.out hm
      have l1 := HN3.out
      have l2 := HT3.out
      have HBm : Hid (Blk (wr.alloc (.cells #[.string m.name, .int .i64 m.ty, .int .i64 m.off] 53)) wr.heap.size 53 #[.string m.name, .int .i64 m.ty, .int .i64 m.off]) := Blk.new _ _ _
      have S0 : Hid ((wr.alloc (.cells #[.string m.name, .int .i64 m.ty, .int .i64 m.off] 53)).drew.cell? ⟨wr.heap.size, 0, none⟩ = some (.string m.name) ∧ (wr.alloc (.cells #[.string m.name, .int .i64 m.ty, .int .i64 m.off] 53)).drew.cell? ⟨wr.heap.size, 1, none⟩ = some (.int .i64 m.ty) ∧ (wr.alloc (.cells #[.string m.name, .int .i64 m.ty, .int .i64 m.off] 53)).drew.cell? ⟨wr.heap.size, 2, none⟩ = some (.int .i64 m.off)) := ⟨HBm.out.cell 0, HBm.out.cell 1, HBm.out.cell 2⟩
      obtain ⟨Y, hY⟩ : ∃ Y, (t.mems.take k).foldl memW Z = Y := ⟨_, rfl⟩
      rw [hY] at HW HFS fb1 fb2
      have hWm := (HW.out.alloc (.cells #[.string m.name, .int .i64 m.ty, .int .i64 m.off] 53)).drew
      have CPm := Lib.hid (wa_place hWm m.name hb128 (by omega))
      have hYt := place_ts Y m.name.data.toList
      have HLm : Hid ((placeW Y m.name.data.toList).ts.length + 4 * 3 ≤ 140737488355328) := show (placeW Y m.name.data.toList).ts.length + 4 * 3 ≤ 140737488355328 by rw [hYt]; omega
      have EM : Hid (memW Y m = numsW (placeW Y m.name.data.toList) [placeP Y m.name.data.toList, m.ty, m.off]) := (rfl : memW Y m = _)
      obtain ⟨P1, hP1⟩ : ∃ P1, placeP Y m.name.data.toList = P1 := ⟨_, rfl⟩
      rw [hP1] at CPm EM
      obtain ⟨Q1, hQ1⟩ : ∃ Q1, placeW Y m.name.data.toList = Q1 := ⟨_, rfl⟩
      rw [hQ1] at CPm EM HLm
      clear hm hY hWm hYt hP1 hQ1 fb1 fb2 hb128 l1 l2 hlt hs
      go_wp2_with fail
      go_region_held3 (fun W => W.cell? ⟨wr.heap.size, 0, none⟩ = some (.string m.name) ∧ W.cell? ⟨wr.heap.size, 1, none⟩ = some (.int .i64 m.ty) ∧ W.cell? ⟨wr.heap.size, 2, none⟩ = some (.int .i64 m.off))
        (first | exact S0.out | exact S3.out | exact S2.out | exact S1.out)
        (first
          | (go_at_call 28; refine CPm.out.mono ?_; rintro e w4 ⟨rfl, hw, ht⟩; have HW4 := Lib.hid hw; have HB1 := Lib.hid (Blk.tagk (show Blk (wr.alloc (.cells #[.string m.name, .int .i64 m.ty, .int .i64 m.off] 53)).drew wr.heap.size 53 #[.string m.name, .int .i64 m.ty, .int .i64 m.off] from HBm.out) ht (by decide)); have S1 : Hid (w4.cell? ⟨wr.heap.size, 0, none⟩ = some (.string m.name) ∧ w4.cell? ⟨wr.heap.size, 1, none⟩ = some (.int .i64 m.ty) ∧ w4.cell? ⟨wr.heap.size, 2, none⟩ = some (.int .i64 m.off)) := ⟨HB1.out.cell 0, HB1.out.cell 1, HB1.out.cell 2⟩; have HB2 := Lib.hid (HB1.out.alloc (.cells #[.int .i64 P1, .int .i64 m.ty, .int .i64 m.off] 3)); have S2 : Hid ((w4.alloc (.cells #[.int .i64 P1, .int .i64 m.ty, .int .i64 m.off] 3)).cell? ⟨wr.heap.size, 0, none⟩ = some (.string m.name) ∧ (w4.alloc (.cells #[.int .i64 P1, .int .i64 m.ty, .int .i64 m.off] 3)).cell? ⟨wr.heap.size, 1, none⟩ = some (.int .i64 m.ty) ∧ (w4.alloc (.cells #[.int .i64 P1, .int .i64 m.ty, .int .i64 m.off] 3)).cell? ⟨wr.heap.size, 2, none⟩ = some (.int .i64 m.off)) := ⟨HB2.out.cell 0, HB2.out.cell 1, HB2.out.cell 2⟩; clear hw ht)
          | (go_at_call 27; refine (wa_new HW4.out 3 [P1, m.ty, m.off] _ rfl rfl HLm.out).mono ?_; rintro e w5 ⟨rfl, hw, ht⟩; have HW5 := Lib.hid hw; have HB3 := Lib.hid (HB1.out.tagk ht (by decide)); have S3 : Hid (w5.cell? ⟨wr.heap.size, 0, none⟩ = some (.string m.name) ∧ w5.cell? ⟨wr.heap.size, 1, none⟩ = some (.int .i64 m.ty) ∧ w5.cell? ⟨wr.heap.size, 2, none⟩ = some (.int .i64 m.off)) := ⟨HB3.out.cell 0, HB3.out.cell 1, HB3.out.cell 2⟩; clear hw ht))
      all_goals go_wp2_with fail
      all_goals go_roundw
      all_goals first
        | (simp [intOf]; omega)
        | exact ⟨k + 1, by omega, by go_num, by rw [HFS.out, EM.out]; exact HW5.out⟩
    · have : k = t.mems.length := by omega
      subst this
      have g1 : decide (t.mems.length < t.mems.length) = false := by simp
      go_wp2_with fail
      go_end0
      refine ⟨rfl, ?_⟩
      have := HW.out
      rw [List.take_length] at this
      rw [HZ.out]
      exact this

set_option maxHeartbeats 4000000 in
theorem put_3 {w0 w : World} {g : Nat} {st : WS} (h : WA w0 w w g st) (A : Option Addr) (c : Nat) (t : Ty) (hk : t.kind = 3) (ht : mayB t = true) (hM : MemsAt w0 A t.mems) (hs1 : st.ts.length ≤ 100000000000) (hs2 : st.ns.length ≤ 100000000000) :
    Calls Try.prog 13 #[.pointer (some ⟨g, 0, none⟩), .agg #[.int .i64 3, .string t.name, .int .i64 t.size, .int .i64 t.ty, .int .i64 t.count, .slice A t.mems.length c]] w fun e w' => e = .returned (.tuple #[]) ∧ WA w0 w w' g (putW st t) := by
  have ht' := ht
  simp only [mayB, Bool.and_eq_true, fitsB, decide_eq_true_eq, nameB] at ht'
  obtain ⟨⟨⟨⟨⟨⟨hn128, _⟩, hz0, hz1⟩, hy0, hy1⟩, hc0, hc1⟩, hmem⟩, _⟩ := ht'
  have hml : t.mems.length ≤ 1024 := by simp only [membersB, Bool.and_eq_true, decide_eq_true_eq] at hmem; exact hmem.1
  have hor : bits .or .i64 50331648 (t.mems.length : Int) = 50331648 + (t.mems.length : Int) := or_word 3 t.mems.length (by decide) (by omega)
  have hwk : IntKind.i64.wrap 50331648 = 50331648 := by decide
  have hp1 : (placeW st t.name.data.toList).ns.length ≤ st.ns.length + 129 := place_ns' st t.name hn128
  have hts := place_ts st t.name.data.toList
  have eH : headW st t = numsW (placeW st t.name.data.toList) [placeP st t.name.data.toList, 50331648 + (t.mems.length : Int)] := by unfold headW; rw [hk]; rfl
  have eK : kindNums t = [0, t.ty, 0, t.count] := by unfold kindNums; rw [hk]; rfl
  have eP : putW st t = t.mems.foldl memW (numsW (headW st t) (kindNums t)) := rfl
  rw [eP, eH, eK]
  have i1 : (t.mems.length : Int) ≤ 1024 := by omega
  have HMEM := Lib.hid hmem
  have HM := Lib.hid hM
  have hW0 : WA w0 w (w.alloc (.cells #[.int .i64 3, .string t.name, .int .i64 t.size, .int .i64 t.ty, .int .i64 t.count, .slice A t.mems.length c] 36)) g st := h.alloc _
  have HW0 := Lib.hid hW0.drew
  have HB : Hid (Blk (w.alloc (.cells #[.int .i64 3, .string t.name, .int .i64 t.size, .int .i64 t.ty, .int .i64 t.count, .slice A t.mems.length c] 36)) w.heap.size 36 #[.int .i64 3, .string t.name, .int .i64 t.size, .int .i64 t.ty, .int .i64 t.count, .slice A t.mems.length c]) := Blk.new _ _ _
  have S0 : Hid ((w.alloc (.cells #[.int .i64 3, .string t.name, .int .i64 t.size, .int .i64 t.ty, .int .i64 t.count, .slice A t.mems.length c] 36)).drew.cell? ⟨w.heap.size, 0, none⟩ = some (.int .i64 3) ∧ (w.alloc (.cells #[.int .i64 3, .string t.name, .int .i64 t.size, .int .i64 t.ty, .int .i64 t.count, .slice A t.mems.length c] 36)).drew.cell? ⟨w.heap.size, 1, none⟩ = some (.string t.name) ∧ (w.alloc (.cells #[.int .i64 3, .string t.name, .int .i64 t.size, .int .i64 t.ty, .int .i64 t.count, .slice A t.mems.length c] 36)).drew.cell? ⟨w.heap.size, 5, none⟩ = some (.slice A t.mems.length c)) := ⟨HB.out.cell 0, HB.out.cell 1, HB.out.cell 5⟩
  have CP := Lib.hid (wa_place HW0.out t.name hn128 (by omega))
  have HL1 : Hid ((placeW st t.name.data.toList).ts.length + 4 * 2 ≤ 140737488355328) := show (placeW st t.name.data.toList).ts.length + 4 * 2 ≤ 140737488355328 by rw [hts]; omega
  have HL2 : Hid ((numsW (placeW st t.name.data.toList) [placeP st t.name.data.toList, 50331648 + (t.mems.length : Int)]).ts.length + 4 * 4 ≤ 140737488355328) := show ((placeW st t.name.data.toList).ts ++ le4s _).length + 4 * 4 ≤ 140737488355328 by rw [List.length_append, hts, le4s_length]; simp only [List.length_cons, List.length_nil]; omega
  have HT3 : Hid ((numsW (numsW (placeW st t.name.data.toList) [placeP st t.name.data.toList, 50331648 + (t.mems.length : Int)]) [0, t.ty, 0, t.count]).ts.length ≤ 100000000100) := show ((placeW st t.name.data.toList).ts ++ le4s _ ++ le4s _).length ≤ 100000000100 by rw [List.length_append, List.length_append, hts, le4s_length, le4s_length]; simp only [List.length_cons, List.length_nil]; omega
  have HN3 : Hid ((numsW (numsW (placeW st t.name.data.toList) [placeP st t.name.data.toList, 50331648 + (t.mems.length : Int)]) [0, t.ty, 0, t.count]).ns.length ≤ 100000000200) := show (placeW st t.name.data.toList).ns.length ≤ 100000000200 by omega
  clear h hM ht hk hW0 eH eK eP hts hp1 hmem hn128 hs1 hs2 hml
  obtain ⟨P0, hP0⟩ : ∃ P0, placeP st t.name.data.toList = P0 := ⟨_, rfl⟩
  rw [hP0] at CP HL2 HT3 HN3 ⊢
  obtain ⟨Q0, hQ0⟩ : ∃ Q0, placeW st t.name.data.toList = Q0 := ⟨_, rfl⟩
  rw [hQ0] at CP HL1 HL2 HT3 HN3 ⊢
  clear hP0 hQ0
  go_enter Try.func13, Try.ntmps13
  go_wp2_with fail
  go_region_held3 (fun W => W.cell? ⟨w.heap.size, 0, none⟩ = some (.int .i64 3) ∧ W.cell? ⟨w.heap.size, 1, none⟩ = some (.string t.name) ∧ W.cell? ⟨w.heap.size, 5, none⟩ = some (.slice A t.mems.length c))
    (first | exact S0.out | exact S3.out | exact S2.out | exact S1.out)
    (first
      | (go_at_call 28; refine CP.out.mono ?_; rintro e w1 ⟨rfl, hw, ht⟩; have HW1 := Lib.hid hw; have HB1 := Lib.hid (Blk.tagk (show Blk (w.alloc (.cells #[.int .i64 3, .string t.name, .int .i64 t.size, .int .i64 t.ty, .int .i64 t.count, .slice A t.mems.length c] 36)).drew w.heap.size 36 #[.int .i64 3, .string t.name, .int .i64 t.size, .int .i64 t.ty, .int .i64 t.count, .slice A t.mems.length c] from HB.out) ht (by decide)); have S1 : Hid (w1.cell? ⟨w.heap.size, 0, none⟩ = some (.int .i64 3) ∧ w1.cell? ⟨w.heap.size, 1, none⟩ = some (.string t.name) ∧ w1.cell? ⟨w.heap.size, 5, none⟩ = some (.slice A t.mems.length c)) := ⟨HB1.out.cell 0, HB1.out.cell 1, HB1.out.cell 5⟩; have HB2 := Lib.hid (HB1.out.alloc (.cells #[.int .i64 P0, .int .i64 (50331648 + (t.mems.length : Int))] 3)); have S2 : Hid ((w1.alloc (.cells #[.int .i64 P0, .int .i64 (50331648 + (t.mems.length : Int))] 3)).cell? ⟨w.heap.size, 0, none⟩ = some (.int .i64 3) ∧ (w1.alloc (.cells #[.int .i64 P0, .int .i64 (50331648 + (t.mems.length : Int))] 3)).cell? ⟨w.heap.size, 1, none⟩ = some (.string t.name) ∧ (w1.alloc (.cells #[.int .i64 P0, .int .i64 (50331648 + (t.mems.length : Int))] 3)).cell? ⟨w.heap.size, 5, none⟩ = some (.slice A t.mems.length c)) := ⟨HB2.out.cell 0, HB2.out.cell 1, HB2.out.cell 5⟩; clear hw ht)
      | (go_at_call 27; refine (wa_new HW1.out 2 [P0, 50331648 + (t.mems.length : Int)] _ rfl rfl HL1.out).mono ?_; rintro e w2 ⟨rfl, hw, ht⟩; have HW2 := Lib.hid hw; have HB3 := Lib.hid (HB1.out.tagk ht (by decide)); have S3 : Hid (w2.cell? ⟨w.heap.size, 0, none⟩ = some (.int .i64 3) ∧ w2.cell? ⟨w.heap.size, 1, none⟩ = some (.string t.name) ∧ w2.cell? ⟨w.heap.size, 5, none⟩ = some (.slice A t.mems.length c)) := ⟨HB3.out.cell 0, HB3.out.cell 1, HB3.out.cell 5⟩; clear hw ht))
  have r0 : w2.cell? ⟨w.heap.size, 0, none⟩ = some (.int .i64 3) := HB3.out.cell 0
  have r2 : w2.cell? ⟨w.heap.size, 2, none⟩ = some (.int .i64 t.size) := HB3.out.cell 2
  have r3 : w2.cell? ⟨w.heap.size, 3, none⟩ = some (.int .i64 t.ty) := HB3.out.cell 3
  have r4 : w2.cell? ⟨w.heap.size, 4, none⟩ = some (.int .i64 t.count) := HB3.out.cell 4
  go_wp2_with (go_at_call 27; refine (wa_new HW2.out 4 [0, t.ty, 0, t.count] _ rfl rfl HL2.out).mono ?_; rintro e w3 ⟨rfl, hw, ht⟩; have HW3 := Lib.hid hw; have HB4 := Lib.hid (HB3.out.tagk ht (by decide)); have q5 : w3.cell? ⟨w.heap.size, 5, none⟩ = some (.slice A t.mems.length c) := HB4.out.cell 5; clear hw ht)
  clear r0 r2 r3 r4
  obtain ⟨Z, hZ⟩ : ∃ Z, numsW (numsW Q0 [P0, 50331648 + (t.mems.length : Int)]) [0, t.ty, 0, t.count] = Z := ⟨_, rfl⟩
  rw [hZ] at HW3 HT3 HN3
  have HZ := Lib.hid hZ
  clear hZ HL2 HL1
  go_loopw [5, 59] (fun a i wr => ∃ k : Nat, k ≤ t.mems.length ∧ i = .int .i64 k ∧ WA w0 w wr g ((t.mems.take k).foldl memW Z)) (fun _ i _ => t.mems.length - (intOf i).toNat)
  case atStart => exact ⟨0, by omega, rfl, HW3.out⟩
  case round =>
    clear HW3 HW2 HW1 HB4 HB3 HB2 HB1 S0 S1 S2 S3 q5 HB
    obtain ⟨k, hk, rfl, hw⟩ := hrel
    have HW := Lib.hid hw
    clear hw
    by_cases hkn : k < t.mems.length
    · obtain ⟨m, hm⟩ : ∃ m, t.mems[k]? = some m := ⟨_, List.getElem?_eq_getElem hkn⟩
      obtain ⟨b, off, rfl, hlt, c0, c1, c2, hs⟩ := (HM.out.below HW.out.below) k m hm
      have g1 : decide (k < t.mems.length) = true := by simpa using hkn
      have i2 : (k : Int) < (t.mems.length : Int) := by omega
      have HFS := Lib.hid (fold_snoc t.mems k m Z hm)
      obtain ⟨fb1, fb2⟩ := fold_bound t.mems k Z HMEM.out
      have hb128 := mem_small t.mems k m HMEM.out hm
      have l1 := HN3.out
      have l2 := HT3.out
      have HBm : Hid (Blk (wr.alloc (.cells #[.string m.name, .int .i64 m.ty, .int .i64 m.off] 53)) wr.heap.size 53 #[.string m.name, .int .i64 m.ty, .int .i64 m.off]) := Blk.new _ _ _
      have S0 : Hid ((wr.alloc (.cells #[.string m.name, .int .i64 m.ty, .int .i64 m.off] 53)).drew.cell? ⟨wr.heap.size, 0, none⟩ = some (.string m.name) ∧ (wr.alloc (.cells #[.string m.name, .int .i64 m.ty, .int .i64 m.off] 53)).drew.cell? ⟨wr.heap.size, 1, none⟩ = some (.int .i64 m.ty) ∧ (wr.alloc (.cells #[.string m.name, .int .i64 m.ty, .int .i64 m.off] 53)).drew.cell? ⟨wr.heap.size, 2, none⟩ = some (.int .i64 m.off)) := ⟨HBm.out.cell 0, HBm.out.cell 1, HBm.out.cell 2⟩
      obtain ⟨Y, hY⟩ : ∃ Y, (t.mems.take k).foldl memW Z = Y := ⟨_, rfl⟩
      rw [hY] at HW HFS fb1 fb2
      have hWm := (HW.out.alloc (.cells #[.string m.name, .int .i64 m.ty, .int .i64 m.off] 53)).drew
      have CPm := Lib.hid (wa_place hWm m.name hb128 (by omega))
      have hYt := place_ts Y m.name.data.toList
      have HLm : Hid ((placeW Y m.name.data.toList).ts.length + 4 * 3 ≤ 140737488355328) := show (placeW Y m.name.data.toList).ts.length + 4 * 3 ≤ 140737488355328 by rw [hYt]; omega
      have EM : Hid (memW Y m = numsW (placeW Y m.name.data.toList) [placeP Y m.name.data.toList, m.ty, m.off]) := (rfl : memW Y m = _)
      obtain ⟨P1, hP1⟩ : ∃ P1, placeP Y m.name.data.toList = P1 := ⟨_, rfl⟩
      rw [hP1] at CPm EM
      obtain ⟨Q1, hQ1⟩ : ∃ Q1, placeW Y m.name.data.toList = Q1 := ⟨_, rfl⟩
      rw [hQ1] at CPm EM HLm
      clear hm hY hWm hYt hP1 hQ1 fb1 fb2 hb128 l1 l2 hlt hs
      go_wp2_with fail
      go_region_held3 (fun W => W.cell? ⟨wr.heap.size, 0, none⟩ = some (.string m.name) ∧ W.cell? ⟨wr.heap.size, 1, none⟩ = some (.int .i64 m.ty) ∧ W.cell? ⟨wr.heap.size, 2, none⟩ = some (.int .i64 m.off))
        (first | exact S0.out | exact S3.out | exact S2.out | exact S1.out)
        (first
          | (go_at_call 28; refine CPm.out.mono ?_; rintro e w4 ⟨rfl, hw, ht⟩; have HW4 := Lib.hid hw; have HB1 := Lib.hid (Blk.tagk (show Blk (wr.alloc (.cells #[.string m.name, .int .i64 m.ty, .int .i64 m.off] 53)).drew wr.heap.size 53 #[.string m.name, .int .i64 m.ty, .int .i64 m.off] from HBm.out) ht (by decide)); have S1 : Hid (w4.cell? ⟨wr.heap.size, 0, none⟩ = some (.string m.name) ∧ w4.cell? ⟨wr.heap.size, 1, none⟩ = some (.int .i64 m.ty) ∧ w4.cell? ⟨wr.heap.size, 2, none⟩ = some (.int .i64 m.off)) := ⟨HB1.out.cell 0, HB1.out.cell 1, HB1.out.cell 2⟩; have HB2 := Lib.hid (HB1.out.alloc (.cells #[.int .i64 P1, .int .i64 m.ty, .int .i64 m.off] 3)); have S2 : Hid ((w4.alloc (.cells #[.int .i64 P1, .int .i64 m.ty, .int .i64 m.off] 3)).cell? ⟨wr.heap.size, 0, none⟩ = some (.string m.name) ∧ (w4.alloc (.cells #[.int .i64 P1, .int .i64 m.ty, .int .i64 m.off] 3)).cell? ⟨wr.heap.size, 1, none⟩ = some (.int .i64 m.ty) ∧ (w4.alloc (.cells #[.int .i64 P1, .int .i64 m.ty, .int .i64 m.off] 3)).cell? ⟨wr.heap.size, 2, none⟩ = some (.int .i64 m.off)) := ⟨HB2.out.cell 0, HB2.out.cell 1, HB2.out.cell 2⟩; clear hw ht)
          | (go_at_call 27; refine (wa_new HW4.out 3 [P1, m.ty, m.off] _ rfl rfl HLm.out).mono ?_; rintro e w5 ⟨rfl, hw, ht⟩; have HW5 := Lib.hid hw; have HB3 := Lib.hid (HB1.out.tagk ht (by decide)); have S3 : Hid (w5.cell? ⟨wr.heap.size, 0, none⟩ = some (.string m.name) ∧ w5.cell? ⟨wr.heap.size, 1, none⟩ = some (.int .i64 m.ty) ∧ w5.cell? ⟨wr.heap.size, 2, none⟩ = some (.int .i64 m.off)) := ⟨HB3.out.cell 0, HB3.out.cell 1, HB3.out.cell 2⟩; clear hw ht))
      all_goals go_wp2_with fail
      all_goals go_roundw
      all_goals first
        | (simp [intOf]; omega)
        | exact ⟨k + 1, by omega, by go_num, by rw [HFS.out, EM.out]; exact HW5.out⟩
    · have : k = t.mems.length := by omega
      subst this
      have g1 : decide (t.mems.length < t.mems.length) = false := by simp
      go_wp2_with fail
      go_end0
      refine ⟨rfl, ?_⟩
      have := HW.out
      rw [List.take_length] at this
      rw [HZ.out]
      exact this

set_option maxHeartbeats 4000000 in
theorem put_4 {w0 w : World} {g : Nat} {st : WS} (h : WA w0 w w g st) (A : Option Addr) (c : Nat) (t : Ty) (hk : t.kind = 4) (ht : mayB t = true) (hM : MemsAt w0 A t.mems) (hs1 : st.ts.length ≤ 100000000000) (hs2 : st.ns.length ≤ 100000000000) :
    Calls Try.prog 13 #[.pointer (some ⟨g, 0, none⟩), .agg #[.int .i64 4, .string t.name, .int .i64 t.size, .int .i64 t.ty, .int .i64 t.count, .slice A t.mems.length c]] w fun e w' => e = .returned (.tuple #[]) ∧ WA w0 w w' g (putW st t) := by
  have ht' := ht
  simp only [mayB, Bool.and_eq_true, fitsB, decide_eq_true_eq, nameB] at ht'
  obtain ⟨⟨⟨⟨⟨⟨hn128, _⟩, hz0, hz1⟩, hy0, hy1⟩, hc0, hc1⟩, hmem⟩, _⟩ := ht'
  have hml : t.mems.length ≤ 1024 := by simp only [membersB, Bool.and_eq_true, decide_eq_true_eq] at hmem; exact hmem.1
  have hor : bits .or .i64 67108864 (t.mems.length : Int) = 67108864 + (t.mems.length : Int) := or_word 4 t.mems.length (by decide) (by omega)
  have hwk : IntKind.i64.wrap 67108864 = 67108864 := by decide
  have hp1 : (placeW st t.name.data.toList).ns.length ≤ st.ns.length + 129 := place_ns' st t.name hn128
  have hts := place_ts st t.name.data.toList
  have eH : headW st t = numsW (placeW st t.name.data.toList) [placeP st t.name.data.toList, 67108864 + (t.mems.length : Int)] := by unfold headW; rw [hk]; rfl
  have eK : kindNums t = [t.size] := by unfold kindNums; rw [hk]; rfl
  have eP : putW st t = t.mems.foldl memW (numsW (headW st t) (kindNums t)) := rfl
  rw [eP, eH, eK]
  have i1 : (t.mems.length : Int) ≤ 1024 := by omega
  have HMEM := Lib.hid hmem
  have HM := Lib.hid hM
  have hW0 : WA w0 w (w.alloc (.cells #[.int .i64 4, .string t.name, .int .i64 t.size, .int .i64 t.ty, .int .i64 t.count, .slice A t.mems.length c] 36)) g st := h.alloc _
  have HW0 := Lib.hid hW0.drew
  have HB : Hid (Blk (w.alloc (.cells #[.int .i64 4, .string t.name, .int .i64 t.size, .int .i64 t.ty, .int .i64 t.count, .slice A t.mems.length c] 36)) w.heap.size 36 #[.int .i64 4, .string t.name, .int .i64 t.size, .int .i64 t.ty, .int .i64 t.count, .slice A t.mems.length c]) := Blk.new _ _ _
  have S0 : Hid ((w.alloc (.cells #[.int .i64 4, .string t.name, .int .i64 t.size, .int .i64 t.ty, .int .i64 t.count, .slice A t.mems.length c] 36)).drew.cell? ⟨w.heap.size, 0, none⟩ = some (.int .i64 4) ∧ (w.alloc (.cells #[.int .i64 4, .string t.name, .int .i64 t.size, .int .i64 t.ty, .int .i64 t.count, .slice A t.mems.length c] 36)).drew.cell? ⟨w.heap.size, 1, none⟩ = some (.string t.name) ∧ (w.alloc (.cells #[.int .i64 4, .string t.name, .int .i64 t.size, .int .i64 t.ty, .int .i64 t.count, .slice A t.mems.length c] 36)).drew.cell? ⟨w.heap.size, 5, none⟩ = some (.slice A t.mems.length c)) := ⟨HB.out.cell 0, HB.out.cell 1, HB.out.cell 5⟩
  have CP := Lib.hid (wa_place HW0.out t.name hn128 (by omega))
  have HL1 : Hid ((placeW st t.name.data.toList).ts.length + 4 * 2 ≤ 140737488355328) := show (placeW st t.name.data.toList).ts.length + 4 * 2 ≤ 140737488355328 by rw [hts]; omega
  have HL2 : Hid ((numsW (placeW st t.name.data.toList) [placeP st t.name.data.toList, 67108864 + (t.mems.length : Int)]).ts.length + 4 * 1 ≤ 140737488355328) := show ((placeW st t.name.data.toList).ts ++ le4s _).length + 4 * 1 ≤ 140737488355328 by rw [List.length_append, hts, le4s_length]; simp only [List.length_cons, List.length_nil]; omega
  have HT3 : Hid ((numsW (numsW (placeW st t.name.data.toList) [placeP st t.name.data.toList, 67108864 + (t.mems.length : Int)]) [t.size]).ts.length ≤ 100000000100) := show ((placeW st t.name.data.toList).ts ++ le4s _ ++ le4s _).length ≤ 100000000100 by rw [List.length_append, List.length_append, hts, le4s_length, le4s_length]; simp only [List.length_cons, List.length_nil]; omega
  have HN3 : Hid ((numsW (numsW (placeW st t.name.data.toList) [placeP st t.name.data.toList, 67108864 + (t.mems.length : Int)]) [t.size]).ns.length ≤ 100000000200) := show (placeW st t.name.data.toList).ns.length ≤ 100000000200 by omega
  clear h hM ht hk hW0 eH eK eP hts hp1 hmem hn128 hs1 hs2 hml
  obtain ⟨P0, hP0⟩ : ∃ P0, placeP st t.name.data.toList = P0 := ⟨_, rfl⟩
  rw [hP0] at CP HL2 HT3 HN3 ⊢
  obtain ⟨Q0, hQ0⟩ : ∃ Q0, placeW st t.name.data.toList = Q0 := ⟨_, rfl⟩
  rw [hQ0] at CP HL1 HL2 HT3 HN3 ⊢
  clear hP0 hQ0
  go_enter Try.func13, Try.ntmps13
  go_wp2_with fail
  go_region_held3 (fun W => W.cell? ⟨w.heap.size, 0, none⟩ = some (.int .i64 4) ∧ W.cell? ⟨w.heap.size, 1, none⟩ = some (.string t.name) ∧ W.cell? ⟨w.heap.size, 5, none⟩ = some (.slice A t.mems.length c))
    (first | exact S0.out | exact S3.out | exact S2.out | exact S1.out)
    (first
      | (go_at_call 28; refine CP.out.mono ?_; rintro e w1 ⟨rfl, hw, ht⟩; have HW1 := Lib.hid hw; have HB1 := Lib.hid (Blk.tagk (show Blk (w.alloc (.cells #[.int .i64 4, .string t.name, .int .i64 t.size, .int .i64 t.ty, .int .i64 t.count, .slice A t.mems.length c] 36)).drew w.heap.size 36 #[.int .i64 4, .string t.name, .int .i64 t.size, .int .i64 t.ty, .int .i64 t.count, .slice A t.mems.length c] from HB.out) ht (by decide)); have S1 : Hid (w1.cell? ⟨w.heap.size, 0, none⟩ = some (.int .i64 4) ∧ w1.cell? ⟨w.heap.size, 1, none⟩ = some (.string t.name) ∧ w1.cell? ⟨w.heap.size, 5, none⟩ = some (.slice A t.mems.length c)) := ⟨HB1.out.cell 0, HB1.out.cell 1, HB1.out.cell 5⟩; have HB2 := Lib.hid (HB1.out.alloc (.cells #[.int .i64 P0, .int .i64 (67108864 + (t.mems.length : Int))] 3)); have S2 : Hid ((w1.alloc (.cells #[.int .i64 P0, .int .i64 (67108864 + (t.mems.length : Int))] 3)).cell? ⟨w.heap.size, 0, none⟩ = some (.int .i64 4) ∧ (w1.alloc (.cells #[.int .i64 P0, .int .i64 (67108864 + (t.mems.length : Int))] 3)).cell? ⟨w.heap.size, 1, none⟩ = some (.string t.name) ∧ (w1.alloc (.cells #[.int .i64 P0, .int .i64 (67108864 + (t.mems.length : Int))] 3)).cell? ⟨w.heap.size, 5, none⟩ = some (.slice A t.mems.length c)) := ⟨HB2.out.cell 0, HB2.out.cell 1, HB2.out.cell 5⟩; clear hw ht)
      | (go_at_call 27; refine (wa_new HW1.out 2 [P0, 67108864 + (t.mems.length : Int)] _ rfl rfl HL1.out).mono ?_; rintro e w2 ⟨rfl, hw, ht⟩; have HW2 := Lib.hid hw; have HB3 := Lib.hid (HB1.out.tagk ht (by decide)); have S3 : Hid (w2.cell? ⟨w.heap.size, 0, none⟩ = some (.int .i64 4) ∧ w2.cell? ⟨w.heap.size, 1, none⟩ = some (.string t.name) ∧ w2.cell? ⟨w.heap.size, 5, none⟩ = some (.slice A t.mems.length c)) := ⟨HB3.out.cell 0, HB3.out.cell 1, HB3.out.cell 5⟩; clear hw ht))
  have r0 : w2.cell? ⟨w.heap.size, 0, none⟩ = some (.int .i64 4) := HB3.out.cell 0
  have r2 : w2.cell? ⟨w.heap.size, 2, none⟩ = some (.int .i64 t.size) := HB3.out.cell 2
  have r3 : w2.cell? ⟨w.heap.size, 3, none⟩ = some (.int .i64 t.ty) := HB3.out.cell 3
  have r4 : w2.cell? ⟨w.heap.size, 4, none⟩ = some (.int .i64 t.count) := HB3.out.cell 4
  go_wp2_with (go_at_call 27; refine (wa_new HW2.out 1 [t.size] _ rfl rfl HL2.out).mono ?_; rintro e w3 ⟨rfl, hw, ht⟩; have HW3 := Lib.hid hw; have HB4 := Lib.hid (HB3.out.tagk ht (by decide)); have q5 : w3.cell? ⟨w.heap.size, 5, none⟩ = some (.slice A t.mems.length c) := HB4.out.cell 5; clear hw ht)
  clear r0 r2 r3 r4
  obtain ⟨Z, hZ⟩ : ∃ Z, numsW (numsW Q0 [P0, 67108864 + (t.mems.length : Int)]) [t.size] = Z := ⟨_, rfl⟩
  rw [hZ] at HW3 HT3 HN3
  have HZ := Lib.hid hZ
  clear hZ HL2 HL1
  go_loopw [5, 59] (fun a i wr => ∃ k : Nat, k ≤ t.mems.length ∧ i = .int .i64 k ∧ WA w0 w wr g ((t.mems.take k).foldl memW Z)) (fun _ i _ => t.mems.length - (intOf i).toNat)
  case atStart => exact ⟨0, by omega, rfl, HW3.out⟩
  case round =>
    clear HW3 HW2 HW1 HB4 HB3 HB2 HB1 S0 S1 S2 S3 q5 HB
    obtain ⟨k, hk, rfl, hw⟩ := hrel
    have HW := Lib.hid hw
    clear hw
    by_cases hkn : k < t.mems.length
    · obtain ⟨m, hm⟩ : ∃ m, t.mems[k]? = some m := ⟨_, List.getElem?_eq_getElem hkn⟩
      obtain ⟨b, off, rfl, hlt, c0, c1, c2, hs⟩ := (HM.out.below HW.out.below) k m hm
      have g1 : decide (k < t.mems.length) = true := by simpa using hkn
      have i2 : (k : Int) < (t.mems.length : Int) := by omega
      have HFS := Lib.hid (fold_snoc t.mems k m Z hm)
      obtain ⟨fb1, fb2⟩ := fold_bound t.mems k Z HMEM.out
      have hb128 := mem_small t.mems k m HMEM.out hm
      have l1 := HN3.out
      have l2 := HT3.out
      have HBm : Hid (Blk (wr.alloc (.cells #[.string m.name, .int .i64 m.ty, .int .i64 m.off] 53)) wr.heap.size 53 #[.string m.name, .int .i64 m.ty, .int .i64 m.off]) := Blk.new _ _ _
      have S0 : Hid ((wr.alloc (.cells #[.string m.name, .int .i64 m.ty, .int .i64 m.off] 53)).drew.cell? ⟨wr.heap.size, 0, none⟩ = some (.string m.name) ∧ (wr.alloc (.cells #[.string m.name, .int .i64 m.ty, .int .i64 m.off] 53)).drew.cell? ⟨wr.heap.size, 1, none⟩ = some (.int .i64 m.ty) ∧ (wr.alloc (.cells #[.string m.name, .int .i64 m.ty, .int .i64 m.off] 53)).drew.cell? ⟨wr.heap.size, 2, none⟩ = some (.int .i64 m.off)) := ⟨HBm.out.cell 0, HBm.out.cell 1, HBm.out.cell 2⟩
      obtain ⟨Y, hY⟩ : ∃ Y, (t.mems.take k).foldl memW Z = Y := ⟨_, rfl⟩
      rw [hY] at HW HFS fb1 fb2
      have hWm := (HW.out.alloc (.cells #[.string m.name, .int .i64 m.ty, .int .i64 m.off] 53)).drew
      have CPm := Lib.hid (wa_place hWm m.name hb128 (by omega))
      have hYt := place_ts Y m.name.data.toList
      have HLm : Hid ((placeW Y m.name.data.toList).ts.length + 4 * 3 ≤ 140737488355328) := show (placeW Y m.name.data.toList).ts.length + 4 * 3 ≤ 140737488355328 by rw [hYt]; omega
      have EM : Hid (memW Y m = numsW (placeW Y m.name.data.toList) [placeP Y m.name.data.toList, m.ty, m.off]) := (rfl : memW Y m = _)
      obtain ⟨P1, hP1⟩ : ∃ P1, placeP Y m.name.data.toList = P1 := ⟨_, rfl⟩
      rw [hP1] at CPm EM
      obtain ⟨Q1, hQ1⟩ : ∃ Q1, placeW Y m.name.data.toList = Q1 := ⟨_, rfl⟩
      rw [hQ1] at CPm EM HLm
      clear hm hY hWm hYt hP1 hQ1 fb1 fb2 hb128 l1 l2 hlt hs
      go_wp2_with fail
      go_region_held3 (fun W => W.cell? ⟨wr.heap.size, 0, none⟩ = some (.string m.name) ∧ W.cell? ⟨wr.heap.size, 1, none⟩ = some (.int .i64 m.ty) ∧ W.cell? ⟨wr.heap.size, 2, none⟩ = some (.int .i64 m.off))
        (first | exact S0.out | exact S3.out | exact S2.out | exact S1.out)
        (first
          | (go_at_call 28; refine CPm.out.mono ?_; rintro e w4 ⟨rfl, hw, ht⟩; have HW4 := Lib.hid hw; have HB1 := Lib.hid (Blk.tagk (show Blk (wr.alloc (.cells #[.string m.name, .int .i64 m.ty, .int .i64 m.off] 53)).drew wr.heap.size 53 #[.string m.name, .int .i64 m.ty, .int .i64 m.off] from HBm.out) ht (by decide)); have S1 : Hid (w4.cell? ⟨wr.heap.size, 0, none⟩ = some (.string m.name) ∧ w4.cell? ⟨wr.heap.size, 1, none⟩ = some (.int .i64 m.ty) ∧ w4.cell? ⟨wr.heap.size, 2, none⟩ = some (.int .i64 m.off)) := ⟨HB1.out.cell 0, HB1.out.cell 1, HB1.out.cell 2⟩; have HB2 := Lib.hid (HB1.out.alloc (.cells #[.int .i64 P1, .int .i64 m.ty, .int .i64 m.off] 3)); have S2 : Hid ((w4.alloc (.cells #[.int .i64 P1, .int .i64 m.ty, .int .i64 m.off] 3)).cell? ⟨wr.heap.size, 0, none⟩ = some (.string m.name) ∧ (w4.alloc (.cells #[.int .i64 P1, .int .i64 m.ty, .int .i64 m.off] 3)).cell? ⟨wr.heap.size, 1, none⟩ = some (.int .i64 m.ty) ∧ (w4.alloc (.cells #[.int .i64 P1, .int .i64 m.ty, .int .i64 m.off] 3)).cell? ⟨wr.heap.size, 2, none⟩ = some (.int .i64 m.off)) := ⟨HB2.out.cell 0, HB2.out.cell 1, HB2.out.cell 2⟩; clear hw ht)
          | (go_at_call 27; refine (wa_new HW4.out 3 [P1, m.ty, m.off] _ rfl rfl HLm.out).mono ?_; rintro e w5 ⟨rfl, hw, ht⟩; have HW5 := Lib.hid hw; have HB3 := Lib.hid (HB1.out.tagk ht (by decide)); have S3 : Hid (w5.cell? ⟨wr.heap.size, 0, none⟩ = some (.string m.name) ∧ w5.cell? ⟨wr.heap.size, 1, none⟩ = some (.int .i64 m.ty) ∧ w5.cell? ⟨wr.heap.size, 2, none⟩ = some (.int .i64 m.off)) := ⟨HB3.out.cell 0, HB3.out.cell 1, HB3.out.cell 2⟩; clear hw ht))
      all_goals go_wp2_with fail
      all_goals go_roundw
      all_goals first
        | (simp [intOf]; omega)
        | exact ⟨k + 1, by omega, by go_num, by rw [HFS.out, EM.out]; exact HW5.out⟩
    · have : k = t.mems.length := by omega
      subst this
      have g1 : decide (t.mems.length < t.mems.length) = false := by simp
      go_wp2_with fail
      go_end0
      refine ⟨rfl, ?_⟩
      have := HW.out
      rw [List.take_length] at this
      rw [HZ.out]
      exact this
end Go.Proofs.Ytmfdojmecpdikaa
