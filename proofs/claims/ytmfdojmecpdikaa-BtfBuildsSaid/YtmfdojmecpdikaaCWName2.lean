/-
  Layer 6, the reference: where its writer lays a name, walked.
-/
import Derived.Test.YtmfdojmecpdikaaCWName
import Derived.Test.YtmfdojmecpdikaaCWApp
import Derived.Test.YtmfdojmecpdikaaTail
import Derived.Outline
namespace Go.Proofs.Ytmfdojmecpdikaa
open Go Go.RowKit Go.Maps
set_option linter.unusedVariables false
set_option linter.unusedSimpArgs false
set_option maxRecDepth 100000
theorem cat_zero (l : List UInt8) (s : ByteArray) : bstr l ++ (s ++ ⟨#[0]⟩) = bstr (l ++ s.data.toList ++ [0]) := by
  apply ByteArray.ext
  rw [ByteArray.data_append, ByteArray.data_append]
  apply Array.toList_inj.1
  simp [bstr]
theorem set_first {w : World} {g : Nat} {t : TypeId} {a b c d : Value} (h : Blk w g t #[a, b, c, d]) (u : Value) : Blk (w.setCell ⟨g, 0, none⟩ u) g t #[u, b, c, d] := by simpa using h.set_ 0 u
theorem name_end {w W w9 : World} {g base : Nat} {q : QS} {s : ByteArray} {es : List (ByteArray × Int)} (he : qname q s = ⟨q.ts ++ le4 q.ns.length, q.ns ++ s.data.toList ++ [0], es⟩) (hk : Keeps (fun b => b = g ∨ base ≤ b) w W ∧ KeepT w W)
    (hp : PostWQ W g base ⟨q.ts ++ le4 q.ns.length, q.ns, es⟩ (.returned (.tuple #[])) w9) : PostWQ w g base (qname q s) (.returned (.tuple #[])) (w9.setCell ⟨g, 0, none⟩ (.string (bstr (q.ns ++ (s.data.toList ++ [0]))))) := by
  rw [← List.append_assoc]
  obtain ⟨_, av, tv, bv, h, hk2, ht2⟩ := hp
  have hgb := h.hg
  rw [he]
  have k : Keeps (· = g) w9 (w9.setCell ⟨g, 0, none⟩ (.string (bstr (q.ns ++ s.data.toList ++ [0])))) := keeps_set w9 g 0 _
  refine ⟨rfl, av, tv, bv, ⟨set_first h.blk _, own_far h.all k h.blk (by decide), own_far h.at_ k h.blk (by decide), own_far h.b k h.blk (by decide), h.hg, Nat.le_trans h.hbase k.size⟩, ?_⟩
  exact ⟨(hk.1.trans (hk2.mono fun b hb => .inl hb)).trans (k.mono fun b hb => .inl (.inl hb)), (hk.2.trans ht2).trans (KeepT.set_ h.blk (by decide) _)⟩
set_option maxHeartbeats 4000000 in
theorem wname_any {w : World} {g base : Nat} {q : QS} {av tv bv : Value} (h : WQ w g base q av tv bv) (s : ByteArray) (hes : q.es.length ≤ 1099511627776) (hts : q.ts.length + 4 ≤ 140737488355328) (hns : q.ns.length + s.size + 1 ≤ 4611686018427387904) :
    Calls Try.prog 16 #[.pointer (some ⟨g, 0, none⟩), .string s] w (PostWQ w g base (qname q s)) := by
  have c0 : w.cell? ⟨g, 0, none⟩ = some (.string (bstr q.ns)) := h.blk.cell 0
  obtain ⟨A1, k1, hav, hc1⟩ := own_form_any h.all
  obtain ⟨A2, k2, htv, hc2⟩ := own_form_any h.at_
  subst hav
  subst htv
  have c1 : w.cell? ⟨g, 1, none⟩ = some (.slice A1 q.es.length k1) := h.blk.cell 1
  have c2 : w.cell? ⟨g, 2, none⟩ = some (.slice A2 q.es.length k2) := h.blk.cell 2
  have H := Lib.hid h
  have HC1 := Lib.hid hc1
  have HC2 := Lib.hid hc2
  have HTS := Lib.hid hts
  have HNS := Lib.hid hns
  have i1 : (q.es.length : Int) ≤ 1099511627776 := by omega
  have CN := Lib.hid (fun n => wnum_any H.out.blk H.out.b H.out.hg H.out.hbase n HTS.out)
  clear h hc1 hc2 hts hns hes
  go_enter Try.func16, Try.ntmps16
  go_wp2_with fail
  go_loop [4] (fun i => ∃ k : Nat, k ≤ q.es.length ∧ i = .int .i64 k ∧ ∀ x ∈ q.es.take k, qsame s x = false) (fun i => q.es.length - (intOf i).toNat)
  case atStart => exact ⟨0, by omega, rfl, by simp⟩
  case round =>
    obtain ⟨k, hk, rfl, hq⟩ := hrel
    have HQ := Lib.hid hq
    clear hq
    by_cases hkn : k < q.es.length
    · obtain ⟨p, hp⟩ : ∃ p, q.es[k]? = some p := ⟨_, List.getElem?_eq_getElem hkn⟩
      obtain ⟨g1, rfl, hg1, hcell1⟩ := HC1.out (by omega)
      obtain ⟨g2, rfl, hg2, hcell2⟩ := HC2.out (by omega)
      have d1 : w.cell? ⟨g1, k, none⟩ = some (.string p.1) := hcell1 k _ (by simp [nameC, hp])
      have d2 : w.cell? ⟨g2, k, none⟩ = some (.int .i64 p.2) := hcell2 k _ (by simp [atC, hp])
      have e1 : decide (k < q.es.length) = true := by simpa using hkn
      have i2 : (k : Int) < (q.es.length : Int) := by omega
      have i3 : (0 : Int) ≤ (k : Int) := by omega
      have HP := Lib.hid hp
      clear hp hcell1 hcell2 hg1 hg2 hkn
      cases hs : qsame s p
      · have HX := Lib.hid (qtake _ s k p HP.out HQ.out hs)
        have e2 : (p.1.toList == s.toList) = false := hs
        clear hs
        go_wp2_with fail
        go_round
        case rel => exact ⟨k + 1, by omega, by go_num, HX.out⟩
        case measure => simp [intOf]; omega
      · have HX := Lib.hid (qfind_at _ s k p HP.out HQ.out hs)
        have e2 : (p.1.toList == s.toList) = true := hs
        clear hs
        go_wp2_with (go_at_call 17; refine (CN.out _).mono ?_; rintro e w1 hpost; have HPOST := Lib.hid (H.out.num _ _ hpost); have he := hpost.1; subst he; clear hpost)
        go_end0
        have e3 : qname q s = ⟨q.ts ++ le4 p.2, q.ns, q.es⟩ := by unfold qname; rw [HX.out]
        rw [e3]
        exact HPOST.out
    · have : k = q.es.length := by omega
      subst this
      have hno : qfind q.es s = none := qfind_no _ _ (by have := HQ.out; rwa [List.take_length] at this)
      have e3 : qname q s = ⟨q.ts ++ le4 q.ns.length, q.ns ++ s.data.toList ++ [0], q.es ++ [(s, (q.ns.length : Int))]⟩ := by unfold qname; rw [hno]
      have HE := Lib.hid e3
      have e1 : decide (q.es.length < q.es.length) = false := by simp
      clear hno e3
      have hlt1 : ∀ b, (Value.slice A1 q.es.length k1).ownBlock = some b → b < w.heap.size := fun b hx => own_lt H.out.all b hx
      have x0 := H.out.wv.drew
      have hsz : (w.drew.alloc (.cells #[.string s] 9)).heap.size = w.heap.size + 1 := by simp
      have hsz2 : (w.drew.alloc (.cells #[.int .i64 ((bstr q.ns).size : Int)] 3)).heap.size = w.heap.size + 1 := by simp
      have hq : (q.es.length : Int) ≤ 1099511627776 := i1
      -- the three orders of what is made
      obtain ⟨A5, N5, k5, w5, r5, y5, f5⟩ := (x0.alloc (.cells #[.string s] 9)).append1 s (q.ns.length : Int) w.heap.size (by have := (Blk.new w.drew 9 #[.string s]).cell 0; simpa using this) (by omega)
      obtain ⟨A7, N7, k7, w7, r7, y7⟩ := (y5.alloc (.cells #[.int .i64 ((bstr q.ns).size : Int)] 3)).append2 s (q.ns.length : Int) w5.heap.size (by rw [← bstr_size q.ns]; simp) (by omega)
      obtain ⟨A15, N15, k15, w15, r15, y15, f15⟩ := ((x0.alloc (.cells #[.string s] 9)).alloc (.cells #[.int .i64 ((bstr q.ns).size : Int)] 3)).append1 s (q.ns.length : Int) w.heap.size (by simpa using ((Blk.new w.drew 9 #[.string s]).alloc (.cells #[.int .i64 ((bstr q.ns).size : Int)] 3)).cell 0) (by omega)
      obtain ⟨A17, N17, k17, w17, r17, y17⟩ := y15.append2 s (q.ns.length : Int) (w.heap.size + 1) (by rw [f15 _ (by simp <;> omega) (fun e => by have := hlt1 _ e; simp only at this; omega), ← bstr_size q.ns]; have := (Blk.new (w.drew.alloc (.cells #[.string s] 9)) 3 #[.int .i64 ((bstr q.ns).size : Int)]).cell 0; rw [hsz] at this; simpa using this) (by omega)
      obtain ⟨A25, N25, k25, w25, r25, y25, f25⟩ := ((x0.alloc (.cells #[.int .i64 ((bstr q.ns).size : Int)] 3)).alloc (.cells #[.string s] 9)).append1 s (q.ns.length : Int) (w.heap.size + 1) (by have := (Blk.new (w.drew.alloc (.cells #[.int .i64 ((bstr q.ns).size : Int)] 3)) 9 #[.string s]).cell 0; rw [hsz2] at this; simpa using this) (by omega)
      obtain ⟨A27, N27, k27, w27, r27, y27⟩ := y25.append2 s (q.ns.length : Int) w.heap.size (by rw [f25 _ (by simp <;> omega) (fun e => by have := hlt1 _ e; simp only at this; omega), ← bstr_size q.ns]; simpa using ((Blk.new w.drew 3 #[.int .i64 ((bstr q.ns).size : Int)]).alloc (.cells #[.string s] 9)).cell 0) (by omega)
      have R5 := Lib.hid r5
      have Y5 := Lib.hid y5
      clear r5 y5
      have R7 := Lib.hid r7
      have Y7 := Lib.hid y7
      clear r7 y7
      have R15 := Lib.hid r15
      have Y15 := Lib.hid y15
      clear r15 y15
      have R17 := Lib.hid r17
      have Y17 := Lib.hid y17
      clear r17 y17
      have R25 := Lib.hid r25
      have Y25 := Lib.hid y25
      clear r25 y25
      have R27 := Lib.hid r27
      have Y27 := Lib.hid y27
      clear r27 y27
      have XA := Lib.hid (x0.alloc (.cells #[.string s] 9))
      have XB := Lib.hid ((x0.alloc (.cells #[.string s] 9)).alloc (.cells #[.int .i64 ((bstr q.ns).size : Int)] 3))
      have XC := Lib.hid (x0.alloc (.cells #[.int .i64 ((bstr q.ns).size : Int)] 3))
      have XD := Lib.hid ((x0.alloc (.cells #[.int .i64 ((bstr q.ns).size : Int)] 3)).alloc (.cells #[.string s] 9))
      have YA := Lib.hid (Y5.out.alloc (.cells #[.int .i64 ((bstr q.ns).size : Int)] 3))
      clear f5 f15 f25 x0 hsz hsz2 hlt1
      have d71 : w7.cell? ⟨g, 1, none⟩ = some (.slice A1 q.es.length k1) := Y7.out.blk.cell 1
      have d72 : w7.cell? ⟨g, 2, none⟩ = some (.slice A2 q.es.length k2) := Y7.out.blk.cell 2
      have u71 : w7.frozen? ⟨g, 1, none⟩ = false := Y7.out.blk.frozen 1
      have u72 : w7.frozen? ⟨g, 2, none⟩ = false := Y7.out.blk.frozen 2
      have d171 : w17.cell? ⟨g, 1, none⟩ = some (.slice A1 q.es.length k1) := Y17.out.blk.cell 1
      have d172 : w17.cell? ⟨g, 2, none⟩ = some (.slice A2 q.es.length k2) := Y17.out.blk.cell 2
      have u171 : w17.frozen? ⟨g, 1, none⟩ = false := Y17.out.blk.frozen 1
      have u172 : w17.frozen? ⟨g, 2, none⟩ = false := Y17.out.blk.frozen 2
      have d271 : w27.cell? ⟨g, 1, none⟩ = some (.slice A1 q.es.length k1) := Y27.out.blk.cell 1
      have d272 : w27.cell? ⟨g, 2, none⟩ = some (.slice A2 q.es.length k2) := Y27.out.blk.cell 2
      have u271 : w27.frozen? ⟨g, 1, none⟩ = false := Y27.out.blk.frozen 1
      have u272 : w27.frozen? ⟨g, 2, none⟩ = false := Y27.out.blk.frozen 2
      go_upto_region 5 with fail
      refine wp_region_noPanic ?_
      refine wp_region_tail [1, 20, 21, 22, 23, 24, 25] (S := (fun W => W.cell? ⟨g, 0, none⟩ = some (.string (bstr q.ns)) ∧ W.cell? ⟨g, 1, none⟩ = some (.slice A1 q.es.length k1) ∧ W.cell? ⟨g, 2, none⟩ = some (.slice A2 q.es.length k2))) (by kernel_rfl) ?_
      have hHeld : (fun W => W.cell? ⟨g, 0, none⟩ = some (.string (bstr q.ns)) ∧ W.cell? ⟨g, 1, none⟩ = some (.slice A1 q.es.length k1) ∧ W.cell? ⟨g, 2, none⟩ = some (.slice A2 q.es.length k2)) w.drew := ⟨c0, c1, c2⟩
      refine wpAnyT_take0 (i := 1) (oi := _) (v := ?_) rfl (by kernel_rfl) (by kernel_rfl) (by kernel_rfl) (by kernel_rfl) (fun _ _ _ h => h) (Or.inl ⟨by kernel_rfl, ?_⟩) ?_
      rotate_left 1
      · intro w hSw; go_simp; (try with_reducible rfl)
      try simp only [Act.put, List.getElem_toArray, List.getElem_cons_succ, List.getElem_cons_zero, List.setIfInBounds_toArray, List.set_cons_zero, List.set_cons_succ]
      refine wpAnyT_take (i := 0) (oi := _) (v := ?_) rfl (by kernel_rfl) (by kernel_rfl) (by kernel_rfl) (by kernel_rfl) (by kernel_rfl) (fun _ _ _ h => h) (Or.inl ⟨by kernel_rfl, ?_⟩) hHeld ?_
      rotate_left 1
      · intro w hSw; obtain ⟨hs0, hs1, hs2⟩ := hSw; go_simp; (try with_reducible rfl)
      try simp only [Act.put, List.getElem_toArray, List.getElem_cons_succ, List.getElem_cons_zero, List.setIfInBounds_toArray, List.set_cons_zero, List.set_cons_succ]
      refine wpAnyT_take (i := 2) (oi := _) (v := ?_) rfl (by kernel_rfl) (by kernel_rfl) (by kernel_rfl) (by kernel_rfl) (by kernel_rfl) (fun _ _ _ h => h) (Or.inl ⟨by kernel_rfl, ?_⟩) hHeld ?_
      rotate_left 1
      · intro w hSw; obtain ⟨hs0, hs1, hs2⟩ := hSw; go_simp; (try with_reducible rfl)
      try simp only [Act.put, List.getElem_toArray, List.getElem_cons_succ, List.getElem_cons_zero, List.setIfInBounds_toArray, List.set_cons_zero, List.set_cons_succ]
      refine wpAnyT_take (i := 3) (oi := _) (v := ?_) rfl (by kernel_rfl) (by kernel_rfl) (by kernel_rfl) (by kernel_rfl) (by kernel_rfl) (fun _ _ _ h => h) (Or.inl ⟨by kernel_rfl, ?_⟩) hHeld ?_
      rotate_left 1
      · intro w hSw; obtain ⟨hs0, hs1, hs2⟩ := hSw; go_simp; (try with_reducible rfl)
      try simp only [Act.put, List.getElem_toArray, List.getElem_cons_succ, List.getElem_cons_zero, List.setIfInBounds_toArray, List.set_cons_zero, List.set_cons_succ]
      refine wpAnyT_take (i := 4) (oi := _) (v := ?_) rfl (by kernel_rfl) (by kernel_rfl) (by kernel_rfl) (by kernel_rfl) (by kernel_rfl) (fun _ _ _ h => h) (Or.inl ⟨by kernel_rfl, ?_⟩) hHeld ?_
      rotate_left 1
      · intro w hSw; obtain ⟨hs0, hs1, hs2⟩ := hSw; go_simp; (try with_reducible rfl)
      try simp only [Act.put, List.getElem_toArray, List.getElem_cons_succ, List.getElem_cons_zero, List.setIfInBounds_toArray, List.set_cons_zero, List.set_cons_succ]
      refine wpAnyT_take (i := 5) (oi := _) (v := ?_) rfl (by kernel_rfl) (by kernel_rfl) (by kernel_rfl) (by kernel_rfl) (by kernel_rfl) (fun _ _ _ h => h) (Or.inl ⟨by kernel_rfl, ?_⟩) hHeld ?_
      rotate_left 1
      · intro w hSw; obtain ⟨hs0, hs1, hs2⟩ := hSw; go_simp; (try with_reducible rfl)
      try simp only [Act.put, List.getElem_toArray, List.getElem_cons_succ, List.getElem_cons_zero, List.setIfInBounds_toArray, List.set_cons_zero, List.set_cons_succ]
      refine wpAnyT_take (i := 6) (oi := _) (v := ?_) rfl (by kernel_rfl) (by kernel_rfl) (by kernel_rfl) (by kernel_rfl) (by kernel_rfl) (fun _ _ _ h => h) (Or.inl ⟨by kernel_rfl, ?_⟩) hHeld ?_
      rotate_left 1
      · intro w hSw; obtain ⟨hs0, hs1, hs2⟩ := hSw; go_simp; (try with_reducible rfl)
      try simp only [Act.put, List.getElem_toArray, List.getElem_cons_succ, List.getElem_cons_zero, List.setIfInBounds_toArray, List.set_cons_zero, List.set_cons_succ]
      refine wpAnyT_take (i := 9) (oi := _) (v := ?_) rfl (by kernel_rfl) (by kernel_rfl) (by kernel_rfl) (by kernel_rfl) (by kernel_rfl) (fun _ _ _ h => h) (Or.inl ⟨by kernel_rfl, ?_⟩) hHeld ?_
      rotate_left 1
      · intro w hSw; obtain ⟨hs0, hs1, hs2⟩ := hSw; go_simp; (try with_reducible rfl)
      try simp only [Act.put, List.getElem_toArray, List.getElem_cons_succ, List.getElem_cons_zero, List.setIfInBounds_toArray, List.set_cons_zero, List.set_cons_succ]
      refine wpAnyT_take (i := 10) (oi := _) (v := ?_) rfl (by kernel_rfl) (by kernel_rfl) (by kernel_rfl) (by kernel_rfl) (by kernel_rfl) (fun _ _ _ h => h) (Or.inl ⟨by kernel_rfl, ?_⟩) hHeld ?_
      rotate_left 1
      · intro w hSw; obtain ⟨hs0, hs1, hs2⟩ := hSw; go_simp; (try with_reducible rfl)
      try simp only [Act.put, List.getElem_toArray, List.getElem_cons_succ, List.getElem_cons_zero, List.setIfInBounds_toArray, List.set_cons_zero, List.set_cons_succ]
      refine wpAnyT_take (i := 11) (oi := _) (v := ?_) rfl (by kernel_rfl) (by kernel_rfl) (by kernel_rfl) (by kernel_rfl) (by kernel_rfl) (fun _ _ _ h => h) (Or.inl ⟨by kernel_rfl, ?_⟩) hHeld ?_
      rotate_left 1
      · intro w hSw; obtain ⟨hs0, hs1, hs2⟩ := hSw; go_simp; (try with_reducible rfl)
      try simp only [Act.put, List.getElem_toArray, List.getElem_cons_succ, List.getElem_cons_zero, List.setIfInBounds_toArray, List.set_cons_zero, List.set_cons_succ]
      refine wpAnyT_take (i := 12) (oi := _) (v := ?_) rfl (by kernel_rfl) (by kernel_rfl) (by kernel_rfl) (by kernel_rfl) (by kernel_rfl) (fun _ _ _ h => h) (Or.inl ⟨by kernel_rfl, ?_⟩) hHeld ?_
      rotate_left 1
      · intro w hSw; obtain ⟨hs0, hs1, hs2⟩ := hSw; go_simp; (try with_reducible rfl)
      try simp only [Act.put, List.getElem_toArray, List.getElem_cons_succ, List.getElem_cons_zero, List.setIfInBounds_toArray, List.set_cons_zero, List.set_cons_succ]
      refine wpAnyT_take (i := 13) (oi := _) (v := ?_) rfl (by kernel_rfl) (by kernel_rfl) (by kernel_rfl) (by kernel_rfl) (by kernel_rfl) (fun _ _ _ h => h) (Or.inl ⟨by kernel_rfl, ?_⟩) hHeld ?_
      rotate_left 1
      · intro w hSw; obtain ⟨hs0, hs1, hs2⟩ := hSw; go_simp; (try with_reducible rfl)
      try simp only [Act.put, List.getElem_toArray, List.getElem_cons_succ, List.getElem_cons_zero, List.setIfInBounds_toArray, List.set_cons_zero, List.set_cons_succ]
      refine wpAnyT_take (i := 14) (oi := _) (v := ?_) rfl (by kernel_rfl) (by kernel_rfl) (by kernel_rfl) (by kernel_rfl) (by kernel_rfl) (fun _ _ _ h => h) (Or.inl ⟨by kernel_rfl, ?_⟩) hHeld ?_
      rotate_left 1
      · intro w hSw; obtain ⟨hs0, hs1, hs2⟩ := hSw; go_simp; (try with_reducible rfl)
      try simp only [Act.put, List.getElem_toArray, List.getElem_cons_succ, List.getElem_cons_zero, List.setIfInBounds_toArray, List.set_cons_zero, List.set_cons_succ]
      refine wpAnyT_take (i := 15) (oi := _) (v := ?_) rfl (by kernel_rfl) (by kernel_rfl) (by kernel_rfl) (by kernel_rfl) (by kernel_rfl) (fun _ _ _ h => h) (Or.inl ⟨by kernel_rfl, ?_⟩) hHeld ?_
      rotate_left 1
      · intro w hSw; obtain ⟨hs0, hs1, hs2⟩ := hSw; go_simp; (try with_reducible rfl)
      try simp only [Act.put, List.getElem_toArray, List.getElem_cons_succ, List.getElem_cons_zero, List.setIfInBounds_toArray, List.set_cons_zero, List.set_cons_succ]
      refine wpAnyT_take (i := 16) (oi := _) (v := ?_) rfl (by kernel_rfl) (by kernel_rfl) (by kernel_rfl) (by kernel_rfl) (by kernel_rfl) (fun _ _ _ h => h) (Or.inl ⟨by kernel_rfl, ?_⟩) hHeld ?_
      rotate_left 1
      · intro w hSw; obtain ⟨hs0, hs1, hs2⟩ := hSw; go_simp; (try with_reducible rfl)
      try simp only [Act.put, List.getElem_toArray, List.getElem_cons_succ, List.getElem_cons_zero, List.setIfInBounds_toArray, List.set_cons_zero, List.set_cons_succ]
      refine wpAnyT_take (i := 17) (oi := _) (v := ?_) rfl (by kernel_rfl) (by kernel_rfl) (by kernel_rfl) (by kernel_rfl) (by kernel_rfl) (fun _ _ _ h => h) (Or.inl ⟨by kernel_rfl, ?_⟩) hHeld ?_
      rotate_left 1
      · intro w hSw; obtain ⟨hs0, hs1, hs2⟩ := hSw; go_simp; (try with_reducible rfl)
      try simp only [Act.put, List.getElem_toArray, List.getElem_cons_succ, List.getElem_cons_zero, List.setIfInBounds_toArray, List.set_cons_zero, List.set_cons_succ]
      refine wpAnyT_ready (rs := [7, 18]) (by kernel_rfl) (by simp) ?_
      refine AllReadyT.cons (o := _) rfl (fun K hK => ?_) (AllReadyT.cons (o := _) rfl (fun K hK => ?_) AllReadyT.nil)
      · go_simp
        refine hK.out _ _ (fun _ => ⟨XA.out.blk.cell 0, XA.out.blk.cell 1, XA.out.blk.cell 2⟩) ?_
        clear hK K
        try simp only [Act.put, List.getElem_toArray, List.getElem_cons_succ, List.getElem_cons_zero, List.setIfInBounds_toArray, List.set_cons_zero, List.set_cons_succ]
        refine wpAnyT_ready (rs := [8, 18]) (by kernel_rfl) (by simp) ?_
        refine AllReadyT.cons (o := _) rfl (fun K hK => ?_) (AllReadyT.cons (o := _) rfl (fun K hK => ?_) AllReadyT.nil)
        · refine step_append_runT (by rfl) (.tmp 37) (.tmp 39) 43 43 (by rfl) (.slice A1 q.es.length k1) (.slice (some ⟨w.heap.size, 0, none⟩) 1 1) (.slice A5 N5 k5) w5 (by rfl) (by rfl) 43 (by rfl) R5.out ?_
          refine hK.out _ _ (fun _ => ⟨Y5.out.blk.cell 0, Y5.out.blk.cell 1, Y5.out.blk.cell 2⟩) ?_
          clear hK K
          try simp only [Act.put, List.getElem_toArray, List.getElem_cons_succ, List.getElem_cons_zero, List.setIfInBounds_toArray, List.set_cons_zero, List.set_cons_succ]
          refine wpAnyT_ready (rs := [18]) (by kernel_rfl) (by simp) ?_
          refine AllReadyT.cons (o := _) rfl (fun K hK => ?_) AllReadyT.nil
          go_simp
          refine hK.out _ _ (fun _ => ⟨YA.out.blk.cell 0, YA.out.blk.cell 1, YA.out.blk.cell 2⟩) ?_
          clear hK K
          try simp only [Act.put, List.getElem_toArray, List.getElem_cons_succ, List.getElem_cons_zero, List.setIfInBounds_toArray, List.set_cons_zero, List.set_cons_succ]
          refine wpAnyT_ready (rs := [19]) (by kernel_rfl) (by simp) ?_
          refine AllReadyT.cons (o := _) rfl (fun K hK => ?_) AllReadyT.nil
          refine step_append_runT (by rfl) (.tmp 44) (.tmp 50) 44 44 (by rfl) (.slice A2 q.es.length k2) (.slice (some ⟨w5.heap.size, 0, none⟩) 1 1) (.slice A7 N7 k7) w7 (by rfl) (by rfl) 44 (by rfl) R7.out ?_
          refine hK.out _ _ (fun _ => ⟨Y7.out.blk.cell 0, Y7.out.blk.cell 1, Y7.out.blk.cell 2⟩) ?_
          clear hK K
          try simp only [Act.put, List.getElem_toArray, List.getElem_cons_succ, List.getElem_cons_zero, List.setIfInBounds_toArray, List.set_cons_zero, List.set_cons_succ]
          refine wpAnyT_take0 (i := 20) (oi := _) (v := ?_) rfl (by kernel_rfl) (by kernel_rfl) (by kernel_rfl) (by kernel_rfl) (fun _ _ _ h => h) (Or.inl ⟨by kernel_rfl, ?_⟩) ?_
          rotate_left 1
          · intro w hSw; go_simp; (try with_reducible rfl)
          try simp only [Act.put, List.getElem_toArray, List.getElem_cons_succ, List.getElem_cons_zero, List.setIfInBounds_toArray, List.set_cons_zero, List.set_cons_succ]
          refine wpAnyT_take0 (i := 21) (oi := _) (v := ?_) rfl (by kernel_rfl) (by kernel_rfl) (by kernel_rfl) (by kernel_rfl) (fun _ _ _ h => h) (Or.inl ⟨by kernel_rfl, ?_⟩) ?_
          rotate_left 1
          · intro w hSw; go_simp; (try with_reducible rfl)
          try simp only [Act.put, List.getElem_toArray, List.getElem_cons_succ, List.getElem_cons_zero, List.setIfInBounds_toArray, List.set_cons_zero, List.set_cons_succ]
          refine wpAnyT_ready (rs := [22]) (by kernel_rfl) (by simp) ?_
          refine AllReadyT.cons (o := _) rfl (fun K hK => ?_) AllReadyT.nil
          go_simp
          refine hK.out _ _ (fun h => by cases h) ?_
          clear hK K
          try simp only [Act.put, List.getElem_toArray, List.getElem_cons_succ, List.getElem_cons_zero, List.setIfInBounds_toArray, List.set_cons_zero, List.set_cons_succ]
          refine wpAnyT_take0 (i := 23) (oi := _) (v := ?_) rfl (by kernel_rfl) (by kernel_rfl) (by kernel_rfl) (by kernel_rfl) (fun _ _ _ h => h) (Or.inl ⟨by kernel_rfl, ?_⟩) ?_
          rotate_left 1
          · intro w hSw; go_simp; (try with_reducible rfl)
          try simp only [Act.put, List.getElem_toArray, List.getElem_cons_succ, List.getElem_cons_zero, List.setIfInBounds_toArray, List.set_cons_zero, List.set_cons_succ]
          refine wpAnyT_take0 (i := 24) (oi := _) (v := ?_) rfl (by kernel_rfl) (by kernel_rfl) (by kernel_rfl) (by kernel_rfl) (fun _ _ _ h => h) (Or.inl ⟨by kernel_rfl, ?_⟩) ?_
          rotate_left 1
          · intro w hSw; go_simp; (try with_reducible rfl)
          try simp only [Act.put, List.getElem_toArray, List.getElem_cons_succ, List.getElem_cons_zero, List.setIfInBounds_toArray, List.set_cons_zero, List.set_cons_succ]
          refine wpAnyT_ready (rs := [25]) (by kernel_rfl) (by simp) ?_
          refine AllReadyT.cons (o := _) rfl (fun K hK => ?_) AllReadyT.nil
          go_simp
          refine hK.out _ _ (fun h => by cases h) ?_
          clear hK K
          try simp only [Act.put, List.getElem_toArray, List.getElem_cons_succ, List.getElem_cons_zero, List.setIfInBounds_toArray, List.set_cons_zero, List.set_cons_succ]
          refine wpAnyT_done (by kernel_rfl) ?_ _
          refine NoPanic.normal ?_
          have DN := Lib.hid (Y7.out.done)
          clear d71 d72 u71 u72 d171 d172 u171 u172 d271 d272 u271 u272
          go_upto_region 6 with fail
          generalize World.setCell _ _ _ = W at DN ⊢
          have e0 : W.cell? ⟨g, 0, none⟩ = some (.string (bstr q.ns)) := DN.out.1.blk.cell 0
          have CM := Lib.hid (wnum_any DN.out.1.blk DN.out.1.b DN.out.1.hg DN.out.1.hbase (q.ns.length : Int) HTS.out)
          have hbs : ((bstr q.ns).size : Int) = (q.ns.length : Int) := by rw [bstr_size]
          have hz1 : (bstr q.ns).size + (s ++ ⟨#[0]⟩).size ≤ 4611686018427387904 := by have := HNS.out; rw [ByteArray.size_append, bstr_size]; show _ + (s.size + 1) ≤ _; omega
          have hz2 : s.size ≤ 4611686018427387903 := by have := HNS.out; omega
          have hcat : bstr q.ns ++ (s ++ ⟨#[0]⟩) = bstr (q.ns ++ s.data.toList ++ [0]) := cat_zero _ _
          go_wp2_with (go_at_call 17; refine CM.out.mono ?_; rintro e w9 hpost; have HN := Lib.hid (DN.out.1.num _ _ hpost); have he := hpost.1; subst he; have HBN : Hid (∃ bv', Blk w9 g 47 #[.string (bstr q.ns), .slice A5 N5 k5, .slice A7 N7 k7, bv'] ∧ True) := (by obtain ⟨_, bv', hb, _⟩ := hpost; exact ⟨bv', hb, trivial⟩); obtain ⟨bv', hb9, _⟩ := HBN.out; have k0 : w9.cell? ⟨g, 0, none⟩ = some (.string (bstr q.ns)) := hb9.cell 0; have k1 : w9.frozen? ⟨g, 0, none⟩ = false := hb9.frozen 0; clear hpost hb9 HBN)
          go_end0
          exact name_end HE.out DN.out.2 HN.out
        · go_simp
          refine hK.out _ _ (fun _ => ⟨XB.out.blk.cell 0, XB.out.blk.cell 1, XB.out.blk.cell 2⟩) ?_
          clear hK K
          try simp only [Act.put, List.getElem_toArray, List.getElem_cons_succ, List.getElem_cons_zero, List.setIfInBounds_toArray, List.set_cons_zero, List.set_cons_succ]
          refine wpAnyT_ready (rs := [8]) (by kernel_rfl) (by simp) ?_
          refine AllReadyT.cons (o := _) rfl (fun K hK => ?_) AllReadyT.nil
          refine step_append_runT (by rfl) (.tmp 37) (.tmp 39) 43 43 (by rfl) (.slice A1 q.es.length k1) (.slice (some ⟨w.heap.size, 0, none⟩) 1 1) (.slice A15 N15 k15) w15 (by rfl) (by rfl) 43 (by rfl) R15.out ?_
          refine hK.out _ _ (fun _ => ⟨Y15.out.blk.cell 0, Y15.out.blk.cell 1, Y15.out.blk.cell 2⟩) ?_
          clear hK K
          try simp only [Act.put, List.getElem_toArray, List.getElem_cons_succ, List.getElem_cons_zero, List.setIfInBounds_toArray, List.set_cons_zero, List.set_cons_succ]
          refine wpAnyT_ready (rs := [19]) (by kernel_rfl) (by simp) ?_
          refine AllReadyT.cons (o := _) rfl (fun K hK => ?_) AllReadyT.nil
          refine step_append_runT (by rfl) (.tmp 44) (.tmp 50) 44 44 (by rfl) (.slice A2 q.es.length k2) (.slice (some ⟨w.heap.size + 1, 0, none⟩) 1 1) (.slice A17 N17 k17) w17 (by rfl) (by rfl) 44 (by rfl) R17.out ?_
          refine hK.out _ _ (fun _ => ⟨Y17.out.blk.cell 0, Y17.out.blk.cell 1, Y17.out.blk.cell 2⟩) ?_
          clear hK K
          try simp only [Act.put, List.getElem_toArray, List.getElem_cons_succ, List.getElem_cons_zero, List.setIfInBounds_toArray, List.set_cons_zero, List.set_cons_succ]
          refine wpAnyT_take0 (i := 20) (oi := _) (v := ?_) rfl (by kernel_rfl) (by kernel_rfl) (by kernel_rfl) (by kernel_rfl) (fun _ _ _ h => h) (Or.inl ⟨by kernel_rfl, ?_⟩) ?_
          rotate_left 1
          · intro w hSw; go_simp; (try with_reducible rfl)
          try simp only [Act.put, List.getElem_toArray, List.getElem_cons_succ, List.getElem_cons_zero, List.setIfInBounds_toArray, List.set_cons_zero, List.set_cons_succ]
          refine wpAnyT_take0 (i := 21) (oi := _) (v := ?_) rfl (by kernel_rfl) (by kernel_rfl) (by kernel_rfl) (by kernel_rfl) (fun _ _ _ h => h) (Or.inl ⟨by kernel_rfl, ?_⟩) ?_
          rotate_left 1
          · intro w hSw; go_simp; (try with_reducible rfl)
          try simp only [Act.put, List.getElem_toArray, List.getElem_cons_succ, List.getElem_cons_zero, List.setIfInBounds_toArray, List.set_cons_zero, List.set_cons_succ]
          refine wpAnyT_ready (rs := [22]) (by kernel_rfl) (by simp) ?_
          refine AllReadyT.cons (o := _) rfl (fun K hK => ?_) AllReadyT.nil
          go_simp
          refine hK.out _ _ (fun h => by cases h) ?_
          clear hK K
          try simp only [Act.put, List.getElem_toArray, List.getElem_cons_succ, List.getElem_cons_zero, List.setIfInBounds_toArray, List.set_cons_zero, List.set_cons_succ]
          refine wpAnyT_take0 (i := 23) (oi := _) (v := ?_) rfl (by kernel_rfl) (by kernel_rfl) (by kernel_rfl) (by kernel_rfl) (fun _ _ _ h => h) (Or.inl ⟨by kernel_rfl, ?_⟩) ?_
          rotate_left 1
          · intro w hSw; go_simp; (try with_reducible rfl)
          try simp only [Act.put, List.getElem_toArray, List.getElem_cons_succ, List.getElem_cons_zero, List.setIfInBounds_toArray, List.set_cons_zero, List.set_cons_succ]
          refine wpAnyT_take0 (i := 24) (oi := _) (v := ?_) rfl (by kernel_rfl) (by kernel_rfl) (by kernel_rfl) (by kernel_rfl) (fun _ _ _ h => h) (Or.inl ⟨by kernel_rfl, ?_⟩) ?_
          rotate_left 1
          · intro w hSw; go_simp; (try with_reducible rfl)
          try simp only [Act.put, List.getElem_toArray, List.getElem_cons_succ, List.getElem_cons_zero, List.setIfInBounds_toArray, List.set_cons_zero, List.set_cons_succ]
          refine wpAnyT_ready (rs := [25]) (by kernel_rfl) (by simp) ?_
          refine AllReadyT.cons (o := _) rfl (fun K hK => ?_) AllReadyT.nil
          go_simp
          refine hK.out _ _ (fun h => by cases h) ?_
          clear hK K
          try simp only [Act.put, List.getElem_toArray, List.getElem_cons_succ, List.getElem_cons_zero, List.setIfInBounds_toArray, List.set_cons_zero, List.set_cons_succ]
          refine wpAnyT_done (by kernel_rfl) ?_ _
          refine NoPanic.normal ?_
          have DN := Lib.hid (Y17.out.done)
          clear d71 d72 u71 u72 d171 d172 u171 u172 d271 d272 u271 u272
          go_upto_region 6 with fail
          generalize World.setCell _ _ _ = W at DN ⊢
          have e0 : W.cell? ⟨g, 0, none⟩ = some (.string (bstr q.ns)) := DN.out.1.blk.cell 0
          have CM := Lib.hid (wnum_any DN.out.1.blk DN.out.1.b DN.out.1.hg DN.out.1.hbase (q.ns.length : Int) HTS.out)
          have hbs : ((bstr q.ns).size : Int) = (q.ns.length : Int) := by rw [bstr_size]
          have hz1 : (bstr q.ns).size + (s ++ ⟨#[0]⟩).size ≤ 4611686018427387904 := by have := HNS.out; rw [ByteArray.size_append, bstr_size]; show _ + (s.size + 1) ≤ _; omega
          have hz2 : s.size ≤ 4611686018427387903 := by have := HNS.out; omega
          have hcat : bstr q.ns ++ (s ++ ⟨#[0]⟩) = bstr (q.ns ++ s.data.toList ++ [0]) := cat_zero _ _
          go_wp2_with (go_at_call 17; refine CM.out.mono ?_; rintro e w9 hpost; have HN := Lib.hid (DN.out.1.num _ _ hpost); have he := hpost.1; subst he; have HBN : Hid (∃ bv', Blk w9 g 47 #[.string (bstr q.ns), .slice A15 N15 k15, .slice A17 N17 k17, bv'] ∧ True) := (by obtain ⟨_, bv', hb, _⟩ := hpost; exact ⟨bv', hb, trivial⟩); obtain ⟨bv', hb9, _⟩ := HBN.out; have k0 : w9.cell? ⟨g, 0, none⟩ = some (.string (bstr q.ns)) := hb9.cell 0; have k1 : w9.frozen? ⟨g, 0, none⟩ = false := hb9.frozen 0; clear hpost hb9 HBN)
          go_end0
          exact name_end HE.out DN.out.2 HN.out
      · go_simp
        refine hK.out _ _ (fun _ => ⟨XC.out.blk.cell 0, XC.out.blk.cell 1, XC.out.blk.cell 2⟩) ?_
        clear hK K
        try simp only [Act.put, List.getElem_toArray, List.getElem_cons_succ, List.getElem_cons_zero, List.setIfInBounds_toArray, List.set_cons_zero, List.set_cons_succ]
        refine wpAnyT_ready (rs := [7]) (by kernel_rfl) (by simp) ?_
        refine AllReadyT.cons (o := _) rfl (fun K hK => ?_) AllReadyT.nil
        go_simp
        refine hK.out _ _ (fun _ => ⟨XD.out.blk.cell 0, XD.out.blk.cell 1, XD.out.blk.cell 2⟩) ?_
        clear hK K
        try simp only [Act.put, List.getElem_toArray, List.getElem_cons_succ, List.getElem_cons_zero, List.setIfInBounds_toArray, List.set_cons_zero, List.set_cons_succ]
        refine wpAnyT_ready (rs := [8]) (by kernel_rfl) (by simp) ?_
        refine AllReadyT.cons (o := _) rfl (fun K hK => ?_) AllReadyT.nil
        refine step_append_runT (by rfl) (.tmp 37) (.tmp 39) 43 43 (by rfl) (.slice A1 q.es.length k1) (.slice (some ⟨w.heap.size + 1, 0, none⟩) 1 1) (.slice A25 N25 k25) w25 (by rfl) (by rfl) 43 (by rfl) R25.out ?_
        refine hK.out _ _ (fun _ => ⟨Y25.out.blk.cell 0, Y25.out.blk.cell 1, Y25.out.blk.cell 2⟩) ?_
        clear hK K
        try simp only [Act.put, List.getElem_toArray, List.getElem_cons_succ, List.getElem_cons_zero, List.setIfInBounds_toArray, List.set_cons_zero, List.set_cons_succ]
        refine wpAnyT_ready (rs := [19]) (by kernel_rfl) (by simp) ?_
        refine AllReadyT.cons (o := _) rfl (fun K hK => ?_) AllReadyT.nil
        refine step_append_runT (by rfl) (.tmp 44) (.tmp 50) 44 44 (by rfl) (.slice A2 q.es.length k2) (.slice (some ⟨w.heap.size, 0, none⟩) 1 1) (.slice A27 N27 k27) w27 (by rfl) (by rfl) 44 (by rfl) R27.out ?_
        refine hK.out _ _ (fun _ => ⟨Y27.out.blk.cell 0, Y27.out.blk.cell 1, Y27.out.blk.cell 2⟩) ?_
        clear hK K
        try simp only [Act.put, List.getElem_toArray, List.getElem_cons_succ, List.getElem_cons_zero, List.setIfInBounds_toArray, List.set_cons_zero, List.set_cons_succ]
        refine wpAnyT_take0 (i := 20) (oi := _) (v := ?_) rfl (by kernel_rfl) (by kernel_rfl) (by kernel_rfl) (by kernel_rfl) (fun _ _ _ h => h) (Or.inl ⟨by kernel_rfl, ?_⟩) ?_
        rotate_left 1
        · intro w hSw; go_simp; (try with_reducible rfl)
        try simp only [Act.put, List.getElem_toArray, List.getElem_cons_succ, List.getElem_cons_zero, List.setIfInBounds_toArray, List.set_cons_zero, List.set_cons_succ]
        refine wpAnyT_take0 (i := 21) (oi := _) (v := ?_) rfl (by kernel_rfl) (by kernel_rfl) (by kernel_rfl) (by kernel_rfl) (fun _ _ _ h => h) (Or.inl ⟨by kernel_rfl, ?_⟩) ?_
        rotate_left 1
        · intro w hSw; go_simp; (try with_reducible rfl)
        try simp only [Act.put, List.getElem_toArray, List.getElem_cons_succ, List.getElem_cons_zero, List.setIfInBounds_toArray, List.set_cons_zero, List.set_cons_succ]
        refine wpAnyT_ready (rs := [22]) (by kernel_rfl) (by simp) ?_
        refine AllReadyT.cons (o := _) rfl (fun K hK => ?_) AllReadyT.nil
        go_simp
        refine hK.out _ _ (fun h => by cases h) ?_
        clear hK K
        try simp only [Act.put, List.getElem_toArray, List.getElem_cons_succ, List.getElem_cons_zero, List.setIfInBounds_toArray, List.set_cons_zero, List.set_cons_succ]
        refine wpAnyT_take0 (i := 23) (oi := _) (v := ?_) rfl (by kernel_rfl) (by kernel_rfl) (by kernel_rfl) (by kernel_rfl) (fun _ _ _ h => h) (Or.inl ⟨by kernel_rfl, ?_⟩) ?_
        rotate_left 1
        · intro w hSw; go_simp; (try with_reducible rfl)
        try simp only [Act.put, List.getElem_toArray, List.getElem_cons_succ, List.getElem_cons_zero, List.setIfInBounds_toArray, List.set_cons_zero, List.set_cons_succ]
        refine wpAnyT_take0 (i := 24) (oi := _) (v := ?_) rfl (by kernel_rfl) (by kernel_rfl) (by kernel_rfl) (by kernel_rfl) (fun _ _ _ h => h) (Or.inl ⟨by kernel_rfl, ?_⟩) ?_
        rotate_left 1
        · intro w hSw; go_simp; (try with_reducible rfl)
        try simp only [Act.put, List.getElem_toArray, List.getElem_cons_succ, List.getElem_cons_zero, List.setIfInBounds_toArray, List.set_cons_zero, List.set_cons_succ]
        refine wpAnyT_ready (rs := [25]) (by kernel_rfl) (by simp) ?_
        refine AllReadyT.cons (o := _) rfl (fun K hK => ?_) AllReadyT.nil
        go_simp
        refine hK.out _ _ (fun h => by cases h) ?_
        clear hK K
        try simp only [Act.put, List.getElem_toArray, List.getElem_cons_succ, List.getElem_cons_zero, List.setIfInBounds_toArray, List.set_cons_zero, List.set_cons_succ]
        refine wpAnyT_done (by kernel_rfl) ?_ _
        refine NoPanic.normal ?_
        have DN := Lib.hid (Y27.out.done)
        clear d71 d72 u71 u72 d171 d172 u171 u172 d271 d272 u271 u272
        go_upto_region 6 with fail
        generalize World.setCell _ _ _ = W at DN ⊢
        have e0 : W.cell? ⟨g, 0, none⟩ = some (.string (bstr q.ns)) := DN.out.1.blk.cell 0
        have CM := Lib.hid (wnum_any DN.out.1.blk DN.out.1.b DN.out.1.hg DN.out.1.hbase (q.ns.length : Int) HTS.out)
        have hbs : ((bstr q.ns).size : Int) = (q.ns.length : Int) := by rw [bstr_size]
        have hz1 : (bstr q.ns).size + (s ++ ⟨#[0]⟩).size ≤ 4611686018427387904 := by have := HNS.out; rw [ByteArray.size_append, bstr_size]; show _ + (s.size + 1) ≤ _; omega
        have hz2 : s.size ≤ 4611686018427387903 := by have := HNS.out; omega
        have hcat : bstr q.ns ++ (s ++ ⟨#[0]⟩) = bstr (q.ns ++ s.data.toList ++ [0]) := cat_zero _ _
        go_wp2_with (go_at_call 17; refine CM.out.mono ?_; rintro e w9 hpost; have HN := Lib.hid (DN.out.1.num _ _ hpost); have he := hpost.1; subst he; have HBN : Hid (∃ bv', Blk w9 g 47 #[.string (bstr q.ns), .slice A25 N25 k25, .slice A27 N27 k27, bv'] ∧ True) := (by obtain ⟨_, bv', hb, _⟩ := hpost; exact ⟨bv', hb, trivial⟩); obtain ⟨bv', hb9, _⟩ := HBN.out; have k0 : w9.cell? ⟨g, 0, none⟩ = some (.string (bstr q.ns)) := hb9.cell 0; have k1 : w9.frozen? ⟨g, 0, none⟩ = false := hb9.frozen 0; clear hpost hb9 HBN)
        go_end0
        exact name_end HE.out DN.out.2 HN.out
end Go.Proofs.Ytmfdojmecpdikaa
