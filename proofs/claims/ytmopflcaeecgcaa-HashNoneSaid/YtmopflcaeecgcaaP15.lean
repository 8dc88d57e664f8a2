/-
  strings.Clone, whole. Package hash: Lookup, Delete, Next, Len. Package hash: add: a new entry, where there is room or the oldest one goes.
-/
import Derived.Test.YtmopflcaeecgcaaP14
import Derived.Lib.UnsafeStr
import Derived.Lib.BufferWrite
import Derived.Lib.Strings
import Derived.Laws.MakeOwn
namespace Go.Proofs.Ytmopflcaeecgcaa
open Go Go.RowKit
set_option linter.unusedVariables false
set_option linter.unusedSimpArgs false
set_option maxRecDepth 100000
theorem infoB : (Try.prog.info? 5).map (fun i => (i.zero, i.size, i.bytes)) = some (some (.int .u8 0), 1, 1) := by kernel_rfl
theorem sclone_any (s : ByteArray) (hs : s.size ≤ 4096) (w : World) :
    Calls Try.prog 63 #[.string s] w fun e w' => e = .returned (.string s) ∧ Below w.heap.size w w' := by
  by_cases h0 : s.size = 0
  · have e : s = ⟨#[]⟩ := ByteArray.ext (Array.eq_empty_of_size_eq_zero h0)
    subst e
    go_enter Try.func63, Try.ntmps63
    go_wp2_with fail
    go_ret
    exact ⟨rfl, Below.refl _ _⟩
  · obtain ⟨i0, hi, hz0, hz1, hz2⟩ := info_parts infoB
    have hinfo : (Try.prog.info? 5).map (·.size) = some 1 := by rw [hi]; simp [hz1]
    have hco : Try.prog.cellsOf 5 = 1 := by kernel_rfl
    obtain ⟨M, hM⟩ : ∃ M, M = madeCells (Value.int .u8 0).cells ((s.size : Int).toNat * i0.size) := ⟨_, rfl⟩
    have hMs : M.size = s.size := by rw [hM, size_madeCells, hz1]; simp [Value.cells]
    have hmk : ∀ W : World, (Instr.makeSlice 88 (.int .i64 (s.size : Int)) (.int .i64 (s.size : Int))).run Try.prog W = .ok (.slice (some ⟨W.heap.size, 0, none⟩) s.size s.size) (W.alloc (.cells M 5)) := fun W => by
      have h := run_make (P := Try.prog) W 88 5 i0 (.int .u8 0) Try.underlying88 hi hz0 .i64 .i64 (s.size : Int) (s.size : Int) (by omega) (by omega) (by rw [hz2]; omega) (by omega)
      rw [← hM] at h
      simpa using h
    have hcp := Lib.run_copy_row_string (P := Try.prog) (w.alloc (.cells M 5)) 88 9 3 5 w.heap.size 0 s.size s.size s M 5 Try.underlying88 hinfo (heap_alloc_new w _) (Nat.le_refl _) (by omega)
    obtain ⟨Y, hY⟩ : ∃ Y, Y = (M.toList.take 0 ++ Lib.byteCells s.data.toList ++ M.toList.drop (0 + s.size)).toArray := ⟨_, rfl⟩
    rw [← hY] at hcp
    have hYl : Y.toList = Lib.byteCells s.data.toList := by
      rw [hY, List.toList_toArray, List.take_zero, List.nil_append, List.drop_of_length_le (by rw [Array.length_toList]; omega), List.append_nil]
    have hYs : Y.size = s.size := by rw [← Array.length_toList, hYl, Lib.byteCells_length, ← Lib.size_eq]
    have hgY : ((w.alloc (.cells M 5)).setRow w.heap.size Y).heap[w.heap.size]? = some (.cells Y 5 (0, 0)) := setRow_heap _ _ M _ 5 (0, 0) (heap_alloc_new w _)
    have hne : s.data.toList ≠ [] := fun e => h0 (by rw [Lib.size_eq, e]; rfl)
    have hUS := Lib.run_unsafeString_row (P := Try.prog) ((w.alloc (.cells M 5)).setRow w.heap.size Y) 136 3 9 5 Try.underlying136 hco w.heap.size Y.size (by unfold World.shape?; rw [hgY]) s.data.toList hne (by rw [← Lib.size_eq]; omega) (by rw [← Lib.size_eq]; omega)
      (fun j x hx => Lib.cells_of_row hgY Y.size j _ (by rw [List.take_of_length_le (by rw [Array.length_toList]; exact Nat.le_refl _), hYl]; simp [Lib.byteCells, hx]))
    rw [← Lib.size_eq] at hUS
    clear hY hM
    go_enter Try.func63, Try.ntmps63
    go_wp2_with fail
    go_ret
    have hb2 : Below w.heap.size (w.alloc (.cells M 5)) ((w.alloc (.cells M 5)).setRow w.heap.size Y) := ⟨rfl, rfl, rfl, by simp, fun k hk => setRow_other _ _ _ _ (by omega)⟩
    exact ⟨rfl, Lib.below_freeze ((below_alloc w _).trans hb2) (p := ⟨w.heap.size, 0, none⟩) (Nat.le_refl _) _⟩
theorem clone_any (s : ByteArray) (hs : s.size ≤ 4096) (w : World) :
    Calls Try.prog 43 #[.string s] w fun e w' => e = .returned (.string s) ∧ Below w.heap.size w w' := by
  have C := Lib.hid (sclone_any s hs)
  clear hs
  go_enter Try.func43, Try.ntmps43
  go_wp2_with (go_at_call 63; refine (C.out _).mono ?_; rintro e w1 ⟨rfl, hb⟩; have HB := Lib.hid hb; clear hb)
  go_ret
  exact ⟨rfl, HB.out⟩
end Go.Proofs.Ytmopflcaeecgcaa
namespace Go.Proofs.Ytmopflcaeecgcaa
open Go Go.RowKit Go.Maps
set_option linter.unusedVariables false
set_option linter.unusedSimpArgs false
set_option maxRecDepth 100000
section
variable {p : HPar} {w0 w w' : World} {P0 P U T T' : Nat → Prop} {s s' : HSt} {mb N N' : Nat} {D D' : DataW Value} {bl bl' : Nat → Nat}
theorem find_all {es : List Ent} {key : ByteArray} (hf : findE es key = none) : ∀ e, e ∈ es → e.key ≠ key := fun e he => by
  obtain ⟨i, hi, rfl⟩ := List.getElem_of_mem he
  exact keyB_no.1 (findE_none_key hf (List.getElem?_eq_getElem hi))
theorem find_eq {es : List Ent} {key : ByteArray} {i : Nat} {e : Ent} (hf : findE es key = some i) (he : es[i]? = some e) : e.key = key := keyB_iff.1 (find_key hf he)
theorem keepsF (w : World) : Keeps (fun _ => False) w w := Keeps.refl _ _
theorem PG.look_no (h : PG p w0 P0 s T mb N D bl w) (key : ByteArray) (hks : key.size ≤ maxLen) (hf : findE s.es key = none) :
    Calls Try.prog 21 #[tp p.x, .string key] w fun e w' => e = .returned (.int .u64 0) ∧ w = w' := by
  have CG := Lib.hid (gone_no h)
  have c5 : w.cell? ⟨p.x, 5, none⟩ = some (.map (some mb)) := h.map.cell 5
  have lk := (h.look hks).2 (find_all hf)
  clear h hf hks
  go_enter Try.func21, Try.ntmps21
  go_wp2_with (go_at_call 39; refine CG.out.mono ?_; rintro e w1 ⟨rfl, rfl⟩)
  go_ret
  exact ⟨rfl, rfl⟩
theorem PG.look_yes (h : PG p w0 P0 s T mb N D bl w) (ha : Apart s.es) (hc : s.clock < 1000000) (key : ByteArray) (hks : key.size ≤ maxLen) (i : Nat) (hf : findE s.es key = some i) (e : Ent) (he : s.es[i]? = some e) :
    Calls Try.prog 21 #[tp p.x, .string key] w fun e' w' => e' = .returned (.int .u64 (addr e.n 0)) ∧ PG p w0 P0 (s.use i) T mb N D bl w' := by
  have hm := List.mem_of_getElem? he
  have CG := Lib.hid (gone_no h)
  have CU := Lib.hid (h.use ha i e he hc)
  have c5 : w.cell? ⟨p.x, 5, none⟩ = some (.map (some mb)) := h.map.cell 5
  have lk := (h.look hks).1 e hm (find_eq hf he)
  have HU : Hid ({ e with used := s.clock + 1 } ∈ (s.use i).es) := List.mem_of_getElem? (setUsed_get (u := s.clock + 1) he)
  clear h hf hks hc he hm
  go_enter Try.func21, Try.ntmps21
  go_wp2_with (first
    | (go_at_call 39; refine CG.out.mono ?_; rintro e' w1 ⟨rfl, rfl⟩)
    | (go_at_call 44; refine CU.out.mono ?_; rintro e' w1 ⟨rfl, h1⟩; have d0 : w1.cell? ⟨bl e.n, 0, none⟩ = some (.int .u64 (addr e.n 0)) := (h1.ent _ HU.out).cell 0; have H1 := Lib.hid h1; clear h1))
  go_ret
  exact ⟨rfl, H1.out⟩
theorem PO.look_no (h : PO p w0 P0 s T w) (key : ByteArray) :
    Calls Try.prog 21 #[tp p.x, .string key] w fun e w' => e = .returned (.int .u64 0) ∧ w = w' := by
  have CG := Lib.hid (gone_yes h)
  clear h
  go_enter Try.func21, Try.ntmps21
  go_wp2_with (go_at_call 39; refine CG.out.mono ?_; rintro e w1 ⟨rfl, rfl⟩)
  go_ret
  exact ⟨rfl, rfl⟩
theorem PO.del_no (h : PO p w0 P0 s T w) (key : ByteArray) :
    Calls Try.prog 23 #[tp p.x, .string key] w fun e w' => e = .returned (.int .i64 1) ∧ w = w' := by
  have CG := Lib.hid (gone_yes h)
  clear h
  go_enter Try.func23, Try.ntmps23
  go_wp2_with (go_at_call 39; refine CG.out.mono ?_; rintro e w1 ⟨rfl, rfl⟩)
  go_ret
  exact ⟨rfl, rfl⟩
theorem PG.del_bad (h : PG p w0 P0 s T mb N D bl w) (key : ByteArray) (hk : key.size ≠ p.key) :
    Calls Try.prog 23 #[tp p.x, .string key] w fun e w' => e = .returned (.int .i64 1) ∧ w = w' := by
  have CG := Lib.hid (gone_no h)
  have c2 : w.cell? ⟨p.x, 2, none⟩ = some (.int .i64 p.key) := h.map.cell 2
  have b1 : ((key.size : Int) != (p.key : Int)) = true := by simp; omega
  clear h hk
  go_enter Try.func23, Try.ntmps23
  go_wp2_with (go_at_call 39; refine CG.out.mono ?_; rintro e w1 ⟨rfl, rfl⟩)
  go_ret
  exact ⟨rfl, rfl⟩
theorem PG.del_none (h : PG p w0 P0 s T mb N D bl w) (key : ByteArray) (hk : key.size = p.key) (hks : key.size ≤ maxLen) (hf : findE s.es key = none) :
    Calls Try.prog 23 #[tp p.x, .string key] w fun e w' => e = .returned (.int .i64 4) ∧ w = w' := by
  have CG := Lib.hid (gone_no h)
  have c2 : w.cell? ⟨p.x, 2, none⟩ = some (.int .i64 p.key) := h.map.cell 2
  have c5 : w.cell? ⟨p.x, 5, none⟩ = some (.map (some mb)) := h.map.cell 5
  have lk := (h.look hks).2 (find_all hf)
  have b1 : ((key.size : Int) != (p.key : Int)) = false := by simp; omega
  clear h hk hks hf
  go_enter Try.func23, Try.ntmps23
  go_wp2_with (go_at_call 39; refine CG.out.mono ?_; rintro e w1 ⟨rfl, rfl⟩)
  go_ret
  exact ⟨rfl, rfl⟩
theorem PG.del_yes (h : PG p w0 P0 s T mb N D bl w) (ha : Apart s.es) (key : ByteArray) (hk : key.size = p.key) (hks : key.size ≤ maxLen) (i : Nat) (hf : findE s.es key = some i) (e : Ent) (he : s.es[i]? = some e) (q : RV) (hq : s.m.vs e.n = some q) (hr : q.2.2 = false) :
    Calls Try.prog 23 #[tp p.x, .string key] w fun e' w' => e' = .returned (.int .i64 0) ∧ ∃ T', PG p w0 P0 (s.cut i e q) T' mb N (D.del (litS e.key)) bl w' := by
  have hm := List.mem_of_getElem? he
  have CG := Lib.hid (gone_no h)
  obtain rfl := find_eq hf he
  have CD := Lib.hid (h.drop ha i e he hks q hq hr)
  have c2 : w.cell? ⟨p.x, 2, none⟩ = some (.int .i64 p.key) := h.map.cell 2
  have c5 : w.cell? ⟨p.x, 5, none⟩ = some (.map (some mb)) := h.map.cell 5
  have lk := (h.look hks).1 e hm rfl
  have b1 : ((e.key.size : Int) != (p.key : Int)) = false := by simp; omega
  clear h hk hks hf hq hr hm he ha
  go_enter Try.func23, Try.ntmps23
  go_wp2_with (first
    | (go_at_call 39; refine CG.out.mono ?_; rintro e' w1 ⟨rfl, rfl⟩)
    | (go_at_call 46; refine CD.out.mono ?_; rintro e' w1 ⟨rfl, h1⟩; have H1 := Lib.hid h1; clear h1))
  go_ret
  exact ⟨rfl, H1.out⟩
theorem PG.len (h : PG p w0 P0 s T mb N D bl w) : Calls Try.prog 14 #[tp p.x] w fun e w' => e = .returned (.int .i64 s.es.length) ∧ w = w' := by
  have c5 : w.cell? ⟨p.x, 5, none⟩ = some (.map (some mb)) := h.map.cell 5
  have hl : ∀ ty, (Builtin.len_ #[entriesT] ty #[.map (some mb)]).run Try.prog w = .ok (.int .i64 (s.es.length : Int)) w := fun ty => by rw [← h.dat.size]; exact h.own.len Try.underlying72 ty
  clear h
  go_enter Try.func14, Try.ntmps14
  go_wp2_with fail
  go_ret
  exact ⟨rfl, rfl⟩
theorem PO.len (h : PO p w0 P0 s T w) : Calls Try.prog 14 #[tp p.x] w fun e w' => e = .returned (.int .i64 0) ∧ w = w' := by
  have c5 : w.cell? ⟨p.x, 5, none⟩ = some (.map none) := h.map.cell 5
  have hl : ∀ ty, (Builtin.len_ #[entriesT] ty #[.map none]).run Try.prog w = .ok (.int .i64 0) w := fun ty => Maps.len_nil Try.underlying72 ty
  clear h
  go_enter Try.func14, Try.ntmps14
  go_wp2_with fail
  go_ret
  exact ⟨rfl, rfl⟩
theorem least_next (ho : HOk p s) (key key' : ByteArray) (hk : key' = if key.size = p.key then key else ⟨#[]⟩) {o : Option ByteArray} (h : Least (fun k => gtS k key' = true) (fun e => e ∈ s.es) o) : o = nextTo p.key s.es key s.es.length := by
  refine Least.eq (P := fun k => key.size ≠ p.key ∨ gtS k key = true) (S := fun e => e ∈ s.es) ?_ (nextTo_all p.key s.es key)
  have g : ∀ e, e ∈ s.es → (gtS e.key key' = true ↔ (key.size ≠ p.key ∨ gtS e.key key = true)) := fun e he => by
    by_cases hz : key.size = p.key
    · rw [hk, if_pos hz]; simp [hz]
    · rw [hk, if_neg hz]
      have := gtS_empty (a := e.key) (by rw [(ho.of_mem he).2.1]; have := ho.par.k1; omega)
      simp [hz, this]
  refine ⟨fun h0 e he hp => h.no h0 e he ((g e he).2 hp), fun k hk' => ?_⟩
  obtain ⟨⟨e, he, rfl, hp⟩, h2⟩ := h.yes k hk'
  exact ⟨⟨e, he, rfl, (g e he).1 hp⟩, fun e' he' hp' => h2 e' he' ((g e' he').2 hp')⟩
theorem key_len {k : ByteArray} (ho : HOk p s) {key : ByteArray} (hn : nextTo p.key s.es key s.es.length = some k) : k.size ≤ 4096 := by
  obtain ⟨⟨e, he, rfl, _⟩, _⟩ := (nextTo_all p.key s.es key).yes k hn
  rw [(ho.of_mem he).2.1]
  have := ho.par.k2
  omega
set_option maxHeartbeats 2000000 in
theorem PG.next (h : PG p w0 P0 s T mb N D bl w) (ho : HOk p s) (key : ByteArray) :
    Calls Try.prog 20 #[tp p.x, .string key] w fun e w' => e = nextE p s key ∧ PG p w0 P0 s T mb N D bl w' := by
  have c2 : w.cell? ⟨p.x, 2, none⟩ = some (.int .i64 p.key) := h.map.cell 2
  have c5 : w.cell? ⟨p.x, 5, none⟩ = some (.map (some mb)) := h.map.cell 5
  obtain ⟨key', hk⟩ : ∃ key' : ByteArray, key' = if key.size = p.key then key else ⟨#[]⟩ := ⟨_, rfl⟩
  have CA : Hid (Calls Try.prog 42 #[.map (some mb), .string key'] w fun e w' => e = aboveA (nextTo p.key s.es key s.es.length) ∧ PG p w0 P0 s T mb N D bl w') := by
    refine (h.above ho key').mono ?_
    rintro e w' ⟨⟨o, h1, rfl⟩, kk⟩
    exact ⟨by rw [least_next ho key key' hk h1], h.quiet kk⟩
  have HL := Lib.hid (fun k (hn : nextTo p.key s.es key s.es.length = some k) w1 => clone_any k (key_len ho hn) w1)
  clear h ho
  unfold nextE
  generalize nextTo p.key s.es key s.es.length = o at CA HL
  by_cases hz : key.size = p.key
  · rw [if_pos hz] at hk
    subst hk
    have b1 : ((key'.size : Int) != (p.key : Int)) = false := by simp; omega
    clear hz
    rcases o with _ | k
    · go_enter Try.func20, Try.ntmps20
      unfold aboveA at CA
      go_wp2_with (go_at_call 42; refine CA.out.mono ?_; rintro e w1 ⟨rfl, h1⟩; have H1 := Lib.hid h1; clear h1)
      go_ret2
      exact ⟨rfl, H1.out⟩
    · have HC := Lib.hid (HL.out k rfl)
      clear HL
      go_enter Try.func20, Try.ntmps20
      unfold aboveA at CA
      rw [show (some k).getD ⟨#[]⟩ = k from rfl] at CA
      go_wp2_with (first
        | (go_at_call 42; refine CA.out.mono ?_; rintro e w1 ⟨rfl, h1⟩; have H1 := Lib.hid h1; clear h1)
        | (go_at_call 43; refine (HC.out _).mono ?_; rintro e w2 ⟨rfl, hb⟩; have H2 := Lib.hid (H1.out.quiet (keeps_grow hb)); clear hb))
      go_ret2
      exact ⟨rfl, H2.out⟩
  · rw [if_neg hz] at hk
    subst hk
    have b1 : ((key.size : Int) != (p.key : Int)) = true := by simp; omega
    clear hz
    rcases o with _ | k
    · go_enter Try.func20, Try.ntmps20
      unfold aboveA at CA
      go_wp2_with (go_at_call 42; refine CA.out.mono ?_; rintro e w1 ⟨rfl, h1⟩; have H1 := Lib.hid h1; clear h1)
      go_ret2
      exact ⟨rfl, H1.out⟩
    · have HC := Lib.hid (HL.out k rfl)
      clear HL
      go_enter Try.func20, Try.ntmps20
      unfold aboveA at CA
      rw [show (some k).getD ⟨#[]⟩ = k from rfl] at CA
      go_wp2_with (first
        | (go_at_call 42; refine CA.out.mono ?_; rintro e w1 ⟨rfl, h1⟩; have H1 := Lib.hid h1; clear h1)
        | (go_at_call 43; refine (HC.out _).mono ?_; rintro e w2 ⟨rfl, hb⟩; have H2 := Lib.hid (H1.out.quiet (keeps_grow hb)); clear hb))
      go_ret2
      exact ⟨rfl, H2.out⟩
theorem PO.next (h : PO p w0 P0 s T w) (ho : HOk p s) (key : ByteArray) :
    Calls Try.prog 20 #[tp p.x, .string key] w fun e w' => e = nextE p s key ∧ PO p w0 P0 s T w' := by
  have c2 : w.cell? ⟨p.x, 2, none⟩ = some (.int .i64 0) := h.map.cell 2
  have c5 : w.cell? ⟨p.x, 5, none⟩ = some (.map none) := h.map.cell 5
  have e0 : nextE p s key = nextA none := by
    unfold nextE
    rw [ho.gone h.gone]; rfl
  rw [e0]
  have CA := Lib.hid (fun key' => above_nil key' w)
  have H := Lib.hid h
  clear h ho e0
  unfold aboveA at CA
  by_cases hz : key.size = 0
  · have b1 : ((key.size : Int) != 0) = false := by rw [hz]; rfl
    clear hz
    go_enter Try.func20, Try.ntmps20
    go_wp2_with (go_at_call 42; refine (CA.out _).mono ?_; rintro e w1 ⟨rfl, h1⟩; have H1 := Lib.hid (H.out.quiet h1); clear h1)
    go_ret2
    exact ⟨rfl, H1.out⟩
  · have b1 : ((key.size : Int) != 0) = true := by rw [bne_iff_ne]; omega
    clear hz
    go_enter Try.func20, Try.ntmps20
    go_wp2_with (go_at_call 42; refine (CA.out _).mono ?_; rintro e w1 ⟨rfl, h1⟩; have H1 := Lib.hid (H.out.quiet h1); clear h1)
    go_ret2
    exact ⟨rfl, H1.out⟩
end
end Go.Proofs.Ytmopflcaeecgcaa
namespace Go.Proofs.Ytmopflcaeecgcaa
open Go Go.RowKit Go.Maps
set_option linter.unusedVariables false
set_option linter.unusedSimpArgs false
set_option maxRecDepth 100000
section
variable {p : HPar} {w0 w w1 w2 w' : World} {P0 P U T T' : Nat → Prop} {s s' : HSt} {mb N N' : Nat} {D D' : DataW Value} {bl bl' : Nat → Nat}
theorem Apart.push {es : List Ent} (ha : Apart es) (key : ByteArray) (n : Nat) (hk : ∀ e, e ∈ es → e.key ≠ key) (hn : ∀ e, e ∈ es → e.n ≠ n) (hu : ∀ e, e ∈ es → e.used ≠ 0) : Apart (es ++ [⟨key, n, 0⟩]) := by
  have g : ∀ e e', e ∈ es ++ [(⟨key, n, 0⟩ : Ent)] → e' ∈ es ++ [(⟨key, n, 0⟩ : Ent)] → ∀ (C : Ent → Ent → Prop), (∀ a b, C a b → C b a) → (∀ a b, a ∈ es → b ∈ es → C a b → a = b) → (∀ a, a ∈ es → ¬ C a ⟨key, n, 0⟩) → C e e' → e = e' := by
    intro e e' he he' C hs h1 h2 hc
    rcases List.mem_append.1 he with h3 | h3 <;> rcases List.mem_append.1 he' with h4 | h4
    · exact h1 e e' h3 h4 hc
    · simp at h4; subst h4; exact absurd hc (h2 e h3)
    · simp at h3; subst h3; exact absurd (hs _ _ hc) (h2 e' h4)
    · simp at h3 h4; rw [h3, h4]
  refine ⟨fun i j a b ha' hb' hij => ?_, fun e e' he he' hc => g e e' he he' (fun a b => a.key = b.key) (fun a b h => h.symm) ha.key (fun a h1 h2 => hk a h1 h2) hc, fun e e' he he' hc => g e e' he he' (fun a b => a.n = b.n) (fun a b h => h.symm) ha.n (fun a h1 h2 => hn a h1 h2) hc, fun e e' he he' hc => g e e' he he' (fun a b => a.used = b.used) (fun a b h => h.symm) ha.used (fun a h1 h2 => hu a h1 h2) hc⟩
  have at_ : ∀ {k : Nat} {x : Ent}, (es ++ [(⟨key, n, 0⟩ : Ent)])[k]? = some x → es[k]? = some x ∨ (k = es.length ∧ x = ⟨key, n, 0⟩) := by
    intro k x hx
    rcases Nat.lt_or_ge k es.length with h | h
    · rw [List.getElem?_append_left h] at hx; exact .inl hx
    · rw [List.getElem?_append_right h] at hx
      have hk0 : k - es.length = 0 := by
        have := (List.getElem?_eq_some_iff.1 hx).1
        simp at this; omega
      rw [hk0] at hx
      simp at hx
      exact .inr ⟨by omega, hx.symm⟩
  rcases at_ ha' with h1 | ⟨h1, rfl⟩ <;> rcases at_ hb' with h2 | ⟨h2, rfl⟩
  · exact ha.at_ i j a b h1 h2 hij
  · exact hk a (List.mem_of_getElem? h1)
  · exact fun e => hk b (List.mem_of_getElem? h2) e.symm
  · omega
/-- A new entry in a block of its own has come into the map. -/
theorem PG.came (h : PG p w0 P0 s T mb N D bl w) (ho : HOk p s) (key : ByteArray) (n : Nat) (hk : ∀ e, e ∈ s.es → e.key ≠ key) (hn : ∀ e, e ∈ s.es → e.n ≠ n)
    (hb : Below w.heap.size (w.alloc (.cells (enC n 0) entryT)) w1 ∨ Below (w.heap.size + 1) (w.alloc (.cells (enC n 0) entryT)) w1) (hown : OwnsE w2 mb N' (D.put (litS key) (held w.heap.size))) (hg : w1.grownBy w2 (some mb)) (hb1 : Blk w1 w.heap.size entryT (enC n 0)) :
    PG p w0 P0 { s with es := s.es ++ [⟨key, n, 0⟩] } T mb N' (D.put (litS key) (held w.heap.size)) (upb bl n w.heap.size) w2 := by
  have k0 : Keeps (fun _ => False) w w1 := by
    have k1 : Below w.heap.size w w1 := by
      rcases hb with hb | hb
      · exact (below_alloc w _).trans hb
      · exact (below_alloc w _).trans (hb.mono (Nat.le_succ _))
    exact keeps_grow k1
  have kk : Keeps (fun b => b = mb) w w2 := (k0.mono fun _ h => h.elim).grown hg fun k hk => by cases hk; exact .inl rfl
  have hmb : mb < w.heap.size := h.own.lt
  refine h.local_ (s' := { s with es := s.es ++ [⟨key, n, 0⟩] }) (U := fun b => b = mb) rfl rfl kk ?_ (h.map.keeps kk (map_ne h.own h.map)) hown (h.dat.push h.own.isMap (h.own.tidy lawS) key n w.heap.size hk hn 0) ?_ ?_ ?_
  · rintro b rfl
    exact ⟨h.tm, h.mbp⟩
  · intro e he
    rcases List.mem_append.1 he with h1 | h1
    · rw [upb_other _ _ (hn e h1)]
      exact (h.ent e h1).keeps kk (map_ne h.own (h.ent e h1))
    · simp at h1
      subst h1
      rw [upb_same]
      exact (hg.block w.heap.size hb1.lt (by simp; omega)).trans hb1
  · intro e he
    rcases List.mem_append.1 he with h1 | h1
    · rw [upb_other _ _ (hn e h1)]
      exact .inr ⟨e, h1, rfl⟩
    · simp at h1
      subst h1
      rw [upb_same]
      exact .inl (Nat.le_refl _)
  · intro e e' he he' hbe
    have old : ∀ x, x ∈ s.es → upb bl n w.heap.size x.n = bl x.n ∧ bl x.n < w.heap.size := fun x hx => ⟨upb_other _ _ (hn x hx), (h.ent x hx).lt⟩
    rcases List.mem_append.1 he with h1 | h1 <;> rcases List.mem_append.1 he' with h2 | h2
    · rw [(old e h1).1, (old e' h2).1] at hbe
      exact h.inj e e' h1 h2 hbe
    · simp at h2; subst h2
      rw [(old e h1).1, upb_same] at hbe
      have := (old e h1).2; omega
    · simp at h1; subst h1
      rw [(old e' h2).1, upb_same] at hbe
      have := (old e' h2).2; omega
    · simp at h1 h2; rw [h1, h2]
theorem PG.lenRun (h : PG p w0 P0 s T mb N D bl w) (ty : TypeId) : (Builtin.len_ #[entriesT] ty #[.map (some mb)]).run Try.prog w = .ok (.int .i64 (s.es.length : Int)) w := by
  rw [← h.dat.size]; exact h.own.len Try.underlying72 ty
set_option maxHeartbeats 2000000 in
theorem PG.add_full (h : PG p w0 P0 s T mb N D bl w) (key value : ByteArray) (hn : s.es.length = p.mx) (hk1 : p.k = 1) :
    Calls Try.prog 41 #[tp p.x, .string key, .string value] w fun e w' => e = .returned (.int .i64 3) ∧ PG p w0 P0 s T mb N D bl w' := by
  have c1 : w.cell? ⟨p.x, 1, none⟩ = some (.int .i64 p.k) := h.map.cell 1
  rw [hk1] at c1
  have c4 : w.cell? ⟨p.x, 4, none⟩ = some (.int .i64 p.mx) := h.map.cell 4
  have c5 : w.cell? ⟨p.x, 5, none⟩ = some (.map (some mb)) := h.map.cell 5
  have hl : ∀ n ty, (Builtin.len_ #[entriesT] ty #[.map (some mb)]).run Try.prog (w.drewN n) = .ok (.int .i64 (s.es.length : Int)) (w.drewN n) := fun n ty => (h.drewN n).lenRun ty
  have g1 : ((s.es.length : Int) == (p.mx : Int)) = true := by simp; omega
  have H := Lib.hid h
  clear h hn hk1
  go_enter Try.func41, Try.ntmps41
  go_upto_region 1 with fail
  have S0 : Hid (∀ n, (w.drewN n).cell? ⟨p.x, 4, none⟩ = some (.int .i64 p.mx) ∧ (w.drewN n).cell? ⟨p.x, 5, none⟩ = some (.map (some mb)) ∧ (Builtin.len_ #[entriesT] 0 #[.map (some mb)]).run Try.prog (w.drewN n) = .ok (.int .i64 (s.es.length : Int)) (w.drewN n)) := fun n => ⟨c4, c5, hl n 0⟩
  go_quiet (fail)
  go_wp2_with fail
  go_ret
  exact ⟨rfl, H.out.drewN _⟩
end
end Go.Proofs.Ytmopflcaeecgcaa
