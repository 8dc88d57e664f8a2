/-
  Package ring's store: a record's bytes are read and written, in two pieces where they lie over the end.
-/
import Derived.Test.YtdihlmhipkcedaaGHead
import Derived.Laws.CopyRow
import Derived.Laws.IdiomCopy
namespace Go.Proofs.Ytdihlmhipkcedaa
open Go Go.RowKit Go.Maps
set_option linter.unusedVariables false
set_option linter.unusedSimpArgs false
set_option maxRecDepth 100000
noncomputable abbrev copyR (ty : TypeId) (d s : Value) (w : World) : Result Value := (Builtin.copy_ #[bytesT, bytesT] ty #[d, s]).run Try.prog w
noncomputable abbrev copyS (ty : TypeId) (d s : Value) (w : World) : Result Value := (Builtin.copy_ #[bytesT, 9] ty #[d, s]).run Try.prog w
theorem bytes_one (l : List UInt8) : ∀ v ∈ l.map byteV, v.oneCell' = true := by
  intro v hv
  obtain ⟨b, _, rfl⟩ := List.mem_map.1 hv
  rfl
theorem row_cells {w : World} {g : Nat} {bs : List UInt8} (h : Blk w g u8T (bs.map byteV).toArray) (p k : Nat) : ∀ j v, (((bs.drop p).take k).map byteV)[j]? = some v → w.cell? ((⟨g, p, none⟩ : Addr).add j) = some v := by
  intro j v hv
  rw [Go.WideShapes.add_plain, h.cell, List.getElem?_toArray]
  rw [List.getElem?_map, List.getElem?_take, List.getElem?_drop] at hv
  rw [List.getElem?_map]
  split at hv
  · exact hv
  · cases hv
/-- Bytes of one row over those of another. -/
theorem copy_bytes {w : World} {g b : Nat} {bs xs : List UInt8} (h : Blk w g u8T (bs.map byteV).toArray) (hb : Blk w b u8T (xs.map byteV).toArray) (p k o n c c' : Nat) (hk : k ≤ n) (hp : p + k ≤ bs.length) (ho : o + k ≤ xs.length) (hA : Addr) (hAe : 0 < k → hA = ⟨b, o, none⟩) (ty : TypeId) :
    ∃ w2, copyR ty (.slice (some hA) n c) (.slice (some ⟨g, p, none⟩) k c') w = .ok (goInt (k : Int)) w2 ∧ Blk w2 b u8T ((setAt xs o ((bs.drop p).take k)).map byteV).toArray ∧ Keeps (fun x => x = b) w w2 := by
  have hl : ((bs.drop p).take k).length = k := by rw [List.length_take, List.length_drop]; omega
  rcases Nat.eq_zero_or_pos k with rfl | h0
  · refine ⟨w, run_copy_none w _ _ ty _ _ _ _ _ _ _ Try.underlying53 size8 (Nat.min_eq_left (Nat.zero_le _)), ?_, Keeps.refl _ _⟩
    rw [List.take_zero, setAt_nil]
    exact hb
  · obtain rfl := hAe h0
    have hr := run_copy_row Try.prog w bytesT bytesT ty u8T b o n c ⟨g, p, none⟩ k c' (xs.map byteV).toArray u8T (((bs.drop p).take k).map byteV) Try.underlying53 size8 hb (by rw [List.length_map, hl]; exact (Nat.min_eq_left hk).symm) (row_cells h p k) (by rw [List.length_map, hl]; simpa using ho) (bytes_one _)
    rw [List.length_map, hl] at hr
    have e : (setAt xs o ((bs.drop p).take k)).map byteV = ((xs.map byteV).toArray.toList.take o ++ ((bs.drop p).take k).map byteV ++ (xs.map byteV).toArray.toList.drop (o + k)) := by
      simp only [setAt, List.map_append, List.map_take, List.map_drop, hl]
    refine ⟨_, hr, ?_, setRow_keeps _ _ _⟩
    rw [e]
    exact setRow_heap w b _ _ _ _ hb
theorem setAt_front (xs a : List UInt8) (h : a.length ≤ xs.length) : (setAt xs 0 a).drop a.length = xs.drop a.length := by simp [setAt]
theorem setAt_all (xs a b : List UInt8) (h : a.length + b.length = xs.length) : setAt (setAt xs 0 a) a.length b = a ++ b := by
  unfold setAt
  simp only [List.take_zero, List.nil_append, Nat.zero_add]
  rw [List.take_append_of_le_length (Nat.le_refl _), List.take_length, List.drop_append, List.drop_of_length_le (by omega), List.nil_append, List.drop_drop, List.drop_of_length_le (by omega), List.append_nil]
/-- The two copies of text. -/
theorem text_copies {w : World} {g b p n : Nat} {bs xs : List UInt8} (h : Blk w g u8T (bs.map byteV).toArray) (hb : Blk w b u8T (xs.map byteV).toArray) (hne : g ≠ b) (hx : xs.length = n) (hp : p < bs.length) (h1 : 1 ≤ n) (hn : n ≤ bs.length) (k r : Nat) (hk : min (p + n) bs.length - p = k) (hr : p + n - min (p + n) bs.length = r) (B : Nat) (hB : B ≤ w.heap.size) (hbB : B ≤ b) (ty : TypeId) :
    ∃ w2 w3, copyR ty (.slice (some ⟨b, 0, none⟩) n n) (.slice (some ⟨g, p, none⟩) k k) w = .ok (goInt (k : Int)) w2 ∧
      copyR ty (.slice (some ⟨b, if n = k then 0 else k, none⟩) (n - k) (n - k)) (.slice (some ⟨g, 0, none⟩) r r) w2 = .ok (goInt (r : Int)) w3 ∧
      Blk w3 b u8T (((bs.drop p).take k ++ bs.take r).map byteV).toArray ∧ Below B w w3 := by
  have hl : ((bs.drop p).take k).length = k := by rw [List.length_take, List.length_drop]; omega
  have hl2 : (bs.take r).length = r := by rw [List.length_take]; omega
  obtain ⟨w2, c1, b1, k1⟩ := copy_bytes h hb p k 0 n n k (by omega) (by omega) (by omega) ⟨b, 0, none⟩ (fun _ => rfl) ty
  have hs : (setAt xs 0 ((bs.drop p).take k)).length = xs.length := setAt_length _ _ _ (by omega)
  obtain ⟨w3, c2, b2, k2⟩ := copy_bytes (h.keeps k1 hne) b1 0 r k (n - k) (n - k) r (by omega) (by omega) (by omega) ⟨b, if n = k then 0 else k, none⟩ (fun h0 => by rw [if_neg (by omega)]) ty
  refine ⟨w2, w3, c1, c2, ?_, (k1.below (fun x hx => by omega) hB).trans (k2.below (fun x hx => by omega) (Nat.le_trans hB k1.size))⟩
  rw [List.drop_zero] at b2
  have e := setAt_all xs ((bs.drop p).take k) (bs.take r) (by omega)
  rw [hl] at e
  rw [e] at b2
  exact b2
theorem slice_rest (g k n : Nat) (hk : k ≤ n) (w : World) : (Instr.slice bytesT (.slice (some ⟨g, 0, none⟩) n n) (some (.int .i64 (k : Int))) none none).run Try.prog w = .ok (.slice (some ⟨g, if n = k then 0 else k, none⟩) (n - k) (n - k)) w := by
  rw [run_slice_l (ht := elemB2) (h0 := by omega) (h1 := by omega), sizeB2]
  by_cases h : n = k
  · simp [Result.andThen, sliced, Addr.add, h]
  · simp [Result.andThen, sliced, Addr.add, h]
    exact fun e => e.symm
theorem replicate_bytes (n : Nat) : Array.replicate n (Value.int .u8 0) = ((List.replicate n (0 : UInt8)).map byteV).toArray := by
  rw [List.map_replicate]
  apply Array.toList_inj.1
  simp [byteV]
theorem convert_row {w : World} {g n : Nat} {l : List UInt8} (h : Blk w g u8T (l.map byteV).toArray) (hl : l.length = n) : (convert bytesT 9 (.slice (some ⟨g, 0, none⟩) n n)).run Try.prog w = .ok (.string (bstr l)) w := by
  have := Lib.run_convert_window (P := Try.prog) w bytesT u8T 9 Try.underlying53 Try.underlying5 Try.underlying9 g 0 (bstr l) (fun i hi => by
    have hi' : i < l.length := by rw [← bstr_size]; exact hi
    rw [h.cell, List.getElem?_toArray, List.getElem?_map, Nat.zero_add, List.getElem?_eq_getElem hi']
    rfl) 0 n n (by rw [bstr_size]; omega)
  rw [bstr_extract, List.drop_zero, List.take_of_length_le (by omega)] at this
  exact this
theorem field_size (a b : Value) (w : World) : (Instr.field headT (.agg #[a, b]) 0).run Try.prog w = .ok a w := by kernel_rfl
section
variable {w : World} {g mx p size state : Nat} {bs : List UInt8}
set_option maxHeartbeats 1000000 in
theorem text_any (h : Blk w g u8T (bs.map byteV).toArray) (hl : bs.length = mx) (hp : p + 8 ≤ mx) (hm : mx ≤ 65536) (hh : (bs.drop p).take 8 = hb size state) (hs0 : 1 ≤ size) (hs : size ≤ mx) (ht : state < 256) :
    Calls Try.prog 21 #[rowV g mx, .int .i64 p] w fun e w' => e = .returned (.string (bstr (cyc bs (p + 8) size))) ∧ Below w.heap.size w w' := by
  have CH := Lib.hid (head_any h hl hp hm hh (by omega) ht)
  have hq : (p + 8) % mx < mx := Nat.mod_lt _ (by omega)
  have hcy := cyc_pieces (bs := bs) (a := p + 8) (n := size) (by omega) (by omega)
  have CB := Lib.hid (fun w => behind_any g p 8 mx (by omega) (by omega) (by omega) hm w)
  rw [hl] at hcy
  generalize (p + 8) % mx = q at *
  have CP := Lib.hid (fun w => pieces_any g q size mx (by omega) (by omega) (by omega) hm w)
  obtain ⟨k, hk⟩ : ∃ k, min (q + size) mx - q = k := ⟨_, rfl⟩
  obtain ⟨r, hr⟩ : ∃ r, q + size - min (q + size) mx = r := ⟨_, rfl⟩
  rw [hk, hr] at hcy CP
  have k1 : k ≤ size := by omega
  have MK := fun w => make_run size (by omega) w
  have SL := fun w b => slice_rest b k size k1 w
  have HC := Lib.hid (fun (w1 : World) (b : Nat) (hg1 : Blk w1 g u8T (bs.map byteV).toArray) (hb : Blk w1 b u8T ((List.replicate size (0 : UInt8)).map byteV).toArray) (hne : g ≠ b) (hB : w.heap.size ≤ w1.heap.size) (hbB : w.heap.size ≤ b) => text_copies (bs := bs) (p := q) hg1 hb hne (by simp) (by omega) hs0 (by omega) k r (by rw [hl]; exact hk) (by rw [hl]; exact hr) w.heap.size hB hbB 3)
  have HCV := Lib.hid (fun (w1 : World) (b : Nat) (hb : Blk w1 b u8T (((bs.drop q).take k ++ bs.take r).map byteV).toArray) => convert_row (n := size) hb (by rw [hcy]; exact cyc_length _ _ _))
  have HY := Lib.hid hcy
  rw [← hcy] at *
  generalize (bs.drop q).take k ++ bs.take r = out at *
  have H := Lib.hid h
  have G := Lib.hid h.lt
  clear h hh hk hr hq hcy HY
  generalize (if size = k then 0 else k) = of at *
  rw [replicate_bytes] at MK
  obtain ⟨Z, hZ⟩ : ∃ Z, ((List.replicate size (0 : UInt8)).map byteV).toArray = Z := ⟨_, rfl⟩
  rw [hZ] at MK
  have HZ := Lib.hid hZ
  clear hZ
  unfold headV at CH
  have HF := fun w => field_size (.int .i64 size) (.int .i64 state) w
  go_enter Try.func21, Try.ntmps21
  go_upto_region 3 with (first
    | (go_at_call 20; refine CH.out.mono ?_; rintro e w1 ⟨rfl, hb1⟩; have B1 := Lib.hid hb1; clear hb1)
    | (go_at_call 22; refine (CB.out _).mono ?_; rintro e w2 ⟨rfl, hw2⟩; obtain rfl := hw2.symm)
    | (go_at_call 33; refine (CP.out _).mono ?_; rintro e w3 ⟨rfl, m, hm3⟩; have B3 : Hid (Below w.heap.size w w3) := hm3 ▸ (below_then B1.out (below_alloc w1 _)).trans ((below_drewN _ m).mono (below_then B1.out (below_alloc w1 _)).size); have N3 : Hid (Blk w3 w1.heap.size u8T Z) := hm3 ▸ Blk.new w1 u8T Z; clear hm3))
  obtain ⟨w4, w5, c4, c5, b5, bel⟩ := HC.out w3 w1.heap.size (blk_below H.out B3.out) (by rw [HZ.out]; exact N3.out) (fun e => by have := G.out; have := B1.out.size; omega) B3.out.size B1.out.size
  have cv := HCV.out w5 _ b5
  have BB := Lib.hid (B3.out.trans bel)
  clear b5 bel
  go_wp2_with fail
  go_ret
  exact ⟨rfl, BB.out⟩
end
/-- A text over a row's bytes, as much of it as the slice takes. -/
theorem copy_text {w : World} {b : Nat} {xs l : List UInt8} (hb : Blk w b u8T (xs.map byteV).toArray) (o n c k : Nat) (hk : min l.length n = k) (ho : o + k ≤ xs.length) (hA : Addr) (hAe : 0 < k → hA = ⟨b, o, none⟩) (ty : TypeId) :
    ∃ w2, copyS ty (.slice (some hA) n c) (.string (bstr l)) w = .ok (goInt (k : Int)) w2 ∧ Blk w2 b u8T ((setAt xs o (l.take k)).map byteV).toArray ∧ Keeps (fun x => x = b) w w2 := by
  have hsz : (bstr l).size = l.length := bstr_size l
  have hl : (l.take k).length = k := by rw [List.length_take]; omega
  have hld : ∀ x : Addr, (loadCells x 0).run Try.prog w = .ok #[] w := fun x => by simpa using run_loadCells_list (P := Try.prog) w x [] (by simp)
  obtain ⟨i, hi, hz, hs1, hby⟩ := info_parts info8
  have htk : List.take k (List.map (fun b : UInt8 => Value.int IntKind.u8 (b.toNat : Int)) (bstr l).data.toList) = (l.take k).map byteV := by
    rw [← List.map_take]
    rfl
  rcases Nat.eq_zero_or_pos k with rfl | h0
  · refine ⟨w, ?_, by rw [List.take_zero, setAt_nil]; exact hb, Keeps.refl _ _⟩
    simp [copyS, Builtin.copy_, run_underlying Try.underlying53, Builtin.lenOf, Builtin.firstCells, sizeOf, typeInfo, hi, hs1, hsz, show Nat.min l.length n = 0 from hk, storeCells]
  · obtain rfl := hAe h0
    have hst := run_storeCells_at Try.prog b o u8T ((l.take k).map byteV) 0 (xs.map byteV).toArray w hb (by rw [List.length_map, hl]; simpa using ho) (bytes_one _)
    rw [List.length_map, hl] at hst
    simp only [Nat.add_zero] at hst
    have e : (setAt xs o (l.take k)).map byteV = ((xs.map byteV).toArray.toList.take o ++ (l.take k).map byteV ++ (xs.map byteV).toArray.toList.drop (o + k)) := by
      simp only [setAt, List.map_append, List.map_take, List.map_drop, hl]
    refine ⟨w.setRow b (((setAt xs o (l.take k)).map byteV).toArray), ?_, setRow_heap w b _ _ _ _ hb, setRow_keeps _ _ _⟩
    rw [e]
    simp [copyS, Builtin.copy_, run_underlying Try.underlying53, Builtin.lenOf, Builtin.firstCells, sizeOf, typeInfo, hi, hs1, hsz, show Nat.min l.length n = k from hk]
    rw [htk, hst]
    simp [Result.andThen]
theorem text_rest (l : List UInt8) (k : Nat) (hk : k ≤ l.length) (w : World) : (Instr.slice 9 (.string (bstr l)) (some (.int .i64 (k : Int))) none none).run Try.prog w = .ok (.string (bstr (l.drop k))) w := by
  rw [run_slice_string_l (ht := Try.underlying9) (h0 := by omega) (h1 := by rw [bstr_size]; omega)]
  have e := bstr_extract l k (l.length - k)
  rw [show k + (l.length - k) = (bstr l).size by rw [bstr_size]; omega] at e
  rw [show ((k : Int)).toNat = k by omega, e, List.take_of_length_le (by rw [List.length_drop]; exact Nat.le_refl _)]
section
variable {w : World} {g mx p : Nat} {bs l : List UInt8}
set_option maxHeartbeats 1000000 in
theorem setText_any (h : Blk w g u8T (bs.map byteV).toArray) (hl : bs.length = mx) (hp : p ≤ mx) (hm : mx ≤ 65536) (h0 : 8 ≤ mx) (h1 : 1 ≤ l.length) (hn : l.length ≤ mx) :
    Calls Try.prog 29 #[rowV g mx, .int .i64 p, .string (bstr l)] w fun e w' => e = .returned (.tuple #[]) ∧ Blk w' g u8T ((put2 bs ((p + 8) % mx) l).map byteV).toArray ∧ Keeps (fun b => b = g) w w' := by
  have hq : (p + 8) % mx < mx := Nat.mod_lt _ (by omega)
  have CB := Lib.hid (fun w => behind_any g p 8 mx (by omega) (by omega) (by omega) hm w)
  generalize (p + 8) % mx = q at *
  have hsz : (bstr l).size = l.length := bstr_size l
  have CP := Lib.hid (fun w => pieces_any g q l.length mx (by omega) h1 hn hm w)
  obtain ⟨k, hk⟩ : ∃ k, min (q + l.length) mx - q = k := ⟨_, rfl⟩
  obtain ⟨r, hr⟩ : ∃ r, q + l.length - min (q + l.length) mx = r := ⟨_, rfl⟩
  rw [hk, hr] at CP
  have SL := fun w => text_rest l k (by omega) w
  have hkk : k = min l.length (mx - q) := by omega
  have HC : Hid (∀ w1, Blk w1 g u8T (bs.map byteV).toArray → ∃ w2 w3, copyS 3 (.slice (some ⟨g, q, none⟩) k k) (.string (bstr l)) w1 = .ok (goInt (k : Int)) w2 ∧ copyS 3 (.slice (some ⟨g, 0, none⟩) r r) (.string (bstr (l.drop k))) w2 = .ok (goInt (r : Int)) w3 ∧ Blk w3 g u8T ((put2 bs q l).map byteV).toArray ∧ Keeps (fun b => b = g) w1 w3) := by
    intro w1 hb
    have f1 : q + (l.take k).length ≤ bs.length := by rw [List.length_take]; omega
    obtain ⟨w2, c1, b1, k1⟩ := copy_text (l := l) hb q k k k (by omega) (by omega) ⟨g, q, none⟩ (fun _ => rfl) 3
    obtain ⟨w3, c2, b2, k2⟩ := copy_text (l := l.drop k) b1 0 r r r (by rw [List.length_drop]; omega) (by rw [setAt_length _ _ _ f1]; omega) ⟨g, 0, none⟩ (fun _ => rfl) 3
    refine ⟨w2, w3, c1, c2, ?_, k1.trans (k2.mono fun _ h => .inl h)⟩
    rw [List.take_of_length_le (l := l.drop k) (by rw [List.length_drop]; omega)] at b2
    have e1 : l.take (bs.length - q) = l.take k := by
      rw [hl, hkk]
      rcases Nat.le_total l.length (mx - q) with hc | hc
      · rw [Nat.min_eq_left hc, List.take_of_length_le hc, List.take_of_length_le (Nat.le_refl _)]
      · rw [Nat.min_eq_right hc]
    have e2 : l.drop (bs.length - q) = l.drop k := by
      rw [hl, hkk]
      rcases Nat.le_total l.length (mx - q) with hc | hc
      · rw [Nat.min_eq_left hc, List.drop_of_length_le hc, List.drop_of_length_le (Nat.le_refl _)]
      · rw [Nat.min_eq_right hc]
    unfold put2
    rw [e1, e2]
    exact b2
  have H := Lib.hid h
  have hsz2 : ((bstr l).size : Int) = (l.length : Int) := by omega
  clear h hkk hk hr
  generalize put2 bs q l = out at *
  generalize bstr (l.drop k) = l2 at *
  generalize bstr l = l1 at *
  generalize l.length = n at *
  go_enter Try.func29, Try.ntmps29
  go_upto_region 1 with (first
    | (go_at_call 22; refine (CB.out _).mono ?_; rintro e w2 ⟨rfl, hw2⟩; obtain rfl := hw2.symm)
    | (go_at_call 33; refine (CP.out _).mono ?_; rintro e w3 ⟨rfl, m, hm3⟩; have B3 : Hid (Below w.heap.size w w3) := hm3 ▸ below_drewN w m; clear hm3))
  obtain ⟨w4, w5, c4, c5, b5, k5⟩ := HC.out w3 (blk_below H.out B3.out)
  have BB := Lib.hid b5
  have KK := Lib.hid k5
  clear b5 k5
  go_wp2_with fail
  go_end0
  exact ⟨rfl, BB.out, ((keeps_grow B3.out).mono fun _ h => h.elim).trans (KK.out.mono fun _ h => .inl h)⟩
end
end Go.Proofs.Ytdihlmhipkcedaa
