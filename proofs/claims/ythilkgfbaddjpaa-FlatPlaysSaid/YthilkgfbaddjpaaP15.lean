/-
  Both News that answer a map; two memories side by side. FlatPlays: the two News as one; the walk. The law FlatPlays, walked.
-/
import Derived.Test.YthilkgfbaddjpaaP14
import Derived.Test.YthilkgfbaddjpaaP12
namespace Go.Proofs.Ythilkgfbaddjpaa
open Go Go.RowKit Go.Maps
set_option linter.unusedVariables false
set_option linter.unusedSimpArgs false
set_option maxRecDepth 100000
section
variable {w : World} {S : Nat → Prop} {bm made fail : Nat} {st : Nat → Option RG} {rl : List Nat} {mv rv : Value}
set_option maxHeartbeats 1000000 in
theorem New_cpu2 (h : KM w S bm made fail st rl mv rv) (n : Nat) (hf : fail = 0 ∨ n < fail) (hmade : made + n ≤ 4095) (v mx : Nat) (h1 : 1 ≤ v) (h2 : v ≤ 4096) (h3 : 1 ≤ mx) (h4 : mx ≤ 4096) (h5 : 1 ≤ n) (h6 : n ≤ 8) (h7 : mx * wide v ≤ 1048576) :
    Calls Try.prog 12 #[.pointer (some ⟨bm, 0, none⟩), specV 6 4 v mx, .int .i64 n] w fun e w' => ∃ x g cc S' st' mv', e = .returned (.tuple #[.pointer (some ⟨x, 0, none⟩), .int .i64 0]) ∧ NewPost w S bm made fail st rl rv (mx * wide v) n (mapC bm 6 v mx) w' x (eachV (some ⟨g, 0, none⟩) n cc) S' st' mv' ∧ w.heap.size ≤ g ∧ g ≠ x ∧ ¬ S' g ∧ g < w'.heap.size ∧ ∀ i, i < n → w'.cell? ⟨g, i, none⟩ = some (.int .u64 (addr (made + 1 + i) 0)) := by
  obtain ⟨q, hq⟩ : ∃ q, mx * wide v = q := ⟨_, rfl⟩
  have hw1 : 1 ≤ wide v := by unfold wide; omega
  have hq1 : 1 ≤ q := by rw [← hq]; exact Nat.mul_pos (by omega) (by omega)
  have e0 : (mx : Int) * (wide v : Int) = (q : Int) := by rw [← hq]; simp
  have e3 : IntKind.i64.wrap ((mx : Int) * (wide v : Int)) = (q : Int) := by rw [e0]; exact IntWalk.i64_in _ (by omega)
  have CF := Lib.hid (fits_cpu v mx n h1 h2 h3 h4 (by omega) (by omega) h7)
  have CW := Lib.hid (width_any 6 4 mx v h2)
  have CA := Lib.hid (fun (W : World) (hk : KM W S bm made fail st rl mv rv) => allocs_ok hk n hf hmade q hq1 (by omega))
  have HK := Lib.hid h
  have HN : Hid (¬ S w.heap.size) := fun hs => Nat.lt_irrefl _ (h.lt _ hs)
  rw [hq]
  have H5 := Lib.hid h5
  have HB := Lib.hid (Blk.new w 23 #[.int .i64 6, .int .i64 4, .int .i64 v, .int .i64 mx])
  have B0 := Lib.hid (below_alloc w (.cells #[.int .i64 6, .int .i64 4, .int .i64 v, .int .i64 mx] 23))
  clear h hf hmade h1 h2 h3 h4 h5 h6 h7 hq hw1 hq1 e0
  generalize wide v = d at *
  go_enter Try.func12, Try.ntmps12
  go_upto_region 3 with (go_at_call 25; refine (CF.out _).mono ?_; rintro e w1 ⟨rfl, hb⟩; have B1 := Lib.hid (below_then B0.out hb); have HB1 := Lib.hid (blk_below HB.out hb); clear hb)
  have K1 := Lib.hid (HK.out.keeps (keeps_grow B1.out) (fun b _ hf => hf))
  have S1 : Hid (w1.cell? ⟨w.heap.size, 0, none⟩ = some (.int .i64 6) ∧ w1.cell? ⟨w.heap.size, 1, none⟩ = some (.int .i64 4) ∧ w1.cell? ⟨w.heap.size, 2, none⟩ = some (.int .i64 v) ∧ w1.cell? ⟨w.heap.size, 3, none⟩ = some (.int .i64 mx)) := ⟨HB1.out.cell 0, HB1.out.cell 1, HB1.out.cell 2, HB1.out.cell 3⟩
  clear B0 HB HK CF
  go_region_held3 (fun W => W.cell? ⟨w.heap.size, 0, none⟩ = some (.int .i64 6) ∧ W.cell? ⟨w.heap.size, 1, none⟩ = some (.int .i64 4) ∧ W.cell? ⟨w.heap.size, 2, none⟩ = some (.int .i64 v) ∧ W.cell? ⟨w.heap.size, 3, none⟩ = some (.int .i64 mx))
    (first | exact S1.out | exact S2.out | exact S3'.out)
    (first
      | (go_at_call 27; refine (regions_cpu _ _).mono ?_; rintro e wq ⟨rfl, rfl⟩)
      | (go_at_call 28; refine (CW.out _).mono ?_; rintro e w2 ⟨rfl, hb⟩; have B2 := Lib.hid (below_then (below_drew1 B1.out) hb); have HB2 := Lib.hid (blk_below (blk_drew HB1.out) hb); have K2 := Lib.hid (K1.out.keeps (keeps_grow (below_then (below_drew1 (Below.refl _ w1)) hb)) (fun b _ hf => hf)); have S2 : Hid (w2.cell? ⟨w.heap.size, 0, none⟩ = some (.int .i64 6) ∧ w2.cell? ⟨w.heap.size, 1, none⟩ = some (.int .i64 4) ∧ w2.cell? ⟨w.heap.size, 2, none⟩ = some (.int .i64 v) ∧ w2.cell? ⟨w.heap.size, 3, none⟩ = some (.int .i64 mx)) := ⟨HB2.out.cell 0, HB2.out.cell 1, HB2.out.cell 2, HB2.out.cell 3⟩; clear hb)
      | (go_at_call 26; refine (CA.out _ K2.out).mono ?_; rintro e w3 ⟨vv, S3, st3, mv3, rfl, ha⟩; have HA := Lib.hid ha; have HB3 := Lib.hid (HB2.out.keeps ha.keeps HN.out); have S3' : Hid (w3.cell? ⟨w.heap.size, 0, none⟩ = some (.int .i64 6) ∧ w3.cell? ⟨w.heap.size, 1, none⟩ = some (.int .i64 4) ∧ w3.cell? ⟨w.heap.size, 2, none⟩ = some (.int .i64 v) ∧ w3.cell? ⟨w.heap.size, 3, none⟩ = some (.int .i64 mx)) := ⟨HB3.out.cell 0, HB3.out.cell 1, HB3.out.cell 2, HB3.out.cell 3⟩; clear ha))
  obtain ⟨g, cc, cur, rfl, hg, hgb, hgc⟩ := own_any HA.out.row (by have := H5.out; omega)
  have GB : Hid (w2.heap.size ≤ g) := hg
  have NG : Hid (¬ S3 g) := HA.out.apart g rfl
  have HG := Lib.hid hgb
  have HGC := Lib.hid hgc
  have S4 : Hid (w3.cell? ⟨w.heap.size, 0, none⟩ = some (.int .i64 6) ∧ w3.cell? ⟨w.heap.size, 1, none⟩ = some (.int .i64 4) ∧ w3.cell? ⟨w.heap.size, 2, none⟩ = some (.int .i64 v) ∧ w3.cell? ⟨w.heap.size, 3, none⟩ = some (.int .i64 mx)) := ⟨HB3.out.cell 0, HB3.out.cell 1, HB3.out.cell 2, HB3.out.cell 3⟩
  have HB4 := Lib.hid (HB3.out.alloc (.cells (mapC bm 6 v mx (eachV (some ⟨g, 0, none⟩) n cc)) 77))
  have S5 : Hid ((w3.alloc (.cells (mapC bm 6 v mx (eachV (some ⟨g, 0, none⟩) n cc)) 77)).cell? ⟨w.heap.size, 0, none⟩ = some (.int .i64 6) ∧ (w3.alloc (.cells (mapC bm 6 v mx (eachV (some ⟨g, 0, none⟩) n cc)) 77)).cell? ⟨w.heap.size, 1, none⟩ = some (.int .i64 4) ∧ (w3.alloc (.cells (mapC bm 6 v mx (eachV (some ⟨g, 0, none⟩) n cc)) 77)).cell? ⟨w.heap.size, 2, none⟩ = some (.int .i64 v) ∧ (w3.alloc (.cells (mapC bm 6 v mx (eachV (some ⟨g, 0, none⟩) n cc)) 77)).cell? ⟨w.heap.size, 3, none⟩ = some (.int .i64 mx)) := ⟨HB4.out.cell 0, HB4.out.cell 1, HB4.out.cell 2, HB4.out.cell 3⟩
  have CL := Lib.hid (lay_cpu (some ⟨g, 0, none⟩) n cc w3.drew)
  clear hgb hgc S1 S2 S3' HB1 HB2 CW CA B1 K1
  go_upto_region 6 with fail
  go_region_held3 (fun W => W.cell? ⟨w.heap.size, 0, none⟩ = some (.int .i64 6) ∧ W.cell? ⟨w.heap.size, 1, none⟩ = some (.int .i64 4) ∧ W.cell? ⟨w.heap.size, 2, none⟩ = some (.int .i64 v) ∧ W.cell? ⟨w.heap.size, 3, none⟩ = some (.int .i64 mx))
    (first | exact S4.out | exact S5.out)
    (first
      | (go_at_call 29; refine CL.out.mono ?_; rintro e w4 ⟨rfl, rfl⟩))
  go_wp2_with fail
  go_ret2
  have kf : Keeps (fun _ => False) w3 (w3.alloc (.cells (mapC bm 6 v mx (eachV (some ⟨g, 0, none⟩) n cc)) 77)).drew := ((Keeps.refl _ _).alloc _).drew
  have kk : Keeps S w w3 := ((keeps_grow B2.out).mono fun _ hf => hf.elim).trans (HA.out.keeps.mono fun b hb => .inl hb)
  have h2 := B2.out.size
  have h3 := HA.out.keeps.size
  refine ⟨w3.heap.size, g, cc, S3, st3, mv3, rfl, ⟨HA.out.km.keeps kf (fun b _ hf => hf), blk_drew (Blk.new w3 _ _), fun hs => Nat.lt_irrefl _ (HA.out.km.lt _ hs), by omega, kk.trans (kf.mono fun _ hf => hf.elim),
    fun b hb => (HA.out.sub b hb).imp id fun h => by omega, HA.out.old, HA.out.new⟩, Nat.le_trans h2 GB.out, Nat.ne_of_lt HG.out.lt, NG.out, Nat.lt_of_lt_of_le HG.out.lt kf.size, fun i hi => ?_⟩
  refine (World.cell?_of_block (kf.block g HG.out.lt fun hf => hf)).trans (HGC.out i _ ?_)
  unfold firstsC
  rw [List.getElem?_map, List.getElem?_range hi]
  rfl
end
section
variable {w w' : World} {S T : Nat → Prop} {bm bx : Nat}
theorem NewPost.ks {f size n x : Nat} {rl : List Nat} {rv V mv' : Value} {cs : Value → Array Value} {S' : Nat → Prop} {st' : Nat → Option RG} (h : NewPost w S bm 0 f (fun _ => none) rl rv size n cs w' x V S' st' mv') : KS w S bm ⟨n, f - n, rng 0 n (zeros size)⟩ S' w' := by
  have hk := h.km
  rw [Nat.zero_add] at hk
  refine ⟨⟨_, _, _, _, hk, fun r => ?_⟩, h.keeps, h.sub⟩
  by_cases hn : 0 < r ∧ r ≤ n
  · obtain ⟨q, e, e1, e2, e3, _⟩ := h.new (r - 1) (by omega)
    rw [show 0 + 1 + (r - 1) = r by omega] at e
    rw [e]
    show some q.v = rng 0 n (zeros size) r
    rw [rng_in hn]
    simp [RG.v, e1, e2, e3, zeros]
  · rw [h.old r (by omega)]
    exact (rng_out hn).symm
/-- What New of flat leaves behind a map. -/
def NewOk (w : World) (S : Nat → Prop) (bm : Nat) (k : Int) (v mx n f x : Nat) (w' : World) : Prop :=
  ∃ S' V, KS w S bm ⟨n, f - n, rng 0 n (zeros (mx * wide v))⟩ S' w' ∧ w.heap.size ≤ x ∧ Blk w' x 77 (mapC bm k v mx V) ∧ ¬ S' x ∧
    ((k = 2 ∧ n = 1 ∧ V = sharedV (addr 1 0)) ∨ (k = 6 ∧ ∃ g cc, V = eachV (some ⟨g, 0, none⟩) n cc ∧ w.heap.size ≤ g ∧ g ≠ x ∧ ¬ S' g ∧ g < w'.heap.size ∧ ∀ i, i < n → w'.cell? ⟨g, i, none⟩ = some (.int .u64 (addr (i + 1) 0))))
theorem xnew_ok (k c : Int) (f n v mx : Nat) (hk : (k = 2 ∧ n = 1 ∧ 1 ≤ c ∧ c ≤ 8) ∨ (k = 6 ∧ c = n)) (h : KSide w S bm ⟨0, f, fun _ => none⟩) (hf : f = 0 ∨ n < f) (h5 : 1 ≤ n) (h6 : n ≤ 8) (h1 : 1 ≤ v) (h2 : v ≤ 4096) (h3 : 1 ≤ mx) (h4 : mx ≤ 4096) (h7 : mx * wide v ≤ 1048576) :
    Calls Try.prog 12 #[.pointer (some ⟨bm, 0, none⟩), specV k 4 v mx, .int .i64 c] w fun e w' => ∃ x, e = .returned (.tuple #[.pointer (some ⟨x, 0, none⟩), .int .i64 0]) ∧ NewOk w S bm k v mx n f x w' := by
  obtain ⟨rl, mv, rv, hm⟩ := side_km h rfl
  have hm : KM w S bm 0 f (fun _ => none) rl mv rv := hm
  rcases hk with ⟨rfl, rfl, c1, c8⟩ | ⟨rfl, rfl⟩
  · refine (New_arr hm hf (by decide) v mx c h1 h2 h3 h4 c1 c8 h7).mono ?_
    rintro e w' ⟨x, S', st', mv', rfl, hp⟩
    exact ⟨x, rfl, S', _, hp.ks, hp.xB, hp.map, hp.nx, .inl ⟨rfl, rfl, rfl⟩⟩
  · refine (New_cpu2 hm n hf (by omega) v mx h1 h2 h3 h4 h5 h6 h7).mono ?_
    rintro e w' ⟨x, g, cc, S', st', mv', rfl, hp, g1, g2, g3, g4, g5⟩
    refine ⟨x, rfl, S', _, hp.ks, hp.xB, hp.map, hp.nx, .inr ⟨rfl, g, cc, rfl, g1, g2, g3, g4, fun i hi => ?_⟩⟩
    have := g5 i hi
    rwa [show 0 + 1 + i = i + 1 by omega] at this
theorem NewOk.xf {k : Int} {v mx n f x : Nat} (h : NewOk w S bm k v mx n f x w') (hS : ∀ b, S b → b < w.heap.size) (p : Par) (e1 : p.bm = bm) (e2 : p.x = x) (e3 : p.k = k) (e4 : p.v = v) (e5 : p.mx = mx) (e6 : p.n = n) : XF p ⟨false, f - n, zeros (mx * wide v)⟩ (more S w w') w' ∧ Keeps S w w' := by
  subst e1 e2 e3 e4 e5 e6
  obtain ⟨S', V, hk, hx, hb, nx, hkd⟩ := h
  refine ⟨⟨more_lt2 hS hk.2.1.size, .inr ⟨hx, hb.lt⟩, S', hk.1, fun b hb => ?_, nx, .inr ⟨rfl, V, hb, ?_⟩⟩, hk.2.1⟩
  · rcases hk.2.2 b hb with hs | hs
    · exact .inl hs
    · exact .inr ⟨hs, hk.1.lt' b hb⟩
  · refine hkd.imp id ?_
    rintro ⟨k6, g, cc, rfl, g1, g2, g3, g4, g5⟩
    exact ⟨k6, g, cc, rfl, .inr ⟨g1, g4⟩, g3, g2, g5⟩
theorem XN.yf {k c : Int} {v mx n f size s y : Nat} {vv : Value} {T' : Nat → Prop} (h : XN w T bx f size s y k v mx c n w' vv T') (hT : ∀ b, T b → b < w.heap.size) (p : Par) (e1 : p.bx = bx) (e2 : p.y = y) (e3 : p.k = k) (e4 : p.v = v) (e5 : p.mx = mx) (e6 : p.n = n) (e7 : p.c = c) : YF p ⟨false, f - n, zeros size⟩ (more T w w') w' ∧ Keeps T w w' := by
  subst e1 e2 e3 e4 e5 e6 e7
  obtain ⟨A, cc, rfl, hrow⟩ := own_form_any h.row
  refine ⟨⟨more_lt2 hT h.xs.2.1.size, .inr ⟨h.y0, h.yb.lt⟩, T', A, cc, h.xs.1, fun b hb => ?_, h.ny, h.yb, fun i hi => ?_⟩, h.xs.2.1⟩
  · rcases h.xs.2.2 b hb with hs | hs
    · exact .inl hs
    · exact .inr ⟨hs, h.xs.1.lt' b hb⟩
  · obtain ⟨g, rfl, hg⟩ := hrow (by omega)
    have ha := h.apart g rfl
    have hl := h.row.lt g rfl
    refine ⟨g, rfl, .inr ⟨hl.1, hl.2⟩, ha.1, ha.2.1, hg i _ ?_⟩
    unfold firstsC
    rw [List.getElem?_map, List.getElem?_range hi]
    simp [Nat.add_comm]
end
/-- Both memories lie apart, in blocks from B on; the one holds mk, the other mx. -/
def ApartM (B : Nat) (w0 : World) (bm bx : Nat) (mk mx : PS) (w : World) (S T : Nat → Prop) : Prop :=
  KSide w S bm mk ∧ XSide w T bx mx ∧ (∀ b, S b → ¬ T b) ∧ (∀ b, S b → B ≤ b) ∧ (∀ b, T b → B ≤ b) ∧ Below B w0 w ∧ B ≤ w.heap.size
def BothM (B : Nat) (w0 : World) (bm bx : Nat) (mk mx : PS) (w : World) : Prop := ∃ S T, ApartM B w0 bm bx mk mx w S T
/-- Two rising lists of the same numbers are one. -/
theorem asc_eq : ∀ {a b : List Nat}, a.Pairwise (· < ·) → b.Pairwise (· < ·) → (∀ n, n ∈ a ↔ n ∈ b) → a = b
  | [], [], _, _, _ => rfl
  | [], y :: b, _, _, h => by simpa using (h y).2 (by simp)
  | x :: a, [], _, _, h => by simpa using (h x).1 (by simp)
  | x :: a, y :: b, ha, hb, h => by
    obtain ⟨ha1, ha2⟩ := List.pairwise_cons.1 ha
    obtain ⟨hb1, hb2⟩ := List.pairwise_cons.1 hb
    have hxy : x = y := by
      rcases List.mem_cons.1 ((h x).1 (by simp)) with e | e
      · exact e
      · rcases List.mem_cons.1 ((h y).2 (by simp)) with e' | e'
        · exact e'.symm
        · have := ha1 y e'; have := hb1 x e; omega
    subst hxy
    congr 1
    refine asc_eq ha2 hb2 fun n => ⟨fun hn => ?_, fun hn => ?_⟩
    · rcases List.mem_cons.1 ((h n).1 (List.mem_cons_of_mem _ hn)) with e | e
      · have := ha1 n hn; omega
      · exact e
    · rcases List.mem_cons.1 ((h n).2 (List.mem_cons_of_mem _ hn)) with e | e
      · have := hb1 n hn; omega
      · exact e
theorem lives_asc (vs : Nat → Option RV) (k : Nat) : (lives vs k).Pairwise (· < ·) := by
  unfold lives
  refine List.Pairwise.filter _ (List.pairwise_map.2 (List.pairwise_lt_range.imp (fun h => by omega)))
theorem lives_mem (vs : Nat → Option RV) (k : Nat) (hr : ∀ n q, vs n = some q → 1 ≤ n ∧ n ≤ k) (n : Nat) : n ∈ lives vs k ↔ (vs n).isSome = true := by
  unfold lives
  simp only [List.mem_filter, List.mem_map, List.mem_range]
  constructor
  · exact fun h => h.2
  · intro h
    rcases hs : vs n with _ | q
    · rw [hs] at h; cases h
    · have := hr n q hs
      exact ⟨⟨n - 1, by omega, by omega⟩, rfl⟩
/-- A list of regions as Same sees it. -/
theorem rowOf {w : World} {base n : Nat} {vs : Nat → Option RV} {v : Value} {ss : List Nat} (h : w.ownsRow base 89 3 v n (cellsR vs ss)) (hn : ss.length = n) :
    ∃ A c, v = .slice A n c ∧ RowOf w A n (fun k => (ss.getD k 0 : Nat)) (fun k => ((vs (ss.getD k 0)).getD (0, [], false)).1) (fun k => bstr ((vs (ss.getD k 0)).getD (0, [], false)).2.1) := by
  obtain ⟨A, c, rfl, hc⟩ := own_form_any h
  refine ⟨A, c, rfl, fun k hk => ?_⟩
  obtain ⟨g, rfl, hcell⟩ := hc (by omega)
  have hks : k < ss.length := by omega
  have e : ss.getD k 0 = ss[k] := by simp [List.getD, hks]
  refine ⟨g, rfl, ?_, ?_, ?_⟩
  · exact hcell _ _ ((cellsR_get vs ss k 0 hks (by omega)).trans (by simp only [e]; rfl))
  · exact hcell _ _ ((cellsR_get vs ss k 1 hks (by omega)).trans (by simp only [e]; rfl))
  · exact hcell _ _ ((cellsR_get vs ss k 2 hks (by omega)).trans (by simp only [e]; rfl))
theorem rm_start (w : World) : RM ((w.alloc (.cells #[.map none, .int .u32 0, .slice none 0 0, .int .i64 0] 66)).alloc (.cells #[.slice none 0 0, .int .i64 0, .int .i64 0] 32)) (fun b => b = w.heap.size + 1) (w.heap.size + 1) 0 0 (fun _ => none) (fun _ => 0) (fun _ => 0) (.slice none 0 0) where
  head := by have := Blk.new (w.alloc (.cells #[.map none, .int .u32 0, .slice none 0 0, .int .i64 0] 66)) 32 #[.slice none 0 0, .int .i64 0, .int .i64 0]; simpa [cnt] using this
  row := by simpa using World.ownsRow_nil _ _ _ _
  range := fun n q h => by cases h
  live := fun n q h => by cases h
  bytes := fun n q h => by cases h
  sized := fun n q h => by cases h
  dead := fun n h1 h2 => by omega
  injr := fun n m h1 h2 => by omega
  injg := fun n m q q' h => by cases h
  tbx := rfl
  trb := fun n h1 h2 => by omega
  tgb := fun n q h => by cases h
  tlv := fun g h => by cases h
  lt := fun b h => by simp; omega
  made_le := by omega
  fail_le := by omega
theorem bothM_start (w : World) : BothM w.heap.size w w.heap.size (w.heap.size + 1) ⟨0, 0, fun _ => none⟩ ⟨0, 0, fun _ => none⟩
    ((w.alloc (.cells #[.map none, .int .u32 0, .slice none 0 0, .int .i64 0] 66)).alloc (.cells #[.slice none 0 0, .int .i64 0, .int .i64 0] 32)) := by
  obtain ⟨hb, hB, S, mv, rv, hk, hS⟩ := KF.start w
  refine ⟨S, fun b => b = w.heap.size + 1, ⟨_, _, _, _, hk.keeps (T := fun _ => False) ((Keeps.refl _ _).alloc _) (fun _ _ h => h), fun _ => rfl⟩, ⟨fun _ => 0, fun _ => 0, .slice none 0 0, rm_start w⟩, ?_, hS, fun b h => by omega, hb.alloc hB _, by simp; omega⟩
  intro b h1 h2
  have h3 := hk.lt b h1
  simp at h3
  omega
section
variable {B : Nat} {w0 w w' : World} {bm bx : Nat} {m m' mk mx : PS} {S T S' T' : Nat → Prop} {f : FuncId} {args : Array Value} {e0 : Ending}
theorem ApartM.ks (h : ApartM B w0 bm bx m mx w S T) (hk : KS w S bm m' S' w') : ApartM B w0 bm bx m' mx w' S' T := by
  obtain ⟨h1, h2, h3, h4, h5, h6, h7⟩ := h
  refine ⟨hk.1, h2.keeps' hk.2.1 (fun b hb hs => h3 b hs hb), fun b hs ht => ?_, fun b hs => ?_, h5, h6.trans (hk.2.1.below h4 h7), Nat.le_trans h7 hk.2.1.size⟩
  · rcases hk.2.2 b hs with hs | hs
    · exact h3 b hs ht
    · have := h2.lt' b ht; omega
  · rcases hk.2.2 b hs with hs | hs
    · exact h4 b hs
    · omega
theorem ApartM.xs (h : ApartM B w0 bm bx mk m w S T) (hk : XS w T bx m' T' w') : ApartM B w0 bm bx mk m' w' S T' := by
  obtain ⟨h1, h2, h3, h4, h5, h6, h7⟩ := h
  refine ⟨h1.keeps' hk.2.1 h3, hk.1, fun b hs ht => ?_, h4, fun b hs => ?_, h6.trans (hk.2.1.below h5 h7), Nat.le_trans h7 hk.2.1.size⟩
  · rcases hk.2.2 b ht with ht | ht
    · exact h3 b hs ht
    · have := h1.lt' b hs; omega
  · rcases hk.2.2 b hs with hs | hs
    · exact h5 b hs
    · omega
theorem ApartM.grow (h : ApartM B w0 bm bx mk mx w S T) (hb : Below w.heap.size w w') : ApartM B w0 bm bx mk mx w' S T := by
  obtain ⟨h1, h2, h3, h4, h5, h6, h7⟩ := h
  exact ⟨h1.keeps' (keeps_grow hb) (fun _ _ h => h), h2.keeps' (keeps_grow hb) (fun _ _ h => h), h3, h4, h5, h6.trans (hb.mono h7), Nat.le_trans h7 hb.size⟩
theorem BothF.mem {p : Par} {s : FSt} (h : BothF B w0 p s s w) : BothM B w0 p.bm p.bx (s.ps p.n) (s.ps p.n) w := by
  obtain ⟨P, Q, ⟨_, _, S, h1, h2, _⟩, ⟨_, _, T, A, cc, h3, h4, _⟩, h5, h6, h7, h8, h9⟩ := h
  exact ⟨S, T, h1, h3, fun b hs ht => h5 b (h2 b hs) (h4 b ht), fun b hs => h6 b (h2 b hs), fun b ht => h7 b (h4 b ht), h8, h9⟩
/-- Behind kmem's Regions: its list lies there, and the reference still holds m. -/
def RegsM (B : Nat) (w0 : World) (bx : Nat) (m : PS) (v : Value) (w1 : World) : Prop :=
  Below B w0 w1 ∧ B ≤ w1.heap.size ∧ (∃ T, XSide w1 T bx m) ∧ (lives m.vs m.made).length ≤ 4096 ∧ ∃ base, w1.ownsRow base 89 3 v (lives m.vs m.made).length (cellsR m.vs (lives m.vs m.made))
theorem kregsM (h : BothM B w0 bm bx m m w) :
    Calls Try.prog 16 #[.pointer (some ⟨bm, 0, none⟩)] w fun e w1 => ∃ A c, e = .returned (.slice A (lives m.vs m.made).length c) ∧ RegsM B w0 bx m (.slice A (lives m.vs m.made).length c) w1 := by
  obtain ⟨S, T, ⟨st, rl, mv, rv, hk, hv⟩, h2, h3, h4, h5, h6, h7⟩ := h
  refine (regions_any hk m.vs hv).mono ?_
  rintro e w1 ⟨lv, ss, rfl, h8, h9, kk, ho, hl⟩
  have hr : ∀ n q, m.vs n = some q → 1 ≤ n ∧ n ≤ m.made := fun n q hq => by
    obtain ⟨r, hs, _⟩ := st_some hv hq
    exact hk.range n r hs
  have e : ss = lives m.vs m.made := asc_eq h8 (lives_asc _ _) (fun n => (h9 n).trans (lives_mem _ _ hr n).symm)
  subst e
  obtain ⟨A, c, rfl, _⟩ := own_form_any ho
  exact ⟨A, c, rfl, h6.trans (kk.below h4 h7), Nat.le_trans h7 kk.size, ⟨T, h2.keeps' kk (fun b hb hs => h3 b hs hb)⟩, hl, _, ho⟩
theorem xregsM {w1 : World} {A : Option Addr} {n c : Nat} (h : RegsM B w0 bx m (.slice A n c) w1) (hn : n = (lives m.vs m.made).length) :
    Calls Try.prog 17 #[.pointer (some ⟨bx, 0, none⟩)] w1 fun e w2 => ∃ A' c', e = .returned (.slice A' n c') ∧ Below B w0 w2 ∧ B ≤ w2.heap.size ∧ n ≤ 4096 ∧
      ∃ N P Bs, RowOf w2 A n N P Bs ∧ RowOf w2 A' n N P Bs := by
  subst hn
  obtain ⟨h1, h2, ⟨T, rb, gb, lv, hr⟩, h4, base, h5⟩ := h
  refine (xregions_any hr).mono ?_
  rintro e w2 ⟨l, rfl, hb, ho⟩
  have O5 := ownsRow_block (w' := w2) h5 (fun g hg => hb.block g (h5.lt g hg).2)
  obtain ⟨A1, c1, e1, r1⟩ := rowOf O5 rfl
  obtain ⟨A2, c2, rfl, r2⟩ := rowOf ho rfl
  cases e1
  exact ⟨A2, c2, rfl, h1.trans (hb.mono h2), Nat.le_trans h2 hb.size, h4, _, _, _, r1, r2⟩
end
end Go.Proofs.Ythilkgfbaddjpaa
namespace Go.Proofs.Ythilkgfbaddjpaa
open Go Go.RowKit Go.Maps
set_option linter.unusedVariables false
set_option linter.unusedSimpArgs false
set_option maxRecDepth 100000
section
variable {B : Nat} {w0 w w' : World} {bm bx : Nat} {m m' mk mx' : PS} {f : FuncId} {args : Array Value} {e0 : Ending}
theorem BothM.kcall (h : BothM B w0 bm bx m mx' w) (c : KCall f args bm m m' e0) : Calls Try.prog f args w fun e w' => e = e0 ∧ BothM B w0 bm bx m' mx' w' := by
  obtain ⟨S, T, h1⟩ := h
  refine ((KS.start h1.1).call c).mono ?_
  rintro e w' ⟨rfl, hk, _⟩
  exact ⟨rfl, _, _, h1.ks hk⟩
theorem BothM.xcall (h : BothM B w0 bm bx mk m w) (c : XCall f args bx m m' e0) : Calls Try.prog f args w fun e w' => e = e0 ∧ BothM B w0 bm bx mk m' w' := by
  obtain ⟨S, T, h1⟩ := h
  refine ((XS.start h1.2.1).call c).mono ?_
  rintro e w' ⟨rfl, hk, _⟩
  exact ⟨rfl, _, _, h1.xs hk⟩
theorem BothM.grow (h : BothM B w0 bm bx mk m w) (hb : Below w.heap.size w w') : BothM B w0 bm bx mk m w' := by
  obtain ⟨S, T, h1⟩ := h
  exact ⟨S, T, h1.grow hb⟩
theorem BothM.below (h : BothM B w0 bm bx mk m w) : Below B w0 w := by
  obtain ⟨S, T, h1⟩ := h
  exact h1.2.2.2.2.2.1
theorem BothF.below {p : Par} {sx sy : FSt} (h : BothF B w0 p sx sy w) : Below B w0 w := by
  obtain ⟨P, Q, h1⟩ := h
  exact h1.2.2.2.2.2.1
theorem BothF.quiet {p : Par} {sx sy : FSt} (h : BothF B w0 p sx sy w) (k : Keeps (fun _ => False) w w') : BothF B w0 p sx sy w' := by
  obtain ⟨P, Q, h1⟩ := h
  exact ⟨P, Q, h1.quiet k⟩
/-- Behind flat's New: the map stands, the reference's memory is as it was. -/
def MidF (B : Nat) (w0 : World) (bm bx : Nat) (k c : Int) (v mx n f x : Nat) (w1 : World) : Prop :=
  ∃ P T, (∀ y, XF ⟨bm, bx, x, y, k, c, v, mx, n⟩ ⟨false, f - n, zeros (mx * wide v)⟩ P w1) ∧ XSide w1 T bx ⟨0, f, fun _ => none⟩ ∧ (∀ b, P b → ¬ T b) ∧ (∀ b, P b → B ≤ b) ∧ (∀ b, T b → B ≤ b) ∧ Below B w0 w1 ∧ B ≤ w1.heap.size
end
section
variable {B : Nat} {w0 w w' : World} {bm bx : Nat} (k c : Int) (f n v mx : Nat) (hk : (k = 2 ∧ n = 1 ∧ 1 ≤ c ∧ c ≤ 8) ∨ (k = 6 ∧ c = n)) (h5 : 1 ≤ n) (h6 : n ≤ 8) (h1 : 1 ≤ v) (h2 : v ≤ 4096) (h3 : 1 ≤ mx) (h4 : mx ≤ 4096) (h7 : mx * wide v ≤ 1048576)
include hk h5 h6 h1 h2 h3 h4 h7 in
theorem bnew_ok (h : BothM B w0 bm bx ⟨0, f, fun _ => none⟩ ⟨0, f, fun _ => none⟩ w) (hf : f = 0 ∨ n < f) :
    Calls Try.prog 12 #[.pointer (some ⟨bm, 0, none⟩), specV k 4 v mx, .int .i64 c] w fun e w' => ∃ x, e = .returned (.tuple #[.pointer (some ⟨x, 0, none⟩), .int .i64 0]) ∧ MidF B w0 bm bx k c v mx n f x w' := by
  obtain ⟨S, T, a1, a2, a3, a4, a5, a6, a7⟩ := h
  refine (xnew_ok k c f n v mx hk a1 hf h5 h6 h1 h2 h3 h4 h7).mono ?_
  rintro e w' ⟨x, rfl, hn⟩
  have hk2 := (hn.xf a1.lt' ⟨bm, bx, x, 0, k, c, v, mx, n⟩ rfl rfl rfl rfl rfl rfl).2
  refine ⟨x, rfl, more S w w', T, fun y => (hn.xf a1.lt' ⟨bm, bx, x, y, k, c, v, mx, n⟩ rfl rfl rfl rfl rfl rfl).1, a2.keeps' hk2 (fun b hb hs => a3 b hs hb), ?_, ?_, a5, a6.trans (hk2.below a4 a7), Nat.le_trans a7 hk2.size⟩
  · rintro b (hs | ⟨hs, _⟩) ht
    · exact a3 b hs ht
    · have := a2.lt' b ht; omega
  · rintro b (hs | ⟨hs, _⟩)
    · exact a4 b hs
    · omega
include hk h5 h6 h1 h2 h3 h4 h7 in
theorem May_yes (W : World) : Calls Try.prog 30 #[specV k 4 v mx, .int .i64 c] W fun e w' => e = .returned (.bool true) ∧ Below W.heap.size W w' := by
  have := May_at k (by rcases hk with h | h; exact .inl h.1; exact .inr h.1) v mx c h1 h2 h3 h4 (by rcases hk with h | h <;> omega) (by rcases hk with h | h <;> omega) W
  rwa [decide_eq_true h7] at this
include hk h5 h6 h1 h2 h3 h4 h7 in
theorem fits_yes (W : World) : Calls Try.prog 25 #[specV k 4 v mx, .int .i64 c] W fun e w' => e = .returned (.bool true) ∧ Below W.heap.size W w' := by
  rcases hk with ⟨rfl, _, c1, c8⟩ | ⟨rfl, rfl⟩
  · exact fits_arr v mx c h1 h2 h3 h4 c1 c8 h7 W
  · exact fits_cpu v mx n h1 h2 h3 h4 (by omega) (by omega) h7 W
include hk h5 h6 h1 h2 h3 h4 h7 in
theorem bnew2_ok {x : Nat} (h : MidF B w0 bm bx k c v mx n f x w) (hf : f = 0 ∨ n < f) :
    Calls Try.prog 13 #[.pointer (some ⟨bx, 0, none⟩), specV k 4 v mx, .int .i64 c] w fun e w' => ∃ y, e = .returned (.tuple #[.pointer (some ⟨y, 0, none⟩), .int .i64 0]) ∧ BothF B w0 ⟨bm, bx, x, y, k, c, v, mx, n⟩ ⟨false, f - n, zeros (mx * wide v)⟩ ⟨false, f - n, zeros (mx * wide v)⟩ w' := by
  obtain ⟨P, T, a1, a2, a3, a4, a5, a6, a7⟩ := h
  have fin : ∀ (e : Ending) (w' : World), (∃ y vv T', e = .returned (.tuple #[.pointer (some ⟨y, 0, none⟩), .int .i64 0]) ∧ XN w T bx f (mx * wide v) w.heap.size y k v mx c n w' vv T') →
      ∃ y, e = .returned (.tuple #[.pointer (some ⟨y, 0, none⟩), .int .i64 0]) ∧ BothF B w0 ⟨bm, bx, x, y, k, c, v, mx, n⟩ ⟨false, f - n, zeros (mx * wide v)⟩ ⟨false, f - n, zeros (mx * wide v)⟩ w' := by
    rintro e w' ⟨y, vv, T', rfl, hN⟩
    obtain ⟨hy, kk⟩ := hN.yf a2.lt' ⟨bm, bx, x, y, k, c, v, mx, n⟩ rfl rfl rfl rfl rfl rfl rfl
    refine ⟨y, rfl, P, more T w w', (a1 y).keeps kk a3, hy, ?_, a4, ?_, a6.trans (kk.below a5 a7), Nat.le_trans a7 kk.size⟩
    · rintro b hp (ht | ⟨ht, _⟩)
      · exact a3 b hp ht
      · have := (a1 y).1 b hp; omega
    · rintro b (hs | ⟨hs, _⟩)
      · exact a5 b hs
      · omega
  have hM := May_yes k c n v mx hk h5 h6 h1 h2 h3 h4 h7
  rcases hk with ⟨rfl, rfl, c1, c8⟩ | ⟨rfl, rfl⟩
  · exact (ynew_ok_arr c f v mx a2 hf h1 h2 h3 h4 h7 hM).mono fin
  · exact (ynew_ok_cpu f n v mx a2 hf h6 h1 h2 h3 h4 h7 hM).mono fin
include hk h5 h6 h1 h2 h3 h4 h7 in
theorem bnew_fail (h : BothM B w0 bm bx ⟨0, f, fun _ => none⟩ ⟨0, f, fun _ => none⟩ w) (hf : 1 ≤ f) (hfn : f ≤ n) :
    Calls Try.prog 12 #[.pointer (some ⟨bm, 0, none⟩), specV k 4 v mx, .int .i64 c] w fun e w' => e = .returned (.tuple #[.pointer none, .int .i64 2]) ∧ BothM B w0 bm bx ⟨f - 1, 0, fun _ => none⟩ ⟨0, f, fun _ => none⟩ w' := by
  obtain ⟨S, T, hA⟩ := h
  have hF := fits_yes k c n v mx hk h5 h6 h1 h2 h3 h4 h7
  refine (New_fail k c f n v mx hA.1 hf hfn h6 h1 h2 h3 h4 h7 hF (fun W => ?_)).mono ?_
  · rcases hk with ⟨rfl, rfl, _⟩ | ⟨rfl, rfl⟩
    · exact regions_arr c W
    · exact regions_cpu n W
  · rintro e w' ⟨rfl, S', hks⟩
    exact ⟨rfl, _, _, hA.ks hks⟩
include hk h5 h6 h1 h2 h3 h4 h7 in
theorem bnew2_fail {m : PS} (h : BothM B w0 bm bx m ⟨0, f, fun _ => none⟩ w) (hf : 1 ≤ f) (hfn : f ≤ n) :
    Calls Try.prog 13 #[.pointer (some ⟨bx, 0, none⟩), specV k 4 v mx, .int .i64 c] w fun e w' => e = .returned (.tuple #[.pointer none, .int .i64 2]) ∧ BothM B w0 bm bx m ⟨f - 1, 0, fun _ => none⟩ w' := by
  obtain ⟨S, T, hA⟩ := h
  have fin : ∀ (e : Ending) (w' : World), (e = .returned (.tuple #[.pointer none, .int .i64 2]) ∧ ∃ T', XS w T bx ⟨f - 1, 0, fun _ => none⟩ T' w') → e = .returned (.tuple #[.pointer none, .int .i64 2]) ∧ BothM B w0 bm bx m ⟨f - 1, 0, fun _ => none⟩ w' := by
    rintro e w' ⟨rfl, T', hks⟩
    exact ⟨rfl, _, _, hA.xs hks⟩
  have hM := May_yes k c n v mx hk h5 h6 h1 h2 h3 h4 h7
  rcases hk with ⟨rfl, rfl, c1, c8⟩ | ⟨rfl, rfl⟩
  · exact (ynew_fail_arr c f v mx hA.2.1 hf hfn h1 h2 h3 h4 h7 hM).mono fin
  · exact (ynew_fail_cpu f n v mx hA.2.1 hf hfn h6 h1 h2 h3 h4 h7 hM).mono fin
end
section
variable {bm bx : Nat}
/-- Neither answers a map: with the same error, and both memories hold the same. -/
def NilPair (bm bx : Nat) (k key v mx c : Int) (m : PS) : Prop :=
  ∃ (a : Int) (m' : PS), (∀ B w0 w mx', BothM B w0 bm bx m mx' w → mx' = m → Calls Try.prog 12 #[.pointer (some ⟨bm, 0, none⟩), specV k key v mx, .int .i64 c] w fun e w' => e = .returned (.tuple #[.pointer none, .int .i64 a]) ∧ BothM B w0 bm bx m' m w') ∧
    (∀ B w0 w, BothM B w0 bm bx m' m w → Calls Try.prog 13 #[.pointer (some ⟨bx, 0, none⟩), specV k key v mx, .int .i64 c] w fun e w' => e = .returned (.tuple #[.pointer none, .int .i64 a]) ∧ BothM B w0 bm bx m' m' w')
theorem nil_bad (k key v mx c : Int) (m : PS) (hF : ∀ W : World, Calls Try.prog 25 #[specV k key v mx, .int .i64 c] W fun e w' => e = .returned (.bool false) ∧ Below W.heap.size W w')
    (hM : ∀ W : World, Calls Try.prog 30 #[specV k key v mx, .int .i64 c] W fun e w' => e = .returned (.bool false) ∧ Below W.heap.size W w') : NilPair bm bx k key v mx c m := by
  refine ⟨1, m, fun B w0 w mx' h e => ?_, fun B w0 w h => ?_⟩
  · subst e
    exact (New_bad k key v mx c w hF).mono fun e w' hh => ⟨hh.1, h.grow hh.2⟩
  · exact (ynew_bad k key v mx c w hM).mono fun e w' hh => ⟨hh.1, h.grow hh.2⟩
theorem nil_fail (k c : Int) (f n v mx : Nat) (hk : (k = 2 ∧ n = 1 ∧ 1 ≤ c ∧ c ≤ 8) ∨ (k = 6 ∧ c = n)) (h5 : 1 ≤ n) (h6 : n ≤ 8) (h1 : 1 ≤ v) (h2 : v ≤ 4096) (h3 : 1 ≤ mx) (h4 : mx ≤ 4096) (h7 : mx * wide v ≤ 1048576) (hf : 1 ≤ f) (hfn : f ≤ n) : NilPair bm bx k 4 v mx c ⟨0, f, fun _ => none⟩ := by
  refine ⟨2, ⟨f - 1, 0, fun _ => none⟩, fun B w0 w mx' h e => ?_, fun B w0 w h => ?_⟩
  · subst e
    exact bnew_fail k c f n v mx hk h5 h6 h1 h2 h3 h4 h7 h hf hfn
  · exact bnew2_fail k c f n v mx hk h5 h6 h1 h2 h3 h4 h7 h hf hfn
/-- Both answer a map. -/
def OkPair (bm bx : Nat) (k key v mx c : Int) (m : PS) : Prop :=
  ∀ B w0 w, BothM B w0 bm bx m m w → Calls Try.prog 12 #[.pointer (some ⟨bm, 0, none⟩), specV k key v mx, .int .i64 c] w fun e w1 => ∃ x, e = .returned (.tuple #[.pointer (some ⟨x, 0, none⟩), .int .i64 0]) ∧ Below B w0 w1 ∧
    Calls Try.prog 13 #[.pointer (some ⟨bx, 0, none⟩), specV k key v mx, .int .i64 c] w1 fun e w2 => ∃ y, e = .returned (.tuple #[.pointer (some ⟨y, 0, none⟩), .int .i64 0]) ∧
      ∃ (p : Par) (s : FSt), p.Ok ∧ p.bm = bm ∧ p.bx = bx ∧ p.x = x ∧ p.y = y ∧ (∀ i, (s.z i).length = p.mx * wide p.v) ∧ BothF B w0 p s s w2
theorem ok_pair (k c : Int) (f n v mx : Nat) (hk : (k = 2 ∧ n = 1 ∧ 1 ≤ c ∧ c ≤ 8) ∨ (k = 6 ∧ c = n)) (h5 : 1 ≤ n) (h6 : n ≤ 8) (h1 : 1 ≤ v) (h2 : v ≤ 4096) (h3 : 1 ≤ mx) (h4 : mx ≤ 4096) (h7 : mx * wide v ≤ 1048576) (hf : f = 0 ∨ n < f) : OkPair bm bx k 4 v mx c ⟨0, f, fun _ => none⟩ := by
  intro B w0 w h
  refine (bnew_ok k c f n v mx hk h5 h6 h1 h2 h3 h4 h7 h hf).mono ?_
  rintro e w1 ⟨x, rfl, hmid⟩
  refine ⟨x, rfl, ?_, ?_⟩
  · obtain ⟨P, T, a1, a2, a3, a4, a5, a6, a7⟩ := hmid
    exact a6
  · refine (bnew2_ok k c f n v mx hk h5 h6 h1 h2 h3 h4 h7 hmid hf).mono ?_
    rintro e w2 ⟨y, rfl, hb⟩
    exact ⟨y, rfl, _, _, ⟨hk.imp (fun h => ⟨h.1, h.2.1⟩) id, h5, h6, h1, h2, h3, h4⟩, rfl, rfl, rfl, rfl, fun i => List.length_replicate, hb⟩
/-- Which of both it is. -/
theorem new_ways (k key v mx c : Int) (f : Nat) : NilPair bm bx k key v mx c ⟨0, f, fun _ => none⟩ ∨ OkPair bm bx k key v mx c ⟨0, f, fun _ => none⟩ := by
  by_cases hB : fitB k key v mx c
  · have hB' := hB
    obtain ⟨hk, rfl, v1, v2, m1, m2, c1, c8⟩ := hB
    obtain ⟨v, rfl⟩ := Int.eq_ofNat_of_zero_le (show 0 ≤ v by omega)
    obtain ⟨mx, rfl⟩ := Int.eq_ofNat_of_zero_le (show 0 ≤ mx by omega)
    by_cases h7 : mx * wide v ≤ 1048576
    · obtain ⟨n, hk', h5, h6⟩ : ∃ n : Nat, ((k = 2 ∧ n = 1 ∧ 1 ≤ c ∧ c ≤ 8) ∨ (k = 6 ∧ c = n)) ∧ 1 ≤ n ∧ n ≤ 8 := by
        rcases hk with h | h
        · exact ⟨1, .inl ⟨h, rfl, c1, c8⟩, by decide, by decide⟩
        · exact ⟨c.toNat, .inr ⟨h, by omega⟩, by omega, by omega⟩
      by_cases hf : f = 0 ∨ n < f
      · exact .inr (ok_pair k c f n v mx hk' h5 h6 (by omega) (by omega) (by omega) (by omega) h7 hf)
      · exact .inl (nil_fail k c f n v mx hk' h5 h6 (by omega) (by omega) (by omega) (by omega) h7 (by omega) (by omega))
    · refine .inl (nil_bad k 4 v mx c _ (fun W => ?_) (fun W => ?_))
      · rcases hk with rfl | rfl
        · exact fits_arr_big v mx c (by omega) (by omega) (by omega) (by omega) c1 c8 (by omega) W
        · exact fits_cpu_big v mx c (by omega) (by omega) (by omega) (by omega) c1 c8 (by omega) W
      · have := May_at k hk v mx c (by omega) (by omega) (by omega) (by omega) c1 c8 W
        rwa [decide_eq_false h7] at this
  · exact .inl (nil_bad k key v mx c _ (fits_no k key v mx c hB) (May_no k key v mx c hB))
/-- Which allocation fails. -/
theorem fail_pair (n : Int) : ∃ (f : Nat) (a : Int), KCall 10 #[.pointer (some ⟨bm, 0, none⟩), .int .i64 n] bm ⟨0, 0, fun _ => none⟩ ⟨0, f, fun _ => none⟩ (.returned (.int .i64 a)) ∧ XCall 11 #[.pointer (some ⟨bx, 0, none⟩), .int .i64 n] bx ⟨0, 0, fun _ => none⟩ ⟨0, f, fun _ => none⟩ (.returned (.int .i64 a)) := by
  by_cases h : n < 0 ∨ 1048576 < n
  · exact ⟨0, 1, KCall.same fun w _ _ _ _ _ _ _ => fail_arg _ n h w, XCall.same fun w _ _ _ _ _ => xfail_arg _ n h w⟩
  · obtain ⟨k, rfl⟩ := Int.eq_ofNat_of_zero_le (show 0 ≤ n by omega)
    refine ⟨k, 0, ?_, XCall.step fun w _ _ _ _ hr => xfail_ok hr k (by omega)⟩
    rintro w S ⟨st, rl, mv, rv, hk, hv⟩
    refine (fail_ok hk k (by omega)).mono ?_
    rintro e w' ⟨rfl, hk', kk⟩
    exact ⟨rfl, ⟨_, _, _, _, hk', hv⟩, kk⟩
end
end Go.Proofs.Ythilkgfbaddjpaa
namespace Go.Proofs.Ythilkgfbaddjpaa
open Go Go.RowKit Go.Maps
set_option linter.unusedVariables false
set_option linter.unusedSimpArgs false
/-- Deed number i of a list lies at block b, offset o. -/
def DeedAt8 (w : World) (b o : Nat) (kd : Int) (ky vl : ByteArray) (fl cp uu : Int) : Prop :=
  w.cell? ⟨b, o, none⟩ = some (.int .i64 kd) ∧ w.cell? ⟨b, o + 1, none⟩ = some (.string ky) ∧ w.cell? ⟨b, o + 2, none⟩ = some (.string vl) ∧ w.cell? ⟨b, o + 3, none⟩ = some (.int .i64 fl) ∧ w.cell? ⟨b, o + 4, none⟩ = some (.int .i64 cp) ∧ w.cell? ⟨b, o + 5, none⟩ = some (.int .u64 uu)
set_option maxRecDepth 100000 in
set_option maxHeartbeats 1000000 in
theorem fplays_big (k key v c0 c1 : Int) (mx : Int) (L : Value) (w : World) (h1 : 300 < mx) (h2 : mx ≤ 4096) :
    Calls Try.prog 3 #[specV k key v mx, .agg #[.int .i64 c0, .int .i64 c1], L] w fun e w' => e = .returned (.bool true) ∧ Below w.heap.size w w' := by
  have g1 : decide (300 < mx) = true := decide_eq_true h1
  have g2 : decide (mx ≤ 4096) = true := decide_eq_true h2
  have B0 := Lib.hid (below_then (below_alloc w (.cells #[.int .i64 k, .int .i64 key, .int .i64 v, .int .i64 mx] 23)) (below_alloc _ (.cells #[.int .i64 c0, .int .i64 c1] 24)))
  clear h1 h2
  go_enter Try.func3, Try.ntmps3
  go_wp2_with (go_at_call 8; refine (awake_any _).mono ?_; rintro e w7 ⟨rfl, hb⟩; have B7 := Lib.hid (below_then B0.out hb); clear hb)
  go_ret
  exact ⟨rfl, B7.out⟩
theorem big_ways {mx : Int} (h : ¬ (300 < mx ∧ mx ≤ 4096)) : decide (300 < mx) = false ∨ (decide (300 < mx) = true ∧ decide (mx ≤ 4096) = false) := by
  by_cases h1 : 300 < mx
  · exact .inr ⟨decide_eq_true h1, decide_eq_false (by omega)⟩
  · exact .inl (decide_eq_false h1)
/-- The cells that the law reads again. -/
def Low (w : World) (b0 : Nat) (k key v mx c0 c1 : Int) : Prop :=
  w.cell? ⟨b0, 0, none⟩ = some (.int .i64 k) ∧ w.cell? ⟨b0, 1, none⟩ = some (.int .i64 key) ∧ w.cell? ⟨b0, 2, none⟩ = some (.int .i64 v) ∧ w.cell? ⟨b0, 3, none⟩ = some (.int .i64 mx) ∧ w.cell? ⟨b0 + 1, 0, none⟩ = some (.int .i64 c0) ∧ w.cell? ⟨b0 + 1, 1, none⟩ = some (.int .i64 c1)
theorem Low.below {w w' : World} {b0 B : Nat} {k key v mx c0 c1 : Int} (h : Low w b0 k key v mx c0 c1) (hb : Below B w w') (hB : b0 + 1 < B) : Low w' b0 k key v mx c0 c1 := by
  obtain ⟨h0, h1, h2, h3, h4, h5⟩ := h
  refine ⟨(hb.cell (p := ⟨b0, 0, none⟩) (by show b0 < B; omega)).trans h0, (hb.cell (p := ⟨b0, 1, none⟩) (by show b0 < B; omega)).trans h1, (hb.cell (p := ⟨b0, 2, none⟩) (by show b0 < B; omega)).trans h2, (hb.cell (p := ⟨b0, 3, none⟩) (by show b0 < B; omega)).trans h3, (hb.cell (p := ⟨b0 + 1, 0, none⟩) hB).trans h4, (hb.cell (p := ⟨b0 + 1, 1, none⟩) hB).trans h5⟩
theorem low_start (w : World) (k key v mx c0 c1 : Int) : Low ((w.alloc (.cells #[.int .i64 k, .int .i64 key, .int .i64 v, .int .i64 mx] 23)).alloc (.cells #[.int .i64 c0, .int .i64 c1] 24)) w.heap.size k key v mx c0 c1 := by
  have h1 := (Blk.new w 23 #[.int .i64 k, .int .i64 key, .int .i64 v, .int .i64 mx]).alloc (.cells #[.int .i64 c0, .int .i64 c1] 24)
  have h2 := Blk.new (w.alloc (.cells #[.int .i64 k, .int .i64 key, .int .i64 v, .int .i64 mx] 23)) 24 #[.int .i64 c0, .int .i64 c1]
  have e : (w.alloc (.cells #[.int .i64 k, .int .i64 key, .int .i64 v, .int .i64 mx] 23)).heap.size = w.heap.size + 1 := by simp
  rw [e] at h2
  exact ⟨h1.cell 0, h1.cell 1, h1.cell 2, h1.cell 3, h2.cell 0, h2.cell 1⟩
set_option maxRecDepth 100000 in
set_option maxHeartbeats 4000000 in
theorem fplays_nil (k key v mx c0 c1 : Int) (A : Option Addr) (len cap : Nat) (w : World) (hb : ¬ (300 < mx ∧ mx ≤ 4096)) (f : Nat) (af : Int) (kf : KCall 10 #[.pointer (some ⟨w.heap.size + 1 + 1, 0, none⟩), .int .i64 c1] (w.heap.size + 1 + 1) ⟨0, 0, fun _ => none⟩ ⟨0, f, fun _ => none⟩ (.returned (.int .i64 af))) (xf : XCall 11 #[.pointer (some ⟨w.heap.size + 1 + 1 + 1, 0, none⟩), .int .i64 c1] (w.heap.size + 1 + 1 + 1) ⟨0, 0, fun _ => none⟩ ⟨0, f, fun _ => none⟩ (.returned (.int .i64 af))) (hN : NilPair (w.heap.size + 1 + 1) (w.heap.size + 1 + 1 + 1) k key v mx c0 ⟨0, f, fun _ => none⟩) :
    Calls Try.prog 3 #[specV k key v mx, .agg #[.int .i64 c0, .int .i64 c1], .slice A len cap] w fun e w' => e = .returned (.bool true) ∧ Below w.heap.size w w' := by
  have eW : ((w.alloc (.cells #[.int .i64 k, .int .i64 key, .int .i64 v, .int .i64 mx] 23)).alloc (.cells #[.int .i64 c0, .int .i64 c1] 24)).heap.size = w.heap.size + 1 + 1 := by simp
  have c0' := Lib.hid (new_any ((w.alloc (.cells #[.int .i64 k, .int .i64 key, .int .i64 v, .int .i64 mx] 23)).alloc (.cells #[.int .i64 c0, .int .i64 c1] 24)))
  have hst := bothM_start ((w.alloc (.cells #[.int .i64 k, .int .i64 key, .int .i64 v, .int .i64 mx] 23)).alloc (.cells #[.int .i64 c0, .int .i64 c1] 24))
  rw [eW] at hst
  have HST := Lib.hid hst
  have LOW := Lib.hid (low_start w k key v mx c0 c1)
  have HLT : Hid (w.heap.size + 1 < w.heap.size + 1 + 1) := Nat.lt_succ_self _
  have BL : Hid (Below w.heap.size w ((w.alloc (.cells #[.int .i64 k, .int .i64 key, .int .i64 v, .int .i64 mx] 23)).alloc (.cells #[.int .i64 c0, .int .i64 c1] 24))) := below_then (below_alloc w _) (below_alloc _ _)
  have CZ : Hid (∀ W : World, Calls Try.prog 8 #[] W fun e w' => e = .returned (.bool true) ∧ Below W.heap.size W w') := awake_any
  have CF := Lib.hid kf
  have CX := Lib.hid xf
  clear kf xf hst eW
  obtain ⟨a, m', cn, cy⟩ := hN
  have CN := Lib.hid cn
  have CY := Lib.hid cy
  clear cn cy
  have hw := big_ways hb
  clear hb
  rcases hw with hb | ⟨hb, hb2⟩
  all_goals (
    go_enter Try.func3, Try.ntmps3
    go_wp2_with (first
      | (go_at_call 9; refine c0'.out.mono ?_; rintro e w1 ⟨rfl, rfl⟩)
      | (go_at_call 10; refine (HST.out.kcall CF.out).mono ?_; rintro e w3 ⟨rfl, h3⟩; obtain ⟨a0x, a1x, a2x, a3x, a4x, a5x⟩ := LOW.out.below h3.below HLT.out; have H3 := Lib.hid h3; clear h3)
      | (go_at_call 11; refine (H3.out.xcall CX.out).mono ?_; rintro e w4 ⟨rfl, h4⟩; obtain ⟨a0y, a1y, a2y, a3y, a4y, a5y⟩ := LOW.out.below h4.below HLT.out; have H4 := Lib.hid h4; clear h4)
      | (go_at_call 12; refine (CN.out _ _ _ _ H4.out rfl).mono ?_; rintro e w5 ⟨rfl, h5⟩; obtain ⟨a0z, a1z, a2z, a3z, a4z, a5z⟩ := LOW.out.below h5.below HLT.out; have H5 := Lib.hid h5; clear h5)
      | (go_at_call 13; refine (CY.out _ _ _ H5.out).mono ?_; rintro e w6 ⟨rfl, h6⟩; have H6 := Lib.hid h6; clear h6))
    go_loopw [13] (fun i wr => i = .int .i64 0 ∧ wr = w6) (fun _ _ => 0)
    case atStart => exact ⟨rfl, rfl⟩
    case round =>
      obtain ⟨rfl, hwr⟩ := hrel
      subst hwr
      have CK := Lib.hid (kregsM H6.out)
      clear H6 H5 H4 H3 HST LOW CN CY CF CX
      obtain ⟨n, hn⟩ : ∃ n, n = (lives m'.vs m'.made).length := ⟨_, rfl⟩
      have HN := Lib.hid hn
      rw [← hn] at CK
      clear hn
      by_cases hl : 0 < len
      · have g1 : decide (0 < len) = true := decide_eq_true hl
        have g2 : decide ((0 : Int) < (len : Int)) = true := decide_eq_true (by omega)
        go_wp2_with (first
          | (go_at_call 16; refine CK.out.mono ?_; rintro e w2 ⟨A1, cc1, rfl, hr2⟩; have HX := Lib.hid (xregsM hr2 HN.out); clear hr2)
          | (go_at_call 17; refine HX.out.mono ?_; rintro e w3 ⟨A2, cc2, rfl, hb3, hB3, hn3, N, P, Bs, r1, r2⟩; have HS := Lib.hid (xsame_any n cc1 cc2 A1 A2 N P Bs w3 hn3 r1 r2); have HB3 := Lib.hid hb3; have HZ3 := Lib.hid hB3; clear hb3 hB3 r1 r2)
          | (go_at_call 15; refine HS.out.mono ?_; rintro e w4 ⟨rfl, hb4⟩; have HB4 := Lib.hid hb4; clear hb4)
          | (go_at_call 8; refine (CZ.out _).mono ?_; rintro e w5 ⟨rfl, hb5⟩; have HB5 := Lib.hid hb5; clear hb5))
        go_ret
        exact ⟨rfl, BL.out.trans ((HB3.out.trans ((HB4.out.mono HZ3.out).trans (HB5.out.mono (Nat.le_trans HZ3.out HB4.out.size)))).mono (Nat.le_succ_of_le (Nat.le_succ _)))⟩
      · obtain rfl : len = 0 := by omega
        go_wp2_with (first
          | (go_at_call 16; refine CK.out.mono ?_; rintro e w2 ⟨A1, cc1, rfl, hr2⟩; have HX := Lib.hid (xregsM hr2 HN.out); clear hr2)
          | (go_at_call 17; refine HX.out.mono ?_; rintro e w3 ⟨A2, cc2, rfl, hb3, hB3, hn3, N, P, Bs, r1, r2⟩; have HS := Lib.hid (xsame_any n cc1 cc2 A1 A2 N P Bs w3 hn3 r1 r2); have HB3 := Lib.hid hb3; have HZ3 := Lib.hid hB3; clear hb3 hB3 r1 r2)
          | (go_at_call 15; refine HS.out.mono ?_; rintro e w4 ⟨rfl, hb4⟩; have HB4 := Lib.hid hb4; clear hb4)
          | (go_at_call 8; refine (CZ.out _).mono ?_; rintro e w5 ⟨rfl, hb5⟩; have HB5 := Lib.hid hb5; clear hb5))
        go_ret
        exact ⟨rfl, BL.out.trans ((HB3.out.trans ((HB4.out.mono HZ3.out).trans (HB5.out.mono (Nat.le_trans HZ3.out HB4.out.size)))).mono (Nat.le_succ_of_le (Nat.le_succ _)))⟩
  )
set_option maxRecDepth 100000 in
set_option maxHeartbeats 4000000 in
theorem fplays_ok (k key v mx c0 c1 : Int) (A : Option Addr) (len cap : Nat) (w : World) (hlc : len ≤ cap) (hm : cap ≤ maxLen) (hb : ¬ (300 < mx ∧ mx ≤ 4096)) (f : Nat) (af : Int) (kf : KCall 10 #[.pointer (some ⟨w.heap.size + 1 + 1, 0, none⟩), .int .i64 c1] (w.heap.size + 1 + 1) ⟨0, 0, fun _ => none⟩ ⟨0, f, fun _ => none⟩ (.returned (.int .i64 af))) (xf : XCall 11 #[.pointer (some ⟨w.heap.size + 1 + 1 + 1, 0, none⟩), .int .i64 c1] (w.heap.size + 1 + 1 + 1) ⟨0, 0, fun _ => none⟩ ⟨0, f, fun _ => none⟩ (.returned (.int .i64 af))) (hO : OkPair (w.heap.size + 1 + 1) (w.heap.size + 1 + 1 + 1) k key v mx c0 ⟨0, f, fun _ => none⟩)
    (hA : ∀ i, i < len → ∃ (b off : Nat) (kd : Int) (ky vl : ByteArray) (fl cp uu : Int), A = some ⟨b, off, none⟩ ∧ b < w.heap.size ∧ DeedAt8 w b (off + i * 6) kd ky vl fl cp uu ∧ (0 ≤ uu ∧ uu ≤ 18446744073709551615)) :
    Calls Try.prog 3 #[specV k key v mx, .agg #[.int .i64 c0, .int .i64 c1], .slice A len cap] w fun e w' => e = .returned (.bool true) ∧ Below w.heap.size w w' := by
  unfold maxLen at hm
  have eW : ((w.alloc (.cells #[.int .i64 k, .int .i64 key, .int .i64 v, .int .i64 mx] 23)).alloc (.cells #[.int .i64 c0, .int .i64 c1] 24)).heap.size = w.heap.size + 1 + 1 := by simp
  have c0' := Lib.hid (new_any ((w.alloc (.cells #[.int .i64 k, .int .i64 key, .int .i64 v, .int .i64 mx] 23)).alloc (.cells #[.int .i64 c0, .int .i64 c1] 24)))
  have hst := bothM_start ((w.alloc (.cells #[.int .i64 k, .int .i64 key, .int .i64 v, .int .i64 mx] 23)).alloc (.cells #[.int .i64 c0, .int .i64 c1] 24))
  rw [eW] at hst
  have HST := Lib.hid hst
  have LOW := Lib.hid (low_start w k key v mx c0 c1)
  have HLT : Hid (w.heap.size + 1 < w.heap.size + 1 + 1) := Nat.lt_succ_self _
  have BL : Hid (Below w.heap.size w ((w.alloc (.cells #[.int .i64 k, .int .i64 key, .int .i64 v, .int .i64 mx] 23)).alloc (.cells #[.int .i64 c0, .int .i64 c1] 24))) := below_then (below_alloc w _) (below_alloc _ _)
  have CZ : Hid (∀ W : World, Calls Try.prog 8 #[] W fun e w' => e = .returned (.bool true) ∧ Below W.heap.size W w') := awake_any
  have CF := Lib.hid kf
  have CX := Lib.hid xf
  clear kf xf hst eW
  have OK := Lib.hid hO
  have HA := Lib.hid hA
  clear hO hA
  have hw := big_ways hb
  clear hb
  rcases hw with hb | ⟨hb, hb2⟩
  all_goals (
    go_enter Try.func3, Try.ntmps3
    go_wp2_with (first
      | (go_at_call 9; refine c0'.out.mono ?_; rintro e w1 ⟨rfl, rfl⟩)
      | (go_at_call 10; refine (HST.out.kcall CF.out).mono ?_; rintro e w3 ⟨rfl, h3⟩; obtain ⟨a0x, a1x, a2x, a3x, a4x, a5x⟩ := LOW.out.below h3.below HLT.out; have H3 := Lib.hid h3; clear h3)
      | (go_at_call 11; refine (H3.out.xcall CX.out).mono ?_; rintro e w4 ⟨rfl, h4⟩; obtain ⟨a0y, a1y, a2y, a3y, a4y, a5y⟩ := LOW.out.below h4.below HLT.out; have H4 := Lib.hid h4; clear h4)
      | (go_at_call 12; refine (OK.out _ _ _ H4.out).mono ?_; rintro e w5 ⟨x, rfl, hb5, hy⟩; obtain ⟨a0z, a1z, a2z, a3z, a4z, a5z⟩ := LOW.out.below hb5 HLT.out; have HYN := Lib.hid hy; clear hb5 hy)
      | (go_at_call 13; refine HYN.out.mono ?_; rintro e w6 ⟨y, rfl, p, s, hp, e1, e2, e3, e4, hz, h6⟩; have H6 := Lib.hid h6; have HZ0 := Lib.hid hz; have HP := Lib.hid hp; have E1 := Lib.hid e1; have E2 := Lib.hid e2; have E3 := Lib.hid e3; have E4 := Lib.hid e4; clear h6 hz hp e1 e2 e3 e4))
    go_loopw [13] (fun i wr => ∃ (j : Nat) (s' : FSt), j ≤ len ∧ j ≤ 100 ∧ i = .int .i64 j ∧ (∀ i, (s'.z i).length = p.mx * wide p.v) ∧ BothF (w.heap.size + 1 + 1) ((w.alloc (.cells #[.int .i64 k, .int .i64 key, .int .i64 v, .int .i64 mx] 23)).alloc (.cells #[.int .i64 c0, .int .i64 c1] 24)) p s' s' wr) (fun i _ => len - (intOf i).toNat)
    case atStart => exact ⟨0, s, by omega, by omega, rfl, HZ0.out, H6.out⟩
    case round =>
      clear H6 HYN H4 H3 HST CF CX OK HZ0
      obtain ⟨j, s', hk1, hk2, rfl, hz, hB⟩ := hrel
      have HB := Lib.hid hB
      have HZ := Lib.hid hz
      clear hB hz
      by_cases hlt : j < len ∧ j < 100
      · obtain ⟨hlt, hlt2⟩ := hlt
        obtain ⟨b, off, kd, ky, vl, fl, cp, uu, rfl, hbw, hd, bu⟩ := HA.out j hlt
        have BU := Lib.hid bu
        obtain ⟨t0, t1, t2, t3, t4, t5⟩ := hd
        have hc : ∀ o, wr.cell? ⟨b, o, none⟩ = w.cell? ⟨b, o, none⟩ := fun o => (HB.out.below.cell (p := ⟨b, o, none⟩) (by show b < w.heap.size + 1 + 1; omega)).trans (BL.out.cell (p := ⟨b, o, none⟩) hbw)
        rw [← hc] at t0 t1 t2 t3 t4 t5
        clear hc bu
        have g1 : decide (j < len) = true := decide_eq_true hlt
        have g2 : decide (j < 100) = true := decide_eq_true hlt2
        have i2 : (j : Int) < (len : Int) := by omega
        have i3 : (j : Int) < 100 := by omega
        have hd := fdo_any HP.out HB.out HZ.out kd ky vl fl cp uu BU.out
        unfold xp yp at hd
        rw [E1.out, E3.out, E4.out] at hd
        have HD := Lib.hid hd
        have HJ := Lib.hid (And.intro hlt hlt2)
        clear HB HA hd hlt hlt2 hbw hk1 hk2
        go_wp2_with (go_at_call 14; refine HD.out.mono ?_; rintro e w7 ⟨rfl, s2, hz2, hB2⟩; have HB2 := Lib.hid hB2; have HZ2 := Lib.hid hz2; clear hB2 hz2)
        all_goals go_roundw
        all_goals first
          | (simp [intOf]; have := HJ.out; omega)
          | exact ⟨j + 1, s2, by have := HJ.out; omega, by have := HJ.out; omega, by go_num, HZ2.out, HB2.out⟩
      · have hck := kregsM HB.out.mem
        rw [E1.out, E2.out] at hck
        have CK := Lib.hid hck
        have HLT2 := Lib.hid hlt
        clear HA HB LOW hlt hck
        obtain ⟨n, hn⟩ : ∃ n, n = (lives (s'.ps p.n).vs (s'.ps p.n).made).length := ⟨_, rfl⟩
        have HN := Lib.hid hn
        rw [← hn] at CK
        clear hn
        by_cases hl : j < len
        · obtain rfl : j = 100 := by have := HLT2.out; omega
          have g1 : decide (100 < len) = true := decide_eq_true hl
          have g2 : decide ((100 : Int) < (len : Int)) = true := decide_eq_true (by omega)
          go_wp2_with (first
            | (go_at_call 16; refine CK.out.mono ?_; rintro e w2 ⟨A1, cc1, rfl, hr2⟩; have HX := Lib.hid (xregsM hr2 HN.out); clear hr2)
            | (go_at_call 17; refine HX.out.mono ?_; rintro e w3 ⟨A2, cc2, rfl, hb3, hB3, hn3, N, P, Bs, r1, r2⟩; have HS := Lib.hid (xsame_any n cc1 cc2 A1 A2 N P Bs w3 hn3 r1 r2); have HB3 := Lib.hid hb3; have HZ3 := Lib.hid hB3; clear hb3 hB3 r1 r2)
            | (go_at_call 15; refine HS.out.mono ?_; rintro e w4 ⟨rfl, hb4⟩; have HB4 := Lib.hid hb4; clear hb4)
            | (go_at_call 8; refine (CZ.out _).mono ?_; rintro e w5 ⟨rfl, hb5⟩; have HB5 := Lib.hid hb5; clear hb5))
          go_ret
          exact ⟨rfl, BL.out.trans ((HB3.out.trans ((HB4.out.mono HZ3.out).trans (HB5.out.mono (Nat.le_trans HZ3.out HB4.out.size)))).mono (Nat.le_succ_of_le (Nat.le_succ _)))⟩
        · obtain rfl : j = len := by omega
          have g1 : decide (j < j) = false := by simp
          go_wp2_with (first
            | (go_at_call 16; refine CK.out.mono ?_; rintro e w2 ⟨A1, cc1, rfl, hr2⟩; have HX := Lib.hid (xregsM hr2 HN.out); clear hr2)
            | (go_at_call 17; refine HX.out.mono ?_; rintro e w3 ⟨A2, cc2, rfl, hb3, hB3, hn3, N, P, Bs, r1, r2⟩; have HS := Lib.hid (xsame_any n cc1 cc2 A1 A2 N P Bs w3 hn3 r1 r2); have HB3 := Lib.hid hb3; have HZ3 := Lib.hid hB3; clear hb3 hB3 r1 r2)
            | (go_at_call 15; refine HS.out.mono ?_; rintro e w4 ⟨rfl, hb4⟩; have HB4 := Lib.hid hb4; clear hb4)
            | (go_at_call 8; refine (CZ.out _).mono ?_; rintro e w5 ⟨rfl, hb5⟩; have HB5 := Lib.hid hb5; clear hb5))
          go_ret
          exact ⟨rfl, BL.out.trans ((HB3.out.trans ((HB4.out.mono HZ3.out).trans (HB5.out.mono (Nat.le_trans HZ3.out HB4.out.size)))).mono (Nat.le_succ_of_le (Nat.le_succ _)))⟩
  )
theorem fplays_any (k key v mx c0 c1 : Int) (A : Option Addr) (len cap : Nat) (w : World) (hlc : len ≤ cap) (hm : cap ≤ maxLen)
    (hA : ∀ i, i < len → ∃ (b off : Nat) (kd : Int) (ky vl : ByteArray) (fl cp uu : Int), A = some ⟨b, off, none⟩ ∧ b < w.heap.size ∧ DeedAt8 w b (off + i * 6) kd ky vl fl cp uu ∧ (0 ≤ uu ∧ uu ≤ 18446744073709551615)) :
    Calls Try.prog 3 #[specV k key v mx, .agg #[.int .i64 c0, .int .i64 c1], .slice A len cap] w fun e w' => e = .returned (.bool true) ∧ Below w.heap.size w w' := by
  by_cases hb : 300 < mx ∧ mx ≤ 4096
  · exact fplays_big k key v c0 c1 mx _ w hb.1 hb.2
  · obtain ⟨f, af, kf, xf⟩ := fail_pair (bm := w.heap.size + 1 + 1) (bx := w.heap.size + 1 + 1 + 1) c1
    rcases new_ways (bm := w.heap.size + 1 + 1) (bx := w.heap.size + 1 + 1 + 1) k key v mx c0 f with hN | hO
    · exact fplays_nil k key v mx c0 c1 A len cap w hb f af kf xf hN
    · exact fplays_ok k key v mx c0 c1 A len cap w hlc hm hb f af kf xf hO hA
end Go.Proofs.Ythilkgfbaddjpaa
