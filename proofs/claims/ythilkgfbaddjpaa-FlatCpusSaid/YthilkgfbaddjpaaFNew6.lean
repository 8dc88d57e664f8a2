/-
  Package flat: New of an array for each CPU.
-/
import Derived.Test.YthilkgfbaddjpaaFFit6
import Derived.Test.YthilkgfbaddjpaaFPut
namespace Go.Proofs.Ythilkgfbaddjpaa
open Go Go.RowKit
set_option linter.unusedVariables false
set_option linter.unusedSimpArgs false
set_option maxRecDepth 100000
section
variable {w : World} {S : Nat → Prop} {bm made fail : Nat} {st : Nat → Option RG} {rl : List Nat} {mv rv : Value}
set_option maxHeartbeats 1000000 in
theorem New_cpu (h : KM w S bm made fail st rl mv rv) (n : Nat) (hf : fail = 0 ∨ n < fail) (hmade : made + n ≤ 4095) (v mx : Nat) (h1 : 1 ≤ v) (h2 : v ≤ 4096) (h3 : 1 ≤ mx) (h4 : mx ≤ 4096) (h5 : 1 ≤ n) (h6 : n ≤ 8) (h7 : mx * wide v ≤ 1048576) :
    Calls Try.prog 12 #[.pointer (some ⟨bm, 0, none⟩), specV 6 4 v mx, .int .i64 n] w fun e w' => ∃ x g cc S' st' mv', e = .returned (.tuple #[.pointer (some ⟨x, 0, none⟩), .int .i64 0]) ∧ NewPost w S bm made fail st rl rv (mx * wide v) n (mapC bm 6 v mx) w' x (eachV (some ⟨g, 0, none⟩) n cc) S' st' mv' ∧ ¬ S' g ∧ g < w'.heap.size ∧ ∀ i, i < n → w'.cell? ⟨g, i, none⟩ = some (.int .u64 (addr (made + 1 + i) 0)) := by
  obtain ⟨q, hq⟩ : ∃ q, mx * wide v = q := ⟨_, rfl⟩
  have hw1 : 1 ≤ wide v := by unfold wide; omega
  have hq1 : 1 ≤ q := by rw [← hq]; exact Nat.mul_pos (by omega) (by omega)
  have e0 : (mx : Int) * (wide v : Int) = (q : Int) := by rw [← hq]; simp
  have e3 : IntKind.i64.wrap ((mx : Int) * (wide v : Int)) = (q : Int) := by rw [e0]; exact IntWalk.i64_in _ (by omega)
  have CF := Lib.hid (fits_cpu v mx n h1 h2 h3 h4 (by omega) (by omega) h7)
  have CW := Lib.hid (width_any 6 4 mx v h2)
  have CA := Lib.hid (fun (W : World) (hk : KM W S bm made fail st rl mv rv) => allocs_ok hk n hf hmade q hq1 (by omega))
  have HK := Lib.hid h
  have HN : Hid (¬ S w.heap.size) := fun hs => Nat.lt_irrefl _ (h.lt _ hs)
  rw [hq]
  have H5 := Lib.hid h5
  have HB := Lib.hid (Blk.new w 23 #[.int .i64 6, .int .i64 4, .int .i64 v, .int .i64 mx])
  have B0 := Lib.hid (below_alloc w (.cells #[.int .i64 6, .int .i64 4, .int .i64 v, .int .i64 mx] 23))
  clear h hf hmade h1 h2 h3 h4 h5 h6 h7 hq hw1 hq1 e0
  generalize wide v = d at *
  go_enter Try.func12, Try.ntmps12
  go_upto_region 3 with (go_at_call 25; refine (CF.out _).mono ?_; rintro e w1 ⟨rfl, hb⟩; have B1 := Lib.hid (below_then B0.out hb); have HB1 := Lib.hid (blk_below HB.out hb); clear hb)
  have K1 := Lib.hid (HK.out.keeps (keeps_grow B1.out) (fun b _ hf => hf))
  have S1 : Hid (w1.cell? ⟨w.heap.size, 0, none⟩ = some (.int .i64 6) ∧ w1.cell? ⟨w.heap.size, 1, none⟩ = some (.int .i64 4) ∧ w1.cell? ⟨w.heap.size, 2, none⟩ = some (.int .i64 v) ∧ w1.cell? ⟨w.heap.size, 3, none⟩ = some (.int .i64 mx)) := ⟨HB1.out.cell 0, HB1.out.cell 1, HB1.out.cell 2, HB1.out.cell 3⟩
  clear B0 HB HK CF
  go_region_held3 (fun W => W.cell? ⟨w.heap.size, 0, none⟩ = some (.int .i64 6) ∧ W.cell? ⟨w.heap.size, 1, none⟩ = some (.int .i64 4) ∧ W.cell? ⟨w.heap.size, 2, none⟩ = some (.int .i64 v) ∧ W.cell? ⟨w.heap.size, 3, none⟩ = some (.int .i64 mx))
    (first | exact S1.out | exact S2.out | exact S3'.out)
    (first
      | (go_at_call 27; refine (regions_cpu _ _).mono ?_; rintro e wq ⟨rfl, rfl⟩)
      | (go_at_call 28; refine (CW.out _).mono ?_; rintro e w2 ⟨rfl, hb⟩; have B2 := Lib.hid (below_then (below_drew1 B1.out) hb); have HB2 := Lib.hid (blk_below (blk_drew HB1.out) hb); have K2 := Lib.hid (K1.out.keeps (keeps_grow (below_then (below_drew1 (Below.refl _ w1)) hb)) (fun b _ hf => hf)); have S2 : Hid (w2.cell? ⟨w.heap.size, 0, none⟩ = some (.int .i64 6) ∧ w2.cell? ⟨w.heap.size, 1, none⟩ = some (.int .i64 4) ∧ w2.cell? ⟨w.heap.size, 2, none⟩ = some (.int .i64 v) ∧ w2.cell? ⟨w.heap.size, 3, none⟩ = some (.int .i64 mx)) := ⟨HB2.out.cell 0, HB2.out.cell 1, HB2.out.cell 2, HB2.out.cell 3⟩; clear hb)
      | (go_at_call 26; refine (CA.out _ K2.out).mono ?_; rintro e w3 ⟨vv, S3, st3, mv3, rfl, ha⟩; have HA := Lib.hid ha; have HB3 := Lib.hid (HB2.out.keeps ha.keeps HN.out); have S3' : Hid (w3.cell? ⟨w.heap.size, 0, none⟩ = some (.int .i64 6) ∧ w3.cell? ⟨w.heap.size, 1, none⟩ = some (.int .i64 4) ∧ w3.cell? ⟨w.heap.size, 2, none⟩ = some (.int .i64 v) ∧ w3.cell? ⟨w.heap.size, 3, none⟩ = some (.int .i64 mx)) := ⟨HB3.out.cell 0, HB3.out.cell 1, HB3.out.cell 2, HB3.out.cell 3⟩; clear ha))
  obtain ⟨g, cc, cur, rfl, hg, hgb, hgc⟩ := own_any HA.out.row (by have := H5.out; omega)
  have NG : Hid (¬ S3 g) := HA.out.apart g rfl
  have HG := Lib.hid hgb
  have HGC := Lib.hid hgc
  have S4 : Hid (w3.cell? ⟨w.heap.size, 0, none⟩ = some (.int .i64 6) ∧ w3.cell? ⟨w.heap.size, 1, none⟩ = some (.int .i64 4) ∧ w3.cell? ⟨w.heap.size, 2, none⟩ = some (.int .i64 v) ∧ w3.cell? ⟨w.heap.size, 3, none⟩ = some (.int .i64 mx)) := ⟨HB3.out.cell 0, HB3.out.cell 1, HB3.out.cell 2, HB3.out.cell 3⟩
  have HB4 := Lib.hid (HB3.out.alloc (.cells (mapC bm 6 v mx (eachV (some ⟨g, 0, none⟩) n cc)) 77))
  have S5 : Hid ((w3.alloc (.cells (mapC bm 6 v mx (eachV (some ⟨g, 0, none⟩) n cc)) 77)).cell? ⟨w.heap.size, 0, none⟩ = some (.int .i64 6) ∧ (w3.alloc (.cells (mapC bm 6 v mx (eachV (some ⟨g, 0, none⟩) n cc)) 77)).cell? ⟨w.heap.size, 1, none⟩ = some (.int .i64 4) ∧ (w3.alloc (.cells (mapC bm 6 v mx (eachV (some ⟨g, 0, none⟩) n cc)) 77)).cell? ⟨w.heap.size, 2, none⟩ = some (.int .i64 v) ∧ (w3.alloc (.cells (mapC bm 6 v mx (eachV (some ⟨g, 0, none⟩) n cc)) 77)).cell? ⟨w.heap.size, 3, none⟩ = some (.int .i64 mx)) := ⟨HB4.out.cell 0, HB4.out.cell 1, HB4.out.cell 2, HB4.out.cell 3⟩
  have CL := Lib.hid (lay_cpu (some ⟨g, 0, none⟩) n cc w3.drew)
  clear hgb hgc S1 S2 S3' HB1 HB2 CW CA B1 K1
  go_upto_region 6 with fail
  go_region_held3 (fun W => W.cell? ⟨w.heap.size, 0, none⟩ = some (.int .i64 6) ∧ W.cell? ⟨w.heap.size, 1, none⟩ = some (.int .i64 4) ∧ W.cell? ⟨w.heap.size, 2, none⟩ = some (.int .i64 v) ∧ W.cell? ⟨w.heap.size, 3, none⟩ = some (.int .i64 mx))
    (first | exact S4.out | exact S5.out)
    (first
      | (go_at_call 29; refine CL.out.mono ?_; rintro e w4 ⟨rfl, rfl⟩))
  go_wp2_with fail
  go_ret2
  have kf : Keeps (fun _ => False) w3 (w3.alloc (.cells (mapC bm 6 v mx (eachV (some ⟨g, 0, none⟩) n cc)) 77)).drew := ((Keeps.refl _ _).alloc _).drew
  have kk : Keeps S w w3 := ((keeps_grow B2.out).mono fun _ hf => hf.elim).trans (HA.out.keeps.mono fun b hb => .inl hb)
  have h2 := B2.out.size
  have h3 := HA.out.keeps.size
  refine ⟨w3.heap.size, g, cc, S3, st3, mv3, rfl, ⟨HA.out.km.keeps kf (fun b _ hf => hf), blk_drew (Blk.new w3 _ _), fun hs => Nat.lt_irrefl _ (HA.out.km.lt _ hs), by omega, kk.trans (kf.mono fun _ hf => hf.elim),
    fun b hb => (HA.out.sub b hb).imp id fun h => by omega, HA.out.old, HA.out.new⟩, NG.out, Nat.lt_of_lt_of_le HG.out.lt kf.size, fun i hi => ?_⟩
  refine (World.cell?_of_block (kf.block g HG.out.lt fun hf => hf)).trans (HGC.out i _ ?_)
  unfold firstsC
  rw [List.getElem?_map, List.getElem?_range hi]
  rfl
end
end Go.Proofs.Ythilkgfbaddjpaa
