/-
  Package flat: a map as it lies; New.
-/
import Derived.Test.YthilkgfbaddjpaaFKey
import Derived.Deep.Cut
namespace Go.Proofs.Ythilkgfbaddjpaa
open Go Go.RowKit
set_option linter.unusedVariables false
set_option linter.unusedSimpArgs false
set_option maxRecDepth 100000
theorem own_any {w : World} {base : Nat} {e : TypeId} {s : Nat} {v : Value} {n : Nat} {xs : List Value} (h : w.ownsRow base e s v n xs) (h0 : 0 < n) :
    ∃ g c cur, v = .slice (some ⟨g, 0, none⟩) n c ∧ base ≤ g ∧ Blk w g e cur ∧ (∀ j u, xs[j]? = some u → w.cell? ⟨g, j, none⟩ = some u) := by
  rcases h.2 with ⟨rfl, rfl⟩ | ⟨g, cap, cur, rfl, hb, hg, h1, h2, h3, h4⟩
  · omega
  · refine ⟨g, cap, cur, rfl, hb, hg, fun j u hu => ?_⟩
    have := h.cells (g := g) rfl j u hu
    rw [Go.WideShapes.add_plain, Nat.zero_add] at this
    exact this
theorem keeps_grow {w w' : World} (hb : Below w.heap.size w w') : Keeps (fun _ => False) w w' := Below.keeps hb fun b h1 h2 => by omega
abbrev mapC (bm : Nat) (k v mx : Int) (V : Value) : Array Value := #[.pointer (some ⟨bm, 0, none⟩), .int .i64 k, .int .i64 4, .int .i64 v, .int .i64 mx, V]
section
variable {w : World} {S : Nat → Prop} {bm made fail : Nat} {st : Nat → Option RG} {rl : List Nat} {mv rv : Value}
/-- What New leaves: the memory with n regions more, a map behind x. -/
structure NewPost (w : World) (S : Nat → Prop) (bm made fail : Nat) (st : Nat → Option RG) (rl : List Nat) (rv : Value) (size n : Nat) (cs : Value → Array Value) (w' : World) (x : Nat) (V : Value) (S' : Nat → Prop) (st' : Nat → Option RG) (mv' : Value) : Prop where
  km : KM w' S' bm (made + n) (fail - n) st' rl mv' rv
  map : Blk w' x 77 (cs V)
  nx : ¬ S' x
  xB : w.heap.size ≤ x
  keeps : Keeps S w w'
  sub : ∀ b, S' b → S b ∨ w.heap.size ≤ b
  old : ∀ m, (m ≤ made ∨ made + n < m) → st' m = st m
  new : ∀ i, i < n → ∃ r, st' (made + 1 + i) = some r ∧ r.perm = 3 ∧ r.bytes = List.replicate size 0 ∧ r.ret = false ∧ r.row = none
theorem New_nil (v : Value) (c : Int) (k key vv mx : Int) (w : World) : Calls Try.prog 12 #[.pointer none, specV k key vv mx, .int .i64 c] w fun e w' => e = .returned (.tuple #[.pointer none, .int .i64 1]) ∧ Below w.heap.size w w' := by
  have B := Lib.hid (below_alloc w (.cells #[.int .i64 k, .int .i64 key, .int .i64 vv, .int .i64 mx] 23))
  go_enter Try.func12, Try.ntmps12
  go_wp2_with fail
  go_ret2
  exact ⟨rfl, B.out⟩
set_option maxHeartbeats 1000000 in
theorem New_arr (h : KM w S bm made fail st rl mv rv) (hf : fail = 0 ∨ 1 < fail) (hmade : made + 1 ≤ 4095) (v mx : Nat) (c : Int) (h1 : 1 ≤ v) (h2 : v ≤ 4096) (h3 : 1 ≤ mx) (h4 : mx ≤ 4096) (h5 : 1 ≤ c) (h6 : c ≤ 8) (h7 : mx * wide v ≤ 1048576) :
    Calls Try.prog 12 #[.pointer (some ⟨bm, 0, none⟩), specV 2 4 v mx, .int .i64 c] w fun e w' => ∃ x S' st' mv', e = .returned (.tuple #[.pointer (some ⟨x, 0, none⟩), .int .i64 0]) ∧ NewPost w S bm made fail st rl rv (mx * wide v) 1 (mapC bm 2 v mx) w' x (sharedV (addr (made + 1) 0)) S' st' mv' := by
  obtain ⟨q, hq⟩ : ∃ q, mx * wide v = q := ⟨_, rfl⟩
  have hw1 : 1 ≤ wide v := by unfold wide; omega
  have hq1 : 1 ≤ q := by rw [← hq]; exact Nat.mul_pos (by omega) (by omega)
  have e0 : (mx : Int) * (wide v : Int) = (q : Int) := by rw [← hq]; simp
  have e3 : IntKind.i64.wrap ((mx : Int) * (wide v : Int)) = (q : Int) := by rw [e0]; exact IntWalk.i64_in _ (by omega)
  have CF := Lib.hid (fits_arr v mx c h1 h2 h3 h4 h5 h6 h7)
  have CW := Lib.hid (width_any 2 4 mx v h2)
  have CA := Lib.hid (fun (W : World) (hk : KM W S bm made fail st rl mv rv) => allocs_ok hk 1 hf hmade q hq1 (by omega))
  have HK := Lib.hid h
  have HN : Hid (¬ S w.heap.size) := fun hs => Nat.lt_irrefl _ (h.lt _ hs)
  rw [hq]
  have HB := Lib.hid (Blk.new w 23 #[.int .i64 2, .int .i64 4, .int .i64 v, .int .i64 mx])
  have B0 := Lib.hid (below_alloc w (.cells #[.int .i64 2, .int .i64 4, .int .i64 v, .int .i64 mx] 23))
  clear h hf hmade h1 h2 h3 h4 h5 h6 h7 hq hw1 hq1 e0
  generalize wide v = d at *
  go_enter Try.func12, Try.ntmps12
  go_upto_region 3 with (go_at_call 25; refine (CF.out _).mono ?_; rintro e w1 ⟨rfl, hb⟩; have B1 := Lib.hid (below_then B0.out hb); have HB1 := Lib.hid (blk_below HB.out hb); clear hb)
  have K1 := Lib.hid (HK.out.keeps (keeps_grow B1.out) (fun b _ hf => hf))
  have S1 : Hid (w1.cell? ⟨w.heap.size, 0, none⟩ = some (.int .i64 2) ∧ w1.cell? ⟨w.heap.size, 1, none⟩ = some (.int .i64 4) ∧ w1.cell? ⟨w.heap.size, 2, none⟩ = some (.int .i64 v) ∧ w1.cell? ⟨w.heap.size, 3, none⟩ = some (.int .i64 mx)) := ⟨HB1.out.cell 0, HB1.out.cell 1, HB1.out.cell 2, HB1.out.cell 3⟩
  clear B0 HB HK CF
  go_region_held3 (fun W => W.cell? ⟨w.heap.size, 0, none⟩ = some (.int .i64 2) ∧ W.cell? ⟨w.heap.size, 1, none⟩ = some (.int .i64 4) ∧ W.cell? ⟨w.heap.size, 2, none⟩ = some (.int .i64 v) ∧ W.cell? ⟨w.heap.size, 3, none⟩ = some (.int .i64 mx))
    (first | exact S1.out | exact S2.out | exact S3'.out)
    (first
      | (go_at_call 27; refine (regions_arr _ _).mono ?_; rintro e wq ⟨rfl, rfl⟩)
      | (go_at_call 28; refine (CW.out _).mono ?_; rintro e w2 ⟨rfl, hb⟩; have B2 := Lib.hid (below_then (below_drew1 B1.out) hb); have HB2 := Lib.hid (blk_below (blk_drew HB1.out) hb); have K2 := Lib.hid (K1.out.keeps (keeps_grow (below_then (below_drew1 (Below.refl _ w1)) hb)) (fun b _ hf => hf)); have S2 : Hid (w2.cell? ⟨w.heap.size, 0, none⟩ = some (.int .i64 2) ∧ w2.cell? ⟨w.heap.size, 1, none⟩ = some (.int .i64 4) ∧ w2.cell? ⟨w.heap.size, 2, none⟩ = some (.int .i64 v) ∧ w2.cell? ⟨w.heap.size, 3, none⟩ = some (.int .i64 mx)) := ⟨HB2.out.cell 0, HB2.out.cell 1, HB2.out.cell 2, HB2.out.cell 3⟩; clear hb)
      | (go_at_call 26; refine (CA.out _ K2.out).mono ?_; rintro e w3 ⟨vv, S3, st3, mv3, rfl, ha⟩; have HA := Lib.hid ha; have HB3 := Lib.hid (HB2.out.keeps ha.keeps HN.out); have S3' : Hid (w3.cell? ⟨w.heap.size, 0, none⟩ = some (.int .i64 2) ∧ w3.cell? ⟨w.heap.size, 1, none⟩ = some (.int .i64 4) ∧ w3.cell? ⟨w.heap.size, 2, none⟩ = some (.int .i64 v) ∧ w3.cell? ⟨w.heap.size, 3, none⟩ = some (.int .i64 mx)) := ⟨HB3.out.cell 0, HB3.out.cell 1, HB3.out.cell 2, HB3.out.cell 3⟩; clear ha))
  obtain ⟨g, cc, cur, rfl, hg, hgb, hgc⟩ := own_any HA.out.row (by decide)
  have hg0 : w3.cell? ⟨g, 0, none⟩ = some (.int .u64 (addr (made + 1) 0)) := hgc 0 _ rfl
  have HG := Lib.hid hgb
  have S4 : Hid (w3.cell? ⟨w.heap.size, 0, none⟩ = some (.int .i64 2) ∧ w3.cell? ⟨w.heap.size, 1, none⟩ = some (.int .i64 4) ∧ w3.cell? ⟨w.heap.size, 2, none⟩ = some (.int .i64 v) ∧ w3.cell? ⟨w.heap.size, 3, none⟩ = some (.int .i64 mx) ∧ w3.cell? ⟨g, 0, none⟩ = some (.int .u64 (addr (made + 1) 0))) := ⟨HB3.out.cell 0, HB3.out.cell 1, HB3.out.cell 2, HB3.out.cell 3, hg0⟩
  have HB4 := Lib.hid (HB3.out.alloc (.cells (mapC bm 2 v mx (sharedV (addr (made + 1) 0))) 77))
  have S5 : Hid ((w3.alloc (.cells (mapC bm 2 v mx (sharedV (addr (made + 1) 0))) 77)).cell? ⟨w.heap.size, 0, none⟩ = some (.int .i64 2) ∧ (w3.alloc (.cells (mapC bm 2 v mx (sharedV (addr (made + 1) 0))) 77)).cell? ⟨w.heap.size, 1, none⟩ = some (.int .i64 4) ∧ (w3.alloc (.cells (mapC bm 2 v mx (sharedV (addr (made + 1) 0))) 77)).cell? ⟨w.heap.size, 2, none⟩ = some (.int .i64 v) ∧ (w3.alloc (.cells (mapC bm 2 v mx (sharedV (addr (made + 1) 0))) 77)).cell? ⟨w.heap.size, 3, none⟩ = some (.int .i64 mx) ∧ (w3.alloc (.cells (mapC bm 2 v mx (sharedV (addr (made + 1) 0))) 77)).cell? ⟨g, 0, none⟩ = some (.int .u64 (addr (made + 1) 0))) := ⟨HB4.out.cell 0, HB4.out.cell 1, HB4.out.cell 2, HB4.out.cell 3, ((HG.out.alloc _).cell 0).trans ((HG.out.cell 0).symm.trans hg0)⟩
  have CL := Lib.hid (lay_arr g cc (addr (made + 1) 0) 1 (by decide) w3.drew hg0)
  clear hg0 hgb hgc S1 S2 S3' HB1 HB2 CW CA B1 K1
  go_upto_region 6 with fail
  go_region_held3 (fun W => W.cell? ⟨w.heap.size, 0, none⟩ = some (.int .i64 2) ∧ W.cell? ⟨w.heap.size, 1, none⟩ = some (.int .i64 4) ∧ W.cell? ⟨w.heap.size, 2, none⟩ = some (.int .i64 v) ∧ W.cell? ⟨w.heap.size, 3, none⟩ = some (.int .i64 mx) ∧ W.cell? ⟨g, 0, none⟩ = some (.int .u64 (addr (made + 1) 0)))
    (first | exact S4.out | exact S5.out)
    (first
      | (go_at_call 29; refine CL.out.mono ?_; rintro e w4 ⟨rfl, rfl⟩))
  go_wp2_with fail
  go_ret2
  have kf : Keeps (fun _ => False) w3 (w3.alloc (.cells (mapC bm 2 v mx (sharedV (addr (made + 1) 0))) 77)).drew := ((Keeps.refl _ _).alloc _).drew
  have kk : Keeps S w w3 := ((keeps_grow B2.out).mono fun _ hf => hf.elim).trans (HA.out.keeps.mono fun b hb => .inl hb)
  have h2 := B2.out.size
  have h3 := HA.out.keeps.size
  exact ⟨w3.heap.size, S3, st3, mv3, rfl, HA.out.km.keeps kf (fun b _ hf => hf), blk_drew (Blk.new w3 _ _), fun hs => Nat.lt_irrefl _ (HA.out.km.lt _ hs), by omega, kk.trans (kf.mono fun _ hf => hf.elim),
    fun b hb => (HA.out.sub b hb).imp id fun h => by omega, HA.out.old, HA.out.new⟩
/-- A map of the law's own making, and its memory. -/
structure FS (B : Nat) (w0 w : World) (S : Nat → Prop) (bm made fail : Nat) (st : Nat → Option RG) (rl : List Nat) (mv rv : Value) (x : Nat) (cs : Array Value) : Prop where
  km : KM w S bm made fail st rl mv rv
  map : Blk w x 77 cs
  nx : ¬ S x
  below : Below B w0 w
  base : ∀ b, S b → B ≤ b
  sz : B ≤ w.heap.size
theorem FS.grow {B : Nat} {w0 w' : World} {x : Nat} {cs : Array Value} (h : FS B w0 w S bm made fail st rl mv rv x cs) (hb : Below w.heap.size w w') : FS B w0 w' S bm made fail st rl mv rv x cs :=
  ⟨h.km.keeps (keeps_grow hb) (fun b _ hf => hf), blk_below h.map hb, h.nx, h.below.trans (hb.mono h.sz), h.base, Nat.le_trans h.sz hb.size⟩
theorem FS.turn {B : Nat} {w0 w' : World} {x : Nat} {cs : Array Value} {made' fail' : Nat} {st' : Nat → Option RG} {rl' : List Nat} {mv' rv' : Value} (h : FS B w0 w S bm made fail st rl mv rv x cs) (hk : KM w' (more S w w') bm made' fail' st' rl' mv' rv') (kk : Keeps S w w') : FS B w0 w' (more S w w') bm made' fail' st' rl' mv' rv' x cs :=
  ⟨hk, h.map.keeps kk h.nx, fun hx => by
    rcases hx with hx | ⟨hx, _⟩
    · exact h.nx hx
    · have := h.map.lt; omega, h.below.trans (kk.below h.base h.sz), fun b hb => by
    rcases hb with hb | ⟨hb, _⟩
    · exact h.base b hb
    · have := h.sz; omega, Nat.le_trans h.sz kk.size⟩
theorem FS.made_ {B : Nat} {w0 w' : World} {size n : Nat} {cs : Value → Array Value} {x : Nat} {V : Value} {S' : Nat → Prop} {st' : Nat → Option RG} {mv' : Value} (hb : Below B w0 w) (hS : ∀ b, S b → B ≤ b) (hz : B ≤ w.heap.size) (h : NewPost w S bm made fail st rl rv size n cs w' x V S' st' mv') :
    FS B w0 w' S' bm (made + n) (fail - n) st' rl mv' rv x (cs V) :=
  ⟨h.km, h.map, h.nx, hb.trans (h.keeps.below hS hz), fun b hb => by
    rcases h.sub b hb with hb | hb
    · exact hS b hb
    · omega, Nat.le_trans hz h.keeps.size⟩
end
end Go.Proofs.Ythilkgfbaddjpaa
