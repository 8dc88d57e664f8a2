/-
  Package trie: an entry goes: the walk, way by way. Package trie: an entry goes: whole.
-/
import Derived.Test.YtomhflaofipccaaP22
import Derived.Test.YtomhflaofipccaaP23
namespace Go.Proofs.Ytomhflaofipccaa
open Go Go.RowKit Go.Maps
set_option linter.unusedVariables false
set_option linter.unusedSimpArgs false
set_option maxRecDepth 100000
abbrev dwT : TypeId := 98
abbrev dwV (pb wb : Nat) : Value := .func (.func 44) #[] #[tp pb, tp wb]
/-- What the walk captured. -/
structure DW (w : World) (pb wb : Nat) (pf : ByteArray) (pl : Nat) : Prop where
  p : Blk w pb preT (preC pf pl)
  w : Blk w wb dwT #[dwV pb wb]
section
variable {w w' : World} {pb wb : Nat} {pf : ByteArray} {pl : Nat}
theorem DW.keeps {S : Nat → Prop} (h : DW w pb wb pf pl) (k : Keeps S w w') (h1 : ¬ S pb) (h3 : ¬ S wb) : DW w' pb wb pf pl := ⟨h.p.keeps k h1, h.w.keeps k h3⟩
theorem DW.quiet (h : DW w pb wb pf pl) (k : Qt w w') : DW w' pb wb pf pl := h.keeps k (fun h => h) (fun h => h)
theorem DW.node {b : Nat} {cs : Array Value} (h : DW w pb wb pf pl) (hb : Blk w b nodeT cs) : pb ≠ b ∧ wb ≠ b := ⟨h.p.ne_ hb (by decide), h.w.ne_ hb (by decide)⟩
theorem DW.set_ {b i : Nat} {cs : Array Value} (h : DW w pb wb pf pl) (hb : Blk w b nodeT cs) (v : Value) : DW (w.setCell ⟨b, i, none⟩ v) pb wb pf pl := ⟨h.p.far (h.node hb).1 v, h.w.far (h.node hb).2 v⟩
theorem ptr_form (t : Tr) : ∃ o, t.ptr = .pointer o := by
  cases t with
  | nil => exact ⟨_, rfl⟩
  | node => exact ⟨_, rfl⟩
theorem drop_here {b : Nat} {f : ByteArray} {len m : Nat} {l r : Tr} (h : DW w pb wb pf pl) (hb : Blk w b nodeT (nodeC f len m l.ptr r.ptr)) (hl : len = pl) :
    Calls Try.prog 44 #[tp b, tp pb, tp wb] w fun e w' => e = .returned (Tr.node b f len 0 l r).need.ptr ∧ DW w' pb wb pf pl ∧ Blk w' b nodeT (nodeC f len 0 l.ptr r.ptr) ∧ Keeps (fun x => x = b) w w' := by
  have g2 : ((len : Int) == (pl : Int)) = true := by simp; omega
  have HB := Lib.hid hb; have H := Lib.hid h
  have x1 : w.cell? ⟨b, 1, none⟩ = some (.int .i64 len) := hb.cell 1
  have x2 : w.cell? ⟨b, 2, none⟩ = some (.int .u64 (addr m 0)) := hb.cell 2
  have y1 : w.cell? ⟨pb, 1, none⟩ = some (.int .i64 pl) := h.p.cell 1
  have fz : w.frozen? ⟨b, 2, none⟩ = false := hb.frozen 2
  clear h hb hl
  go_enter Try.func44, Try.ntmps44
  go_upto_region 1 with fail
  go_quiet (fail)
  have HB2 : Hid (Blk ((w.drewN nq).setCell ⟨b, 2, none⟩ (.int .u64 0)) b nodeT (nodeC f len 0 l.ptr r.ptr)) := (HB.out.drewN nq).set_ 2 (.int .u64 (addr 0 0))
  have CN := Lib.hid (need_any HB2.out)
  have HD : Hid (DW ((w.drewN nq).setCell ⟨b, 2, none⟩ (.int .u64 0)) pb wb pf pl) := Lib.hid ((H.out.quiet ((Keeps.refl _ w).drewN' nq)).set_ (HB.out.drewN nq) _)
  have HK : Hid (Keeps (fun x => x = b) w ((w.drewN nq).setCell ⟨b, 2, none⟩ (.int .u64 0))) := Lib.hid (((Keeps.refl (fun x => x = b) w).drewN' nq).setCell (p := ⟨b, 2, none⟩) (.inl rfl) _)
  go_wp2_with (go_at_call 45; refine CN.out.mono ?_; rintro e w1 ⟨rfl, rfl⟩)
  go_ret
  exact ⟨rfl, HD.out, HB2.out, HK.out⟩
set_option maxHeartbeats 4000000 in
theorem drop_0 {b : Nat} {f : ByteArray} {len m : Nat} {l r : Tr} (h : DW w pb wb pf pl) (hb : Blk w b nodeT (nodeC f len m l.ptr r.ptr)) {K : Nat} (hp : Pre K f len) (hq : Pre K pf pl) (hl : len < pl) (hd : bitB pf len = false)
    (R : Tr → World → World → Prop) (hR : ∀ c u v, R c u v → DW v pb wb pf pl ∧ Keeps (fun x => x ∈ l.blocks) u v) (hnb : b ∉ l.blocks)
    (ih : ∀ w2, DW w2 pb wb pf pl → Keeps (fun _ => False) w w2 → Calls Try.prog 44 #[l.ptr, tp pb, tp wb] w2 (fun e w3 => ∃ t2 : Tr, e = .returned t2.ptr ∧ R t2 w2 w3)) :
    Calls Try.prog 44 #[tp b, tp pb, tp wb] w fun e w' => ∃ (t2 : Tr) (w2 w3 : World), e = .returned (Tr.node b f len m t2 r).need.ptr ∧ Qt w w2 ∧ R t2 w2 w3 ∧ DW w' pb wb pf pl ∧ w' = w3.setCell ⟨b, 3, none⟩ t2.ptr ∧ Blk w' b nodeT (nodeC f len m t2.ptr r.ptr) := by
  have hle2 := hq.le
  have hsz := hq.sz
  have k2 := hq.k2
  have k5 := hq.k5
  have CB := Lib.hid (fun W => bit_any pf pl len (by omega) (by omega) W)
  have hbi : bitI pf len = 0 := by unfold bitI; rw [hd]; rfl
  rw [hbi] at CB
  have IH := Lib.hid ih
  have HR := Lib.hid hR
  have HNB := Lib.hid hnb
  have g2 : ((len : Int) == (pl : Int)) = false := by simp; omega
  have HB := Lib.hid hb; have H := Lib.hid h
  have x1 : w.cell? ⟨b, 1, none⟩ = some (.int .i64 len) := hb.cell 1
  have y1 : w.cell? ⟨pb, 1, none⟩ = some (.int .i64 pl) := h.p.cell 1
  clear ih hR hd hbi hsz hnb h hb hp hq
  go_enter Try.func44, Try.ntmps44
  go_upto_region 1 with fail
  go_quiet (fail)
  go_upto_region 4 with fail
  have HL3 := Lib.hid (H.out.quiet ((Keeps.refl _ w).drewN' nq))
  have HN3 := Lib.hid (HB.out.drewN nq)
  have HK3 : Hid (Qt w (w.drewN nq)) := Lib.hid ((Keeps.refl _ w).drewN' nq)
  clear x1 y1
  generalize w.drewN nq = w3 at HL3 HN3 HK3 ⊢
  have HL3d := Lib.hid (HL3.out.quiet (Keeps.refl _ w3).drew)
  have HN3d := Lib.hid HN3.out.drew
  have S3 : Hid (w3.cell? ⟨b, 1, none⟩ = some (.int .i64 len) ∧ w3.cell? ⟨pb, 0, none⟩ = some (.string pf) ∧ w3.cell? ⟨pb, 1, none⟩ = some (.int .i64 pl)) := ⟨HN3.out.cell 1, HL3.out.p.cell 0, HL3.out.p.cell 1⟩
  go_region_held3 (fun W => W.cell? ⟨b, 1, none⟩ = some (.int .i64 len) ∧ W.cell? ⟨pb, 0, none⟩ = some (.string pf) ∧ W.cell? ⟨pb, 1, none⟩ = some (.int .i64 pl))
    (first | exact S3.out | exact S4.out)
    (first | (go_at_call 39; refine (CB.out _).mono ?_; rintro e w4 ⟨rfl, hq4⟩; have HL4 := Lib.hid (HL3d.out.quiet hq4); have HN4 := Lib.hid (HN3d.out.quiet hq4); have HK4 := Lib.hid (HK3.out.then_ (Keeps.undrew hq4)); have S4 : Hid (w4.cell? ⟨b, 1, none⟩ = some (.int .i64 len) ∧ w4.cell? ⟨pb, 0, none⟩ = some (.string pf) ∧ w4.cell? ⟨pb, 1, none⟩ = some (.int .i64 pl)) := ⟨HN4.out.cell 1, HL4.out.p.cell 0, HL4.out.p.cell 1⟩; clear hq4))
  go_upto_region 5 with fail
  have HL4d := Lib.hid (HL4.out.quiet (Keeps.refl _ w4).drew)
  have HN4d := Lib.hid HN4.out.drew
  have HK4d := Lib.hid HK4.out.drew
  have CI := Lib.hid (IH.out _ HL4d.out HK4d.out)
  have z0 : w4.cell? ⟨wb, 0, none⟩ = some (dwV pb wb) := HL4.out.w.cell 0
  have z2 : w4.cell? ⟨b, 3, none⟩ = some l.ptr := HN4.out.cell 3
  go_region_law (first
    | (go_simp; go_at_call 44; refine CI.out.mono ?_; rintro e w5 ⟨t2, rfl, hr⟩; obtain ⟨o, ho⟩ := ptr_form t2; rw [ho]; have HR5 := Lib.hid hr; have hl5 := (HR.out _ _ _ hr).1; have hn5 := HN4d.out.keeps (HR.out _ _ _ hr).2 HNB.out; have z5 : w5.cell? ⟨b, 3, none⟩ = some l.ptr := hn5.cell 3; have z6 := hn5.frozen 3; have HL5 := Lib.hid hl5; have HN5 := Lib.hid hn5; have HO := Lib.hid ho; clear hr hl5 hn5 ho))
  all_goals
    have HB6 : Hid (Blk (w5.setCell ⟨b, 3, none⟩ (.pointer o)) b nodeT (nodeC f len m t2.ptr r.ptr)) := by
      have hh := HN5.out.set_ 3 (.pointer o)
      rw [HO.out]
      exact hh
    have CN := Lib.hid (need_any HB6.out)
    go_wp2_with (go_at_call 45; refine CN.out.mono ?_; rintro e w6 ⟨rfl, rfl⟩)
    go_ret
    exact ⟨t2, _, w5, rfl, HK4d.out, HR5.out, HL5.out.set_ HN5.out _, by rw [HO.out], HB6.out⟩
set_option maxHeartbeats 4000000 in
theorem drop_1 {b : Nat} {f : ByteArray} {len m : Nat} {l r : Tr} (h : DW w pb wb pf pl) (hb : Blk w b nodeT (nodeC f len m l.ptr r.ptr)) {K : Nat} (hp : Pre K f len) (hq : Pre K pf pl) (hl : len < pl) (hd : bitB pf len = true)
    (R : Tr → World → World → Prop) (hR : ∀ c u v, R c u v → DW v pb wb pf pl ∧ Keeps (fun x => x ∈ r.blocks) u v) (hnb : b ∉ r.blocks)
    (ih : ∀ w2, DW w2 pb wb pf pl → Keeps (fun _ => False) w w2 → Calls Try.prog 44 #[r.ptr, tp pb, tp wb] w2 (fun e w3 => ∃ t2 : Tr, e = .returned t2.ptr ∧ R t2 w2 w3)) :
    Calls Try.prog 44 #[tp b, tp pb, tp wb] w fun e w' => ∃ (t2 : Tr) (w2 w3 : World), e = .returned (Tr.node b f len m l t2).need.ptr ∧ Qt w w2 ∧ R t2 w2 w3 ∧ DW w' pb wb pf pl ∧ w' = w3.setCell ⟨b, 4, none⟩ t2.ptr ∧ Blk w' b nodeT (nodeC f len m l.ptr t2.ptr) := by
  have hle2 := hq.le
  have hsz := hq.sz
  have k2 := hq.k2
  have k5 := hq.k5
  have CB := Lib.hid (fun W => bit_any pf pl len (by omega) (by omega) W)
  have hbi : bitI pf len = 1 := by unfold bitI; rw [hd]; rfl
  rw [hbi] at CB
  have IH := Lib.hid ih
  have HR := Lib.hid hR
  have HNB := Lib.hid hnb
  have g2 : ((len : Int) == (pl : Int)) = false := by simp; omega
  have HB := Lib.hid hb; have H := Lib.hid h
  have x1 : w.cell? ⟨b, 1, none⟩ = some (.int .i64 len) := hb.cell 1
  have y1 : w.cell? ⟨pb, 1, none⟩ = some (.int .i64 pl) := h.p.cell 1
  clear ih hR hd hbi hsz hnb h hb hp hq
  go_enter Try.func44, Try.ntmps44
  go_upto_region 1 with fail
  go_quiet (fail)
  go_upto_region 4 with fail
  have HL3 := Lib.hid (H.out.quiet ((Keeps.refl _ w).drewN' nq))
  have HN3 := Lib.hid (HB.out.drewN nq)
  have HK3 : Hid (Qt w (w.drewN nq)) := Lib.hid ((Keeps.refl _ w).drewN' nq)
  clear x1 y1
  generalize w.drewN nq = w3 at HL3 HN3 HK3 ⊢
  have HL3d := Lib.hid (HL3.out.quiet (Keeps.refl _ w3).drew)
  have HN3d := Lib.hid HN3.out.drew
  have S3 : Hid (w3.cell? ⟨b, 1, none⟩ = some (.int .i64 len) ∧ w3.cell? ⟨pb, 0, none⟩ = some (.string pf) ∧ w3.cell? ⟨pb, 1, none⟩ = some (.int .i64 pl)) := ⟨HN3.out.cell 1, HL3.out.p.cell 0, HL3.out.p.cell 1⟩
  go_region_held3 (fun W => W.cell? ⟨b, 1, none⟩ = some (.int .i64 len) ∧ W.cell? ⟨pb, 0, none⟩ = some (.string pf) ∧ W.cell? ⟨pb, 1, none⟩ = some (.int .i64 pl))
    (first | exact S3.out | exact S4.out)
    (first | (go_at_call 39; refine (CB.out _).mono ?_; rintro e w4 ⟨rfl, hq4⟩; have HL4 := Lib.hid (HL3d.out.quiet hq4); have HN4 := Lib.hid (HN3d.out.quiet hq4); have HK4 := Lib.hid (HK3.out.then_ (Keeps.undrew hq4)); have S4 : Hid (w4.cell? ⟨b, 1, none⟩ = some (.int .i64 len) ∧ w4.cell? ⟨pb, 0, none⟩ = some (.string pf) ∧ w4.cell? ⟨pb, 1, none⟩ = some (.int .i64 pl)) := ⟨HN4.out.cell 1, HL4.out.p.cell 0, HL4.out.p.cell 1⟩; clear hq4))
  go_upto_region 5 with fail
  have HL4d := Lib.hid (HL4.out.quiet (Keeps.refl _ w4).drew)
  have HN4d := Lib.hid HN4.out.drew
  have HK4d := Lib.hid HK4.out.drew
  have CI := Lib.hid (IH.out _ HL4d.out HK4d.out)
  have z0 : w4.cell? ⟨wb, 0, none⟩ = some (dwV pb wb) := HL4.out.w.cell 0
  have z2 : w4.cell? ⟨b, 4, none⟩ = some r.ptr := HN4.out.cell 4
  go_region_law (first
    | (go_simp; go_at_call 44; refine CI.out.mono ?_; rintro e w5 ⟨t2, rfl, hr⟩; obtain ⟨o, ho⟩ := ptr_form t2; rw [ho]; have HR5 := Lib.hid hr; have hl5 := (HR.out _ _ _ hr).1; have hn5 := HN4d.out.keeps (HR.out _ _ _ hr).2 HNB.out; have z5 : w5.cell? ⟨b, 4, none⟩ = some r.ptr := hn5.cell 4; have z6 := hn5.frozen 4; have HL5 := Lib.hid hl5; have HN5 := Lib.hid hn5; have HO := Lib.hid ho; clear hr hl5 hn5 ho))
  all_goals
    have HB6 : Hid (Blk (w5.setCell ⟨b, 4, none⟩ (.pointer o)) b nodeT (nodeC f len m l.ptr t2.ptr)) := by
      have hh := HN5.out.set_ 4 (.pointer o)
      rw [HO.out]
      exact hh
    have CN := Lib.hid (need_any HB6.out)
    go_wp2_with (go_at_call 45; refine CN.out.mono ?_; rintro e w6 ⟨rfl, rfl⟩)
    go_ret
    exact ⟨t2, _, w5, rfl, HK4d.out, HR5.out, HL5.out.set_ HN5.out _, by rw [HO.out], HB6.out⟩
end
end Go.Proofs.Ytomhflaofipccaa
namespace Go.Proofs.Ytomhflaofipccaa
open Go Go.RowKit Go.Maps
set_option linter.unusedVariables false
set_option linter.unusedSimpArgs false
set_option maxRecDepth 100000
theorem Tr.drop_node {pf : ByteArray} {pl b : Nat} {f : ByteArray} {len n : Nat} {l r : Tr} : (Tr.node b f len n l r).drop pf pl =
    if len = pl then (Tr.node b f len 0 l r).need
    else if bitB pf len then (Tr.node b f len n l (r.drop pf pl)).need else (Tr.node b f len n (l.drop pf pl) r).need := rfl
theorem Tr.At.need {w : World} : ∀ {t : Tr}, t.At w → t.need.At w
  | .nil, h => h
  | .node b f len n l r, h => by
    rw [Tr.need_node]
    split
    · exact h
    · split
      · exact h.2.1
      · exact h.2.2
/-- An entry is gone: the tree that is left. -/
def Dropped (pb wb : Nat) (pf : ByteArray) (pl : Nat) (t t2 : Tr) (w w' : World) : Prop := t2 = t.drop pf pl ∧ t2.At w' ∧ DW w' pb wb pf pl ∧ Keeps (fun b => b ∈ t.blocks) w w'
theorem drop_any {K pb wb : Nat} {pf : ByteArray} {pl : Nat} (hq : Pre K pf pl) : ∀ {t : Tr} {w : World} {e : Ent}, t.ok K → e ∈ t.ents → e.key = pf → t.blocks.Nodup → t.At w → DW w pb wb pf pl →
    Calls Try.prog 44 #[t.ptr, tp pb, tp wb] w fun e' w' => ∃ t2 : Tr, e' = .returned t2.ptr ∧ Dropped pb wb pf pl t t2 w w'
  | .nil, w, e, _, he, _, _, _, _ => by simp [Tr.ents] at he
  | .node b f len m l r, w, e, ok, he, hk, hnd, hA, h => by
    obtain ⟨d1, d2, d3, d4, d5⟩ := Tr.node_nodup.1 hnd
    have hpath := Tr.path ok hq he hk
    rcases hpath with ⟨q1, q2, q3, q4⟩ | ⟨q1, q2, ⟨q3, q4⟩ | ⟨q3, q4⟩⟩
    · refine (drop_here h hA.1 q1).mono ?_
      rintro e' w' ⟨rfl, h1, h2, h3⟩
      refine ⟨_, rfl, by rw [Tr.drop_node, if_pos q1], Tr.At.need ⟨h2, hA.2.1.keeps h3 fun x hx e => d1 (e ▸ hx), hA.2.2.keeps h3 fun x hx e => d2 (e ▸ hx)⟩, h1, h3.mono fun x hx => (mem_node x).2 (.inl hx)⟩
    · refine (drop_0 h hA.1 ok.1 hq q1 q3 (fun t2 u v => Dropped pb wb pf pl l t2 u v) (fun t2 u v ⟨_, _, h1, h2⟩ => ⟨h1, h2⟩) d1 (fun w2 h2 k2 => drop_any hq ok.2.2.2.1 q4 hk d3 (hA.2.1.quiet k2) h2)).mono ?_
      rintro e' w' ⟨t2, w2, w3, rfl, k2, ⟨rfl, e5, e6, e7⟩, h1, rfl, h2⟩
      have k4 : Keeps (fun x => x ∈ (Tr.node b f len m l r).blocks) w (w3.setCell ⟨b, 3, none⟩ (l.drop pf pl).ptr) := ((Keeps.qt k2).then_ (e7.mono fun x hx => (mem_node x).2 (.inr (.inl hx)))).setCell (p := ⟨b, 3, none⟩) (.inl ((mem_node b).2 (.inl rfl))) _
      have bn : b ∉ (l.drop pf pl).blocks := fun hx => d1 (Tr.drop_sub.subset hx)
      refine ⟨_, rfl, by rw [Tr.drop_node, if_neg (by omega), if_neg (by rw [q3]; decide)], Tr.At.need ⟨h2, ?_, ?_⟩, h1, k4⟩
      · exact e5.keeps ((Keeps.refl (fun x => x = b) w3).setCell (p := ⟨b, 3, none⟩) (.inl rfl) _) fun x hx e => bn (e ▸ hx)
      · refine hA.2.2.keeps (S := fun x => x = b ∨ x ∈ l.blocks) (((Keeps.qt k2).then_ (e7.mono fun x hx => .inr hx)).setCell (p := ⟨b, 3, none⟩) (.inl (.inl rfl)) _) ?_
        rintro x hx (rfl | q)
        · exact d2 hx
        · exact d5 x q hx
    · refine (drop_1 h hA.1 ok.1 hq q1 q3 (fun t2 u v => Dropped pb wb pf pl r t2 u v) (fun t2 u v ⟨_, _, h1, h2⟩ => ⟨h1, h2⟩) d2 (fun w2 h2 k2 => drop_any hq ok.2.2.2.2 q4 hk d4 (hA.2.2.quiet k2) h2)).mono ?_
      rintro e' w' ⟨t2, w2, w3, rfl, k2, ⟨rfl, e5, e6, e7⟩, h1, rfl, h2⟩
      have k4 : Keeps (fun x => x ∈ (Tr.node b f len m l r).blocks) w (w3.setCell ⟨b, 4, none⟩ (r.drop pf pl).ptr) := ((Keeps.qt k2).then_ (e7.mono fun x hx => (mem_node x).2 (.inr (.inr hx)))).setCell (p := ⟨b, 4, none⟩) (.inl ((mem_node b).2 (.inl rfl))) _
      have bn : b ∉ (r.drop pf pl).blocks := fun hx => d2 (Tr.drop_sub.subset hx)
      refine ⟨_, rfl, by rw [Tr.drop_node, if_neg (by omega), if_pos q3], Tr.At.need ⟨h2, ?_, ?_⟩, h1, k4⟩
      · refine hA.2.1.keeps (S := fun x => x = b ∨ x ∈ r.blocks) (((Keeps.qt k2).then_ (e7.mono fun x hx => .inr hx)).setCell (p := ⟨b, 4, none⟩) (.inl (.inl rfl)) _) ?_
        rintro x hx (rfl | q)
        · exact d1 hx
        · exact d5 x hx q
      · exact e5.keeps ((Keeps.refl (fun x => x = b) w3).setCell (p := ⟨b, 4, none⟩) (.inl rfl) _) fun x hx e => bn (e ▸ hx)
section
variable {w : World} {x K : Nat} {pf : ByteArray} {pl n : Nat} {t : Tr} {P : Value} {k key v mx : Int} {c : Nat}
set_option maxHeartbeats 2000000 in
theorem tree_drop (hq : Pre K pf pl) (ok : t.ok K) {e0 : Ent} (he : e0 ∈ t.ents) (hk : e0.key = pf) (hnd : t.blocks.Nodup) (hA : t.At w) (hx : Blk w x mapT (mapC P k key v mx t.ptr ((c + 1 : Nat) : Int))) (hc : c ≤ 4096) :
    Calls Try.prog 27 #[.pointer (some ⟨x, 5, none⟩), preV pf pl] w fun e w' => e = .returned (.tuple #[]) ∧ (t.drop pf pl).At w' ∧ Blk w' x mapT (mapC P k key v mx (t.drop pf pl).ptr c) ∧ Keeps (fun b => b = x ∨ b ∈ t.blocks) w w' := by
  have b0 := (Blk.new w preT (preC pf pl)).alloc (.cells #[dwV w.heap.size (w.heap.size + 1)] dwT)
  have b1 := Blk.new (w.alloc (.cells (preC pf pl) preT)) dwT #[dwV w.heap.size (w.heap.size + 1)]
  rw [show (w.alloc (.cells (preC pf pl) preT)).heap.size = w.heap.size + 1 by simp] at b1
  have HL : Hid (DW ((w.alloc (.cells (preC pf pl) preT)).alloc (.cells #[dwV w.heap.size (w.heap.size + 1)] dwT)) w.heap.size (w.heap.size + 1) pf pl) := ⟨b0, b1⟩
  have HK : Hid (Qt w ((w.alloc (.cells (preC pf pl) preT)).alloc (.cells #[dwV w.heap.size (w.heap.size + 1)] dwT))) := Lib.hid (((Keeps.refl (fun _ => False) w).alloc _).alloc _)
  clear b0 b1
  have HA := Lib.hid hA; have HX := Lib.hid hx; have HO := Lib.hid ok; have HQ := Lib.hid hq; have HND := Lib.hid hnd; have HE := Lib.hid he; have HEK := Lib.hid hk
  have hxn : x ∉ t.blocks := fun h => by
    obtain ⟨cs, hc⟩ := hA.blk h
    exact absurd rfl (hc.ne_ hx (by decide))
  have HXN := Lib.hid hxn
  have ec : IntKind.i64.wrap (((c + 1 : Nat) : Int) - 1) = (c : Int) := by rw [IntWalk.i64_in _ (by omega)]; omega
  obtain ⟨c1, hc1⟩ : ∃ c1, c + 1 = c1 := ⟨_, rfl⟩
  rw [hc1] at ec HX
  have ec2 : ((c1 : Int)) - 1 = (c : Int) := by omega
  clear hA hx ok hq hnd hxn he hk hc1
  go_enter Try.func27, Try.ntmps27
  go_upto_region 3 with fail
  generalize World.alloc _ _ = W at HL HK ⊢
  have HAd := Lib.hid ((HA.out.quiet HK.out).quiet (Keeps.refl _ W).drew)
  have HLd := Lib.hid (HL.out.quiet (Keeps.refl _ W).drew)
  have HXd := Lib.hid ((HX.out.quiet HK.out).quiet (Keeps.refl _ W).drew)
  have CW := Lib.hid (drop_any HQ.out HO.out HE.out HEK.out HND.out HAd.out HLd.out)
  have z0 : W.cell? ⟨w.heap.size + 1, 0, none⟩ = some (dwV w.heap.size (w.heap.size + 1)) := HL.out.w.cell 0
  have z1 : W.cell? ⟨x, 5, none⟩ = some t.ptr := HXd.out.cell 5
  go_region_law (first
    | (go_simp; go_at_call 44; refine CW.out.mono ?_; rintro e w5 ⟨t2, rfl, ht2, e5, e6, e7⟩; obtain ⟨o, ho⟩ := ptr_form t2; rw [ho]; have hx5 := HXd.out.keeps e7 HXN.out; have z5 : w5.cell? ⟨x, 5, none⟩ = some t.ptr := hx5.cell 5; have z6 := hx5.frozen 5; have y5 : (w5.setCell ⟨x, 5, none⟩ (.pointer o)).cell? ⟨x, 6, none⟩ = some (.int .i64 c1) := (hx5.set_ 5 (.pointer o)).cell 6; have y6 := (hx5.set_ 5 (.pointer o)).frozen 6; have HX5 := Lib.hid hx5; have HE5 := Lib.hid e5; have HE7 := Lib.hid e7; have HT2 := Lib.hid ht2; have HCC := Lib.hid ho; clear hx5 e5 e6 e7 ho ht2))
  all_goals go_wp2_with fail
  all_goals go_end0
  all_goals
    have kk : Keeps (fun b => b = x) w5 ((w5.setCell ⟨x, 5, none⟩ (.pointer o)).setCell ⟨x, 6, none⟩ (.int .i64 (c : Int))) := ((Keeps.refl (fun b => b = x) w5).setCell (p := ⟨x, 5, none⟩) (.inl rfl) _).setCell (p := ⟨x, 6, none⟩) (.inl rfl) _
    rw [← HT2.out]
    refine ⟨rfl, HE5.out.off kk fun b cs hb e => by subst e; exact absurd rfl (hb.ne_ HX5.out (by decide)), ?_, ?_⟩
    · rw [HCC.out]
      exact (HX5.out.set_ 5 (.pointer o)).set_ 6 (.int .i64 (c : Int))
    · exact (Keeps.qt HK.out).then_ ((HE7.out.undrew.mono fun b h => .inr h).then_ (kk.mono fun b h => .inl h))
end
end Go.Proofs.Ytomhflaofipccaa
