/-
  Package trie: Free; Update as one. Package trie: which specs may be; New. Package trie: each call as one; a table in a world of its own; what an Update leaves, plainly.
-/
import Derived.Test.YtomhflaofipccaaP27
import Derived.Test.YtomhflaofipccaaP25
namespace Go.Proofs.Ytomhflaofipccaa
open Go Go.RowKit Go.Maps
set_option linter.unusedVariables false
set_option linter.unusedSimpArgs false
set_option maxRecDepth 100000
abbrev mptrT : TypeId := 27
/-- While the regions are freed: which ones are. -/
structure FI (p : HPar) (w0 : World) (P0 : Nat → Prop) (s : HSt) (t : Tr) (xb vb wb : Nat) (d : List (Nat × Ent)) (w : World) : Prop where
  ew : EW w vb wb (.func (.func 32) #[] #[tp xb])
  xc : Blk w xb mptrT #[tp p.x]
  fr : w0.heap.size ≤ xb ∧ w0.heap.size ≤ vb ∧ w0.heap.size ≤ wb
  st : ∃ T, PG p w0 P0 { s with m := freeL s.m (d.map fun q => q.2.n) } T t w ∧ ¬ T xb ∧ ¬ T vb ∧ ¬ T wb
theorem Tr.ents_apart {K : Nat} : ∀ {t : Tr}, t.ok K → t.ents.Pairwise fun a b => a.key ≠ b.key
  | .nil, _ => List.Pairwise.nil
  | .node b f len n l r, h => by
    show ((if n = 0 then [] else [(⟨f, n⟩ : Ent)]) ++ (l.ents ++ r.ents)).Pairwise _
    rw [List.pairwise_append, List.pairwise_append]
    refine ⟨?_, ⟨Tr.ents_apart h.2.2.2.1, Tr.ents_apart h.2.2.2.2, fun x hx y hy e => ?_⟩, fun x hx y hy e => ?_⟩
    · split
      · exact List.Pairwise.nil
      · exact List.pairwise_singleton _ _
    · obtain ⟨m1, a1, a2, a3, a4⟩ := Tr.ents_side h.2.2.2.1 h.2.1 x hx
      obtain ⟨m2, b1, b2, b3, b4⟩ := Tr.ents_side h.2.2.2.2 h.2.2.1 y hy
      rw [e, b4] at a4; cases a4
    · have hxf : x.key = f := by
        split at hx
        · simp at hx
        · simp at hx; rw [hx]
      rcases List.mem_append.1 hy with hy | hy
      · obtain ⟨m1, a1, a2, _⟩ := Tr.ents_side h.2.2.2.1 h.2.1 y hy
        rw [← e, hxf] at a1
        have := a1.uniq h.1; omega
      · obtain ⟨m1, a1, a2, _⟩ := Tr.ents_side h.2.2.2.2 h.2.2.1 y hy
        rw [← e, hxf] at a1
        have := a1.uniq h.1; omega
theorem Tr.once {K : Nat} {t : Tr} (h : t.ok K) {a c : List (Nat × Ent)} {b : Nat} {e : Ent} (hq : t.nodes = a ++ (b, e) :: c) : e ∉ a.map fun q => q.2 := by
  have h1 := Tr.ents_apart h
  rw [← Tr.nodes_ents, hq, List.map_append, List.pairwise_append] at h1
  intro hm
  exact h1.2.2 e hm e (by simp) rfl
section
variable {p : HPar} {w0 w w' : World} {P0 P U T T' : Nat → Prop} {s s' : HSt} {t t' : Tr}
set_option maxHeartbeats 1000000 in
theorem free_one {xb b : Nat} {A : Int} (hx : Blk w xb mptrT #[tp p.x]) (hm : w.cell? ⟨p.x, 0, none⟩ = some (tp p.bm)) (hb : w.cell? ⟨b, 2, none⟩ = some (.int .u64 A)) (R : World → Prop) (hR : ∀ w', R w' → w'.cell? ⟨xb, 0, none⟩ = some (tp p.x) ∧ w'.cell? ⟨p.x, 0, none⟩ = some (tp p.bm) ∧ w'.cell? ⟨b, 2, none⟩ = some (.int .u64 A))
    (hc : Calls Try.prog 33 #[tp p.bm, .int .u64 A] w.drew fun e w' => e = .returned (.int .i64 0) ∧ R w') :
    Calls Try.prog 32 #[tp b, tp xb] w fun e w' => e = .returned (.tuple #[]) ∧ R w' := by
  have HC := Lib.hid hc; have HR := Lib.hid hR
  have S0 : Hid (w.cell? ⟨xb, 0, none⟩ = some (tp p.x) ∧ w.cell? ⟨p.x, 0, none⟩ = some (tp p.bm) ∧ w.cell? ⟨b, 2, none⟩ = some (.int .u64 A)) := ⟨hx.cell 0, hm, hb⟩
  clear hc hR hx hm hb
  go_enter Try.func32, Try.ntmps32
  go_upto_region 0 with fail
  go_region_held3 (fun U => U.cell? ⟨xb, 0, none⟩ = some (tp p.x) ∧ U.cell? ⟨p.x, 0, none⟩ = some (tp p.bm) ∧ U.cell? ⟨b, 2, none⟩ = some (.int .u64 A))
    (first | exact S0.out | exact S1.out)
    (first | (go_at_call 33; refine HC.out.mono ?_; rintro e w1 ⟨rfl, hr⟩; have S1 := Lib.hid (HR.out _ hr); have HRR := Lib.hid hr; clear hr))
  go_wp2_with fail
  go_end0
  exact ⟨rfl, HRR.out⟩
theorem fi_inv (ho : HOk p s) (hm : s.m.made ≤ 4096) (xb vb wb : Nat) : InvF vb wb xb (FI p w0 P0 s t xb vb wb) (fun d b e => t.has b e ∧ e ∈ s.es ∧ e.n ∉ d.map fun q => q.2.n) where
  ew d w h := h.ew
  quiet d w w' h k := by
    obtain ⟨T, h1, h2⟩ := h.st
    exact ⟨h.ew.quiet k, h.xc.quiet k, h.fr, T, h1.quiet k, h2⟩
  visit d w b e h hp := by
    obtain ⟨T, h1, h2, h3, h4⟩ := h.st
    obtain ⟨hb, hmem, hn⟩ := hp
    obtain ⟨hr, _, bb, hvs, _⟩ := ho.of_mem hmem
    obtain ⟨vl, vr, hbl, hbb⟩ := Tr.At.has h1.at_ h1.ok hb
    have hq : (freeL s.m (d.map fun q => q.2.n)).vs e.n = some (3, bb, false) := by rw [freeL_vs, if_neg hn]; exact hvs
    have c := k_free p.bm _ e.n (by omega) _ hq w.drew T h1.drew.side
    have hfr := h.fr
    refine free_one h.xc (h1.map.cell 0) (hbl.cell 2) (fun w' => FI p w0 P0 s t xb vb wb (d ++ [(b, e)]) w') (fun w' hw => ?_) (c.mono ?_)
    · obtain ⟨T2, g1, _⟩ := hw.st
      obtain ⟨vl', vr', hbl', _⟩ := Tr.At.has g1.at_ g1.ok hb
      exact ⟨hw.xc.cell 0, g1.map.cell 0, hbl'.cell 2⟩
    · rintro e' w' ⟨rfl, hk, kk⟩
      have g1 := h1.drew.mem_ hk kk
      have old : ∀ g T2 cs, Blk w g T2 cs → ¬ T g → ¬ more T w.drew w' g := by
        rintro g T2 cs hg ht (q | ⟨q, _⟩)
        · exact ht q
        · have h5 := hg.lt
          have h6 : w.heap.size ≤ g := q
          omega
      refine ⟨rfl, ⟨h.ew.v.keeps kk.undrew h3, h.ew.k.keeps kk.undrew h4⟩, h.xc.keeps kk.undrew h2, hfr, _, ?_, old _ _ _ h.xc h2, old _ _ _ h.ew.v h3, old _ _ _ h.ew.k h4⟩
      have e1 : freeL s.m ((d ++ [(b, e)]).map fun q => q.2.n) = (freeL s.m (d.map fun q => q.2.n)).set e.n none := by
        rw [List.map_append, freeL_app]; rfl
      rw [e1]
      exact g1
theorem PO.freeNo (h : PO p w0 P0 s T w) : Calls Try.prog 17 #[tp p.x] w fun e w' => e = .returned (.int .i64 1) ∧ Qt w w' := by
  have hk : Qt w (w.alloc (.cells #[tp p.x] mptrT)) := (Keeps.refl _ w).alloc _
  have CG := Lib.hid (gone_yes (w := w.alloc (.cells #[tp p.x] mptrT)) (x := p.x) ((h.quiet hk).map.cell 0))
  have HK := Lib.hid hk
  clear h hk
  go_enter Try.func17, Try.ntmps17
  go_wp2_with (go_at_call 30; refine CG.out.mono ?_; rintro e w1 ⟨rfl, rfl⟩)
  go_ret
  exact ⟨rfl, HK.out⟩
theorem free_nil (w : World) : Calls Try.prog 17 #[.pointer none] w fun e w' => e = .returned (.int .i64 1) ∧ Qt w w' := by
  have CG := Lib.hid gone_nil
  go_enter Try.func17, Try.ntmps17
  go_wp2_with (go_at_call 30; refine (CG.out _).mono ?_; rintro e w1 ⟨rfl, rfl⟩)
  go_ret
  exact ⟨rfl, (Keeps.refl _ w).alloc _⟩
/-- Six cells and one are wiped. -/
def wiped (w : World) (x : Nat) : World := ((((((w.setCell ⟨x, 0, none⟩ (.pointer none)).setCell ⟨x, 1, none⟩ (.int .i64 0)).setCell ⟨x, 2, none⟩ (.int .i64 0)).setCell ⟨x, 3, none⟩ (.int .i64 0)).setCell ⟨x, 4, none⟩ (.int .i64 0)).setCell ⟨x, 5, none⟩ (.pointer none)).setCell ⟨x, 6, none⟩ (.int .i64 0)
theorem wiped_blk {x : Nat} {P : Value} {k key v mx : Int} {R : Value} {c : Int} (h : Blk w x mapT (mapC P k key v mx R c)) : Blk (wiped w x) x mapT goneC := by
  have h0 : Blk _ x mapT (mapC (.pointer none) k key v mx R c) := h.set_ 0 (.pointer none)
  have h1 : Blk _ x mapT (mapC (.pointer none) 0 key v mx R c) := h0.set_ 1 (.int .i64 0)
  have h2 : Blk _ x mapT (mapC (.pointer none) 0 0 v mx R c) := h1.set_ 2 (.int .i64 0)
  have h3 : Blk _ x mapT (mapC (.pointer none) 0 0 0 mx R c) := h2.set_ 3 (.int .i64 0)
  have h4 : Blk _ x mapT (mapC (.pointer none) 0 0 0 0 R c) := h3.set_ 4 (.int .i64 0)
  have h5 : Blk _ x mapT (mapC (.pointer none) 0 0 0 0 (.pointer none) c) := h4.set_ 5 (.pointer none)
  have h6 : Blk _ x mapT (mapC (.pointer none) 0 0 0 0 (.pointer none) 0) := h5.set_ 6 (.int .i64 0)
  exact h6
theorem wiped_keeps (w : World) (x : Nat) : Keeps (fun b => b = x) w (wiped w x) :=
  ((((((((Keeps.refl (fun b => b = x) w).setCell (p := ⟨x, 0, none⟩) (.inl rfl) _).setCell (p := ⟨x, 1, none⟩) (.inl rfl) _).setCell (p := ⟨x, 2, none⟩) (.inl rfl) _).setCell (p := ⟨x, 3, none⟩) (.inl rfl) _).setCell (p := ⟨x, 4, none⟩) (.inl rfl) _).setCell (p := ⟨x, 5, none⟩) (.inl rfl) _).setCell (p := ⟨x, 6, none⟩) (.inl rfl) _)
set_option maxHeartbeats 2000000 in
theorem PG.free (h : PG p w0 P0 s T t w) (ho : HOk p s) (hm : s.m.made ≤ 4096) : Calls Try.prog 17 #[tp p.x] w fun e w' => e = .returned (.int .i64 0) ∧ ∃ T', PO p w0 P0 { s with m := freeTo s.m s.es s.es.length, es := [], gone := true } T' w' := by
  have hk : Qt w (w.alloc (.cells #[tp p.x] mptrT)) := (Keeps.refl _ w).alloc _
  have hG := h.quiet hk
  have hxb := Blk.new w mptrT #[tp p.x]
  have hz : w0.heap.size ≤ w.heap.size := h.keeps.size
  have hT : ∀ b, w.heap.size ≤ b → ¬ T b := fun b hb ht => by have := h.side.lt' b ht; omega
  have hn : t.nodes.map (fun q => q.2) = t.ents := Tr.nodes_ents
  have hnd : ∀ (a c : List (Nat × Ent)) (b : Nat) (e : Ent), t.nodes = a ++ (b, e) :: c → t.has b e ∧ e ∈ s.es ∧ e.n ∉ a.map fun q => q.2.n := fun a c b e hq => by
    have hb : t.has b e := Tr.nodes_has (q := (b, e)) (by rw [hq]; simp)
    refine ⟨hb, (h.dat e).1 (Tr.has_mem hb), fun hmem => ?_⟩
    obtain ⟨⟨b', e'⟩, hq', hn'⟩ := List.mem_map.1 hmem
    have hb' : t.has b' e' := Tr.nodes_has (q := (b', e')) (by rw [hq]; simp [hq'])
    have e1 := (h.dat e).1 (Tr.has_mem hb)
    have e2 := (h.dat e').1 (Tr.has_mem hb')
    obtain ⟨i, hi, hie⟩ := List.getElem_of_mem e1
    obtain ⟨j, hj, hje⟩ := List.getElem_of_mem e2
    have hkk : e' = e := by
      by_cases hij : j = i
      · subst hij; rw [← hie, ← hje]
      · exact absurd hn' (ho.apart j i e' e (by rw [List.getElem?_eq_getElem hj, hje]) (by rw [List.getElem?_eq_getElem hi, hie]) hij).1
    subst hkk
    exact Tr.once h.ok hq (List.mem_map.2 ⟨(b', e'), hq', rfl⟩)
  have CE := Lib.hid (eachF_any (t := t) (x := p.x) (w := w.alloc (.cells #[tp p.x] mptrT)) (xb := w.heap.size) (P := fun d b e => t.has b e ∧ e ∈ s.es ∧ e.n ∉ d.map fun q => q.2.n) (fun vb wb d w' => FI p w0 P0 s t w.heap.size vb wb d w') (fun vb wb => fi_inv ho hm w.heap.size vb wb) (fun vb wb d w' hI => by obtain ⟨T2, g, _⟩ := hI.st; exact g.at_) (fun a b e c hq => hnd a c b e hq)
    (fun w' hE hq => ⟨hE, hxb.quiet hq, ⟨hz, by simp; omega, by simp; omega⟩, T, (hG.quiet hq), hT _ (Nat.le_refl _), hT _ (by simp), hT _ (by simp; omega)⟩) (hG.map.cell 5) hG.map.lt)
  have HM : Hid (freeL s.m (t.nodes.map fun q => q.2.n) = freeTo s.m s.es s.es.length) := by
    have : freeL s.m (t.nodes.map fun q => q.2.n) = freeTo s.m s.es s.es.length := by
      unfold freeTo
      refine freeL_same s.m fun n => ?_
      rw [List.take_length, show (t.nodes.map fun q => q.2.n) = (t.nodes.map fun q => q.2).map fun e => e.n by rw [List.map_map]; rfl, hn]
      simp only [List.mem_map]
      exact ⟨fun ⟨e, he, h1⟩ => ⟨e, (h.dat e).1 he, h1⟩, fun ⟨e, he, h1⟩ => ⟨e, (h.dat e).2 he, h1⟩⟩
    exact Lib.hid this
  have CG := Lib.hid (gone_no (c := .pointer none) (w := w.alloc (.cells #[tp p.x] mptrT)) (x := p.x) (hG.map.cell 0))
  have z0 : (w.alloc (.cells #[tp p.x] mptrT)).cell? ⟨w.heap.size, 0, none⟩ = some (tp p.x) := hxb.cell 0
  clear h ho hm hk hG hxb hT hn hnd hz
  go_enter Try.func17, Try.ntmps17
  go_upto_region 4 with (first
    | (go_at_call 30; refine CG.out.mono ?_; rintro e w1 ⟨rfl, rfl⟩)
    | (go_at_call 31; refine CE.out.mono ?_; rintro e w2 ⟨rfl, h2⟩; have H2 := Lib.hid h2; clear h2))
  obtain ⟨T2, g, _⟩ := H2.out.st
  rw [HM.out] at g
  have y0 : w2.cell? ⟨w.heap.size, 0, none⟩ = some (tp p.x) := H2.out.xc.cell 0
  have HG := Lib.hid g
  have m0 : w2.cell? ⟨p.x, 0, none⟩ = some (tp p.bm) := g.map.cell 0
  have m1 : w2.cell? ⟨p.x, 1, none⟩ = some (.int .i64 p.k) := g.map.cell 1
  have m2 : w2.cell? ⟨p.x, 2, none⟩ = some (.int .i64 p.key) := g.map.cell 2
  have m3 : w2.cell? ⟨p.x, 3, none⟩ = some (.int .i64 p.v) := g.map.cell 3
  have m4 : w2.cell? ⟨p.x, 4, none⟩ = some (.int .i64 p.mx) := g.map.cell 4
  have m5 : w2.cell? ⟨p.x, 5, none⟩ = some t.ptr := g.map.cell 5
  have m6 : w2.cell? ⟨p.x, 6, none⟩ = some (.int .i64 s.es.length) := g.map.cell 6
  have mf := fun i => g.map.frozen i
  clear g
  go_wp2_with fail
  go_ret
  refine ⟨rfl, T2, ?_⟩
  have kk := wiped_keeps w2 p.x
  have hh := HG.out
  show PO p w0 P0 _ T2 (wiped w2 p.x)
  have kk2 : Keeps (more P0 w0 w2) w2 (wiped w2 p.x) := kk.mono fun b e => .inl (e ▸ hh.px)
  exact ⟨hh.keeps.trans kk2, hh.pl, hh.px, hh.side.keeps' kk (fun b hb e => hh.tx (e ▸ hb)), hh.tq, hh.tx, wiped_blk hh.map, rfl⟩
end
end Go.Proofs.Ytomhflaofipccaa
namespace Go.Proofs.Ytomhflaofipccaa
open Go Go.RowKit Go.Maps
set_option linter.unusedVariables false
set_option linter.unusedSimpArgs false
set_option maxRecDepth 100000
abbrev specV (k key v mx : Int) : Value := .agg #[.int .i64 k, .int .i64 key, .int .i64 v, .int .i64 mx]
abbrev specC (k key v mx : Int) : Array Value := #[.int .i64 k, .int .i64 key, .int .i64 v, .int .i64 mx]
def fitsH (k key v mx : Int) : Bool := (k == 11) && (decide (5 ≤ key) && (decide (key ≤ 260) && (decide (1 ≤ v) && (decide (v ≤ 4096) && (decide (1 ≤ mx) && decide (mx ≤ 4096))))))
theorem fitsH_true {k key v mx : Int} (h : fitsH k key v mx = true) : k = 11 ∧ (5 ≤ key ∧ key ≤ 260) ∧ (1 ≤ v ∧ v ≤ 4096) ∧ 1 ≤ mx ∧ mx ≤ 4096 := by
  simp [fitsH] at h; omega
set_option maxHeartbeats 2000000 in
theorem fits_any (k key v mx : Int) (w : World) : Calls Try.prog 18 #[specV k key v mx] w fun e w' => e = .returned (.bool (fitsH k key v mx)) ∧ Qt w w' := by
  have B : Hid (Qt w (w.alloc (.cells #[.int .i64 k, .int .i64 key, .int .i64 v, .int .i64 mx] 32))) := Lib.hid ((Keeps.refl _ w).alloc _)
  cases h1 : (k == 11)
  · rw [show fitsH k key v mx = false by simp only [fitsH, h1]; rfl]
    go_enter Try.func18, Try.ntmps18
    go_wp2_with fail
    go_ret
    exact ⟨rfl, B.out⟩
  · cases h3 : decide (5 ≤ key)
    · rw [show fitsH k key v mx = false by simp only [fitsH, h1, h3]; rfl]
      go_enter Try.func18, Try.ntmps18
      go_wp2_with fail
      go_ret
      exact ⟨rfl, B.out⟩
    · cases h3' : decide (key ≤ 260)
      · rw [show fitsH k key v mx = false by simp only [fitsH, h1, h3, h3']; rfl]
        go_enter Try.func18, Try.ntmps18
        go_wp2_with fail
        go_ret
        exact ⟨rfl, B.out⟩
      · cases h4 : decide (1 ≤ v)
        · rw [show fitsH k key v mx = false by simp only [fitsH, h1, h3, h3', h4]; rfl]
          go_enter Try.func18, Try.ntmps18
          go_wp2_with fail
          go_ret
          exact ⟨rfl, B.out⟩
        · cases h5 : decide (v ≤ 4096)
          · rw [show fitsH k key v mx = false by simp only [fitsH, h1, h3, h3', h4, h5]; rfl]
            go_enter Try.func18, Try.ntmps18
            go_wp2_with fail
            go_ret
            exact ⟨rfl, B.out⟩
          · cases h6 : decide (1 ≤ mx)
            · rw [show fitsH k key v mx = false by simp only [fitsH, h1, h3, h3', h4, h5, h6]; rfl]
              go_enter Try.func18, Try.ntmps18
              go_wp2_with fail
              go_ret
              exact ⟨rfl, B.out⟩
            · cases h7 : decide (mx ≤ 4096)
              · rw [show fitsH k key v mx = false by simp only [fitsH, h1, h3, h3', h4, h5, h6, h7]; rfl]
                go_enter Try.func18, Try.ntmps18
                go_wp2_with fail
                go_ret
                exact ⟨rfl, B.out⟩
              · rw [show fitsH k key v mx = true by simp only [fitsH, h1, h3, h3', h4, h5, h6, h7]; rfl]
                go_enter Try.func18, Try.ntmps18
                go_wp2_with fail
                go_ret
                exact ⟨rfl, B.out⟩
theorem new_nil (k key v mx : Int) (w : World) : Calls Try.prog 8 #[.pointer none, specV k key v mx] w fun e w' => e = .returned (.tuple #[.pointer none, .int .i64 1]) ∧ Qt w w' := by
  have B : Hid (Qt w (w.alloc (.cells (specC k key v mx) 32))) := Lib.hid ((Keeps.refl _ w).alloc _)
  go_enter Try.func8, Try.ntmps8
  go_wp2_with fail
  go_ret2
  exact ⟨rfl, B.out⟩
theorem new_no (bm : Nat) (k key v mx : Int) (h : fitsH k key v mx = false) (w : World) : Calls Try.prog 8 #[tp bm, specV k key v mx] w fun e w' => e = .returned (.tuple #[.pointer none, .int .i64 1]) ∧ Qt w w' := by
  have CF := Lib.hid (fits_any k key v mx)
  rw [h] at CF
  have B : Hid (Qt w (w.alloc (.cells (specC k key v mx) 32))) := Lib.hid ((Keeps.refl _ w).alloc _)
  have HB := Lib.hid (Blk.new w 32 (specC k key v mx))
  clear h
  have c0 : (w.alloc (.cells (specC k key v mx) 32)).cell? ⟨w.heap.size, 0, none⟩ = some (.int .i64 k) := HB.out.cell 0
  have c1 : (w.alloc (.cells (specC k key v mx) 32)).cell? ⟨w.heap.size, 1, none⟩ = some (.int .i64 key) := HB.out.cell 1
  have c2 : (w.alloc (.cells (specC k key v mx) 32)).cell? ⟨w.heap.size, 2, none⟩ = some (.int .i64 v) := HB.out.cell 2
  have c3 : (w.alloc (.cells (specC k key v mx) 32)).cell? ⟨w.heap.size, 3, none⟩ = some (.int .i64 mx) := HB.out.cell 3
  go_enter Try.func8, Try.ntmps8
  go_wp2_with (go_at_call 18; refine (CF.out _).mono ?_; rintro e w1 ⟨rfl, hb⟩; have B1 := Lib.hid (B.out.then_ hb); clear hb)
  go_ret2
  exact ⟨rfl, B1.out⟩
theorem new_ok (bm : Nat) (k key v mx : Int) (h : fitsH k key v mx = true) (w : World) : Calls Try.prog 8 #[tp bm, specV k key v mx] w fun e w' => ∃ x, e = .returned (.tuple #[tp x, .int .i64 0]) ∧ Blk w' x mapT (mapC (tp bm) k key v mx (.pointer none) 0) ∧ w.heap.size ≤ x ∧ Qt w w' := by
  have CF := Lib.hid (fits_any k key v mx)
  rw [h] at CF
  have B : Hid (Qt w (w.alloc (.cells (specC k key v mx) 32))) := Lib.hid ((Keeps.refl _ w).alloc _)
  have HB := Lib.hid (Blk.new w 32 (specC k key v mx))
  clear h
  have c0 : (w.alloc (.cells (specC k key v mx) 32)).cell? ⟨w.heap.size, 0, none⟩ = some (.int .i64 k) := HB.out.cell 0
  have c1 : (w.alloc (.cells (specC k key v mx) 32)).cell? ⟨w.heap.size, 1, none⟩ = some (.int .i64 key) := HB.out.cell 1
  have c2 : (w.alloc (.cells (specC k key v mx) 32)).cell? ⟨w.heap.size, 2, none⟩ = some (.int .i64 v) := HB.out.cell 2
  have c3 : (w.alloc (.cells (specC k key v mx) 32)).cell? ⟨w.heap.size, 3, none⟩ = some (.int .i64 mx) := HB.out.cell 3
  go_enter Try.func8, Try.ntmps8
  go_upto_region 3 with (go_at_call 18; refine (CF.out _).mono ?_; rintro e w1 ⟨rfl, hb⟩; have B1 := Lib.hid (B.out.then_ hb); have HB1 := Lib.hid (HB.out.quiet hb); clear hb)
  clear c0 c1 c2 c3
  have c0 : w1.cell? ⟨w.heap.size, 0, none⟩ = some (.int .i64 k) := HB1.out.cell 0
  have c1 : w1.cell? ⟨w.heap.size, 1, none⟩ = some (.int .i64 key) := HB1.out.cell 1
  have c2 : w1.cell? ⟨w.heap.size, 2, none⟩ = some (.int .i64 v) := HB1.out.cell 2
  have c3 : w1.cell? ⟨w.heap.size, 3, none⟩ = some (.int .i64 mx) := HB1.out.cell 3
  go_wp2_with fail
  go_ret2
  exact ⟨w1.heap.size, rfl, Blk.new w1 mapT (mapC (tp bm) k key v mx (.pointer none) 0), B1.out.size, B1.out.alloc _⟩
/-- A table as New makes it. -/
theorem PH.made {bm bx x y : Nat} {k : Int} {key v mx : Nat} {m : PS} {S : Nat → Prop} {w w' : World} (hk : KSide w S bm m) (hx : Blk w' x mapT (mapC (tp bm) k key v mx (.pointer none) 0)) (h1 : w.heap.size ≤ x) (hb : Qt w w') :
    PH ⟨bm, bx, x, y, k, key, v, mx⟩ ⟨m, [], false⟩ (more S w w') w' := by
  have hS : ∀ b, S b → b < w.heap.size := hk.lt'
  refine .inr ⟨S, .nil, ⟨Keeps.refl _ _, ?_, .inr ⟨h1, hx.lt⟩, hk.keeps' hb (fun _ _ h => h), fun b hb => .inl (.inl hb), fun ht => ?_, hx, trivial, trivial, List.nodup_nil, fun e => Iff.rfl, fun b hb => by simp [Tr.blocks] at hb, rfl⟩⟩
  · rintro b (h | h)
    · exact Nat.lt_of_lt_of_le (hS b h) hb.size
    · exact h.2
  · have := hS _ ht
    have h1' : w.heap.size ≤ x := h1
    have h3 : x < w.heap.size := this
    omega
end Go.Proofs.Ytomhflaofipccaa
namespace Go.Proofs.Ytomhflaofipccaa
open Go Go.RowKit Go.Maps
set_option linter.unusedVariables false
set_option linter.unusedSimpArgs false
set_option maxRecDepth 100000
section
variable {p : HPar} {s : HSt}
theorem ph_free (h : HOk p s) (hm : s.m.made ≤ 4096) : FCallH PH p 17 #[tp p.x] s (freeS s) (.returned (.int .i64 (freeA s))) := by
  refine PH.of (fun hg w P T t hG => ?_) (fun hg w P T hO => ?_)
  · rw [show freeS s = { s with m := freeTo s.m s.es s.es.length, es := [], gone := true } by unfold freeS; rw [if_neg (by rw [hg]; decide)], show freeA s = 0 by unfold freeA; rw [if_neg (by rw [hg]; decide)]]
    refine (hG.free h hm).mono ?_
    rintro e w' ⟨rfl, T', h'⟩
    exact ⟨rfl, .inr ⟨T', h'⟩⟩
  · rw [show freeS s = s by unfold freeS; rw [if_pos hg], show freeA s = 1 by unfold freeA; rw [if_pos hg]]
    refine hO.freeNo.mono ?_
    rintro e w' ⟨rfl, hq⟩
    exact ⟨rfl, _, hO.quiet hq⟩
theorem ph_upd (key value : ByteArray) (fl : Int) (h : HOk p s) (hm : s.m.made < 4095) : FCallH PH p 9 #[tp p.x, .string key, .string value, .int .i64 fl] s (updS p s key value fl) (.returned (.int .i64 (updA p s key value fl))) := by
  refine PH.of (fun hg w P T t hG => ?_) (fun hg w P T hO => ?_)
  · by_cases hb : updBad p s key value fl
    · rw [show updS p s key value fl = s by unfold updS; rw [if_pos hb], show updA p s key value fl = 1 by unfold updA; rw [if_pos hb]]
      by_cases hk : IsKey p.key key
      · refine (hG.upd_args h.par hk ((hb.resolve_left (by rw [hg]; decide)).resolve_left (fun hn => hn hk))).mono ?_
        rintro e w' ⟨rfl, hq⟩
        exact ⟨rfl, .inl ⟨_, _, hG.quiet hq⟩⟩
      · refine (upd_bad (hG.pre_no h.par hk)).mono ?_
        rintro e w' ⟨rfl, hq⟩
        exact ⟨rfl, .inl ⟨_, _, hG.quiet hq⟩⟩
    · have hk : IsKey p.key key := Classical.byContradiction fun hk => hb (.inr (.inl hk))
      have hv : value.size = p.v := Classical.byContradiction fun hk => hb (.inr (.inr (.inl hk)))
      have hf0 : 0 ≤ fl := Classical.byContradiction fun hk => hb (.inr (.inr (.inr (.inl (by omega)))))
      have hf2 : fl ≤ 2 := Classical.byContradiction fun hk => hb (.inr (.inr (.inr (.inr (by omega)))))
      have hvl : value.data.toList.length = p.v := by rw [Array.length_toList]; exact hv
      have hq := hk.pre h.par.k1 h.par.k2
      rcases findT_spec hq hG.ok with ⟨h1, h2⟩ | ⟨b, e, h1, h2, h3, h4⟩
      · have hf : findE s.es (formB key) = none := by
          rcases hf : findE s.es (formB key) with _ | i
          · rfl
          · obtain ⟨e, he, hek⟩ := found hf
            exact absurd hek (h2 e ((hG.dat e).2 (List.mem_of_getElem? he)))
        have eS : updS p s key value fl = (if fl = 2 then s else if s.es.length = p.mx then s else if s.m.fail = 1 then { s with m := { s.m with fail := 0 } } else s.insert p (formB key) value.data.toList) := by unfold updS; rw [if_neg hb, hf]; rfl
        have eA : updA p s key value fl = (if fl = 2 then 4 else if s.es.length = p.mx then 3 else if s.m.fail = 1 then 2 else 0) := by unfold updA; rw [if_neg hb, hf]; rfl
        rw [eS, eA]
        by_cases c2 : fl = 2
        · rw [if_pos c2, if_pos c2]
          refine (hG.upd_noneE h.par hk hv hf0 hf2 h1 c2).mono ?_
          rintro e w' ⟨rfl, hq2⟩
          exact ⟨rfl, .inl ⟨_, _, hG.quiet hq2⟩⟩
        · rw [if_neg c2, if_neg c2]
          by_cases c3 : s.es.length = p.mx
          · rw [if_pos c3, if_pos c3]
            refine (hG.upd_full h.par hk hv hf0 hf2 h1 c2 c3).mono ?_
            rintro e w' ⟨rfl, hq2⟩
            exact ⟨rfl, .inl ⟨_, _, hG.quiet hq2⟩⟩
          · rw [if_neg c3, if_neg c3]
            by_cases c4 : s.m.fail = 1
            · rw [if_pos c4, if_pos c4]
              refine (hG.upd_add h.par hk hv hf0 hf2 h1 c2 c3 2 _ (fun W hW => hW.add_mem h.par value c4)).mono ?_
              rintro e w' ⟨rfl, T', t', h'⟩
              exact ⟨rfl, .inl ⟨T', t', h'⟩⟩
            · rw [if_neg c4, if_neg c4]
              refine (hG.upd_add h.par hk hv hf0 hf2 h1 c2 c3 0 _ (fun W hW => (by have := hW.add_new h hq value.data.toList hvl c4 hm (fun e he => h2 e ((hG.dat e).2 he)); rw [← bstr_data] at this; exact this))).mono ?_
              rintro e w' ⟨rfl, T', t', h'⟩
              exact ⟨rfl, .inl ⟨T', t', h'⟩⟩
      · obtain ⟨i, hi, hie⟩ : ∃ i, findE s.es (formB key) = some i ∧ s.es[i]? = some e := by
          rcases hf : findE s.es (formB key) with _ | i
          · obtain ⟨j, hj, hje⟩ := List.getElem_of_mem ((hG.dat e).1 h3)
            have := findE_none_key hf (by rw [List.getElem?_eq_getElem hj, hje] : s.es[j]? = some e)
            rw [keyB_no] at this
            exact absurd h4 this
          · obtain ⟨e', he', hek'⟩ := found hf
            refine ⟨i, rfl, ?_⟩
            rw [he', h.one (List.mem_of_getElem? he') ((hG.dat e).1 h3) (hek'.trans h4.symm)]
        have eS : updS p s key value fl = (if fl = 1 then s else s.putAt i value.data.toList) := by unfold updS; rw [if_neg hb, hi]; rfl
        have eA : updA p s key value fl = (if fl = 1 then 5 else 0) := by unfold updA; rw [if_neg hb, hi]; rfl
        rw [eS, eA]
        by_cases c1 : fl = 1
        · rw [if_pos c1, if_pos c1]
          refine (hG.upd_exists h.par hk hv hf0 hf2 h1 c1).mono ?_
          rintro e' w' ⟨rfl, hq2⟩
          exact ⟨rfl, .inl ⟨_, _, hG.quiet hq2⟩⟩
        · rw [if_neg c1, if_neg c1]
          obtain ⟨hr, _, bb, hvs, hbl⟩ := h.ent i e hie
          rw [putAt_eq hie hvs]
          refine (hG.upd_put h.par hk hv hf0 hf2 h1 h2 c1 _ hvs (by omega) (by show value.size ≤ bb.length; omega)).mono ?_
          rintro e' w' ⟨rfl, T', t', h'⟩
          exact ⟨rfl, .inl ⟨T', t', h'⟩⟩
  · have hb : updBad p s key value fl := .inl hg
    rw [show updS p s key value fl = s by unfold updS; rw [if_pos hb], show updA p s key value fl = 1 by unfold updA; rw [if_pos hb]]
    refine (upd_bad (hO.pre key)).mono ?_
    rintro e w' ⟨rfl, hq⟩
    exact ⟨rfl, _, hO.quiet hq⟩
end
/-- One table, in blocks from B on. -/
def TB (B : Nat) (w0 : World) (p : HPar) (s : HSt) (w : World) : Prop := ∃ P, PH p s P w ∧ (∀ b, P b → B ≤ b) ∧ Below B w0 w ∧ B ≤ w.heap.size
section
variable {B : Nat} {w0 w w' : World} {p : HPar} {s s' : HSt} {f : FuncId} {args : Array Value} {e0 : Ending}
theorem TB.call (h : TB B w0 p s w) (c : FCallH PH p f args s s' e0) : Calls Try.prog f args w fun e w' => e = e0 ∧ TB B w0 p s' w' := by
  obtain ⟨P, h1, h2, h3, h4⟩ := h
  refine (c w P h1).mono ?_
  rintro e w' ⟨rfl, hk, kk⟩
  refine ⟨rfl, _, hk, ?_, h3.trans (kk.below h2 h4), Nat.le_trans h4 kk.size⟩
  rintro b (hb | ⟨hb, _⟩)
  · exact h2 b hb
  · omega
theorem TB.quiet (h : TB B w0 p s w) (k : Qt w w') : TB B w0 p s w' := by
  obtain ⟨P, h1, h2, h3, h4⟩ := h
  exact ⟨P, h1.keeps k (fun _ _ h => h), h2, h3.trans (k.below (fun _ h => h.elim) h4), Nat.le_trans h4 k.size⟩
theorem TB.below (h : TB B w0 p s w) : Below B w0 w := by obtain ⟨P, h1, h2, h3, h4⟩ := h; exact h3
theorem TB.sz (h : TB B w0 p s w) : B ≤ w.heap.size := by obtain ⟨P, h1, h2, h3, h4⟩ := h; exact h4
theorem TB.len (h : TB B w0 p s w) (ho : HOk p s) : Calls Try.prog 14 #[tp p.x] w fun e w' => e = .returned (.int .i64 s.es.length) ∧ w = w' := by
  obtain ⟨P, h1, _⟩ := h
  exact ph_len ho h1
theorem TB.look (h : TB B w0 p s w) (ho : HOk p s) (key : ByteArray) : Calls Try.prog 12 #[tp p.x, .string key] w fun e w' => e = .returned (.int .u64 (lookA p s key)) ∧ TB B w0 p s w' := h.call (ph_look key ho)
theorem TB.upd (h : TB B w0 p s w) (ho : HOk p s) (hm : s.m.made < 4095) (key value : ByteArray) (fl : Int) : Calls Try.prog 9 #[tp p.x, .string key, .string value, .int .i64 fl] w fun e w' => e = .returned (.int .i64 (updA p s key value fl)) ∧ TB B w0 p (updS p s key value fl) w' := h.call (ph_upd key value fl ho hm)
theorem TB.del (h : TB B w0 p s w) (ho : HOk p s) (key : ByteArray) : Calls Try.prog 15 #[tp p.x, .string key] w fun e w' => e = .returned (.int .i64 (delA p s key)) ∧ TB B w0 p (delS p s key) w' := h.call (ph_del key ho)
theorem TB.next (h : TB B w0 p s w) (ho : HOk p s) (key : ByteArray) : Calls Try.prog 16 #[tp p.x, .string key] w fun e w' => e = nextE p s key ∧ TB B w0 p s w' := h.call (ph_next key ho)
/-- A memory of the call's own, and a table in it. -/
theorem tb_new (W : World) (k : Int) (key v mx : Nat) (h : fitsH k key v mx = true) :
    Calls Try.prog 8 #[tp W.heap.size, specV k key v mx] (W.alloc (.cells #[.map none, .int .u32 0, .slice none 0 0, .int .i64 0] 56)) fun e w' => ∃ x, e = .returned (.tuple #[tp x, .int .i64 0]) ∧ TB W.heap.size W ⟨W.heap.size, 0, x, 0, k, key, v, mx⟩ ⟨⟨0, 0, fun _ => none⟩, [], false⟩ w' := by
  obtain ⟨hb, hB, S, mv, rv, hk, hS⟩ := KF.start W
  refine (new_ok W.heap.size k key v mx h _).mono ?_
  rintro e w' ⟨x, rfl, h1, h3, h5⟩
  have hks : KSide (W.alloc (.cells #[.map none, .int .u32 0, .slice none 0 0, .int .i64 0] 56)) S W.heap.size ⟨0, 0, fun _ => none⟩ := ⟨_, _, _, _, hk, fun _ => rfl⟩
  refine ⟨x, rfl, _, PH.made hks h1 h3 h5, ?_, hb.trans (h5.below (fun _ h => h.elim) hB), Nat.le_trans hB h5.size⟩
  rintro b (hb' | ⟨hb', _⟩)
  · exact hS b hb'
  · exact Nat.le_trans hB hb'
theorem hok_new {bm bx x y : Nat} {k : Int} {key v mx : Nat} {m : PS} (h : fitsH k key v mx = true) : HOk ⟨bm, bx, x, y, k, key, v, mx⟩ ⟨m, [], false⟩ := by
  obtain ⟨h1, h2, h3, h4, h5⟩ := fitsH_true h
  exact ⟨⟨h1, by show 5 ≤ key; omega, by show key ≤ 260; omega, by show 1 ≤ v; omega, by show v ≤ 4096; omega, by show 1 ≤ mx; omega, by show mx ≤ 4096; omega⟩, Nat.zero_le _, fun i e he => by simp at he, fun i j a b ha => by simp at ha, fun h => by cases h⟩
/-! ### what an Update leaves -/
/-- An Update that may be. -/
structure May (p : HPar) (s : HSt) (key value : ByteArray) (fl : Int) : Prop where
  k : IsKey p.key key
  v : value.size = p.v
  f : 0 ≤ fl ∧ fl ≤ 2
  gone : s.gone = false
theorem May.not {key value : ByteArray} {fl : Int} (h : May p s key value fl) : ¬ updBad p s key value fl := by
  rintro (h1 | h1 | h1 | h1 | h1)
  · rw [h.gone] at h1; cases h1
  · exact h1 h.k
  · exact h1 h.v
  · have := h.f.1; omega
  · have := h.f.2; omega
theorem upd_new {key value : ByteArray} (h : May p s key value 0) (hf : findE s.es (formB key) = none) (hn : s.es.length ≠ p.mx) (hfl : s.m.fail ≠ 1) : updA p s key value 0 = 0 ∧ updS p s key value 0 = s.insert p (formB key) value.data.toList := by
  unfold updA updS
  rw [if_neg h.not, if_neg h.not, hf]
  show (if (0 : Int) = 2 then (4 : Int) else if s.es.length = p.mx then 3 else if s.m.fail = 1 then 2 else 0) = 0 ∧ (if (0 : Int) = 2 then s else if s.es.length = p.mx then s else if s.m.fail = 1 then _ else _) = _
  rw [if_neg (by decide), if_neg hn, if_neg hfl, if_neg (by decide), if_neg hn, if_neg hfl]
  exact ⟨rfl, rfl⟩
theorem upd_old {key value : ByteArray} {fl : Int} {i : Nat} (h : May p s key value fl) (hf : findE s.es (formB key) = some i) : updA p s key value fl = (if fl = 1 then 5 else 0) ∧ updS p s key value fl = if fl = 1 then s else s.putAt i value.data.toList := by
  unfold updA updS
  rw [if_neg h.not, if_neg h.not, hf]
  exact ⟨rfl, rfl⟩
end
end Go.Proofs.Ytomhflaofipccaa
