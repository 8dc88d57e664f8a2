/-
  Package trie: the least form above one: the look at one node. Package trie: every entry of a tree: the walk, with the look for the least above. Package trie: the least form above one, whole. Package trie: every entry of a tree: the walk, with the freeing of regions.
-/
import Derived.Test.YtomhflaofipccaaP24
import Derived.Test.YtomhflaofipccaaP20
namespace Go.Proofs.Ytomhflaofipccaa
open Go Go.RowKit Go.Maps
set_option linter.unusedVariables false
set_option linter.unusedSimpArgs false
set_option maxRecDepth 100000
abbrev eachT : TypeId := 81
abbrev strT : TypeId := 9
/-- What the look captured. -/
structure VW (w : World) (sb lb : Nat) (form : ByteArray) (best : Option (Nat × Ent)) : Prop where
  s : Blk w sb strT #[.string form]
  l : Blk w lb nptrT #[bestV best]
section
variable {w w' : World} {sb lb : Nat} {form : ByteArray} {best : Option (Nat × Ent)}
theorem VW.keeps {S : Nat → Prop} (h : VW w sb lb form best) (k : Keeps S w w') (h1 : ¬ S sb) (h2 : ¬ S lb) : VW w' sb lb form best := ⟨h.s.keeps k h1, h.l.keeps k h2⟩
theorem VW.quiet (h : VW w sb lb form best) (k : Qt w w') : VW w' sb lb form best := h.keeps k (fun h => h) (fun h => h)
def VPost (w : World) (sb lb : Nat) (form : ByteArray) (best : Option (Nat × Ent)) (e : Ending) (w' : World) : Prop := e = .returned (.tuple #[]) ∧ VW w' sb lb form best ∧ Keeps (fun b => b = lb) w w'
theorem above_no {b : Nat} {f : ByteArray} {len n : Nat} {vl vr : Value} (h : VW w sb lb form best) (hb : Blk w b nodeT (nodeC f len n vl vr)) (hg : gtS f form = false) :
    Calls Try.prog 46 #[tp b, tp sb, tp lb] w (VPost w sb lb form best) := by
  have H := Lib.hid h
  have c0 : w.cell? ⟨b, 0, none⟩ = some (.string f) := hb.cell 0
  have d0 : w.cell? ⟨sb, 0, none⟩ = some (.string form) := h.s.cell 0
  have bg := gt_run strT f form
  rw [hg] at bg
  clear h hb hg
  go_enter Try.func46, Try.ntmps46
  go_upto_region 0 with fail
  go_quiet (fail)
  go_wp2_with fail
  go_end0
  exact ⟨rfl, H.out.quiet ((Keeps.refl _ w).drewN' _), (Keeps.refl _ w).drewN' _⟩
theorem above_first {b : Nat} {f : ByteArray} {len n : Nat} {vl vr : Value} (h : VW w sb lb form none) (hb : Blk w b nodeT (nodeC f len n vl vr)) (hg : gtS f form = true) :
    Calls Try.prog 46 #[tp b, tp sb, tp lb] w (VPost w sb lb form (some (b, ⟨f, n⟩))) := by
  have H := Lib.hid h
  have c0 : w.cell? ⟨b, 0, none⟩ = some (.string f) := hb.cell 0
  have d0 : w.cell? ⟨sb, 0, none⟩ = some (.string form) := h.s.cell 0
  have d1 : w.cell? ⟨lb, 0, none⟩ = some (.pointer none) := h.l.cell 0
  have fz := h.l.frozen 0
  have bg := gt_run strT f form
  rw [hg] at bg
  clear h hb hg
  go_enter Try.func46, Try.ntmps46
  go_upto_region 0 with fail
  go_quiet (fail)
  go_wp2_with fail
  go_end0
  have hq := H.out.quiet ((Keeps.refl _ w).drewN' nq)
  exact ⟨rfl, ⟨hq.s.far (hq.s.ne_ hq.l (by decide)) _, hq.l.set_ 0 (tp b)⟩, ((Keeps.refl (fun b => b = lb) w).drewN' nq).setCell (p := ⟨lb, 0, none⟩) (.inl rfl) _⟩
theorem above_more {b : Nat} {f : ByteArray} {len n : Nat} {vl vr : Value} {b' : Nat} {e' : Ent} {cs : Array Value} (h : VW w sb lb form (some (b', e'))) (hb : Blk w b nodeT (nodeC f len n vl vr)) (hb' : Blk w b' nodeT cs) (hcs : cs[0]? = some (.string e'.key)) (hg : gtS f form = true) (d : Bool) (hd : ltS f e'.key = d) (hne : e'.key.toList.isEmpty = false) :
    Calls Try.prog 46 #[tp b, tp sb, tp lb] w (VPost w sb lb form (if d then some (b, ⟨f, n⟩) else some (b', e'))) := by
  have H := Lib.hid h
  have c0 : w.cell? ⟨b, 0, none⟩ = some (.string f) := hb.cell 0
  have c1 : w.cell? ⟨b', 0, none⟩ = some (.string e'.key) := (hb'.cell 0).trans hcs
  have d0 : w.cell? ⟨sb, 0, none⟩ = some (.string form) := h.s.cell 0
  have d1 : w.cell? ⟨lb, 0, none⟩ = some (tp b') := h.l.cell 0
  have fz := h.l.frozen 0
  have bg := gt_run strT f form
  rw [hg] at bg
  have bl : Op.bytesLess f.toList e'.key.toList = d := hd
  clear h hb hg hb' hcs hd
  cases d
  · rw [if_neg (by decide)]
    go_enter Try.func46, Try.ntmps46
    go_upto_region 0 with fail
    go_quiet (fail)
    go_wp2_with fail
    go_end0
    exact ⟨rfl, H.out.quiet ((Keeps.refl _ w).drewN' _), (Keeps.refl _ w).drewN' _⟩
  · rw [if_pos rfl]
    go_enter Try.func46, Try.ntmps46
    go_upto_region 0 with fail
    go_quiet (fail)
    go_wp2_with fail
    go_end0
    have hq := H.out.quiet ((Keeps.refl _ w).drewN' nq)
    exact ⟨rfl, ⟨hq.s.far (hq.s.ne_ hq.l (by decide)) _, hq.l.set_ 0 (tp b)⟩, ((Keeps.refl (fun b => b = lb) w).drewN' nq).setCell (p := ⟨lb, 0, none⟩) (.inl rfl) _⟩
end
end Go.Proofs.Ytomhflaofipccaa
namespace Go.Proofs.Ytomhflaofipccaa
open Go Go.RowKit Go.Maps
set_option linter.unusedVariables false
set_option linter.unusedSimpArgs false
set_option maxRecDepth 100000
abbrev ewV (vb wb : Nat) : Value := .func (.func 48) #[] #[tp vb, tp wb]
/-- What the walk captured: whom it calls, itself. -/
structure EW (w : World) (vb wb : Nat) (VV : Value) : Prop where
  v : Blk w vb eachT #[VV]
  k : Blk w wb eachT #[ewV vb wb]
theorem EW.quiet {w w' : World} {vb wb : Nat} {VV : Value} (h : EW w vb wb VV) (k : Qt w w') : EW w' vb wb VV := ⟨h.v.quiet k, h.k.quiet k⟩
def Tr.nodes : Tr → List (Nat × Ent)
  | .nil => []
  | .node b f len n l r => (if n = 0 then [] else [(b, ⟨f, n⟩)]) ++ (l.nodes ++ r.nodes)
theorem Tr.nodes_node {b : Nat} {f : ByteArray} {len n : Nat} {l r : Tr} : (Tr.node b f len n l r).nodes = (if n = 0 then [] else [(b, ⟨f, n⟩)]) ++ (l.nodes ++ r.nodes) := rfl
theorem Tr.nodes_has : ∀ {t : Tr} {q : Nat × Ent}, q ∈ t.nodes → t.has q.1 q.2
  | .nil, q, h => by simp [Tr.nodes] at h
  | .node b f len n l r, q, h => by
    rw [Tr.nodes_node] at h
    simp only [List.mem_append] at h
    rcases h with h | h | h
    · split at h
      · simp at h
      · rename_i hn
        simp at h
        subst h
        exact .inl ⟨rfl, rfl, hn⟩
    · exact .inr (.inl (Tr.nodes_has h))
    · exact .inr (.inr (Tr.nodes_has h))
theorem Tr.nodes_ents : ∀ {t : Tr}, t.nodes.map (fun q => q.2) = t.ents
  | .nil => rfl
  | .node b f len n l r => by
    rw [Tr.nodes_node]
    show _ = (if n = 0 then [] else [⟨f, n⟩]) ++ (l.ents ++ r.ents)
    rw [List.map_append, List.map_append, Tr.nodes_ents, Tr.nodes_ents]
    congr 1
    split <;> rfl
theorem each_nil (w : World) (vb wb : Nat) : Calls Try.prog 48 #[.pointer none, tp vb, tp wb] w fun e w' => e = .returned (.tuple #[]) ∧ w = w' := by
  go_enter Try.func48, Try.ntmps48
  go_wp2_with fail
  exact bodyPost_ret (results_none rfl _ _ _) rfl ⟨rfl, rfl⟩
theorem idx0 (a b : Value) (w : World) : (Instr.index 69 (.agg #[a, b]) (.int .i64 0)).run Try.prog w = .ok a w := by kernel_rfl
theorem idx1 (a b : Value) (w : World) : (Instr.index 69 (.agg #[a, b]) (.int .i64 1)).run Try.prog w = .ok b w := by kernel_rfl
def pickN (d : List (Nat × Ent)) (b : Nat) (f : ByteArray) (n : Nat) : List (Nat × Ent) := d ++ (if n = 0 then [] else [(b, ⟨f, n⟩)])
section
variable {vb wb sb lb : Nat}
/-- What stays true from entry to entry. -/
structure InvA (vb wb sb lb : Nat) (I : List (Nat × Ent) → World → Prop) (P : List (Nat × Ent) → Nat → Ent → Prop) : Prop where
  ew : ∀ d w, I d w → EW w vb wb (.func (.func 46) #[] #[tp sb, tp lb])
  quiet : ∀ d w w', I d w → Qt w w' → I d w'
  visit : ∀ d w b e, I d w → P d b e → Calls Try.prog 46 #[tp b, tp sb, tp lb] w fun e' w' => e' = .returned (.tuple #[]) ∧ I (d ++ [(b, e)]) w'
variable {I : List (Nat × Ent) → World → Prop} {P : List (Nat × Ent) → Nat → Ent → Prop}
set_option maxHeartbeats 2000000 in
theorem eachA_node (HI : InvA vb wb sb lb I P) {b : Nat} {f : ByteArray} {len n : Nat} {l r : Tr} (hb : ∀ d w, I d w → Blk w b nodeT (nodeC f len n l.ptr r.ptr)) (d : List (Nat × Ent)) (hp : n ≠ 0 → P d b ⟨f, n⟩)
    (hl : ∀ w, I (pickN d b f n) w → Calls Try.prog 48 #[l.ptr, tp vb, tp wb] w fun e w' => e = .returned (.tuple #[]) ∧ I (pickN d b f n ++ l.nodes) w')
    (hr : ∀ w, I (pickN d b f n ++ l.nodes) w → Calls Try.prog 48 #[r.ptr, tp vb, tp wb] w fun e w' => e = .returned (.tuple #[]) ∧ I (pickN d b f n ++ l.nodes ++ r.nodes) w') (w : World) (h : I d w) :
    Calls Try.prog 48 #[tp b, tp vb, tp wb] w fun e w' => e = .returned (.tuple #[]) ∧ I (d ++ (Tr.node b f len n l r).nodes) w' := by
  have e0 : ((addr n 0) != 0) = decide (n ≠ 0) := by unfold addr; by_cases hn : n = 0 <;> simp [hn]
  have HB := Lib.hid hb; have HL := Lib.hid hl; have HR := Lib.hid hr; have HIH := Lib.hid HI; have H := Lib.hid h; have HP := Lib.hid hp
  have c2 : w.cell? ⟨b, 2, none⟩ = some (.int .u64 (addr n 0)) := (hb d w h).cell 2
  have v0 : w.cell? ⟨vb, 0, none⟩ = some (.func (.func 46) #[] #[tp sb, tp lb]) := (HI.ew d w h).v.cell 0
  have HF : Hid ((pickN d b f n ++ l.nodes) ++ r.nodes = d ++ (Tr.node b f len n l r).nodes) := by
    have : (pickN d b f n ++ l.nodes) ++ r.nodes = d ++ (Tr.node b f len n l r).nodes := by unfold pickN; rw [Tr.nodes_node]; simp
    exact Lib.hid this
  clear hb hl hr HI h hp
  by_cases hn : n = 0
  · have e1 : ((addr n 0) != 0) = false := by rw [e0]; simp [hn]
    have HK : Hid (I (pickN d b f n) w) := by unfold pickN; rw [if_pos hn, List.append_nil]; exact H
    have c3 : w.cell? ⟨b, 3, none⟩ = some l.ptr := (HB.out _ _ H.out).cell 3
    have c4 : w.cell? ⟨b, 4, none⟩ = some r.ptr := (HB.out _ _ H.out).cell 4
    have k0 : w.cell? ⟨wb, 0, none⟩ = some (ewV vb wb) := (HIH.out.ew _ _ H.out).k.cell 0
    clear e0 hn
    generalize pickN d b f n = D at *
    generalize addr n 0 = A at *
    go_enter Try.func48, Try.ntmps48
    go_wp2_with fail
    go_loopw [20] (fun i wr => (i = .int .i64 0 ∧ I D wr) ∨ (i = .int .i64 1 ∧ I (D ++ l.nodes) wr) ∨ (i = .int .i64 2 ∧ I ((D ++ l.nodes) ++ r.nodes) wr)) (fun i _ => 2 - (intOf i).toNat)
    case atStart => exact .inl ⟨rfl, HK.out⟩
    case round =>
      rcases hrel with ⟨rfl, h2⟩ | ⟨rfl, h2⟩ | ⟨rfl, h2⟩
      · have k2 : wr.cell? ⟨wb, 0, none⟩ = some (ewV vb wb) := (HIH.out.ew _ _ h2).k.cell 0
        have CL := Lib.hid (HL.out _ h2)
        have ix := fun w => idx0 l.ptr r.ptr w
        clear h2
        go_wp2_with (go_at_call 48; refine CL.out.mono ?_; rintro e w3 ⟨rfl, h3⟩; have H3 := Lib.hid h3; clear h3)
        go_roundw
        case rel => exact .inr (.inl ⟨rfl, H3.out⟩)
        case measure => simp [intOf]
      · have k2 : wr.cell? ⟨wb, 0, none⟩ = some (ewV vb wb) := (HIH.out.ew _ _ h2).k.cell 0
        have CR := Lib.hid (HR.out _ h2)
        have ix := fun w => idx1 l.ptr r.ptr w
        clear h2
        go_wp2_with (go_at_call 48; refine CR.out.mono ?_; rintro e w3 ⟨rfl, h3⟩; have H3 := Lib.hid h3; clear h3)
        go_roundw
        case rel => exact .inr (.inr ⟨rfl, H3.out⟩)
        case measure => simp [intOf]
      · have H2 := Lib.hid h2
        clear h2
        go_wp2_with fail
        go_end0
        exact ⟨rfl, HF.out ▸ H2.out⟩
  · have e1 : ((addr n 0) != 0) = true := by rw [e0]; simp [hn]
    have CV := Lib.hid (HIH.out.visit d w b ⟨f, n⟩ H.out (HP.out hn))
    have HD : Hid (d ++ [(b, ⟨f, n⟩)] = pickN d b f n) := by
      have : d ++ [(b, (⟨f, n⟩ : Ent))] = pickN d b f n := by unfold pickN; rw [if_neg hn]
      exact Lib.hid this
    rw [HD.out] at CV
    clear e0 hn HD
    generalize pickN d b f n = D at *
    generalize addr n 0 = A at *
    go_enter Try.func48, Try.ntmps48
    go_wp2_with (go_at_call 46; refine CV.out.mono ?_; rintro e w1 ⟨rfl, h1⟩; have c3 : w1.cell? ⟨b, 3, none⟩ = some l.ptr := (HB.out _ _ h1).cell 3; have c4 : w1.cell? ⟨b, 4, none⟩ = some r.ptr := (HB.out _ _ h1).cell 4; have HK := Lib.hid h1; clear h1)
    clear c2 v0
    go_loopw [20] (fun i wr => (i = .int .i64 0 ∧ I D wr) ∨ (i = .int .i64 1 ∧ I (D ++ l.nodes) wr) ∨ (i = .int .i64 2 ∧ I ((D ++ l.nodes) ++ r.nodes) wr)) (fun i _ => 2 - (intOf i).toNat)
    case atStart => exact .inl ⟨rfl, HK.out⟩
    case round =>
      rcases hrel with ⟨rfl, h2⟩ | ⟨rfl, h2⟩ | ⟨rfl, h2⟩
      · have k2 : wr.cell? ⟨wb, 0, none⟩ = some (ewV vb wb) := (HIH.out.ew _ _ h2).k.cell 0
        have CL := Lib.hid (HL.out _ h2)
        have ix := fun w => idx0 l.ptr r.ptr w
        clear h2
        go_wp2_with (go_at_call 48; refine CL.out.mono ?_; rintro e w3 ⟨rfl, h3⟩; have H3 := Lib.hid h3; clear h3)
        go_roundw
        case rel => exact .inr (.inl ⟨rfl, H3.out⟩)
        case measure => simp [intOf]
      · have k2 : wr.cell? ⟨wb, 0, none⟩ = some (ewV vb wb) := (HIH.out.ew _ _ h2).k.cell 0
        have CR := Lib.hid (HR.out _ h2)
        have ix := fun w => idx1 l.ptr r.ptr w
        clear h2
        go_wp2_with (go_at_call 48; refine CR.out.mono ?_; rintro e w3 ⟨rfl, h3⟩; have H3 := Lib.hid h3; clear h3)
        go_roundw
        case rel => exact .inr (.inr ⟨rfl, H3.out⟩)
        case measure => simp [intOf]
      · have H2 := Lib.hid h2
        clear h2
        go_wp2_with fail
        go_end0
        exact ⟨rfl, HF.out ▸ H2.out⟩
theorem eachA_walk (HI : InvA vb wb sb lb I P) : ∀ {t : Tr} (d : List (Nat × Ent)), (∀ d w, I d w → t.At w) → (∀ a b e c, t.nodes = a ++ (b, e) :: c → P (d ++ a) b e) → ∀ w, I d w →
    Calls Try.prog 48 #[t.ptr, tp vb, tp wb] w fun e w' => e = .returned (.tuple #[]) ∧ I (d ++ t.nodes) w'
  | .nil, d, _, _, w, h => by
    refine (each_nil w vb wb).mono ?_
    rintro e w' ⟨rfl, rfl⟩
    exact ⟨rfl, by show I (d ++ []) w; rw [List.append_nil]; exact h⟩
  | .node b f len n l r, d, hA, hp, w, h => by
    have hn : (Tr.node b f len n l r).nodes = (if n = 0 then [] else [(b, (⟨f, n⟩ : Ent))]) ++ (l.nodes ++ r.nodes) := Tr.nodes_node
    refine eachA_node HI (fun d w h => (hA d w h).1) d (fun h0 => ?_)
      (eachA_walk HI _ (fun d w h => (hA d w h).2.1) (fun a b' e c hq => ?_))
      (eachA_walk HI _ (fun d w h => (hA d w h).2.2) (fun a b' e c hq => ?_)) w h
    · have := hp [] b ⟨f, n⟩ (l.nodes ++ r.nodes) (by rw [hn, if_neg h0]; rfl)
      rwa [List.append_nil] at this
    · have := hp ((if n = 0 then [] else [(b, (⟨f, n⟩ : Ent))]) ++ a) b' e (c ++ r.nodes) (by rw [hn, hq]; simp)
      unfold pickN
      rwa [← List.append_assoc] at this
    · have := hp ((if n = 0 then [] else [(b, (⟨f, n⟩ : Ent))]) ++ l.nodes ++ a) b' e c (by rw [hn, hq]; simp)
      unfold pickN
      simpa [List.append_assoc] using this
set_option maxHeartbeats 2000000 in
/-- All of a tree's entries, from a world on. -/
theorem eachA_any {t : Tr} {x : Nat} {w : World} (J : Nat → Nat → List (Nat × Ent) → World → Prop) (HI : ∀ vb wb, InvA vb wb sb lb (J vb wb) P) (hA : ∀ vb wb d w, J vb wb d w → t.At w) (hp : ∀ a b e c, t.nodes = a ++ (b, e) :: c → P a b e)
    (hs : ∀ w', EW w' w.heap.size (w.heap.size + 1) (.func (.func 46) #[] #[tp sb, tp lb]) → Qt w w' → J w.heap.size (w.heap.size + 1) [] w') (hr : w.cell? ⟨x, 5, none⟩ = some t.ptr) (hx : x < w.heap.size) :
    Calls Try.prog 31 #[.pointer (some ⟨x, 5, none⟩), (.func (.func 46) #[] #[tp sb, tp lb])] w fun e w' => e = .returned (.tuple #[]) ∧ J w.heap.size (w.heap.size + 1) t.nodes w' := by
  have b0 := (Blk.new w eachT #[(.func (.func 46) #[] #[tp sb, tp lb])]).alloc (.cells #[ewV w.heap.size (w.heap.size + 1)] eachT)
  have b1 := Blk.new (w.alloc (.cells #[(.func (.func 46) #[] #[tp sb, tp lb])] eachT)) eachT #[ewV w.heap.size (w.heap.size + 1)]
  rw [show (w.alloc (.cells #[(.func (.func 46) #[] #[tp sb, tp lb])] eachT)).heap.size = w.heap.size + 1 by simp] at b1
  have HE : Hid (EW ((w.alloc (.cells #[(.func (.func 46) #[] #[tp sb, tp lb])] eachT)).alloc (.cells #[ewV w.heap.size (w.heap.size + 1)] eachT)) w.heap.size (w.heap.size + 1) (.func (.func 46) #[] #[tp sb, tp lb])) := ⟨b0, b1⟩
  have HK : Hid (Qt w ((w.alloc (.cells #[(.func (.func 46) #[] #[tp sb, tp lb])] eachT)).alloc (.cells #[ewV w.heap.size (w.heap.size + 1)] eachT))) := Lib.hid (((Keeps.refl (fun _ => False) w).alloc _).alloc _)
  have HS := Lib.hid hs; have HR := Lib.hid hr; have HX := Lib.hid hx; have HAA := Lib.hid hA; have HP := Lib.hid hp; have HII := Lib.hid HI
  clear b0 b1 hs hr hx hA hp HI
  go_enter Try.func31, Try.ntmps31
  go_upto_region 3 with fail
  generalize World.alloc _ _ = W at HE HK ⊢
  have HJ := Lib.hid (HS.out W.drew (HE.out.quiet (Keeps.refl _ W).drew) HK.out.drew)
  have CW := Lib.hid (eachA_walk (HII.out _ _) [] (HAA.out _ _) HP.out W.drew HJ.out)
  have z0 : W.cell? ⟨w.heap.size + 1, 0, none⟩ = some (ewV w.heap.size (w.heap.size + 1)) := HE.out.k.cell 0
  have z1 : W.cell? ⟨x, 5, none⟩ = some t.ptr := by rw [← HR.out]; exact cell_congr _ (HK.out.block x HX.out (fun h => h))
  go_region_law (first
    | (go_simp; go_at_call 48; refine CW.out.mono ?_; rintro e w5 ⟨rfl, h5⟩; have H5 := Lib.hid h5; clear h5))
  all_goals go_wp2_with fail
  all_goals go_end0
  all_goals exact ⟨rfl, H5.out⟩
end
end Go.Proofs.Ytomhflaofipccaa
namespace Go.Proofs.Ytomhflaofipccaa
open Go Go.RowKit Go.Maps
set_option linter.unusedVariables false
set_option linter.unusedSimpArgs false
set_option maxRecDepth 100000
/-- While the look goes on: the least of those that were seen. -/
structure AI (w0 : World) (t : Tr) (form : ByteArray) (sb lb vb wb : Nat) (d : List (Nat × Ent)) (w : World) : Prop where
  ew : EW w vb wb (.func (.func 46) #[] #[tp sb, tp lb])
  at_ : t.At w
  keeps : Qt w0 w
  best : ∃ best : Option (Nat × Ent), VW w sb lb form best ∧ Least (fun k => gtS k form = true) (fun e => ∃ b, (b, e) ∈ d) (best.map fun q => q.2.key) ∧ ∀ b e, best = some (b, e) → t.has b e
theorem ne_empty' {k : ByteArray} (h : 1 ≤ k.size) : k.toList.isEmpty = false := by
  rw [Lib.toList_data]
  cases hl : k.data.toList with
  | nil => rw [Lib.size_eq, hl] at h; simp at h
  | cons => rfl
theorem Tr.has_pre {K : Nat} {t : Tr} (ok : t.ok K) {b : Nat} {e : Ent} (h : t.has b e) : ∃ len, Pre K e.key len := by
  obtain ⟨m, h1, _⟩ := Tr.ents_from ok (from_zero t e.key) e (Tr.has_mem h)
  exact ⟨m, h1⟩
section
variable {w : World} {x K sb lb : Nat} {t : Tr} {form : ByteArray}
theorem ai_inv (w0 : World) (ok : t.ok K) (hl : w0.heap.size ≤ lb) (vb wb : Nat) : InvA vb wb sb lb (AI w0 t form sb lb vb wb) (fun _ => t.has) where
  ew d w h := h.ew
  quiet d w w' h k := by
    obtain ⟨best, h1, h2, h3⟩ := h.best
    exact ⟨h.ew.quiet k, h.at_.quiet k, h.keeps.then_ k, best, h1.quiet k, h2, h3⟩
  visit d w b e h hp := by
    obtain ⟨best, h1, h2, h3⟩ := h.best
    obtain ⟨vl, vr, hb, _⟩ := Tr.At.has h.at_ ok hp
    have hs : ∀ x, (∃ b', (b', x) ∈ d ++ [(b, e)]) ↔ (∃ b', (b', x) ∈ d) ∨ x = e := fun x => by
      simp only [List.mem_append, List.mem_singleton, Prod.mk.injEq]
      constructor
      · rintro ⟨b', hh | ⟨_, rfl⟩⟩
        · exact .inl ⟨b', hh⟩
        · exact .inr rfl
      · rintro (⟨b', hh⟩ | rfl)
        · exact ⟨b', .inl hh⟩
        · exact ⟨b, .inr ⟨rfl, rfl⟩⟩
    have fin : ∀ (best' : Option (Nat × Ent)) (w' : World), VW w' sb lb form best' → Keeps (fun b => b = lb) w w' → Least (fun k => gtS k form = true) (fun e' => ∃ b', (b', e') ∈ d ++ [(b, e)]) (best'.map fun q => q.2.key) → (∀ b e, best' = some (b, e) → t.has b e) → AI w0 t form sb lb vb wb (d ++ [(b, e)]) w' := fun best' w' q1 q2 q3 q4 =>
      have ne : ∀ g T cs, Blk w g T cs → T ≠ nptrT → ¬ g = lb := fun g T cs hg hT e' => by subst e'; exact absurd rfl (hg.ne_ h1.l hT)
      ⟨⟨h.ew.v.keeps q2 (ne _ _ _ h.ew.v (by decide)), h.ew.k.keeps q2 (ne _ _ _ h.ew.k (by decide))⟩, h.at_.off q2 (fun b' cs hb' e' => ne _ _ _ hb' (by decide) e'), h.keeps.trans (q2.mono fun b' e' => .inr ⟨by omega, by rw [e']; exact h1.l.lt⟩), best', q1, q3, q4⟩
    cases hg : gtS e.key form
    · refine (above_no h1 hb hg).mono ?_
      rintro e' w' ⟨rfl, q1, q2⟩
      exact ⟨rfl, fin best w' q1 q2 (h2.skip (e := e) (by rw [hg]; decide) hs) h3⟩
    · rcases best with _ | ⟨b', e'⟩
      · refine (above_first h1 hb hg).mono ?_
        rintro e' w' ⟨rfl, q1, q2⟩
        exact ⟨rfl, fin _ w' q1 q2 (h2.take (e := e) hg (.inl rfl) hs) (fun b2 e2 q => by cases q; exact hp)⟩
      · obtain ⟨vl', vr', hb', _⟩ := Tr.At.has h.at_ ok (h3 _ _ rfl)
        obtain ⟨len', hp'⟩ := Tr.has_pre ok (h3 _ _ rfl)
        have hne : e'.key.toList.isEmpty = false := ne_empty' (by rw [hp'.sz]; have := hp'.k5; omega)
        refine (above_more h1 hb hb' rfl hg (ltS e.key e'.key) rfl hne).mono ?_
        rintro e'' w' ⟨rfl, q1, q2⟩
        cases hl2 : ltS e.key e'.key
        · rw [hl2, if_neg (by decide)] at q1
          exact ⟨rfl, fin _ w' q1 q2 (h2.stay (e := e) hl2 hs) h3⟩
        · rw [hl2, if_pos rfl] at q1
          exact ⟨rfl, fin _ w' q1 q2 (h2.take (e := e) hg (.inr hl2) hs) (fun b2 e2 q => by cases q; exact hp)⟩
set_option maxHeartbeats 1000000 in
theorem above_any (ok : t.ok K) (hA : t.At w) (hr : w.cell? ⟨x, 5, none⟩ = some t.ptr) (hx : x < w.heap.size) :
    Calls Try.prog 28 #[.pointer (some ⟨x, 5, none⟩), .string form] w fun e w' => ∃ best : Option (Nat × Ent), e = .returned (bestV best) ∧ Least (fun k => gtS k form = true) (fun e => e ∈ t.ents) (best.map fun q => q.2.key) ∧ (∀ b e, best = some (b, e) → t.has b e) ∧ Qt w w' := by
  obtain ⟨W, hW⟩ : ∃ W, W = (w.alloc (.cells #[.string form] strT)).alloc (.cells #[.pointer none] nptrT) := ⟨_, rfl⟩
  have b0 : Blk W w.heap.size strT #[.string form] := by rw [hW]; exact (Blk.new w strT #[.string form]).alloc _
  have b1 : Blk W (w.heap.size + 1) nptrT #[.pointer none] := by
    have := Blk.new (w.alloc (.cells #[.string form] strT)) nptrT #[.pointer none]
    rw [show (w.alloc (.cells #[.string form] strT)).heap.size = w.heap.size + 1 by simp] at this
    rw [hW]; exact this
  have kk : Qt w W := by rw [hW]; exact ((Keeps.refl (fun _ => False) w).alloc _).alloc _
  have hwz : W.heap.size = w.heap.size + 1 + 1 := by rw [hW]; simp
  have hms : ∀ a b e c, t.nodes = a ++ (b, e) :: c → t.has b e := fun a b e c hq => Tr.nodes_has (q := (b, e)) (by rw [hq]; simp)
  have CE := Lib.hid (eachA_any (t := t) (x := x) (w := W) (sb := w.heap.size) (lb := w.heap.size + 1) (P := fun _ => t.has) (fun vb wb => AI w t form w.heap.size (w.heap.size + 1) vb wb) (fun vb wb => ai_inv w ok (by omega) vb wb) (fun vb wb d w h => h.at_) hms
    (fun w' hE hq => ⟨hE, (hA.quiet kk).quiet hq, kk.then_ hq, none, ⟨b0.quiet hq, b1.quiet hq⟩, (Least.start).congr (fun e => ⟨fun h => h.elim, fun ⟨b, h⟩ => by simp at h⟩), fun b e h => by cases h⟩)
    (by rw [← hr]; exact cell_congr _ (kk.block x hx (fun h => h))) (by omega))
  have HN : Hid (∀ e, (∃ b, (b, e) ∈ t.nodes) ↔ e ∈ t.ents) := fun e => by
    rw [← Tr.nodes_ents, List.mem_map]
    constructor
    · rintro ⟨b, hb⟩; exact ⟨(b, e), hb, rfl⟩
    · rintro ⟨q, hq, rfl⟩; exact ⟨q.1, hq⟩
  have HWW := Lib.hid hW
  clear ok hA hr hx b0 b1 kk hms hW hwz
  rw [HWW.out] at CE
  go_enter Try.func28, Try.ntmps28
  go_wp2_with (go_at_call 31; refine CE.out.mono ?_; rintro e w1 ⟨rfl, h1⟩; obtain ⟨best, h2, h3, h4⟩ := h1.best; have z1 : w1.cell? ⟨w.heap.size + 1, 0, none⟩ = some (bestV best) := h2.l.cell 0; have HK := Lib.hid h1.keeps; have H3 := Lib.hid h3; have H4 := Lib.hid h4; clear h1 h2 h3 h4)
  go_ret
  exact ⟨best, rfl, H3.out.congr HN.out, H4.out, HK.out⟩
end
end Go.Proofs.Ytomhflaofipccaa
namespace Go.Proofs.Ytomhflaofipccaa
open Go Go.RowKit Go.Maps
set_option linter.unusedVariables false
set_option linter.unusedSimpArgs false
set_option maxRecDepth 100000
section
variable {vb wb xb : Nat}
/-- What stays true from entry to entry. -/
structure InvF (vb wb xb : Nat) (I : List (Nat × Ent) → World → Prop) (P : List (Nat × Ent) → Nat → Ent → Prop) : Prop where
  ew : ∀ d w, I d w → EW w vb wb (.func (.func 32) #[] #[tp xb])
  quiet : ∀ d w w', I d w → Qt w w' → I d w'
  visit : ∀ d w b e, I d w → P d b e → Calls Try.prog 32 #[tp b, tp xb] w fun e' w' => e' = .returned (.tuple #[]) ∧ I (d ++ [(b, e)]) w'
variable {I : List (Nat × Ent) → World → Prop} {P : List (Nat × Ent) → Nat → Ent → Prop}
set_option maxHeartbeats 2000000 in
theorem eachF_node (HI : InvF vb wb xb I P) {b : Nat} {f : ByteArray} {len n : Nat} {l r : Tr} (hb : ∀ d w, I d w → Blk w b nodeT (nodeC f len n l.ptr r.ptr)) (d : List (Nat × Ent)) (hp : n ≠ 0 → P d b ⟨f, n⟩)
    (hl : ∀ w, I (pickN d b f n) w → Calls Try.prog 48 #[l.ptr, tp vb, tp wb] w fun e w' => e = .returned (.tuple #[]) ∧ I (pickN d b f n ++ l.nodes) w')
    (hr : ∀ w, I (pickN d b f n ++ l.nodes) w → Calls Try.prog 48 #[r.ptr, tp vb, tp wb] w fun e w' => e = .returned (.tuple #[]) ∧ I (pickN d b f n ++ l.nodes ++ r.nodes) w') (w : World) (h : I d w) :
    Calls Try.prog 48 #[tp b, tp vb, tp wb] w fun e w' => e = .returned (.tuple #[]) ∧ I (d ++ (Tr.node b f len n l r).nodes) w' := by
  have e0 : ((addr n 0) != 0) = decide (n ≠ 0) := by unfold addr; by_cases hn : n = 0 <;> simp [hn]
  have HB := Lib.hid hb; have HL := Lib.hid hl; have HR := Lib.hid hr; have HIH := Lib.hid HI; have H := Lib.hid h; have HP := Lib.hid hp
  have c2 : w.cell? ⟨b, 2, none⟩ = some (.int .u64 (addr n 0)) := (hb d w h).cell 2
  have v0 : w.cell? ⟨vb, 0, none⟩ = some (.func (.func 32) #[] #[tp xb]) := (HI.ew d w h).v.cell 0
  have HF : Hid ((pickN d b f n ++ l.nodes) ++ r.nodes = d ++ (Tr.node b f len n l r).nodes) := by
    have : (pickN d b f n ++ l.nodes) ++ r.nodes = d ++ (Tr.node b f len n l r).nodes := by unfold pickN; rw [Tr.nodes_node]; simp
    exact Lib.hid this
  clear hb hl hr HI h hp
  by_cases hn : n = 0
  · have e1 : ((addr n 0) != 0) = false := by rw [e0]; simp [hn]
    have HK : Hid (I (pickN d b f n) w) := by unfold pickN; rw [if_pos hn, List.append_nil]; exact H
    have c3 : w.cell? ⟨b, 3, none⟩ = some l.ptr := (HB.out _ _ H.out).cell 3
    have c4 : w.cell? ⟨b, 4, none⟩ = some r.ptr := (HB.out _ _ H.out).cell 4
    have k0 : w.cell? ⟨wb, 0, none⟩ = some (ewV vb wb) := (HIH.out.ew _ _ H.out).k.cell 0
    clear e0 hn
    generalize pickN d b f n = D at *
    generalize addr n 0 = A at *
    go_enter Try.func48, Try.ntmps48
    go_wp2_with fail
    go_loopw [20] (fun i wr => (i = .int .i64 0 ∧ I D wr) ∨ (i = .int .i64 1 ∧ I (D ++ l.nodes) wr) ∨ (i = .int .i64 2 ∧ I ((D ++ l.nodes) ++ r.nodes) wr)) (fun i _ => 2 - (intOf i).toNat)
    case atStart => exact .inl ⟨rfl, HK.out⟩
    case round =>
      rcases hrel with ⟨rfl, h2⟩ | ⟨rfl, h2⟩ | ⟨rfl, h2⟩
      · have k2 : wr.cell? ⟨wb, 0, none⟩ = some (ewV vb wb) := (HIH.out.ew _ _ h2).k.cell 0
        have CL := Lib.hid (HL.out _ h2)
        have ix := fun w => idx0 l.ptr r.ptr w
        clear h2
        go_wp2_with (go_at_call 48; refine CL.out.mono ?_; rintro e w3 ⟨rfl, h3⟩; have H3 := Lib.hid h3; clear h3)
        go_roundw
        case rel => exact .inr (.inl ⟨rfl, H3.out⟩)
        case measure => simp [intOf]
      · have k2 : wr.cell? ⟨wb, 0, none⟩ = some (ewV vb wb) := (HIH.out.ew _ _ h2).k.cell 0
        have CR := Lib.hid (HR.out _ h2)
        have ix := fun w => idx1 l.ptr r.ptr w
        clear h2
        go_wp2_with (go_at_call 48; refine CR.out.mono ?_; rintro e w3 ⟨rfl, h3⟩; have H3 := Lib.hid h3; clear h3)
        go_roundw
        case rel => exact .inr (.inr ⟨rfl, H3.out⟩)
        case measure => simp [intOf]
      · have H2 := Lib.hid h2
        clear h2
        go_wp2_with fail
        go_end0
        exact ⟨rfl, HF.out ▸ H2.out⟩
  · have e1 : ((addr n 0) != 0) = true := by rw [e0]; simp [hn]
    have CV := Lib.hid (HIH.out.visit d w b ⟨f, n⟩ H.out (HP.out hn))
    have HD : Hid (d ++ [(b, ⟨f, n⟩)] = pickN d b f n) := by
      have : d ++ [(b, (⟨f, n⟩ : Ent))] = pickN d b f n := by unfold pickN; rw [if_neg hn]
      exact Lib.hid this
    rw [HD.out] at CV
    clear e0 hn HD
    generalize pickN d b f n = D at *
    generalize addr n 0 = A at *
    go_enter Try.func48, Try.ntmps48
    go_wp2_with (go_at_call 32; refine CV.out.mono ?_; rintro e w1 ⟨rfl, h1⟩; have c3 : w1.cell? ⟨b, 3, none⟩ = some l.ptr := (HB.out _ _ h1).cell 3; have c4 : w1.cell? ⟨b, 4, none⟩ = some r.ptr := (HB.out _ _ h1).cell 4; have HK := Lib.hid h1; clear h1)
    clear c2 v0
    go_loopw [20] (fun i wr => (i = .int .i64 0 ∧ I D wr) ∨ (i = .int .i64 1 ∧ I (D ++ l.nodes) wr) ∨ (i = .int .i64 2 ∧ I ((D ++ l.nodes) ++ r.nodes) wr)) (fun i _ => 2 - (intOf i).toNat)
    case atStart => exact .inl ⟨rfl, HK.out⟩
    case round =>
      rcases hrel with ⟨rfl, h2⟩ | ⟨rfl, h2⟩ | ⟨rfl, h2⟩
      · have k2 : wr.cell? ⟨wb, 0, none⟩ = some (ewV vb wb) := (HIH.out.ew _ _ h2).k.cell 0
        have CL := Lib.hid (HL.out _ h2)
        have ix := fun w => idx0 l.ptr r.ptr w
        clear h2
        go_wp2_with (go_at_call 48; refine CL.out.mono ?_; rintro e w3 ⟨rfl, h3⟩; have H3 := Lib.hid h3; clear h3)
        go_roundw
        case rel => exact .inr (.inl ⟨rfl, H3.out⟩)
        case measure => simp [intOf]
      · have k2 : wr.cell? ⟨wb, 0, none⟩ = some (ewV vb wb) := (HIH.out.ew _ _ h2).k.cell 0
        have CR := Lib.hid (HR.out _ h2)
        have ix := fun w => idx1 l.ptr r.ptr w
        clear h2
        go_wp2_with (go_at_call 48; refine CR.out.mono ?_; rintro e w3 ⟨rfl, h3⟩; have H3 := Lib.hid h3; clear h3)
        go_roundw
        case rel => exact .inr (.inr ⟨rfl, H3.out⟩)
        case measure => simp [intOf]
      · have H2 := Lib.hid h2
        clear h2
        go_wp2_with fail
        go_end0
        exact ⟨rfl, HF.out ▸ H2.out⟩
theorem eachF_walk (HI : InvF vb wb xb I P) : ∀ {t : Tr} (d : List (Nat × Ent)), (∀ d w, I d w → t.At w) → (∀ a b e c, t.nodes = a ++ (b, e) :: c → P (d ++ a) b e) → ∀ w, I d w →
    Calls Try.prog 48 #[t.ptr, tp vb, tp wb] w fun e w' => e = .returned (.tuple #[]) ∧ I (d ++ t.nodes) w'
  | .nil, d, _, _, w, h => by
    refine (each_nil w vb wb).mono ?_
    rintro e w' ⟨rfl, rfl⟩
    exact ⟨rfl, by show I (d ++ []) w; rw [List.append_nil]; exact h⟩
  | .node b f len n l r, d, hA, hp, w, h => by
    have hn : (Tr.node b f len n l r).nodes = (if n = 0 then [] else [(b, (⟨f, n⟩ : Ent))]) ++ (l.nodes ++ r.nodes) := Tr.nodes_node
    refine eachF_node HI (fun d w h => (hA d w h).1) d (fun h0 => ?_)
      (eachF_walk HI _ (fun d w h => (hA d w h).2.1) (fun a b' e c hq => ?_))
      (eachF_walk HI _ (fun d w h => (hA d w h).2.2) (fun a b' e c hq => ?_)) w h
    · have := hp [] b ⟨f, n⟩ (l.nodes ++ r.nodes) (by rw [hn, if_neg h0]; rfl)
      rwa [List.append_nil] at this
    · have := hp ((if n = 0 then [] else [(b, (⟨f, n⟩ : Ent))]) ++ a) b' e (c ++ r.nodes) (by rw [hn, hq]; simp)
      unfold pickN
      rwa [← List.append_assoc] at this
    · have := hp ((if n = 0 then [] else [(b, (⟨f, n⟩ : Ent))]) ++ l.nodes ++ a) b' e c (by rw [hn, hq]; simp)
      unfold pickN
      simpa [List.append_assoc] using this
set_option maxHeartbeats 2000000 in
/-- All of a tree's entries, from a world on. -/
theorem eachF_any {t : Tr} {x : Nat} {w : World} (J : Nat → Nat → List (Nat × Ent) → World → Prop) (HI : ∀ vb wb, InvF vb wb xb (J vb wb) P) (hA : ∀ vb wb d w, J vb wb d w → t.At w) (hp : ∀ a b e c, t.nodes = a ++ (b, e) :: c → P a b e)
    (hs : ∀ w', EW w' w.heap.size (w.heap.size + 1) (.func (.func 32) #[] #[tp xb]) → Qt w w' → J w.heap.size (w.heap.size + 1) [] w') (hr : w.cell? ⟨x, 5, none⟩ = some t.ptr) (hx : x < w.heap.size) :
    Calls Try.prog 31 #[.pointer (some ⟨x, 5, none⟩), (.func (.func 32) #[] #[tp xb])] w fun e w' => e = .returned (.tuple #[]) ∧ J w.heap.size (w.heap.size + 1) t.nodes w' := by
  have b0 := (Blk.new w eachT #[(.func (.func 32) #[] #[tp xb])]).alloc (.cells #[ewV w.heap.size (w.heap.size + 1)] eachT)
  have b1 := Blk.new (w.alloc (.cells #[(.func (.func 32) #[] #[tp xb])] eachT)) eachT #[ewV w.heap.size (w.heap.size + 1)]
  rw [show (w.alloc (.cells #[(.func (.func 32) #[] #[tp xb])] eachT)).heap.size = w.heap.size + 1 by simp] at b1
  have HE : Hid (EW ((w.alloc (.cells #[(.func (.func 32) #[] #[tp xb])] eachT)).alloc (.cells #[ewV w.heap.size (w.heap.size + 1)] eachT)) w.heap.size (w.heap.size + 1) (.func (.func 32) #[] #[tp xb])) := ⟨b0, b1⟩
  have HK : Hid (Qt w ((w.alloc (.cells #[(.func (.func 32) #[] #[tp xb])] eachT)).alloc (.cells #[ewV w.heap.size (w.heap.size + 1)] eachT))) := Lib.hid (((Keeps.refl (fun _ => False) w).alloc _).alloc _)
  have HS := Lib.hid hs; have HR := Lib.hid hr; have HX := Lib.hid hx; have HAA := Lib.hid hA; have HP := Lib.hid hp; have HII := Lib.hid HI
  clear b0 b1 hs hr hx hA hp HI
  go_enter Try.func31, Try.ntmps31
  go_upto_region 3 with fail
  generalize World.alloc _ _ = W at HE HK ⊢
  have HJ := Lib.hid (HS.out W.drew (HE.out.quiet (Keeps.refl _ W).drew) HK.out.drew)
  have CW := Lib.hid (eachF_walk (HII.out _ _) [] (HAA.out _ _) HP.out W.drew HJ.out)
  have z0 : W.cell? ⟨w.heap.size + 1, 0, none⟩ = some (ewV w.heap.size (w.heap.size + 1)) := HE.out.k.cell 0
  have z1 : W.cell? ⟨x, 5, none⟩ = some t.ptr := by rw [← HR.out]; exact cell_congr _ (HK.out.block x HX.out (fun h => h))
  go_region_law (first
    | (go_simp; go_at_call 48; refine CW.out.mono ?_; rintro e w5 ⟨rfl, h5⟩; have H5 := Lib.hid h5; clear h5))
  all_goals go_wp2_with fail
  all_goals go_end0
  all_goals exact ⟨rfl, H5.out⟩
end
end Go.Proofs.Ytomhflaofipccaa
