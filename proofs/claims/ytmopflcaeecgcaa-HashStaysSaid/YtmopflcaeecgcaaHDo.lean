/-
  One deed on both tables: the same answer, and both hold the same afterwards. The program's side is any that answers as the plain state says.
-/
import Derived.Test.YtmopflcaeecgcaaP13
namespace Go.Proofs.Ytmopflcaeecgcaa
open Go Go.RowKit Go.Maps
set_option linter.unusedVariables false
set_option linter.unusedSimpArgs false
set_option linter.unusedSectionVars false
/-- How a table of the program's lies, whose plain state is s, in the blocks of P. -/
abbrev XRel := HPar → HSt → (Nat → Prop) → World → Prop
def FCallH (X : XRel) (p : HPar) (f : FuncId) (args : Array Value) (s s' : HSt) (e0 : Ending) : Prop := ∀ w P, X p s P w → Calls Try.prog f args w fun e w' => e = e0 ∧ X p s' (more P w w') w' ∧ Keeps P w w'
/-- What the program's side owes. -/
structure Prog (X : XRel) : Prop where
  lt : ∀ {p s P w}, X p s P w → ∀ b, P b → b < w.heap.size
  keeps : ∀ {p s P U w w'}, X p s P w → Keeps U w w' → (∀ b, P b → ¬ U b) → X p s P w'
  side : ∀ {p s P w}, X p s P w → ∃ S, KSide w S p.bm s.m ∧ ∀ b, S b → P b
  mem : ∀ {p s f args m' e0}, KCall f args p.bm s.m m' e0 → FCallH X p f args s { s with m := m' } e0
  look : ∀ {p s} (key : ByteArray), key.size ≤ maxLen → HOk p s → s.clock < 1000000 → FCallH X p 21 #[tp p.x, .string key] s (lookS s key) (.returned (.int .u64 (lookA s key)))
  upd : ∀ {p s} (key value : ByteArray) (fl : Int), HOk p s → s.clock < 1000000 → s.m.made < 4095 → FCallH X p 19 #[tp p.x, .string key, .string value, .int .i64 fl] s (updS p s key value fl) (.returned (.int .i64 (updA p s key value fl)))
  del : ∀ {p s} (key : ByteArray), HOk p s → FCallH X p 23 #[tp p.x, .string key] s (delS p s key) (.returned (.int .i64 (delA p s key)))
  next : ∀ {p s} (key : ByteArray), HOk p s → FCallH X p 20 #[tp p.x, .string key] s s (nextE p s key)
  free : ∀ {p s}, HOk p s → s.m.made ≤ 4096 → FCallH X p 25 #[tp p.x] s (freeS s) (.returned (.int .i64 (freeA s)))
  len : ∀ {p s P w}, HOk p s → X p s P w → Calls Try.prog 14 #[tp p.x] w fun e w' => e = .returned (.int .i64 s.es.length) ∧ ∃ n, w' = w.drewN n
section
variable (bx : Nat) (m : PS)
theorem x_write1 (n : Nat) (b : List UInt8) (hs : m.vs n = some (3, b, false)) (hb : 1 ≤ b.length) (u : Nat) (hu : u ≤ 18446744073709551615) :
    XCall 33 #[.pointer (some ⟨bx, 0, none⟩), .int .u64 (addr n 0), .int .i64 1, .int .u64 u] bx m (m.set n (some (3, setAt b 0 (wb u 1), false))) (.returned (.int .i64 0)) :=
  XCall.step fun w _ _ _ _ hr => xwrite_ok hr n 0 (by decide) 1 (by decide) u hu hs (show (bits .and .i64 (3 : Int) 2 == 0) = false by decide) (by rw [Nat.zero_add]; exact hb)
theorem x_write0 (u : Nat) (hu : u ≤ 18446744073709551615) :
    XCall 33 #[.pointer (some ⟨bx, 0, none⟩), .int .u64 0, .int .i64 1, .int .u64 u] bx m m (.returned (.int .i64 20)) :=
  XCall.same fun w _ _ _ _ hr => xwrite_fault _ _ _ _ 20 rfl (by decide) w (at_null hr 0 0 (by decide) (by decide) 1 2 (.inl rfl))
end
def pokeS (s : HSt) (key : ByteArray) (u : Nat) : HSt := (findE s.es key).elim s fun i => (s.es[i]?).elim s fun e => (s.m.vs e.n).elim s fun q => (s.use i).put e q (wb u 1)
def pokeA (s : HSt) (key : ByteArray) : Int := (findE s.es key).elim 20 fun _ => 0
theorem poke_pair {X : XRel} (hP : Prog X) {p : HPar} {s : HSt} (h : HOk p s) (hmd : s.m.made ≤ 4095) (key : ByteArray) (u : Nat) (hu : u ≤ 18446744073709551615) : Goes p s (pokeS s key u) ∧
    FCallH X p 32 #[tp p.bm, .int .u64 (lookA s key), .int .i64 1, .int .u64 u] (lookS s key) (pokeS s key u) (.returned (.int .i64 (pokeA s key))) ∧
    GCallH p 33 #[tp p.bx, .int .u64 (lookA s key), .int .i64 1, .int .u64 u] (lookS s key) (pokeS s key u) (.returned (.int .i64 (pokeA s key))) := by
  rcases hf : findE s.es key with _ | i
  · rw [show lookS s key = s by unfold lookS; rw [hf]; rfl, show lookA s key = 0 by unfold lookA; rw [hf]; rfl, show pokeS s key u = s by unfold pokeS; rw [hf]; rfl, show pokeA s key = 20 by unfold pokeA; rw [hf]; rfl]
    exact ⟨⟨h, Nat.le_succ _, Nat.le_succ _⟩, hP.mem (k_write0 p.bm s.m u hu), .mem (x_write0 p.bx s.m u hu)⟩
  · obtain ⟨e, he⟩ := found hf
    obtain ⟨hr, _, _, b, hq, hb⟩ := h.ent i e he
    have v1 := h.par.v1
    have eS : pokeS s key u = (s.use i).put e (3, b, false) (wb u 1) := by
      unfold pokeS; rw [hf]; show (s.es[i]?).elim s _ = _; rw [he]; show (s.m.vs e.n).elim s _ = _; rw [hq]; rfl
    rw [show lookS s key = s.use i by unfold lookS; rw [hf]; rfl, show lookA s key = addr e.n 0 by unfold lookA; rw [hf]; show (s.es[i]?).elim 0 _ = _; rw [he]; rfl, eS, show pokeA s key = 0 by unfold pokeA; rw [hf]; rfl]
    refine ⟨⟨(h.use i).put (e := { e with used := s.clock + 1 }) (setUsed_get he) (b := b) hq (by rw [wb_length]; omega), Nat.le_refl _, Nat.le_succ _⟩, ?_, ?_⟩
    · have hm : e.n ≤ 4294967295 := by have := hr.2; omega
      exact hP.mem (k_write1 p.bm s.m e.n hm b hq (by omega) u hu)
    · exact .mem (x_write1 p.bx s.m e.n b hq (by omega) u hu)
/-- Both tables lie apart, in blocks from B on; the one is sx, the other sy. -/
def ApartH (X : XRel) (B : Nat) (w0 : World) (p : HPar) (sx sy : HSt) (w : World) (P Q : Nat → Prop) : Prop :=
  X p sx P w ∧ YH p sy Q w ∧ (∀ b, P b → ¬ Q b) ∧ (∀ b, P b → B ≤ b) ∧ (∀ b, Q b → B ≤ b) ∧ Below B w0 w ∧ B ≤ w.heap.size
def BothH (X : XRel) (B : Nat) (w0 : World) (p : HPar) (sx sy : HSt) (w : World) : Prop := ∃ P Q, ApartH X B w0 p sx sy w P Q
abbrev dT : TypeId := 43
/-- .. and block db, none of theirs, holds cs. -/
def BothHD (X : XRel) (B : Nat) (w0 : World) (p : HPar) (sx sy : HSt) (db : Nat) (cs : Array Value) (w : World) : Prop :=
  ∃ P Q, ApartH X B w0 p sx sy w P Q ∧ Blk w db dT cs ∧ ¬ P db ∧ ¬ Q db
theorem YH.lt {p : HPar} {s : HSt} {Q : Nat → Prop} {w : World} (h : YH p s Q w) : ∀ b, Q b → b < w.heap.size := by
  obtain ⟨T, V, h⟩ := h; exact h.ql
theorem YH.keeps {p : HPar} {s : HSt} {Q U : Nat → Prop} {w w' : World} (h : YH p s Q w) (k : Keeps U w w') (hd : ∀ b, Q b → ¬ U b) : YH p s Q w' := by
  obtain ⟨T, V, h⟩ := h
  exact ⟨T, V, fun b hb => Nat.lt_of_lt_of_le (h.ql b hb) k.size, h.qy, h.side.keeps' k (fun b hb => hd b (h.tq b hb)), h.tq, h.ty, h.map.keeps k (hd _ h.qy), ents_keeps h.ents k (fun g hg => hd g (h.own g hg).1), h.own⟩
section
variable {X : XRel} (hP : Prog X) {B : Nat} {w0 w w' : World} {p : HPar} {s s' sx sy : HSt} {db : Nat} {cs : Array Value} {P Q U : Nat → Prop} {f : FuncId} {args : Array Value} {e0 : Ending}
include hP
theorem ApartH.quiet (h : ApartH X B w0 p sx sy w P Q) (k : Keeps (fun _ => False) w w') : ApartH X B w0 p sx sy w' P Q := by
  obtain ⟨h1, h2, h3, h4, h5, h6, h7⟩ := h
  exact ⟨hP.keeps h1 k (fun _ _ h => h), h2.keeps k (fun _ _ h => h), h3, h4, h5, h6.trans (k.below (fun _ h => h.elim) h7), Nat.le_trans h7 k.size⟩
theorem ApartH.fcall (h : ApartH X B w0 p s sy w P Q) (c : FCallH X p f args s s' e0) :
    Calls Try.prog f args w fun e w' => e = e0 ∧ ApartH X B w0 p s' sy w' (more P w w') Q ∧ Keeps P w w' := by
  obtain ⟨h1, h2, h3, h4, h5, h6, h7⟩ := h
  refine (c w P h1).mono ?_
  rintro e w' ⟨rfl, hk, kk⟩
  refine ⟨rfl, ⟨hk, h2.keeps kk (fun b hb hs => h3 b hs hb), ?_, ?_, h5, h6.trans (kk.below h4 h7), Nat.le_trans h7 kk.size⟩, kk⟩
  · rintro b (hs | ⟨hs, _⟩) ht
    · exact h3 b hs ht
    · have := h2.lt b ht; omega
  · rintro b (hs | ⟨hs, _⟩)
    · exact h4 b hs
    · omega
theorem ApartH.gcall (h : ApartH X B w0 p sx s w P Q) (c : GCallH p f args s s' e0) :
    Calls Try.prog f args w fun e w' => e = e0 ∧ ApartH X B w0 p sx s' w' P (more Q w w') ∧ Keeps Q w w' := by
  obtain ⟨h1, h2, h3, h4, h5, h6, h7⟩ := h
  refine (c w Q h2).mono ?_
  rintro e w' ⟨rfl, hk, kk⟩
  refine ⟨rfl, ⟨hP.keeps h1 kk h3, hk, ?_, h4, ?_, h6.trans (kk.below h5 h7), Nat.le_trans h7 kk.size⟩, kk⟩
  · rintro b hs (ht | ⟨ht, _⟩)
    · exact h3 b hs ht
    · have := hP.lt h1 b hs; omega
  · rintro b (hs | ⟨hs, _⟩)
    · exact h5 b hs
    · omega
omit hP in
theorem BothHD.c (h : BothHD X B w0 p sx sy db cs w) (i : Nat) : w.cell? ⟨db, i, none⟩ = cs[i]? := by
  obtain ⟨P, Q, _, hb, _⟩ := h
  exact hb.cell i
omit hP in
theorem BothHD.y0 (h : BothHD X B w0 p sx sy db cs w) : w.cell? ⟨p.y, 0, none⟩ = some (tp p.bx) := by
  obtain ⟨P, Q, ⟨_, ⟨T, V, h⟩, _⟩, _⟩ := h
  exact h.map.cell 0
omit hP in
theorem BothHD.out (h : BothHD X B w0 p sx sy db cs w) : BothH X B w0 p sx sy w := by
  obtain ⟨P, Q, h1, _⟩ := h
  exact ⟨P, Q, h1⟩
theorem BothH.enter (h : BothH X B w0 p sx sy w) (cs : Array Value) : BothHD X B w0 p sx sy w.heap.size cs (w.alloc (.cells cs dT)) := by
  obtain ⟨P, Q, h1⟩ := h
  exact ⟨P, Q, h1.quiet hP ((Keeps.refl _ w).alloc _), Blk.new w _ _, fun hs => by have := hP.lt h1.1 _ hs; omega, fun hs => by have := h1.2.1.lt _ hs; omega⟩
theorem BothHD.drew (h : BothHD X B w0 p sx sy db cs w) : BothHD X B w0 p sx sy db cs w.drew := by
  obtain ⟨P, Q, h1, h2, h3, h4⟩ := h
  exact ⟨P, Q, h1.quiet hP (Keeps.refl _ w).drew, h2, h3, h4⟩
theorem BothHD.fcall (h : BothHD X B w0 p s sy db cs w) (c : FCallH X p f args s s' e0) : Calls Try.prog f args w fun e w' => e = e0 ∧ BothHD X B w0 p s' sy db cs w' := by
  obtain ⟨P, Q, h1, h2, h3, h4⟩ := h
  refine (h1.fcall hP c).mono ?_
  rintro e w' ⟨rfl, h5, kk⟩
  refine ⟨rfl, _, _, h5, h2.keeps kk h3, ?_, h4⟩
  rintro (hs | ⟨hs, _⟩)
  · exact h3 hs
  · have := h2.lt; omega
theorem BothHD.gcall (h : BothHD X B w0 p sx s db cs w) (c : GCallH p f args s s' e0) : Calls Try.prog f args w fun e w' => e = e0 ∧ BothHD X B w0 p sx s' db cs w' := by
  obtain ⟨P, Q, h1, h2, h3, h4⟩ := h
  refine (h1.gcall hP c).mono ?_
  rintro e w' ⟨rfl, h5, kk⟩
  refine ⟨rfl, _, _, h5, h2.keeps kk h4, h3, ?_⟩
  rintro (hs | ⟨hs, _⟩)
  · exact h4 hs
  · have := h2.lt; omega
end
def HDoPost (X : XRel) (B : Nat) (w0 : World) (p : HPar) (s : HSt) (e : Ending) (w' : World) : Prop := e = .returned (.bool true) ∧ ∃ s' : HSt, Goes p s s' ∧ BothH X B w0 p s' s' w'
section
variable {X : XRel} (hP : Prog X) {B : Nat} {w0 w : World} {p : HPar} {s : HSt}
include hP
set_option maxRecDepth 100000 in
set_option maxHeartbeats 2000000 in
theorem hdo_look (h : BothH X B w0 p s s w) (ho : HOk p s) (hc : s.clock < 1000000) (hm : s.m.made < 4095) (key val : ByteArray) (hks : key.size ≤ maxLen) (fl u : Int) :
    Calls Try.prog 13 #[tp p.x, tp p.y, tp p.bm, .agg #[.int .i64 0, .string key, .string val, .int .i64 fl, .int .u64 u]] w (HDoPost X B w0 p s) := by
  have h1 := h.enter hP #[.int .i64 0, .string key, .string val, .int .i64 fl, .int .u64 u]
  have CF := Lib.hid (hP.look (p := p) (s := s) key hks ho hc)
  have CG := Lib.hid (g_look ho hc key)
  have HG := Lib.hid (look_goes ho key)
  have h1d := h1.drew hP
  have H1 := Lib.hid h1d
  clear h1 h1d h ho hc hm hks
  go_enter Try.func13, Try.ntmps13
  go_wp2_with fail
  go_region_held3 (fun W => W.cell? ⟨w.heap.size, 1, none⟩ = some (.string key))
    (first | exact H1.out.c 1 | exact H3.out.c 1 | exact H2.out.c 1)
    (first | (go_at_call 21; refine (H1.out.fcall hP CF.out).mono ?_; rintro e w1 ⟨rfl, h2⟩; have H2 := Lib.hid h2; clear h2) | (go_at_call 28; refine (H2.out.gcall hP CG.out).mono ?_; rintro e w2 ⟨rfl, h3⟩; have H3 := Lib.hid h3; clear h3))
  go_wp2_with fail
  go_ret
  exact ⟨rfl, _, HG.out, H3.out.out⟩
set_option maxRecDepth 100000 in
set_option maxHeartbeats 2000000 in
theorem hdo_upd (h : BothH X B w0 p s s w) (ho : HOk p s) (hc : s.clock < 1000000) (hm : s.m.made < 4095) (key val : ByteArray) (fl u : Int) :
    Calls Try.prog 13 #[tp p.x, tp p.y, tp p.bm, .agg #[.int .i64 1, .string key, .string val, .int .i64 fl, .int .u64 u]] w (HDoPost X B w0 p s) := by
  have h1 := h.enter hP #[.int .i64 1, .string key, .string val, .int .i64 fl, .int .u64 u]
  have CF := Lib.hid (hP.upd (p := p) (s := s) key val fl ho hc hm)
  have CG := Lib.hid (g_upd ho hc hm key val fl)
  have HG := Lib.hid (upd_goes ho key val fl)
  have h1d := h1.drew hP
  have H1 := Lib.hid h1d
  clear h1 h1d h ho hc hm
  go_enter Try.func13, Try.ntmps13
  go_wp2_with fail
  go_region_held3 (fun W => W.cell? ⟨w.heap.size, 1, none⟩ = some (.string key) ∧ W.cell? ⟨w.heap.size, 2, none⟩ = some (.string val) ∧ W.cell? ⟨w.heap.size, 3, none⟩ = some (.int .i64 fl))
    (first | exact ⟨H1.out.c 1, H1.out.c 2, H1.out.c 3⟩ | exact ⟨H3.out.c 1, H3.out.c 2, H3.out.c 3⟩ | exact ⟨H2.out.c 1, H2.out.c 2, H2.out.c 3⟩)
    (first | (go_at_call 19; refine (H1.out.fcall hP CF.out).mono ?_; rintro e w1 ⟨rfl, h2⟩; have H2 := Lib.hid h2; clear h2) | (go_at_call 29; refine (H2.out.gcall hP CG.out).mono ?_; rintro e w2 ⟨rfl, h3⟩; have H3 := Lib.hid h3; clear h3))
  go_wp2_with fail
  go_ret
  exact ⟨rfl, _, HG.out, H3.out.out⟩
set_option maxRecDepth 100000 in
set_option maxHeartbeats 2000000 in
theorem hdo_del (h : BothH X B w0 p s s w) (ho : HOk p s) (hc : s.clock < 1000000) (hm : s.m.made < 4095) (key val : ByteArray) (fl u : Int) :
    Calls Try.prog 13 #[tp p.x, tp p.y, tp p.bm, .agg #[.int .i64 2, .string key, .string val, .int .i64 fl, .int .u64 u]] w (HDoPost X B w0 p s) := by
  have h1 := h.enter hP #[.int .i64 2, .string key, .string val, .int .i64 fl, .int .u64 u]
  have CF := Lib.hid (hP.del (p := p) (s := s) key ho)
  have CG := Lib.hid (g_del ho key)
  have HG := Lib.hid (del_goes ho key)
  have h1d := h1.drew hP
  have H1 := Lib.hid h1d
  clear h1 h1d h ho hc hm
  go_enter Try.func13, Try.ntmps13
  go_wp2_with fail
  go_region_held3 (fun W => W.cell? ⟨w.heap.size, 1, none⟩ = some (.string key))
    (first | exact H1.out.c 1 | exact H3.out.c 1 | exact H2.out.c 1)
    (first | (go_at_call 23; refine (H1.out.fcall hP CF.out).mono ?_; rintro e w1 ⟨rfl, h2⟩; have H2 := Lib.hid h2; clear h2) | (go_at_call 30; refine (H2.out.gcall hP CG.out).mono ?_; rintro e w2 ⟨rfl, h3⟩; have H3 := Lib.hid h3; clear h3))
  go_wp2_with fail
  go_ret
  exact ⟨rfl, _, HG.out, H3.out.out⟩
set_option maxRecDepth 100000 in
set_option maxHeartbeats 2000000 in
theorem hdo_next (h : BothH X B w0 p s s w) (ho : HOk p s) (hc : s.clock < 1000000) (hm : s.m.made < 4095) (key val : ByteArray) (fl u : Int) :
    Calls Try.prog 13 #[tp p.x, tp p.y, tp p.bm, .agg #[.int .i64 3, .string key, .string val, .int .i64 fl, .int .u64 u]] w (HDoPost X B w0 p s) := by
  have h1 := h.enter hP #[.int .i64 3, .string key, .string val, .int .i64 fl, .int .u64 u]
  have CF := Lib.hid (hP.next (p := p) (s := s) key ho)
  have CG := Lib.hid (g_next ho key)
  have HG : Hid (Goes p s s) := ⟨ho, Nat.le_succ _, Nat.le_succ _⟩
  have d1 := h1.c 1
  have H1 := Lib.hid h1
  clear h1 h ho hc hm
  unfold nextE nextA at CF CG
  generalize nextTo p.key s.es key s.es.length = nx at *
  generalize nx.getD ⟨#[]⟩ = t at *
  generalize nx.elim (4 : Int) (fun _ => 0) = a at *
  go_enter Try.func13, Try.ntmps13
  go_wp2_with (first | (go_at_call 20; refine (H1.out.fcall hP CF.out).mono ?_; rintro e w1 ⟨rfl, h2⟩; have d2 : w1.cell? ⟨w.heap.size, 1, none⟩ = some (.string key) := h2.c 1; have H2 := Lib.hid h2; clear h2) | (go_at_call 31; refine (H2.out.gcall hP CG.out).mono ?_; rintro e w2 ⟨rfl, h3⟩; have H3 := Lib.hid h3; clear h3))
  go_ret
  exact ⟨rfl, s, HG.out, H3.out.out⟩
set_option maxRecDepth 100000 in
set_option maxHeartbeats 2000000 in
theorem hdo_poke (h : BothH X B w0 p s s w) (ho : HOk p s) (hc : s.clock < 1000000) (hm : s.m.made < 4095) (key val : ByteArray) (hks : key.size ≤ maxLen) (fl u : Int) (hu : 0 ≤ u ∧ u ≤ 18446744073709551615) :
    Calls Try.prog 13 #[tp p.x, tp p.y, tp p.bm, .agg #[.int .i64 4, .string key, .string val, .int .i64 fl, .int .u64 u]] w (HDoPost X B w0 p s) := by
  have h1 := h.enter hP #[.int .i64 4, .string key, .string val, .int .i64 fl, .int .u64 u]
  obtain ⟨un, rfl⟩ := Int.eq_ofNat_of_zero_le hu.1
  obtain ⟨hg, ckw, cxw⟩ := poke_pair hP ho (by omega) key un (by omega)
  have CF := Lib.hid (hP.look (p := p) (s := s) key hks ho hc)
  have CG := Lib.hid (g_look ho hc key)
  have HG := Lib.hid hg
  have CFW := Lib.hid ckw
  have CGW := Lib.hid cxw
  have h1d := h1.drew hP
  have H1 := Lib.hid h1d
  clear h1 h1d h ho hc hm hks hg ckw cxw hu
  generalize lookA s key = a at *
  generalize pokeA s key = r at *
  generalize (un : Int) = u at *
  go_enter Try.func13, Try.ntmps13
  go_wp2_with fail
  go_region_held3 (fun W => W.cell? ⟨w.heap.size, 1, none⟩ = some (.string key))
    (first | exact H1.out.c 1 | exact H3.out.c 1 | exact H2.out.c 1)
    (first | (go_at_call 21; refine (H1.out.fcall hP CF.out).mono ?_; rintro e w1 ⟨rfl, h2⟩; have H2 := Lib.hid h2; clear h2) | (go_at_call 28; refine (H2.out.gcall hP CG.out).mono ?_; rintro e w2 ⟨rfl, h3⟩; have H3 := Lib.hid h3; clear h3))
  have H4 := Lib.hid (H3.out.drew hP)
  clear CF CG
  go_wp2_with fail
  go_region_held3 (fun W => W.cell? ⟨w.heap.size, 4, none⟩ = some (.int .u64 u) ∧ W.cell? ⟨p.y, 0, none⟩ = some (tp p.bx))
    (first | exact ⟨H4.out.c 4, H4.out.y0⟩ | exact ⟨H6.out.c 4, H6.out.y0⟩ | exact ⟨H5.out.c 4, H5.out.y0⟩ | exact ⟨H3.out.c 4, H3.out.y0⟩)
    (first | (go_at_call 32; refine (H4.out.fcall hP CFW.out).mono ?_; rintro e w5 ⟨rfl, h2⟩; have H5 := Lib.hid h2; clear h2) | (go_at_call 33; refine (H5.out.gcall hP CGW.out).mono ?_; rintro e w6 ⟨rfl, h3⟩; have H6 := Lib.hid h3; clear h3))
  go_wp2_with fail
  go_ret
  exact ⟨rfl, _, HG.out, H6.out.out⟩
set_option maxRecDepth 100000 in
set_option maxHeartbeats 2000000 in
theorem hdo_grace (h : BothH X B w0 p s s w) (ho : HOk p s) (hc : s.clock < 1000000) (hm : s.m.made < 4095) (key val : ByteArray) (fl u : Int) :
    Calls Try.prog 13 #[tp p.x, tp p.y, tp p.bm, .agg #[.int .i64 5, .string key, .string val, .int .i64 fl, .int .u64 u]] w (HDoPost X B w0 p s) := by
  have h1 := h.enter hP #[.int .i64 5, .string key, .string val, .int .i64 fl, .int .u64 u]
  have CF := Lib.hid (hP.mem (p := p) (s := s) (k_grace p.bm s.m))
  have CG := Lib.hid (GCallH.mem (p := p) (s := s) (x_grace p.bx s.m))
  have HG : Hid (Goes p s { s with m := s.m.graced }) := ⟨ho.grace, Nat.le_succ _, Nat.le_succ _⟩
  have H1 := Lib.hid h1
  clear h1 h ho hc hm
  go_enter Try.func13, Try.ntmps13
  go_wp2_with (first | (go_at_call 24; refine (H1.out.fcall hP CF.out).mono ?_; rintro e w1 ⟨rfl, h2⟩; have d2 := h2.y0; have H2 := Lib.hid h2; clear h2) | (go_at_call 34; refine (H2.out.gcall hP CG.out).mono ?_; rintro e w2 ⟨rfl, h3⟩; have H3 := Lib.hid h3; clear h3))
  go_ret
  exact ⟨rfl, _, HG.out, H3.out.out⟩
set_option maxRecDepth 100000 in
set_option maxHeartbeats 2000000 in
theorem hdo_free (h : BothH X B w0 p s s w) (ho : HOk p s) (hc : s.clock < 1000000) (hm : s.m.made < 4095) (key val : ByteArray) (fl u : Int) :
    Calls Try.prog 13 #[tp p.x, tp p.y, tp p.bm, .agg #[.int .i64 6, .string key, .string val, .int .i64 fl, .int .u64 u]] w (HDoPost X B w0 p s) := by
  have h1 := h.enter hP #[.int .i64 6, .string key, .string val, .int .i64 fl, .int .u64 u]
  have CF := Lib.hid (hP.free (p := p) (s := s) ho (by omega))
  have CG := Lib.hid (g_free ho)
  have HG := Lib.hid (free_goes ho)
  have H1 := Lib.hid h1
  clear h1 h ho hc hm
  generalize freeA s = a at *
  go_enter Try.func13, Try.ntmps13
  go_wp2_with (first | (go_at_call 25; refine (H1.out.fcall hP CF.out).mono ?_; rintro e w1 ⟨rfl, h2⟩; have H2 := Lib.hid h2; clear h2) | (go_at_call 35; refine (H2.out.gcall hP CG.out).mono ?_; rintro e w2 ⟨rfl, h3⟩; have H3 := Lib.hid h3; clear h3))
  go_ret
  exact ⟨rfl, _, HG.out, H3.out.out⟩
set_option maxRecDepth 100000 in
set_option maxHeartbeats 2000000 in
theorem hdo_else (h : BothH X B w0 p s s w) (ho : HOk p s) (kd : Int) (hk : kd ≠ 0 ∧ kd ≠ 1 ∧ kd ≠ 2 ∧ kd ≠ 3 ∧ kd ≠ 4 ∧ kd ≠ 5 ∧ kd ≠ 6) (key val : ByteArray) (fl u : Int) :
    Calls Try.prog 13 #[tp p.x, tp p.y, tp p.bm, .agg #[.int .i64 kd, .string key, .string val, .int .i64 fl, .int .u64 u]] w (HDoPost X B w0 p s) := by
  have h1 := h.enter hP #[.int .i64 kd, .string key, .string val, .int .i64 fl, .int .u64 u]
  have d0 := h1.c 0
  have HG : Hid (Goes p s s) := ⟨ho, Nat.le_succ _, Nat.le_succ _⟩
  have H1 := Lib.hid h1
  obtain ⟨k0, k1, k2, k3, k4, k5, k6⟩ := hk
  have b0 : (kd == 0) = false := by simpa using k0
  have b1 : (kd == 1) = false := by simpa using k1
  have b2 : (kd == 2) = false := by simpa using k2
  have b3 : (kd == 3) = false := by simpa using k3
  have b4 : (kd == 4) = false := by simpa using k4
  have b5 : (kd == 5) = false := by simpa using k5
  have b6 : (kd == 6) = false := by simpa using k6
  clear h1 h ho k0 k1 k2 k3 k4 k5 k6
  go_enter Try.func13, Try.ntmps13
  go_wp2_with fail
  go_ret
  exact ⟨rfl, s, HG.out, H1.out.out⟩
theorem hdo_any (h : BothH X B w0 p s s w) (ho : HOk p s) (hc : s.clock < 1000000) (hm : s.m.made < 4095) (kd : Int) (key val : ByteArray) (hks : key.size ≤ maxLen) (fl u : Int) (hu : 0 ≤ u ∧ u ≤ 18446744073709551615) :
    Calls Try.prog 13 #[tp p.x, tp p.y, tp p.bm, .agg #[.int .i64 kd, .string key, .string val, .int .i64 fl, .int .u64 u]] w (HDoPost X B w0 p s) := by
  by_cases k0 : kd = 0
  · subst k0; exact hdo_look hP h ho hc hm key val hks fl u
  by_cases k1 : kd = 1
  · subst k1; exact hdo_upd hP h ho hc hm key val fl u
  by_cases k2 : kd = 2
  · subst k2; exact hdo_del hP h ho hc hm key val fl u
  by_cases k3 : kd = 3
  · subst k3; exact hdo_next hP h ho hc hm key val fl u
  by_cases k4 : kd = 4
  · subst k4; exact hdo_poke hP h ho hc hm key val hks fl u hu
  by_cases k5 : kd = 5
  · subst k5; exact hdo_grace hP h ho hc hm key val fl u
  by_cases k6 : kd = 6
  · subst k6; exact hdo_free hP h ho hc hm key val fl u
  exact hdo_else hP h ho kd ⟨k0, k1, k2, k3, k4, k5, k6⟩ key val fl u
end
end Go.Proofs.Ytmopflcaeecgcaa
