/-
  Package maps: a map of programs and a table, made; the calls on the table. Layer 13: awake.
-/
import Derived.Test.YtbikofedppgblaaGreatQ26
namespace Go.Proofs.YtbikofedppgblaaGreat
open Go Go.RowKit Go.Maps
set_option linter.unusedVariables false
set_option linter.unusedSimpArgs false
set_option maxRecDepth 100000
theorem check_progs (N : Nat) (hm : MK N) (w : World) : Calls Tryz.prog 23 #[specV 3 4 4 N] w fun e w' => e = .returned (.int .i64 0) ∧ Below w.heap.size w w' :=
  check_gen 3 4 4 N 0 (fun W bm _ => (build_progs _ N hm W).mono fun e w' h => by obtain ⟨g, rfl, hb, _⟩ := h; exact ⟨_, rfl, hb⟩) w
theorem check_hash (w : World) : Calls Tryz.prog 23 #[specV 1 1 1 2] w fun e w' => e = .returned (.int .i64 0) ∧ Below w.heap.size w w' :=
  check_gen 1 1 1 2 0 (fun W bm hm => (build_hash bm W hm).mono fun e w' h => by obtain ⟨y, rfl, hb, _⟩ := h; exact ⟨_, rfl, hb⟩) w
theorem check_none (w : World) : Calls Tryz.prog 23 #[specV 0 0 0 0] w fun e w' => e = .returned (.int .i64 1) ∧ Below w.heap.size w w' :=
  check_gen 0 0 0 0 1 (fun W bm _ => (build_none _ W).mono fun e w' h => ⟨_, h.1, h.2⟩) w
theorem new_progs (N : Nat) (hm : MK N) (bm : Nat) (w : World) : Calls Tryz.prog 6 #[tp bm, specV 3 4 4 N, .int .i64 1] w fun e w' => ∃ x g, e = .returned (.tuple #[tp x, .int .i64 0]) ∧ PM x g N noP w' ∧ Below w.heap.size w w' ∧ w.heap.size ≤ x ∧ w.heap.size ≤ g := by
  refine (new_gen 3 4 4 N progsT bm (fun _ => True) (fun W u w' => ∃ g, u = plV g N ∧ Blk w' g plT (plC N noP) ∧ W.heap.size ≤ g) (check_progs N hm) (fun W _ => (build_progs _ N hm W).mono fun e w' h => ?_) w (fun _ _ => trivial)).mono ?_
  · obtain ⟨g, rfl, hb, hk, hg⟩ := h
    exact ⟨_, rfl, hb, g, rfl, hk, hg⟩
  · rintro e w' ⟨x, u, W1, W2, rfl, hk, hb, hb1, ⟨g, rfl, hkg, hg⟩, hb2, hb3, hx⟩
    exact ⟨x, g, rfl, ⟨hk, blk_below hkg hb3, hm.1⟩, hb, Nat.le_trans (below_then hb1 hb2).size hx, Nat.le_trans hb1.size hg⟩
abbrev hp0 (bm y : Nat) : HPar := ⟨bm, 0, y, 0, 1, 1, 1, 2⟩
/-- A map that is a table: at x, the table at y. -/
structure HM (bm x y : Nat) (s : HSt) (P : Nat → Prop) (w : World) : Prop where
  map : Blk w x xmT (xmC 1 1 1 2 (.iface hpT (tp y)))
  tab : PH (hp0 bm y) s P w
  apart : ¬ P x
theorem new_hash (bm : Nat) (w : World) (hm : Mem0 w bm) : Calls Tryz.prog 6 #[tp bm, specV 1 1 1 2, .int .i64 1] w fun e w' => ∃ x y P, e = .returned (.tuple #[tp x, .int .i64 0]) ∧ HM bm x y ⟨ps0, [], 0, false⟩ P w' ∧ Below w.heap.size w w' ∧ w.heap.size ≤ x ∧ ∀ b, P b → b = bm ∨ w.heap.size ≤ b := by
  refine (new_gen 1 1 1 2 hpT bm (fun W => Mem0 W bm) (fun W u w' => ∃ y P, u = tp y ∧ PH (hp0 bm y) ⟨ps0, [], 0, false⟩ P w' ∧ ∀ b, P b → b = bm ∨ W.heap.size ≤ b) check_hash (fun W hW => (build_hash bm W hW).mono fun e w' h => ?_) w (fun W hb => hm.below hb)).mono ?_
  · obtain ⟨y, rfl, hb, P, hP, hb2⟩ := h
    exact ⟨_, rfl, hb, y, P, rfl, hP, hb2⟩
  · rintro e w' ⟨x, u, W1, W2, rfl, hk, hb, hb1, ⟨y, P, rfl, hP, hq⟩, hb2, hb3, hx⟩
    refine ⟨x, y, P, rfl, ⟨hk, hP.keeps (keeps_grow hb3) (fun _ _ h => h), fun hpx => ?_⟩, hb, Nat.le_trans (below_then hb1 hb2).size hx, fun b hb' => (hq b hb').imp id fun h => Nat.le_trans hb1.size h⟩
    have := hP.lt x hpx
    omega
section
variable {bm x y : Nat} {s s' : HSt} {P : Nat → Prop} {w : World}
theorem HM.keeps {U : Nat → Prop} {w' : World} (h : HM bm x y s P w) (k : Keeps U w w') (hx : ¬ U x) (hp : ∀ b, P b → ¬ U b) : HM bm x y s P w' := ⟨h.map.keeps k hx, h.tab.keeps k hp, h.apart⟩
theorem HM.below {w' : World} (h : HM bm x y s P w) (k : Below w.heap.size w w') : HM bm x y s P w' := h.keeps (keeps_grow k) (fun h => h) (fun _ _ h => h)
theorem HM.turn {w' : World} (h : HM bm x y s P w) (hp : PH (hp0 bm y) s' (more P w w') w') (k : Keeps P w w') : HM bm x y s' (more P w w') w' :=
  ⟨h.map.keeps k h.apart, hp, by
    rintro (h1 | ⟨h1, _⟩)
    · exact h.apart h1
    · have := h.map.lt; omega⟩
theorem hlookup_any (V : Value) (key : ByteArray) (cpu a : Int) (Q : World → Prop) (hc : Calls Tryz.prog 74 #[V, .string key] w fun e w' => e = .returned (.int .u64 a) ∧ Q w') : Calls Tryz.prog 36 #[.iface hpT V, .string key, .int .i64 cpu] w fun e w' => e = .returned (.int .u64 a) ∧ Q w' := by
  have CU := Lib.hid hc
  have xf := th_f
  have xh := th_h
  clear hc
  go_enter Tryz.func36, Tryz.ntmps36
  go_wp2_with (go_at_call 74; refine CU.out.mono ?_; rintro e w1 ⟨rfl, ht⟩; have T := Lib.hid ht; clear ht)
  go_ret
  exact ⟨rfl, T.out⟩
theorem hupdate_any (V : Value) (key value : ByteArray) (fl cpu a : Int) (Q : World → Prop) (hc : Calls Tryz.prog 50 #[V, .string key, .string value, .int .i64 fl] w fun e w' => e = .returned (.int .i64 a) ∧ Q w') : Calls Tryz.prog 25 #[.iface hpT V, .string key, .string value, .int .i64 fl, .int .i64 cpu] w fun e w' => e = .returned (.int .i64 a) ∧ Q w' := by
  have CU := Lib.hid hc
  have xf := th_f
  have xh := th_h
  clear hc
  go_enter Tryz.func25, Tryz.ntmps25
  go_wp2_with (go_at_call 50; refine CU.out.mono ?_; rintro e w1 ⟨rfl, ht⟩; have T := Lib.hid ht; clear ht)
  go_ret
  exact ⟨rfl, T.out⟩
theorem Push_hash (h : HM bm x y s P w) (value : ByteArray) (fl : Int) : Calls Tryz.prog 17 #[tp x, .string value, .int .i64 fl] w fun e w' => e = .returned (.int .i64 1) ∧ w = w' := by
  have CL := Lib.hid (layer_at h.map)
  clear h
  go_enter Tryz.func17, Tryz.ntmps17
  go_wp2_with (first
    | (go_at_call 26; refine CL.out.mono ?_; rintro e w1 ⟨rfl, rfl⟩)
    | (go_at_call 31; refine (queueOf_hash _ _).mono ?_; rintro e w1 ⟨rfl, rfl⟩)
    | (go_at_call 37; refine (qpush_nil _ _ _).mono ?_; rintro e w1 ⟨rfl, rfl⟩))
  go_ret
  exact ⟨rfl, rfl⟩
theorem Update_hash (h : HM bm x y s P w) (ho : HOk (hp0 bm y) s) (hc : s.clock < 1000000) (hm : s.m.made < 4095) (key value : ByteArray) (fl cpu : Int) : Calls Tryz.prog 7 #[tp x, .string key, .string value, .int .i64 fl, .int .i64 cpu] w fun e w' => e = .returned (.int .i64 (updA (hp0 bm y) s key value fl)) ∧ HM bm x y (updS (hp0 bm y) s key value fl) (more P w w') w' ∧ Keeps P w w' := by
  have CL := Lib.hid (layer_at h.map)
  have HH := Lib.hid h
  have CU := Lib.hid (hupdate_any (tp y) key value fl cpu _ (fun w' => HM bm x y (updS (hp0 bm y) s key value fl) (more P w w') w' ∧ Keeps P w w') ((ph_upd key value fl ho hc hm w P h.tab).mono fun e w' hh => ⟨hh.1, HH.out.turn hh.2.1 hh.2.2, hh.2.2⟩))
  generalize updA (hp0 bm y) s key value fl = a at *
  generalize updS (hp0 bm y) s key value fl = s1 at *
  clear h ho HH
  go_enter Tryz.func7, Tryz.ntmps7
  go_wp2_with (first
    | (go_at_call 26; refine CL.out.mono ?_; rintro e w1 ⟨rfl, rfl⟩)
    | (go_at_call 25; refine CU.out.mono ?_; rintro e w1 ⟨rfl, ht⟩; have T := Lib.hid ht; clear ht))
  go_ret
  exact ⟨rfl, T.out⟩
theorem Lookup_hash (h : HM bm x y s P w) (ho : HOk (hp0 bm y) s) (hc : s.clock < 1000000) (key : ByteArray) (hks : key.size ≤ maxLen) (cpu : Int) : Calls Tryz.prog 16 #[tp x, .string key, .int .i64 cpu] w fun e w' => e = .returned (.int .u64 (lookA s key)) ∧ HM bm x y (lookS s key) (more P w w') w' ∧ Keeps P w w' := by
  have CL := Lib.hid (layer_at h.map)
  have HH := Lib.hid h
  have CU := Lib.hid (hlookup_any (tp y) key cpu _ (fun w' => HM bm x y (lookS s key) (more P w w') w' ∧ Keeps P w w') ((ph_look key hks ho hc w P h.tab).mono fun e w' hh => ⟨hh.1, HH.out.turn hh.2.1 hh.2.2, hh.2.2⟩))
  generalize lookA s key = a at *
  generalize lookS s key = s1 at *
  clear h ho HH
  go_enter Tryz.func16, Tryz.ntmps16
  go_wp2_with (first
    | (go_at_call 26; refine CL.out.mono ?_; rintro e w1 ⟨rfl, rfl⟩)
    | (go_at_call 36; refine CU.out.mono ?_; rintro e w1 ⟨rfl, ht⟩; have T := Lib.hid ht; clear ht))
  go_ret
  exact ⟨rfl, T.out⟩
end
/-! ### the example's table, plainly -/
abbrev kA : ByteArray := ⟨#[97]⟩
abbrev kB : ByteArray := ⟨#[98]⟩
abbrev hs0 : HSt := ⟨ps0, [], 0, false⟩
theorem tab_plan (bm y : Nat) : HOk (hp0 bm y) hs0 ∧ updA (hp0 bm y) hs0 kA kB 0 = 0 ∧ HOk (hp0 bm y) (updS (hp0 bm y) hs0 kA kB 0) ∧ (updS (hp0 bm y) hs0 kA kB 0).clock < 1000000 ∧ lookA (updS (hp0 bm y) hs0 kA kB 0) kA = 4294967296 := by
  have o0 : HOk (hp0 bm y) hs0 := hok_new (key := 1) (v := 1) (mx := 2) (by decide)
  have g1 := upd_goes o0 kA kB 0
  obtain ⟨a1, e1, c1, m1, f1, n1⟩ := upd_room (p := hp0 bm y) (s := hs0) (key := kA) (value := kB) ⟨rfl, rfl, rfl, rfl⟩ (by show (0 : Nat) ≠ 2; decide) (by show (0 : Nat) ≠ 1; decide)
  generalize updS (hp0 bm y) hs0 kA kB 0 = s1 at *
  refine ⟨o0, a1, g1.ok, by rw [c1]; decide, ?_⟩
  have e1 : s1.es = [⟨kA, 1, 1⟩] := e1
  have hf : findE s1.es kA = some 0 := by
    rw [e1, findE, if_pos (keyB_iff.2 rfl)]
  unfold lookA
  rw [hf]
  show (s1.es[0]?).elim 0 _ = _
  rw [e1]
  rfl
end Go.Proofs.YtbikofedppgblaaGreat
namespace Go.Proofs.YtbikofedppgblaaGreat
open Go Go.RowKit Go.Maps
set_option linter.unusedVariables false
set_option linter.unusedSimpArgs false
set_option maxRecDepth 100000
/-- What the example has, from world w0 on. -/
structure AW (w0 : World) (bm x1 g1 x2 y : Nat) (h : Pr) (s : HSt) (P : Nat → Prop) (w : World) : Prop where
  pm : PM x1 g1 2 h w
  hm : HM bm x2 y s P w
  np : ¬ P x1 ∧ ¬ P g1
  base : ∀ b, P b → w0.heap.size ≤ b
  hg : w0.heap.size ≤ g1
  below : Below w0.heap.size w0 w
  sz : w0.heap.size ≤ w.heap.size
def AW' (w0 : World) (bm x1 g1 x2 y : Nat) (h : Pr) (s : HSt) (w : World) : Prop := ∃ P, AW w0 bm x1 g1 x2 y h s P w
section
variable {w0 w w' : World} {bm x1 g1 x2 y : Nat} {h h' : Pr} {s s' : HSt} {P : Nat → Prop}
theorem AW.grow (a : AW w0 bm x1 g1 x2 y h s P w) (k : Below w.heap.size w w') : AW w0 bm x1 g1 x2 y h s P w' :=
  ⟨a.pm.below k, a.hm.below k, a.np, a.base, a.hg, a.below.trans (k.mono a.sz), Nat.le_trans a.sz k.size⟩
theorem AW.turn1 (a : AW w0 bm x1 g1 x2 y h s P w) (t : Turned w g1 2 h' w') : AW w0 bm x1 g1 x2 y h' s P w' :=
  ⟨a.pm.turn t, a.hm.keeps t.2 (a.hm.map.ne_ a.pm.row (by decide)) (fun b hb e => a.np.2 (e ▸ hb)), a.np, a.base, a.hg, a.below.trans (t.2.below (fun b hb => by subst hb; exact a.hg) a.sz), Nat.le_trans a.sz t.2.size⟩
theorem AW.turn2 (a : AW w0 bm x1 g1 x2 y h s P w) (t : HM bm x2 y s' (more P w w') w' ∧ Keeps P w w') : AW w0 bm x1 g1 x2 y h s' (more P w w') w' := by
  obtain ⟨t1, k⟩ := t
  have l1 := a.pm.map.lt
  have l2 := a.pm.row.lt
  refine ⟨a.pm.keeps k a.np.1 a.np.2, t1, ⟨?_, ?_⟩, ?_, a.hg, a.below.trans (k.below a.base a.sz), Nat.le_trans a.sz k.size⟩
  · rintro (h1 | ⟨h1, _⟩)
    · exact a.np.1 h1
    · omega
  · rintro (h1 | ⟨h1, _⟩)
    · exact a.np.2 h1
    · omega
  · rintro b (h1 | ⟨h1, _⟩)
    · exact a.base b h1
    · exact Nat.le_trans a.sz h1
theorem aw_update1 (a : AW' w0 bm x1 g1 x2 y h s w) : Calls Tryz.prog 7 #[tp x1, .string ⟨#[1, 0, 0, 0]⟩, .string ⟨#[7, 0, 0, 0]⟩, .int .i64 0, .int .i64 0] w fun e w' => e = .returned (.int .i64 0) ∧ AW' w0 bm x1 g1 x2 y (h.put 1 (some 7)) s w' := by
  obtain ⟨P, a⟩ := a
  have c := Update_progs a.pm (n := 1) (by decide) (v := 7) (by decide) 0
  exact c.mono fun e w' hh => ⟨hh.1, P, a.turn1 hh.2⟩
theorem aw_prog (a : AW' w0 bm x1 g1 x2 y h s w) (n : Nat) (hn : n < 2) : Calls Tryz.prog 10 #[tp x1, .int .i64 n] w fun e w' => e = .returned (.tuple #[.int .i64 (((h n).getD 0 : Nat) : Int), .bool (h n).isSome]) ∧ AW' w0 bm x1 g1 x2 y h s w' := by
  obtain ⟨P, a⟩ := a
  refine (Prog_progs a.pm hn).mono fun e w' hh => ⟨hh.1, ?_⟩
  obtain ⟨_, m, rfl⟩ := hh
  exact ⟨P, a.grow ⟨rfl, rfl, rfl, Nat.le_refl _, fun _ _ => rfl⟩⟩
theorem aw_push (a : AW' w0 bm x1 g1 x2 y h s w) (value : ByteArray) (fl : Int) : Calls Tryz.prog 17 #[tp x2, .string value, .int .i64 fl] w fun e w' => e = .returned (.int .i64 1) ∧ w = w' := by
  obtain ⟨P, a⟩ := a
  exact Push_hash a.hm value fl
theorem aw_update2 (a : AW' w0 bm x1 g1 x2 y h hs0 w) : Calls Tryz.prog 7 #[tp x2, .string ⟨#[97]⟩, .string ⟨#[98]⟩, .int .i64 0, .int .i64 0] w fun e w' => e = .returned (.int .i64 0) ∧ AW' w0 bm x1 g1 x2 y h (updS (hp0 bm y) hs0 kA kB 0) w' := by
  obtain ⟨P, a⟩ := a
  obtain ⟨o, e1, _⟩ := tab_plan bm y
  have c := Update_hash a.hm o (by decide) (by decide) kA kB 0 0
  rw [e1] at c
  exact c.mono fun e w' hh => ⟨hh.1, _, a.turn2 hh.2⟩
theorem aw_lookup (a : AW' w0 bm x1 g1 x2 y h (updS (hp0 bm y) hs0 kA kB 0) w) : Calls Tryz.prog 16 #[tp x2, .string ⟨#[97]⟩, .int .i64 0] w fun e w' => e = .returned (.int .u64 4294967296) ∧ ∃ s, AW' w0 bm x1 g1 x2 y h s w' := by
  obtain ⟨P, a⟩ := a
  obtain ⟨_, _, o, hc, e1⟩ := tab_plan bm y
  have c := Lookup_hash a.hm o hc kA (by decide) 0
  rw [e1] at c
  exact c.mono fun e w' hh => ⟨hh.1, _, _, a.turn2 hh.2⟩
theorem aw_spec (a : AW' w0 bm x1 g1 x2 y h s w) : Calls Tryz.prog 22 #[tp x1] w fun e w' => e = .returned (specV 3 4 4 2) ∧ Below w0.heap.size w0 w' := by
  obtain ⟨P, a⟩ := a
  exact (Spec_at a.pm.map).mono fun e w' hh => ⟨hh.1, a.below.trans (hh.2.mono a.sz)⟩
theorem aw_check (a : AW' w0 bm x1 g1 x2 y h s w) : Calls Tryz.prog 23 #[specV 0 0 0 0] w fun e w' => e = .returned (.int .i64 1) ∧ AW' w0 bm x1 g1 x2 y h s w' := by
  obtain ⟨P, a⟩ := a
  exact (check_none w).mono fun e w' hh => ⟨hh.1, P, a.grow hh.2⟩
end
theorem knew_at (w : World) : Calls Tryz.prog 5 #[] w fun e w' => ∃ bm, e = .returned (tp bm) ∧ Below w.heap.size w w' ∧ Mem0 w' bm ∧ w.heap.size ≤ bm ∧ bm < w'.heap.size := (knew_any w).mono fun e w' h => ⟨_, h.1, h.2.1, h.2.2.1, Nat.le_refl _, h.2.2.2⟩
theorem spec_max (w : World) : (Instr.field 30 (.agg #[.int .i64 3, .int .i64 4, .int .i64 4, .int .i64 2]) 3).run Tryz.prog w = .ok (.int .i64 2) w := by kernel_rfl
set_option maxHeartbeats 1000000 in
theorem awake_any (w : World) : Calls Tryz.prog 12 #[] w fun e w' => e = .returned (.bool true) ∧ Below w.heap.size w w' := by
  have C0 := Lib.hid (knew_at w)
  have CN : Hid (∀ bm w, Calls Tryz.prog 6 #[tp bm, .agg #[.int .i64 3, .int .i64 4, .int .i64 4, .int .i64 2], .int .i64 1] w fun e w' => ∃ x g, e = .returned (.tuple #[tp x, .int .i64 0]) ∧ PM x g 2 noP w' ∧ Below w.heap.size w w' ∧ w.heap.size ≤ x ∧ w.heap.size ≤ g) := fun bm w => new_progs 2 mk2 bm w
  have CH := Lib.hid new_hash
  have hf := spec_max
  go_enter Tryz.func12, Tryz.ntmps12
  go_upto_region 2 with (go_at_call 5; refine C0.out.mono ?_; rintro e w1 ⟨bm, rfl, hb, hm, hle, hlt⟩; have B1 := Lib.hid hb; have M1 := Lib.hid hm; have HLE := Lib.hid hle; have HLT := Lib.hid hlt; clear hb hm hle hlt)
  go_upto_region 3 with (go_at_call 6; refine (CN.out _ _).mono ?_; rintro e w2 ⟨x1, g1, rfl, hp, hb, hx, hg⟩; have PM2 := Lib.hid hp; have B2 := Lib.hid hb; have HX := Lib.hid hx; have HG := Lib.hid hg; have M2 := Lib.hid (M1.out.below hb); clear hp hb hx hg)
  go_upto_region 4 with (go_at_call 6; refine (CH.out _ _ M2.out).mono ?_; rintro e w3 ⟨x2, y, P, rfl, hh, hb, hx, hq⟩; have HM3 := Lib.hid hh; have B3 := Lib.hid hb; have HX2 := Lib.hid hx; have HQ := Lib.hid hq; clear hh hb hx hq)
  have A0 : Hid (AW' w bm x1 g1 x2 y noP hs0 w3) := by
    have l1 := PM2.out.map.lt
    have l2 := PM2.out.row.lt
    have b12 := below_then B1.out B2.out
    refine ⟨P, PM2.out.below B3.out, HM3.out, ⟨fun hp => ?_, fun hp => ?_⟩, fun b hb => ?_, Nat.le_trans B1.out.size HG.out, below_then b12 B3.out, (below_then b12 B3.out).size⟩
    · have := HLT.out; have := HX.out
      rcases HQ.out _ hp with h1 | h1 <;> omega
    · have := HLT.out; have := HG.out
      rcases HQ.out _ hp with h1 | h1 <;> omega
    · rcases HQ.out b hb with h1 | h1
      · have := HLE.out; omega
      · exact Nat.le_trans b12.size h1
  clear C0 CN CH B1 M1 HLE HLT PM2 B2 HX HG M2 HM3 B3 HX2 HQ
  go_upto_region 7 with (go_at_call 7; refine (aw_update1 A0.out).mono ?_; rintro e w4 ⟨rfl, h⟩; have A1 := Lib.hid h; clear h)
  have CP1 : Hid (Calls Tryz.prog 10 #[tp x1, .int .i64 1] w4 fun e w' => e = .returned (.tuple #[.int .i64 7, .bool true]) ∧ AW' w bm x1 g1 x2 y (noP.put 1 (some 7)) hs0 w') := aw_prog A1.out 1 (by decide)
  go_upto_region 8 with (go_at_call 10; refine CP1.out.mono ?_; rintro e w5 ⟨rfl, h⟩; have A2 := Lib.hid h; clear h)
  have CP0 : Hid (Calls Tryz.prog 10 #[tp x1, .int .i64 0] w5 fun e w' => e = .returned (.tuple #[.int .i64 0, .bool false]) ∧ AW' w bm x1 g1 x2 y (noP.put 1 (some 7)) hs0 w') := aw_prog A2.out 0 (by decide)
  go_upto_region 9 with (go_at_call 10; refine CP0.out.mono ?_; rintro e w6 ⟨rfl, h⟩; have A3 := Lib.hid h; clear h)
  clear CP0 CP1 A0 A1 A2
  go_wp2_with (first
    | (go_at_call 17; refine (aw_push A3.out _ _).mono ?_; rintro e w7 ⟨rfl, rfl⟩)
    | (go_at_call 7; refine (aw_update2 A3.out).mono ?_; rintro e w8 ⟨rfl, h⟩; have A4 := Lib.hid h; clear h)
    | (go_at_call 16; refine (aw_lookup A4.out).mono ?_; rintro e w9 ⟨rfl, s5, h⟩; have A5 := Lib.hid h; clear h)
    | (go_at_call 23; refine (aw_check A5.out).mono ?_; rintro e w10 ⟨rfl, h⟩; have A6 := Lib.hid h; clear h)
    | (go_at_call 22; refine (aw_spec A6.out).mono ?_; rintro e w11 ⟨rfl, h⟩; have A7 := Lib.hid h; clear h))
  go_ret
  exact ⟨rfl, A7.out⟩
theorem awake_later {B : Nat} {w w' : World} (hb : Below B w w') (hB : B ≤ w'.heap.size) : Calls Tryz.prog 12 #[] w' fun e w'' => e = .returned (.bool true) ∧ Below B w w'' :=
  (awake_any w').mono fun e w'' h => ⟨h.1, hb.trans (h.2.mono hB)⟩
end Go.Proofs.YtbikofedppgblaaGreat
