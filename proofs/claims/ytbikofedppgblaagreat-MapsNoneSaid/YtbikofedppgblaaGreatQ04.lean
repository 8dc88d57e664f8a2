/-
  Alloc: where it makes a region, and where Fail lets it fail.
-/
import Derived.Test.YtbikofedppgblaaGreatQ03
namespace Go.Proofs.YtbikofedppgblaaGreat
open Go Go.RowKit Go.Maps
set_option linter.unusedVariables false

section
variable {w w1 w2 w' : World} {S : Nat → Prop} {bm made fail : Nat} {st : Nat → Option RG} {rl : List Nat} {mv rv : Value}
theorem more_sub {b : Nat} (k1 : Keeps S w w1) (k2 : Keeps (more S w w1) w1 w2) (h : more (more S w w1) w1 w2 b) : more S w w2 b := by
  have := k1.size
  have := k2.size
  rcases h with (h | ⟨h, h'⟩) | ⟨h, h'⟩
  · exact .inl h
  · exact .inr ⟨h, by omega⟩
  · exact .inr ⟨by omega, h'⟩
/-- Two steps are one. -/
theorem KM.chain (k1 : Keeps S w w1) (k2 : Keeps (more S w w1) w1 w2) (h : KM w2 (more (more S w w1) w1 w2) bm made fail st rl mv rv) : KM w2 (more S w w2) bm made fail st rl mv rv ∧ Keeps S w w2 :=
  ⟨h.mono (fun b hb => more_sub k1 k2 hb) (fun b hb => by
    have h1 := k1.size
    have h2 := k2.size
    rcases hb with hb | hb
    · exact h.lt b (.inl (.inl hb))
    · exact hb.2), k1.trans k2⟩
theorem KM.own (h : KM w S bm made fail st rl mv rv) {b : Nat} (e : mv = .map (some b)) : S b ∧ ∃ D, w.ownsMap Tryz.prog 56 heldV b made D ∧ MapOf D st := by
  rcases h.map with ⟨e', _⟩ | ⟨b', D, e', hb, ho, hm⟩
  · rw [e'] at e; cases e
  · rw [e'] at e; cases e; exact ⟨hb, D, ho, hm⟩
theorem KM.len (h : KM w S bm made fail st rl mv rv) : ∃ L : Nat, L ≤ made ∧ ∀ ty, (Builtin.len_ #[55] ty #[mv]).run Tryz.prog w = .ok (.int .i64 (L : Int)) w := by
  rcases h.map with ⟨rfl, _⟩ | ⟨b, D, rfl, hb, ho, hm⟩
  · exact ⟨0, by omega, fun ty => len_nil Tryz.underlying55 ty⟩
  · exact ⟨Maps.size D, ho.size_le, fun ty => ho.len Tryz.underlying55 ty⟩

def NowPost (w : World) (S : Nat → Prop) (bm made fail : Nat) (st : Nat → Option RG) (rl : List Nat) (mv rv : Value) (w' : World) : Prop :=
  KM w' (more S w w') bm made (fail - 1) st rl mv rv ∧ Keeps S w w'
theorem failsNow_any (h : KM w S bm made fail st rl mv rv) :
    Calls Tryz.prog 121 #[.pointer (some ⟨bm, 0, none⟩)] w fun e w' => e = .returned (.bool (fail == 1)) ∧ NowPost w S bm made fail st rl mv rv w' := by
  rcases fail with _ | k
  · exact (failsNow_no bm _ _ _ w h.mem).mono (by rintro e w' ⟨rfl, rfl⟩; exact ⟨rfl, h.same, Keeps.refl _ _⟩)
  · have hb : Blk w bm 59 #[mv, .int .u32 made, rv, .int .i64 ((k : Int) + 1)] := by have := h.mem; simpa using this
    have hf := h.fail_le
    refine (failsNow_yes bm _ _ _ k (by omega) w hb).mono ?_
    rintro e w' ⟨rfl, rfl⟩
    have k0 : Keeps (fun b => b = bm) w (w.setCell ⟨bm, 3, none⟩ (.int .i64 k)) := Keeps.setCell (S := fun b => b = bm) (p := ⟨bm, 3, none⟩) (Keeps.refl _ w) (.inl rfl) _
    refine ⟨?_, ?_, k0.mono (fun b e => e ▸ h.sbm)⟩
    · rcases k with _ | k
      · rfl
      · have h1 : (((k + 1 : Nat) : Int) == 0) = false := by simp; omega
        have h2 : (k + 1 + 1 == 1) = false := by simp
        rw [h1, h2]
    · exact h.head k0 (by have := h.mem.set_ 3 (.int .i64 k); simpa using this) (by omega)

theorem alloc_mem (h : KM w S bm made 1 st rl mv rv) (size perm : Nat) (h1 : 1 ≤ size) (h2 : size ≤ 1048576) (h3 : 1 ≤ perm) (h4 : perm ≤ 3) :
    Calls Tryz.prog 70 #[.pointer (some ⟨bm, 0, none⟩), .int .i64 size, .int .i64 perm] w fun e w' => e = .returned (.tuple #[.int .u64 0, .int .i64 2]) ∧ NowPost w S bm made 1 st rl mv rv w' := by
  have c := failsNow_any h
  clear h
  have a1 : decide ((size : Int) < 1) = false := by simp; omega
  have a2 : decide (1048576 < (size : Int)) = false := by simp; omega
  have a3 : decide ((perm : Int) < 1) = false := by simp; omega
  have a4 : decide (3 < (perm : Int)) = false := by simp; omega
  generalize NowPost w S bm made 1 st rl mv rv = post at c ⊢
  go_enter Tryz.func70, Tryz.ntmps70
  go_wp2_with (go_at_call 121; refine c.mono ?_; rintro e w1 ⟨rfl, hp⟩)
  go_ret2
  exact ⟨rfl, hp⟩

def AllocPost (w : World) (S : Nat → Prop) (bm made fail : Nat) (st : Nat → Option RG) (rl : List Nat) (rv : Value) (size perm : Nat) (w' : World) : Prop :=
  ∃ (r : RG) (mv' : Value), KM w' (more S w w') bm (made + 1) (fail - 1) (upd st (made + 1) (some r)) rl mv' rv ∧ Keeps S w w' ∧ r.perm = perm ∧ r.bytes = List.replicate size 0 ∧ r.ret = false ∧ r.row = none
/-- All that happens behind failsNow, put together. -/
theorem alloc_end {fail0 : Nat} {T : Nat → Prop} (k1 : Keeps T w w1) (h : KM w1 (more T w w1) bm made fail st rl mv rv) {b size perm : Nat} {D : DataW Value} (h1 : 1 ≤ size) (h2 : size ≤ 1048576) (h3 : 1 ≤ perm) (h4 : perm ≤ 3) (hfail : fail = fail0 - 1) {g : Nat}
    (hk : Keeps (fun x => x = bm ∨ mv = .map (some x)) w1 w') (hmem : Blk w' bm 59 #[.map (some b), .int .u32 ((made : Int) + 1), rv, .int .i64 fail])
    (hown : w'.ownsMap Tryz.prog 56 heldV b (made + 1) (D.put (.int .u32 ((made : Int) + 1)) (.held (.pointer (some ⟨g, 0, none⟩))))) (hm : MapOf D st)
    (hb : more T w w1 b ∨ (w1.heap.size ≤ b ∧ b < w'.heap.size)) (hg : Blk w' g 175 #[.int .i64 size, .int .i64 perm, .slice none 0 0, .bool false]) (hg1 : w1.heap.size ≤ g) (hmade : made < 4096) :
    AllocPost w T bm made fail0 st rl rv size perm w' := by
  subst hfail
  have := h.add (r := ⟨g, perm, none, List.replicate size 0, false⟩) (b := b) (D := D.put (.int .u32 ((made : Int) + 1)) (.held (.pointer (some ⟨g, 0, none⟩)))) hk hmem hown
    (by have := hm.put (made + 1) ⟨g, perm, none, List.replicate size 0, false⟩; simpa using this) hb ⟨by simpa [RG.sl] using hg, by simp, by simp, by simp; omega, by simpa using h2, by show (1 : Int) ≤ (perm : Int); omega, by show (perm : Int) ≤ 3; omega⟩ rfl rfl hg1 h.fail_le hmade
  have hc := KM.chain k1 this.2 this.1
  exact ⟨_, _, hc.1, hc.2, rfl, rfl, rfl, rfl⟩
set_option maxRecDepth 100000 in
set_option maxHeartbeats 1000000 in
theorem alloc_some (h : KM w S bm made fail st rl mv rv) (hf : fail ≠ 1) (hmade : made < 4095) {b : Nat} (hmv : mv = .map (some b)) (size perm : Nat) (h1 : 1 ≤ size) (h2 : size ≤ 1048576) (h3 : 1 ≤ perm) (h4 : perm ≤ 3) :
    Calls Tryz.prog 70 #[.pointer (some ⟨bm, 0, none⟩), .int .i64 size, .int .i64 perm] w fun e w' => e = .returned (.tuple #[.int .u64 (addr (made + 1) 0), .int .i64 0]) ∧ AllocPost w S bm made fail st rl rv size perm w' := by
  have c := failsNow_any h
  subst hmv
  clear h
  have hff : (fail == 1) = false := by simpa using hf
  rw [hff] at c
  have a1 : decide ((size : Int) < 1) = false := by simp; omega
  have a2 : decide (1048576 < (size : Int)) = false := by simp; omega
  have a3 : decide ((perm : Int) < 1) = false := by simp; omega
  have a4 : decide (3 < (perm : Int)) = false := by simp; omega
  have ca : ∀ w : World, Calls Tryz.prog 122 #[.int .u32 ((made : Int) + 1)] w fun e w' => e = .returned (.int .u64 (addr (made + 1) 0)) ∧ w = w' := fun w => by
    have := address_any (made + 1) (by omega) w
    rwa [show ((made + 1 : Nat) : Int) = (made : Int) + 1 from by omega] at this
  have HE : Hid (∀ (fail' : Nat) (w1 w' : World) (D : DataW Value) (g : Nat), Keeps S w w1 → KM w1 (more S w w1) bm made fail' st rl (.map (some b)) rv → fail' = fail - 1 → Keeps (fun x => x = bm ∨ Value.map (some b) = .map (some x)) w1 w' →
      Blk w' bm 59 #[.map (some b), .int .u32 ((made : Int) + 1), rv, .int .i64 fail'] → w'.ownsMap Tryz.prog 56 heldV b (made + 1) (D.put (.int .u32 ((made : Int) + 1)) (.held (.pointer (some ⟨g, 0, none⟩)))) → MapOf D st →
      Blk w' g 175 #[.int .i64 size, .int .i64 perm, .slice none 0 0, .bool false] → w1.heap.size ≤ g → AllocPost w S bm made fail st rl rv size perm w') :=
    fun fail' w1 w' D g k1 hk e kk hmem hown hm hg hg1 => alloc_end k1 hk h1 h2 h3 h4 e kk hmem hown hm (.inl (hk.own rfl).1) hg hg1 (by omega)
  generalize AllocPost w S bm made fail st rl rv size perm = post at HE ⊢
  have hq := fun (w : World) r => run_eql_map_nil (P := Tryz.prog) w 55 56 173 r Tryz.underlying55
  have HA := Lib.hid ca; clear ca
  go_enter Tryz.func70, Tryz.ntmps70
  go_wp2_with (go_at_call 121; refine c.mono ?_; rintro e w1 ⟨rfl, hk, hkk⟩; obtain ⟨L, hL, hlen⟩ := hk.len; have c0 : w1.cell? ⟨bm, 0, none⟩ = some (.map (some b)) := hk.mem.cell 0; have c1 : w1.cell? ⟨bm, 1, none⟩ = some (.int .u32 made) := hk.mem.cell 1; have f1 : w1.frozen? ⟨bm, 1, none⟩ = false := hk.mem.frozen 1; have HK := Lib.hid hk; clear hk; have HKK := Lib.hid hkk; clear hkk)
  obtain ⟨hSb, D, ho, hm⟩ := HK.out.own rfl
  have hbb : b ≠ bm := by
    rintro rfl
    obtain ⟨es, clock, h1, _⟩ := ho
    have h2 := HK.out.mem; unfold Blk at h2; rw [h2] at h1; cases h1
  have B3 : Blk (w1.setCell ⟨bm, 1, none⟩ (.int .u32 ((made : Int) + 1))) bm 59 #[.map (some b), .int .u32 ((made : Int) + 1), rv, .int .i64 ((fail - 1 : Nat) : Int)] := by
    have := HK.out.mem.set_ 1 (.int .u32 ((made : Int) + 1)); simpa using this
  have k3 : Keeps (fun x => x = bm ∨ Value.map (some b) = .map (some x)) w1 (w1.setCell ⟨bm, 1, none⟩ (.int .u32 ((made : Int) + 1))) := Keeps.setCell (S := fun x => x = bm ∨ Value.map (some b) = .map (some x)) (p := ⟨bm, 1, none⟩) (Keeps.refl _ w1) (.inl (.inl rfl)) _
  have ho3 := ho.setCell (a := ⟨bm, 1, none⟩) hbb (.int .u32 ((made : Int) + 1))
  clear ho c0 c1 f1 hlen c
  generalize w1.setCell ⟨bm, 1, none⟩ (.int .u32 ((made : Int) + 1)) = w3 at *
  have c0 : w3.cell? ⟨bm, 0, none⟩ = some (.map (some b)) := B3.cell 0
  have c1 : w3.cell? ⟨bm, 1, none⟩ = some (.int .u32 ((made : Int) + 1)) := B3.cell 1
  have hbl := B3.lt
  have hsl := ho3.lt
  have HB3 := Lib.hid B3; clear B3
  have HK3 := Lib.hid k3; clear k3
  have HO := Lib.hid ho3; clear ho3
  have HM := Lib.hid hm; clear hm
  obtain ⟨w5, hrun5, hown5, hgrow5⟩ := ((HO.out.alloc (.cells #[.int .i64 size, .int .i64 perm, .slice none 0 0, .bool false] 175)).drew).update law32 Tryz.underlying55 (by unfold maxLen; omega) (kl := .int .u32 ((made : Int) + 1)) (key := .int .u32 ((made : Int) + 1)) (val := .pointer (some ⟨w3.heap.size, 0, none⟩)) (d := .held (.pointer (some ⟨w3.heap.size, 0, none⟩))) (ps := []) (by have := key32 (n := made + 1) (by omega); simpa using this) rfl
  have B5 : Blk w5 bm 59 #[.map (some b), .int .u32 ((made : Int) + 1), rv, .int .i64 ((fail - 1 : Nat) : Int)] :=
    (hgrow5.block bm (by simp; omega) (by simp; omega)).trans (HB3.out.alloc _)
  have G5 : Blk w5 w3.heap.size 175 #[.int .i64 size, .int .i64 perm, .slice none 0 0, .bool false] :=
    (hgrow5.block w3.heap.size (by simp) (by simp; omega)).trans (Blk.new w3 _ _)
  have k5 : Keeps (fun x => x = bm ∨ Value.map (some b) = .map (some x)) w1 w5 := ((HK3.out.alloc _).drew).grown hgrow5 (fun k e => .inl (.inr (by simpa using e)))
  have hz3 : w1.heap.size ≤ w3.heap.size := HK3.out.size
  have HEND := Lib.hid (HE.out _ w1 w5 D w3.heap.size HKK.out HK.out rfl k5 B5 hown5 HM.out G5 hz3)
  have d1 : w5.cell? ⟨bm, 1, none⟩ = some (.int .u32 ((made : Int) + 1)) := B5.cell 1
  have d0 : w5.cell? ⟨bm, 0, none⟩ = some (.map (some b)) := B5.cell 0
  have ca5 := HA.out w5
  clear B5 G5 k5 hown5 hgrow5
  go_region_held3 (fun w' => w'.cell? ⟨bm, 0, none⟩ = some (.map (some b)) ∧ w'.cell? ⟨bm, 1, none⟩ = some (.int .u32 ((made : Int) + 1)))
    (first | go_keep)
    (fail)
  go_wp2_with (go_at_call 122; refine ca5.mono ?_; rintro e w' ⟨rfl, rfl⟩)
  go_ret2
  exact ⟨rfl, HEND.out⟩
set_option maxRecDepth 100000 in
set_option maxHeartbeats 1000000 in
theorem alloc_nil (h : KM w S bm made fail st rl mv rv) (hf : fail ≠ 1) (hmade : made < 4095) (hmv : mv = .map none) (size perm : Nat) (h1 : 1 ≤ size) (h2 : size ≤ 1048576) (h3 : 1 ≤ perm) (h4 : perm ≤ 3) :
    Calls Tryz.prog 70 #[.pointer (some ⟨bm, 0, none⟩), .int .i64 size, .int .i64 perm] w fun e w' => e = .returned (.tuple #[.int .u64 (addr (made + 1) 0), .int .i64 0]) ∧ AllocPost w S bm made fail st rl rv size perm w' := by
  have c := failsNow_any h
  subst hmv
  clear h
  have hff : (fail == 1) = false := by simpa using hf
  rw [hff] at c
  have a1 : decide ((size : Int) < 1) = false := by simp; omega
  have a2 : decide (1048576 < (size : Int)) = false := by simp; omega
  have a3 : decide ((perm : Int) < 1) = false := by simp; omega
  have a4 : decide (3 < (perm : Int)) = false := by simp; omega
  have ca : ∀ w : World, Calls Tryz.prog 122 #[.int .u32 ((made : Int) + 1)] w fun e w' => e = .returned (.int .u64 (addr (made + 1) 0)) ∧ w = w' := fun w => by
    have := address_any (made + 1) (by omega) w
    rwa [show ((made + 1 : Nat) : Int) = (made : Int) + 1 from by omega] at this
  have HE : Hid (∀ (fail' : Nat) (w1 w' : World) (D : DataW Value) (g b : Nat), Keeps S w w1 → KM w1 (more S w w1) bm made fail' st rl (.map none) rv → fail' = fail - 1 → w1.heap.size ≤ b ∧ b < w'.heap.size → Keeps (fun x => x = bm ∨ Value.map none = .map (some x)) w1 w' →
      Blk w' bm 59 #[.map (some b), .int .u32 ((made : Int) + 1), rv, .int .i64 fail'] → w'.ownsMap Tryz.prog 56 heldV b (made + 1) (D.put (.int .u32 ((made : Int) + 1)) (.held (.pointer (some ⟨g, 0, none⟩)))) → MapOf D st →
      Blk w' g 175 #[.int .i64 size, .int .i64 perm, .slice none 0 0, .bool false] → w1.heap.size ≤ g → AllocPost w S bm made fail st rl rv size perm w') :=
    fun fail' w1 w' D g b k1 hk e hb kk hmem hown hm hg hg1 => alloc_end k1 hk h1 h2 h3 h4 e kk hmem hown hm (.inr hb) hg hg1 (by omega)
  generalize AllocPost w S bm made fail st rl rv size perm = post at HE ⊢
  have hq := fun (w : World) r => run_eql_map_nil (P := Tryz.prog) w 55 56 173 r Tryz.underlying55
  have HA := Lib.hid ca; clear ca
  have hmm := @run_makeMap Tryz.prog
  go_enter Tryz.func70, Tryz.ntmps70
  go_wp2_with (go_at_call 121; refine c.mono ?_; rintro e w1 ⟨rfl, hk, hkk⟩; obtain ⟨L, hL, hlen⟩ := hk.len; have c0 : w1.cell? ⟨bm, 0, none⟩ = some (.map none) := hk.mem.cell 0; have f0 : w1.frozen? ⟨bm, 0, none⟩ = false := hk.mem.frozen 0; have hlt := hk.mem.lt; have hne : bm ≠ w1.heap.size := (by omega); have c1 : w1.cell? ⟨bm, 1, none⟩ = some (.int .u32 made) := hk.mem.cell 1; have f1 : w1.frozen? ⟨bm, 1, none⟩ = false := hk.mem.frozen 1; have HK := Lib.hid hk; clear hk; have HKK := Lib.hid hkk; clear hkk)
  have hem : MapOf (.map []) st := MapOf.empty (fun n => by
    rcases HK.out.map with ⟨_, h⟩ | ⟨_, _, e, _⟩
    · exact h n
    · cases e)
  have hsz : ((w1.setCell ⟨bm, 0, none⟩ (.map (some w1.heap.size))).setCell ⟨bm, 1, none⟩ (.int .u32 ((made : Int) + 1))).heap.size = w1.heap.size := by simp [World.setCell]
  have B3 : Blk (((w1.setCell ⟨bm, 0, none⟩ (.map (some w1.heap.size))).setCell ⟨bm, 1, none⟩ (.int .u32 ((made : Int) + 1))).alloc (.map #[] 0)) bm 59 #[.map (some w1.heap.size), .int .u32 ((made : Int) + 1), rv, .int .i64 ((fail - 1 : Nat) : Int)] := by
    have := ((HK.out.mem.set_ 0 (.map (some w1.heap.size))).set_ 1 (.int .u32 ((made : Int) + 1))).alloc (.map #[] 0); simpa using this
  have k3 : Keeps (fun x => x = bm ∨ Value.map none = .map (some x)) w1 (((w1.setCell ⟨bm, 0, none⟩ (.map (some w1.heap.size))).setCell ⟨bm, 1, none⟩ (.int .u32 ((made : Int) + 1))).alloc (.map #[] 0)) :=
    (Keeps.setCell (S := fun x => x = bm ∨ Value.map none = .map (some x)) (p := ⟨bm, 1, none⟩) (Keeps.setCell (S := fun x => x = bm ∨ Value.map none = .map (some x)) (p := ⟨bm, 0, none⟩) (Keeps.refl _ w1) (.inl (.inl rfl)) _) (.inl (.inl rfl)) _).alloc _
  have ho3 := (World.ownsMap_made ((w1.setCell ⟨bm, 0, none⟩ (.map (some w1.heap.size))).setCell ⟨bm, 1, none⟩ (.int .u32 ((made : Int) + 1))) Tryz.prog 56 heldV).mono (Nat.zero_le made)
  rw [hsz] at ho3
  have hbn : w1.heap.size < (((w1.setCell ⟨bm, 0, none⟩ (.map (some w1.heap.size))).setCell ⟨bm, 1, none⟩ (.int .u32 ((made : Int) + 1))).alloc (.map #[] 0)).heap.size := by simp [World.setCell]
  have hm := hem
  obtain ⟨D, hD⟩ : ∃ D : DataW Value, D = .map [] := ⟨_, rfl⟩
  rw [← hD] at hm ho3
  have hbb : w1.heap.size ≠ bm := by omega
  have hb1 : w1.heap.size ≤ w1.heap.size := Nat.le_refl _
  clear hem hD hsz c0 c1 f0 f1 hlen c hq hmm hne
  generalize ((w1.setCell ⟨bm, 0, none⟩ (.map (some w1.heap.size))).setCell ⟨bm, 1, none⟩ (.int .u32 ((made : Int) + 1))).alloc (.map #[] 0) = w3 at *
  obtain ⟨b, hbe⟩ : ∃ b, b = w1.heap.size := ⟨_, rfl⟩
  have HB1 : Hid (w1.heap.size ≤ b) := by unfold Hid; omega
  rw [← hbe] at ho3 hbn hbb ⊢
  rw [← hbe] at B3
  clear hbe
  have c0 : w3.cell? ⟨bm, 0, none⟩ = some (.map (some b)) := B3.cell 0
  have c1 : w3.cell? ⟨bm, 1, none⟩ = some (.int .u32 ((made : Int) + 1)) := B3.cell 1
  have hbl := B3.lt
  have hsl := ho3.lt
  have HB3 := Lib.hid B3; clear B3
  have HK3 := Lib.hid k3; clear k3
  have HO := Lib.hid ho3; clear ho3
  have HM := Lib.hid hm; clear hm
  obtain ⟨w5, hrun5, hown5, hgrow5⟩ := ((HO.out.alloc (.cells #[.int .i64 size, .int .i64 perm, .slice none 0 0, .bool false] 175)).drew).update law32 Tryz.underlying55 (by unfold maxLen; omega) (kl := .int .u32 ((made : Int) + 1)) (key := .int .u32 ((made : Int) + 1)) (val := .pointer (some ⟨w3.heap.size, 0, none⟩)) (d := .held (.pointer (some ⟨w3.heap.size, 0, none⟩))) (ps := []) (by have := key32 (n := made + 1) (by omega); simpa using this) rfl
  have B5 : Blk w5 bm 59 #[.map (some b), .int .u32 ((made : Int) + 1), rv, .int .i64 ((fail - 1 : Nat) : Int)] :=
    (hgrow5.block bm (by simp; omega) (by simp; omega)).trans (HB3.out.alloc _)
  have G5 : Blk w5 w3.heap.size 175 #[.int .i64 size, .int .i64 perm, .slice none 0 0, .bool false] :=
    (hgrow5.block w3.heap.size (by simp) (by simp; omega)).trans (Blk.new w3 _ _)
  have k5 : Keeps (fun x => x = bm ∨ Value.map none = .map (some x)) w1 w5 := ((HK3.out.alloc _).drew).grown hgrow5 (fun k e => .inr (by have := HB1.out; have : b = k := (by simpa using e); omega))
  have hz3 : w1.heap.size ≤ w3.heap.size := HK3.out.size
  have HEND := Lib.hid (HE.out _ w1 w5 D w3.heap.size b HKK.out HK.out rfl ⟨HB1.out, hown5.lt⟩ k5 B5 hown5 HM.out G5 hz3)
  have d1 : w5.cell? ⟨bm, 1, none⟩ = some (.int .u32 ((made : Int) + 1)) := B5.cell 1
  have d0 : w5.cell? ⟨bm, 0, none⟩ = some (.map (some b)) := B5.cell 0
  have ca5 := HA.out w5
  clear B5 G5 k5 hown5 hgrow5
  go_region_held3 (fun w' => w'.cell? ⟨bm, 0, none⟩ = some (.map (some b)) ∧ w'.cell? ⟨bm, 1, none⟩ = some (.int .u32 ((made : Int) + 1)))
    (first | go_keep)
    (fail)
  go_wp2_with (go_at_call 122; refine ca5.mono ?_; rintro e w' ⟨rfl, rfl⟩)
  go_ret2
  exact ⟨rfl, HEND.out⟩
/-- Alloc makes region number made + 1. -/
theorem alloc_ok (h : KM w S bm made fail st rl mv rv) (hf : fail ≠ 1) (hmade : made < 4095) (size perm : Nat) (h1 : 1 ≤ size) (h2 : size ≤ 1048576) (h3 : 1 ≤ perm) (h4 : perm ≤ 3) :
    Calls Tryz.prog 70 #[.pointer (some ⟨bm, 0, none⟩), .int .i64 size, .int .i64 perm] w fun e w' => e = .returned (.tuple #[.int .u64 (addr (made + 1) 0), .int .i64 0]) ∧ AllocPost w S bm made fail st rl rv size perm w' := by
  rcases h.map with ⟨e, _⟩ | ⟨b, D, e, _⟩
  · exact alloc_nil h hf hmade e size perm h1 h2 h3 h4
  · exact alloc_some h hf hmade e size perm h1 h2 h3 h4
end
end Go.Proofs.YtbikofedppgblaaGreat
