/-
  Grace, whatever was retired.
-/
import Derived.Test.YtmbkagjdhpfngaaGrace
import Derived.Test.YtmbkagjdhpfngaaSortPdq
namespace Go.Proofs.Ytmbkagjdhpfngaa
open Go Go.RowKit Go.Maps
set_option linter.unusedVariables false
section
variable {w w1 w2 : World} {S : Nat → Prop} {bm made fail : Nat} {st : Nat → Option RG} {rl : List Nat} {mv rv : Value}
theorem dels_same {l l' : List Nat} (h : ∀ x, x ∈ l' ↔ x ∈ l) : dels st l' = dels st l := by
  funext n
  unfold dels
  by_cases hn : n ∈ l
  · rw [if_pos hn, if_pos ((h n).2 hn)]
  · rw [if_neg hn, if_neg (fun hh => hn ((h n).1 hh))]
set_option maxRecDepth 100000 in
set_option maxHeartbeats 2000000 in
theorem grace_some (h : KM w S bm made fail st rl mv rv) (hp : 0 < rl.length) :
    Calls Try.prog 18 #[.pointer (some ⟨bm, 0, none⟩)] w fun e w' => e = .returned (.tuple #[]) ∧ KM w' (more S w w') bm made fail (dels st rl) [] mv (.slice none 0 0) ∧ Keeps S w w' := by
  obtain ⟨b, D, hmv, hSb, ho, hmo⟩ : ∃ b D, mv = .map (some b) ∧ S b ∧ w.ownsMap Try.prog 39 heldV b made D ∧ MapOf D st := by
    rcases h.map with ⟨_, h1⟩ | h1
    · obtain ⟨r, hr, _⟩ := (h.retM rl[0]).1 (List.getElem_mem hp)
      rw [h1] at hr; cases hr
    · exact h1
  obtain ⟨g, cap, cur, hrv, hgb, hcap, hcur, htake⟩ : ∃ g cap cur, rv = .slice (some ⟨g, 0, none⟩) rl.length cap ∧ Blk w g 39 cur ∧ rl.length ≤ cap ∧ cap ≤ maxLen ∧ cur.toList.take rl.length = rl.map encU := by
    rcases h.ret.2 with ⟨_, h0⟩ | ⟨g, cap, cur, hv, _, h1, h2, h3, h4, h5⟩
    · omega
    · exact ⟨g, cap, cur, hv, h1, h2, h3, by simpa using h5⟩
  have hgbm : g ≠ bm := Blk.ne_ hgb h.mem (by decide)
  have hgm : g ≠ b := h.notMap hmv hgb
  have hbm : bm ≠ b := h.notMap hmv h.mem
  have hrow : SRow w w g (cur.toList.drop rl.length) rl.toArray := ⟨Keeps.refl _ w, by
    have e : (rl.toArray.toList.map encU ++ cur.toList.drop rl.length).toArray = cur := by
      simp only
      rw [← htake, List.take_append_drop]
    rw [e]; exact hgb⟩
  have hc := h.retLen
  have hmd := h.made_le
  have hc1 := sort_any w w g _ rl.toArray cap (by simpa using hcap) (by rw [List.size_toArray]; omega) hrow
  rw [List.size_toArray] at hc1
  have hnr : ∀ x, x ∈ rl → x ≤ 4294967295 := fun x hx => by
    obtain ⟨r, hr, _⟩ := (h.retM x).1 hx
    have := h.range _ r hr; have := h.made_le; omega
  have hst : ∀ e w1, SortPost w g (cur.toList.drop rl.length) rl.toArray e w1 → e = .returned (.tuple #[]) ∧ ∃ l : List Nat, (l.length = rl.length ∧ ∀ x, x ∈ l ↔ x ∈ rl) ∧ GAt w g b bm made fail cap l st 0 w1 := by
    rintro e w1 ⟨rfl, d', hper, _, hr⟩
    have k := hr.keep
    have hl : d'.toList.length = rl.length := by have := hper.length_eq; simpa using this
    refine ⟨rfl, d'.toList, ⟨hl, fun x => by have := hper.mem_iff (a := x); simpa using this⟩, k.mono (fun x e => .inr e), ?_, ⟨D, ownsMap_block ho (k.block b (h.lt b hSb) (fun e => hgm e.symm)), by rw [List.take_zero, dels_nil]; exact hmo⟩, fun i hi => ?_⟩
    · rw [hl]; have := h.mem.keeps k (fun e => hgbm e.symm); rw [hmv, hrv] at this; exact this
    · have hi' : i < d'.size := by simpa using hi
      have := hr.cell (i := i) hi'; rw [this]; simp [hi']
  have hfin : ∀ l : List Nat, (l.length = rl.length ∧ ∀ x, x ∈ l ↔ x ∈ rl) → ∀ wr, GAt w g b bm made fail cap l st rl.length wr → wr.cell? ⟨bm, 2, none⟩ = some (.slice (some ⟨g, 0, none⟩) rl.length cap) ∧ wr.frozen? ⟨bm, 2, none⟩ = false ∧ KM (wr.setCell ⟨bm, 2, none⟩ (.slice none 0 0)) (more S w (wr.setCell ⟨bm, 2, none⟩ (.slice none 0 0))) bm made fail (dels st rl) [] mv (.slice none 0 0) ∧ Keeps S w (wr.setCell ⟨bm, 2, none⟩ (.slice none 0 0)) := by
    intro l hl wr hg
    obtain ⟨D', ho', hd'⟩ := hg.own
    rw [← hl.1, List.take_length, dels_same hl.2] at hd'
    have hgm' := hg.mem
    rw [hl.1] at hgm'
    refine ⟨hgm'.cell 2, hgm'.frozen 2, h.graced hmv (Keeps.setCell (p := ⟨bm, 2, none⟩) (hg.keep.mono ?_) (.inl (.inr (.inl rfl))) _) ?_ (ownsMap_block ho' (Below.heap_setCell wr _ _ b (fun e => hbm e.symm))) hd'⟩
    · rintro x (e | e)
      · exact .inl e
      · exact .inr (.inr (by rw [hrv, e]; rfl))
    · have := hgm'.set_ 2 (.slice none 0 0); rw [hmv]; simpa using this
  have hbml := h.mem.lt
  have hgl := hgb.lt
  generalize cur.toList.drop rl.length = sp at *
  have c2 : w.cell? ⟨bm, 2, none⟩ = some (.slice (some ⟨g, 0, none⟩) rl.length cap) := by rw [← hrv]; exact h.mem.cell 2
  have HC := Lib.hid hc1
  have HST := Lib.hid hst
  have HF := Lib.hid hfin
  have HNR := Lib.hid hnr
  clear hc1 hst hfin hnr hrow h hrv htake hcur ho hmo hgb
  obtain ⟨n, hn⟩ : ∃ n, n = rl.length := ⟨_, rfl⟩
  rw [← hn] at c2 HC HST HF hp hc hcap
  clear hn
  go_enter Try.func18, Try.ntmps18
  go_wp2_with fail
  refine HC.out.mono ?_
  rintro e w1 hpost
  obtain ⟨rfl, l, hl, hg1⟩ := HST.out _ _ hpost
  have HLL := Lib.hid hl
  have HN := Lib.hid hl.1
  clear hpost c2 hl
  have c2 : w1.cell? ⟨bm, 2, none⟩ = some (.slice (some ⟨g, 0, none⟩) n cap) := by rw [← HN.out]; exact hg1.mem.cell 2
  have HG1 := Lib.hid hg1; clear hg1
  go_wp2_with fail
  go_loopw [16] (fun i wr => ∃ j : Nat, j ≤ n ∧ i = .int .i64 j ∧ GAt w g b bm made fail cap l st j wr) (fun i _ => n - (intOf i).toNat)
  case atStart => exact ⟨0, by omega, rfl, HG1.out⟩
  case round =>
    obtain ⟨j, hj, rfl, hg⟩ := hrel
    by_cases hjn : j < n
    · have hjl : j < l.length := by rw [HN.out]; exact hjn
      have cj := hg.cells j hjl
      have cm : wr.cell? ⟨bm, 0, none⟩ = some (.map (some b)) := hg.mem.cell 0
      obtain ⟨w2, hrun, hg2⟩ := hg.del hgm hbm (Nat.lt_of_lt_of_le hgl hg.keep.size) (Nat.lt_of_lt_of_le hbml hg.keep.size) hjl (HNR.out _ ((HLL.out.2 _).1 (List.getElem_mem hjl)))
      have HG2 := Lib.hid hg2; clear hg2 hg
      generalize l[j] = x at cj hrun
      have g1 : decide (j < n) = true := by simpa using hjn
      go_wp2_with fail
      go_roundw
      case rel => exact ⟨j + 1, by omega, by go_num, HG2.out⟩
      case measure => simp [intOf]; omega
    · have : j = n := by omega
      subst this
      obtain ⟨c22, f2, hkm⟩ := HF.out l HLL.out _ hg
      have HK := Lib.hid hkm; clear hkm hg
      have g1 : decide (j < j) = false := by simp
      go_wp2_with fail
      go_end0
      exact ⟨rfl, HK.out⟩
theorem grace_any (h : KM w S bm made fail st rl mv rv) :
    Calls Try.prog 18 #[.pointer (some ⟨bm, 0, none⟩)] w fun e w' => e = .returned (.tuple #[]) ∧ KM w' (more S w w') bm made fail (dels st rl) [] mv (.slice none 0 0) ∧ Keeps S w w' := by
  rcases Nat.eq_zero_or_pos rl.length with h0 | h0
  · obtain rfl := List.eq_nil_of_length_eq_zero h0
    rw [dels_nil]
    obtain ⟨A, c, hrv⟩ : ∃ A c, rv = .slice A 0 c := by
      rcases h.ret.2 with ⟨e, _⟩ | ⟨g, cap, cur, e, _⟩
      · exact ⟨none, 0, e⟩
      · exact ⟨_, cap, e⟩
    have c2 : w.cell? ⟨bm, 2, none⟩ = some (.slice A 0 c) := by rw [← hrv]; exact h.mem.cell 2
    have f2 : w.frozen? ⟨bm, 2, none⟩ = false := h.mem.frozen 2
    have K : Keeps (fun b => b = bm) w (w.setCell ⟨bm, 2, none⟩ (.slice none 0 0)) := Keeps.setCell (S := fun b => b = bm) (p := ⟨bm, 2, none⟩) (Keeps.refl _ w) (.inl rfl) _
    have HK := Lib.hid (show KM (w.setCell ⟨bm, 2, none⟩ (.slice none 0 0)) (more S w (w.setCell ⟨bm, 2, none⟩ (.slice none 0 0))) bm made fail st [] mv (.slice none 0 0) ∧ Keeps S w (w.setCell ⟨bm, 2, none⟩ (.slice none 0 0)) from
      ⟨{ mem := by have := h.mem.set_ 2 (.slice none 0 0); simpa using this
         map := by
           rcases h.map with h1 | ⟨b, D, e, hb, ho, hm⟩
           · exact .inl h1
           · exact .inr ⟨b, D, e, .inl hb, ownsMap_block ho (K.block b (h.lt b hb) (fun e' => h.notMap e h.mem e'.symm)), hm⟩
         range := h.range
         regs := fun n r hr => (h.regs n r hr).keeps K (Blk.ne_ (h.regs n r hr).head h.mem (by decide)) (fun g hg => Blk.ne_ ((h.regs n r hr).rows g hg) h.mem (by decide))
         inj := h.inj
         injr := h.injr
         ret := World.ownsRow_nil _ _ _ _
         retM := h.retM
         retN := h.retN
         sbm := .inl h.sbm
         sreg := fun n r hr => ⟨.inl (h.sreg n r hr).1, fun g hg => .inl ((h.sreg n r hr).2 g hg)⟩
         srv := fun g hg => by cases hg
         lt := by
           rintro b (h1 | ⟨_, h1⟩)
           · exact Nat.lt_of_lt_of_le (h.lt b h1) K.size
           · exact h1
         made_le := h.made_le
         fail_le := h.fail_le }, K.mono (fun b e => e ▸ h.sbm)⟩)
    clear h hrv K h0
    go_enter Try.func18, Try.ntmps18
    go_wp2_with (go_at_call 40; refine (sort_nil _ _ _).mono ?_; rintro e w' ⟨rfl, rfl⟩)
    refine wp_loop_rounds 1 ?_
    rw [rounds_succ]
    go_wp2
    go_end0
    exact ⟨rfl, HK.out⟩
  · exact grace_some h h0
end
end Go.Proofs.Ytmbkagjdhpfngaa
