/-
  Grace, where the numbers of the retired regions rise already and are fewer than fifty: these regions are gone.
-/
import Derived.Test.YtmbkagjdhpfngaaRetire
import Derived.Test.YtmbkagjdhpfngaaSortAsc
import Derived.Test.YtmbkagjdhpfngaaFree
namespace Go.Proofs.Ytmbkagjdhpfngaa
open Go Go.RowKit Go.Maps
set_option linter.unusedVariables false
def dels (st : Nat → Option RG) (l : List Nat) : Nat → Option RG := fun n => if n ∈ l then none else st n
theorem dels_nil (st : Nat → Option RG) : dels st [] = st := by funext n; simp [dels]
theorem dels_succ (st : Nat → Option RG) (l : List Nat) (j : Nat) (hj : j < l.length) : upd (dels st (l.take j)) l[j] none = dels st (l.take (j + 1)) := by
  funext n
  have hm : n ∈ l.take (j + 1) ↔ (n ∈ l.take j ∨ n = l[j]) := by
    rw [List.take_succ_eq_append_getElem hj, List.mem_append, List.mem_singleton]
  unfold upd dels
  by_cases h : n = l[j]
  · rw [if_pos h, if_pos (hm.2 (.inr h))]
  · rw [if_neg h]
    by_cases h2 : n ∈ l.take j
    · rw [if_pos h2, if_pos (hm.2 (.inl h2))]
    · rw [if_neg h2, if_neg (fun hh => (hm.1 hh).elim h2 h)]
section
variable {w w1 w2 : World} {S : Nat → Prop} {bm made fail : Nat} {st : Nat → Option RG} {rl : List Nat} {mv rv : Value}
theorem KM.graced (h : KM w S bm made fail st rl mv rv) {b : Nat} {D : DataW Value} (hmv : mv = .map (some b)) (k : Keeps (fun x => x = b ∨ x = bm ∨ rv.ownBlock = some x) w w2)
    (hm : Blk w2 bm 42 #[mv, .int .u32 made, .slice none 0 0, .int .i64 fail]) (hown : w2.ownsMap Try.prog 39 heldV b made D) (hd : MapOf D (dels st rl)) :
    KM w2 (more S w w2) bm made fail (dels st rl) [] mv (.slice none 0 0) ∧ Keeps S w w2 := by
  have hb : S b := (h.own hmv).1
  have sub : ∀ m q, dels st rl m = some q → m ∉ rl ∧ st m = some q := by
    intro m q hq
    unfold dels at hq
    split at hq
    · cases hq
    · exact ⟨‹_›, hq⟩
  refine ⟨⟨hm, .inr ⟨b, D, hmv, .inl hb, hown, hd⟩, fun m q hq => h.range m q (sub m q hq).2, fun m q hq => ?_, fun m m' q q' hq hq' e => h.inj m m' q q' (sub m q hq).2 (sub m' q' hq').2 e,
    fun m m' q q' g hq hq' e e' => h.injr m m' q q' g (sub m q hq).2 (sub m' q' hq').2 e e', World.ownsRow_nil _ _ _ _, fun m => ?_, List.nodup_nil, .inl h.sbm, fun m q hq => ⟨.inl (h.sreg m q (sub m q hq).2).1, fun g hg => .inl ((h.sreg m q (sub m q hq).2).2 g hg)⟩,
    fun g hg => (by cases hg), ?_, h.made_le, h.fail_le⟩, k.mono ?_⟩
  · have hr := h.regs m q (sub m q hq).2
    refine hr.keeps k ?_ (fun g hg => ?_)
    · rintro (e | e | e)
      · exact h.notMap hmv hr.head e
      · exact Blk.ne_ hr.head h.mem (by decide) e
      · obtain ⟨cur, hc⟩ := h.retBlk e
        exact Blk.ne_ hr.head hc (by decide) rfl
    · rintro (e | e | e)
      · exact h.notMap hmv (hr.rows g hg) e
      · exact Blk.ne_ (hr.rows g hg) h.mem (by decide) e
      · obtain ⟨cur, hc⟩ := h.retBlk e
        exact Blk.ne_ (hr.rows g hg) hc (by decide) rfl
  · constructor
    · intro h0; cases h0
    · rintro ⟨r, hr, ht⟩
      obtain ⟨h1, h2⟩ := sub m r hr
      exact absurd ((h.retM m).2 ⟨r, h2, ht⟩) h1
  · rintro x (h2 | h2)
    · exact Nat.lt_of_lt_of_le (h.lt x h2) k.size
    · exact h2.2
  · rintro x (e | e | e)
    · exact e ▸ hb
    · exact e ▸ h.sbm
    · exact h.srv x e
/-- Behind the sort, j numbers deleted. -/
structure GAt (w : World) (g b bm made fail : Nat) (cap : Nat) (rl : List Nat) (st : Nat → Option RG) (j : Nat) (wr : World) : Prop where
  keep : Keeps (fun x => x = b ∨ x = g) w wr
  mem : Blk wr bm 42 #[.map (some b), .int .u32 made, .slice (some ⟨g, 0, none⟩) rl.length cap, .int .i64 fail]
  own : ∃ D, wr.ownsMap Try.prog 39 heldV b made D ∧ MapOf D (dels st (rl.take j))
  cells : ∀ i, (hi : i < rl.length) → wr.cell? ⟨g, i, none⟩ = some (.int .u32 (rl[i] : Int))
theorem GAt.drew {g b cap j : Nat} {wr : World} (h : GAt w g b bm made fail cap rl st j wr) : GAt w g b bm made fail cap rl st j wr.drew := ⟨h.keep.drew, h.mem, by obtain ⟨D, ho, hd⟩ := h.own; exact ⟨D, ho.drew, hd⟩, h.cells⟩
theorem GAt.del {g b cap j : Nat} {wr : World} (h : GAt w g b bm made fail cap rl st j wr) (hgb : g ≠ b) (hmb : bm ≠ b) (hgl : g < wr.heap.size) (hml : bm < wr.heap.size) (hj : j < rl.length) (hn : rl[j] ≤ 4294967295) :
    ∃ w2, (∀ ty, (Builtin.delete_ #[38, 39] ty #[.map (some b), .int .u32 (rl[j] : Int)]).run Try.prog wr = .ok (.tuple #[]) w2) ∧ GAt w g b bm made fail cap rl st (j + 1) w2 := by
  obtain ⟨D, ho, hd⟩ := h.own
  obtain ⟨w2, hrun, hown, hturn⟩ := ho.drop law32 Try.underlying38 (key32 hn) 0
  have hG := hturn.grown
  refine ⟨w2, fun ty => hrun, ⟨h.keep.grown hG (fun k e => .inl (.inl (by simpa using e.symm))), (hG.block bm hml (by simpa using hmb)).trans h.mem, ⟨D.del _, hown, ?_⟩, fun i hi => ?_⟩⟩
  · rw [← dels_succ st rl j hj]; exact hd.del _
  · exact (World.cell?_of_block (w := wr) (a := ⟨g, i, none⟩) (hG.block g hgl (by simpa using hgb))).trans (h.cells i hi)
set_option maxRecDepth 100000 in
set_option maxHeartbeats 2000000 in
theorem grace_asc (h : KM w S bm made fail st rl mv rv) (hp : 0 < rl.length) (hc : rl.length < 50) (hasc : Rises rl.toArray) :
    Calls Try.prog 18 #[.pointer (some ⟨bm, 0, none⟩)] w fun e w' => e = .returned (.tuple #[]) ∧ KM w' (more S w w') bm made fail (dels st rl) [] mv (.slice none 0 0) ∧ Keeps S w w' := by
  obtain ⟨b, D, hmv, hSb, ho, hmo⟩ : ∃ b D, mv = .map (some b) ∧ S b ∧ w.ownsMap Try.prog 39 heldV b made D ∧ MapOf D st := by
    rcases h.map with ⟨_, h1⟩ | h1
    · obtain ⟨r, hr, _⟩ := (h.retM rl[0]).1 (List.getElem_mem hp)
      rw [h1] at hr; cases hr
    · exact h1
  obtain ⟨g, cap, cur, hrv, hgb, hcap, hcur, htake⟩ : ∃ g cap cur, rv = .slice (some ⟨g, 0, none⟩) rl.length cap ∧ Blk w g 39 cur ∧ rl.length ≤ cap ∧ cap ≤ maxLen ∧ cur.toList.take rl.length = rl.map encU := by
    rcases h.ret.2 with ⟨_, h0⟩ | ⟨g, cap, cur, hv, _, h1, h2, h3, h4, h5⟩
    · omega
    · exact ⟨g, cap, cur, hv, h1, h2, h3, by simpa using h5⟩
  have hgbm : g ≠ bm := Blk.ne_ hgb h.mem (by decide)
  have hgm : g ≠ b := h.notMap hmv hgb
  have hbm : bm ≠ b := h.notMap hmv h.mem
  have hrow : SRow w w g (cur.toList.drop rl.length) rl.toArray := ⟨Keeps.refl _ w, by
    have e : (rl.toArray.toList.map encU ++ cur.toList.drop rl.length).toArray = cur := by
      simp only
      rw [← htake, List.take_append_drop]
    rw [e]; exact hgb⟩
  have hc1 := sort_asc w w g _ rl.toArray cap (by simpa using hp) (by simpa using hcap) (by simpa using hc) hasc hrow
  rw [List.size_toArray] at hc1
  have hnr : ∀ i, (hi : i < rl.length) → rl[i] ≤ 4294967295 := fun i hi => by
    obtain ⟨r, hr, _⟩ := (h.retM rl[i]).1 (List.getElem_mem hi)
    have := h.range _ r hr; have := h.made_le; omega
  have hst : ∀ e w1, SPost w g (cur.toList.drop rl.length) rl.toArray e w1 → e = .returned (.tuple #[]) ∧ GAt w g b bm made fail cap rl st 0 w1 := by
    rintro e w1 ⟨rfl, hr⟩
    have k := hr.keep
    refine ⟨rfl, k.mono (fun x e => .inr e), ?_, ⟨D, ownsMap_block ho (k.block b (h.lt b hSb) (fun e => hgm e.symm)), by rw [List.take_zero, dels_nil]; exact hmo⟩, fun i hi => ?_⟩
    · have := h.mem.keeps k (fun e => hgbm e.symm); rw [hmv, hrv] at this; exact this
    · have := hr.cell (i := i) (by simpa using hi); rw [this]; simp [hi]
  have hfin : ∀ wr, GAt w g b bm made fail cap rl st rl.length wr → wr.cell? ⟨bm, 2, none⟩ = some (.slice (some ⟨g, 0, none⟩) rl.length cap) ∧ wr.frozen? ⟨bm, 2, none⟩ = false ∧ KM (wr.setCell ⟨bm, 2, none⟩ (.slice none 0 0)) (more S w (wr.setCell ⟨bm, 2, none⟩ (.slice none 0 0))) bm made fail (dels st rl) [] mv (.slice none 0 0) ∧ Keeps S w (wr.setCell ⟨bm, 2, none⟩ (.slice none 0 0)) := by
    intro wr hg
    obtain ⟨D', ho', hd'⟩ := hg.own
    rw [List.take_length] at hd'
    refine ⟨hg.mem.cell 2, hg.mem.frozen 2, h.graced hmv (Keeps.setCell (p := ⟨bm, 2, none⟩) (hg.keep.mono ?_) (.inl (.inr (.inl rfl))) _) ?_ (ownsMap_block ho' (Below.heap_setCell wr _ _ b (fun e => hbm e.symm))) hd'⟩
    · rintro x (e | e)
      · exact .inl e
      · exact .inr (.inr (by rw [hrv, e]; rfl))
    · have := hg.mem.set_ 2 (.slice none 0 0); rw [hmv]; simpa using this
  have hbml := h.mem.lt
  have hgl := hgb.lt
  generalize cur.toList.drop rl.length = sp at *
  have c2 : w.cell? ⟨bm, 2, none⟩ = some (.slice (some ⟨g, 0, none⟩) rl.length cap) := by rw [← hrv]; exact h.mem.cell 2
  have HC := Lib.hid hc1
  have HST := Lib.hid hst
  have HF := Lib.hid hfin
  have HNR := Lib.hid hnr
  clear hc1 hst hfin hnr hrow h hrv htake hcur ho hmo hasc hgb
  obtain ⟨n, hn⟩ : ∃ n, n = rl.length := ⟨_, rfl⟩
  rw [← hn] at c2 HC HF hp hc hcap
  have HN := Lib.hid hn; clear hn
  go_enter Try.func18, Try.ntmps18
  go_wp2_with fail
  refine HC.out.mono ?_
  rintro e w1 hpost
  obtain ⟨rfl, hg1⟩ := HST.out _ _ hpost
  clear hpost c2
  have c2 : w1.cell? ⟨bm, 2, none⟩ = some (.slice (some ⟨g, 0, none⟩) n cap) := by rw [HN.out]; exact hg1.mem.cell 2
  have HG1 := Lib.hid hg1; clear hg1
  go_wp2_with fail
  go_loopw [16] (fun i wr => ∃ j : Nat, j ≤ n ∧ i = .int .i64 j ∧ GAt w g b bm made fail cap rl st j wr) (fun i _ => n - (intOf i).toNat)
  case atStart => exact ⟨0, by omega, rfl, HG1.out⟩
  case round =>
    obtain ⟨j, hj, rfl, hg⟩ := hrel
    by_cases hjn : j < n
    · have hjl : j < rl.length := by rw [← HN.out]; exact hjn
      have cj := hg.cells j hjl
      have cm : wr.cell? ⟨bm, 0, none⟩ = some (.map (some b)) := hg.mem.cell 0
      obtain ⟨w2, hrun, hg2⟩ := hg.del hgm hbm (Nat.lt_of_lt_of_le hgl hg.keep.size) (Nat.lt_of_lt_of_le hbml hg.keep.size) hjl (HNR.out j hjl)
      have HG2 := Lib.hid hg2; clear hg2 hg
      generalize rl[j] = x at cj hrun
      have g1 : decide (j < n) = true := by simpa using hjn
      go_wp2_with fail
      go_roundw
      case rel => exact ⟨j + 1, by omega, by go_num, HG2.out⟩
      case measure => simp [intOf]; omega
    · have : j = n := by omega
      subst this
      obtain ⟨c22, f2, hkm⟩ := HF.out _ hg
      have HK := Lib.hid hkm; clear hkm hg
      have g1 : decide (j < j) = false := by simp
      go_wp2_with fail
      go_end0
      exact ⟨rfl, HK.out⟩
end
end Go.Proofs.Ytmbkagjdhpfngaa
