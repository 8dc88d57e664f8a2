/-
  Grace, whatever was retired. Free of a region that was retired. slices.Sort of a row that is owned; slices.Sorted of the memory's numbers. The laws' common end: the chapter's examples come out as they should ('awake' returns true and leaves old memory alone). What the walks of the laws of kmem share: a row of bytes as a text; a row that the call itself made.
-/
import Derived.Test.YtbikofedppgblaaGreatQ09
import Derived.Test.YtbikofedppgblaaGreatQ08
import Derived.Test.YtbikofedppgblaaGreatQ06
import Derived.Test.YtbikofedppgblaaGreatQ07
namespace Go.Proofs.YtbikofedppgblaaGreat
open Go Go.RowKit Go.Maps
set_option linter.unusedVariables false
section
variable {w w1 w2 : World} {S : Nat → Prop} {bm made fail : Nat} {st : Nat → Option RG} {rl : List Nat} {mv rv : Value}
theorem dels_same {l l' : List Nat} (h : ∀ x, x ∈ l' ↔ x ∈ l) : dels st l' = dels st l := by
  funext n
  unfold dels
  by_cases hn : n ∈ l
  · rw [if_pos hn, if_pos ((h n).2 hn)]
  · rw [if_neg hn, if_neg (fun hh => hn ((h n).1 hh))]
end
end Go.Proofs.YtbikofedppgblaaGreat
namespace Go.Proofs.YtbikofedppgblaaGreat
open Go Go.RowKit Go.Maps
set_option linter.unusedVariables false
section
variable {w w1 w2 : World} {S : Nat → Prop} {bm made fail : Nat} {st : Nat → Option RG} {rl : List Nat} {mv rv : Value}
theorem KM.freedRet (h : KM w S bm made fail st rl mv rv) {n : Nat} {b : Nat} {D : DataW Value} {rl' : List Nat} {rv' : Value} (hmv : mv = .map (some b)) (k : Keeps (fun x => x = b ∨ x = bm ∨ rv.ownBlock = some x) w w2)
    (hm : Blk w2 bm 59 #[mv, .int .u32 made, rv', .int .i64 fail]) (hown : w2.ownsMap Tryz.prog 56 heldV b made D) (hd : MapOf D (upd st n none))
    (hr : w2.ownsRow 0 56 1 rv' rl'.length (rl'.map fun n : Nat => Value.int .u32 (n : Int))) (hat : ∀ g, rv'.ownBlock = some g → rv.ownBlock = some g) (hmem : ∀ x, x ∈ rl' ↔ x ∈ rl ∧ x ≠ n) (hnd : rl'.Nodup) :
    KM w2 (more S w w2) bm made fail (upd st n none) rl' mv rv' ∧ Keeps S w w2 := by
  have hb : S b := (h.own hmv).1
  have sub : ∀ m q, upd st n none m = some q → m ≠ n ∧ st m = some q := by
    intro m q hq
    by_cases hmn : m = n
    · subst hmn; rw [upd_same] at hq; cases hq
    · rw [upd_other _ _ hmn] at hq; exact ⟨hmn, hq⟩
  refine ⟨⟨hm, .inr ⟨b, D, hmv, .inl hb, hown, hd⟩, fun m q hq => h.range m q (sub m q hq).2, fun m q hq => ?_, fun m m' q q' hq hq' e => h.inj m m' q q' (sub m q hq).2 (sub m' q' hq').2 e,
    fun m m' q q' g hq hq' e e' => h.injr m m' q q' g (sub m q hq).2 (sub m' q' hq').2 e e', hr, fun m => ?_, hnd, .inl h.sbm, fun m q hq => ⟨.inl (h.sreg m q (sub m q hq).2).1, fun g hg => .inl ((h.sreg m q (sub m q hq).2).2 g hg)⟩,
    fun g hg => .inl (h.srv g (hat g hg)), ?_, h.made_le, h.fail_le⟩, k.mono ?_⟩
  · have hr := h.regs m q (sub m q hq).2
    refine hr.keeps k ?_ (fun g hg => ?_)
    · rintro (e | e | e)
      · exact h.notMap hmv hr.head e
      · exact Blk.ne_ hr.head h.mem (by decide) e
      · obtain ⟨cur, hc⟩ := h.retBlk e
        exact Blk.ne_ hr.head hc (by decide) rfl
    · rintro (e | e | e)
      · exact h.notMap hmv (hr.rows g hg) e
      · exact Blk.ne_ (hr.rows g hg) h.mem (by decide) e
      · obtain ⟨cur, hc⟩ := h.retBlk e
        exact Blk.ne_ (hr.rows g hg) hc (by decide) rfl
  · rw [hmem m, h.retM m]
    constructor
    · rintro ⟨⟨r, h1, h2⟩, hne⟩
      exact ⟨r, by rw [upd_other _ _ hne]; exact h1, h2⟩
    · rintro ⟨r, h1, h2⟩
      obtain ⟨h3, h4⟩ := sub m r h1
      exact ⟨⟨r, h4, h2⟩, h3⟩
  · rintro x (h2 | h2)
    · exact Nat.lt_of_lt_of_le (h.lt x h2) k.size
    · exact h2.2
  · rintro x (e | e | e)
    · exact e ▸ hb
    · exact e ▸ h.sbm
    · exact h.srv x e
end
theorem nodup_idx {l : List Nat} (hn : l.Nodup) {i j : Nat} (hi : i < l.length) (hj : j < l.length) (e : l[i] = l[j]) : i = j := by
  rcases Nat.lt_trichotomy i j with h | h | h
  · exact absurd e (List.pairwise_iff_getElem.1 hn i j hi hj h)
  · exact h
  · exact absurd e.symm (List.pairwise_iff_getElem.1 hn j i hj hi h)
theorem moved_erase {rl : List Nat} {dk : Array Nat} {idx : Nat} (hi : idx < rl.length) (h : Moved rl.toArray dk idx rl.length) : dk.toList.take (rl.length - 1) = rl.eraseIdx idx := by
  have hz : dk.size = rl.length := by have := h.1; simpa using this
  apply List.ext_getElem
  · have hz' : dk.toList.length = rl.length := by rw [Array.length_toList]; exact hz
    rw [List.length_eraseIdx_of_lt hi, List.length_take, hz']; omega
  · intro t h1 h2
    have ht : t < rl.length - 1 := by rw [List.length_eraseIdx_of_lt hi] at h2; exact h2
    have h3 := h.2 t (by rw [List.size_toArray]; omega)
    have e1 : dk[t]! = dk[t]'(by omega) := getElem!_pos dk t (by omega)
    rw [List.getElem_take, Array.getElem_toList, List.getElem_eraseIdx, ← e1, h3]
    split
    · rw [getElem!_pos rl.toArray t (by rw [List.size_toArray]; omega)]; rfl
    · rw [if_pos (by omega), getElem!_pos rl.toArray (t + 1) (by rw [List.size_toArray]; omega)]; rfl
theorem erase_mem {rl : List Nat} (hn : rl.Nodup) {idx : Nat} (hi : idx < rl.length) (x : Nat) : x ∈ rl.eraseIdx idx ↔ x ∈ rl ∧ x ≠ rl[idx] := by
  rw [List.mem_eraseIdx_iff_getElem]
  constructor
  · rintro ⟨i, h, hne, rfl⟩
    exact ⟨List.getElem_mem h, fun e => hne (nodup_idx hn h hi e)⟩
  · rintro ⟨hx, hne⟩
    obtain ⟨i, h, rfl⟩ := List.getElem_of_mem hx
    exact ⟨i, h, fun e => hne (by subst e; rfl), rfl⟩
section
variable {w w1 w2 : World} {S : Nat → Prop} {bm made fail : Nat} {st : Nat → Option RG} {rl : List Nat} {mv rv : Value}
def FreeRet (w : World) (S : Nat → Prop) (bm made fail : Nat) (st : Nat → Option RG) (mv : Value) (w' : World) : Prop := ∃ rl' rv', KM w' (more S w w') bm made fail st rl' mv rv' ∧ Keeps S w w'
set_option maxRecDepth 100000 in
set_option maxHeartbeats 1000000 in
theorem free_ret (h : KM w S bm made fail st rl mv rv) (n : Nat) {r : RG} (hs : st n = some r) (hret : r.ret = true) :
    Calls Tryz.prog 129 #[.pointer (some ⟨bm, 0, none⟩), .int .u64 (addr n 0)] w fun e w' => e = .returned (.int .i64 0) ∧ FreeRet w S bm made fail (upd st n none) mv w' := by
  obtain ⟨h0, hm⟩ := h.range n r hs
  have hle := h.made_le
  have hn : n ≤ 4294967295 := by omega
  have c := beginsAt_at h n hn
  rw [hs] at c
  change Calls _ _ _ _ (fun e w' => e = Ending.returned (Value.pointer (some ⟨r.blk, 0, none⟩)) ∧ w = w') at c
  have cs := split_any n 0 hn (by omega) w
  have d3 : w.cell? ⟨r.blk, 3, none⟩ = some (.bool r.ret) := (h.regs n r hs).head.cell 3
  rw [hret] at d3
  have hrbl := (h.regs n r hs).head.lt
  have hbl := h.mem.lt
  have hnrl : n ∈ rl := (h.retM n).2 ⟨r, hs, hret⟩
  obtain ⟨idx, hidx, hat⟩ := List.getElem_of_mem hnrl
  have hrl := h.retLen
  obtain ⟨b, D, hmv, hSb, ho, hmo⟩ : ∃ b D, mv = .map (some b) ∧ S b ∧ w.ownsMap Tryz.prog 56 heldV b made D ∧ MapOf D st := by
    rcases h.map with ⟨_, h1⟩ | h1
    · rw [h1 n] at hs; cases hs
    · exact h1
  obtain ⟨g, cap, cur, hrv, hgb, hcap, hcm, hcur, htake⟩ : ∃ g cap cur, rv = .slice (some ⟨g, 0, none⟩) rl.length cap ∧ Blk w g 56 cur ∧ rl.length ≤ cap ∧ cap ≤ maxLen ∧ cur.size = cap ∧ cur.toList.take rl.length = rl.map encU := by
    rcases h.ret.2 with ⟨_, h0⟩ | ⟨g, cap, cur, hv, _, h1, h2, h3, h4, h5⟩
    · omega
    · exact ⟨g, cap, cur, hv, h1, h2, h3, by simpa using h4, by simpa using h5⟩
  have hgbm : g ≠ bm := Blk.ne_ hgb h.mem (by decide)
  have hgm : g ≠ b := h.notMap hmv hgb
  have hbm : bm ≠ b := h.notMap hmv h.mem
  have hgl := hgb.lt
  have hbb : b < w.heap.size := ho.lt
  -- behind the number's own block
  have hrow : SRow (w.alloc (.cells #[.int .u32 (n : Int)] 56)) (w.alloc (.cells #[.int .u32 (n : Int)] 56)) g (cur.toList.drop rl.length) rl.toArray := ⟨Keeps.refl _ _, by
    have e : (rl.toArray.toList.map encU ++ cur.toList.drop rl.length).toArray = cur := by
      simp only
      rw [← htake, List.take_append_drop]
    rw [e]; exact hgb.alloc _⟩
  have hdel := deleteFunc_any _ _ g w.heap.size n _ rl.toArray idx cap (by omega) (Blk.new w _ _) (by simpa using hidx) (by rw [getElem!_pos rl.toArray idx (by simpa using hidx)]; exact hat) (fun j hj hne => by
    have hj' : j < rl.length := by simpa using hj
    rw [getElem!_pos rl.toArray j hj]
    intro e
    have e' : rl[j] = rl[idx] := e.trans hat.symm
    exact hne (nodup_idx h.retN hj' hidx e')) (by simpa using hcap) (by simp [hcur]) (by rw [List.size_toArray]; omega) hrow
  rw [List.size_toArray] at hdel
  have hfin : ∀ e w2, DelPost (w.alloc (.cells #[.int .u32 (n : Int)] 56)) g rl.toArray idx cap e w2 → e = .returned (.slice (some ⟨g, 0, none⟩) (rl.length - 1) cap) ∧
      w2.cell? ⟨bm, 2, none⟩ = some rv ∧ w2.frozen? ⟨bm, 2, none⟩ = false ∧
      ∃ w4, (∀ ty, (Builtin.delete_ #[55, 56] ty #[.map (some b), .int .u32 (n : Int)]).run Tryz.prog (w2.setCell ⟨bm, 2, none⟩ (.slice (some ⟨g, 0, none⟩) (rl.length - 1) cap)).drew = .ok (.tuple #[]) w4) ∧
        (w2.setCell ⟨bm, 2, none⟩ (.slice (some ⟨g, 0, none⟩) (rl.length - 1) cap)).cell? ⟨bm, 0, none⟩ = some (.map (some b)) ∧ (w2.setCell ⟨bm, 2, none⟩ (.slice (some ⟨g, 0, none⟩) (rl.length - 1) cap)).cell? ⟨w.heap.size, 0, none⟩ = some (.int .u32 (n : Int)) ∧
        w4.cell? ⟨bm, 0, none⟩ = some (.map (some b)) ∧ w4.cell? ⟨w.heap.size, 0, none⟩ = some (.int .u32 (n : Int)) ∧ FreeRet w S bm made fail (upd st n none) mv w4 := by
    rintro e w2 ⟨rfl, dk, sp, hmvd, kk, hblk, hspl⟩
    rw [List.size_toArray] at hmvd hblk hspl
    have K1 : Keeps (fun x => x = g) w w2 := ((Keeps.refl (fun x => x = g) w).alloc (.cells #[.int .u32 (n : Int)] 56)).trans (kk.mono (fun x e => .inl e))
    have M2 : Blk w2 bm 59 #[mv, .int .u32 made, rv, .int .i64 fail] := h.mem.keeps K1 (fun e => hgbm e.symm)
    have O2 : w2.ownsMap Tryz.prog 56 heldV b made D := ownsMap_block ho (K1.block b hbb (fun e => hgm e.symm))
    have N2 : Blk w2 w.heap.size 56 #[.int .u32 (n : Int)] := (Blk.new w 56 #[.int .u32 (n : Int)]).keeps kk (by omega)
    obtain ⟨v3, hv3⟩ : ∃ v3, v3 = Value.slice (some ⟨g, 0, none⟩) (rl.length - 1) cap := ⟨_, rfl⟩
    rw [← hv3]
    have M3 : Blk (w2.setCell ⟨bm, 2, none⟩ v3) bm 59 #[mv, .int .u32 made, v3, .int .i64 fail] := by have := M2.set_ 2 v3; simpa using this
    have O3 : (w2.setCell ⟨bm, 2, none⟩ v3).ownsMap Tryz.prog 56 heldV b made D := ownsMap_block O2 (Below.heap_setCell w2 _ _ b (fun e => hbm e.symm))
    have N3 : Blk (w2.setCell ⟨bm, 2, none⟩ v3) w.heap.size 56 #[.int .u32 (n : Int)] := N2.far (p := ⟨bm, 2, none⟩) (show w.heap.size ≠ bm by omega) _
    have G3 : Blk (w2.setCell ⟨bm, 2, none⟩ v3) g 56 (((dk.toList.take (rl.length - 1)).map encU) ++ sp).toArray := hblk.far (p := ⟨bm, 2, none⟩) hgbm _
    obtain ⟨w4, hrun, hown, hturn⟩ := O3.drew.drop law32 Tryz.underlying55 (key32 hn) 0
    have hG := hturn.grown
    have hsz : (w2.setCell ⟨bm, 2, none⟩ v3).heap.size = w2.heap.size := by simp [World.setCell]
    have M4 : Blk w4 bm 59 #[mv, .int .u32 made, v3, .int .i64 fail] := (hG.block bm M3.lt (by simpa using hbm)).trans M3
    have N4 : Blk w4 w.heap.size 56 #[.int .u32 (n : Int)] := (hG.block w.heap.size N3.lt (by simp; omega)).trans N3
    have G4 : Blk w4 g 56 (((dk.toList.take (rl.length - 1)).map encU) ++ sp).toArray := (hG.block g G3.lt (by simpa using hgm)).trans G3
    have K4 : Keeps (fun x => x = b ∨ x = bm ∨ rv.ownBlock = some x) w w4 := by
      have K3 : Keeps (fun x => x = b ∨ x = bm ∨ rv.ownBlock = some x) w (w2.setCell ⟨bm, 2, none⟩ v3) := Keeps.setCell (p := ⟨bm, 2, none⟩) (K1.mono (fun x e => .inr (.inr (by rw [hrv, e]; rfl)))) (.inl (.inr (.inl rfl))) _
      exact K3.drew.grown hG (fun k e => .inl (.inl (by simpa using e.symm)))
    have hlen : (rl.eraseIdx idx).length = rl.length - 1 := List.length_eraseIdx_of_lt hidx
    refine ⟨by rw [hv3, List.size_toArray], M2.cell 2, M2.frozen 2, w4, fun ty => hrun, by rw [← hmv]; exact M3.cell 0, N3.cell 0, by rw [← hmv]; exact M4.cell 0, N4.cell 0, rl.eraseIdx idx, v3, h.freedRet hmv K4 M4 hown (hmo.del n) ?_ ?_ (fun x => by rw [erase_mem h.retN hidx, hat]) (h.retN.sublist (List.eraseIdx_sublist _ _))⟩
    · rw [moved_erase hidx hmvd] at G4
      refine ⟨by simp, .inr ⟨g, cap, _, by rw [hlen]; exact hv3, Nat.zero_le _, G4, by omega, hcm, ?_, ?_⟩⟩
      · simp [hlen, hspl]; omega
      · simp
    · intro g' hg'
      rw [hv3] at hg'
      rw [hrv]
      exact hg'
  have c2 : w.cell? ⟨bm, 2, none⟩ = some rv := h.mem.cell 2
  rw [hrv] at c2 hfin
  have HF := Lib.hid hfin
  have HC := Lib.hid hdel
  generalize FreeRet w S bm made fail (upd st n none) mv = post at HF ⊢
  clear h hs hret ho hmo hrow hdel hfin hgb htake hcur hat hidx hnrl
  obtain ⟨l, hl⟩ : ∃ l, l = rl.length := ⟨_, rfl⟩
  rw [← hl] at c2 HF HC hcap hrl
  clear hl
  generalize r.blk = rb at c d3 hrbl
  generalize addr n 0 = a at *
  have hne : bm ≠ w.heap.size := by omega
  have hne2 : rb ≠ w.heap.size := by omega
  go_enter Tryz.func129, Tryz.ntmps129
  go_wp2_with (first
    | (go_at_call 138; refine c.mono ?_; rintro e w' ⟨rfl, rfl⟩)
    | (go_at_call 139; refine cs.mono ?_; rintro e w' ⟨rfl, rfl⟩)
    | (go_at_call 148; refine HC.out.mono ?_; rintro e w2 hpost; obtain ⟨rfl, C2, F2, w4, hrun, E0, E6, E0', E6', hpo⟩ := HF.out e w2 hpost; have HPO := Lib.hid hpo; have HRUN := Lib.hid hrun; clear hpost hpo hrun))
  have hrun := HRUN.out
  generalize hw3 : w2.setCell ⟨bm, 2, none⟩ (.slice (some ⟨g, 0, none⟩) (l - 1) cap) = w3 at *
  go_region_held3 (fun w' => w'.cell? ⟨bm, 0, none⟩ = some (.map (some b)) ∧ w'.cell? ⟨w.heap.size, 0, none⟩ = some (.int .u32 (n : Int)))
    (first | go_keep | exact ⟨E0', E6'⟩ | exact ⟨E0, E6⟩)
    (fail)
  go_wp2
  go_ret
  exact ⟨rfl, HPO.out⟩
end
end Go.Proofs.YtbikofedppgblaaGreat
namespace Go.Proofs.YtbikofedppgblaaGreat
open Go Go.RowKit Go.Maps
set_option linter.unusedVariables false
theorem sorted_lt {d : Array Nat} {n : Nat} (hn : d.size = n) (h : Sort.SortedIn ltN 0 n d) (hd : d.toList.Nodup) : d.toList.Pairwise (· < ·) := by
  rw [List.pairwise_iff_getElem]
  intro i j hi hj hij
  have hi' : i < d.size := by simpa using hi
  have hj' : j < d.size := by simpa using hj
  have h1 := h i j (Nat.zero_le _) hij (by omega)
  rw [getElem!_pos d i hi', getElem!_pos d j hj'] at h1
  have h2 : ¬ d[j] < d[i] := by simpa [ltN] using h1
  have h3 : d[i] ≠ d[j] := fun e => by
    have := nodup_idx hd hi hj (by simpa using e)
    omega
  simp only [Array.getElem_toList]
  omega
def SortRow (w2 : World) (B : Nat) (v : Value) (ss : List Nat) (e : Ending) (w' : World) : Prop :=
  e = .returned (.tuple #[]) ∧ ∃ ss' : List Nat, ss'.Perm ss ∧ (ss.Nodup → ss'.Pairwise (· < ·)) ∧ w'.ownsRow B 56 1 v ss'.length (ss'.map encU) ∧ Keeps (fun b => v.ownBlock = some b) w2 w'
section
variable {w : World} {S : Nat → Prop} {bm made fail : Nat} {st : Nat → Option RG} {rl : List Nat} {mv rv : Value}
/-- Just these numbers are live, and they rise. -/
def LiveAsc (st : Nat → Option RG) (ss : List Nat) : Prop := ss.Pairwise (· < ·) ∧ ∀ n : Nat, n ∈ ss ↔ (st n).isSome = true
def SortedPost (w : World) (st : Nat → Option RG) (e : Ending) (w' : World) : Prop :=
  ∃ (v : Value) (ss : List Nat), e = .returned v ∧ LiveAsc st ss ∧ w'.ownsRow w.heap.size 56 1 v ss.length (ss.map encU) ∧ Below w.heap.size w w'
end
end Go.Proofs.YtbikofedppgblaaGreat
namespace Go.Proofs.YtbikofedppgblaaGreat
open Go Go.RowKit Go.Maps
set_option linter.unusedVariables false

theorem addr_1_0 : addr 1 0 = 4294967296 := rfl
theorem addr_1_4 : addr 1 4 = 4294967300 := rfl
theorem addr_1_5 : addr 1 5 = 4294967301 := rfl
theorem addr_0_0 : addr 0 0 = 0 := rfl
end Go.Proofs.YtbikofedppgblaaGreat
namespace Go.Proofs.YtbikofedppgblaaGreat
open Go Go.RowKit Go.Maps
set_option linter.unusedVariables false
theorem conv_blk {w : World} {g cap : Nat} {ys : List UInt8} (h : Blk w g 5 (ys.map byteV).toArray) :
    (convert 67 9 (.slice (some ⟨g, 0, none⟩) ys.length cap)).run Tryz.prog w = .ok (.string (bstr ys)) w := by
  have := Lib.run_convert_whole (P := Tryz.prog) w 67 5 9 Tryz.underlying67 Tryz.underlying5 Tryz.underlying9 g 0 (bstr ys) (fun i hi => by
    have hi' : i < ys.length := by rw [← bstr_size]; exact hi
    have := h.cell (0 + i)
    rw [List.getElem?_toArray, List.getElem?_map, Nat.zero_add, List.getElem?_eq_getElem hi'] at this
    rw [Nat.zero_add]
    exact this) cap
  rw [bstr_size] at this
  exact this
theorem own_form {w : World} {base : Nat} {e : TypeId} {v : Value} {n : Nat} {xs : List Value} (h : w.ownsRow base e 1 v n xs) :
    ∃ A c, v = .slice A n c ∧ (0 < n → ∃ g, A = some ⟨g, 0, none⟩ ∧ ∀ j u, xs[j]? = some u → w.cell? ⟨g, j, none⟩ = some u) := by
  have hl := h.1
  rcases h.2 with ⟨rfl, rfl⟩ | ⟨g, cap, cur, rfl, hb, hg, h1, h2, h3, h4⟩
  · exact ⟨none, 0, rfl, fun h => by omega⟩
  · refine ⟨_, cap, rfl, fun _ => ⟨g, rfl, fun j u hu => ?_⟩⟩
    have := h.cells (g := g) rfl j u hu
    rwa [show (⟨g, 0, none⟩ : Addr).add j = ⟨g, j, none⟩ by unfold Addr.add; split <;> simp_all] at this
theorem addr_ne {m n : Nat} (h : m ≠ n) : (addr m 0 == addr n 0) = false := by simp [addr]; omega
theorem alloc_int {w : World} {S : Nat → Prop} {bm made fail : Nat} {st : Nat → Option RG} {rl : List Nat} {mv rv : Value} (h : KM w S bm made fail st rl mv rv) (hf : fail ≠ 1) (hmade : made < 4095) (size : Int) (perm : Nat) (h1 : 1 ≤ size) (h2 : size ≤ 1048576) (h3 : 1 ≤ perm) (h4 : perm ≤ 3) :
    Calls Tryz.prog 70 #[.pointer (some ⟨bm, 0, none⟩), .int .i64 size, .int .i64 perm] w fun e w' => e = .returned (.tuple #[.int .u64 (addr (made + 1) 0), .int .i64 0]) ∧ AllocPost w S bm made fail st rl rv size.toNat perm w' := by
  obtain ⟨k, rfl⟩ := Int.eq_ofNat_of_zero_le (show 0 ≤ size by omega)
  exact alloc_ok h hf hmade k perm (by omega) (by omega) h3 h4
end Go.Proofs.YtbikofedppgblaaGreat
