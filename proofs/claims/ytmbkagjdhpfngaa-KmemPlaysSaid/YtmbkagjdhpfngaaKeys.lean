/-
  maps.Keys over the memory's map, its iterator, slices.Collect and slices.AppendSeq: the keys come once each, in some order, as a new slice.
-/
import Derived.Test.YtmbkagjdhpfngaaKf
import Derived.RangeFuncFrom
import Derived.RangeFuncBox
import Derived.RangeFuncNested
import Derived.RangeFuncBound
import Derived.RangeFuncCalls
import Derived.RangeFuncLeaves
import Derived.Shelf.Abstract
import Derived.Shelf.RegionOpen
import Derived.OwnWalkIn
import Derived.TacticsInMore
import Derived.LoopNIn
import Derived.LoopIn
import Derived.Maps.AppendAt
import Derived.Maps.RangeWalk
import Derived.Sort.MapsRangeIn
import Derived.Laws.IdiomRangeMap
import Derived.CallsIn
namespace Go.Proofs.Ytmbkagjdhpfngaa
open Go Go.RowKit Go.Maps Go.Shelf
set_option linter.unusedVariables false
attribute [local go_sem] Oper.semAt_some

abbrev encU (n : Nat) : Value := .int .u32 (n : Int)
/-- These are the map's keys, each once. -/
def KeysOf (D : DataW Value) (ss : List Nat) : Prop := ss.Nodup ∧ ∀ n : Nat, n ∈ ss ↔ Maps.has D (.int .u32 (n : Int)) = true
theorem key32_inv {key : Value} {kl : Lit} (h : keyOf Try.prog 39 key = some kl) : ∃ n : Nat, key = encU n ∧ kl = .int .u32 (n : Int) ∧ n ≤ 4294967295 := by
  obtain ⟨x, rfl, rfl, hw⟩ := Maps.keyOf_int_inv Try.underlying39 h
  have : 0 ≤ x ∧ x ≤ 4294967295 := by simp [Lit.wf, IntKind.min, IntKind.max, IntKind.bits, IntKind.signed] at hw; omega
  obtain ⟨n, rfl⟩ := Int.eq_ofNat_of_zero_le this.1
  exact ⟨n, rfl, rfl, by omega⟩
theorem encU_inj {m n : Nat} (h : encU m = encU n) : m = n := by
  unfold encU at h
  injection h with _ h
  omega

set_option maxRecDepth 100000 in
set_option maxHeartbeats 2000000 in
/-- The iterator of maps.Keys at a map that is there. -/
theorem keys_stops (Bm b nn N : Nat) (D : DataW Value) (w : World) (hBm : Bm < w.heap.size) (hm : w.cell? ⟨Bm, 0, none⟩ = some (.map (some b))) (hown : w.ownsMap Try.prog 39 heldV b nn D) (hN : nn ≤ N) :
    SeqStopsK Fence.wide 1 Try.prog 47 #[.pointer (some ⟨Bm, 0, none⟩)] (fun n : Nat => #[encU n]) KeepsWalks (KeysOf D) (fun _ => True) N w := by
  intro l J Jx W hW hJ hJx hY h0
  have hm' : W.cell? ⟨Bm, 0, none⟩ = some (.map (some b)) := (hW.cell (p := ⟨Bm, 0, none⟩) hBm).trans hm
  have hown' : W.ownsMap Try.prog 39 heldV b nn D := ownsMap_block hown (hW.block b hown.lt)
  have hsz := hown'.size_le
  have hro : Fence.wide.round = none := rfl
  change CallsIn _ _ _ _ #[.func (.yield l) #[] #[], .pointer (some ⟨Bm, 0, none⟩)] W _
  refine callsIn_of_wp Try.func47 rfl trivial ?_ hro
  simp only [Try.ntmps47, List.size_toArray, List.length_cons, List.length_nil, Nat.reduceAdd, Nat.reduceSub, Array.replicate_succ, Array.replicate_zero, List.push_toArray, List.append_toArray, List.nil_append, List.cons_append]
  gi_wp2_with (first
    | (gi_at_range; refine wpListIn_range_own _ rfl _ 38 rfl 39 72 law32 Try.underlying38 _ b nn _ rfl hown' ?_; intro w0 hrg0 hg0 hs0)
    | gi_in)
  try go_frame
  gi_loopw [3] (fun _ wr => ∃ (left : Lit → Bool) (cnt : Nat) (ss : List Nat), wr.ranges Try.prog 39 heldV b W.heap.size nn D left cnt ∧ ss.length + cnt ≤ nn ∧ (ss.Nodup ∧ (∀ n : Nat, n ∈ ss ↔ Maps.has D (.int .u32 (n : Int)) = true ∧ left (.int .u32 (n : Int)) = false) ∧ ∀ kl, left kl = true → Maps.has D kl = true) ∧ J ss wr)
    (fun _ wr => wr.rangeLeft b W.heap.size)
  case atStart =>
    exact ⟨_, _, [], hrg0, by simpa using hsz, ⟨List.nodup_nil, fun n => by cases hh : Maps.has D (.int .u32 (n : Int)) <;> simp, fun kl h => h⟩, hJ [] W w0 none h0 hg0 (fun r e => by cases e)⟩
  case round =>
    obtain ⟨left, cnt, ss, hrg, hcs, ⟨hnd, hmem, hlf⟩, hJs⟩ := hrel
    gi_wp2_with (first
      | (gi_at_next; refine wpListIn_next_ranges _ rfl _ rfl 39 law32 heldV encU id (fun key kl hk => by obtain ⟨x, hx, _⟩ := key32_inv hk; exact ⟨x, hx⟩) (fun v _ _ => ⟨v, rfl⟩) b W.heap.size nn _ _ _ rfl hrg ?_ ?_)
      | gi_in)
    · intro hc0 hl0
      gi_wp2
      go_end0
      exact ⟨⟨_, rfl⟩, .inl ⟨ss, ⟨hnd, fun n => by rw [hmem n]; simp [hl0]⟩, hJs⟩⟩
    · intro x c kl yd yp w2 cnt2 hkey hlk hv hat hrg2 hlt hg2 hs2 hen
      obtain ⟨x', ex, rfl, _⟩ := key32_inv hkey
      obtain rfl : x = x' := encU_inj ex
      have hJ2 : J ss w2 := hJ ss wr w2 (some W.heap.size) hJs hg2 (fun r e => by cases e; exact ⟨Nat.le_refl _, hrg.iter_walk⟩)
      obtain ⟨fn, tmps, assign, body, hy, hR⟩ := hY ss x w2 hJ2 (by omega)
      clear hs2
      have hh : Maps.has D (.int .u32 (x : Int)) = true := hlf _ hlk
      have HS : Hid ((ss ++ [x]).Nodup ∧ (∀ n : Nat, n ∈ ss ++ [x] ↔ Maps.has D (.int .u32 (n : Int)) = true ∧ (left (.int .u32 (n : Int)) && !(Lit.int .u32 (n : Int)).sameKey (.int .u32 (x : Int))) = false) ∧ ∀ kl, (left kl && !kl.sameKey (.int .u32 (x : Int))) = true → Maps.has D kl = true) := by
        refine ⟨?_, fun n => ?_, fun kl h => hlf kl (by simp at h; exact h.1)⟩
        · rw [List.nodup_append]
          refine ⟨hnd, by simp, fun p hp q hq => ?_⟩
          simp at hq
          subst hq
          rintro rfl
          have := ((hmem p).1 hp).2
          rw [this] at hlk; cases hlk
        · rw [List.mem_append, hmem n]
          by_cases e : n = x
          · subst e; simp [hh, WideAt.sameKey_self (isKey32 n)]
          · have := sameKey_ne (lit32_ne e); simp [e, this]
      have hMem := Lib.hid hmem; have hLf := Lib.hid hlf; have hNd := Lib.hid hnd; have hHh := Lib.hid hh
      clear hmem hlf hnd hh
      gi_wp2
      refine hR.mono ?_
      rintro e W3 (⟨rfl, hJ3, hk3⟩ | ⟨rfl, hJ3⟩)
      · gi_wp2
        have hrg3 := hrg2.of_walks hk3
        go_roundw
        case rel => exact ⟨_, cnt2, ss ++ [x], hrg3, by simp; omega, HS.out, hJ3⟩
        case measure => rw [hrg3.left_eq, hrg.left_eq]; exact hlt
      · gi_wp2
        exact bodyPost_ret (results_none rfl _ _ _) rfl ⟨⟨_, rfl⟩, .inr ⟨_, trivial, hJ3⟩⟩
set_option maxRecDepth 100000 in
set_option maxHeartbeats 2000000 in
/-- .. and at a nil map. -/
theorem keys_stops_nil (Bm N : Nat) (w : World) (hBm : Bm < w.heap.size) (hm : w.cell? ⟨Bm, 0, none⟩ = some (.map none)) :
    SeqStopsK Fence.wide 1 Try.prog 47 #[.pointer (some ⟨Bm, 0, none⟩)] (fun n : Nat => #[encU n]) KeepsWalks (fun ss => ss = []) (fun _ => True) N w := by
  intro l J Jx W hW hJ hJx hY h0
  have hm' : W.cell? ⟨Bm, 0, none⟩ = some (.map none) := (hW.cell (p := ⟨Bm, 0, none⟩) hBm).trans hm
  have hro : Fence.wide.round = none := rfl
  change CallsIn _ _ _ _ #[.func (.yield l) #[] #[], .pointer (some ⟨Bm, 0, none⟩)] W _
  refine callsIn_of_wp Try.func47 rfl trivial ?_ hro
  simp only [Try.ntmps47, List.size_toArray, List.length_cons, List.length_nil, Nat.reduceAdd, Nat.reduceSub, Array.replicate_succ, Array.replicate_zero, List.push_toArray, List.append_toArray, List.nil_append, List.cons_append]
  have hrg := run_range_nilMap (P := Try.prog) W 38 39 72 Try.underlying38
  have hnx : ∀ ty, (Instr.next (.pointer (some ⟨W.heap.size, 0, none⟩)) false ty).run Try.prog (W.alloc (.mapIter none 0 #[] 0)) = _ := fun ty => run_next_nilMap _ ty 0 0 #[]
  gi_wp2
  refine wpIn_loop_rounds 1 ?_
  rw [roundsIn_succ]
  gi_wp2
  go_end0
  exact ⟨⟨_, rfl⟩, .inl ⟨[], rfl, hJ [] W _ none h0 (World.grownBy_alloc W _ none) (fun r e => by cases e)⟩⟩

theorem keys_any (m : Option Nat) (w : World) :
    Calls Try.prog 31 #[.map m] w fun e w' => e = .returned (.func (.func 47) #[] #[.pointer (some ⟨w.heap.size, 0, none⟩)]) ∧ w' = w.alloc (.cells #[.map m] 38) := by
  go_enter Try.func31, Try.ntmps31
  go_wp2
  go_ret
  exact ⟨rfl, rfl⟩

theorem info32 : (Try.prog.info? 39).map (fun i => (i.zero, i.size, i.bytes)) = some (some (.int .u32 0), 1, 4) := by kernel_rfl
/-- A new slice of what came, nil just where nothing came. -/
def NewRow (w : World) (S : List Nat → Prop) (e : Ending) (w' : World) : Prop :=
  ∃ (v : Value) (ss : List Nat), e = .returned v ∧ S ss ∧ w'.ownsRow w.heap.size 39 1 v ss.length (ss.map encU) ∧ (v = .slice none 0 0 ↔ ss = []) ∧ Below w.heap.size w w'
set_option maxRecDepth 100000 in
set_option maxHeartbeats 2000000 in
theorem appendSeq_any (g : Nat) (lb : Array Value) (eg : ∀ args w, (callFunc g args).run Try.prog w = .ok (.enter g args) w) (S : List Nat → Prop) (N : Nat) (hN : N ≤ 4096) (w : World)
    (hseq : SeqStopsK Fence.wide 1 Try.prog g lb (fun n : Nat => #[encU n]) KeepsWalks S (fun _ => True) N w) :
    Calls Try.prog 51 #[.slice none 0 0, .func (.func g) #[] lb] w (NewRow w S) := by
  refine (callsIn_wide (n := 2)).1 ?_
  have hro : Fence.wide.round = none := rfl
  obtain ⟨i0, hi, hz0, hz1, hz2⟩ := info_parts info32
  refine callsIn_of_wp_marks Try.func51 rfl trivial ?_ hro
  simp only [Try.ntmps51, List.size_toArray, List.length_cons, List.length_nil, Nat.reduceAdd, Nat.reduceSub, Array.replicate_succ, Array.replicate_zero, List.push_toArray, List.append_toArray, List.nil_append, List.cons_append]
  gi_wp2
  have hb0 := Boxed.new w 40 (.slice none 0 0)
  refine wpIn_rangeFunc_ownF hro (by omega) (gf := g) (lb := lb) rfl trivial eg hseq walksK_t walksK_b ((Below.refl _ w).alloc (Nat.le_refl _) _) (fun _ => rfl)
    (fun pre W => (∃ v, Boxed W w.heap.size 40 v ∧ W.ownsRow w.heap.size 39 1 v pre.length (pre.map encU) ∧ (v = .slice none 0 0 ↔ pre = [])) ∧ Below w.heap.size w W)
    (fun _ _ _ => False)
    (OwnFrom.and (Own.from (holdsRow_own w.heap.size w.heap.size 40 39 1 (fun pre : List Nat => pre.length) (fun pre => pre.map encU) (fun pre v => v = .slice none 0 0 ↔ pre = [])) _) (ownFrom_below (Nat.le_refl _) (by simp)))
    (fun _ _ _ _ _ hs _ _ => hs.elim)
    ⟨⟨_, hb0, World.ownsRow_nil _ _ _ _, by simp⟩, (Below.refl _ w).alloc (Nat.le_refl _) _⟩
    (fun x => { tmps := #[.slice none 0 0, .func (.func g) #[] lb, .pointer (some ⟨w.heap.size, 0, none⟩), undef, .slice none 0 0, encU x, .func (.func g) #[] lb, encU x, undef, undef, undef, undef, undef], defers := [] }) ?assign ?body ?done ?stop
  case assign =>
    intro l x W K hK
    gi_wp2
    exact hK
  case body =>
    rintro l pre x W ⟨⟨v, hv, hrow, hnil⟩, hB⟩ hlt
    have hc := hv.cell
    have hf := hv.frozen
    have hle : w.heap.size ≤ W.heap.size := hB.size
    gi_wp2_with (gi_at_builtin; refine wpListIn_append_own _ rfl _ _ 40 rfl w.heap.size 39 i0 (.int .u32 0) 1 4 Try.underlying40 hi hz0 hz1 hz2 rfl (by decide) _ _ _ rfl (hrow.alloc _) ⟨W.heap.size, 0, none⟩ 1 1 [encU x] rfl rfl (cell_one_new _ _ _) (by simp [Value.oneCell', encU]) (by unfold maxLen; omega) (by omega) (by simp; omega) ?_; intro v' w1 hown' hgrow _; obtain ⟨g', cap', rfl⟩ := ownsRow_succ hown'; obtain ⟨hv1, hv2, hr2, hk2, hb2⟩ := hv.appended (by decide) hrow hle (Nat.le_refl _) hown' hgrow; have hc1 := hv1.cell; have hf1 := hv1.frozen)
    exact ⟨hk2, hk2.walks, ⟨_, hv2, by simpa using hr2, by simp⟩, hB.trans hb2⟩
  case done =>
    rintro D ss W hD hS ⟨⟨v, hv, hrow, hnil⟩, hB⟩ hK
    have hc := hv.cell
    gi_wp2
    refine ⟨by simp, .inl ⟨_, _, rfl, run_takeDeferred hK, ?_⟩⟩
    exact ⟨_, results_tmp rfl _ _ _, v, ss, rfl, hS, ownsRow_putObj hrow _ hK rfl, hnil, hB.trans (belowK_b (w := w) (Nat.le_refl _) W D _ _ (by simp at hD; omega) hK rfl rfl)⟩
  case stop =>
    rintro D c pre W _ _ h _
    exact h.elim
theorem collect_any (g : Nat) (lb : Array Value) (eg : ∀ args w, (callFunc g args).run Try.prog w = .ok (.enter g args) w) (S : List Nat → Prop) (N : Nat) (hN : N ≤ 4096) (w : World)
    (hseq : SeqStopsK Fence.wide 1 Try.prog g lb (fun n : Nat => #[encU n]) KeepsWalks S (fun _ => True) N w) :
    Calls Try.prog 46 #[.func (.func g) #[] lb] w (NewRow w S) := by
  have c := appendSeq_any g lb eg S N hN w hseq
  clear hseq eg
  unfold NewRow at c
  go_enter Try.func46, Try.ntmps46
  go_wp2_with (go_at_call 51; refine c.mono ?_; rintro e w' ⟨v, ss, rfl, h1, h2, h3, h4⟩; have H := Lib.hid (And.intro h1 (And.intro h2 (And.intro h3 h4))); clear h1 h2 h3 h4)
  go_ret
  exact ⟨v, ss, rfl, H.out.1, H.out.2.1, H.out.2.2.1, H.out.2.2.2⟩
end Go.Proofs.Ytmbkagjdhpfngaa
