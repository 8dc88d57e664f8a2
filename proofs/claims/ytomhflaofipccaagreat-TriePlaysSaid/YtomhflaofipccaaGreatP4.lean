/-
  maps.Keys over the memory's map, its iterator, slices.Collect and slices.AppendSeq: the keys come once each, in some order, as a new slice. math/bits.Len off the library's shelf, at this translation. slices.Sort of nothing; slices.Sorted and Regions where no region is live. The library's sort of a []uint32: the row that it turns ('SRow'), and insertionSortOrdered.
-/
import Derived.Test.YtomhflaofipccaaGreatP3
import Derived.RangeFuncFrom
import Derived.RangeFuncBox
import Derived.RangeFuncNested
import Derived.RangeFuncBound
import Derived.RangeFuncCalls
import Derived.RangeFuncLeaves
import Derived.Shelf.Abstract
import Derived.Shelf.RegionOpen
import Derived.OwnWalkIn
import Derived.TacticsInMore
import Derived.LoopNIn
import Derived.LoopIn
import Derived.Maps.AppendAt
import Derived.Maps.RangeWalk
import Derived.Sort.MapsRangeIn
import Derived.Laws.IdiomRangeMap
import Derived.CallsIn
import Derived.Shelf.Small.Bits
import Derived.Shelf.Strconv.Itoa0
import Derived.Test.YtomhflaofipccaaGreatRows
import Derived.Sort.Defs
import Derived.WalkSmall
import Derived.Deep.QuietTactic
import Derived.BigQuiet
import Derived.BigRegion
import Derived.RegionTactic
import Derived.LoopTactic
import Derived.ChangeAlike
namespace Go.Proofs.YtomhflaofipccaaGreat
open Go Go.RowKit Go.Maps Go.Shelf
set_option linter.unusedVariables false
attribute [local go_sem] Oper.semAt_some

abbrev encU (n : Nat) : Value := .int .u32 (n : Int)
/-- These are the map's keys, each once. -/
def KeysOf (D : DataW Value) (ss : List Nat) : Prop := ss.Nodup ∧ ∀ n : Nat, n ∈ ss ↔ Maps.has D (.int .u32 (n : Int)) = true
theorem key32_inv {key : Value} {kl : Lit} (h : keyOf Tryz.prog 63 key = some kl) : ∃ n : Nat, key = encU n ∧ kl = .int .u32 (n : Int) ∧ n ≤ 4294967295 := by
  obtain ⟨x, rfl, rfl, hw⟩ := Maps.keyOf_int_inv Tryz.underlying63 h
  have : 0 ≤ x ∧ x ≤ 4294967295 := by simp [Lit.wf, IntKind.min, IntKind.max, IntKind.bits, IntKind.signed] at hw; omega
  obtain ⟨n, rfl⟩ := Int.eq_ofNat_of_zero_le this.1
  exact ⟨n, rfl, rfl, by omega⟩
theorem encU_inj {m n : Nat} (h : encU m = encU n) : m = n := by
  unfold encU at h
  injection h with _ h
  omega

set_option maxRecDepth 100000 in
set_option maxHeartbeats 2000000 in
/-- The iterator of maps.Keys at a map that is there. -/
theorem keys_stops (Bm b nn N : Nat) (D : DataW Value) (w : World) (hBm : Bm < w.heap.size) (hm : w.cell? ⟨Bm, 0, none⟩ = some (.map (some b))) (hown : w.ownsMap Tryz.prog 63 heldV b nn D) (hN : nn ≤ N) :
    SeqStopsK Fence.wide 1 Tryz.prog 76 #[.pointer (some ⟨Bm, 0, none⟩)] (fun n : Nat => #[encU n]) KeepsWalks (KeysOf D) (fun _ => True) N w := by
  intro l J Jx W hW hJ hJx hY h0
  have hm' : W.cell? ⟨Bm, 0, none⟩ = some (.map (some b)) := (hW.cell (p := ⟨Bm, 0, none⟩) hBm).trans hm
  have hown' : W.ownsMap Tryz.prog 63 heldV b nn D := ownsMap_block hown (hW.block b hown.lt)
  have hsz := hown'.size_le
  have hro : Fence.wide.round = none := rfl
  change CallsIn _ _ _ _ #[.func (.yield l) #[] #[], .pointer (some ⟨Bm, 0, none⟩)] W _
  refine callsIn_of_wp Tryz.func76 rfl trivial ?_ hro
  simp only [Tryz.ntmps76, List.size_toArray, List.length_cons, List.length_nil, Nat.reduceAdd, Nat.reduceSub, Array.replicate_succ, Array.replicate_zero, List.push_toArray, List.append_toArray, List.nil_append, List.cons_append]
  gi_wp2_with (first
    | (gi_at_range; refine wpListIn_range_own _ rfl _ 62 rfl 63 109 law32 Tryz.underlying62 _ b nn _ rfl hown' ?_; intro w0 hrg0 hg0 hs0)
    | gi_in)
  try go_frame
  gi_loopw [3] (fun _ wr => ∃ (left : Lit → Bool) (cnt : Nat) (ss : List Nat), wr.ranges Tryz.prog 63 heldV b W.heap.size nn D left cnt ∧ ss.length + cnt ≤ nn ∧ (ss.Nodup ∧ (∀ n : Nat, n ∈ ss ↔ Maps.has D (.int .u32 (n : Int)) = true ∧ left (.int .u32 (n : Int)) = false) ∧ ∀ kl, left kl = true → Maps.has D kl = true) ∧ J ss wr)
    (fun _ wr => wr.rangeLeft b W.heap.size)
  case atStart =>
    exact ⟨_, _, [], hrg0, by simpa using hsz, ⟨List.nodup_nil, fun n => by cases hh : Maps.has D (.int .u32 (n : Int)) <;> simp, fun kl h => h⟩, hJ [] W w0 none h0 hg0 (fun r e => by cases e)⟩
  case round =>
    obtain ⟨left, cnt, ss, hrg, hcs, ⟨hnd, hmem, hlf⟩, hJs⟩ := hrel
    gi_wp2_with (first
      | (gi_at_next; refine wpListIn_next_ranges _ rfl _ rfl 63 law32 heldV encU id (fun key kl hk => by obtain ⟨x, hx, _⟩ := key32_inv hk; exact ⟨x, hx⟩) (fun v _ _ => ⟨v, rfl⟩) b W.heap.size nn _ _ _ rfl hrg ?_ ?_)
      | gi_in)
    · intro hc0 hl0
      gi_wp2
      go_end0
      exact ⟨⟨_, rfl⟩, .inl ⟨ss, ⟨hnd, fun n => by rw [hmem n]; simp [hl0]⟩, hJs⟩⟩
    · intro x c kl yd yp w2 cnt2 hkey hlk hv hat hrg2 hlt hg2 hs2 hen
      obtain ⟨x', ex, rfl, _⟩ := key32_inv hkey
      obtain rfl : x = x' := encU_inj ex
      have hJ2 : J ss w2 := hJ ss wr w2 (some W.heap.size) hJs hg2 (fun r e => by cases e; exact ⟨Nat.le_refl _, hrg.iter_walk⟩)
      obtain ⟨fn, tmps, assign, body, hy, hR⟩ := hY ss x w2 hJ2 (by omega)
      clear hs2
      have hh : Maps.has D (.int .u32 (x : Int)) = true := hlf _ hlk
      have HS : Hid ((ss ++ [x]).Nodup ∧ (∀ n : Nat, n ∈ ss ++ [x] ↔ Maps.has D (.int .u32 (n : Int)) = true ∧ (left (.int .u32 (n : Int)) && !(Lit.int .u32 (n : Int)).sameKey (.int .u32 (x : Int))) = false) ∧ ∀ kl, (left kl && !kl.sameKey (.int .u32 (x : Int))) = true → Maps.has D kl = true) := by
        refine ⟨?_, fun n => ?_, fun kl h => hlf kl (by simp at h; exact h.1)⟩
        · rw [List.nodup_append]
          refine ⟨hnd, by simp, fun p hp q hq => ?_⟩
          simp at hq
          subst hq
          rintro rfl
          have := ((hmem p).1 hp).2
          rw [this] at hlk; cases hlk
        · rw [List.mem_append, hmem n]
          by_cases e : n = x
          · subst e; simp [hh, WideAt.sameKey_self (isKey32 n)]
          · have := sameKey_ne (lit32_ne e); simp [e, this]
      have hMem := Lib.hid hmem; have hLf := Lib.hid hlf; have hNd := Lib.hid hnd; have hHh := Lib.hid hh
      clear hmem hlf hnd hh
      gi_wp2
      refine hR.mono ?_
      rintro e W3 (⟨rfl, hJ3, hk3⟩ | ⟨rfl, hJ3⟩)
      · gi_wp2
        have hrg3 := hrg2.of_walks hk3
        go_roundw
        case rel => exact ⟨_, cnt2, ss ++ [x], hrg3, by simp; omega, HS.out, hJ3⟩
        case measure => rw [hrg3.left_eq, hrg.left_eq]; exact hlt
      · gi_wp2
        exact bodyPost_ret (results_none rfl _ _ _) rfl ⟨⟨_, rfl⟩, .inr ⟨_, trivial, hJ3⟩⟩
set_option maxRecDepth 100000 in
set_option maxHeartbeats 2000000 in
/-- .. and at a nil map. -/
theorem keys_stops_nil (Bm N : Nat) (w : World) (hBm : Bm < w.heap.size) (hm : w.cell? ⟨Bm, 0, none⟩ = some (.map none)) :
    SeqStopsK Fence.wide 1 Tryz.prog 76 #[.pointer (some ⟨Bm, 0, none⟩)] (fun n : Nat => #[encU n]) KeepsWalks (fun ss => ss = []) (fun _ => True) N w := by
  intro l J Jx W hW hJ hJx hY h0
  have hm' : W.cell? ⟨Bm, 0, none⟩ = some (.map none) := (hW.cell (p := ⟨Bm, 0, none⟩) hBm).trans hm
  have hro : Fence.wide.round = none := rfl
  change CallsIn _ _ _ _ #[.func (.yield l) #[] #[], .pointer (some ⟨Bm, 0, none⟩)] W _
  refine callsIn_of_wp Tryz.func76 rfl trivial ?_ hro
  simp only [Tryz.ntmps76, List.size_toArray, List.length_cons, List.length_nil, Nat.reduceAdd, Nat.reduceSub, Array.replicate_succ, Array.replicate_zero, List.push_toArray, List.append_toArray, List.nil_append, List.cons_append]
  have hrg := run_range_nilMap (P := Tryz.prog) W 62 63 109 Tryz.underlying62
  have hnx : ∀ ty, (Instr.next (.pointer (some ⟨W.heap.size, 0, none⟩)) false ty).run Tryz.prog (W.alloc (.mapIter none 0 #[] 0)) = _ := fun ty => run_next_nilMap _ ty 0 0 #[]
  gi_wp2
  refine wpIn_loop_rounds 1 ?_
  rw [roundsIn_succ]
  gi_wp2
  go_end0
  exact ⟨⟨_, rfl⟩, .inl ⟨[], rfl, hJ [] W _ none h0 (World.grownBy_alloc W _ none) (fun r e => by cases e)⟩⟩

theorem keys_any (m : Option Nat) (w : World) :
    Calls Tryz.prog 51 #[.map m] w fun e w' => e = .returned (.func (.func 76) #[] #[.pointer (some ⟨w.heap.size, 0, none⟩)]) ∧ w' = w.alloc (.cells #[.map m] 62) := by
  go_enter Tryz.func51, Tryz.ntmps51
  go_wp2
  go_ret
  exact ⟨rfl, rfl⟩

theorem info32 : (Tryz.prog.info? 63).map (fun i => (i.zero, i.size, i.bytes)) = some (some (.int .u32 0), 1, 4) := by kernel_rfl
/-- A new slice of what came, nil just where nothing came. -/
def NewRow (w : World) (S : List Nat → Prop) (e : Ending) (w' : World) : Prop :=
  ∃ (v : Value) (ss : List Nat), e = .returned v ∧ S ss ∧ w'.ownsRow w.heap.size 63 1 v ss.length (ss.map encU) ∧ (v = .slice none 0 0 ↔ ss = []) ∧ Below w.heap.size w w'
set_option maxRecDepth 100000 in
set_option maxHeartbeats 2000000 in
theorem appendSeq_any (g : Nat) (lb : Array Value) (eg : ∀ args w, (callFunc g args).run Tryz.prog w = .ok (.enter g args) w) (S : List Nat → Prop) (N : Nat) (hN : N ≤ 4096) (w : World)
    (hseq : SeqStopsK Fence.wide 1 Tryz.prog g lb (fun n : Nat => #[encU n]) KeepsWalks S (fun _ => True) N w) :
    Calls Tryz.prog 97 #[.slice none 0 0, .func (.func g) #[] lb] w (NewRow w S) := by
  refine (callsIn_wide (n := 2)).1 ?_
  have hro : Fence.wide.round = none := rfl
  obtain ⟨i0, hi, hz0, hz1, hz2⟩ := info_parts info32
  refine callsIn_of_wp_marks Tryz.func97 rfl trivial ?_ hro
  simp only [Tryz.ntmps97, List.size_toArray, List.length_cons, List.length_nil, Nat.reduceAdd, Nat.reduceSub, Array.replicate_succ, Array.replicate_zero, List.push_toArray, List.append_toArray, List.nil_append, List.cons_append]
  gi_wp2
  have hb0 := Boxed.new w 64 (.slice none 0 0)
  refine wpIn_rangeFunc_ownF hro (by omega) (gf := g) (lb := lb) rfl trivial eg hseq walksK_t walksK_b ((Below.refl _ w).alloc (Nat.le_refl _) _) (fun _ => rfl)
    (fun pre W => (∃ v, Boxed W w.heap.size 64 v ∧ W.ownsRow w.heap.size 63 1 v pre.length (pre.map encU) ∧ (v = .slice none 0 0 ↔ pre = [])) ∧ Below w.heap.size w W)
    (fun _ _ _ => False)
    (OwnFrom.and (Own.from (holdsRow_own w.heap.size w.heap.size 64 63 1 (fun pre : List Nat => pre.length) (fun pre => pre.map encU) (fun pre v => v = .slice none 0 0 ↔ pre = [])) _) (ownFrom_below (Nat.le_refl _) (by simp)))
    (fun _ _ _ _ _ hs _ _ => hs.elim)
    ⟨⟨_, hb0, World.ownsRow_nil _ _ _ _, by simp⟩, (Below.refl _ w).alloc (Nat.le_refl _) _⟩
    (fun x => { tmps := #[.slice none 0 0, .func (.func g) #[] lb, .pointer (some ⟨w.heap.size, 0, none⟩), undef, .slice none 0 0, encU x, .func (.func g) #[] lb, encU x, undef, undef, undef, undef, undef], defers := [] }) ?assign ?body ?done ?stop
  case assign =>
    intro l x W K hK
    gi_wp2
    exact hK
  case body =>
    rintro l pre x W ⟨⟨v, hv, hrow, hnil⟩, hB⟩ hlt
    have hc := hv.cell
    have hf := hv.frozen
    have hle : w.heap.size ≤ W.heap.size := hB.size
    gi_wp2_with (gi_at_builtin; refine wpListIn_append_own _ rfl _ _ 64 rfl w.heap.size 63 i0 (.int .u32 0) 1 4 Tryz.underlying64 hi hz0 hz1 hz2 rfl (by decide) _ _ _ rfl (hrow.alloc _) ⟨W.heap.size, 0, none⟩ 1 1 [encU x] rfl rfl (cell_one_new _ _ _) (by simp [Value.oneCell', encU]) (by unfold maxLen; omega) (by omega) (by simp; omega) ?_; intro v' w1 hown' hgrow _; obtain ⟨g', cap', rfl⟩ := ownsRow_succ hown'; obtain ⟨hv1, hv2, hr2, hk2, hb2⟩ := hv.appended (by decide) hrow hle (Nat.le_refl _) hown' hgrow; have hc1 := hv1.cell; have hf1 := hv1.frozen)
    exact ⟨hk2, hk2.walks, ⟨_, hv2, by simpa using hr2, by simp⟩, hB.trans hb2⟩
  case done =>
    rintro D ss W hD hS ⟨⟨v, hv, hrow, hnil⟩, hB⟩ hK
    have hc := hv.cell
    gi_wp2
    refine ⟨by simp, .inl ⟨_, _, rfl, run_takeDeferred hK, ?_⟩⟩
    exact ⟨_, results_tmp rfl _ _ _, v, ss, rfl, hS, ownsRow_putObj hrow _ hK rfl, hnil, hB.trans (belowK_b (w := w) (Nat.le_refl _) W D _ _ (by simp at hD; omega) hK rfl rfl)⟩
  case stop =>
    rintro D c pre W _ _ h _
    exact h.elim
theorem collect_any (g : Nat) (lb : Array Value) (eg : ∀ args w, (callFunc g args).run Tryz.prog w = .ok (.enter g args) w) (S : List Nat → Prop) (N : Nat) (hN : N ≤ 4096) (w : World)
    (hseq : SeqStopsK Fence.wide 1 Tryz.prog g lb (fun n : Nat => #[encU n]) KeepsWalks S (fun _ => True) N w) :
    Calls Tryz.prog 75 #[.func (.func g) #[] lb] w (NewRow w S) := by
  have c := appendSeq_any g lb eg S N hN w hseq
  clear hseq eg
  unfold NewRow at c
  go_enter Tryz.func75, Tryz.ntmps75
  go_wp2_with (go_at_call 97; refine c.mono ?_; rintro e w' ⟨v, ss, rfl, h1, h2, h3, h4⟩; have H := Lib.hid (And.intro h1 (And.intro h2 (And.intro h3 h4))); clear h1 h2 h3 h4)
  go_ret
  exact ⟨v, ss, rfl, H.out.1, H.out.2.1, H.out.2.2.1, H.out.2.2.2⟩
end Go.Proofs.YtomhflaofipccaaGreat
namespace Go.Proofs.YtomhflaofipccaaGreat
open Go Go.Shelf
set_option linter.unusedVariables false

def lenRen : Go.Shelf.Ren := ⟨fun | 125 => 71 | 128 => 94 | 129 => 95 | n => n, fun | 46 => 118 | 3 => 3 | 51 => 63 | 53 => 42 | 4 => 4 | 5 => 5 | 9 => 9 | n => n, fun | n => n⟩
theorem lenLaid : Go.Proofs.Lays.n125 Tryz.prog lenRen := {
  mixed := by kernel_rfl
  f125 := Tryz.func71.trans (congrArg some (by kernel_rfl))
  f128 := Tryz.func94.trans (congrArg some (by kernel_rfl))
  f129 := Tryz.func95.trans (congrArg some (by kernel_rfl))
  t3 := Tryz.underlying3
  a3 := Tryz.isAgg3
  z3 := Tryz.sizeOf3
  v3 := Tryz.zeroValue3
  t4 := Tryz.underlying4
  a4 := Tryz.isAgg4
  z4 := Tryz.sizeOf4
  v4 := Tryz.zeroValue4
  t5 := Tryz.underlying5
  a5 := Tryz.isAgg5
  z5 := Tryz.sizeOf5
  v5 := Tryz.zeroValue5
  t9 := Tryz.underlying9
  a9 := Tryz.isAgg9
  z9 := Tryz.sizeOf9
  v9 := Tryz.zeroValue9
  t46 := Tryz.underlying118
  a46 := Tryz.isAgg118
  z46 := Tryz.sizeOf118
  v46 := Tryz.zeroValue118
  t51 := Tryz.underlying63
  a51 := Tryz.isAgg63
  z51 := Tryz.sizeOf63
  v51 := Tryz.zeroValue63
  t53 := Tryz.underlying42
  a53 := Tryz.isAgg42
  z53 := Tryz.sizeOf42
  v53 := Tryz.zeroValue42 }
/-- How many bits a number has: some number, at least 1 for a number that is not 0. -/
theorem len_any (n : Nat) (h : n ≤ 18446744073709551615) (w : World) :
    Calls Tryz.prog 71 #[.int .u64 (n : Int)] w fun e w' => e = .returned (.int .i64 (Lib.bitLen n : Nat)) ∧ w = w' :=
  (Any.bits_Len lenLaid (n : Int) w (by omega) (by omega)).mono (by rintro e w' ⟨rfl, rfl⟩; exact ⟨by simp, rfl⟩)
end Go.Proofs.YtomhflaofipccaaGreat
namespace Go.Proofs.YtomhflaofipccaaGreat
open Go Go.RowKit Go.Maps
set_option linter.unusedVariables false

theorem less_any (x y : Nat) (w : World) :
    Calls Tryz.prog 91 #[.int .u32 (x : Int), .int .u32 (y : Int)] w fun e w' => e = .returned (.bool (decide (x < y))) ∧ w = w' := by
  have c : ∀ (z : Nat) (w : World), Calls Tryz.prog 104 #[.int .u32 (z : Int)] w fun e w' => e = .returned (.bool false) ∧ w = w' := by
    intro z w
    go_enter Tryz.func104, Tryz.ntmps104
    go_wp2
    go_ret
    exact ⟨by simp, rfl⟩
  go_enter Tryz.func91, Tryz.ntmps91
  go_wp2_with (go_at_call 104; refine (c _ _).mono ?_; rintro e w' ⟨rfl, rfl⟩)
  all_goals go_ret
  all_goals exact ⟨rfl, rfl⟩
theorem ins_nil (p : Option Addr) (c : Nat) (w : World) :
    Calls Tryz.prog 85 #[.slice p 0 c, .int .i64 0, .int .i64 0] w fun e w' => e = .returned (.tuple #[]) ∧ w = w' := by
  go_enter Tryz.func85, Tryz.ntmps85
  go_wp2
  refine wp_loop_rounds 1 ?_
  rw [rounds_succ]
  go_wp2
  go_end0
  exact ⟨rfl, rfl⟩
set_option maxRecDepth 100000 in
theorem pdq_nil (p : Option Addr) (c : Nat) (l : Int) (w : World) :
    Calls Tryz.prog 70 #[.slice p 0 c, .int .i64 0, .int .i64 0, .int .i64 l] w fun e w' => e = .returned (.tuple #[]) ∧ w = w' := by
  go_enter Tryz.func70, Tryz.ntmps70
  go_wp2
  refine wp_loop_rounds 1 ?_
  rw [rounds_succ]
  go_wp2_with (go_at_call 85; refine (ins_nil _ _ _).mono ?_; rintro e w' ⟨rfl, rfl⟩)
  exact bodyPost_ret (results_none rfl _ _ _) rfl ⟨rfl, rfl⟩
theorem sort_nil (p : Option Addr) (c : Nat) (w : World) :
    Calls Tryz.prog 44 #[.slice p 0 c] w fun e w' => e = .returned (.tuple #[]) ∧ w = w' := by
  have cl := fun w => len_any 0 (by omega) w
  generalize Lib.bitLen 0 = k at cl
  go_enter Tryz.func44, Tryz.ntmps44
  go_wp2_with (first
    | (go_at_call 71; refine (cl _).mono ?_; rintro e w' ⟨rfl, rfl⟩)
    | (go_at_call 70; refine (pdq_nil _ _ _ _).mono ?_; rintro e w' ⟨rfl, rfl⟩))
  go_end0
  exact ⟨rfl, rfl⟩
section
variable {w : World} {S : Nat → Prop} {bm made fail : Nat} {st : Nat → Option RG} {rl : List Nat} {mv rv : Value}
/-- What maps.Keys and slices.Collect give over the memory's map: the live regions' numbers, in some order. -/
def LiveIn (st : Nat → Option RG) (ss : List Nat) : Prop := ss.Nodup ∧ ∀ n : Nat, n ∈ ss ↔ (st n).isSome = true
theorem keys_collect (h : KM w S bm made fail st rl mv rv) (m : Option Nat) (hmv : mv = .map m) :
    Calls Tryz.prog 75 #[.func (.func 76) #[] #[.pointer (some ⟨w.heap.size, 0, none⟩)]] (w.alloc (.cells #[.map m] 62))
      (NewRow (w.alloc (.cells #[.map m] 62)) (LiveIn st)) := by
  subst hmv
  have hb := Boxed.new w 62 (.map m)
  have hle := h.made_le
  rcases m with _ | b
  · refine (collect_any _ _ (enters_of Tryz.func76 (by kernel_rfl) rfl) (fun ss => ss = []) 4096 (by omega) _ (keys_stops_nil w.heap.size 4096 _ (by simp) hb.cell)).mono ?_
    rintro e w' ⟨v, ss, rfl, rfl, h3, h4, h5⟩
    rcases h.map with ⟨_, h0⟩ | ⟨_, _, e, _⟩
    · exact ⟨v, [], rfl, ⟨List.nodup_nil, fun n => by simp [h0 n]⟩, h3, h4, h5⟩
    · cases e
  · obtain ⟨hS, D, ho, hm⟩ := h.own rfl
    refine (collect_any _ _ (enters_of Tryz.func76 (by kernel_rfl) rfl) (KeysOf D) 4096 (by omega) _ (keys_stops w.heap.size b made 4096 D _ (by simp) hb.cell (ho.alloc _) hle)).mono ?_
    rintro e w' ⟨v, ss, rfl, hK, h3, h4, h5⟩
    exact ⟨v, ss, rfl, ⟨hK.1, fun n => by rw [hK.2 n, hm.has_ n]⟩, h3, h4, h5⟩
theorem sorted_none (w : World) (g : Nat) (a : Addr) (st : Nat → Option RG) (h0 : ∀ n, st n = none) (w : World)
    (c : Calls Tryz.prog 75 #[.func (.func g) #[] #[.pointer (some a)]] w (NewRow w (LiveIn st))) :
    Calls Tryz.prog 50 #[.func (.func g) #[] #[.pointer (some a)]] w fun e w' => e = .returned (.slice none 0 0) ∧ Below w.heap.size w w' := by
  have c' : Calls Tryz.prog 75 #[.func (.func g) #[] #[.pointer (some a)]] w fun e w' => e = .returned (.slice none 0 0) ∧ Below w.heap.size w w' := by
    refine c.mono ?_
    rintro e w' ⟨v, ss, rfl, h2, h3, h4, h5⟩
    have : ss = [] := by
      rcases ss with _ | ⟨x, r⟩
      · rfl
      · have := (h2.2 x).1 (by simp); rw [h0 x] at this; cases this
    exact ⟨by rw [h4.2 this], h5⟩
  clear c
  go_enter Tryz.func50, Tryz.ntmps50
  go_wp2_with (first
    | (go_at_call 75; refine c'.mono ?_; rintro e w' ⟨rfl, hb⟩; have HB := Lib.hid hb; clear hb)
    | (go_at_call 44; refine (sort_nil _ _ _).mono ?_; rintro e w' ⟨rfl, rfl⟩))
  go_ret
  exact ⟨rfl, HB.out⟩
theorem regions_none (h : KM w S bm made fail st rl mv rv) (h0 : ∀ n, st n = none) :
    Calls Tryz.prog 23 #[.pointer (some ⟨bm, 0, none⟩)] w fun e w' => e = .returned (.slice none 0 0) ∧ Below w.heap.size w w' := by
  obtain ⟨m, hmv⟩ : ∃ m, mv = .map m := by
    rcases h.map with ⟨e, _⟩ | ⟨b, _, e, _⟩
    · exact ⟨_, e⟩
    · exact ⟨_, e⟩
  have ck := keys_any m w
  have cs := sorted_none w _ _ st h0 _ (keys_collect h m hmv)
  have c0 : w.cell? ⟨bm, 0, none⟩ = some mv := h.mem.cell 0
  subst hmv
  clear h h0
  go_enter Tryz.func23, Tryz.ntmps23
  go_wp2_with (first
    | (go_at_call 51; refine ck.mono ?_; rintro e w' ⟨rfl, rfl⟩)
    | (go_at_call 50; refine cs.mono ?_; rintro e w' ⟨rfl, hb⟩; have HB := Lib.hid hb; clear hb))
  refine wp_loop_rounds 1 ?_
  rw [rounds_succ]
  go_wp2
  go_ret
  exact ⟨rfl, ((Below.refl _ w).alloc (Nat.le_refl _) _).trans (HB.out.mono (by simp))⟩
end
end Go.Proofs.YtomhflaofipccaaGreat
namespace Go.Proofs.YtomhflaofipccaaGreat
open Go Go.RowKit Go.Maps
set_option linter.unusedVariables false

def ltN (x y : Nat) : Bool := decide (x < y)
theorem quiet_left {P : Program} {f : FuncId} {args : Array Value} {w : World} {n : Nat} {v : Value}
    (h : Calls P f args (w.drewN n) fun e w' => e = .returned v ∧ w.drewN n = w') : Calls P f args (w.drewN n) fun e w'' => e = .returned v ∧ ∃ m, w'' = w.drewN m :=
  h.mono fun _ _ ⟨he, hm⟩ => ⟨he, n, hm.symm⟩
theorem Keeps.drewN {S : Nat → Prop} {a w : World} (h : Keeps S a w) (n : Nat) : Keeps S a (w.drewN n) := ⟨h.os, h.tape, h.output, h.size, h.block⟩
/-- From w0 on block g alone has turned: it holds d, and behind it what it held there. -/
structure SRow (w0 w : World) (g : Nat) (sp : List Value) (d : Array Nat) : Prop where
  keep : Keeps (fun b => b = g) w0 w
  row : Blk w g 63 ((d.toList.map encU) ++ sp).toArray
section
variable {w0 w : World} {g : Nat} {sp : List Value} {d : Array Nat}
theorem SRow.cell (h : SRow w0 w g sp d) {i : Nat} (hi : i < d.size) : w.cell? ⟨g, i, none⟩ = some (.int .u32 (d[i]! : Int)) := by
  rw [h.row.cell, List.getElem?_toArray, List.getElem?_append_left (by simpa using hi), List.getElem?_map]
  simp [hi]
theorem SRow.frozen (h : SRow w0 w g sp d) (i : Nat) : w.frozen? ⟨g, i, none⟩ = false := h.row.frozen i
theorem SRow.drewN (h : SRow w0 w g sp d) (n : Nat) : SRow w0 (w.drewN n) g sp d := ⟨h.keep.drewN n, h.row⟩
theorem SRow.drew (h : SRow w0 w g sp d) : SRow w0 w.drew g sp d := ⟨h.keep.drew, h.row⟩
theorem SRow.set_ (h : SRow w0 w g sp d) {i : Nat} (hi : i < d.size) (x : Nat) : SRow w0 (w.setCell ⟨g, i, none⟩ (.int .u32 (x : Int))) g sp (d.setIfInBounds i x) := by
  refine ⟨h.keep.setCell (p := ⟨g, i, none⟩) (.inl rfl) _, ?_⟩
  have := h.row.set_ i (.int .u32 (x : Int))
  have e : (((d.toList.map encU) ++ sp).toArray.setIfInBounds i (.int .u32 (x : Int))) = (((d.setIfInBounds i x).toList.map encU) ++ sp).toArray := by
    rw [List.setIfInBounds_toArray, List.set_append_left _ _ (by simpa using hi)]
    simp [List.map_set, encU]
  rw [e] at this
  exact this
theorem SRow.swp (h : SRow w0 w g sp d) {i j : Nat} (hi : i < d.size) (hj : j < d.size) :
    SRow w0 ((w.setCell ⟨g, i, none⟩ (.int .u32 (d[j]! : Int))).setCell ⟨g, j, none⟩ (.int .u32 (d[i]! : Int))) g sp (Sort.swp d i j) :=
  (h.set_ hi _).set_ (by simpa using hj) _
theorem size_swp (d : Array Nat) (i j : Nat) : (Sort.swp d i j).size = d.size := by simp [Sort.swp]
end
/-- What a function of the sort leaves: the row holds d'. -/
def SPost (w0 : World) (g : Nat) (sp : List Value) (d' : Array Nat) (e : Ending) (w' : World) : Prop := e = .returned (.tuple #[]) ∧ SRow w0 w' g sp d'
theorem insInner_step (a j : Nat) (d : Array Nat) (h1 : a < j) (h2 : d[j]! < d[j - 1]!) : Sort.insInner ltN a j d = Sort.insInner ltN a (j - 1) (Sort.swp d j (j - 1)) := by
  obtain ⟨i, rfl⟩ : ∃ i, j = i + 1 := ⟨j - 1, by omega⟩
  rw [Sort.insInner, if_pos]
  · rfl
  · have h2' : d[i + 1]! < d[i]! := h2
    rw [Bool.and_eq_true]
    exact ⟨by simpa using h1, decide_eq_true h2'⟩
theorem insInner_stop (a j : Nat) (d : Array Nat) (h : j = 0 ∨ j ≤ a ∨ ¬ d[j]! < d[j - 1]!) : Sort.insInner ltN a j d = d := by
  rcases j with _ | j
  · rfl
  · rw [Sort.insInner, if_neg]
    rcases h with h | h | h
    · omega
    · rw [Bool.and_eq_true]; rintro ⟨h1, _⟩; simp at h1; omega
    · rw [Bool.and_eq_true]; rintro ⟨_, h2⟩; exact h (of_decide_eq_true h2)
theorem size_insInner (a : Nat) : ∀ (j : Nat) (d : Array Nat), (Sort.insInner ltN a j d).size = d.size
  | 0, d => rfl
  | j + 1, d => by
    rw [Sort.insInner]
    split
    · rw [size_insInner a j, size_swp]
    · rfl
set_option maxRecDepth 100000 in
set_option maxHeartbeats 2000000 in
theorem insSort_any (w0 w : World) (g : Nat) (sp : List Value) (d : Array Nat) (cap a b : Nat) (hb : b ≤ d.size) (hs : d.size ≤ cap) (hc : d.size ≤ 1048576) (ha : a ≤ b) (h : SRow w0 w g sp d) :
    Calls Tryz.prog 85 #[.slice (some ⟨g, 0, none⟩) d.size cap, .int .i64 (a : Int), .int .i64 (b : Int)] w (SPost w0 g sp (Sort.insertionSort ltN d a b)) := by
  obtain ⟨T, hT⟩ : ∃ T, T = Sort.insertionSort ltN d a b := ⟨_, rfl⟩
  rw [← hT]
  unfold Sort.insertionSort at hT
  obtain ⟨n, hn⟩ : ∃ n, n = d.size := ⟨_, rfl⟩
  rw [← hn] at hb hs hc ⊢
  have HT := Lib.hid hT; clear hT
  have HN := Lib.hid hn; clear hn
  have H0 := Lib.hid h; clear h
  go_enter Tryz.func85, Tryz.ntmps85
  go_wp2
  go_loopw [6] (fun i wr => ∃ (k : Nat) (d : Array Nat), a + 1 ≤ k ∧ k ≤ b + 1 ∧ i = .int .i64 k ∧ SRow w0 wr g sp d ∧ d.size = n ∧ Sort.insOuter ltN a b k d = T) (fun i _ => b + 1 - (intOf i).toNat)
  case atStart => exact ⟨a + 1, d, by omega, by omega, by go_num, H0.out, HN.out.symm, HT.out.symm⟩
  case round =>
    obtain ⟨k, d, hk1, hk2, rfl, hr, hdn, hT⟩ := hrel
    have HR := Lib.hid hr; clear hr
    have HD := Lib.hid hdn; clear hdn
    have HT2 := Lib.hid hT; clear hT
    by_cases hkb : k < b
    · go_wp2
      have e0 := HT2.out
      rw [Sort.insOuter, if_pos hkb] at e0
      have HE := Lib.hid e0; clear e0
      obtain ⟨T', hT'⟩ : ∃ T', T' = Sort.insInner ltN a k d := ⟨_, rfl⟩
      have HT' := Lib.hid hT'; clear hT'
      obtain ⟨wo, hwo⟩ : ∃ wo : World, wo = wr := ⟨_, rfl⟩
      have HWO := Lib.hid hwo; clear hwo
      go_loopw [7] (fun i wr => ∃ (j : Nat) (d : Array Nat), a ≤ j ∧ j ≤ k ∧ i = .int .i64 j ∧ SRow w0 wr g sp d ∧ d.size = n ∧ Sort.insInner ltN a j d = T') (fun i _ => (intOf i).toNat)
      case atStart => exact ⟨k, d, by omega, by omega, rfl, HR.out, HD.out, HT'.out.symm⟩
      case round =>
        obtain ⟨j, d, hj1, hj2, rfl, hr, hdn, hT⟩ := hrel
        have HR := Lib.hid hr; clear hr
        have HD := Lib.hid hdn; clear hdn
        have HT3 := Lib.hid hT; clear hT
        by_cases hja : a < j
        · have hd1 : j < d.size := by rw [HD.out]; omega
          have c1 := HR.out.cell hd1
          have c0 := HR.out.cell (show j - 1 < d.size by omega)
          have f1 := HR.out.frozen j
          have f0 := HR.out.frozen (j - 1)
          have g1 : decide (a < j) = true := by simp; omega
          have i1 : (0 : Int) ≤ (j : Int) - 1 := by omega
          have i2 : (j : Int) < (n : Int) := by omega
          have i3 : (j : Int) - 1 < (n : Int) := by omega
          obtain ⟨x, hx⟩ : ∃ x, d[j]! = x := ⟨_, rfl⟩
          obtain ⟨y, hy⟩ : ∃ y, d[j - 1]! = y := ⟨_, rfl⟩
          rw [hx] at c1
          rw [hy] at c0
          have HX := Lib.hid hx; clear hx
          have HY := Lib.hid hy; clear hy
          by_cases hlt : x < y
          · have hl : decide (x < y) = true := by simpa using hlt
            have CL := Lib.hid (fun w => less_any x y w)
            have e1 : IntKind.i64.wrap ((j : Int) - 1) = (j : Int) - 1 := IntWalk.i64_in _ (by omega)
            have e2 : ((j : Int) - 1).toNat = j - 1 := by omega
            go_wp2
            go_quiet ((go_at_call 91; exact quiet_left (CL.out _)))
            clear e1 e2
            go_wp2
            have HR2 := Lib.hid (HR.out.drewN nq)
            have d1 : (wr.drewN nq).cell? ⟨g, j, none⟩ = some (.int .u32 (x : Int)) := c1
            have d0 : (wr.drewN nq).cell? ⟨g, j - 1, none⟩ = some (.int .u32 (y : Int)) := c0
            have h1 : (wr.drewN nq).frozen? ⟨g, j, none⟩ = false := f1
            have h0 : (wr.drewN nq).frozen? ⟨g, j - 1, none⟩ = false := f0
            clear c1 c0 f1 f0
            generalize wr.drewN nq = wq at HR2 d1 d0 h1 h0 ⊢
            go_region
            go_wp2
            go_roundw
            case rel =>
              refine ⟨j - 1, Sort.swp d j (j - 1), by omega, by omega, by go_num, ?_, by rw [size_swp]; exact HD.out, ?_⟩
              · have := HR2.out.swp hd1 (show j - 1 < d.size by omega)
                rw [HX.out, HY.out] at this
                exact this.drew
              · rw [← insInner_step a j d hja (by rw [HX.out, HY.out]; exact hlt)]
                exact HT3.out
            case measure => simp [intOf]; omega
          · have hl : decide (x < y) = false := by simpa using hlt
            have CL := Lib.hid (fun w => less_any x y w)
            have e1 : IntKind.i64.wrap ((j : Int) - 1) = (j : Int) - 1 := IntWalk.i64_in _ (by omega)
            have e2 : ((j : Int) - 1).toNat = j - 1 := by omega
            have HF := Lib.hid ((insInner_stop a j d (.inr (.inr (by rw [HX.out, HY.out]; exact hlt)))).symm.trans HT3.out)
            go_wp2
            go_quiet ((go_at_call 91; exact quiet_left (CL.out _)))
            clear e1 e2
            go_wp2
            go_roundw
            case rel => exact ⟨k + 1, d, by omega, by omega, by go_num, HR.out.drewN _, HD.out, by rw [HF.out, HT'.out]; exact HE.out⟩
            case measure => simp [intOf]; omega
        · have g1 : decide (a < j) = false := by simp; omega
          have HF := Lib.hid ((insInner_stop a j d (.inr (.inl (by omega)))).symm.trans HT3.out)
          go_wp2
          go_quiet (fail)
          go_wp2
          go_roundw
          case rel => exact ⟨k + 1, d, by omega, by omega, by go_num, HR.out.drewN _, HD.out, by rw [HF.out, HT'.out]; exact HE.out⟩
          case measure => simp [intOf]; omega
    · have e0 := HT2.out
      rw [Sort.insOuter, if_neg hkb] at e0
      have HE := Lib.hid e0; clear e0
      go_wp2
      go_end0
      exact ⟨rfl, by rw [← HE.out]; exact HR.out⟩
end Go.Proofs.YtomhflaofipccaaGreat
