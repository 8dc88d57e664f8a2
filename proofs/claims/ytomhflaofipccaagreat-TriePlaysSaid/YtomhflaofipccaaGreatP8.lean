/-
  The reference's Regions. Both memories side by side, deed by deed: each deed has one answer, and leads both to the same plain state. Package flat: a map's regions, plainly: the numbers a + 1 to b, their bytes; what each call on either memory does to them. Both memories, call by call, each with its plain effect on any plain memory: what tables that make, retire and free regions want. kmem's Regions, which leaves the memory standing. Same of two lists of regions that hold the same.
-/
import Derived.Test.YtomhflaofipccaaGreatRmAlloc
import Derived.Test.YtomhflaofipccaaGreatP6
import Derived.Test.YtomhflaofipccaaGreatRegions
import Derived.Deep.RegionHeld3
import Derived.Deep.QuietTactic
import Derived.BigQuiet
namespace Go.Proofs.YtomhflaofipccaaGreat
open Go Go.RowKit Go.Maps
set_option linter.unusedVariables false
/-- The live ones up to number k, rising. -/
def lives (vs : Nat → Option RV) (k : Nat) : List Nat := ((List.range k).map (· + 1)).filter fun n => (vs n).isSome
theorem lives_yes {vs : Nat → Option RV} {k : Nat} (h : (vs (k + 1)).isSome = true) : lives vs (k + 1) = lives vs k ++ [k + 1] := by
  unfold lives; rw [List.range_succ, List.map_append, List.filter_append]; simp [h]
theorem lives_no {vs : Nat → Option RV} {k : Nat} (h : (vs (k + 1)).isSome = false) : lives vs (k + 1) = lives vs k := by
  unfold lives; rw [List.range_succ, List.map_append, List.filter_append]; simp [h]
theorem cellsR_app (vs : Nat → Option RV) (ss : List Nat) (n : Nat) : cellsR vs (ss ++ [n]) = cellsR vs ss ++ regC n ((vs n).getD (0, [], false)) := by simp [cellsR]
theorem lives_len (vs : Nat → Option RV) (k : Nat) : (lives vs k).length ≤ k := Nat.le_trans (List.length_filter_le _ _) (by simp)
theorem Below.kept {w w' : World} (h : Below w.heap.size w w') : Keeps (fun _ => False) w w' := ⟨h.os, h.tape, h.output, h.size, fun k hk _ => h.block k hk⟩
section
variable {w w1 w2 : World} {T : Nat → Prop} {bx made fail : Nat} {vs : Nat → Option RV} {rb gb : Nat → Nat} {lv : Value}
def XRgPost (w : World) (vs : Nat → Option RV) (made : Nat) (e : Ending) (w' : World) : Prop :=
  ∃ l, e = .returned l ∧ Below w.heap.size w w' ∧ w'.ownsRow w.heap.size 104 3 l (lives vs made).length (cellsR vs (lives vs made))
set_option maxRecDepth 100000 in
set_option maxHeartbeats 4000000 in
theorem xregions_any (h : RM w T bx made fail vs rb gb lv) :
    Calls Tryz.prog 24 #[.pointer (some ⟨bx, 0, none⟩)] w (XRgPost w vs made) := by
  obtain ⟨A, cv, hlv, _⟩ := h.row_form
  subst hlv
  have hmd := h.made_le
  have H := Lib.hid h
  clear h
  go_enter Tryz.func24, Tryz.ntmps24
  go_wp2_with fail
  go_loopw [3, 4] (fun l i wr => ∃ k : Nat, k ≤ made ∧ i = .int .i64 k ∧ Below w.heap.size w wr ∧ wr.ownsRow w.heap.size 104 3 l (lives vs k).length (cellsR vs (lives vs k))) (fun _ i _ => made - (intOf i).toNat)
  case atStart => exact ⟨0, by omega, rfl, Below.refl _ _, World.ownsRow_nil _ _ _ _⟩
  case round =>
    obtain ⟨k, hk, rfl, hb, ho⟩ := hrel
    have hr : RM wr T bx made fail vs rb gb (.slice A made cv) := H.out.keeps (Below.kept hb) (fun _ _ h => h)
    have c0 : wr.cell? ⟨bx, 0, none⟩ = some (.slice A made cv) := hr.head.cell 0
    have HB := Lib.hid hb
    have HO := Lib.hid ho
    clear hb ho
    by_cases hkm : k < made
    · obtain ⟨A', cv', e, hc⟩ := hr.row_form
      cases e
      obtain ⟨g, rfl, cn⟩ := hc (k + 1) (by omega) (by omega)
      rw [Nat.add_sub_cancel] at cn
      clear hc
      have g1 : decide (k < made) = true := by simpa using hkm
      have i2 : (k : Int) < (made : Int) := by omega
      rcases hs : vs (k + 1) with _ | q
      · obtain ⟨p, ret, hd⟩ := hr.dead (k + 1) (by omega) (by omega) hs
        have d0 : wr.cell? ⟨rb (k + 1), 0, none⟩ = some (.slice none 0 0) := hd.cell 0
        have HL := Lib.hid (lives_no (vs := vs) (k := k) (by rw [hs]; rfl))
        clear hd hr hs
        generalize rb (k + 1) = r at cn d0
        have hq1 := fun (w : World) => Go.run_neq_slice_nil (P := Tryz.prog) w 97 5 none 0 0 Tryz.underlying97
        simp only [Option.isNone_none, Bool.not_true] at hq1
        go_wp2_with fail
        go_roundw
        case rel => exact ⟨k + 1, by omega, by go_num, HB.out, by rw [HL.out]; exact HO.out⟩
        case measure => simp [intOf]; omega
      · have hR := hr.live (k + 1) q hs
        have d0 : wr.cell? ⟨rb (k + 1), 0, none⟩ = some (.slice (some ⟨gb (k + 1), 0, none⟩) q.2.1.length q.2.1.length) := hR.cell 0
        have d1 : wr.cell? ⟨rb (k + 1), 1, none⟩ = some (.int .i64 q.1) := hR.cell 1
        have HL := Lib.hid (lives_yes (vs := vs) (k := k) (by rw [hs]; rfl))
        have hcv := conv_blk (w := wr.drew) (cap := q.2.1.length) (hr.bytes (k + 1) q hs)
        obtain ⟨i0, hi0, hz0, hz1, hz2⟩ := info_parts infoR
        have hlen := lives_len vs k
        have hsz := HB.out.size
        obtain ⟨l', w4, hrun, a2, a3, _, _⟩ := run_append_own_at (P := Tryz.prog) (wr.drew.alloc (.cells #[.int .i64 ((k : Int) + 1), .int .i64 q.1, .string (bstr q.2.1)] 104)) w.heap.size 58 0 104 i0 _ 3 32 Tryz.underlying58 hi0 hz0 hz1 hz2 rfl (by decide) u3 _ _ ((ownsRow_drew HO.out).alloc _) ⟨wr.heap.size, 0, none⟩ 1 1
          (regC (k + 1) q) rfl (fun j u hj => by
            have hbk := (Blk.new wr.drew 104 #[.int .i64 ((k : Int) + 1), .int .i64 q.1, .string (bstr q.2.1)]).cell j
            have e : wr.drew.heap.size = wr.heap.size := rfl
            rw [e] at hbk
            rw [show (⟨wr.heap.size, 0, none⟩ : Addr).add j = ⟨wr.heap.size, j, none⟩ by unfold Addr.add; split <;> simp_all]
            rw [hbk]
            simpa [regC] using hj) (by intro u hu; simp [regC] at hu; rcases hu with rfl | rfl | rfl <;> rfl) (by unfold maxLen; omega) (by omega) (by have e : wr.drew.heap.size = wr.heap.size := rfl; simp; omega)
        have hb4 : Below w.heap.size w w4 := ((HB.out.drew).alloc hsz _).grown a3 (by have e : wr.drew.heap.size = wr.heap.size := rfl; simp; omega) (fun k e => (HO.out.lt k e).1)
        have HR4 := Lib.hid (show Below w.heap.size w w4 ∧ w4.ownsRow w.heap.size 104 3 l' (lives vs (k + 1)).length (cellsR vs (lives vs (k + 1))) from ⟨hb4, by
          rw [HL.out, cellsR_app, hs, List.length_append]; exact a2⟩)
        have hrun' : ∀ ty, (Builtin.append_ #[58, 58] ty #[u3, .slice (some ⟨wr.heap.size, 0, none⟩) 1 1]).run Tryz.prog (wr.alloc (.cells #[.int .i64 ((k : Int) + 1), .int .i64 q.1, .string (bstr q.2.1)] 104)).drew = .ok l' w4 := fun ty => hrun
        have HRUN := Lib.hid hrun'
        have hcv' : (convert 97 9 (.slice (some ⟨gb (k + 1), 0, none⟩) q.2.1.length q.2.1.length)).run Tryz.prog wr.drew = .ok (.string (bstr q.2.1)) wr.drew := hcv
        have hS : ∀ W : World, Below w.heap.size w W → (W.cell? ⟨bx, 0, none⟩ = some (.slice (some ⟨g, 0, none⟩) made cv) ∧ W.cell? ⟨g, k, none⟩ = some (.pointer (some ⟨rb (k + 1), 0, none⟩)) ∧ W.cell? ⟨rb (k + 1), 0, none⟩ = some (.slice (some ⟨gb (k + 1), 0, none⟩) q.2.1.length q.2.1.length) ∧ W.cell? ⟨rb (k + 1), 1, none⟩ = some (.int .i64 q.1) ∧
            (convert 97 9 (.slice (some ⟨gb (k + 1), 0, none⟩) q.2.1.length q.2.1.length)).run Tryz.prog W = .ok (.string (bstr q.2.1)) W) := by
          intro W hW
          have hr' := H.out.keeps (Below.kept hW) (fun _ _ h => h)
          obtain ⟨A', cv', e, hc'⟩ := hr'.row_form
          cases e
          obtain ⟨g', e', cn'⟩ := hc' (k + 1) (by omega) (by omega)
          cases e'
          rw [Nat.add_sub_cancel] at cn'
          have hR' := hr'.live (k + 1) q hs
          exact ⟨hr'.head.cell 0, cn', hR'.cell 0, hR'.cell 1, conv_blk (hr'.bytes (k + 1) q hs)⟩
        have S1 := Lib.hid (hS _ HB.out.drew)
        have S2 := Lib.hid (hS _ ((HB.out.alloc hsz (.cells #[.int .i64 ((k : Int) + 1), .int .i64 q.1, .string (bstr q.2.1)] 104)).drew))
        have S3 := Lib.hid (hS _ hb4)
        clear hS
        clear hR hr hs a2 a3 hb4 hrun hrun' hcv HL hi0 hz0 hz1 hz2
        have hq0 := fun (w : World) => Go.run_neq_slice_nil (P := Tryz.prog) w 97 5 (some ⟨gb (k + 1), 0, none⟩) q.2.1.length q.2.1.length Tryz.underlying97
        simp only [Option.isNone_some, Bool.not_false] at hq0
        have ew : IntKind.i64.wrap ((k : Int) + 1) = (k : Int) + 1 := IntWalk.i64_in _ (by omega)
        obtain ⟨qp, qb, qr⟩ := q
        simp only at *
        generalize rb (k + 1) = r at *
        generalize gb (k + 1) = gg at *
        generalize bstr qb = sq at *
        generalize qb.length = ln at *
        go_wp2_with fail
        go_region_held3 (fun W => W.cell? ⟨bx, 0, none⟩ = some (.slice (some ⟨g, 0, none⟩) made cv) ∧ W.cell? ⟨g, k, none⟩ = some (.pointer (some ⟨r, 0, none⟩)) ∧ W.cell? ⟨r, 0, none⟩ = some (.slice (some ⟨gg, 0, none⟩) ln ln) ∧ W.cell? ⟨r, 1, none⟩ = some (.int .i64 qp) ∧ (convert 97 9 (.slice (some ⟨gg, 0, none⟩) ln ln)).run Tryz.prog W = .ok (.string sq) W)
          (first | exact S1.out | exact S2.out | exact S3.out)
          (first | (refine step_append_run rfl (.tmp 25) (.tmp 50) 58 rfl _ _ l' w4 rfl rfl HRUN.out ?_) | fail)
        all_goals go_wp2_with fail
        all_goals go_roundw
        all_goals first
          | (simp [intOf]; omega)
          | exact ⟨k + 1, by omega, by go_num, HR4.out.1, HR4.out.2⟩
    · have : k = made := by omega
      subst this
      clear hr
      have g1 : decide (k < k) = false := by simp
      go_wp2_with fail
      go_ret
      exact ⟨_, rfl, HB.out, HO.out⟩
end
end Go.Proofs.YtomhflaofipccaaGreat
namespace Go.Proofs.YtomhflaofipccaaGreat
open Go Go.RowKit Go.Maps
set_option linter.unusedVariables false
theorem RM.wide {w : World} {T U : Nat → Prop} {bx made fail : Nat} {vs : Nat → Option RV} {rb gb : Nat → Nat} {lv : Value} (h : RM w T bx made fail vs rb gb lv) (hT : ∀ b, T b → U b) (hl : ∀ b, U b → b < w.heap.size) : RM w U bx made fail vs rb gb lv :=
  { h with tbx := hT _ h.tbx, trb := fun n h1 h2 => hT _ (h.trb n h1 h2), tgb := fun n q hq => hT _ (h.tgb n q hq), tlv := fun g hg => hT _ (h.tlv g hg), lt := hl }
/-- What a memory holds, plainly. -/
structure PS where
  made : Nat
  fail : Nat
  vs : Nat → Option RV
def KSide (w : World) (S : Nat → Prop) (bm : Nat) (m : PS) : Prop := ∃ st rl mv rv, KM w S bm m.made m.fail st rl mv rv ∧ ∀ n, (st n).map RG.v = m.vs n
def XSide (w : World) (T : Nat → Prop) (bx : Nat) (m : PS) : Prop := ∃ rb gb lv, RM w T bx m.made m.fail m.vs rb gb lv
/-- From plain state m the call answers e0 and leads to m'. -/
def KCall (f : FuncId) (args : Array Value) (bm : Nat) (m m' : PS) (e0 : Ending) : Prop := ∀ w S, KSide w S bm m → Calls Tryz.prog f args w fun e w' => e = e0 ∧ KSide w' (more S w w') bm m' ∧ Keeps S w w'
def XCall (f : FuncId) (args : Array Value) (bx : Nat) (m m' : PS) (e0 : Ending) : Prop := ∀ w T, XSide w T bx m → Calls Tryz.prog f args w fun e w' => e = e0 ∧ XSide w' (more T w w') bx m' ∧ Keeps T w w'
section
variable {f g : FuncId} {args : Array Value} {bm bx : Nat} {m m' : PS} {e0 : Ending}
theorem KCall.same (h : ∀ w S st rl mv rv, KM w S bm m.made m.fail st rl mv rv → (∀ n, (st n).map RG.v = m.vs n) → Calls Tryz.prog f args w fun e w' => e = e0 ∧ w = w') : KCall f args bm m m e0 := by
  rintro w S ⟨st, rl, mv, rv, hk, hv⟩
  refine (h w S st rl mv rv hk hv).mono ?_
  rintro e w' ⟨rfl, rfl⟩
  exact ⟨rfl, ⟨st, rl, mv, rv, hk.same, hv⟩, Keeps.refl _ _⟩
theorem XCall.same (h : ∀ w T rb gb lv, RM w T bx m.made m.fail m.vs rb gb lv → Calls Tryz.prog f args w fun e w' => e = e0 ∧ w = w') : XCall f args bx m m e0 := by
  rintro w T ⟨rb, gb, lv, hk⟩
  refine (h w T rb gb lv hk).mono ?_
  rintro e w' ⟨rfl, rfl⟩
  exact ⟨rfl, ⟨rb, gb, lv, hk.wide (fun b hb => .inl hb) (fun b hb => hk.lt b ((more_self T w b).1 hb))⟩, Keeps.refl _ _⟩
theorem XCall.step (h : ∀ w T rb gb lv, RM w T bx m.made m.fail m.vs rb gb lv → Calls Tryz.prog f args w fun e w' => e = e0 ∧ RM w' T bx m'.made m'.fail m'.vs rb gb lv ∧ Keeps T w w') : XCall f args bx m m' e0 := by
  rintro w T ⟨rb, gb, lv, hk⟩
  refine (h w T rb gb lv hk).mono ?_
  rintro e w' ⟨rfl, hk', kk⟩
  refine ⟨rfl, ⟨rb, gb, lv, hk'.wide (fun b hb => .inl hb) ?_⟩, kk⟩
  rintro b (h1 | ⟨_, h1⟩)
  · exact hk'.lt b h1
  · exact h1
theorem upd_v {st : Nat → Option RG} {vs : Nat → Option RV} (h : ∀ n, (st n).map RG.v = vs n) (n : Nat) (r : Option RG) {q : Option RV} (hq : r.map RG.v = q) : ∀ k, (upd st n r k).map RG.v = updv vs n q k := by
  intro k
  unfold upd updv
  split
  · exact hq
  · exact h k
theorem updv_id {vs : Nat → Option RV} {n : Nat} {q : Option RV} (h : vs n = q) : updv vs n q = vs := by
  funext k
  unfold updv
  split
  · rename_i e; subst e; exact h.symm
  · rfl
theorem st_none {st : Nat → Option RG} {vs : Nat → Option RV} (h : ∀ n, (st n).map RG.v = vs n) {n : Nat} (hn : vs n = none) : st n = none := by
  have := h n
  rw [hn] at this
  rcases hs : st n with _ | r
  · rfl
  · rw [hs] at this; cases this
theorem st_some {st : Nat → Option RG} {vs : Nat → Option RV} (h : ∀ n, (st n).map RG.v = vs n) {n : Nat} {q : RV} (hn : vs n = some q) : ∃ r, st n = some r ∧ r.v = q := by
  have := h n
  rw [hn] at this
  rcases hs : st n with _ | r
  · rw [hs] at this; cases this
  · rw [hs] at this; exact ⟨r, rfl, Option.some.inj this⟩
/-- The three ways of a number. -/
theorem ways (m : PS) (n : Nat) : (n = 0 ∨ m.made < n) ∨ (1 ≤ n ∧ n ≤ m.made ∧ m.vs n = none) ∨ ∃ q, m.vs n = some q := by
  rcases hs : m.vs n with _ | q
  · by_cases h : n = 0 ∨ m.made < n
    · exact .inl h
    · exact .inr (.inl ⟨by omega, by omega, rfl⟩)
  · exact .inr (.inr ⟨q, rfl⟩)
theorem km_out {w : World} {S : Nat → Prop} {made fail : Nat} {st : Nat → Option RG} {rl : List Nat} {mv rv : Value} (h : KM w S bm made fail st rl mv rv) {n : Nat} (hn : n = 0 ∨ made < n) : st n = none := by
  rcases hs : st n with _ | r
  · rfl
  · have := h.range n r hs; omega
/-- One answer, one number. -/
def Pair1 (f : FuncId) (ak : Array Value) (g : FuncId) (ax : Array Value) (bm bx : Nat) (m : PS) : Prop :=
  ∃ (m' : PS) (a : Int), m'.made ≤ m.made + 1 ∧ KCall f ak bm m m' (.returned (.int .i64 a)) ∧ XCall g ax bx m m' (.returned (.int .i64 a))
/-- A value and a number. -/
def Pair2 (V : Value → Prop) (f : FuncId) (ak : Array Value) (g : FuncId) (ax : Array Value) (bm bx : Nat) (m : PS) : Prop :=
  ∃ (m' : PS) (v : Value) (a : Int), V v ∧ m'.made ≤ m.made + 1 ∧ KCall f ak bm m m' (.returned (.tuple #[v, .int .i64 a])) ∧ XCall g ax bx m m' (.returned (.tuple #[v, .int .i64 a]))
def isU64 (v : Value) : Prop := ∃ x : Int, v = .int .u64 x
def isI64 (v : Value) : Prop := ∃ x : Int, v = .int .i64 x
def isStr (v : Value) : Prop := ∃ x : ByteArray, v = .string x
end
section
variable (bm bx : Nat) (m : PS)
theorem pair_fail (n : Int) : Pair1 7 #[.pointer (some ⟨bm, 0, none⟩), .int .i64 n] 8 #[.pointer (some ⟨bx, 0, none⟩), .int .i64 n] bm bx m := by
  by_cases h : n < 0 ∨ 1048576 < n
  · exact ⟨m, 1, by omega, KCall.same fun w _ _ _ _ _ _ _ => fail_arg _ n h w, XCall.same fun w _ _ _ _ _ => xfail_arg _ n h w⟩
  · obtain ⟨k, rfl⟩ := Int.eq_ofNat_of_zero_le (show 0 ≤ n by omega)
    refine ⟨{ m with fail := k }, 0, Nat.le_succ _, ?_, XCall.step fun w _ _ _ _ hr => xfail_ok hr k (by omega)⟩
    rintro w S ⟨st, rl, mv, rv, hk, hv⟩
    refine (fail_ok hk k (by omega)).mono ?_
    rintro e w' ⟨rfl, hk', kk⟩
    exact ⟨rfl, ⟨_, _, _, _, hk', hv⟩, kk⟩
theorem pair_free (a : Int) (h0 : 0 ≤ a) (h1 : a ≤ 18446744073709551615) : Pair1 48 #[.pointer (some ⟨bm, 0, none⟩), .int .u64 a] 49 #[.pointer (some ⟨bx, 0, none⟩), .int .u64 a] bm bx m := by
  obtain ⟨n, o, hn, ho, rfl⟩ := addr_of a h0 h1
  rcases Nat.eq_zero_or_pos o with rfl | hp
  · rcases ways m n with hw | ⟨hw1, hw2, hs⟩ | ⟨q, hs⟩
    · refine ⟨m, 1, by omega, KCall.same fun w S st rl mv rv hk hv => free_arg _ _ w ?_, XCall.same fun w _ _ _ _ hr => xfree_arg _ _ w (first_null hr n hn hw)⟩
      have := beginsAt_at hk n hn
      rw [km_out hk hw] at this
      exact this
    · refine ⟨m, 1, by omega, KCall.same fun w S st rl mv rv hk hv => free_arg _ _ w ?_, XCall.same fun w _ _ _ _ hr => xfree_arg _ _ w (first_dead hr n hw1 hw2 hs)⟩
      have := beginsAt_at hk n hn
      rw [st_none hv hs] at this
      exact this
    · refine ⟨{ m with vs := updv m.vs n none }, 0, Nat.le_succ _, ?_, XCall.step fun w _ _ _ _ hr => xfree_ok hr n hs⟩
      rintro w S ⟨st, rl, mv, rv, hk, hv⟩
      obtain ⟨r, hr, hq⟩ := st_some hv hs
      rcases hret : r.ret with _ | _
      · refine (free_ok hk n hr hret).mono ?_
        rintro e w' ⟨rfl, hk', kk⟩
        exact ⟨rfl, ⟨_, _, _, _, hk', upd_v hv n none rfl⟩, kk⟩
      · refine (free_ret hk n hr hret).mono ?_
        rintro e w' ⟨rfl, rl', rv', hk', kk⟩
        exact ⟨rfl, ⟨_, _, _, _, hk', upd_v hv n none rfl⟩, kk⟩
  · exact ⟨m, 1, by omega, KCall.same fun w _ _ _ _ _ _ _ => free_arg _ _ w (beginsAt_off _ n o hn ho hp w), XCall.same fun w _ _ _ _ _ => xfree_arg _ _ w (first_off _ n o hn ho hp w)⟩
theorem pair_retire (a : Int) (h0 : 0 ≤ a) (h1 : a ≤ 18446744073709551615) : Pair1 39 #[.pointer (some ⟨bm, 0, none⟩), .int .u64 a] 41 #[.pointer (some ⟨bx, 0, none⟩), .int .u64 a] bm bx m := by
  obtain ⟨n, o, hn, ho, rfl⟩ := addr_of a h0 h1
  rcases Nat.eq_zero_or_pos o with rfl | hp
  · rcases ways m n with hw | ⟨hw1, hw2, hs⟩ | ⟨q, hs⟩
    · refine ⟨m, 1, by omega, KCall.same fun w S st rl mv rv hk hv => retire_arg _ _ w ?_, XCall.same fun w _ _ _ _ hr => xretire_arg _ _ w (first_null hr n hn hw)⟩
      have := beginsAt_at hk n hn
      rw [km_out hk hw] at this
      exact this
    · refine ⟨m, 1, by omega, KCall.same fun w S st rl mv rv hk hv => retire_arg _ _ w ?_, XCall.same fun w _ _ _ _ hr => xretire_arg _ _ w (first_dead hr n hw1 hw2 hs)⟩
      have := beginsAt_at hk n hn
      rw [st_none hv hs] at this
      exact this
    · rcases hret : q.2.2 with _ | _
      · refine ⟨{ m with vs := updv m.vs n (some (q.1, q.2.1, true)) }, 0, Nat.le_succ _, ?_, XCall.step fun w _ _ _ _ hr => xretire_ok hr n hs hret⟩
        rintro w S ⟨st, rl, mv, rv, hk, hv⟩
        obtain ⟨r, hr, hq⟩ := st_some hv hs
        subst hq
        refine (retire_ok hk n hr hret).mono ?_
        rintro e w' ⟨rfl, v', hk', kk⟩
        exact ⟨rfl, ⟨_, _, _, _, hk', upd_v hv n _ rfl⟩, kk⟩
      · refine ⟨m, 1, by omega, KCall.same fun w S st rl mv rv hk hv => ?_, XCall.same fun w _ _ _ _ hr => xretire_again hr n hs hret⟩
        obtain ⟨r, hr, hq⟩ := st_some hv hs
        subst hq
        exact retire_again hk n hn hr hret
  · exact ⟨m, 1, by omega, KCall.same fun w _ _ _ _ _ _ _ => retire_arg _ _ w (beginsAt_off _ n o hn ho hp w), XCall.same fun w _ _ _ _ _ => xretire_arg _ _ w (first_off _ n o hn ho hp w)⟩
/-- What may be done, asked in two ways. -/
theorem perm_x (p d : Int) (h1 : 1 ≤ p) (h3 : p ≤ 3) (hd : d = 1 ∨ d = 2) : (bits .and .i64 p d == 0) = (bits .and .i64 p d != d) := by
  rcases (show p = 1 ∨ p = 2 ∨ p = 3 by omega) with rfl | rfl | rfl <;> rcases hd with rfl | rfl <;> decide
theorem pair_put (a : Int) (h0 : 0 ≤ a) (h1 : a ≤ 18446744073709551615) (s : ByteArray) (hm : s.size ≤ maxLen) : Pair1 33 #[.pointer (some ⟨bm, 0, none⟩), .int .u64 a, .string s] 37 #[.pointer (some ⟨bx, 0, none⟩), .int .u64 a, .string s] bm bx m := by
  by_cases hz : 1048576 < s.size
  · exact ⟨m, 1, by omega, KCall.same fun w S st rl mv rv hk hv => put_arg _ _ _ hz hm w, XCall.same fun w _ _ _ _ hr => xput_arg _ _ _ hz hm w⟩
  · obtain ⟨n, o, hn, ho, rfl⟩ := addr_of a h0 h1
    have z1 : s.size ≤ 1048576 := by omega
    rcases ways m n with hw | ⟨hw1, hw2, hs⟩ | ⟨q, hs⟩
    · exact ⟨m, 20, by omega, KCall.same fun w S st rl mv rv hk hv => put_fault _ _ 20 s z1 w (find_null hk n o hn ho s.size 0 hw), XCall.same fun w _ _ _ _ hr => xput_fault _ _ 20 s z1 rfl w (at_null hr n o hn ho s.size 0 hw)⟩
    · exact ⟨m, 21, by omega, KCall.same fun w S st rl mv rv hk hv => put_fault _ _ 21 s z1 w (find_freed hk n o hn ho s.size 0 hw1 hw2 (st_none hv hs)), XCall.same fun w _ _ _ _ hr => xput_fault _ _ 21 s z1 rfl w (at_freed hr n o ho s.size 0 hw1 hw2 hs)⟩
    · by_cases hb : o + s.size ≤ q.2.1.length
      · obtain ⟨l, rfl⟩ : ∃ l, s = bstr l := ⟨s.data.toList, by cases s; simp [bstr]⟩
        rw [bstr_size] at z1 hb
        refine ⟨{ m with vs := updv m.vs n (some (q.1, setAt q.2.1 o l, q.2.2)) }, 0, Nat.le_succ _, ?_, XCall.step fun w _ _ _ _ hr => xput_ok hr n o ho l z1 hs hb⟩
        rintro w S ⟨st, rl, mv, rv, hk, hv⟩
        obtain ⟨r, hr, rfl⟩ := st_some hv hs
        refine (put_ok hk n o hn ho l z1 hr hb).mono ?_
        rintro e w' ⟨rfl, g, hk', kk⟩
        exact ⟨rfl, ⟨_, _, _, _, hk', upd_v hv n _ rfl⟩, kk⟩
      · refine ⟨m, 22, by omega, KCall.same fun w S st rl mv rv hk hv => ?_, XCall.same fun w _ _ _ _ hr => xput_fault _ _ 22 s z1 rfl w (at_bound hr n o ho s.size z1 0 hs (.inl rfl) (by omega))⟩
        obtain ⟨r, hr, rfl⟩ := st_some hv hs
        exact put_fault _ _ 22 s z1 w (find_bound hk n o hn ho s.size z1 0 hr (hk.regs n r hr).whatever (show r.bytes.length < o + s.size by have : ¬ o + s.size ≤ r.bytes.length := hb; omega))
theorem pair_alloc (hmade : m.made < 4095) (size perm : Int) : Pair2 isU64 60 #[.pointer (some ⟨bm, 0, none⟩), .int .i64 size, .int .i64 perm] 38 #[.pointer (some ⟨bx, 0, none⟩), .int .i64 size, .int .i64 perm] bm bx m := by
  by_cases hz : 1 ≤ size ∧ size ≤ 1048576 ∧ 1 ≤ perm ∧ perm ≤ 3
  · obtain ⟨z1, z2, z3, z4⟩ := hz
    obtain ⟨k, rfl⟩ := Int.eq_ofNat_of_zero_le (show 0 ≤ size by omega)
    obtain ⟨p, rfl⟩ := Int.eq_ofNat_of_zero_le (show 0 ≤ perm by omega)
    obtain ⟨made, fail, vs⟩ := m
    simp only at hmade
    by_cases hf : fail = 1
    · subst hf
      refine ⟨⟨made, 0, vs⟩, _, 2, ⟨_, rfl⟩, Nat.le_succ _, ?_, XCall.step fun w _ _ _ _ hr => xalloc_mem hr k p z1 z2 z3 z4⟩
      rintro w S ⟨st, rl, mv, rv, hk, hv⟩
      refine (alloc_mem hk k p (by omega) (by omega) (by omega) (by omega)).mono ?_
      rintro e w' ⟨rfl, hk', kk⟩
      exact ⟨rfl, ⟨_, _, _, _, hk', hv⟩, kk⟩
    · refine ⟨⟨made + 1, fail - 1, updv vs (made + 1) (some ((p : Int), List.replicate k 0, false))⟩, .int .u64 (addr (made + 1) 0), 0, ⟨_, rfl⟩, Nat.le_refl _, ?_, ?_⟩
      · rintro w S ⟨st, rl, mv, rv, hk, hv⟩
        refine (alloc_ok hk hf hmade k p (by omega) (by omega) (by omega) (by omega)).mono ?_
        rintro e w' ⟨rfl, r, mv', hk', kk, e1, e2, e3, e4⟩
        exact ⟨rfl, ⟨_, _, _, _, hk', upd_v hv _ _ (by simp [RG.v, e1, e2, e3])⟩, kk⟩
      · rintro w T ⟨rb, gb, lv, hr⟩
        have fin : ∀ (fl : Nat) (e : Ending) (w' : World), fl = fail - 1 → (e = .returned (.tuple #[.int .u64 (addr (made + 1) 0), .int .i64 0]) ∧ XAllocPost w T bx made fl vs k (p : Int) w') →
            e = .returned (.tuple #[.int .u64 (addr (made + 1) 0), .int .i64 0]) ∧ XSide w' (more T w w') bx ⟨made + 1, fail - 1, updv vs (made + 1) (some ((p : Int), List.replicate k 0, false))⟩ ∧ Keeps T w w' := by
          rintro fl e w' rfl ⟨rfl, rb', gb', lv', hr', kk⟩
          exact ⟨rfl, ⟨rb', gb', lv', hr'⟩, kk⟩
        rcases fail with _ | _ | f
        · exact (xalloc_zero hr hmade k p (by omega) (by omega) z3 z4).mono (fun e w' h => fin 0 e w' rfl h)
        · exact absurd rfl hf
        · exact (xalloc_more hr hmade k p (by omega) (by omega) z3 z4).mono (fun e w' h => fin (f + 1) e w' rfl h)
  · exact ⟨m, _, 1, ⟨_, rfl⟩, by omega, KCall.same fun w S st rl mv rv hk hv => alloc_arg _ _ _ (by omega) w, XCall.same fun w _ _ _ _ hr => xalloc_arg _ _ _ hz w⟩
theorem pair_grace : ∃ m' : PS, m'.made ≤ m.made + 1 ∧ KCall 17 #[.pointer (some ⟨bm, 0, none⟩)] bm m m' (.returned (.tuple #[])) ∧ XCall 18 #[.pointer (some ⟨bx, 0, none⟩)] bx m m' (.returned (.tuple #[])) := by
  refine ⟨{ m with vs := gracev m.vs m.made }, Nat.le_succ _, ?_, XCall.step fun w _ _ _ _ hr => xgrace_any hr⟩
  rintro w S ⟨st, rl, mv, rv, hk, hv⟩
  refine (grace_any hk).mono ?_
  rintro e w' ⟨rfl, hk', kk⟩
  refine ⟨rfl, ⟨_, _, _, _, hk', fun n => ?_⟩, kk⟩
  have hM := hk.retM n
  simp only [gracev, dels, ← hv n]
  rcases hs : st n with _ | r
  · simp [keepv]
  · have hrg := hk.range n r hs
    rw [if_pos hrg.2]
    by_cases hn : n ∈ rl
    · obtain ⟨r', h1, h2⟩ := hM.1 hn
      rw [hs] at h1
      cases h1
      simp [hn, keepv, RG.v, h2]
    · have h2 : r.ret = false := by
        rcases h : r.ret with _ | _
        · rfl
        · exact absurd (hM.2 ⟨r, hs, h⟩) hn
      simp [hn, keepv, RG.v, h2]
end
end Go.Proofs.YtomhflaofipccaaGreat
namespace Go.Proofs.YtomhflaofipccaaGreat
open Go Go.RowKit Go.Maps
set_option linter.unusedVariables false
def rng (a b : Nat) (z : Nat → List UInt8) : Nat → Option RV := fun i => if a < i ∧ i ≤ b then some (3, z i, false) else none
def upz (z : Nat → List UInt8) (c : Nat) (l : List UInt8) : Nat → List UInt8 := fun i => if i = c then l else z i
section
variable {a b c i j : Nat} {z : Nat → List UInt8} {l : List UInt8}
theorem rng_in (h : a < i ∧ i ≤ b) : rng a b z i = some (3, z i, false) := if_pos h
theorem rng_out (h : ¬ (a < i ∧ i ≤ b)) : rng a b z i = none := if_neg h
theorem rng_nil : rng b b z = fun _ => none := by
  funext i
  exact rng_out (by omega)
theorem rng_add : updv (rng a b z) (b + 1) (some (3, z (b + 1), false)) = rng (min a b) (b + 1) z ∨ a ≠ 0 := by
  rcases Nat.eq_zero_or_pos a with rfl | h
  · left
    funext i
    unfold updv rng
    by_cases h1 : i = b + 1
    · subst h1; rw [if_pos rfl, if_pos (by omega)]
    · rw [if_neg h1]
      by_cases h2 : 0 < i ∧ i ≤ b
      · rw [if_pos h2, if_pos (by omega)]
      · rw [if_neg h2, if_neg (by omega)]
  · right; omega
theorem rng_add0 : updv (rng 0 b z) (b + 1) (some (3, z (b + 1), false)) = rng 0 (b + 1) z := by
  rcases rng_add (a := 0) (b := b) (z := z) with h | h
  · rw [h, Nat.zero_min]
  · exact absurd rfl h
theorem rng_sub (h : a < b) : updv (rng a b z) (a + 1) none = rng (a + 1) b z := by
  funext i
  unfold updv rng
  by_cases h1 : i = a + 1
  · subst h1; rw [if_pos rfl, if_neg (by omega)]
  · rw [if_neg h1]
    by_cases h2 : a < i ∧ i ≤ b
    · rw [if_pos h2, if_pos (by omega)]
    · rw [if_neg h2, if_neg (by omega)]
theorem rng_upd (h : a < c ∧ c ≤ b) : updv (rng a b z) c (some (3, l, false)) = rng a b (upz z c l) := by
  funext i
  unfold updv rng upz
  by_cases h1 : i = c
  · subst h1; rw [if_pos rfl, if_pos h, if_pos rfl]
  · rw [if_neg h1, if_neg h1]
end
/-- The one memory: from a world and its blocks on. -/
def KS (w0 : World) (S0 : Nat → Prop) (bm : Nat) (m : PS) (S : Nat → Prop) (w : World) : Prop := KSide w S bm m ∧ Keeps S0 w0 w ∧ ∀ b, S b → S0 b ∨ w0.heap.size ≤ b
def XS (w0 : World) (S0 : Nat → Prop) (bx : Nat) (m : PS) (S : Nat → Prop) (w : World) : Prop := XSide w S bx m ∧ Keeps S0 w0 w ∧ ∀ b, S b → S0 b ∨ w0.heap.size ≤ b
section
variable {w0 w w' : World} {S0 S : Nat → Prop} {bm bx : Nat} {m m' : PS} {f : FuncId} {args : Array Value} {e0 : Ending}
theorem KSide.lt' (h : KSide w S bm m) : ∀ b, S b → b < w.heap.size := by
  obtain ⟨st, rl, mv, rv, hk, hv⟩ := h
  exact hk.lt
theorem XSide.lt' (h : XSide w S bx m) : ∀ b, S b → b < w.heap.size := by
  obtain ⟨rb, gb, lv, hk⟩ := h
  exact hk.lt
theorem KSide.keeps' {U : Nat → Prop} (h : KSide w S bm m) (k : Keeps U w w') (hd : ∀ b, S b → ¬ U b) : KSide w' S bm m := by
  obtain ⟨st, rl, mv, rv, hk, hv⟩ := h
  exact ⟨st, rl, mv, rv, hk.keeps k hd, hv⟩
theorem XSide.keeps' {U : Nat → Prop} (h : XSide w S bx m) (k : Keeps U w w') (hd : ∀ b, S b → ¬ U b) : XSide w' S bx m := by
  obtain ⟨rb, gb, lv, hk⟩ := h
  exact ⟨rb, gb, lv, hk.keeps k hd⟩
theorem KS.start (h : KSide w S bm m) : KS w S bm m S w := ⟨h, Keeps.refl _ _, fun b hb => .inl hb⟩
theorem XS.start (h : XSide w S bx m) : XS w S bx m S w := ⟨h, Keeps.refl _ _, fun b hb => .inl hb⟩
theorem more_lt {w1 w2 : World} {S : Nat → Prop} (h : ∀ b, S b → S0 b ∨ w0.heap.size ≤ b) (hz : w0.heap.size ≤ w1.heap.size) : ∀ b, more S w1 w2 b → S0 b ∨ w0.heap.size ≤ b := by
  rintro b (hb | ⟨hb, _⟩)
  · exact h b hb
  · exact .inr (by omega)
theorem KS.then (h : KS w0 S0 bm m S w) (h2 : KSide w' (more S w w') bm m') (k : Keeps S w w') : KS w0 S0 bm m' (more S w w') w' :=
  ⟨h2, h.2.1.trans (k.mono fun b hb => (h.2.2 b hb).imp id fun hz => ⟨hz, h.1.lt' b hb⟩), more_lt h.2.2 h.2.1.size⟩
theorem XS.then (h : XS w0 S0 bx m S w) (h2 : XSide w' (more S w w') bx m') (k : Keeps S w w') : XS w0 S0 bx m' (more S w w') w' :=
  ⟨h2, h.2.1.trans (k.mono fun b hb => (h.2.2 b hb).imp id fun hz => ⟨hz, h.1.lt' b hb⟩), more_lt h.2.2 h.2.1.size⟩
theorem KS.call (h : KS w0 S0 bm m S w) (c : KCall f args bm m m' e0) : Calls Tryz.prog f args w fun e w' => e = e0 ∧ KS w0 S0 bm m' (more S w w') w' ∧ Keeps S w w' := by
  refine (c w S h.1).mono ?_
  rintro e w' ⟨rfl, hk, kk⟩
  exact ⟨rfl, h.then hk kk, kk⟩
theorem XS.call (h : XS w0 S0 bx m S w) (c : XCall f args bx m m' e0) : Calls Tryz.prog f args w fun e w' => e = e0 ∧ XS w0 S0 bx m' (more S w w') w' ∧ Keeps S w w' := by
  refine (c w S h.1).mono ?_
  rintro e w' ⟨rfl, hk, kk⟩
  exact ⟨rfl, h.then hk kk, kk⟩
/-- What only adds to the world. -/
theorem KS.grow (h : KS w0 S0 bm m S w) (hb : Keeps (fun _ => False) w w') : KS w0 S0 bm m S w' :=
  ⟨h.1.keeps' hb (fun _ _ hf => hf), h.2.1.trans (hb.mono fun _ hf => hf.elim), h.2.2⟩
theorem XS.grow (h : XS w0 S0 bx m S w) (hb : Keeps (fun _ => False) w w') : XS w0 S0 bx m S w' :=
  ⟨h.1.keeps' hb (fun _ _ hf => hf), h.2.1.trans (hb.mono fun _ hf => hf.elim), h.2.2⟩
/-- Writes of new blocks, that are none of the memory's. -/
theorem KS.wrote {U : Nat → Prop} (h : KS w0 S0 bm m S w) (hb : Keeps U w w') (hU : ∀ b, U b → w0.heap.size ≤ b ∧ ¬ S b) : KS w0 S0 bm m S w' :=
  ⟨h.1.keeps' hb (fun b hs hu => (hU b hu).2 hs), h.2.1.trans ⟨hb.os, hb.tape, hb.output, hb.size, fun k hk hn => hb.block k hk fun hu => hn (.inr ⟨(hU k hu).1, hk⟩)⟩, h.2.2⟩
theorem XS.wrote {U : Nat → Prop} (h : XS w0 S0 bx m S w) (hb : Keeps U w w') (hU : ∀ b, U b → w0.heap.size ≤ b ∧ ¬ S b) : XS w0 S0 bx m S w' :=
  ⟨h.1.keeps' hb (fun b hs hu => (hU b hu).2 hs), h.2.1.trans ⟨hb.os, hb.tape, hb.output, hb.size, fun k hk hn => hb.block k hk fun hu => hn (.inr ⟨(hU k hu).1, hk⟩)⟩, h.2.2⟩
end
section
variable (bm bx : Nat) (made fail a b : Nat) (z : Nat → List UInt8)
theorem kalloc_yes (hf : fail ≠ 1) (hm : made < 4095) (k : Nat) (h1 : 1 ≤ k) (h2 : k ≤ 1048576) (hz : z (made + 1) = List.replicate k 0) :
    KCall 60 #[.pointer (some ⟨bm, 0, none⟩), .int .i64 k, .int .i64 3] bm ⟨made, fail, rng 0 made z⟩ ⟨made + 1, fail - 1, rng 0 (made + 1) z⟩ (.returned (.tuple #[.int .u64 (addr (made + 1) 0), .int .i64 0])) := by
  rintro w S ⟨st, rl, mv, rv, hk, hv⟩
  refine (alloc_ok hk hf hm k 3 (by omega) (by omega) (by omega) (by omega)).mono ?_
  rintro e w' ⟨rfl, r, mv', hk', kk, e1, e2, e3, e4⟩
  refine ⟨rfl, ⟨_, _, _, _, hk', ?_⟩, kk⟩
  show ∀ n, (upd st (made + 1) (some r) n).map RG.v = rng 0 (made + 1) z n
  rw [← rng_add0, hz]
  exact upd_v hv _ _ (by simp [RG.v, e1, e2, e3])
theorem kalloc_no (vs : Nat → Option RV) (k : Nat) (h1 : 1 ≤ k) (h2 : k ≤ 1048576) :
    KCall 60 #[.pointer (some ⟨bm, 0, none⟩), .int .i64 k, .int .i64 3] bm ⟨made, 1, vs⟩ ⟨made, 0, vs⟩ (.returned (.tuple #[.int .u64 0, .int .i64 2])) := by
  rintro w S ⟨st, rl, mv, rv, hk, hv⟩
  refine (alloc_mem hk k 3 (by omega) (by omega) (by omega) (by omega)).mono ?_
  rintro e w' ⟨rfl, hk', kk⟩
  exact ⟨rfl, ⟨_, _, _, _, hk', hv⟩, kk⟩
theorem xalloc_yes (hf : fail ≠ 1) (hm : made < 4095) (k : Nat) (h1 : 1 ≤ k) (h2 : k ≤ 1048576) (hz : z (made + 1) = List.replicate k 0) :
    XCall 38 #[.pointer (some ⟨bx, 0, none⟩), .int .i64 k, .int .i64 3] bx ⟨made, fail, rng 0 made z⟩ ⟨made + 1, fail - 1, rng 0 (made + 1) z⟩ (.returned (.tuple #[.int .u64 (addr (made + 1) 0), .int .i64 0])) := by
  rintro w T ⟨rb, gb, lv, hr⟩
  have fin : ∀ (fl : Nat) (e : Ending) (w' : World), fl = fail - 1 → (e = .returned (.tuple #[.int .u64 (addr (made + 1) 0), .int .i64 0]) ∧ XAllocPost w T bx made fl (rng 0 made z) k 3 w') →
      e = .returned (.tuple #[.int .u64 (addr (made + 1) 0), .int .i64 0]) ∧ XSide w' (more T w w') bx ⟨made + 1, fail - 1, rng 0 (made + 1) z⟩ ∧ Keeps T w w' := by
    rintro fl e w' rfl ⟨rfl, rb', gb', lv', hr', kk⟩
    rw [← hz, rng_add0] at hr'
    exact ⟨rfl, ⟨rb', gb', lv', hr'⟩, kk⟩
  rcases fail with _ | _ | f
  · exact (xalloc_zero hr hm k 3 (by omega) (by omega) (by decide) (by decide)).mono (fun e w' h => fin 0 e w' rfl h)
  · exact absurd rfl hf
  · exact (xalloc_more hr hm k 3 (by omega) (by omega) (by decide) (by decide)).mono (fun e w' h => fin (f + 1) e w' rfl h)
theorem xalloc_no (vs : Nat → Option RV) (k : Nat) (h1 : 1 ≤ k) (h2 : k ≤ 1048576) :
    XCall 38 #[.pointer (some ⟨bx, 0, none⟩), .int .i64 k, .int .i64 3] bx ⟨made, 1, vs⟩ ⟨made, 0, vs⟩ (.returned (.tuple #[.int .u64 0, .int .i64 2])) :=
  XCall.step fun w _ _ _ _ hr => xalloc_mem hr k 3 (by omega) (by omega) (by decide) (by decide)
theorem kfree (h : a < b) : KCall 48 #[.pointer (some ⟨bm, 0, none⟩), .int .u64 (addr (a + 1) 0)] bm ⟨made, fail, rng a b z⟩ ⟨made, fail, rng (a + 1) b z⟩ (.returned (.int .i64 0)) := by
  rintro w S ⟨st, rl, mv, rv, hk, hv⟩
  obtain ⟨r, hr, hq⟩ := st_some hv (rng_in (a := a) (b := b) (z := z) (i := a + 1) (by omega))
  have hret : r.ret = false := congrArg (fun q : RV => q.2.2) hq
  refine (free_ok hk (a + 1) hr hret).mono ?_
  rintro e w' ⟨rfl, hk', kk⟩
  refine ⟨rfl, ⟨_, _, _, _, hk', ?_⟩, kk⟩
  show ∀ n, (upd st (a + 1) none n).map RG.v = rng (a + 1) b z n
  rw [← rng_sub h]
  exact upd_v hv _ none rfl
theorem xfree (h : a < b) : XCall 49 #[.pointer (some ⟨bx, 0, none⟩), .int .u64 (addr (a + 1) 0)] bx ⟨made, fail, rng a b z⟩ ⟨made, fail, rng (a + 1) b z⟩ (.returned (.int .i64 0)) := by
  refine XCall.step fun w _ _ _ _ hr => ?_
  have := xfree_ok hr (a + 1) (rng_in (a := a) (b := b) (z := z) (i := a + 1) (by omega))
  rw [rng_sub h] at this
  exact this
theorem kput (c q : Nat) (hc : 0 < c ∧ c ≤ b) (hb : b ≤ 8) (l : List UInt8) (hl : l.length ≤ 4096) (hq : q ≤ 4294967295) (hz : q + l.length ≤ (z c).length) :
    KCall 33 #[.pointer (some ⟨bm, 0, none⟩), .int .u64 (addr c q), .string (bstr l)] bm ⟨made, fail, rng 0 b z⟩ ⟨made, fail, rng 0 b (upz z c (setAt (z c) q l))⟩ (.returned (.int .i64 0)) := by
  rintro w S ⟨st, rl, mv, rv, hk, hv⟩
  obtain ⟨r, hr, hq'⟩ := st_some hv (rng_in (a := 0) (b := b) (z := z) (i := c) hc)
  have e1 : r.perm = 3 := congrArg (fun q : RV => q.1) hq'
  have e2 : r.bytes = z c := congrArg (fun q : RV => q.2.1) hq'
  have e3 : r.ret = false := congrArg (fun q : RV => q.2.2) hq'
  refine (put_ok hk c q (by omega) hq l (by omega) hr (by rw [e2]; exact hz)).mono ?_
  rintro e w' ⟨rfl, g, hk', kk⟩
  refine ⟨rfl, ⟨_, _, _, _, hk', ?_⟩, kk⟩
  show ∀ n, (upd st c (some { r with row := some g, bytes := setAt r.bytes q l }) n).map RG.v = rng 0 b (upz z c (setAt (z c) q l)) n
  rw [← rng_upd hc]
  exact upd_v hv _ _ (by simp [RG.v, e1, e2, e3])
theorem xput (c q : Nat) (hc : 0 < c ∧ c ≤ b) (hb : b ≤ 8) (l : List UInt8) (hl : l.length ≤ 4096) (hq : q ≤ 4294967295) (hz : q + l.length ≤ (z c).length) :
    XCall 37 #[.pointer (some ⟨bx, 0, none⟩), .int .u64 (addr c q), .string (bstr l)] bx ⟨made, fail, rng 0 b z⟩ ⟨made, fail, rng 0 b (upz z c (setAt (z c) q l))⟩ (.returned (.int .i64 0)) := by
  refine XCall.step fun w _ _ _ _ hr => ?_
  have := xput_ok hr c q hq l (by omega) (rng_in (a := 0) (b := b) (z := z) (i := c) hc) hz
  rw [rng_upd hc] at this
  exact this
end
end Go.Proofs.YtomhflaofipccaaGreat
namespace Go.Proofs.YtomhflaofipccaaGreat
open Go Go.RowKit Go.Maps
set_option linter.unusedVariables false
/-- Region n is q from now on. -/
def PS.set (m : PS) (n : Nat) (q : Option RV) : PS := { m with vs := updv m.vs n q }
def PS.grown (m : PS) (k : Nat) : PS := ⟨m.made + 1, m.fail - 1, updv m.vs (m.made + 1) (some (3, List.replicate k 0, false))⟩
def PS.graced (m : PS) : PS := { m with vs := gracev m.vs m.made }
section
variable (bm bx : Nat) (m : PS)
theorem k_alloc (hf : m.fail ≠ 1) (hm : m.made < 4095) (k : Nat) (h1 : 1 ≤ k) (h2 : k ≤ 1048576) :
    KCall 60 #[.pointer (some ⟨bm, 0, none⟩), .int .i64 k, .int .i64 3] bm m (m.grown k) (.returned (.tuple #[.int .u64 (addr (m.made + 1) 0), .int .i64 0])) := by
  rintro w S ⟨st, rl, mv, rv, hk, hv⟩
  refine (alloc_ok hk hf hm k 3 (by omega) (by omega) (by omega) (by omega)).mono ?_
  rintro e w' ⟨rfl, r, mv', hk', kk, e1, e2, e3, e4⟩
  exact ⟨rfl, ⟨_, _, _, _, hk', upd_v hv _ _ (by simp [RG.v, e1, e2, e3])⟩, kk⟩
theorem x_alloc (hf : m.fail ≠ 1) (hm : m.made < 4095) (k : Nat) (h1 : 1 ≤ k) (h2 : k ≤ 1048576) :
    XCall 38 #[.pointer (some ⟨bx, 0, none⟩), .int .i64 k, .int .i64 3] bx m (m.grown k) (.returned (.tuple #[.int .u64 (addr (m.made + 1) 0), .int .i64 0])) := by
  rintro w T ⟨rb, gb, lv, hr⟩
  obtain ⟨made, fail, vs⟩ := m
  have fin : ∀ (fl : Nat) (e : Ending) (w' : World), fl = fail - 1 → (e = .returned (.tuple #[.int .u64 (addr (made + 1) 0), .int .i64 0]) ∧ XAllocPost w T bx made fl vs k 3 w') →
      e = .returned (.tuple #[.int .u64 (addr (made + 1) 0), .int .i64 0]) ∧ XSide w' (more T w w') bx (PS.grown ⟨made, fail, vs⟩ k) ∧ Keeps T w w' := by
    rintro fl e w' rfl ⟨rfl, rb', gb', lv', hr', kk⟩
    exact ⟨rfl, ⟨rb', gb', lv', hr'⟩, kk⟩
  rcases fail with _ | _ | f
  · exact (xalloc_zero hr hm k 3 (by omega) (by omega) (by decide) (by decide)).mono (fun e w' h => fin 0 e w' rfl h)
  · exact absurd rfl hf
  · exact (xalloc_more hr hm k 3 (by omega) (by omega) (by decide) (by decide)).mono (fun e w' h => fin (f + 1) e w' rfl h)
theorem k_alloc_no (hf : m.fail = 1) (k : Nat) (h1 : 1 ≤ k) (h2 : k ≤ 1048576) :
    KCall 60 #[.pointer (some ⟨bm, 0, none⟩), .int .i64 k, .int .i64 3] bm m { m with fail := 0 } (.returned (.tuple #[.int .u64 0, .int .i64 2])) := by
  obtain ⟨made, fail, vs⟩ := m
  subst hf
  exact kalloc_no bm made vs k h1 h2
theorem x_alloc_no (hf : m.fail = 1) (k : Nat) (h1 : 1 ≤ k) (h2 : k ≤ 1048576) :
    XCall 38 #[.pointer (some ⟨bx, 0, none⟩), .int .i64 k, .int .i64 3] bx m { m with fail := 0 } (.returned (.tuple #[.int .u64 0, .int .i64 2])) := by
  obtain ⟨made, fail, vs⟩ := m
  subst hf
  exact xalloc_no bx made vs k h1 h2
theorem k_put (n : Nat) (hn : n ≤ 4294967295) (q : RV) (hs : m.vs n = some q) (l : List UInt8) (hl : l.length ≤ 1048576) (hb : l.length ≤ q.2.1.length) :
    KCall 33 #[.pointer (some ⟨bm, 0, none⟩), .int .u64 (addr n 0), .string (bstr l)] bm m (m.set n (some (q.1, setAt q.2.1 0 l, q.2.2))) (.returned (.int .i64 0)) := by
  rintro w S ⟨st, rl, mv, rv, hk, hv⟩
  obtain ⟨r, hr, rfl⟩ := st_some hv hs
  refine (put_ok hk n 0 hn (by decide) l hl hr (by rw [Nat.zero_add]; exact hb)).mono ?_
  rintro e w' ⟨rfl, g, hk', kk⟩
  exact ⟨rfl, ⟨_, _, _, _, hk', upd_v hv n _ rfl⟩, kk⟩
theorem x_put (n : Nat) (hn : n ≤ 4294967295) (q : RV) (hs : m.vs n = some q) (l : List UInt8) (hl : l.length ≤ 1048576) (hb : l.length ≤ q.2.1.length) :
    XCall 37 #[.pointer (some ⟨bx, 0, none⟩), .int .u64 (addr n 0), .string (bstr l)] bx m (m.set n (some (q.1, setAt q.2.1 0 l, q.2.2))) (.returned (.int .i64 0)) :=
  XCall.step fun w _ _ _ _ hr => xput_ok hr n 0 (by decide) l hl hs (by rw [Nat.zero_add]; exact hb)
theorem k_free (n : Nat) (hn : n ≤ 4294967295) (q : RV) (hs : m.vs n = some q) :
    KCall 48 #[.pointer (some ⟨bm, 0, none⟩), .int .u64 (addr n 0)] bm m (m.set n none) (.returned (.int .i64 0)) := by
  rintro w S ⟨st, rl, mv, rv, hk, hv⟩
  obtain ⟨r, hr, hq⟩ := st_some hv hs
  rcases hret : r.ret with _ | _
  · refine (free_ok hk n hr hret).mono ?_
    rintro e w' ⟨rfl, hk', kk⟩
    exact ⟨rfl, ⟨_, _, _, _, hk', upd_v hv n none rfl⟩, kk⟩
  · refine (free_ret hk n hr hret).mono ?_
    rintro e w' ⟨rfl, rl', rv', hk', kk⟩
    exact ⟨rfl, ⟨_, _, _, _, hk', upd_v hv n none rfl⟩, kk⟩
theorem x_free (n : Nat) (q : RV) (hs : m.vs n = some q) :
    XCall 49 #[.pointer (some ⟨bx, 0, none⟩), .int .u64 (addr n 0)] bx m (m.set n none) (.returned (.int .i64 0)) :=
  XCall.step fun w _ _ _ _ hr => xfree_ok hr n hs
theorem k_retire (n : Nat) (q : RV) (hs : m.vs n = some q) (hq : q.2.2 = false) :
    KCall 39 #[.pointer (some ⟨bm, 0, none⟩), .int .u64 (addr n 0)] bm m (m.set n (some (q.1, q.2.1, true))) (.returned (.int .i64 0)) := by
  rintro w S ⟨st, rl, mv, rv, hk, hv⟩
  obtain ⟨r, hr, hq'⟩ := st_some hv hs
  subst hq'
  refine (retire_ok hk n hr hq).mono ?_
  rintro e w' ⟨rfl, v', hk', kk⟩
  exact ⟨rfl, ⟨_, _, _, _, hk', upd_v hv n _ rfl⟩, kk⟩
theorem x_retire (n : Nat) (q : RV) (hs : m.vs n = some q) (hq : q.2.2 = false) :
    XCall 41 #[.pointer (some ⟨bx, 0, none⟩), .int .u64 (addr n 0)] bx m (m.set n (some (q.1, q.2.1, true))) (.returned (.int .i64 0)) :=
  XCall.step fun w _ _ _ _ hr => xretire_ok hr n hs hq
theorem k_grace : KCall 17 #[.pointer (some ⟨bm, 0, none⟩)] bm m m.graced (.returned (.tuple #[])) := by
  rintro w S ⟨st, rl, mv, rv, hk, hv⟩
  refine (grace_any hk).mono ?_
  rintro e w' ⟨rfl, hk', kk⟩
  refine ⟨rfl, ⟨_, _, _, _, hk', fun n => ?_⟩, kk⟩
  have hM := hk.retM n
  simp only [PS.graced, gracev, dels, ← hv n]
  rcases hs : st n with _ | r
  · simp [keepv]
  · have hrg := hk.range n r hs
    rw [if_pos hrg.2]
    by_cases hn : n ∈ rl
    · obtain ⟨r', h1, h2⟩ := hM.1 hn
      rw [hs] at h1
      cases h1
      simp [hn, keepv, RG.v, h2]
    · have h2 : r.ret = false := by
        rcases h : r.ret with _ | _
        · rfl
        · exact absurd (hM.2 ⟨r, hs, h⟩) hn
      simp [hn, keepv, RG.v, h2]
theorem x_grace : XCall 18 #[.pointer (some ⟨bx, 0, none⟩)] bx m m.graced (.returned (.tuple #[])) :=
  XCall.step fun w _ _ _ _ hr => xgrace_any hr
end
end Go.Proofs.YtomhflaofipccaaGreat
namespace Go.Proofs.YtomhflaofipccaaGreat
open Go Go.RowKit Go.Maps Go.Shelf
set_option linter.unusedVariables false
theorem more_below {S : Nat → Prop} {w w' : World} (h : ∀ b, S b → b < w.heap.size) (k : Keeps S w w') : ∀ b, more S w w' b → b < w'.heap.size := by
  rintro b (hb | hb)
  · exact Nat.lt_of_lt_of_le (h b hb) k.size
  · exact hb.2
/-- What Regions answers. -/
def RgPost2 (S0 : Nat → Prop) (w0 : World) (bm made fail : Nat) (vs : Nat → Option RV) (e : Ending) (w' : World) : Prop :=
  ∃ (lv : Value) (ss : List Nat), e = .returned lv ∧ ss.Pairwise (· < ·) ∧ (∀ n, n ∈ ss ↔ (vs n).isSome = true) ∧ Keeps S0 w0 w' ∧ w'.ownsRow w0.heap.size 104 3 lv ss.length (cellsR vs ss) ∧ ss.length ≤ 4096 ∧ KSide w' (more S0 w0 w') bm ⟨made, fail, vs⟩
section
variable {w : World} {S : Nat → Prop} {bm made fail : Nat} {st : Nat → Option RG} {rl : List Nat} {mv rv : Value}
set_option maxRecDepth 100000 in
set_option maxHeartbeats 2000000 in
theorem regions_any2 (h : KM w S bm made fail st rl mv rv) (vs : Nat → Option RV) (hvs : ∀ n, (st n).map RG.v = vs n) :
    Calls Tryz.prog 23 #[.pointer (some ⟨bm, 0, none⟩)] w (RgPost2 S w bm made fail vs) := by
  obtain ⟨m, hmv⟩ : ∃ m, mv = .map m := by
    rcases h.map with ⟨e, _⟩ | ⟨b, _, e, _⟩
    · exact ⟨_, e⟩
    · exact ⟨_, e⟩
  have ck := keys_any m w
  have cs := sorted_live _ _ _ st made h.range h.made_le (keys_collect h m hmv)
  have c0 : w.cell? ⟨bm, 0, none⟩ = some mv := h.mem.cell 0
  have hst : ∀ (w2 : World) (v : Value) (ss : List Nat), LiveAsc st ss → w2.ownsRow (w.alloc (.cells #[.map m] 62)).heap.size 63 1 v ss.length (ss.map encU) → Below (w.alloc (.cells #[.map m] 62)).heap.size (w.alloc (.cells #[.map m] 62)) w2 →
      RgAt S w bm made fail vs (w.heap.size + 1) v (.slice none 0 0) ss 0 w2 ∧ ss.length ≤ 4096 ∧ (∀ n, n ∈ ss → (vs n).isSome = true) ∧ (∀ n, n ∈ ss ↔ (vs n).isSome = true) := by
    intro w2 v ss hl hrow hb
    have hsz : (w.alloc (.cells #[.map m] 62)).heap.size = w.heap.size + 1 := by simp
    rw [hsz] at hrow hb
    have k2 : Keeps (fun _ => False) w w2 := ((Keeps.refl (fun _ => False) w).alloc (.cells #[.map m] 62)).trans ⟨hb.os, hb.tape, hb.output, hb.size, fun i hi _ => hb.block i (by simpa using hi)⟩
    have hmem : ∀ n, n ∈ ss ↔ (vs n).isSome = true := fun n => by rw [hl.2 n, ← hvs n]; cases st n <;> rfl
    have hlen : ss.length ≤ made := nodup_le made ss (hl.1.imp (fun h => Nat.ne_of_lt h)) (fun x hx => by
      have := (hl.2 x).1 hx
      rcases hs : st x with _ | r
      · rw [hs] at this; cases this
      · exact h.range x r hs)
    have hmd := h.made_le
    refine ⟨⟨S, st, rl, mv, rv, h.keeps k2 (fun _ _ h => h), hvs, k2.mono (fun _ h => h.elim), fun b hb => .inl hb, by omega, by have := hb.size; simp at this; omega, hrow, fun g hg hS => ?_, World.ownsRow_nil _ _ _ _, fun g hg => by cases hg⟩, by omega, fun n hn => (hmem n).1 hn, hmem⟩
    have h1 := (hrow.lt g hg).1
    have h2 := h.lt g hS
    omega
  subst hmv
  have HST := Lib.hid hst
  have CS := Lib.hid cs
  obtain ⟨i0, hi0, hz0, hz1, hz2⟩ := info_parts infoR
  have HS : Hid (∀ b, S b → b < w.heap.size) := h.lt
  clear h hst cs hvs hi0 hz0 hz1 hz2
  go_enter Tryz.func23, Tryz.ntmps23
  go_wp2_with (first
    | (go_at_call 51; refine ck.mono ?_; rintro e w' ⟨rfl, rfl⟩)
    | (go_at_call 50; refine CS.out.mono ?_; rintro e w2 ⟨v, ss, rfl, hasc, hrow, hb⟩; obtain ⟨hrg, hlen, hlv, hmem⟩ := HST.out w2 v ss hasc hrow hb; obtain ⟨A, cv, rfl, hcell⟩ := own_form hrow; have HRG := Lib.hid hrg; have HLV := Lib.hid hlv; have HMEM := Lib.hid hmem; have HASC := Lib.hid hasc; have HCELL := Lib.hid hcell; clear hrg hlv hmem hasc hcell hrow hb))
  clear ck CS HST c0
  obtain ⟨n, hn⟩ : ∃ n, n = ss.length := ⟨_, rfl⟩
  have HN := Lib.hid hn
  rw [← hn] at hlen HRG HCELL ⊢
  clear hn
  go_loopw [3, 16] (fun l i wr => ∃ k : Nat, k ≤ n ∧ i = .int .i64 k ∧ RgAt S w bm made fail vs (w.heap.size + 1) (.slice A n cv) l ss k wr) (fun _ i _ => n - (intOf i).toNat)
  case atStart => exact ⟨0, by omega, rfl, HRG.out⟩
  case round =>
    clear HRG
    obtain ⟨k, hk, rfl, hrg⟩ := hrel
    by_cases hkn : k < n
    · have hkl : k < ss.length := by rw [← HN.out]; exact hkn
      obtain ⟨ga, hA⟩ : ∃ ga, A = some ⟨ga, 0, none⟩ := by
        obtain ⟨ga, hA, _⟩ := HCELL.out (by omega)
        exact ⟨ga, hA⟩
      subst hA
      have ce := hrg.cell hkl
      obtain ⟨mv, rb, p, bs, e1, e2, e3, e4, e5⟩ := rg_round hrg hkl HLV.out (by rw [← HN.out]; exact hlen)
      have CALL := Lib.hid e5
      clear e5 hrg
      generalize ss[k] = x at ce e2 e4 CALL
      unfold encU at ce
      have g1 : decide (k < n) = true := by simpa using hkn
      go_wp2_with fail
      have ew : IntKind.i64.wrap (x : Int) = (x : Int) := IntWalk.i64_in _ (by omega)
      have e3' : wr.cell? ⟨rb, 1, none⟩ = some (.int .i64 p) := e3
      go_region_law (first
        | (go_simp; go_at_call 52; refine CALL.out.mono ?_; rintro e w2 ⟨g, rfl, E1, hconv, lv', w4, hrun, E4, hrg4⟩)
        | (refine step_append_run rfl (.tmp 26) (.tmp 37) 58 rfl _ _ lv' w4 rfl rfl hrun ?_))
      all_goals go_wp2_with fail
      all_goals go_roundw
      all_goals first
        | (simp [intOf]; omega)
        | exact ⟨k + 1, by omega, by go_num, hrg4⟩
    · have : k = n := by omega
      subst this
      have HRG := Lib.hid hrg; clear hrg
      go_wp2_with fail
      go_ret
      obtain ⟨S1, st1, rl1, mv1, rv1, t1, t2, t3, t4, t5, t6, t7, t8, t9, t10⟩ := HRG.out
      refine ⟨_, ss, rfl, HASC.out.1, HMEM.out, t3, ?_, by rw [← HN.out]; exact hlen, ⟨st1, rl1, mv1, rv1, t1.mono t4 (more_below HS.out t3), t2⟩⟩
      have e : ss.take k = ss := List.take_of_length_le (by rw [← HN.out]; omega)
      rw [e, HN.out] at t9
      exact ownsRow_base t9 (by omega)
end
end Go.Proofs.YtomhflaofipccaaGreat
namespace Go.Proofs.YtomhflaofipccaaGreat
open Go Go.RowKit Go.Maps
set_option linter.unusedVariables false
theorem own_form_any {w : World} {base : Nat} {e : TypeId} {s : Nat} {v : Value} {n : Nat} {xs : List Value} (h : w.ownsRow base e s v n xs) :
    ∃ A c, v = .slice A n c ∧ (0 < n → ∃ g, A = some ⟨g, 0, none⟩ ∧ ∀ j u, xs[j]? = some u → w.cell? ⟨g, j, none⟩ = some u) := by
  have hl := h.1
  rcases h.2 with ⟨rfl, rfl⟩ | ⟨g, cap, cur, rfl, hb, hg, h1, h2, h3, h4⟩
  · exact ⟨none, 0, rfl, fun h => by omega⟩
  · refine ⟨_, cap, rfl, fun _ => ⟨g, rfl, fun j u hu => ?_⟩⟩
    have := h.cells (g := g) rfl j u hu
    rwa [show (⟨g, 0, none⟩ : Addr).add j = ⟨g, j, none⟩ by unfold Addr.add; split <;> simp_all] at this
theorem cellsR_get (vs : Nat → Option RV) : ∀ (ss : List Nat) (k c : Nat) (hk : k < ss.length), c < 3 → (cellsR vs ss)[k * 3 + c]? = (regC ss[k] ((vs ss[k]).getD (0, [], false)))[c]?
  | [], k, c, hk, _ => by simp at hk
  | x :: r, k, c, hk, hc => by
    have e : cellsR vs (x :: r) = regC x ((vs x).getD (0, [], false)) ++ cellsR vs r := by simp [cellsR]
    have l3 : (regC x ((vs x).getD (0, [], false))).length = 3 := by simp [regC]
    rw [e]
    rcases k with _ | k
    · rw [List.getElem?_append_left (by omega)]; simp
    · rw [List.getElem?_append_right (by omega), l3, show (k + 1) * 3 + c - 3 = k * 3 + c by omega]
      exact cellsR_get vs r k c (by simpa using hk) hc
def RowOf (w : World) (A : Option Addr) (n : Nat) (N P : Nat → Int) (B : Nat → ByteArray) : Prop :=
  ∀ k, k < n → ∃ g, A = some ⟨g, 0, none⟩ ∧ w.cell? ⟨g, k * 3, none⟩ = some (.int .i64 (N k)) ∧ w.cell? ⟨g, k * 3 + 1, none⟩ = some (.int .i64 (P k)) ∧ w.cell? ⟨g, k * 3 + 2, none⟩ = some (.string (B k))
set_option maxRecDepth 100000 in
theorem xsame_any (n c c' : Nat) (A A' : Option Addr) (N P : Nat → Int) (B : Nat → ByteArray) (w : World) (hn : n ≤ 4096) (h : RowOf w A n N P B) (h' : RowOf w A' n N P B) :
    Calls Tryz.prog 22 #[.slice A n c, .slice A' n c'] w fun e w' => e = .returned (.bool true) ∧ Below w.heap.size w w' := by
  have H := Lib.hid h
  have H' := Lib.hid h'
  clear h h'
  go_enter Tryz.func22, Tryz.ntmps22
  go_wp2_with fail
  go_loopw [5] (fun i wr => ∃ k : Nat, k ≤ n ∧ i = .int .i64 k ∧ Below w.heap.size w wr ∧ ∀ p, wr.cell? p = w.cell? p) (fun i _ => n - (intOf i).toNat)
  case atStart => exact ⟨0, by omega, rfl, Below.refl _ _, fun _ => rfl⟩
  case round =>
    obtain ⟨k, hk, rfl, hb, hc⟩ := hrel
    have HB := Lib.hid hb
    have HC := Lib.hid hc
    by_cases hkn : k < n
    · obtain ⟨g, rfl, c0, c1, c2⟩ := H.out k hkn
      obtain ⟨g', rfl, d0, d1, d2⟩ := H'.out k hkn
      rw [← hc] at c0 c1 c2 d0 d1 d2
      clear hb hc
      have g1 : decide (k < n) = true := by simpa using hkn
      have i1 : (0 : Int) ≤ (k : Int) := by omega
      have i2 : (k : Int) < (n : Int) := by omega
      generalize N k = a0 at *
      generalize P k = a1 at *
      generalize B k = a2 at *
      go_wp2_with fail
      go_quiet (fail)
      go_wp2_with fail
      go_roundw
      case rel => exact ⟨k + 1, by omega, by go_num, HB.out.trans ⟨rfl, rfl, rfl, Nat.le_refl _, fun _ _ => rfl⟩, fun p => HC.out p⟩
      case measure => simp [intOf]; omega
    · have : k = n := by omega
      subst this
      clear hb hc
      have g1 : decide (k < k) = false := by simp
      go_wp2_with fail
      go_ret
      exact ⟨rfl, HB.out⟩
end Go.Proofs.YtomhflaofipccaaGreat
