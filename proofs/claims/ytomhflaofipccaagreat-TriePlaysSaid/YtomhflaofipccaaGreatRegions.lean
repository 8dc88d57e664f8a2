/-
  Regions: the live ones, by rising numbers.
-/
import Derived.Test.YtomhflaofipccaaGreatP6
import Derived.Deep.RegionLaw
namespace Go.Proofs.YtomhflaofipccaaGreat
open Go Go.RowKit Go.Maps
set_option linter.unusedVariables false

/-- An append of which is known what it gives, as one step of a region that draws its order. -/
theorem step_append_run {P : Program} {ops : Array Oper} {o : Oper} {a : Act} {w : World} {K : Act → World → Prop} {Q : Exit → Act → World → Prop} {E : Prop} (hg : o.guard = none) (s x : Operand) (t : TypeId)
    (hop : o.op = Op.call { callee := Callee.builtin Builtin.append, args := #[s, x], argTypes := #[t, t] }) (v xv v' : Value) (w' : World) (hs : a.eval s = v) (hx : a.eval x = xv) (hrun : ∀ ty, (Builtin.append_ #[t, t] ty #[v, xv]).run P w = .ok v' w') (hK : K (a.put o.dst v') w') :
    if Region.wanted o (yielded ops a.tmps) = true then Oper.wp P o a w K Q else E := by
  have hw : Region.wanted o (yielded ops a.tmps) = true := by simp [Region.wanted, hg]
  rw [if_pos hw]
  unfold Oper.wp
  simp [execOp, hop, resolve, invoke, builtin, hs, hx, hrun, Result.andThen]
  exact hK
abbrev RV := Int × List UInt8 × Bool
theorem infoR : (Tryz.prog.info? 104).map (fun i => (i.zero, i.size, i.bytes)) = some (some (.agg #[.int .i64 0, .int .i64 0, .string ⟨#[]⟩]), 3, 32) := by kernel_rfl
/-- A region as Regions tells it. -/
def regC (n : Nat) (q : RV) : List Value := [.int .i64 (n : Int), .int .i64 q.1, .string (bstr q.2.1)]
def cellsR (vs : Nat → Option RV) (ss : List Nat) : List Value := (ss.map fun n => regC n ((vs n).getD (0, [], false))).flatten
theorem cellsR_len (vs : Nat → Option RV) (ss : List Nat) : (cellsR vs ss).length = ss.length * 3 := by
  induction ss with
  | nil => rfl
  | cons x r ih =>
    have : (cellsR vs (x :: r)) = regC x ((vs x).getD (0, [], false)) ++ cellsR vs r := by simp [cellsR]
    rw [this, List.length_append, ih]
    simp [regC]
    omega
theorem cellsR_snoc (vs : Nat → Option RV) (ss : List Nat) (k : Nat) (hk : k < ss.length) : cellsR vs (ss.take (k + 1)) = cellsR vs (ss.take k) ++ regC ss[k] ((vs ss[k]).getD (0, [], false)) := by
  rw [List.take_succ_eq_append_getElem hk]
  unfold cellsR
  rw [List.map_append, List.flatten_append]
  congr 1
theorem ownsRow_ne {w : World} {B B' : Nat} {e e' : TypeId} {s s' n n' : Nat} {v v' : Value} {xs xs' : List Value} (h : w.ownsRow B e s v n xs) (h' : w.ownsRow B' e' s' v' n' xs') (hne : e ≠ e') (g : Nat) (hg : v.ownBlock = some g) : v'.ownBlock ≠ some g := by
  intro hg'
  rcases h.2 with ⟨rfl, _⟩ | ⟨g1, _, cur, rfl, _, h1, _⟩
  · cases hg
  · rcases h'.2 with ⟨rfl, _⟩ | ⟨g2, _, cur', rfl, _, h2, _⟩
    · cases hg'
    · have e1 : g1 = g := by simpa [Value.ownBlock] using hg
      have e2 : g2 = g := by simpa [Value.ownBlock] using hg'
      subst e1; subst e2
      exact Blk.ne_ (show Blk w g2 e cur from h1) (show Blk w g2 e' cur' from h2) hne rfl
theorem ownsRow_base {w : World} {base base' : Nat} {e : TypeId} {size : Nat} {v : Value} {n : Nat} {xs : List Value} (h : w.ownsRow base e size v n xs) (hb : base' ≤ base) : w.ownsRow base' e size v n xs := by
  refine ⟨h.1, ?_⟩
  rcases h.2 with h1 | ⟨g, cap, cur, h1, h2, h3⟩
  · exact .inl h1
  · exact .inr ⟨g, cap, cur, h1, Nat.le_trans hb h2, h3⟩
theorem ownsRow_drew {w : World} {base : Nat} {e : TypeId} {size : Nat} {v : Value} {n : Nat} {xs : List Value} (h : w.ownsRow base e size v n xs) : w.drew.ownsRow base e size v n xs := ownsRow_block h (fun _ _ => rfl)
/-- In the loop of Regions: k regions are told. -/
def RgAt (S0 : Nat → Prop) (w0 : World) (bm made fail : Nat) (vs : Nat → Option RV) (B : Nat) (v lv : Value) (ss : List Nat) (k : Nat) (wr : World) : Prop :=
  ∃ S st rl mv rv, KM wr S bm made fail st rl mv rv ∧ (∀ n, (st n).map RG.v = vs n) ∧ Keeps S0 w0 wr ∧ (∀ b, S b → more S0 w0 wr b) ∧ w0.heap.size ≤ B ∧ B ≤ wr.heap.size ∧
    wr.ownsRow B 63 1 v ss.length (ss.map encU) ∧ (∀ g, v.ownBlock = some g → ¬ S g) ∧ wr.ownsRow B 104 3 lv k (cellsR vs (ss.take k)) ∧ (∀ g, lv.ownBlock = some g → ¬ S g)
theorem RgAt.drew {S0 : Nat → Prop} {w0 wr : World} {bm made fail B k : Nat} {vs : Nat → Option RV} {v lv : Value} {ss : List Nat} (h : RgAt S0 w0 bm made fail vs B v lv ss k wr) : RgAt S0 w0 bm made fail vs B v lv ss k wr.drew := by
  obtain ⟨S, st, rl, mv, rv, h1, h2, h3, h4, h5, h6, h7, h8, h9, h10⟩ := h
  exact ⟨S, st, rl, mv, rv, h1.keeps (T := fun _ => False) (Keeps.refl _ wr).drew (fun _ _ h => h), h2, h3.drew, h4, h5, h6, ownsRow_drew h7, h8, ownsRow_drew h9, h10⟩
/-- What all and the append leave of a round. -/
def RgCall (S0 : Nat → Prop) (w0 : World) (bm made fail : Nat) (vs : Nat → Option RV) (B : Nat) (v lv : Value) (ss : List Nat) (k : Nat) (rb n : Nat) (p : Int) (bs : List UInt8) (e : Ending) (w2 : World) : Prop :=
  ∃ g : Nat, e = .returned (.slice (some ⟨g, 0, none⟩) bs.length bs.length) ∧ w2.cell? ⟨rb, 1, none⟩ = some (.int .i64 p) ∧
    (convert 97 9 (.slice (some ⟨g, 0, none⟩) bs.length bs.length)).run Tryz.prog w2 = .ok (.string (bstr bs)) w2 ∧
    ∃ lv' w4, (∀ ty, (Builtin.append_ #[58, 58] ty #[lv, .slice (some ⟨w2.heap.size, 0, none⟩) 1 1]).run Tryz.prog (w2.alloc (.cells #[.int .i64 (n : Int), .int .i64 p, .string (bstr bs)] 104)) = .ok lv' w4) ∧
      w4.cell? ⟨rb, 1, none⟩ = some (.int .i64 p) ∧ RgAt S0 w0 bm made fail vs B v lv' ss (k + 1) w4
theorem RgAt.cell {S0 : Nat → Prop} {w0 wr : World} {bm made fail B k ga n cv : Nat} {vs : Nat → Option RV} {lv : Value} {ss : List Nat} (h : RgAt S0 w0 bm made fail vs B (.slice (some ⟨ga, 0, none⟩) n cv) lv ss k wr) {j : Nat} (hj : j < ss.length) : wr.cell? ⟨ga, j, none⟩ = some (encU ss[j]) := by
  obtain ⟨S, st, rl, mv, rv, h1, h2, h3, h4, h5, h6, h7, h8, h9, h10⟩ := h
  have := h7.cells (g := ga) rfl j (encU ss[j]) (by simp [hj])
  rwa [show (⟨ga, 0, none⟩ : Addr).add j = ⟨ga, j, none⟩ by unfold Addr.add; split <;> simp_all] at this
theorem rg_round {S0 : Nat → Prop} {w0 wr : World} {bm made fail B k : Nat} {vs : Nat → Option RV} {v lv : Value} {ss : List Nat} (h : RgAt S0 w0 bm made fail vs B v lv ss k wr) (hk : k < ss.length) (hlv : ∀ n, n ∈ ss → (vs n).isSome = true) (hlen : ss.length ≤ 4096) :
    ∃ (mv : Value) (rb : Nat) (p : Int) (bs : List UInt8), wr.cell? ⟨bm, 0, none⟩ = some mv ∧ (Instr.lookup 62 mv (.int .u32 (ss[k] : Int)) false).run Tryz.prog wr = .ok (.pointer (some ⟨rb, 0, none⟩)) wr ∧
      wr.drew.cell? ⟨rb, 1, none⟩ = some (.int .i64 p) ∧ ss[k] ≤ 4096 ∧ Calls Tryz.prog 52 #[.pointer (some ⟨rb, 0, none⟩)] wr.drew (RgCall S0 w0 bm made fail vs B v lv ss k rb ss[k] p bs) := by
  obtain ⟨S, st, rl, mv, rv, h1, h2, h3, h4, h5, h6, h7, h8, h9, h10⟩ := h
  have hi := hlv ss[k] (List.getElem_mem hk)
  rcases hs : st ss[k] with _ | r
  · rw [← h2, hs] at hi; cases hi
  have hq : vs ss[k] = some r.v := by rw [← h2, hs]; rfl
  obtain ⟨hr1, hr2⟩ := h1.range _ r hs
  have hmd := h1.made_le
  have hl := look_run h1.map (n := ss[k]) (by omega)
  rw [hs] at hl
  refine ⟨mv, r.blk, r.perm, r.bytes, h1.mem.cell 0, hl, (h1.regs _ r hs).head.cell 1, by omega, ?_⟩
  clear hl
  obtain ⟨wd, hwd⟩ : ∃ wd, wd = wr.drew := ⟨_, rfl⟩
  rw [← hwd]
  have h1 : KM wd S bm made fail st rl mv rv := by rw [hwd]; exact h1.keeps (T := fun _ => False) (Keeps.refl _ wr).drew (fun _ _ h => h)
  have h3 : Keeps S0 w0 wd := by rw [hwd]; exact h3.drew
  have h4 : ∀ b, S b → more S0 w0 wd b := by rw [hwd]; exact h4
  have h6 : B ≤ wd.heap.size := by rw [hwd]; exact h6
  have h7 : wd.ownsRow B 63 1 v ss.length (ss.map encU) := by rw [hwd]; exact ownsRow_drew h7
  have h9 : wd.ownsRow B 104 3 lv k (cellsR vs (ss.take k)) := by rw [hwd]; exact ownsRow_drew h9
  clear hwd
  refine (all_any h1 ss[k] hs).mono ?_
  rintro e w2 ⟨g, rfl, hk2, kk, hSb⟩
  have hR2 := hk2.regs ss[k] _ (upd_same st _ _)
  have hrow := hR2.rows g rfl
  have kkv := kk.mono (T := fun b => S b) (fun b hb => hb)
  have O7 := ownsRow_block (w' := w2) h7 (fun g' hg' => kk.block g' (h7.lt g' hg').2 (h8 g' hg'))
  have O9 := ownsRow_block (w' := w2) h9 (fun g' hg' => kk.block g' (h9.lt g' hg').2 (h10 g' hg'))
  obtain ⟨i0, hi0, hz0, hz1, hz2⟩ := info_parts infoR
  have hB2 : B ≤ w2.heap.size := Nat.le_trans h6 kk.size
  obtain ⟨lv', w4, hrun, a2, a3, _, a5⟩ := run_append_own_at (P := Tryz.prog) (w2.alloc (.cells #[.int .i64 (ss[k] : Int), .int .i64 r.perm, .string (bstr r.bytes)] 104)) B 58 0 104 i0 _ 3 32 Tryz.underlying58 hi0 hz0 hz1 hz2 rfl (by decide) lv k _ (O9.alloc _) ⟨w2.heap.size, 0, none⟩ 1 1
    (regC ss[k] r.v) rfl (fun j u hj => by
      have hb := (Blk.new w2 104 #[.int .i64 (ss[k] : Int), .int .i64 r.perm, .string (bstr r.bytes)]).cell j
      rw [show (⟨w2.heap.size, 0, none⟩ : Addr).add j = ⟨w2.heap.size, j, none⟩ by unfold Addr.add; split <;> simp_all]
      rw [hb]
      simpa [regC, RG.v] using hj) (by intro u hu; simp [regC] at hu; rcases hu with rfl | rfl | rfl <;> rfl) (by unfold maxLen; omega) (by omega) (by simp; omega)
  have hS2 : ∀ g', lv.ownBlock = some g' → ¬ more S wd w2 g' := by
    rintro g' hg' (h | ⟨h, _⟩)
    · exact h10 g' hg' h
    · have := (h9.lt g' hg').2; omega
  have hV2 : ∀ g', v.ownBlock = some g' → ¬ more S wd w2 g' := by
    rintro g' hg' (h | ⟨h, _⟩)
    · exact h8 g' hg' h
    · have := (h7.lt g' hg').2; omega
  have k24 : Keeps (fun b => lv.ownBlock = some b) w2 w4 := ((Keeps.refl _ w2).alloc _).grown a3 (fun k e => .inl e)
  have k04 : Keeps S0 w0 w4 := (h3.trans (kk.mono h4)).trans (k24.mono (fun b hb => .inr ⟨Nat.le_trans h5 (h9.lt b hb).1, Nat.lt_of_lt_of_le (h9.lt b hb).2 kk.size⟩))
  refine ⟨g, rfl, hR2.head.cell 1, conv_blk hrow, lv', w4, fun ty => hrun, ?_, ?_⟩
  · exact (Blk.keeps hR2.head k24 (fun e => hS2 _ e (.inl hSb))).cell 1
  · refine ⟨_, _, _, _, _, hk2.keeps k24 (fun b hb hl => hS2 b hl hb), fun n => ?_, k04, ?_, h5, Nat.le_trans hB2 k24.size, ownsRow_block O7 (fun g' hg' => k24.block g' (O7.lt g' hg').2 (ownsRow_ne O7 O9 (by decide) g' hg')), hV2, ?_, ?_⟩
    · by_cases hn : n = ss[k]
      · subst hn; rw [upd_same, hq]; rfl
      · rw [upd_other _ _ hn]; exact h2 n
    · rintro b (h | ⟨ha, hb⟩)
      · rcases h4 b h with h' | ⟨h', h''⟩
        · exact .inl h'
        · exact .inr ⟨h', Nat.lt_of_lt_of_le h'' (Nat.le_trans kk.size k24.size)⟩
      · exact .inr ⟨Nat.le_trans h3.size ha, Nat.lt_of_lt_of_le hb k24.size⟩
    · rw [cellsR_snoc vs ss k hk, hq]
      exact a2
    · intro g' hg'
      rcases a5 with e | e
      · rw [e] at hg'; exact hS2 g' hg'
      · rw [e] at hg'
        intro h
        have := hk2.lt g' h
        simp at hg'
        omega
/-- What Regions answers. -/
def RgPost (S0 : Nat → Prop) (w0 : World) (vs : Nat → Option RV) (e : Ending) (w' : World) : Prop :=
  ∃ (lv : Value) (ss : List Nat), e = .returned lv ∧ ss.Pairwise (· < ·) ∧ (∀ n, n ∈ ss ↔ (vs n).isSome = true) ∧ Keeps S0 w0 w' ∧ w'.ownsRow w0.heap.size 104 3 lv ss.length (cellsR vs ss) ∧ ss.length ≤ 4096
section
variable {w : World} {S : Nat → Prop} {bm made fail : Nat} {st : Nat → Option RG} {rl : List Nat} {mv rv : Value}
set_option maxRecDepth 100000 in
set_option maxHeartbeats 2000000 in
theorem regions_any (h : KM w S bm made fail st rl mv rv) (vs : Nat → Option RV) (hvs : ∀ n, (st n).map RG.v = vs n) :
    Calls Tryz.prog 23 #[.pointer (some ⟨bm, 0, none⟩)] w (RgPost S w vs) := by
  obtain ⟨m, hmv⟩ : ∃ m, mv = .map m := by
    rcases h.map with ⟨e, _⟩ | ⟨b, _, e, _⟩
    · exact ⟨_, e⟩
    · exact ⟨_, e⟩
  have ck := keys_any m w
  have cs := sorted_live _ _ _ st made h.range h.made_le (keys_collect h m hmv)
  have c0 : w.cell? ⟨bm, 0, none⟩ = some mv := h.mem.cell 0
  have hst : ∀ (w2 : World) (v : Value) (ss : List Nat), LiveAsc st ss → w2.ownsRow (w.alloc (.cells #[.map m] 62)).heap.size 63 1 v ss.length (ss.map encU) → Below (w.alloc (.cells #[.map m] 62)).heap.size (w.alloc (.cells #[.map m] 62)) w2 →
      RgAt S w bm made fail vs (w.heap.size + 1) v (.slice none 0 0) ss 0 w2 ∧ ss.length ≤ 4096 ∧ (∀ n, n ∈ ss → (vs n).isSome = true) ∧ (∀ n, n ∈ ss ↔ (vs n).isSome = true) := by
    intro w2 v ss hl hrow hb
    have hsz : (w.alloc (.cells #[.map m] 62)).heap.size = w.heap.size + 1 := by simp
    rw [hsz] at hrow hb
    have k2 : Keeps (fun _ => False) w w2 := ((Keeps.refl (fun _ => False) w).alloc (.cells #[.map m] 62)).trans ⟨hb.os, hb.tape, hb.output, hb.size, fun i hi _ => hb.block i (by simpa using hi)⟩
    have hmem : ∀ n, n ∈ ss ↔ (vs n).isSome = true := fun n => by rw [hl.2 n, ← hvs n]; cases st n <;> rfl
    have hlen : ss.length ≤ made := nodup_le made ss (hl.1.imp (fun h => Nat.ne_of_lt h)) (fun x hx => by
      have := (hl.2 x).1 hx
      rcases hs : st x with _ | r
      · rw [hs] at this; cases this
      · exact h.range x r hs)
    have hmd := h.made_le
    refine ⟨⟨S, st, rl, mv, rv, h.keeps k2 (fun _ _ h => h), hvs, k2.mono (fun _ h => h.elim), fun b hb => .inl hb, by omega, by have := hb.size; simp at this; omega, hrow, fun g hg hS => ?_, World.ownsRow_nil _ _ _ _, fun g hg => by cases hg⟩, by omega, fun n hn => (hmem n).1 hn, hmem⟩
    have h1 := (hrow.lt g hg).1
    have h2 := h.lt g hS
    omega
  subst hmv
  have HST := Lib.hid hst
  have CS := Lib.hid cs
  obtain ⟨i0, hi0, hz0, hz1, hz2⟩ := info_parts infoR
  clear h hst cs hvs hi0 hz0 hz1 hz2
  go_enter Tryz.func23, Tryz.ntmps23
  go_wp2_with (first
    | (go_at_call 51; refine ck.mono ?_; rintro e w' ⟨rfl, rfl⟩)
    | (go_at_call 50; refine CS.out.mono ?_; rintro e w2 ⟨v, ss, rfl, hasc, hrow, hb⟩; obtain ⟨hrg, hlen, hlv, hmem⟩ := HST.out w2 v ss hasc hrow hb; obtain ⟨A, cv, rfl, hcell⟩ := own_form hrow; have HRG := Lib.hid hrg; have HLV := Lib.hid hlv; have HMEM := Lib.hid hmem; have HASC := Lib.hid hasc; have HCELL := Lib.hid hcell; clear hrg hlv hmem hasc hcell hrow hb))
  clear ck CS HST c0
  obtain ⟨n, hn⟩ : ∃ n, n = ss.length := ⟨_, rfl⟩
  have HN := Lib.hid hn
  rw [← hn] at hlen HRG HCELL ⊢
  clear hn
  go_loopw [3, 16] (fun l i wr => ∃ k : Nat, k ≤ n ∧ i = .int .i64 k ∧ RgAt S w bm made fail vs (w.heap.size + 1) (.slice A n cv) l ss k wr) (fun _ i _ => n - (intOf i).toNat)
  case atStart => exact ⟨0, by omega, rfl, HRG.out⟩
  case round =>
    clear HRG
    obtain ⟨k, hk, rfl, hrg⟩ := hrel
    by_cases hkn : k < n
    · have hkl : k < ss.length := by rw [← HN.out]; exact hkn
      obtain ⟨ga, hA⟩ : ∃ ga, A = some ⟨ga, 0, none⟩ := by
        obtain ⟨ga, hA, _⟩ := HCELL.out (by omega)
        exact ⟨ga, hA⟩
      subst hA
      have ce := hrg.cell hkl
      obtain ⟨mv, rb, p, bs, e1, e2, e3, e4, e5⟩ := rg_round hrg hkl HLV.out (by rw [← HN.out]; exact hlen)
      have CALL := Lib.hid e5
      clear e5 hrg
      generalize ss[k] = x at ce e2 e4 CALL
      unfold encU at ce
      have g1 : decide (k < n) = true := by simpa using hkn
      go_wp2_with fail
      have ew : IntKind.i64.wrap (x : Int) = (x : Int) := IntWalk.i64_in _ (by omega)
      have e3' : wr.cell? ⟨rb, 1, none⟩ = some (.int .i64 p) := e3
      go_region_law (first
        | (go_simp; go_at_call 52; refine CALL.out.mono ?_; rintro e w2 ⟨g, rfl, E1, hconv, lv', w4, hrun, E4, hrg4⟩)
        | (refine step_append_run rfl (.tmp 26) (.tmp 37) 58 rfl _ _ lv' w4 rfl rfl hrun ?_))
      all_goals go_wp2_with fail
      all_goals go_roundw
      all_goals first
        | (simp [intOf]; omega)
        | exact ⟨k + 1, by omega, by go_num, hrg4⟩
    · have : k = n := by omega
      subst this
      have HRG := Lib.hid hrg; clear hrg
      go_wp2_with fail
      go_ret
      obtain ⟨S1, st1, rl1, mv1, rv1, t1, t2, t3, t4, t5, t6, t7, t8, t9, t10⟩ := HRG.out
      refine ⟨_, ss, rfl, HASC.out.1, HMEM.out, t3, ?_, by rw [← HN.out]; exact hlen⟩
      have e : ss.take k = ss := List.take_of_length_le (by rw [← HN.out]; omega)
      rw [e, HN.out] at t9
      exact ownsRow_base t9 (by omega)
end
end Go.Proofs.YtomhflaofipccaaGreat
