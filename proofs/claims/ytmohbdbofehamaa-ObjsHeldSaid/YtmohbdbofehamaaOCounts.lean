/-
  Package objs: kind, raise, settle, lower, hold, drop.
-/
import Derived.Test.YtmohbdbofehamaaOState
namespace Go.Proofs.Ytmohbdbofehamaa
open Go Go.RowKit Go.Maps OSt
set_option linter.unusedVariables false
set_option linter.unusedSimpArgs false
set_option maxRecDepth 100000
def bump (ld : Nat → Nat) (id v : Nat) : Nat → Nat := fun k => if k = id then v else ld k
theorem bump_same (ld : Nat → Nat) (id v : Nat) : bump ld id v id = v := if_pos rfl
theorem bump_other (ld : Nat → Nat) {id k : Nat} (v : Nat) (h : k ≠ id) : bump ld id v k = ld k := if_neg h
/-- A row of numbers, as it lies. -/
def RowI (B : Nat) (w : World) (A : Option Addr) (L : List Nat) : Prop := ∀ i u : Nat, L[i]? = some u → ∃ g o, A = some ⟨g, o, none⟩ ∧ B ≤ g ∧ g < w.heap.size ∧ w.cell? ⟨g, o + i, none⟩ = some (.int .i64 (u : Int)) ∧ ∃ cs, Blk w g intT cs
theorem RowI.nil (B : Nat) (w : World) (A : Option Addr) : RowI B w A [] := fun i u h => by simp at h
theorem RowI.keeps {B : Nat} {w w' : World} {A : Option Addr} {L : List Nat} {S : Nat → Prop} (h : RowI B w A L) (k : Keeps S w w') (hs : ∀ g, B ≤ g → g < w.heap.size → ¬ S g) : RowI B w' A L := fun i u hu => by
  obtain ⟨g, o, h1, h0, h2, h3, cs, h4⟩ := h i u hu
  exact ⟨g, o, h1, h0, Nat.lt_of_lt_of_le h2 k.size, (World.cell?_of_block (k.block g h2 (hs g h0 h2))).trans h3, cs, h4.keeps k (hs g h0 h2)⟩
theorem RowI.mono {B B' : Nat} {w : World} {A : Option Addr} {L : List Nat} (h : RowI B w A L) (hb : B' ≤ B) : RowI B' w A L := fun i u hu => by
  obtain ⟨g, o, h1, h0, h2, h3⟩ := h i u hu
  exact ⟨g, o, h1, Nat.le_trans hb h0, h2, h3⟩
theorem row_one {B : Nat} (W : World) (id : Nat) (hB : B ≤ W.heap.size) : RowI B (W.alloc (.cells #[.int .i64 (id : Int)] intT)) (some ⟨W.heap.size, 0, none⟩) [id] := fun i u hu => by
  have hi : i = 0 := by have := (List.getElem?_eq_some_iff.1 hu).1; simp at this; exact this
  subst hi
  simp at hu
  subst hu
  exact ⟨_, _, rfl, hB, by simp, by rw [Blk.cell (Blk.new W intT #[.int .i64 (id : Int)])]; rfl, _, Blk.new W intT #[.int .i64 (id : Int)]⟩
theorem thereI_setObj {s : OSt} {id : Nat} (o : Ob) (h : s.isThere id) (ho : o.there = true) (n : Int) : thereI (s.setObj id o) n = thereI s n := by
  rw [Bool.eq_iff_iff, thereI_iff, thereI_iff, isThere_setObj o h ho]
theorem thereI_nat {s : OSt} {id : Nat} : thereI s (id : Int) = true ↔ s.isThere id := by
  rw [thereI_iff, Int.toNat_natCast]
  exact ⟨fun h => h.2, fun h => ⟨by have := (isThere_pos h).1; omega, h⟩⟩
section
variable {x : Nat} {w0 w w' : World} {P0 P U : Nat → Prop} {s s' : OSt} {ld ld' : Nat → Nat} {mo mp mo' mp' : Option Nat} {D E D' E' : DataW Value} {bl bl' : Nat → Nat} {id : Nat}
theorem PGat.look (h : PGat x w0 P0 s ld mo mp D E bl w) (hn : s.os.length ≤ 1000000) (hid : s.isThere id) : (Instr.lookup mapOT (.map mo) (.int .i64 (id : Int)) false).run Try.prog w = .ok (tp (bl id)) w :=
  h.obs.look_yes lawI Try.underlying55 (zeroO w) (keyI (by have := isThere_pos hid; omega)) (h.dat.yes id hid)
theorem PGat.look_no (h : PGat x w0 P0 s ld mo mp D E bl w) {n : Int} (hn : -9223372036854775808 ≤ n ∧ n ≤ 9223372036854775807) (ht : thereI s n = false) : (Instr.lookup mapOT (.map mo) (.int .i64 n) false).run Try.prog w = .ok (.pointer none) w :=
  h.obs.look_no lawI Try.underlying55 (zeroO w) (keyI hn) (h.dat.no n ht)
/-- An object's count of what leads to it is written. -/
theorem PGat.setLd (h : PGat x w0 P0 s ld mo mp D E bl w) (hid : s.isThere id) (v : Nat) : PGat x w0 P0 s (bump ld id v) mo mp D E bl (w.setCell ⟨bl id, 1, none⟩ (.int .i64 (v : Int))) := by
  have hne : x ≠ bl id := h.tab.ne_ (h.ent id hid) (by decide)
  have k : Keeps (fun b => b = bl id) w (w.setCell ⟨bl id, 1, none⟩ (.int .i64 (v : Int))) := (Keeps.refl (fun b => b = bl id) w).setCell (p := ⟨bl id, 1, none⟩) (.inl rfl) _
  refine h.local_ (s' := s) k (fun b hb => by rw [hb]; exact h.pent id hid) (h.tab.keeps k hne) (h.obs.keeps k fun b hb e => h.obs.ne_ (h.ent id hid) hb e.symm) (h.pth.keeps k fun b hb e => h.pth.ne_ (h.ent id hid) hb e.symm) (fun b hb => .inl hb) (fun b hb => .inl hb) h.two h.dat h.pat (fun j hj => ?_) (fun j hj => .inr ⟨j, hj, rfl⟩) h.inj
  by_cases hji : j = id
  · subst hji
    rw [bump_same]
    exact (h.ent j hj).set_ 1 _
  · rw [bump_other _ _ hji]
    exact (h.ent j hj).keeps k fun e => hji (h.inj j id hj hid e)
/-- .. of its Holds. -/
theorem PGat.setHo (h : PGat x w0 P0 s ld mo mp D E bl w) (hid : s.isThere id) (v : Nat) : PGat x w0 P0 (withHolds s id v) ld mo mp D E bl (w.setCell ⟨bl id, 2, none⟩ (.int .i64 (v : Int))) := by
  have hne : x ≠ bl id := h.tab.ne_ (h.ent id hid) (by decide)
  have k : Keeps (fun b => b = bl id) w (w.setCell ⟨bl id, 2, none⟩ (.int .i64 (v : Int))) := (Keeps.refl (fun b => b = bl id) w).setCell (p := ⟨bl id, 2, none⟩) (.inl rfl) _
  have ht : ∀ j, (withHolds s id v).isThere j ↔ s.isThere j := fun j => isThere_setObj _ hid rfl
  have hl : (withHolds s id v).os.length = s.os.length := List.length_set
  refine h.local_ (s' := withHolds s id v) k (fun b hb => by rw [hb]; exact h.pent id hid) (by rw [hl]; exact h.tab.keeps k hne) (by rw [hl]; exact h.obs.keeps k fun b hb e => h.obs.ne_ (h.ent id hid) hb e.symm) (h.pth.keeps k fun b hb e => h.pth.ne_ (h.ent id hid) hb e.symm) (fun b hb => .inl hb) (fun b hb => .inl hb) h.two ⟨fun j hj => h.dat.yes j ((ht j).1 hj), fun n hn => h.dat.no n (by rw [← hn]; exact (thereI_setObj _ hid rfl n).symm)⟩ h.pat (fun j hj => ?_) (fun j hj => .inr ⟨j, (ht j).1 hj, rfl⟩) (fun i j hi hj => h.inj i j ((ht i).1 hi) ((ht j).1 hj))
  have hj' := (ht j).1 hj
  have e1 : (withHolds s id v).kindOf j = s.kindOf j := by
    rw [withHolds, kindOf_setObj _ hid]
    split
    · rename_i e; rw [e]
    · rfl
  rw [e1, withHolds, holdsOf_setObj _ hid]
  by_cases hji : j = id
  · subst hji
    rw [if_pos rfl]
    exact (h.ent j hj').set_ 2 _
  · rw [if_neg hji]
    exact (h.ent j hj').keeps k fun e => hji (h.inj j id hj' hid e)
/-- An object goes. -/
theorem PGat.gone (h : PGat x w0 P0 s ld mo mp D E bl w) (hid : s.isThere id) {b : Nat} (hb : mo = some b) (o : Ob) (ho : o.there = false) (own : w'.ownsMap Try.prog intT heldV b s.os.length (D.del (litI (id : Int)))) (tr : w.mapTurned w' b) : PGat x w0 P0 (s.setObj id o) ld mo mp (D.del (litI (id : Int))) E bl w' := by
  have k : Keeps (fun c => c = b) w w' := (Keeps.refl _ w).grown tr.grown fun k hk => by cases hk; exact .inl rfl
  have hl : (s.setObj id o).os.length = s.os.length := List.length_set
  have ht : ∀ j, (s.setObj id o).isThere j ↔ j ≠ id ∧ s.isThere j := fun j => by
    by_cases hj : j = id
    · subst hj
      constructor
      · rintro ⟨o', h1, h2⟩
        rw [obj_setObj o (isThere_some hid), if_pos rfl] at h1
        cases h1
        rw [ho] at h2; cases h2
      · intro h1; exact absurd rfl h1.1
    · rw [isThere_die o hid hj]
      exact ⟨fun h1 => ⟨hj, h1⟩, fun h1 => h1.2⟩
  refine h.local_ (s' := s.setObj id o) k (fun c hc => by rw [hc]; exact h.pmo b hb) (by rw [hl]; exact h.tab.keeps k fun e => h.obs.ne_ h.tab hb e) (by rw [hl]; exact .inr ⟨b, hb, own⟩) (h.pth.keeps k fun c hc e => h.two c (by rw [e]; exact hb) hc) (fun b hb => .inl hb) (fun b hb => .inl hb) h.two ⟨fun j hj z => ?_, fun n hn => ?_⟩ h.pat (fun j hj => ?_) (fun j hj => .inr ⟨j, ((ht j).1 hj).2, rfl⟩) (fun i j hi hj => h.inj i j ((ht i).1 hi).2 ((ht j).1 hj).2)
  · obtain ⟨h1, h2⟩ := (ht j).1 hj
    rw [atKey_del_other (litI_ne (by omega))]
    exact h.dat.yes j h2 z
  · by_cases hni : n = (id : Int)
    · subst hni; exact has_del_same
    · rw [has_del_other (litI_ne hni)]
      refine h.dat.no n ?_
      rw [← Bool.not_eq_true] at hn ⊢
      intro h1
      obtain ⟨h2, h3⟩ := thereI_iff.1 h1
      exact hn (thereI_iff.2 ⟨h2, (ht _).2 ⟨by omega, h3⟩⟩)
  · obtain ⟨h1, h2⟩ := (ht j).1 hj
    have e1 : (s.setObj id o).kindOf j = s.kindOf j := by rw [kindOf_setObj _ hid, if_neg h1]
    have e2 : (s.setObj id o).holdsOf j = s.holdsOf j := by rw [holdsOf_setObj _ hid, if_neg h1]
    rw [e1, e2]
    exact (h.ent j h2).keeps k fun e => h.obs.ne_ (h.ent j h2) hb e
/-! ### the calls -/
theorem kind_any (h : PG x w0 P0 s ld w) (hn : s.os.length ≤ 1000000) (hid : s.isThere id) : Calls Try.prog 43 #[tp x, .int .i64 (id : Int)] w fun e w' => e = .returned (.int .i64 (s.kindOf id)) ∧ w = w' := by
  obtain ⟨mo, mp, D, E, bl, h⟩ := h
  have lk := h.look hn hid
  have c0 : w.cell? ⟨x, 0, none⟩ = some (.map mo) := h.tab.cell 0
  have d0 : w.cell? ⟨bl id, 0, none⟩ = some (.int .i64 (s.kindOf id)) := (h.ent id hid).cell 0
  clear h hid hn
  go_enter Try.func43, Try.ntmps43
  go_wp2_with fail
  go_ret
  exact ⟨rfl, rfl⟩
theorem raise_any (h : PG x w0 P0 s ld w) (hn : s.os.length ≤ 1000000) (hid : s.isThere id) (hl : ld id ≤ 1000000) : Calls Try.prog 38 #[tp x, .int .i64 (id : Int)] w fun e w' => e = .returned (.tuple #[]) ∧ PG x w0 P0 s (bump ld id (ld id + 1)) w' := by
  obtain ⟨mo, mp, D, E, bl, h⟩ := h
  have lk := h.look hn hid
  have c0 : w.cell? ⟨x, 0, none⟩ = some (.map mo) := h.tab.cell 0
  have d1 : w.cell? ⟨bl id, 1, none⟩ = some (.int .i64 (ld id : Int)) := (h.ent id hid).cell 1
  have f1 : w.frozen? ⟨bl id, 1, none⟩ = false := (h.ent id hid).frozen 1
  have HF := Lib.hid (h.setLd hid (ld id + 1))
  have e1 : IntKind.i64.wrap ((ld id : Int) + 1) = ((ld id + 1 : Nat) : Int) := by rw [IntWalk.i64_in _ (by omega)]; omega
  clear h hid hn hl
  generalize ld id + 1 = v at *
  generalize ld id = a at *
  generalize bl id = b at *
  go_enter Try.func38, Try.ntmps38
  go_wp2_with fail
  go_end0
  exact ⟨rfl, _, _, _, _, _, HF.out⟩
/-- What settle answers and leaves. -/
def SetPost (x : Nat) (w0 : World) (P0 : Nat → Prop) (s : OSt) (ld : Nat → Nat) (id : Nat) (v : Value) (w' : World) : Prop :=
  (ld id + s.holdsOf id = 0 → ∃ A c, v = .slice A 1 c ∧ RowI w0.heap.size w' A [id] ∧ PG x w0 P0 (s.setObj id ⟨s.kindOf id, s.holdsOf id, false⟩) ld w') ∧
  (ld id + s.holdsOf id ≠ 0 → v = .slice none 0 0 ∧ PG x w0 P0 s ld w')
theorem settle_any (h : PG x w0 P0 s ld w) (hn : s.os.length ≤ 1000000) (hid : s.isThere id) (hl : ld id ≤ 1000000) (hh : s.holdsOf id ≤ 1000000) :
    Calls Try.prog 55 #[tp x, .int .i64 (id : Int)] w fun e w' => ∃ v, e = .returned v ∧ SetPost x w0 P0 s ld id v w' := by
  have H := Lib.hid h
  obtain ⟨mo, mp, D, E, bl, h⟩ := h
  have lk := h.look hn hid
  have c0 : w.cell? ⟨x, 0, none⟩ = some (.map mo) := h.tab.cell 0
  have d1 : w.cell? ⟨bl id, 1, none⟩ = some (.int .i64 (ld id : Int)) := (h.ent id hid).cell 1
  have d2 : w.cell? ⟨bl id, 2, none⟩ = some (.int .i64 (s.holdsOf id : Int)) := (h.ent id hid).cell 2
  by_cases h1 : ld id = 0
  · by_cases h2 : s.holdsOf id = 0
    · obtain ⟨b, rfl, hown⟩ : ∃ b, mo = some b ∧ w.ownsMap Try.prog intT heldV b s.os.length D := by
        rcases h.obs with ⟨rfl, hD⟩ | h3
        · have := h.dat.yes id hid (.map [])
          rw [hD] at this
          simp [DataW.atKey] at this
        · exact h3
      obtain ⟨w2, hrun, hown2, hturn⟩ := hown.drop lawI Try.underlying55 (keyI (n := (id : Int)) (by have := isThere_pos hid; omega)) 0
      have hrun' : ∀ ty, (Builtin.delete_ #[mapOT, intT] ty #[.map (some b), .int .i64 (id : Int)]).run Try.prog w = .ok (.tuple #[]) w2 := fun ty => hrun
      have HG := Lib.hid (h.gone hid rfl ⟨s.kindOf id, s.holdsOf id, false⟩ rfl hown2 hturn)
      have HP : Hid (∀ A c w', RowI w0.heap.size w' A [id] → PG x w0 P0 (s.setObj id ⟨s.kindOf id, s.holdsOf id, false⟩) ld w' → SetPost x w0 P0 s ld id (.slice A 1 c) w') := fun A c w' h3 h4 => ⟨fun _ => ⟨A, c, rfl, h3, h4⟩, fun h5 => absurd (by omega) h5⟩
      have HR : Hid (RowI w0.heap.size (w2.alloc (.cells #[.int .i64 (id : Int)] intT)) (some ⟨w2.heap.size, 0, none⟩) [id]) := row_one w2 id HG.out.keeps.size
      rw [h1] at d1
      rw [h2] at d2
      clear h hid hn hl hh hown hrun hown2 hturn H
      go_enter Try.func55, Try.ntmps55
      go_wp2_with fail
      go_ret
      exact ⟨_, rfl, HP.out _ _ _ HR.out (PG.quiet ⟨_, _, _, _, _, HG.out⟩ ((Keeps.refl _ w2).alloc _))⟩
    · have HP : Hid (SetPost x w0 P0 s ld id (.slice none 0 0) w) := ⟨fun h3 => absurd h3 (by omega), fun _ => ⟨rfl, H.out⟩⟩
      rw [h1] at d1
      have g2 : decide ((0 : Int) < (s.holdsOf id : Int)) = true := decide_eq_true (by omega)
      have g3 : decide (0 < s.holdsOf id) = true := decide_eq_true (by omega)
      clear h hid hn hl hh h2 h1 H
      generalize s.holdsOf id = q at *
      generalize bl id = b at *
      go_enter Try.func55, Try.ntmps55
      go_wp2_with fail
      go_ret
      exact ⟨_, rfl, HP.out⟩
  · have HP : Hid (SetPost x w0 P0 s ld id (.slice none 0 0) w) := ⟨fun h3 => absurd h3 (by omega), fun _ => ⟨rfl, H.out⟩⟩
    have g2 : decide ((0 : Int) < (ld id : Int)) = true := decide_eq_true (by omega)
    have g3 : decide (0 < ld id) = true := decide_eq_true (by omega)
    clear h hid hn hl hh h1 H
    generalize s.holdsOf id = q at *
    generalize ld id = a at *
    generalize bl id = b at *
    go_enter Try.func55, Try.ntmps55
    go_wp2_with fail
    go_ret
    exact ⟨_, rfl, HP.out⟩
end
end Go.Proofs.Ytmohbdbofehamaa
