/-
  Layer 7: member.
-/
import Derived.Test.YthilkgfbaddjpaaDoorLCheck
import Derived.Laws.ResultCell
import Derived.Deep.RegionWith
namespace Go.Proofs.YthilkgfbaddjpaaDoor
open Go Go.RowKit
set_option linter.unusedVariables false
set_option linter.unusedSimpArgs false
set_option maxRecDepth 100000
theorem results_row_tmp {P : Program} {fn : Func} {p u : Tmp} {ty : TypeId} (h : fn.results = #[.cell p ty, .tmp u]) (tmps : Array Value) (w : World) (g : Nat) (t : TypeId) (cs : Array Value) (fr : Nat × Nat) (d : TypeDesc)
    (hp : tmps.getD p undef = .pointer (some ⟨g, 0, none⟩)) (hg : w.heap[g]? = some (.cells cs t fr))
    (hu : P.underlying ty = some d) (hd : (match d with | .struct _ | .array _ _ => true | _ => false) = true) (hi : (P.info? ty).map (·.size) = some cs.size) :
    (results fn tmps).run P w = .ok (.tuple #[.agg cs, tmps.getD u undef]) w := by
  rw [results_cell_tmp h, hp]
  simp [asAddr, Result.andThen, run_loadVar_row w g t ty cs fr d hg hu hd hi]
def memV (m : Mem) : Value := .agg #[.string m.name, .int .i64 m.ty, .int .i64 m.off]
def noMem : Mem := ⟨⟨#[]⟩, 0, 0⟩
def memF (t : Ty) (name : ByteArray) : Option Mem := if t.kind = 4 ∧ name.toList ≠ [] then t.mems.find? (fun m => m.name.toList == name.toList) else none
def PostMem (w : World) (a : Nat → Addr) (r : Option Mem) (e : Ending) (w' : World) : Prop :=
  Below w.heap.size w w' ∧ ((∃ m, r = some m ∧ e = .returned (.tuple #[memV m, .nilIface])) ∨ (r = none ∧ e = .returned (.tuple #[memV noMem, sent a 2])))
theorem Blk.three {w : World} {g : Nat} {t : TypeId} {a0 a1 a2 : Value} (h : Blk w g t #[a0, a1, a2]) (b0 b1 b2 : Value) :
    Blk (((w.setCell ⟨g, 0, none⟩ b0).setCell ⟨g, 1, none⟩ b1).setCell ⟨g, 2, none⟩ b2) g t #[b0, b1, b2] :=
  ((h.set_ 0 b0).set_ 1 b1).set_ 2 b2
theorem find_hit {α : Type} (p : α → Bool) (l : List α) (k : Nat) (m : α) (hm : l[k]? = some m) (h : (l.take k).find? p = none) (hp : p m = true) : l.find? p = some m := by
  have hlt : k < l.length := (List.getElem?_eq_some_iff.1 hm).1
  have e : l[k] = m := (List.getElem?_eq_some_iff.1 hm).2
  rw [← List.take_append_drop k l, List.find?_append, h, List.drop_eq_getElem_cons hlt, e]
  simp [List.find?_cons, hp]
theorem find_miss {α : Type} (p : α → Bool) (l : List α) (k : Nat) (m : α) (hm : l[k]? = some m) (h : (l.take k).find? p = none) (hp : p m = false) : (l.take (k + 1)).find? p = none := by
  rw [List.take_add_one, hm, List.find?_append, h]
  simp [List.find?_cons, hp]
theorem Good.strip_le {l : List Ty} (h : Good l) : ∀ (f j : Nat), j ≤ l.length → stripF l f j ≤ l.length
  | 0, j, hj => hj
  | f + 1, j, hj => by
    unfold stripF
    split
    · rename_i h8
      have := h.typedef hj h8
      exact h.strip_le f _ (by omega)
    · exact hj
section
variable {w : World} {a : Nat → Addr} {A : Option Addr} {cl : Nat} {l : List Ty} {τ Z : Nat} {zs : List (Int × Nat)}
set_option maxHeartbeats 4000000 in
theorem member_yes (hG : Good l) (h : TX w a A cl l τ Z zs) (j : Nat) (hj : j ≤ l.length) (hms : ∀ t ∈ l, t.mems.length ≤ 1048576) (name : ByteArray) (hnm : name.size ≤ 9223372036854775807) :
    Calls Tryd.prog 24 #[.pointer (some ⟨τ, 0, none⟩), .int .i64 j, .string name] w (PostMem w a (memF (tyAt l (stripS l j)) name)) := by
  have b2 : Below w.heap.size w (w.alloc (.cells #[.string ⟨#[]⟩, .int .i64 0, .int .i64 0] 60)) := (Below.refl _ w).alloc (Nat.le_refl _) _
  have HX1 := h.below b2
  have CS := Lib.hid (strip_yes hG HX1 j hj)
  have hle : stripS l j ≤ l.length := hG.strip_le 2000 j hj
  have HT := Lib.hid (Blk.new w 60 #[.string ⟨#[]⟩, .int .i64 0, .int .i64 0])
  have B1 := Lib.hid b2
  have H := Lib.hid h
  have HLE := Lib.hid hle
  have HG := Lib.hid hG
  clear h hG HX1 hj hle b2
  go_enter Tryd.func24, Tryd.ntmps24
  go_upto_region 1 with fail
  generalize World.alloc _ _ = w1 at CS HT B1 ⊢
  go_upto_region 4 with (go_at_call 16; refine CS.out.mono ?_; rintro e w2 ⟨rfl, hb⟩; have B2 := Lib.hid (B1.out.trans (hb.mono B1.out.size)); have HT2 := Lib.hid (HT.out.below_ hb); clear hb)
  generalize stripS l j = s at *
  have CA := Lib.hid (at_any (H.out.below B2.out) s HLE.out)
  have hlen : (tyAt l s).mems.length ≤ 1048576 := by
    unfold tyAt
    split
    · simp [noTy]
    · rw [List.getD_eq_getElem?_getD]
      cases e : l[s - 1]? with
      | none => simp [noTy]
      | some t => exact hms t (List.mem_of_getElem? e)
  clear hms
  generalize tyAt l s = t at *
  obtain ⟨kd, nm, sz, ty, ct, ms⟩ := t
  unfold PostAt tyV at CA
  simp only at CA hlen
  go_upto_region 5 with (go_at_call 27; refine CA.out.mono ?_; rintro e w3 ⟨hb, A', c', rfl, hm⟩; have B3 := Lib.hid (B2.out.trans (hb.mono B2.out.size)); have HT3 := Lib.hid (HT2.out.below_ hb); have HM := Lib.hid hm; clear hb hm)
  have b4 : Below w3.heap.size w3 (w3.alloc (.cells #[.int .i64 kd, .string nm, .int .i64 sz, .int .i64 ty, .int .i64 ct, .slice A' ms.length c'] 34)) := (Below.refl _ w3).alloc (Nat.le_refl _) _
  have BT := Lib.hid (Blk.new w3 34 #[.int .i64 kd, .string nm, .int .i64 sz, .int .i64 ty, .int .i64 ct, .slice A' ms.length c'])
  have B4 := Lib.hid (B3.out.trans (b4.mono B3.out.size))
  have HT4 := Lib.hid (HT3.out.below_ b4)
  have HM4 := Lib.hid (HM.out.below b4)
  clear b4 HT HT2 HT3 B1 B2 B3 CA CS HM
  generalize World.alloc _ _ = w4 at BT B4 HT4 HM4 ⊢
  have y0 : w4.cell? ⟨w3.heap.size, 0, none⟩ = some (.int .i64 kd) := BT.out.cell 0
  have y5 : w4.cell? ⟨w3.heap.size, 5, none⟩ = some (.slice A' ms.length c') := BT.out.cell 5
  by_cases k4 : kd = 4
  · subst k4
    by_cases hne : name.toList = []
    · have g1 : name.toList.isEmpty = true := by rw [hne]; rfl
      have HN : Hid (memF ⟨4, nm, sz, ty, ct, ms⟩ name = none) := if_neg (fun h => h.2 hne)
      clear y5
      go_upto_region 12 with fail
      have d2 : w4.cell? ⟨2, 0, none⟩ = some (sent a 2) := (H.out.env.below B4.out).cell 2 (by decide)
      have e0 : w4.cell? ⟨w.heap.size, 0, none⟩ = some (.string ⟨#[]⟩) := HT4.out.cell 0
      have e1 : w4.cell? ⟨w.heap.size, 1, none⟩ = some (.int .i64 0) := HT4.out.cell 1
      have e2 : w4.cell? ⟨w.heap.size, 2, none⟩ = some (.int .i64 0) := HT4.out.cell 2
      have e3 : w4.frozen? ⟨w.heap.size, 0, none⟩ = false := HT4.out.frozen 0
      have e4 : w4.frozen? ⟨w.heap.size, 1, none⟩ = false := HT4.out.frozen 1
      have e5 : w4.frozen? ⟨w.heap.size, 2, none⟩ = false := HT4.out.frozen 2
      have d3 : (((w4.setCell ⟨w.heap.size, 0, none⟩ (.string ⟨#[]⟩)).setCell ⟨w.heap.size, 1, none⟩ (.int .i64 0)).setCell ⟨w.heap.size, 2, none⟩ (.int .i64 0)).cell? ⟨2, 0, none⟩ = some (sent a 2) := (H.out.env.below (belowSet (belowSet (belowSet B4.out (Nat.le_refl _) 0 _) (Nat.le_refl _) 1 _) (Nat.le_refl _) 2 _)).cell 2 (by decide)
      have n2 : 2 ≠ w.heap.size := by have := H.out.env.lt; omega
      have n3 : w.heap.size ≠ 2 := n2.symm
      go_region
      all_goals (
        go_wp2
        refine bodyPost_ret (results_row_tmp rfl _ _ w.heap.size 60 _ (0, 0) _ rfl (HT4.out.three (.string ⟨#[]⟩) (.int .i64 0) (.int .i64 0)) Tryd.underlying60 rfl (by kernel_rfl)) rfl ?_
        exact ⟨(belowSet (belowSet (belowSet B4.out (Nat.le_refl _) 0 _) (Nat.le_refl _) 1 _) (Nat.le_refl _) 2 _).trans (belowDrew' _), .inr ⟨HN.out, rfl⟩⟩)
    · have g1 : name.toList.isEmpty = false := by simpa using hne
      have HF : Hid (memF ⟨4, nm, sz, ty, ct, ms⟩ name = ms.find? (fun m => m.name.toList == name.toList)) := if_pos ⟨rfl, hne⟩
      have HNE := Lib.hid hne
      clear hne
      go_upto_region 7 with fail
      have HX4 := Lib.hid (H.out.below B4.out)
      clear y0 y5 BT
      have i1 : (ms.length : Int) ≤ 1048576 := by omega
      go_loopw [12, 36] (fun _ i wr => ∃ k : Nat, k ≤ ms.length ∧ i = .int .i64 k ∧ Below w4.heap.size w4 wr ∧ (ms.take k).find? (fun m => m.name.toList == name.toList) = none) (fun _ i _ => ms.length - (intOf i).toNat)
      case atStart => exact ⟨0, Nat.zero_le _, rfl, Below.refl _ _, rfl⟩
      case round =>
        obtain ⟨k, hk, rfl, hb, hall⟩ := hrel
        have HB := Lib.hid hb
        have HALL := Lib.hid hall
        clear hb hall
        by_cases hkn : k < ms.length
        · obtain ⟨m, hmk⟩ : ∃ m, ms[k]? = some m := ⟨_, List.getElem?_eq_getElem hkn⟩
          obtain ⟨bM, oM, rfl, hltM, u0, u1, u2, hms⟩ := (HM4.out.below HB.out) k m hmk
          have HIT : Hid ((fun m : Mem => m.name.toList == name.toList) m = true → ms.find? (fun m => m.name.toList == name.toList) = some m) := find_hit _ _ _ _ hmk HALL.out
          have MISS : Hid ((fun m : Mem => m.name.toList == name.toList) m = false → (ms.take (k + 1)).find? (fun m => m.name.toList == name.toList) = none) := find_miss _ _ _ _ hmk HALL.out
          obtain ⟨mn, mt, mo⟩ := m
          simp only at u0 u1 u2 hms
          have g1 : decide (k < ms.length) = true := by simpa using hkn
          have i2 : (k : Int) < (ms.length : Int) := by omega
          have i3 : (0 : Int) ≤ (k : Int) := by omega
          have HK : Hid (k < ms.length) := hkn
          have b5 : Below wr.heap.size wr (wr.alloc (.cells #[.string mn, .int .i64 mt, .int .i64 mo] 60)) := (Below.refl _ wr).alloc (Nat.le_refl _) _
          have HM5 := Lib.hid (Blk.new wr 60 #[.string mn, .int .i64 mt, .int .i64 mo])
          have B5 := Lib.hid (HB.out.trans (b5.mono HB.out.size))
          clear hkn hmk b5
          go_upto_region 9 with fail
          generalize World.alloc _ _ = w5 at HM5 B5 ⊢
          clear u0 u1 u2
          have m0 : w5.cell? ⟨wr.heap.size, 0, none⟩ = some (.string mn) := HM5.out.cell 0
          have m1 : w5.cell? ⟨wr.heap.size, 1, none⟩ = some (.int .i64 mt) := HM5.out.cell 1
          have m2 : w5.cell? ⟨wr.heap.size, 2, none⟩ = some (.int .i64 mo) := HM5.out.cell 2
          by_cases heq : mn.toList = name.toList
          · have g2 : (mn.toList == name.toList) = true := by simpa using heq
            have HF2 := Lib.hid (HF.out.trans (HIT.out g2))
            have HT5 := Lib.hid (HT4.out.below_ B5.out)
            have B6 := Lib.hid (B4.out.trans (B5.out.mono B4.out.size))
            have e0 : w5.cell? ⟨w.heap.size, 0, none⟩ = some (.string ⟨#[]⟩) := HT5.out.cell 0
            have e1 : w5.cell? ⟨w.heap.size, 1, none⟩ = some (.int .i64 0) := HT5.out.cell 1
            have e2 : w5.cell? ⟨w.heap.size, 2, none⟩ = some (.int .i64 0) := HT5.out.cell 2
            have e3 : w5.frozen? ⟨w.heap.size, 0, none⟩ = false := HT5.out.frozen 0
            have e4 : w5.frozen? ⟨w.heap.size, 1, none⟩ = false := HT5.out.frozen 1
            have e5 : w5.frozen? ⟨w.heap.size, 2, none⟩ = false := HT5.out.frozen 2
            clear heq HIT MISS
            go_wp2_with fail
            refine bodyPost_ret (results_row_tmp rfl _ _ w.heap.size 60 _ (0, 0) _ rfl (HT5.out.three (.string mn) (.int .i64 mt) (.int .i64 mo)) Tryd.underlying60 rfl (by kernel_rfl)) rfl ?_
            exact ⟨belowSet (belowSet (belowSet B6.out (Nat.le_refl _) 0 _) (Nat.le_refl _) 1 _) (Nat.le_refl _) 2 _, .inl ⟨_, HF2.out, rfl⟩⟩
          · have g2 : (mn.toList == name.toList) = false := by simpa using heq
            have HM2 := Lib.hid (MISS.out g2)
            clear heq HIT MISS
            go_wp2_with fail
            go_roundw
            case rel => exact ⟨k + 1, HK.out, by go_num, B5.out, HM2.out⟩
            case measure => have := HK.out; simp [intOf]; omega
        · have : k = ms.length := by omega
          subst this
          have g1 : decide (ms.length < ms.length) = false := by simp
          have HN : Hid (memF ⟨4, nm, sz, ty, ct, ms⟩ name = none) := by have := HALL.out; rw [List.take_length] at this; exact HF.out.trans this
          have HTr := Lib.hid (HT4.out.below_ HB.out)
          have Br := Lib.hid (B4.out.trans (HB.out.mono B4.out.size))
          clear hkn hk
          go_upto_region 12 with fail
          have d2 : wr.cell? ⟨2, 0, none⟩ = some (sent a 2) := (H.out.env.below Br.out).cell 2 (by decide)
          have e0 : wr.cell? ⟨w.heap.size, 0, none⟩ = some (.string ⟨#[]⟩) := HTr.out.cell 0
          have e1 : wr.cell? ⟨w.heap.size, 1, none⟩ = some (.int .i64 0) := HTr.out.cell 1
          have e2 : wr.cell? ⟨w.heap.size, 2, none⟩ = some (.int .i64 0) := HTr.out.cell 2
          have e3 : wr.frozen? ⟨w.heap.size, 0, none⟩ = false := HTr.out.frozen 0
          have e4 : wr.frozen? ⟨w.heap.size, 1, none⟩ = false := HTr.out.frozen 1
          have e5 : wr.frozen? ⟨w.heap.size, 2, none⟩ = false := HTr.out.frozen 2
          have d3 : (((wr.setCell ⟨w.heap.size, 0, none⟩ (.string ⟨#[]⟩)).setCell ⟨w.heap.size, 1, none⟩ (.int .i64 0)).setCell ⟨w.heap.size, 2, none⟩ (.int .i64 0)).cell? ⟨2, 0, none⟩ = some (sent a 2) := (H.out.env.below (belowSet (belowSet (belowSet Br.out (Nat.le_refl _) 0 _) (Nat.le_refl _) 1 _) (Nat.le_refl _) 2 _)).cell 2 (by decide)
          have n2 : 2 ≠ w.heap.size := by have := H.out.env.lt; omega
          have n3 : w.heap.size ≠ 2 := n2.symm
          go_region
          all_goals (
            go_wp2
            refine bodyPost_ret (results_row_tmp rfl _ _ w.heap.size 60 _ (0, 0) _ rfl (HTr.out.three (.string ⟨#[]⟩) (.int .i64 0) (.int .i64 0)) Tryd.underlying60 rfl (by kernel_rfl)) rfl ?_
            exact ⟨(belowSet (belowSet (belowSet Br.out (Nat.le_refl _) 0 _) (Nat.le_refl _) 1 _) (Nat.le_refl _) 2 _).trans (belowDrew' _), .inr ⟨HN.out, rfl⟩⟩)
  · have g4 : (kd == 4) = false := by simpa using k4
    have HN : Hid (memF ⟨kd, nm, sz, ty, ct, ms⟩ name = none) := if_neg (fun h => k4 h.1)
    clear k4 y5
    go_upto_region 12 with fail
    have d2 : w4.cell? ⟨2, 0, none⟩ = some (sent a 2) := (H.out.env.below B4.out).cell 2 (by decide)
    have e0 : w4.cell? ⟨w.heap.size, 0, none⟩ = some (.string ⟨#[]⟩) := HT4.out.cell 0
    have e1 : w4.cell? ⟨w.heap.size, 1, none⟩ = some (.int .i64 0) := HT4.out.cell 1
    have e2 : w4.cell? ⟨w.heap.size, 2, none⟩ = some (.int .i64 0) := HT4.out.cell 2
    have e3 : w4.frozen? ⟨w.heap.size, 0, none⟩ = false := HT4.out.frozen 0
    have e4 : w4.frozen? ⟨w.heap.size, 1, none⟩ = false := HT4.out.frozen 1
    have e5 : w4.frozen? ⟨w.heap.size, 2, none⟩ = false := HT4.out.frozen 2
    have d3 : (((w4.setCell ⟨w.heap.size, 0, none⟩ (.string ⟨#[]⟩)).setCell ⟨w.heap.size, 1, none⟩ (.int .i64 0)).setCell ⟨w.heap.size, 2, none⟩ (.int .i64 0)).cell? ⟨2, 0, none⟩ = some (sent a 2) := (H.out.env.below (belowSet (belowSet (belowSet B4.out (Nat.le_refl _) 0 _) (Nat.le_refl _) 1 _) (Nat.le_refl _) 2 _)).cell 2 (by decide)
    have n2 : 2 ≠ w.heap.size := by have := H.out.env.lt; omega
    have n3 : w.heap.size ≠ 2 := n2.symm
    go_region
    all_goals (
      go_wp2
      refine bodyPost_ret (results_row_tmp rfl _ _ w.heap.size 60 _ (0, 0) _ rfl (HT4.out.three (.string ⟨#[]⟩) (.int .i64 0) (.int .i64 0)) Tryd.underlying60 rfl (by kernel_rfl)) rfl ?_
      exact ⟨(belowSet (belowSet (belowSet B4.out (Nat.le_refl _) 0 _) (Nat.le_refl _) 1 _) (Nat.le_refl _) 2 _).trans (belowDrew' _), .inr ⟨HN.out, rfl⟩⟩)
end
end Go.Proofs.YthilkgfbaddjpaaDoor
