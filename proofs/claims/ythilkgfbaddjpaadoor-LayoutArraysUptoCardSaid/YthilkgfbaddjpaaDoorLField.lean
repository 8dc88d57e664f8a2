/-
  Layer 7: field.
-/
import Derived.Test.YthilkgfbaddjpaaDoorLMember
namespace Go.Proofs.YthilkgfbaddjpaaDoor
open Go Go.RowKit
set_option linter.unusedVariables false
set_option linter.unusedSimpArgs false
set_option maxRecDepth 100000
def walkP (l : List Ty) : List ByteArray → Int → Nat → Option (Int × Nat)
  | [], off, id => some (off, id)
  | nm :: ps, off, id => (memF (tyAt l (stripS l id)) nm).bind fun m => walkP l ps (off + m.off / 8) m.ty.toNat
theorem walkP_cons (l : List Ty) (nm : ByteArray) (ps : List ByteArray) (off : Int) (id : Nat) : walkP l (nm :: ps) off id = (memF (tyAt l (stripS l id)) nm).bind fun m => walkP l ps (off + m.off / 8) m.ty.toNat := rfl
def StrAt (w : World) (P : Option Addr) (ps : List ByteArray) : Prop := ∀ i s, ps[i]? = some s → ∃ b off, P = some ⟨b, off, none⟩ ∧ b < w.heap.size ∧ w.cell? ⟨b, off + i, none⟩ = some (.string s) ∧ s.size ≤ 9223372036854775807
theorem StrAt.below {w w' : World} {P : Option Addr} {ps : List ByteArray} (h : StrAt w P ps) (hb : Below w.heap.size w w') : StrAt w' P ps := by
  intro i s hs
  obtain ⟨b, off, rfl, hlt, c0, hn⟩ := h i s hs
  exact ⟨b, off, rfl, Nat.lt_of_lt_of_le hlt hb.size, by rw [hb.cell (by simpa using hlt)]; exact c0, hn⟩
theorem tyAt_mem {l : List Ty} {j : Nat} (hj : j ≤ l.length) (hk : (tyAt l j).kind = 4) : tyAt l j ∈ l := by
  have h0 : j ≠ 0 := by
    rintro rfl
    unfold tyAt noTy at hk
    simp at hk
  obtain ⟨t, ht⟩ : ∃ t, l[j - 1]? = some t := ⟨_, List.getElem?_eq_getElem (by omega)⟩
  have hat : tyAt l j = t := by unfold tyAt; rw [if_neg h0, List.getD_eq_getElem?_getD, ht]; rfl
  rw [hat]
  exact List.mem_of_getElem? ht
/-- What a member that was found obeys. -/
theorem Good.member {l : List Ty} (h : Good l) {j : Nat} (hj : j ≤ l.length) {nm : ByteArray} {m : Mem} (hm : memF (tyAt l j) nm = some m) :
    1 ≤ m.ty ∧ m.ty ≤ l.length ∧ 0 ≤ m.off ∧ (tyAt l j).kind = 4 ∧ m ∈ (tyAt l j).mems ∧ m.off / 8 + ((szL l).getD m.ty.toNat (0, 0)).1 ≤ (tyAt l j).size ∧ (tyAt l j).size ≤ 65536 := by
  unfold memF at hm
  split at hm
  · rename_i hk
    have ht := tyAt_mem hj hk.1
    have hmm : m ∈ (tyAt l j).mems := List.mem_of_find?_eq_some hm
    have ha := List.all_eq_true.1 h.alone _ ht
    have hb := alone_mems ha hk.1 m hmm
    unfold memB leadsB at hb
    simp at hb
    have hok := List.all_eq_true.1 h.mems _ ht
    unfold okM withinB at hok
    rw [if_pos hk.1] at hok
    have hin := List.all_eq_true.1 hok m hmm
    unfold inB at hin
    simp only [decide_eq_true_eq] at hin
    have hsz : (tyAt l j).size ≤ 65536 := by
      unfold aloneB at ha
      simp [hk.1] at ha
      exact ha.2.1
    exact ⟨hb.1.1, hb.1.2, hb.2.1, hk.1, hmm, hin, hsz⟩
  · cases hm
theorem fair_get {zs : List (Int × Nat)} (hz : ∀ z ∈ zs, Fair z) (i : Nat) : Fair (zs.getD i (0, 0)) := by
  rw [List.getD_eq_getElem?_getD]
  cases e : zs[i]? with
  | none => exact ⟨by simp, by simp⟩
  | some z => exact hz z (List.mem_of_getElem? e)
section
variable {w : World} {a : Nat → Addr} {A : Option Addr} {cl : Nat} {l : List Ty} {τ Z : Nat} {zs : List (Int × Nat)}
def PostField (w : World) (a : Nat → Addr) (r : Option (Int × Nat)) (e : Ending) (w' : World) : Prop :=
  Below w.heap.size w w' ∧ ((∃ x : Int × Nat, r = some x ∧ e = .returned (.tuple #[.int .i64 x.1, .int .i64 x.2, .nilIface])) ∨ (r = none ∧ e = .returned (.tuple #[.int .i64 0, .int .i64 0, sent a 2])))
set_option maxHeartbeats 4000000 in
theorem field_yes (hG : Good l) (h : TX w a A cl l τ Z zs) (j : Nat) (hj : j ≤ l.length) (hms : ∀ t ∈ l, t.mems.length ≤ 1048576) (P : Option Addr) (cp : Nat) (ps : List ByteArray) (hP : StrAt w P ps) (hps : ps.length ≤ 1048576) :
    Calls Tryd.prog 11 #[.pointer (some ⟨τ, 0, none⟩), .int .i64 j, .slice P ps.length cp] w (PostField w a (walkP l ps 0 j)) := by
  have CH := Lib.hid (has_any h j)
  rw [show hasB (j : Int) l.length = true by unfold hasB leadsB; rcases Nat.eq_zero_or_pos j with e | e <;> simp <;> omega] at CH
  have i1 : (ps.length : Int) ≤ 1048576 := by omega
  have H := Lib.hid h
  have HG := Lib.hid hG
  have HJ := Lib.hid hj
  have HMS := Lib.hid hms
  have HP := Lib.hid hP
  clear h hG hj hms hP hps
  go_enter Tryd.func11, Tryd.ntmps11
  go_upto_region 5 with (go_at_call 23; refine CH.out.mono ?_; rintro e w1 ⟨rfl, rfl⟩)
  clear CH
  go_loopw [1, 9, 11, 12, 13, 21, 25] (fun u v _ _ _ i _ wr => ∃ (k : Nat) (off : Int) (id : Nat), k ≤ ps.length ∧ u = .int .i64 id ∧ v = .int .i64 off ∧ i = .int .i64 k ∧ id ≤ l.length ∧ 0 ≤ off ∧ off ≤ 65536 * k ∧ Below w.heap.size w wr ∧ walkP l ps 0 j = walkP l (ps.drop k) off id) (fun _ _ _ _ _ i _ _ => ps.length - (intOf i).toNat)
  case atStart => exact ⟨0, 0, j, Nat.zero_le _, rfl, rfl, rfl, HJ.out, Int.le_refl _, by omega, Below.refl _ _, rfl⟩
  case round =>
    obtain ⟨k, off, id, hk, rfl, rfl, rfl, hid, h0, h1, hb, hwk⟩ := hrel
    have HB := Lib.hid hb
    have HWK := Lib.hid hwk
    have HID := Lib.hid hid
    clear hb hwk
    by_cases hkn : k < ps.length
    · obtain ⟨s, hs⟩ : ∃ s, ps[k]? = some s := ⟨_, List.getElem?_eq_getElem hkn⟩
      have es : ps[k] = s := (List.getElem?_eq_some_iff.1 hs).2
      obtain ⟨bP, oP, rfl, hltP, u0, hsz⟩ := (HP.out.below HB.out) k s hs
      have CM := Lib.hid (member_yes HG.out (H.out.below HB.out) id hid HMS.out s hsz)
      have hgm := fun m => HG.out.member (j := stripS l id) (nm := s) (m := m) (HG.out.strip_le 2000 id hid)
      have hwk2 := HWK.out
      rw [List.drop_eq_getElem_cons hkn, es, walkP_cons] at hwk2
      have HW2 := Lib.hid hwk2
      have g1 : decide (k < ps.length) = true := by simpa using hkn
      have i2 : (k : Int) < (ps.length : Int) := by omega
      have i3 : (0 : Int) ≤ (k : Int) := by omega
      have HK : Hid (k < ps.length) := hkn
      have HF := Lib.hid HG.out.fair
      have HGM := Lib.hid hgm
      clear hkn hs es hwk2 hid hsz hgm
      generalize memF (tyAt l (stripS l id)) s = r at *
      unfold PostMem memV noMem at CM
      simp only at CM
      cases r with
      | none =>
        have HN : Hid (walkP l ps 0 j = none) := HW2.out
        go_wp2_with (go_at_call 24; refine CM.out.mono ?_; rintro e w2 ⟨hb, ⟨_, hq, _⟩ | ⟨_, rfl⟩⟩; (cases hq); have B2 := Lib.hid (HB.out.trans (hb.mono HB.out.size)); clear hb)
        go_ret3
        exact ⟨B2.out.alloc B2.out.size _, .inr ⟨HN.out, rfl⟩⟩
      | some m =>
        obtain ⟨m1, m2, m3, _, _, m6, m7⟩ := HGM.out m rfl
        have m8 := fair_get HF.out m.ty.toNat
        unfold Fair at m8
        have HN : Hid (walkP l ps 0 j = walkP l (ps.drop (k + 1)) (off + m.off / 8) m.ty.toNat) := HW2.out
        obtain ⟨mn, mt, mo⟩ := m
        simp only at m1 m2 m3 m6 m8 HN CM
        obtain ⟨q, rfl⟩ : ∃ q : Nat, mt = (q : Int) := ⟨mt.toNat, by omega⟩
        rw [Int.toNat_natCast] at HN
        have HQ : Hid (q ≤ l.length) := by show _ ≤ _; omega
        have n1 : mo / 8 ≤ 65536 := by omega
        have n2 : 0 ≤ mo / 8 := by omega
        have hwr : IntKind.i64.wrap (off + mo / 8) = off + mo / 8 := IntWalk.i64_in _ (by omega)
        have HOFF : Hid (0 ≤ off + mo / 8 ∧ off + mo / 8 ≤ 65536 * ((k + 1 : Nat) : Int)) := ⟨by omega, by omega⟩
        clear m1 m2 m6 m7 m8
        go_upto_region 8 with (go_at_call 24; refine CM.out.mono ?_; rintro e w2 ⟨hb, ⟨m, hq, rfl⟩ | ⟨hq, _⟩⟩; rotate_left; (cases hq); cases hq; have B2 := Lib.hid (HB.out.trans (hb.mono HB.out.size)); clear hb)
        have b3 : Below w2.heap.size w2 (w2.alloc (.cells #[.string mn, .int .i64 (q : Int), .int .i64 mo] 60)) := (Below.refl _ w2).alloc (Nat.le_refl _) _
        have HM3 := Lib.hid (Blk.new w2 60 #[.string mn, .int .i64 (q : Int), .int .i64 mo])
        have B3 := Lib.hid (B2.out.trans (b3.mono B2.out.size))
        clear b3
        generalize World.alloc _ _ = w3 at HM3 B3 ⊢
        have e1 : w3.cell? ⟨w2.heap.size, 1, none⟩ = some (.int .i64 (q : Int)) := HM3.out.cell 1
        have e2 : w3.cell? ⟨w2.heap.size, 2, none⟩ = some (.int .i64 mo) := HM3.out.cell 2
        go_upto_region 10 with fail
        go_quiet (fail)
        have B4 := Lib.hid (B3.out.trans ((belowDrew w3 nq).mono B3.out.size))
        generalize World.drewN _ _ = w4 at B4 ⊢
        clear e1 e2 u0
        go_wp2
        go_roundw
        case rel => exact ⟨k + 1, off + mo / 8, q, HK.out, rfl, rfl, by go_num, HQ.out, HOFF.out.1, HOFF.out.2, B4.out, HN.out⟩
        case measure => have := HK.out; simp [intOf]; omega
    · have : k = ps.length := by omega
      subst this
      have g1 : decide (ps.length < ps.length) = false := by simp
      have HN : Hid (walkP l ps 0 j = some (off, id)) := by have := HWK.out; rw [List.drop_length] at this; exact this
      clear hkn hk
      go_wp2_with fail
      go_ret3
      exact ⟨HB.out, .inl ⟨_, HN.out, rfl⟩⟩
end
end Go.Proofs.YthilkgfbaddjpaaDoor
