/-
  Layer 6: the writer lays numbers, and a name's place.
-/
import Derived.Test.YtmfdojmecpdikaaBWm
namespace Go.Proofs.Ytmfdojmecpdikaa
open Go Go.RowKit Go.Maps
set_option linter.unusedVariables false
set_option linter.unusedSimpArgs false
set_option maxRecDepth 100000
def IntRow (w : World) (A : Option Addr) : Prop := ∀ a, A = some a → ∃ cs fr, w.heap[a.block]? = some (.cells cs 3 fr)
theorem rowB_int {w : World} {base : Nat} {v : Value} {l : List UInt8} {A : Option Addr} (h : RowB w base v l) (hA : IntRow w A) : ∀ a, A = some a → v.ownBlock ≠ some a.block := by
  intro a ha hb
  obtain ⟨_, _, cur, fr, h1⟩ := h.tag _ hb
  obtain ⟨cs, fr', h2⟩ := hA a ha
  rw [h1] at h2
  have : (5 : TypeId) ≠ 3 := by decide
  injection h2 with h2
  injection h2 with _ h3
  exact this h3
set_option maxHeartbeats 2000000 in
theorem numbersW_any {w : World} {base g mb n : Nat} {st : WS} {tv nv : Value} (h : WM w base g st tv nv mb n) (hn : n ≤ st.es.length + 1) (hbase : base ≤ w.heap.size) (A : Option Addr) (c : Nat) (ns : List Int) (hI : IntsAt w A ns) (hA : IntRow w A)
    (hl : st.ts.length + 4 * ns.length ≤ 140737488355328) :
    Calls Try.prog 27 #[.pointer (some ⟨g, 0, none⟩), .slice A ns.length c] w (PostW w base g (numsW st ns) (.returned (.tuple #[]))) := by
  have c0 : w.cell? ⟨g, 0, none⟩ = some tv := h.blk.cell 0
  have CA := Lib.hid (appendNumbers_any h.ts A c ns hI (rowB_int h.ts hA) hbase hl)
  have H := Lib.hid h
  have HN := Lib.hid hn
  obtain ⟨A0, c00, htv⟩ := h.ts.form
  have HTV := Lib.hid htv
  have hne := h.tv_ne.1
  have HNE := Lib.hid hne
  have hlt := h.blk.lt
  have HLT := Lib.hid hlt
  have hblk := h.blk
  have HB := Lib.hid hblk
  clear h hn hI hA htv hne hlt hblk
  go_enter Try.func27, Try.ntmps27
  go_wp2_with (go_at_call 29; refine CA.out.mono ?_; rintro e w1 ⟨v', rfl, hr, hg, hp⟩; have hbk : Blk w1 g 69 #[tv, nv, .map (some mb)] := (hg.block g HLT.out (fun e => HNE.out e.symm)).trans HB.out; have d0 : w1.cell? ⟨g, 0, none⟩ = some tv := hbk.cell 0; have f0 : w1.frozen? ⟨g, 0, none⟩ = false := hbk.frozen 0; have HR := Lib.hid hr; have HG := Lib.hid hg; have HP := Lib.hid hp; obtain ⟨A1, c1, hv'⟩ := HR.out.form; generalize (st.ts ++ le4s ns).length = LL at hv'; subst hv'; clear hr hg hp hbk)
  go_end0
  obtain ⟨k1, k2, k3⟩ := H.out.setT HR.out HG.out HP.out
  exact ⟨rfl, ⟨_, _, _, _, k1, HN.out⟩, k2, k3⟩
theorem wpList_mapUpdate_run {P : Program} {w : World} {ops : Array Oper} {rest : List Oper} {o : Oper} {a : Act} {Q : Exit → Act → World → Prop} (hg : o.guard = none) (m x v : Operand) (t : TypeId) (hop : o.op = Op.mapUpdate t m x v)
    (mv xv vv : Value) (w' : World) (hm : a.eval m = mv) (hx : a.eval x = xv) (hv : a.eval v = vv) (hrun : (Instr.mapUpdate t mv xv vv).run P w = .ok () w') (h : wpList P ops Q rest (a.put o.dst undef) w') : wpList P ops Q (o :: rest) a w := by
  refine wpList_plain hg fun K' hK' => ?_
  unfold Oper.wp
  simp [execOp, hop, hm, hx, hv, hrun, Result.andThen]
  exact hK' _ _ h
theorem place_own {w : World} {mb n : Nat} {es : List (List UInt8 × Int)} (h : OwnM w mb n es) (hn : n ≤ 4611686018427387904) (s : List UInt8) (p : Nat) (hp : p ≤ 4611686018427387904) (key : Value) (hkey : keyOf Try.prog 9 key = some (.string s)) :
    ∃ w', (Instr.mapUpdate 67 (.map (some mb)) key (.int .i64 (p : Int))).run Try.prog w = .ok () w' ∧ OwnM w' mb (n + 1) ((s, (p : Int)) :: es) ∧ w.grownBy w' (some mb) :=
  World.ownsMap.update h lawS Try.underlying67 (by unfold maxLen; omega) hkey (plainElem_int Try.underlying3 (WalkArith.wf_i64 (by omega)))
def PostP (w : World) (base g : Nat) (st : WS) (s : List UInt8) (e : Ending) (w' : World) : Prop := PostW w base g (placeW st s) (.returned (.int .i64 (placeP st s))) e w'
theorem place_yes {st : WS} {s : List UInt8} {p : Int} (h : findE st.es s = some p) : placeW st s = st ∧ placeP st s = p := by
  unfold placeW placeP; rw [h]; exact ⟨rfl, rfl⟩
theorem place_no {st : WS} {s : List UInt8} (h : findE st.es s = none) : placeW st s = ⟨st.ts, st.ns ++ s ++ [0], (s, (st.ns.length : Int)) :: st.es⟩ ∧ placeP st s = st.ns.length := by
  unfold placeW placeP; rw [h]; exact ⟨rfl, rfl⟩
set_option maxHeartbeats 4000000 in
theorem place_any {w : World} {base g mb n : Nat} {st : WS} {tv nv : Value} (h : WM w base g st tv nv mb n) (hn : n ≤ st.es.length + 1) (hbase : base ≤ w.heap.size) (s : ByteArray) (hs : s.size ≤ 128) (he : findE st.es [] = some 0)
    (hes : st.es.length ≤ 4611686018427387000) (hl : st.ns.length ≤ 140737488355000) :
    Calls Try.prog 28 #[.pointer (some ⟨g, 0, none⟩), .string s] w (PostP w base g st s.data.toList) := by
  have c2 : w.cell? ⟨g, 2, none⟩ = some (.map (some mb)) := h.blk.cell 2
  have c1 : w.cell? ⟨g, 1, none⟩ = some nv := h.blk.cell 1
  have hkey : keyOf Try.prog 9 (.string s) = some (.string s.data.toList) := Go.WideMaps.keyOf_string_mk Try.underlying9 (by unfold maxLen; omega)
  have HK := Lib.hid hkey
  have H := Lib.hid h
  have HN := Lib.hid hn
  have hf := mapD_find st.es s.data.toList
  cases hfe : findE st.es s.data.toList with
  | some p =>
    obtain ⟨hh, hat⟩ := hf.1 p hfe
    obtain ⟨e1, e2⟩ := place_yes hfe
    unfold PostP
    rw [e1, e2]
    have HAT := Lib.hid (hat (.lit (.int .i64 0)))
    clear hf hat h hn hfe e1 e2 hkey he hes hl
    go_enter Try.func28, Try.ntmps28
    go_wp2_with (at_lookup; refine wpList_lookup_own_ok_int _ rfl _ _ 67 rfl 9 3 .i64 lawS Try.underlying67 Try.underlying3 (zeroI _) mb n (mapD st.es) rfl H.out.map _ _ rfl HK.out ?_; intro cc hat hwc; have HC : Hid (cc = p) := (by have e := HAT.out.symm.trans hat; injection e with e; injection e with _ e; exact e.symm); clear hat hwc)
    go_ret
    rw [HC.out]
    exact ⟨rfl, ⟨_, _, _, _, H.out, HN.out⟩, TagK.refl _, fun B _ _ => Below.mono (Below.refl w.heap.size w) (by omega)⟩
  | none =>
    have hh := hf.2 hfe
    obtain ⟨e1, e2⟩ := place_no hfe
    unfold PostP
    rw [e1, e2]
    have hs0 : 0 < s.size := by
      rcases Nat.eq_zero_or_pos s.size with h0 | h0
      · have : s.data.toList = [] := by apply List.length_eq_zero_iff.1; rw [size_list]; exact h0
        rw [this, he] at hfe; cases hfe
      · exact h0
    obtain ⟨w1, hup, ho1, hg1⟩ := place_own h.map (by omega) s.data.toList st.ns.length (by omega) (.string s) hkey
    obtain ⟨k1, k2, k3⟩ := h.setM ho1 hg1
    have hsz1 : w.heap.size ≤ w1.heap.size := hg1.size
    obtain ⟨A1, cc1, hnv⟩ := h.ns.form
    obtain ⟨v2, w2, hr2, ho2, hg2, hp2⟩ := run_append_s k1.ns k1.n0 45 s (by simp only; omega) (by omega) hs0
    have hz1 : (ByteArray.mk #[0]).size = 1 := rfl
    have hsl := size_list s
    obtain ⟨v3, w3, hr3, ho3, hg3, hp3⟩ := run_append_s (RowB.own ho2) (by rw [List.length_append]; omega) 45 ⟨#[0]⟩ (by simp only [List.length_append, hsl, hz1]; omega) (by have := hg2.size; omega) (by rw [hz1]; decide)
    have hg3' : w1.grownBy w3 nv.ownBlock := grownBy_then hg2 (hp2.imp id fun e => ⟨_, e, Nat.le_refl _⟩) hg3
    have hp3' : newPlace w1 nv v3 := newPlace_then hg2 (hp2.imp id fun e => ⟨_, e, Nat.le_refl _⟩) hp3
    obtain ⟨m1, m2, m3⟩ := k1.setN (RowB.own ho3) hg3' hp3' (by simp; omega)
    have d1 : w1.cell? ⟨g, 1, none⟩ = some nv := k1.blk.cell 1
    have d2 : w1.cell? ⟨g, 2, none⟩ = some (.map (some mb)) := k1.blk.cell 2
    have b3 : Blk w3 g 69 #[tv, nv, .map (some mb)] := (hg3'.block g k1.blk.lt (fun e => k1.tv_ne.2.1 e.symm)).trans k1.blk
    have x1 : w3.cell? ⟨g, 1, none⟩ = some nv := b3.cell 1
    have xf : w3.frozen? ⟨g, 1, none⟩ = false := b3.frozen 1
    obtain ⟨A3, cc3, hv3, _⟩ := own_form_any ho3
    generalize (st.ns ++ s.data.toList ++ (ByteArray.mk #[0]).data.toList).length = L3 at hv3
    have FIN : Hid (PostW w base g ⟨st.ts, st.ns ++ s.data.toList ++ [0], (s.data.toList, (st.ns.length : Int)) :: st.es⟩ (.returned (.int .i64 (st.ns.length : Int))) (.returned (.int .i64 (st.ns.length : Int))) (w3.setCell ⟨g, 1, none⟩ v3)) := ⟨rfl, ⟨_, _, _, _, m1, by simp; omega⟩, k2.trans m2, fun B hB hB2 => (k3 B hB hB2).trans (m3 B hB (by omega))⟩
    have i1 : (st.ns.length : Int) ≤ 140737488355000 := by omega
    have HUP := Lib.hid hup
    have HR2 := Lib.hid hr2
    have HR3 := Lib.hid hr3
    subst hv3
    subst hnv
    clear hf h hn hfe e1 e2 hkey he hes hl hup hr2 hr3 ho1 hg1 k1 k2 k3 ho2 hg2 hp2 ho3 hg3 hp3 hg3' hp3' m1 m2 m3 b3 hsl hz1 hs0
    go_enter Try.func28, Try.ntmps28
    go_wp2_with (first
      | (at_lookup; refine wpList_lookup_own_ok_int _ rfl _ _ 67 rfl 9 3 .i64 lawS Try.underlying67 Try.underlying3 (zeroI _) mb n (mapD st.es) rfl H.out.map _ _ rfl HK.out ?_; intro cc hat hwc; clear hat hwc)
      | (at_mapUpdate; refine wpList_mapUpdate_run rfl _ _ _ 67 rfl _ _ _ w1 rfl rfl rfl HUP.out ?_)
      | (at_builtin; first
        | (refine wpList_append_run rfl (.tmp 33) (.tmp 34) 45 9 rfl (.slice A1 st.ns.length cc1) (.string s) v2 w2 rfl rfl 45 rfl HR2.out ?_)
        | (refine wpList_append_run rfl (.tmp 35) _ 45 9 rfl v2 (.string ⟨#[0]⟩) _ w3 rfl rfl 45 rfl HR3.out ?_)))
    go_ret
    have := FIN.out
    rw [List.append_assoc] at this
    exact this
end Go.Proofs.Ytmfdojmecpdikaa
