/-
  Package objs: Pin.
-/
import Derived.Test.YtmohbdbofehamaaOPin
namespace Go.Proofs.Ytmohbdbofehamaa
open Go Go.RowKit Go.Maps OSt
set_option linter.unusedVariables false
set_option linter.unusedSimpArgs false
set_option maxRecDepth 100000
theorem eqNilP (b : Nat) (w : World) : (binOp .eql mapPT (.map (some b)) (.map none)).run Try.prog w = .ok (.bool false) w := by kernel_rfl
theorem eqNilP' (w : World) : (binOp .eql mapPT (.map none) (.map none)).run Try.prog w = .ok (.bool true) w := by kernel_rfl
section
variable {x : Nat} {w0 w w' : World} {P0 P U : Nat → Prop} {s s' : OSt} {ld ld' : Nat → Nat} {mo mp mo' mp' : Option Nat} {D E D' E' : DataW Value} {bl bl' : Nat → Nat} {id n f k i : Nat} {fd : Int} {p : ByteArray}
def pinned (s : OSt) (p : ByteArray) (id : Nat) : OSt := { s with pins := s.pins ++ [(p, id)], pm := s.pm + 1 }
theorem PGat.pin (h : PGat x w0 P0 s ld mo mp D E bl w) (id : Nat) (hn : ∀ q, q ∈ s.pins → q.1 ≠ p) {b : Nat} {U : Nat → Prop} (k : Keeps U w w') (hU : ∀ c, U c → c = x ∨ mp = some c) (hb : mp = some b ∨ w.heap.size ≤ b) (hbo : ∀ c, mo = some c → c ≠ b)
    (tab' : Blk w' x tabT (tabC mo s.os.length s.fds (some b))) (own : w'.ownsMap Try.prog strT heldV b (s.pm + 1) (E.put (litS p) (heldD (.int .i64 (id : Int))))) (hm : IsMap E) : PG x w0 P0 (pinned s p id) ld w' := by
  refine ⟨_, _, _, _, _, h.local_ (s' := pinned s p id) (ld' := ld) k (fun c hc => ?_) tab' (h.obs.keeps k fun c hc hcu => ?_) (.inr ⟨b, rfl, own⟩) (fun b hb => .inl hb) (fun c hc => by cases hc; exact hb) (fun c h1 h2 => by cases h2; exact hbo _ h1 rfl) ⟨h.dat.yes, h.dat.no⟩ (h.pat.push hm hn id) (fun j hj => (h.ent j hj).keeps k fun hc => ?_) (fun j hj => .inr ⟨j, hj, rfl⟩) h.inj⟩
  · rcases hU c hc with rfl | h1
    · exact .inl h.px
    · exact h.pmp c h1
  · rcases hU c hcu with rfl | h1
    · exact h.obs.ne_ h.tab hc rfl
    · exact h.two c hc h1
  · rcases hU _ hc with h1 | h1
    · exact (h.ent j hj).ne_ h.tab (by decide) h1
    · exact h.pth.ne_ (h.ent j hj) h1 rfl
theorem leads_pin (id : Nat) : (pinned s p id).leads k = s.leads k + (if id = k then 1 else 0) := by
  unfold pinned leads
  simp only [List.countP_append, List.countP_cons, List.countP_nil, beq_iff_eq]
  omega
theorem pin_bad (h : TG x w0 P0 s w) (ho : OOk n s) (hn : n ≤ 100000) (p : ByteArray) (hp : p.size ≤ maxLen) (fd : Int) (h0 : pinBad s p fd ≠ 0) :
    Calls Try.prog 15 #[tp x, .string p, .int .i64 fd] w fun e w' => e = .returned (.int .i64 (pinBad s p fd)) ∧ w = w' := by
  have CP := Lib.hid (isPath_any p hp)
  have CL := Lib.hid (leadsTo_any h ho fd)
  cases hb : pathB p
  · have e1 : pinBad s p fd = 1 := by unfold pinBad; rw [hb]; rfl
    rw [hb] at CP
    rw [e1]
    clear h ho hp hb h0 e1
    go_enter Try.func15, Try.ntmps15
    go_wp2_with (go_at_call 36; refine (CP.out _).mono ?_; rintro e w1 ⟨rfl, rfl⟩)
    go_ret
    exact ⟨rfl, rfl⟩
  · rw [hb] at CP
    by_cases h1 : s.fdId fd = 0
    · have e1 : pinBad s p fd = 8 := by unfold pinBad; rw [hb, h1]; rfl
      have e2 : fdE s fd = 8 := if_pos h1
      rw [h1, e2] at CL
      rw [e1]
      clear h ho hp hb h0 e1 e2 h1
      go_enter Try.func15, Try.ntmps15
      go_wp2_with (first
        | (go_at_call 36; refine (CP.out _).mono ?_; rintro e w1 ⟨rfl, rfl⟩)
        | (go_at_call 34; refine CL.out.mono ?_; rintro e w1 ⟨rfl, rfl⟩))
      go_ret
      exact ⟨rfl, rfl⟩
    · have e2 : fdE s fd = 0 := if_neg h1
      rw [e2] at CL
      have h2 : s.pinId p ≠ 0 := fun h2 => h0 (by unfold pinBad; rw [hb, if_neg h1, h2]; rfl)
      have e1 : pinBad s p fd = 5 := by unfold pinBad; rw [hb, if_neg h1, if_pos h2]; rfl
      rw [e1]
      obtain ⟨mo, mp, D, E, bl, h⟩ := h
      have lk := h.lookP ho hp
      have c0 : w.cell? ⟨x, 66, none⟩ = some (.map mp) := (h.tab.cell _).trans (tabC_paths ho.len)
      have g1 : ((s.pinId p : Int) != 0) = true := by simp; omega
      clear h ho hp hb h0 e1 e2 h1 h2
      generalize s.pinId p = r at *
      generalize s.fdId fd = a at *
      go_enter Try.func15, Try.ntmps15
      go_wp2_with (first
        | (go_at_call 36; refine (CP.out _).mono ?_; rintro e w1 ⟨rfl, rfl⟩)
        | (go_at_call 34; refine CL.out.mono ?_; rintro e w1 ⟨rfl, rfl⟩))
      go_ret
      exact ⟨rfl, rfl⟩
set_option maxHeartbeats 1000000 in
theorem pin_ok (h : TG x w0 P0 s w) (ho : OOk n s) (hn : n ≤ 100000) (p : ByteArray) (hp : p.size ≤ maxLen) (fd : Int) (h0 : pinBad s p fd = 0) :
    Calls Try.prog 15 #[tp x, .string p, .int .i64 fd] w fun e w' => e = .returned (.int .i64 0) ∧ TG x w0 P0 (pinned s p (s.fdId fd)) w' := by
  have CP := Lib.hid (isPath_any p hp)
  have CL := Lib.hid (leadsTo_any h ho fd)
  obtain ⟨hb, h1, h2⟩ := pinBad_zero h0
  rw [hb] at CP
  have e2 : fdE s fd = 0 := if_neg h1
  rw [e2] at CL
  have hno := findP_none (pinId_none ho h2)
  have hth := fdId_there ho h1
  have hlr := leads_le ho (id := s.fdId fd)
  obtain ⟨mo, mp, D, E, bl, h⟩ := h
  have lk := h.lookP ho hp
  rw [h2] at lk
  have c0 : w.cell? ⟨x, 66, none⟩ = some (.map mp) := (h.tab.cell _).trans (tabC_paths ho.len)
  have f0 : w.frozen? ⟨x, 66, none⟩ = false := h.tab.frozen _
  have hmm := @run_makeMap Try.prog
  have CC := Lib.hid (clone_any p (by have := pathB_size hb; omega))
  have CR : Hid (∀ w3, PG x w0 P0 (pinned s p (s.fdId fd)) s.leads w3 → Calls Try.prog 38 #[tp x, .int .i64 (s.fdId fd : Int)] w3 fun e w' => e = .returned (.tuple #[]) ∧ TG x w0 P0 (pinned s p (s.fdId fd)) w') := fun w3 h3 => by
    refine (raise_any h3 (Nat.le_trans (show s.os.length ≤ _ from ho.os) (by omega)) hth (by omega)).mono ?_
    rintro e w' ⟨rfl, h4⟩
    refine ⟨rfl, h4.congr fun k hk => ?_⟩
    rw [leads_pin]
    by_cases hki : k = s.fdId fd
    · rw [if_pos hki.symm]
      have hb : bump s.leads (s.fdId fd) (s.leads (s.fdId fd) + 1) k = s.leads k + 1 := by rw [hki]; exact bump_same _ _ _
      exact hb
    · rw [if_neg (fun e => hki e.symm), bump_other _ _ hki]; rfl
  have HKEY := Lib.hid (keyS hp)
  have HL : Hid (s.pm < maxLen) := by have := ho.pm; unfold Hid maxLen; omega
  have HFIN : Hid (∀ (w1 W2 w3 : World) (b : Nat), Keeps (fun c => c = x) w w1 → (mp = some b ∨ w.heap.size ≤ b) → b < w1.heap.size → Blk w1 x tabT (tabC mo s.os.length s.fds (some b)) → IsMap E →
      Keeps (fun _ => False) w1 W2 → w3.ownsMap Try.prog strT heldV b (s.pm + 1) (E.put (litS p) (heldD (.int .i64 (s.fdId fd : Int)))) → W2.grownBy w3 (some b) →
      PG x w0 P0 (pinned s p (s.fdId fd)) s.leads w3) := fun w1 W2 w3 b k hb hlt tab hm kq own tr => by
    have k1 : Keeps (fun c => c = x ∨ mp = some c) w W2 := (k.mono fun c hc => .inl hc).trans (kq.mono fun _ hf => hf.elim)
    have k2 : Keeps (fun c => c = x ∨ mp = some c) w w3 := k1.grown tr fun c hc => by
      cases hc
      rcases hb with h1 | h1
      · exact .inl (.inr h1)
      · exact .inr h1
    have kb : Keeps (fun c => c = b) W2 w3 := (Keeps.refl _ _).grown tr fun c hc => by cases hc; exact .inl rfl
    have hxb : x ≠ b := fun e => by
      rcases hb with h1 | h1
      · exact h.pth.ne_ h.tab h1 e
      · have := h.tab.lt; omega
    refine h.pin _ hno k2 (fun c hc => hc) hb (fun c hc e => ?_) ((tab.keeps kq (fun hf => hf)).keeps kb hxb) own hm
    subst e
    rcases hb with h1 | h1
    · exact h.two _ hc h1
    · have := h.obs.lt hc; omega
  have HM2 : Hid (Keeps (fun c => c = x) w ((w.alloc (.map #[] 0)).setCell ⟨x, 66, none⟩ (.map (some w.heap.size)))) :=
    (((Keeps.refl (fun c => c = x) w).alloc _).setCell (p := ⟨x, 66, none⟩) (.inl rfl) _)
  have T2 : Hid (Blk ((w.alloc (.map #[] 0)).setCell ⟨x, 66, none⟩ (.map (some w.heap.size))) x tabT (tabC mo s.os.length s.fds (some w.heap.size))) := by
    have := (h.tab.alloc (.map #[] 0)).set_ 66 (.map (some w.heap.size))
    rw [tabC_set_paths ho.len] at this
    exact this
  have HX := Lib.hid h.tab.lt
  have HLEN := Lib.hid ho.len
  rcases h.pth with ⟨rfl, rfl⟩ | ⟨b, rfl, hown⟩
  · have q0 := eqNilP' w
    have OW : Hid (((w.alloc (.map #[] 0)).setCell ⟨x, 66, none⟩ (.map (some w.heap.size))).ownsMap Try.prog strT heldV w.heap.size s.pm (.map [])) := by
      have h0 := World.ownsMap_made w Try.prog strT heldV
      have k : Keeps (fun c => c = x) (w.alloc (.map #[] 0)) ((w.alloc (.map #[] 0)).setCell ⟨x, 66, none⟩ (.map (some w.heap.size))) := ((Keeps.refl (fun c => c = x) _).setCell (p := ⟨x, 66, none⟩) (.inl rfl) _)
      obtain ⟨es, clock, g1, g2, g3, g4⟩ := ownsMap_block h0 (k.block w.heap.size h0.lt (by have := HX.out; omega))
      exact ⟨es, clock, g1, g2, Nat.le_trans g3 (Nat.zero_le _), g4⟩
    have AT := Lib.hid (h.tab.alloc (.map #[] 0))
    have a0 : (w.alloc (.map #[] 0)).cell? ⟨x, 66, none⟩ = some (.map none) := (AT.out.cell 66).trans (tabC_paths HLEN.out)
    have a1 : (w.alloc (.map #[] 0)).frozen? ⟨x, 66, none⟩ = false := AT.out.frozen 66
    have HXB : Hid (x ≠ w.heap.size) := Nat.ne_of_lt HX.out
    clear h AT ho hp hb h0 h1 h2 e2 hno hth hlr
    generalize s.fdId fd = a at *
    go_enter Try.func15, Try.ntmps15
    go_upto_region 10 with (first
      | (go_at_call 36; refine (CP.out _).mono ?_; rintro e w1 ⟨rfl, rfl⟩)
      | (go_at_call 34; refine CL.out.mono ?_; rintro e w1 ⟨rfl, rfl⟩))
    generalize (w.alloc (.map #[] 0)).setCell ⟨x, 66, none⟩ (.map (some w.heap.size)) = w1 at HM2 T2 OW ⊢
    generalize hb : w.heap.size = b at T2 OW HXB ⊢
    have t0 : w1.cell? ⟨x, 66, none⟩ = some (.map (some b)) := (T2.out.cell 66).trans (tabC_paths HLEN.out)
    have S0 : Hid (w1.cell? ⟨x, 66, none⟩ = some (.map (some b))) := t0
    clear a0 a1 c0 f0 lk
    go_region_held3 (fun W => W.cell? ⟨x, 66, none⟩ = some (.map (some b)))
      (first | exact S0.out | exact S2.out | exact S3.out)
      (first
        | (go_at_call 37; refine (CC.out _).mono ?_; rintro e w2 ⟨rfl, hbl⟩; have K2 := Lib.hid ((keeps_drew w1).trans ((keeps_below hbl).mono fun _ hf => hf.elim)); obtain ⟨w3, hrun, hown3, hg⟩ := World.ownsMap.update (ownsMap_block OW.out (K2.out.block b OW.out.lt (fun hf => hf))) lawS Try.underlying58 HL.out HKEY.out (val := .int .i64 (a : Int)) rfl; have S2 : Hid (w2.cell? ⟨x, 66, none⟩ = some (.map (some b))) := ((T2.out.keeps K2.out (fun hf => hf)).cell 66).trans (tabC_paths HLEN.out); have H3 := Lib.hid (HFIN.out w1 w2 w3 b HM2.out (.inr (Nat.le_of_eq hb)) OW.out.lt T2.out OW.out.isMap K2.out hown3 hg); have S3 : Hid (w3.cell? ⟨x, 66, none⟩ = some (.map (some b))) := (((T2.out.keeps K2.out (fun hf => hf)).keeps ((Keeps.refl (fun c => c = b) _).grown hg (fun c hc => by cases hc; exact .inl rfl)) HXB.out).cell 66).trans (tabC_paths HLEN.out); clear hbl hown3 hg))
    go_wp2_with (go_at_call 38; refine (CR.out _ H3.out).mono ?_; rintro e w4 ⟨rfl, h4⟩; have H4 := Lib.hid h4; clear h4)
    go_ret
    exact ⟨rfl, H4.out⟩
  · have q0 := eqNilP b w
    have OW := Lib.hid hown
    have HM1 := Lib.hid (Keeps.refl (fun c => c = x) w)
    have T1 := Lib.hid h.tab
    have HXB : Hid (x ≠ b) := h.pth.ne_ h.tab rfl
    clear h ho hp hb h0 h1 h2 e2 hno hth hlr hown HM2 T2
    generalize s.fdId fd = a at *
    go_enter Try.func15, Try.ntmps15
    go_upto_region 10 with (first
      | (go_at_call 36; refine (CP.out _).mono ?_; rintro e w1 ⟨rfl, rfl⟩)
      | (go_at_call 34; refine CL.out.mono ?_; rintro e w1 ⟨rfl, rfl⟩))
    have S0 : Hid (w.cell? ⟨x, 66, none⟩ = some (.map (some b))) := c0
    go_region_held3 (fun W => W.cell? ⟨x, 66, none⟩ = some (.map (some b)))
      (first | exact S0.out | exact S2.out | exact S3.out)
      (first
        | (go_at_call 37; refine (CC.out _).mono ?_; rintro e w2 ⟨rfl, hbl⟩; have K2 := Lib.hid ((keeps_drew w).trans ((keeps_below hbl).mono fun _ hf => hf.elim)); obtain ⟨w3, hrun, hown3, hg⟩ := World.ownsMap.update (ownsMap_block OW.out (K2.out.block b OW.out.lt (fun hf => hf))) lawS Try.underlying58 HL.out HKEY.out (val := .int .i64 (a : Int)) rfl; have S2 : Hid (w2.cell? ⟨x, 66, none⟩ = some (.map (some b))) := ((T1.out.keeps K2.out (fun hf => hf)).cell 66).trans (tabC_paths HLEN.out); have H3 := Lib.hid (HFIN.out w w2 w3 b HM1.out (.inl rfl) OW.out.lt T1.out OW.out.isMap K2.out hown3 hg); have S3 : Hid (w3.cell? ⟨x, 66, none⟩ = some (.map (some b))) := (((T1.out.keeps K2.out (fun hf => hf)).keeps ((Keeps.refl (fun c => c = b) _).grown hg (fun c hc => by cases hc; exact .inl rfl)) HXB.out).cell 66).trans (tabC_paths HLEN.out); clear hbl hown3 hg))
    go_wp2_with (go_at_call 38; refine (CR.out _ H3.out).mono ?_; rintro e w4 ⟨rfl, h4⟩; have H4 := Lib.hid h4; clear h4)
    go_ret
    exact ⟨rfl, H4.out⟩
theorem pin_any (h : TG x w0 P0 s w) (ho : OOk n s) (hn : n ≤ 100000) (p : ByteArray) (hp : p.size ≤ maxLen) (fd : Int) :
    Calls Try.prog 15 #[tp x, .string p, .int .i64 fd] w fun e w' => e = .returned (.int .i64 (pinBad s p fd)) ∧ TG x w0 P0 (pinS s p fd) w' := by
  by_cases h0 : pinBad s p fd = 0
  · rw [h0, show pinS s p fd = pinned s p (s.fdId fd) from if_pos h0]
    exact pin_ok h ho hn p hp fd h0
  · rw [show pinS s p fd = s from if_neg h0]
    refine (pin_bad h ho hn p hp fd h0).mono ?_
    rintro e w' ⟨rfl, rfl⟩
    exact ⟨rfl, h⟩
end
end Go.Proofs.Ytmohbdbofehamaa
