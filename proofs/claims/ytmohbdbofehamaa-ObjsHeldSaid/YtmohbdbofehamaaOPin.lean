/-
  Package objs: Unpin, Pin.
-/
import Derived.Test.YtmohbdbofehamaaOClone
namespace Go.Proofs.Ytmohbdbofehamaa
open Go Go.RowKit Go.Maps OSt
set_option linter.unusedVariables false
set_option linter.unusedSimpArgs false
set_option maxRecDepth 100000
section
variable {x : Nat} {w0 w w' : World} {P0 P U : Nat → Prop} {s s' : OSt} {ld ld' : Nat → Nat} {mo mp mo' mp' : Option Nat} {D E D' E' : DataW Value} {bl bl' : Nat → Nat} {id n f k i : Nat} {fd : Int} {p : ByteArray}
theorem mem_cut (ho : OOk n s) {e y : ByteArray × Nat} (he : s.pins[i]? = some e) : y ∈ s.pins.eraseIdx i ↔ y ∈ s.pins ∧ y.1 ≠ e.1 := by
  rw [List.mem_eraseIdx_iff_getElem?]
  constructor
  · rintro ⟨j, hj, hx⟩
    exact ⟨List.mem_of_getElem? hx, ho.nd j i y e hx he hj⟩
  · rintro ⟨hx, hk⟩
    obtain ⟨j, hj, rfl⟩ := List.getElem_of_mem hx
    refine ⟨j, ?_, List.getElem?_eq_getElem hj⟩
    rintro rfl
    rw [List.getElem?_eq_getElem hj] at he
    cases he
    exact hk rfl
theorem DatP.cut (h : DatP E s.pins) (ho : OOk n s) {e : ByteArray × Nat} (he : s.pins[i]? = some e) : DatP (E.del (litS e.1)) (s.pins.eraseIdx i) := by
  refine ⟨fun q hq z => ?_, fun p hp => ?_⟩
  · obtain ⟨h1, h2⟩ := (mem_cut ho he).1 hq
    rw [atKey_del_other (litS_ne h2)]
    exact h.yes q h1 z
  · by_cases hk : p = e.1
    · subst hk; exact has_del_same
    · rw [has_del_other (litS_ne hk)]
      exact h.no p fun q hq hqp => hp q ((mem_cut ho he).2 ⟨hq, by rw [hqp]; exact hk⟩) hqp
theorem DatP.push (h : DatP E s.pins) (hm : IsMap E) (hn : ∀ q, q ∈ s.pins → q.1 ≠ p) (v : Nat) : DatP (E.put (litS p) (heldD (.int .i64 (v : Int)))) (s.pins ++ [(p, v)]) := by
  refine ⟨fun q hq z => ?_, fun p' hp => ?_⟩
  · rcases List.mem_append.1 hq with h1 | h1
    · rw [atKey_put_other (litS_ne (hn q h1))]
      exact h.yes q h1 z
    · simp at h1
      subst h1
      rw [atKey_put_same hm (isKeyS _)]
  · have h1 : p' ≠ p := fun e => hp (p, v) (by simp) e.symm
    rw [has_put_other (litS_ne h1)]
    exact h.no p' fun q hq => hp q (List.mem_append.2 (.inl hq))
/-- A path goes. -/
theorem PGat.unpin (h : PGat x w0 P0 s ld mo mp D E bl w) (ho : OOk n s) {e : ByteArray × Nat} (he : s.pins[i]? = some e) {b : Nat} (hb : mp = some b) (own : w'.ownsMap Try.prog strT heldV b s.pm (E.del (litS e.1))) (tr : w.mapTurned w' b) : PG x w0 P0 { s with pins := s.pins.eraseIdx i } ld w' := by
  have k : Keeps (fun c => c = b) w w' := (Keeps.refl _ w).grown tr.grown fun k hk => by cases hk; exact .inl rfl
  refine ⟨_, _, _, _, _, h.local_ (s' := { s with pins := s.pins.eraseIdx i }) (ld' := ld) k (fun c hc => by rw [hc]; exact h.pmp b hb) (h.tab.keeps k fun e => h.pth.ne_ h.tab hb e) (h.obs.keeps k fun c hc e => h.two c hc (by rw [e]; exact hb)) (.inr ⟨b, hb, own⟩) (fun b hb => .inl hb) (fun b hb => .inl hb) h.two ⟨h.dat.yes, h.dat.no⟩ (h.pat.cut ho he) (fun j hj => (h.ent j hj).keeps k fun e => h.pth.ne_ (h.ent j hj) hb e) (fun j hj => .inr ⟨j, hj, rfl⟩) h.inj⟩
theorem leads_unpin {e : ByteArray × Nat} (he : s.pins[i]? = some e) : ({ s with pins := s.pins.eraseIdx i } : OSt).leads k + (if e.2 = k then 1 else 0) = s.leads k := by
  have := count_erase_pins (k := k) he
  unfold leads
  simp only
  omega
theorem unpin_any (h : TG x w0 P0 s w) (ho : OOk n s) (hn : n ≤ 100000) (p : ByteArray) (hp : p.size ≤ maxLen) :
    Calls Try.prog 18 #[tp x, .string p] w fun e w' => ∃ A c, e = .returned (.tuple #[.slice A (unpinL s p).length c, .int .i64 (pathE s p)]) ∧ RowI w0.heap.size w' A (unpinL s p) ∧ TG x w0 P0 (unpinS s p) w' := by
  have CL := Lib.hid (pathLeadsTo_any h ho hp)
  have H := Lib.hid h
  by_cases h0 : pathE s p = 0
  · have e2 : unpinL s p = (unpinned s p).dead (s.pinId p) := if_pos h0
    have e3 : unpinS s p = (unpinned s p).die (s.pinId p) := if_pos h0
    have e5 : ledN s p = s.pinId p := if_pos h0
    rw [h0, e5] at CL
    rw [e2, e3, h0]
    have hid := pinId_there ho (pathE_zero h0).2
    obtain ⟨i, hi1, hi2⟩ := pinId_at ho (pathE_zero h0).2
    have e6 : unpinned s p = { s with pins := s.pins.eraseIdx i } := by unfold unpinned; rw [hi1]; rfl
    have hlr := leads_le ho (id := s.pinId p)
    have hpos : 0 < s.leads (s.pinId p) := by have := leads_unpin (k := s.pinId p) hi2; rw [if_pos rfl] at this; omega
    obtain ⟨mo, mp, D, E, bl, h⟩ := h
    have c0 : w.cell? ⟨x, 66, none⟩ = some (.map mp) := (h.tab.cell _).trans (tabC_paths ho.len)
    obtain ⟨b, rfl, hown⟩ : ∃ b, mp = some b ∧ w.ownsMap Try.prog strT heldV b s.pm E := by
      rcases h.pth with ⟨_, hD⟩ | h3
      · have := h.pat.yes _ (List.mem_of_getElem? hi2) (.map [])
        rw [hD] at this
        simp [DataW.atKey] at this
      · exact h3
    obtain ⟨w2, hrun, hown2, hturn⟩ := hown.drop lawS Try.underlying58 (keyS hp) 0
    have hrun' : ∀ ty, (Builtin.delete_ #[mapPT, strT] ty #[.map (some b), .string p]).run Try.prog w = .ok (.tuple #[]) w2 := fun ty => hrun
    have hG := h.unpin ho hi2 rfl hown2 hturn
    rw [← e6] at hG
    have hU : (unpinned s p).os = s.os := rfl
    have CW := Lib.hid (lower_any hG (by rw [hU]; exact Nat.le_trans ho.os (by omega)) hid (by omega) (by omega) (Nat.le_trans (ho.hl _) (by omega) : s.holdsOf (s.pinId p) ≤ 1000000))
    have HF : Hid (∀ v w2, SetPost x w0 P0 (unpinned s p) (bump s.leads (s.pinId p) (s.leads (s.pinId p) - 1)) (s.pinId p) v w2 → ∃ A c, v = .slice A ((unpinned s p).dead (s.pinId p)).length c ∧ RowI w0.heap.size w2 A ((unpinned s p).dead (s.pinId p)) ∧ TG x w0 P0 ((unpinned s p).die (s.pinId p)) w2) := fun v w2 h2 => h2.fin hid fun k hk => by
      have hp := leads_unpin (k := k) hi2
      rw [← e6] at hp
      by_cases hki : k = s.pinId p
      · have hb : bump s.leads (s.pinId p) (s.leads (s.pinId p) - 1) k = s.leads k - 1 := by rw [hki]; exact bump_same _ _ _
        rw [if_pos hki.symm] at hp
        rw [hb]; omega
      · rw [if_neg (fun e => hki e.symm)] at hp
        rw [bump_other _ _ hki]; omega
    clear h ho e2 e3 e5 e6 hid hi1 hi2 hlr hpos hown hrun hown2 hturn hG hU hp h0
    generalize s.pinId p = a at *
    generalize unpinned s p = s1 at *
    generalize bump s.leads a (s.leads a - 1) = ld1 at *
    generalize s1.dead a = L at *
    generalize s1.die a = s2 at *
    go_enter Try.func18, Try.ntmps18
    go_wp2_with (first
      | (go_at_call 41; refine CL.out.mono ?_; rintro e w1 ⟨rfl, rfl⟩)
      | (go_at_call 40; refine CW.out.mono ?_; rintro e w2 ⟨r, rfl, h1⟩; obtain ⟨A, c, rfl, h2, h3⟩ := HF.out _ _ h1; have H1 := Lib.hid (And.intro h2 h3); clear h1 h2 h3))
    go_ret2
    exact ⟨A, c, rfl, H1.out.1, H1.out.2⟩
  · have e2 : unpinL s p = [] := if_neg h0
    have e3 : unpinS s p = s := if_neg h0
    have e5 : ledN s p = 0 := if_neg h0
    rw [e5] at CL
    rw [e2, e3]
    have g1 : (pathE s p != 0) = true := by simp [h0]
    clear h ho e2 h0 e3 e5 hp
    generalize pathE s p = r at *
    go_enter Try.func18, Try.ntmps18
    go_wp2_with (go_at_call 41; refine CL.out.mono ?_; rintro e w1 ⟨rfl, rfl⟩)
    go_ret2
    exact ⟨_, _, rfl, RowI.nil _ _ _, H.out⟩
end
end Go.Proofs.Ytmohbdbofehamaa
