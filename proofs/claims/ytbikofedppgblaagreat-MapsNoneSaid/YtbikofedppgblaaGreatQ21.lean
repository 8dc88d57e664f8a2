/-
  Package hash: Update.
-/
import Derived.Test.YtbikofedppgblaaGreatQ20
namespace Go.Proofs.YtbikofedppgblaaGreat
open Go Go.RowKit Go.Maps
set_option linter.unusedVariables false
set_option linter.unusedSimpArgs false
set_option maxRecDepth 100000
section
variable {p : HPar} {w0 w w1 w2 w' : World} {P0 P U T T' : Nat → Prop} {s s' : HSt} {mb N N' : Nat} {D D' : DataW Value} {bl bl' : Nat → Nat}
theorem PO.upd_no (h : PO p w0 P0 s T w) (key value : ByteArray) (fl : Int) :
    Calls Tryz.prog 50 #[tp p.x, .string key, .string value, .int .i64 fl] w fun e w' => e = .returned (.int .i64 1) ∧ w = w' := by
  have CG := Lib.hid (gone_yes h)
  clear h
  go_enter Tryz.func50, Tryz.ntmps50
  go_wp2_with (go_at_call 105; refine CG.out.mono ?_; rintro e w1 ⟨rfl, rfl⟩)
  go_ret
  exact ⟨rfl, rfl⟩
theorem PG.upd_bad (h : PG p w0 P0 s T mb N D bl w) (key value : ByteArray) (fl : Int) (hb : key.size ≠ p.key ∨ value.size ≠ p.v ∨ fl < 0 ∨ 2 < fl) :
    Calls Tryz.prog 50 #[tp p.x, .string key, .string value, .int .i64 fl] w fun e w' => e = .returned (.int .i64 1) ∧ w = w' := by
  have CG := Lib.hid (gone_no h)
  have c2 : w.cell? ⟨p.x, 2, none⟩ = some (.int .i64 p.key) := h.map.cell 2
  have c3 : w.cell? ⟨p.x, 3, none⟩ = some (.int .i64 p.v) := h.map.cell 3
  have c5 : w.cell? ⟨p.x, 5, none⟩ = some (.map (some mb)) := h.map.cell 5
  clear h
  by_cases h1 : key.size = p.key
  · have b1 : ((key.size : Int) != (p.key : Int)) = false := by simp; omega
    by_cases h2 : value.size = p.v
    · have b2 : ((value.size : Int) != (p.v : Int)) = false := by simp; omega
      by_cases h3 : fl < 0
      · have b3 : decide (fl < 0) = true := by simpa using h3
        clear hb h1 h2
        go_enter Tryz.func50, Tryz.ntmps50
        go_wp2_with (go_at_call 105; refine CG.out.mono ?_; rintro e w1 ⟨rfl, rfl⟩)
        go_ret
        exact ⟨rfl, rfl⟩
      · have h4 : 2 < fl := by omega
        have b3 : decide (fl < 0) = false := by simpa using h3
        have b4 : decide (2 < fl) = true := by simpa using h4
        clear hb h1 h2
        go_enter Tryz.func50, Tryz.ntmps50
        go_wp2_with (go_at_call 105; refine CG.out.mono ?_; rintro e w1 ⟨rfl, rfl⟩)
        go_ret
        exact ⟨rfl, rfl⟩
    · have b2 : ((value.size : Int) != (p.v : Int)) = true := by simp; omega
      clear hb h1 h2
      go_enter Tryz.func50, Tryz.ntmps50
      go_wp2_with (go_at_call 105; refine CG.out.mono ?_; rintro e w1 ⟨rfl, rfl⟩)
      go_ret
      exact ⟨rfl, rfl⟩
  · have b1 : ((key.size : Int) != (p.key : Int)) = true := by simp; omega
    clear hb h1
    go_enter Tryz.func50, Tryz.ntmps50
    go_wp2_with (go_at_call 105; refine CG.out.mono ?_; rintro e w1 ⟨rfl, rfl⟩)
    go_ret
    exact ⟨rfl, rfl⟩
theorem PG.upd_exists (h : PG p w0 P0 s T mb N D bl w) (key value : ByteArray) (fl : Int) (hk : key.size = p.key) (hv : value.size = p.v) (h0 : 0 ≤ fl) (h2 : fl ≤ 2) (hks : key.size ≤ maxLen) (i : Nat) (hf : findE s.es key = some i) (e : Ent) (he : s.es[i]? = some e) (hfl : fl = 1) :
    Calls Tryz.prog 50 #[tp p.x, .string key, .string value, .int .i64 fl] w fun e w' => e = .returned (.int .i64 5) ∧ w = w' := by
  have CG := Lib.hid (gone_no h)
  have c2 : w.cell? ⟨p.x, 2, none⟩ = some (.int .i64 p.key) := h.map.cell 2
  have c3 : w.cell? ⟨p.x, 3, none⟩ = some (.int .i64 p.v) := h.map.cell 3
  have c5 : w.cell? ⟨p.x, 5, none⟩ = some (.map (some mb)) := h.map.cell 5
  have lk := (h.look hks).1 e (List.mem_of_getElem? he) (find_eq hf he)
  have b1 : ((key.size : Int) != (p.key : Int)) = false := by simp; omega
  have b2 : ((value.size : Int) != (p.v : Int)) = false := by simp; omega
  have b3 : decide (fl < 0) = false := by simp; omega
  have b4 : decide (2 < fl) = false := by simp; omega
  subst hfl
  clear h hk hv h0 h2 hks hf he
  go_enter Tryz.func50, Tryz.ntmps50
  go_wp2_with (go_at_call 105; refine CG.out.mono ?_; rintro e' w1 ⟨rfl, rfl⟩)
  go_ret
  exact ⟨rfl, rfl⟩
theorem PG.upd_noneE (h : PG p w0 P0 s T mb N D bl w) (key value : ByteArray) (fl : Int) (hk : key.size = p.key) (hv : value.size = p.v) (h0 : 0 ≤ fl) (h2 : fl ≤ 2) (hks : key.size ≤ maxLen) (hf : findE s.es key = none) (hfl : fl = 2) :
    Calls Tryz.prog 50 #[tp p.x, .string key, .string value, .int .i64 fl] w fun e w' => e = .returned (.int .i64 4) ∧ w = w' := by
  have CG := Lib.hid (gone_no h)
  have c2 : w.cell? ⟨p.x, 2, none⟩ = some (.int .i64 p.key) := h.map.cell 2
  have c3 : w.cell? ⟨p.x, 3, none⟩ = some (.int .i64 p.v) := h.map.cell 3
  have c5 : w.cell? ⟨p.x, 5, none⟩ = some (.map (some mb)) := h.map.cell 5
  have lk := (h.look hks).2 (find_all hf)
  have b1 : ((key.size : Int) != (p.key : Int)) = false := by simp; omega
  have b2 : ((value.size : Int) != (p.v : Int)) = false := by simp; omega
  have b3 : decide (fl < 0) = false := by simp; omega
  have b4 : decide (2 < fl) = false := by simp; omega
  subst hfl
  clear h hk hv h0 h2 hks hf
  go_enter Tryz.func50, Tryz.ntmps50
  go_wp2_with (go_at_call 105; refine CG.out.mono ?_; rintro e w1 ⟨rfl, rfl⟩)
  go_ret
  exact ⟨rfl, rfl⟩
theorem PG.upd_write (h : PG p w0 P0 s T mb N D bl w) (key value : ByteArray) (fl : Int) (hk : key.size = p.key) (hv : value.size = p.v) (h0 : 0 ≤ fl) (h2 : fl ≤ 2) (hks : key.size ≤ maxLen) (i : Nat) (hf : findE s.es key = some i) (e : Ent) (he : s.es[i]? = some e) (hfl : fl ≠ 1) (R : World → Prop) (a : Int) (hw : Calls Tryz.prog 106 #[tp p.x, tp (bl e.n), .string value] w fun e w' => e = .returned (.int .i64 a) ∧ R w') :
    Calls Tryz.prog 50 #[tp p.x, .string key, .string value, .int .i64 fl] w fun e w' => e = .returned (.int .i64 a) ∧ R w' := by
  have CG := Lib.hid (gone_no h)
  have c2 : w.cell? ⟨p.x, 2, none⟩ = some (.int .i64 p.key) := h.map.cell 2
  have c3 : w.cell? ⟨p.x, 3, none⟩ = some (.int .i64 p.v) := h.map.cell 3
  have c5 : w.cell? ⟨p.x, 5, none⟩ = some (.map (some mb)) := h.map.cell 5
  have lk := (h.look hks).1 e (List.mem_of_getElem? he) (find_eq hf he)
  have CW := Lib.hid hw
  have b5 : (fl == 1) = false := by simp; exact hfl
  have b1 : ((key.size : Int) != (p.key : Int)) = false := by simp; omega
  have b2 : ((value.size : Int) != (p.v : Int)) = false := by simp; omega
  have b3 : decide (fl < 0) = false := by simp; omega
  have b4 : decide (2 < fl) = false := by simp; omega
  clear h hk hv h0 h2 hks hf he hw hfl
  go_enter Tryz.func50, Tryz.ntmps50
  go_wp2_with (first
    | (go_at_call 105; refine CG.out.mono ?_; rintro e' w1 ⟨rfl, rfl⟩)
    | (go_at_call 106; refine CW.out.mono ?_; rintro e' w1 ⟨rfl, h1⟩; have H1 := Lib.hid h1; clear h1))
  go_ret
  exact ⟨rfl, H1.out⟩
theorem PG.upd_add (h : PG p w0 P0 s T mb N D bl w) (key value : ByteArray) (fl : Int) (hk : key.size = p.key) (hv : value.size = p.v) (h0 : 0 ≤ fl) (h2 : fl ≤ 2) (hks : key.size ≤ maxLen) (hf : findE s.es key = none) (hfl : fl ≠ 2) (R : World → Prop) (a : Int) (hw : Calls Tryz.prog 107 #[tp p.x, .string key, .string value] w fun e w' => e = .returned (.int .i64 a) ∧ R w') :
    Calls Tryz.prog 50 #[tp p.x, .string key, .string value, .int .i64 fl] w fun e w' => e = .returned (.int .i64 a) ∧ R w' := by
  have CG := Lib.hid (gone_no h)
  have c2 : w.cell? ⟨p.x, 2, none⟩ = some (.int .i64 p.key) := h.map.cell 2
  have c3 : w.cell? ⟨p.x, 3, none⟩ = some (.int .i64 p.v) := h.map.cell 3
  have c5 : w.cell? ⟨p.x, 5, none⟩ = some (.map (some mb)) := h.map.cell 5
  have lk := (h.look hks).2 (find_all hf)
  have CW := Lib.hid hw
  have b5 : (fl == 2) = false := by simp; exact hfl
  have b1 : ((key.size : Int) != (p.key : Int)) = false := by simp; omega
  have b2 : ((value.size : Int) != (p.v : Int)) = false := by simp; omega
  have b3 : decide (fl < 0) = false := by simp; omega
  have b4 : decide (2 < fl) = false := by simp; omega
  clear h hk hv h0 h2 hks hf hw hfl
  go_enter Tryz.func50, Tryz.ntmps50
  go_wp2_with (first
    | (go_at_call 105; refine CG.out.mono ?_; rintro e' w1 ⟨rfl, rfl⟩)
    | (go_at_call 107; refine CW.out.mono ?_; rintro e' w1 ⟨rfl, h1⟩; have H1 := Lib.hid h1; clear h1))
  go_ret
  exact ⟨rfl, H1.out⟩
end
/-! ### what 'Prog' asks -/
section
variable {p : HPar} {s : HSt}
theorem PH.of {f : FuncId} {args : Array Value} {s' : HSt} {e0 : Ending}
    (hG : s.gone = false → ∀ w P T mb N D bl, N ≤ s.clock → PG p w P s T mb N D bl w → Calls Tryz.prog f args w fun e w' => e = e0 ∧ ((∃ T' mb' N' D' bl', N' ≤ s'.clock ∧ PG p w P s' T' mb' N' D' bl' w') ∨ ∃ T', PO p w P s' T' w'))
    (hO : s.gone = true → ∀ w P T, PO p w P s T w → Calls Tryz.prog f args w fun e w' => e = e0 ∧ ∃ T', PO p w P s' T' w') : FCallH PH p f args s s' e0 := by
  rintro w P (⟨T, h⟩ | ⟨T, mb, N, D, bl, hN, h⟩)
  · refine (hO h.gone w P T h).mono ?_
    rintro e w' ⟨rfl, T', h'⟩
    exact ⟨rfl, h'.done⟩
  · refine (hG h.gone w P T mb N D bl hN h).mono ?_
    rintro e w' ⟨rfl, ⟨T', mb', N', D', bl', hN', h'⟩ | ⟨T', h'⟩⟩
    · exact ⟨rfl, h'.done hN'⟩
    · exact ⟨rfl, h'.done⟩
theorem ph_look (key : ByteArray) (hks : key.size ≤ maxLen) (h : HOk p s) (hc : s.clock < 1000000) : FCallH PH p 74 #[tp p.x, .string key] s (lookS s key) (.returned (.int .u64 (lookA s key))) := by
  refine PH.of (fun hg w P T mb N D bl hN hG => ?_) (fun hg w P T hO => ?_)
  · rcases hf : findE s.es key with _ | i
    · rw [show lookS s key = s by unfold lookS; rw [hf]; rfl, show lookA s key = 0 by unfold lookA; rw [hf]; rfl]
      refine (hG.look_no key hks hf).mono ?_
      rintro e w' ⟨rfl, rfl⟩
      exact ⟨rfl, .inl ⟨_, _, _, _, _, hN, hG⟩⟩
    · obtain ⟨e, he⟩ := found hf
      rw [show lookS s key = s.use i by unfold lookS; rw [hf]; rfl, show lookA s key = addr e.n 0 by unfold lookA; rw [hf]; show (s.es[i]?).elim 0 _ = _; rw [he]; rfl]
      refine (hG.look_yes h.aparts hc key hks i hf e he).mono ?_
      rintro e' w' ⟨rfl, h'⟩
      exact ⟨rfl, .inl ⟨_, _, _, _, _, Nat.le_succ_of_le hN, h'⟩⟩
  · have hf : findE s.es key = none := by rw [h.gone hg]; rfl
    rw [show lookS s key = s by unfold lookS; rw [hf]; rfl, show lookA s key = 0 by unfold lookA; rw [hf]; rfl]
    refine (hO.look_no key).mono ?_
    rintro e w' ⟨rfl, rfl⟩
    exact ⟨rfl, _, hO⟩
theorem ph_del (key : ByteArray) (h : HOk p s) : FCallH PH p 54 #[tp p.x, .string key] s (delS p s key) (.returned (.int .i64 (delA p s key))) := by
  refine PH.of (fun hg w P T mb N D bl hN hG => ?_) (fun hg w P T hO => ?_)
  · by_cases hk : key.size = p.key
    · have hb : ¬ delBad p s key := by
        rintro (h1 | h1)
        · rw [hg] at h1; cases h1
        · exact h1 hk
      have hks : key.size ≤ maxLen := by rw [hk]; have := h.par.k2; unfold maxLen; omega
      rcases hf : findE s.es key with _ | i
      · rw [show delS p s key = s by unfold delS; rw [if_neg hb, hf]; rfl, show delA p s key = 4 by unfold delA; rw [if_neg hb, hf]; rfl]
        refine (hG.del_none key hk hks hf).mono ?_
        rintro e w' ⟨rfl, rfl⟩
        exact ⟨rfl, .inl ⟨_, _, _, _, _, hN, hG⟩⟩
      · obtain ⟨e, he⟩ := found hf
        obtain ⟨_, _, _, b, hq, _⟩ := h.ent i e he
        rw [show delS p s key = s.cut i e (3, b, false) by unfold delS; rw [if_neg hb, hf]; exact rem_eq he hq, show delA p s key = 0 by unfold delA; rw [if_neg hb, hf]; rfl]
        refine (hG.del_yes h.aparts key hk hks i hf e he _ hq rfl).mono ?_
        rintro e' w' ⟨rfl, T', h'⟩
        exact ⟨rfl, .inl ⟨_, _, _, _, _, hN, h'⟩⟩
    · have hb : delBad p s key := .inr hk
      rw [show delS p s key = s by unfold delS; rw [if_pos hb], show delA p s key = 1 by unfold delA; rw [if_pos hb]]
      refine (hG.del_bad key hk).mono ?_
      rintro e w' ⟨rfl, rfl⟩
      exact ⟨rfl, .inl ⟨_, _, _, _, _, hN, hG⟩⟩
  · have hb : delBad p s key := .inl hg
    rw [show delS p s key = s by unfold delS; rw [if_pos hb], show delA p s key = 1 by unfold delA; rw [if_pos hb]]
    refine (hO.del_no key).mono ?_
    rintro e w' ⟨rfl, rfl⟩
    exact ⟨rfl, _, hO⟩
theorem ph_next (key : ByteArray) (h : HOk p s) : FCallH PH p 59 #[tp p.x, .string key] s s (nextE p s key) := by
  refine PH.of (fun hg w P T mb N D bl hN hG => ?_) (fun hg w P T hO => ?_)
  · refine (hG.next h key).mono ?_
    rintro e w' ⟨rfl, h'⟩
    exact ⟨rfl, .inl ⟨_, _, _, _, _, hN, h'⟩⟩
  · refine (hO.next h key).mono ?_
    rintro e w' ⟨rfl, h'⟩
    exact ⟨rfl, _, h'⟩
theorem ph_free (h : HOk p s) (hm : s.m.made ≤ 4096) : FCallH PH p 87 #[tp p.x] s (freeS s) (.returned (.int .i64 (freeA s))) := by
  refine PH.of (fun hg w P T mb N D bl hN hG => ?_) (fun hg w P T hO => ?_)
  · rw [show freeS s = { s with m := freeTo s.m s.es s.es.length, es := [], gone := true } by unfold freeS; rw [if_neg (by rw [hg]; decide)], show freeA s = 0 by unfold freeA; rw [if_neg (by rw [hg]; decide)]]
    refine (hG.free h hm).mono ?_
    rintro e w' ⟨rfl, T', h'⟩
    exact ⟨rfl, .inr ⟨T', h'⟩⟩
  · rw [show freeS s = s by unfold freeS; rw [if_pos hg], show freeA s = 1 by unfold freeA; rw [if_pos hg]]
    refine hO.freeNo.mono ?_
    rintro e w' ⟨rfl, rfl⟩
    exact ⟨rfl, _, hO⟩
theorem ph_upd (key value : ByteArray) (fl : Int) (h : HOk p s) (hc : s.clock < 1000000) (hm : s.m.made < 4095) : FCallH PH p 50 #[tp p.x, .string key, .string value, .int .i64 fl] s (updS p s key value fl) (.returned (.int .i64 (updA p s key value fl))) := by
  refine PH.of (fun hg w P T mb N D bl hN hG => ?_) (fun hg w P T hO => ?_)
  · by_cases hb : updBad p s key value fl
    · rw [show updS p s key value fl = s by unfold updS; rw [if_pos hb], show updA p s key value fl = 1 by unfold updA; rw [if_pos hb]]
      refine (hG.upd_bad key value fl (hb.resolve_left (by rw [hg]; decide))).mono ?_
      rintro e w' ⟨rfl, rfl⟩
      exact ⟨rfl, .inl ⟨_, _, _, _, _, hN, hG⟩⟩
    · have hk : key.size = p.key := Classical.byContradiction fun hk => hb (.inr (.inl hk))
      have hv : value.size = p.v := Classical.byContradiction fun hk => hb (.inr (.inr (.inl hk)))
      have hf0 : 0 ≤ fl := Classical.byContradiction fun hk => hb (.inr (.inr (.inr (.inl (by omega)))))
      have hf2 : fl ≤ 2 := Classical.byContradiction fun hk => hb (.inr (.inr (.inr (.inr (by omega)))))
      have hks : key.size ≤ maxLen := by rw [hk]; have := h.par.k2; unfold maxLen; omega
      have v1 := h.par.v1
      have v2 := h.par.v2
      have hvl : value.data.toList.length = p.v := by rw [Array.length_toList]; exact hv
      rcases hf : findE s.es key with _ | i
      · have eS : updS p s key value fl = (if fl = 2 then s else if s.es.length = p.mx ∧ p.k = 1 then s else if s.m.fail = 1 then { s with m := { s.m with fail := 0 } } else s.insert p key value.data.toList) := by unfold updS; rw [if_neg hb, hf]; rfl
        have eA : updA p s key value fl = (if fl = 2 then 4 else if s.es.length = p.mx ∧ p.k = 1 then 3 else if s.m.fail = 1 then 2 else 0) := by unfold updA; rw [if_neg hb, hf]; rfl
        rw [eS, eA]
        by_cases h2 : fl = 2
        · rw [if_pos h2, if_pos h2]
          refine (hG.upd_noneE key value fl hk hv hf0 hf2 hks hf h2).mono ?_
          rintro e w' ⟨rfl, rfl⟩
          exact ⟨rfl, .inl ⟨_, _, _, _, _, hN, hG⟩⟩
        · rw [if_neg h2, if_neg h2]
          by_cases h3 : s.es.length = p.mx ∧ p.k = 1
          · rw [if_pos h3, if_pos h3]
            refine (hG.upd_add key value fl hk hv hf0 hf2 hks hf h2 _ 3 (hG.add_full key value h3.1 h3.2)).mono ?_
            rintro e w' ⟨rfl, h'⟩
            exact ⟨rfl, .inl ⟨_, _, _, _, _, hN, h'⟩⟩
          · rw [if_neg h3, if_neg h3]
            by_cases h4 : s.m.fail = 1
            · rw [if_pos h4, if_pos h4]
              by_cases hn : s.es.length = p.mx
              · refine (hG.upd_add key value fl hk hv hf0 hf2 hks hf h2 _ 2 (hG.add_mem2 key value hn (fun e => h3 ⟨hn, e⟩) h4 v1 v2)).mono ?_
                rintro e w' ⟨rfl, T', h'⟩
                exact ⟨rfl, .inl ⟨_, _, _, _, _, hN, h'⟩⟩
              · refine (hG.upd_add key value fl hk hv hf0 hf2 hks hf h2 _ 2 (hG.add_mem1 key value hn h4 v1 v2)).mono ?_
                rintro e w' ⟨rfl, T', h'⟩
                exact ⟨rfl, .inl ⟨_, _, _, _, _, hN, h'⟩⟩
            · rw [if_neg h4, if_neg h4]
              by_cases hn : s.es.length = p.mx
              · obtain ⟨eo, bo, heo, hqo, hB⟩ := insert_facts h hn
                rw [insert_lru h hn key _ heo hqo]
                have hadd := hG.add_lru h key value.data.toList hn (fun e => h3 ⟨hn, e⟩) eo heo bo hqo h4 hm hk hvl hf hc hN
                rw [← bstr_data] at hadd
                refine (hG.upd_add key value fl hk hv hf0 hf2 hks hf h2 _ 0 hadd).mono ?_
                rintro e w' ⟨rfl, T', N', D', bl', hN', h'⟩
                exact ⟨rfl, .inl ⟨_, _, _, _, _, hN', h'⟩⟩
              · rw [show s.insert p key value.data.toList = ((s.alloc p.v).fresh (s.m.made + 1) key value.data.toList p.v).use s.es.length by unfold HSt.insert; rw [if_neg hn]]
                have hadd := hG.add_new h key value.data.toList hn h4 hm hk hvl hf hc hN
                rw [← bstr_data] at hadd
                refine (hG.upd_add key value fl hk hv hf0 hf2 hks hf h2 _ 0 hadd).mono ?_
                rintro e w' ⟨rfl, T', N', D', bl', hN', h'⟩
                exact ⟨rfl, .inl ⟨_, _, _, _, _, hN', h'⟩⟩
      · obtain ⟨e, he⟩ := found hf
        have eS : updS p s key value fl = (if fl = 1 then s else (s.putAt i value.data.toList).use i) := by unfold updS; rw [if_neg hb, hf]; rfl
        have eA : updA p s key value fl = (if fl = 1 then 5 else 0) := by unfold updA; rw [if_neg hb, hf]; rfl
        rw [eS, eA]
        by_cases h1 : fl = 1
        · rw [if_pos h1, if_pos h1]
          refine (hG.upd_exists key value fl hk hv hf0 hf2 hks i hf e he h1).mono ?_
          rintro e' w' ⟨rfl, rfl⟩
          exact ⟨rfl, .inl ⟨_, _, _, _, _, hN, hG⟩⟩
        · rw [if_neg h1, if_neg h1]
          obtain ⟨hn, _, _, b, hq, hbl⟩ := h.ent i e he
          rw [putAt_eq he hq]
          have hwr := hG.write h.aparts i e he hc _ hq (by omega) value.data.toList (by omega) (by show _ ≤ b.length; omega)
          rw [← bstr_data] at hwr
          refine (hG.upd_write key value fl hk hv hf0 hf2 hks i hf e he h1 _ 0 hwr).mono ?_
          rintro e' w' ⟨rfl, T', h'⟩
          exact ⟨rfl, .inl ⟨_, _, _, _, _, Nat.le_succ_of_le hN, h'⟩⟩
  · have hb : updBad p s key value fl := .inl hg
    rw [show updS p s key value fl = s by unfold updS; rw [if_pos hb], show updA p s key value fl = 1 by unfold updA; rw [if_pos hb]]
    refine (hO.upd_no key value fl).mono ?_
    rintro e w' ⟨rfl, rfl⟩
    exact ⟨rfl, _, hO⟩
end
end Go.Proofs.YtbikofedppgblaaGreat
