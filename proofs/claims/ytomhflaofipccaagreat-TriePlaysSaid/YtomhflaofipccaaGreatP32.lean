/-
  The reference of layer 11: Delete. The reference of layer 11: Update of what is there, Update refused. The reference of layer 11: Update of a key that is new.
-/
import Derived.Test.YtomhflaofipccaaGreatP30
import Derived.Test.YtomhflaofipccaaGreatP31
namespace Go.Proofs.YtomhflaofipccaaGreat
open Go Go.RowKit Go.Maps
set_option linter.unusedVariables false
set_option linter.unusedSimpArgs false
set_option maxRecDepth 100000
theorem find_none {es : List Ent} {k : ByteArray} (h : findE es k = none) : findI es k = -1 := by unfold findI; rw [h]; rfl
theorem find_some {es : List Ent} {k : ByteArray} {i : Nat} (h : findE es k = some i) : findI es k = (i : Int) := by unfold findI; rw [h]; rfl
section
variable {p : HPar} {w0 w w' : World} {Q Q0 U T T' : Nat → Prop} {s s' : HSt} {V V' : Value}
theorem YS.form (h : YS p w0 Q0 s T V w) (hp : p.Ok) (key : ByteArray) :
    ∃ f, (IsKey p.key key → f = formB key) ∧ Calls Tryz.prog 35 #[tp p.y, .string key] w fun e w' => e = .returned (.tuple #[.string f, .bool (decide (IsKey p.key key))]) ∧ YS p w0 Q0 s T V w' := by
  by_cases hk : IsKey p.key key
  · refine ⟨formB key, fun _ => rfl, (xform_ok h.map hp.k1 hp.k2 key hk).mono ?_⟩
    rintro e w' ⟨rfl, hq⟩
    exact ⟨by rw [decide_eq_true hk], h.quiet hq⟩
  · refine ⟨⟨#[]⟩, fun hc => absurd hc hk, (xform_no h.map hp.k1 hp.k2 key hk).mono ?_⟩
    rintro e w' ⟨rfl, rfl⟩
    exact ⟨by rw [decide_eq_false hk], h⟩
theorem YS.form_is (h : YS p w0 Q0 s T V w) (hp : p.Ok) (key : ByteArray) (hk : IsKey p.key key) :
    Calls Tryz.prog 35 #[tp p.y, .string key] w fun e w' => e = .returned (.tuple #[.string (formB key), .bool true]) ∧ YS p w0 Q0 s T V w' := by
  refine (xform_ok h.map hp.k1 hp.k2 key hk).mono ?_
  rintro e w' ⟨rfl, hq⟩
  exact ⟨rfl, h.quiet hq⟩
theorem YS.del_bad (h : YS p w0 Q0 s T V w) (hp : p.Ok) (key : ByteArray) (hb : delBad p s key) :
    Calls Tryz.prog 14 #[tp p.y, .string key] w fun e w' => e = .returned (.int .i64 1) ∧ YS p w0 Q0 s T V w' := by
  obtain ⟨f, _, CF⟩ := h.form hp key
  have HF := Lib.hid CF
  have HB : Hid (∀ W, YS p w0 Q0 s T V W → W.cell? ⟨p.y, 6, none⟩ = some (.bool s.gone)) := fun W hW => hW.map.cell 6
  have hb' : s.gone = true ∨ decide (IsKey p.key key) = false := hb.imp id fun h => decide_eq_false h
  obtain ⟨ok, hok⟩ : ∃ ok, decide (IsKey p.key key) = ok := ⟨_, rfl⟩
  obtain ⟨gn, hgn⟩ : ∃ gn, s.gone = gn := ⟨_, rfl⟩
  rw [hok] at hb' HF
  rw [hgn] at hb' HB
  clear h hb CF hok hgn
  go_enter Tryz.func14, Tryz.ntmps14
  go_upto_region 2 with (go_at_call 35; refine HF.out.mono ?_; rintro e w1 ⟨rfl, h1⟩; have H1 := Lib.hid h1; clear h1)
  have c6 := HB.out _ H1.out
  cases gn <;> cases ok
  · go_wp2_with fail
    go_ret
    exact ⟨rfl, H1.out⟩
  · rcases hb' with h | h <;> cases h
  · go_wp2_with fail
    go_ret
    exact ⟨rfl, H1.out⟩
  · go_wp2_with fail
    go_ret
    exact ⟨rfl, H1.out⟩
theorem YS.del_none (h : YS p w0 Q0 s T V w) (hp : p.Ok) (hl : s.es.length ≤ 4096) (hg : s.gone = false) (key : ByteArray) (hk : IsKey p.key key) (hf : findE s.es (formB key) = none) :
    Calls Tryz.prog 14 #[tp p.y, .string key] w fun e w' => e = .returned (.int .i64 4) ∧ YS p w0 Q0 s T V w' := by
  have HF := Lib.hid (h.form_is hp key hk)
  have HB : Hid (∀ W, YS p w0 Q0 s T V W → W.cell? ⟨p.y, 6, none⟩ = some (.bool false)) := fun W hW => by rw [← hg]; exact hW.map.cell 6
  have CF := Lib.hid (fun W (hW : YS p w0 Q0 s T V W) => hW.find hl (formB key))
  rw [find_none hf] at CF
  clear h hl hf hk hg
  go_enter Tryz.func14, Tryz.ntmps14
  go_upto_region 2 with (go_at_call 35; refine HF.out.mono ?_; rintro e w1 ⟨rfl, h1⟩; have H1 := Lib.hid h1; clear h1)
  have c6 := HB.out _ H1.out
  go_wp2_with (go_at_call 36; refine (CF.out _ H1.out).mono ?_; rintro e w2 ⟨rfl, rfl⟩)
  go_ret
  exact ⟨rfl, H1.out⟩
set_option maxHeartbeats 2000000 in
theorem YS.del_some (h : YS p w0 Q0 s T V w) (hp : p.Ok) (hl : s.es.length ≤ 4096) (hg : s.gone = false) (key : ByteArray) (hk : IsKey p.key key) (i : Nat) (hf : findE s.es (formB key) = some i) (e : Ent) (he : s.es[i]? = some e) (q : RV) (hq : s.m.vs e.n = some q) (hr : q.2.2 = false) :
    Calls Tryz.prog 14 #[tp p.y, .string key] w fun e' w' => e' = .returned (.int .i64 0) ∧ ∃ T' V', YS p w0 Q0 (s.cut i e q) T' V' w' := by
  have HF := Lib.hid (h.form_is hp key hk)
  have HB : Hid (∀ W, YS p w0 Q0 s T V W → W.cell? ⟨p.y, 6, none⟩ = some (.bool false)) := fun W hW => by rw [← hg]; exact hW.map.cell 6
  have CF := Lib.hid (fun W (hW : YS p w0 Q0 s T V W) => hW.find hl (formB key))
  rw [find_some hf] at CF
  have hi : i < s.es.length := find_lt hf
  obtain ⟨g, c, rfl, h1, h2⟩ := h.row (by intro e; rw [e] at hi; simp at hi)
  have HR := Lib.hid (fun w1 T1 (h1 : YS p w0 Q0 s T1 (.slice (some ⟨g, 0, none⟩) s.es.length c) w1) => h1.call (x_retire p.bx s.m e.n q hq hr))
  have HC := Lib.hid (fun w1 (h1 : Ents w1 (.slice (some ⟨g, 0, none⟩) s.es.length c) s.es) => ents_cut h1 hi hl)
  have HE := Lib.hid he
  have HL := Lib.hid hi
  have e1 : IntKind.i64.wrap ((i : Int) + 1) = ((i + 1 : Nat) : Int) := by rw [IntWalk.i64_in _ (by omega)]; omega
  have i1 : (i : Int) < (s.es.length : Int) := by omega
  have g1 : decide ((i : Int) < 0) = false := decide_eq_false (by omega)
  have hs1 := slice_headE g s.es.length c i (by omega)
  have hs2 := slice_tailE g s.es.length c (i + 1) (by omega)
  obtain ⟨n, hn⟩ : ∃ n, s.es.length = n := ⟨_, rfl⟩
  obtain ⟨i1', hi1⟩ : ∃ k, i + 1 = k := ⟨_, rfl⟩
  have HNN := Lib.hid hn
  clear h h1 h2 he hq hr hi hl hf hk hg
  rw [hn] at i1 hs1 hs2 HR HC HF HB CF
  rw [hi1] at e1 hs2 HC
  clear hn hi1
  go_enter Tryz.func14, Tryz.ntmps14
  go_upto_region 2 with (go_at_call 35; refine HF.out.mono ?_; rintro e w1 ⟨rfl, h1⟩; have H1 := Lib.hid h1; clear h1)
  have c6 := HB.out _ H1.out
  go_upto_region 7 with (go_at_call 36; refine (CF.out _ H1.out).mono ?_; rintro e w2 ⟨rfl, rfl⟩)
  have HY := H1
  clear H1 c6
  have HE0 : Hid (Ents w1 (.slice (some ⟨g, 0, none⟩) s.es.length c) s.es) := (by have := HY.out.ents; unfold Ents at this ⊢; rw [HNN.out] at this ⊢; exact this)
  have S0 : Hid (w1.cell? ⟨p.y, 0, none⟩ = some (tp p.bx) ∧ w1.cell? ⟨p.y, 5, none⟩ = some (.slice (some ⟨g, 0, none⟩) n c) ∧ w1.cell? ⟨g, i * 2 + 1, none⟩ = some (.int .u64 (addr e.n 0))) := ⟨HY.out.map.cell 0, HY.out.map.cell 5, (ents_cells HE0.out HE.out).2⟩
  have HD : Hid (YS p w0 Q0 s T (.slice (some ⟨g, 0, none⟩) n c) w1.drew) := HY.out.drew
  go_region_held3 (fun W => W.cell? ⟨p.y, 0, none⟩ = some (tp p.bx) ∧ W.cell? ⟨p.y, 5, none⟩ = some (.slice (some ⟨g, 0, none⟩) n c) ∧ W.cell? ⟨g, i * 2 + 1, none⟩ = some (.int .u64 (addr e.n 0)))
    (first | exact S0.out | exact S1.out)
    (first
      | (go_at_call 41; refine (HR.out _ _ HD.out).mono ?_; rintro e' w3 ⟨rfl, T1, h1⟩; have H1 := Lib.hid h1; have HE1 : Hid (Ents w3 (.slice (some ⟨g, 0, none⟩) s.es.length c) s.es) := (by have := h1.ents; unfold Ents at this ⊢; rw [HNN.out] at this ⊢; exact this); have S1 : Hid (w3.cell? ⟨p.y, 0, none⟩ = some (tp p.bx) ∧ w3.cell? ⟨p.y, 5, none⟩ = some (.slice (some ⟨g, 0, none⟩) n c) ∧ w3.cell? ⟨g, i * 2 + 1, none⟩ = some (.int .u64 (addr e.n 0))) := ⟨h1.map.cell 0, h1.map.cell 5, (ents_cells HE1.out HE.out).2⟩; clear h1))
  go_upto_region 8 with fail
  obtain ⟨A1, c1, w4, A2, c2, w5, hr1, hr2, ho, k2, k4, hb⟩ := HC.out w3.drew (by have := ents_keeps HE1.out (Keeps.refl (fun _ => False) w3).drew (fun _ _ h => h); unfold Ents at this ⊢; rw [HNN.out] at this ⊢; exact this)
  have R1 := Lib.hid hr1; have R2 := Lib.hid hr2; have HO := Lib.hid ho; have HB2 := Lib.hid hb
  have K4 : Hid (Keeps (fun _ => False) w3 w5) := ((Keeps.refl (fun _ => False) w3).drew).trans (k4.mono fun _ hf => hf.elim)
  have M1 := Lib.hid H1.out.map
  have M2 := Lib.hid (H1.out.map.drew.keeps k2 (fun h => h))
  have M4 := Lib.hid (H1.out.map.drew.keeps k4 (fun h => h))
  have x1 : w3.cell? ⟨p.y, 5, none⟩ = some (.slice (some ⟨g, 0, none⟩) n c) := M1.out.cell 5
  have x2 : w4.cell? ⟨p.y, 5, none⟩ = some (.slice (some ⟨g, 0, none⟩) n c) := M2.out.cell 5
  have x4 : w5.cell? ⟨p.y, 5, none⟩ = some (.slice (some ⟨g, 0, none⟩) n c) := M4.out.cell 5
  have f4 : w5.frozen? ⟨p.y, 5, none⟩ = false := M4.out.frozen 5
  have HYL := Lib.hid M1.out.lt
  clear hr1 hr2 ho k2 k4 hb HR HC S0 S1 HD M1 M2 HE1 HF HB CF HY HE0
  generalize n - 1 = n1 at *
  generalize hz2 : n - i1' = n2 at *
  clear hz2
  go_region_law ((first
    | (refine step_append_run' (by rfl) (.const (.slice none 0 0)) (.tmp 46) entsT (by rfl) (.slice none 0 0) (.slice (some ⟨g, 0, none⟩) i c) (.slice A1 i c1) w4 (by rfl) (by rfl) R1.out ?_)
    | (refine step_append_run' (by rfl) (.tmp 47) (.tmp 54) entsT (by rfl) (.slice A1 i c1) (.slice (some ⟨g, if c = i1' then 0 else i1' * 2, none⟩) n2 (c - i1')) (.slice A2 n1 c2) w5 (by rfl) (by rfl) R2.out ?_)))
  all_goals go_wp2_with fail
  all_goals go_ret
  all_goals refine ⟨rfl, T1, .slice A2 n1 c2, H1.out.local_ (s' := s.cut i e q) rfl (((K4.out.mono fun _ hf => hf.elim).setCell (p := ⟨p.y, 5, none⟩) (.inl (.inl rfl)) _)) (M4.out.set_ 5 _) ?_ (fun g' hg' => .inr (HB2.out g' hg'))⟩
  all_goals exact ents_keeps HO.out ((Keeps.refl (fun b => b = p.y) w5).setCell (p := ⟨p.y, 5, none⟩) (.inl rfl) _) (fun g' hg' e => by have := HB2.out g' hg'; have := HYL.out; have h3 : w3.drew.heap.size = w3.heap.size := rfl; omega)
end
end Go.Proofs.YtomhflaofipccaaGreat
namespace Go.Proofs.YtomhflaofipccaaGreat
open Go Go.RowKit Go.Maps
set_option linter.unusedVariables false
set_option linter.unusedSimpArgs false
set_option maxRecDepth 100000
section
variable {p : HPar} {w0 w w' : World} {Q Q0 U T T' : Nat → Prop} {s s' : HSt} {V V' : Value}
theorem YS.upd_bad (h : YS p w0 Q0 s T V w) (hp : p.Ok) (key value : ByteArray) (fl : Int) (hb : updBad p s key value fl) :
    Calls Tryz.prog 12 #[tp p.y, .string key, .string value, .int .i64 fl] w fun e w' => e = .returned (.int .i64 1) ∧ YS p w0 Q0 s T V w' := by
  obtain ⟨f, _, CF⟩ := h.form hp key
  have HF := Lib.hid CF
  have HB : Hid (∀ W, YS p w0 Q0 s T V W → W.cell? ⟨p.y, 3, none⟩ = some (.int .i64 p.v) ∧ W.cell? ⟨p.y, 6, none⟩ = some (.bool s.gone)) := fun W hW => ⟨hW.map.cell 3, hW.map.cell 6⟩
  have hb' : s.gone = true ∨ decide (IsKey p.key key) = false ∨ ((value.size : Int) != (p.v : Int)) = true ∨ decide (fl < 0) = true ∨ decide (2 < fl) = true := by
    rcases hb with hb | hb | hb | hb | hb
    · exact .inl hb
    · exact .inr (.inl (decide_eq_false hb))
    · exact .inr (.inr (.inl (by simp; omega)))
    · exact .inr (.inr (.inr (.inl (decide_eq_true hb))))
    · exact .inr (.inr (.inr (.inr (decide_eq_true hb))))
  obtain ⟨ok, hok⟩ : ∃ ok, decide (IsKey p.key key) = ok := ⟨_, rfl⟩
  obtain ⟨gn, hgn⟩ : ∃ gn, s.gone = gn := ⟨_, rfl⟩
  rw [hok] at hb' HF
  rw [hgn] at hb' HB
  clear h hb CF hok hgn
  go_enter Tryz.func12, Tryz.ntmps12
  go_upto_region 2 with (go_at_call 35; refine HF.out.mono ?_; rintro e w1 ⟨rfl, h1⟩; have H1 := Lib.hid h1; clear h1)
  obtain ⟨c3, c6⟩ := HB.out _ H1.out
  cases gn
  · cases ok
    · clear hb'
      go_wp2_with fail
      go_ret
      exact ⟨rfl, H1.out⟩
    · cases e2 : ((value.size : Int) != (p.v : Int))
      · cases e3 : decide (fl < 0)
        · cases e4 : decide (2 < fl)
          · exfalso
            rw [e2, e3, e4] at hb'
            rcases hb' with h | h | h | h | h <;> cases h
          · clear hb'
            go_wp2_with fail
            go_ret
            exact ⟨rfl, H1.out⟩
        · clear hb'
          go_wp2_with fail
          go_ret
          exact ⟨rfl, H1.out⟩
      · clear hb'
        go_wp2_with fail
        go_ret
        exact ⟨rfl, H1.out⟩
  · clear hb'
    go_wp2_with fail
    go_ret
    exact ⟨rfl, H1.out⟩
theorem YS.upd_exists (h : YS p w0 Q0 s T V w) (hp : p.Ok) (hl : s.es.length ≤ 4096) (hg : s.gone = false) (key value : ByteArray) (fl : Int) (hk : IsKey p.key key) (hv : value.size = p.v) (h0 : 0 ≤ fl) (h2 : fl ≤ 2) (i : Nat) (hf : findE s.es (formB key) = some i) (hfl : fl = 1) :
    Calls Tryz.prog 12 #[tp p.y, .string key, .string value, .int .i64 fl] w fun e w' => e = .returned (.int .i64 5) ∧ YS p w0 Q0 s T V w' := by
  have HF := Lib.hid (h.form_is hp key hk)
  have HB : Hid (∀ W, YS p w0 Q0 s T V W → W.cell? ⟨p.y, 3, none⟩ = some (.int .i64 p.v) ∧ W.cell? ⟨p.y, 4, none⟩ = some (.int .i64 p.mx) ∧ W.cell? ⟨p.y, 6, none⟩ = some (.bool false)) := fun W hW => ⟨hW.map.cell 3, hW.map.cell 4, by rw [← hg]; exact hW.map.cell 6⟩
  have e2 : ((value.size : Int) != (p.v : Int)) = false := by simp; omega
  have e3 : decide (fl < 0) = false := decide_eq_false (by omega)
  have e4 : decide (2 < fl) = false := decide_eq_false (by omega)
  have CF := Lib.hid (fun W (hW : YS p w0 Q0 s T V W) => hW.find hl (formB key))
  rw [find_some hf] at CF
  have g1 : decide (0 ≤ (i : Int)) = true := decide_eq_true (by omega)
  subst hfl
  clear h hl hf hk hv hg h0 h2
  go_enter Tryz.func12, Tryz.ntmps12
  go_upto_region 2 with (go_at_call 35; refine HF.out.mono ?_; rintro e w1 ⟨rfl, h1⟩; have H1 := Lib.hid h1; clear h1)
  obtain ⟨c3, c4, c6⟩ := HB.out _ H1.out
  go_wp2_with (go_at_call 36; refine (CF.out _ H1.out).mono ?_; rintro e w2 ⟨rfl, rfl⟩)
  go_ret
  exact ⟨rfl, H1.out⟩
theorem YS.upd_noneE (h : YS p w0 Q0 s T V w) (hp : p.Ok) (hl : s.es.length ≤ 4096) (hg : s.gone = false) (key value : ByteArray) (fl : Int) (hk : IsKey p.key key) (hv : value.size = p.v) (h0 : 0 ≤ fl) (h2 : fl ≤ 2) (hf : findE s.es (formB key) = none) (hfl : fl = 2) :
    Calls Tryz.prog 12 #[tp p.y, .string key, .string value, .int .i64 fl] w fun e w' => e = .returned (.int .i64 4) ∧ YS p w0 Q0 s T V w' := by
  have HF := Lib.hid (h.form_is hp key hk)
  have HB : Hid (∀ W, YS p w0 Q0 s T V W → W.cell? ⟨p.y, 3, none⟩ = some (.int .i64 p.v) ∧ W.cell? ⟨p.y, 4, none⟩ = some (.int .i64 p.mx) ∧ W.cell? ⟨p.y, 6, none⟩ = some (.bool false)) := fun W hW => ⟨hW.map.cell 3, hW.map.cell 4, by rw [← hg]; exact hW.map.cell 6⟩
  have e2 : ((value.size : Int) != (p.v : Int)) = false := by simp; omega
  have e3 : decide (fl < 0) = false := decide_eq_false (by omega)
  have e4 : decide (2 < fl) = false := decide_eq_false (by omega)
  have CF := Lib.hid (fun W (hW : YS p w0 Q0 s T V W) => hW.find hl (formB key))
  rw [find_none hf] at CF
  subst hfl
  clear h hl hf hk hv hg h0 h2
  go_enter Tryz.func12, Tryz.ntmps12
  go_upto_region 2 with (go_at_call 35; refine HF.out.mono ?_; rintro e w1 ⟨rfl, h1⟩; have H1 := Lib.hid h1; clear h1)
  obtain ⟨c3, c4, c6⟩ := HB.out _ H1.out
  go_wp2_with (go_at_call 36; refine (CF.out _ H1.out).mono ?_; rintro e w2 ⟨rfl, rfl⟩)
  go_ret
  exact ⟨rfl, H1.out⟩
set_option maxHeartbeats 1000000 in
theorem YS.upd_put (h : YS p w0 Q0 s T V w) (hp : p.Ok) (hl : s.es.length ≤ 4096) (hg : s.gone = false) (key value : ByteArray) (fl : Int) (hk : IsKey p.key key) (hv : value.size = p.v) (h0 : 0 ≤ fl) (h2 : fl ≤ 2) (i : Nat) (hf : findE s.es (formB key) = some i) (hfl : fl ≠ 1) (e : Ent) (he : s.es[i]? = some e) (q : RV) (hq : s.m.vs e.n = some q) (hql : q.2.1.length = p.v) (hn : e.n ≤ 4294967295) (hvm : p.v ≤ 4096) (l : List UInt8) (hvl : value = bstr l) :
    Calls Tryz.prog 12 #[tp p.y, .string key, .string value, .int .i64 fl] w fun e' w' => e' = .returned (.int .i64 0) ∧ ∃ T' V', YS p w0 Q0 (s.put e q l) T' V' w' := by
  have HF := Lib.hid (h.form_is hp key hk)
  have HB : Hid (∀ W, YS p w0 Q0 s T V W → W.cell? ⟨p.y, 3, none⟩ = some (.int .i64 p.v) ∧ W.cell? ⟨p.y, 4, none⟩ = some (.int .i64 p.mx) ∧ W.cell? ⟨p.y, 6, none⟩ = some (.bool false)) := fun W hW => ⟨hW.map.cell 3, hW.map.cell 4, by rw [← hg]; exact hW.map.cell 6⟩
  have e2 : ((value.size : Int) != (p.v : Int)) = false := by simp; omega
  have e3 : decide (fl < 0) = false := decide_eq_false (by omega)
  have e4 : decide (2 < fl) = false := decide_eq_false (by omega)
  have CF := Lib.hid (fun W (hW : YS p w0 Q0 s T V W) => hW.find hl (formB key))
  rw [find_some hf] at CF
  have hi := find_lt hf
  subst hvl
  have hll : l.length = p.v := by rw [← bstr_size]; exact hv
  have CP := Lib.hid (fun w1 T1 V1 (h1 : YS p w0 Q0 s T1 V1 w1) => h1.call (x_put p.bx s.m e.n hn q hq l (by omega) (by omega)))
  obtain ⟨g, c, rfl, h1, h3⟩ := h.row (by intro e; rw [e] at hi; simp at hi)
  have HE := Lib.hid he
  have g1 : decide (0 ≤ (i : Int)) = true := decide_eq_true (by omega)
  have g2 : (fl == 1) = false := by simpa using hfl
  have i1 : (i : Int) < (s.es.length : Int) := by omega
  obtain ⟨n, hnn⟩ : ∃ n, s.es.length = n := ⟨_, rfl⟩
  have HNN := Lib.hid hnn
  clear h hl hf hk hv hg h0 h2 he hq hql hn hvm hll hi h1 h3 hfl
  rw [hnn] at i1 HF HB CF
  clear hnn
  go_enter Tryz.func12, Tryz.ntmps12
  go_upto_region 2 with (go_at_call 35; refine HF.out.mono ?_; rintro e w1 ⟨rfl, h1⟩; have H1 := Lib.hid h1; clear h1)
  obtain ⟨c3, c4, c6⟩ := HB.out _ H1.out
  go_upto_region 8 with (go_at_call 36; refine (CF.out _ H1.out).mono ?_; rintro e w2 ⟨rfl, rfl⟩)
  have HY := H1
  clear H1 c3 c4 c6
  have HE0 : Hid (Ents w1 (.slice (some ⟨g, 0, none⟩) s.es.length c) s.es) := (by have := HY.out.ents; unfold Ents at this ⊢; rw [HNN.out] at this ⊢; exact this)
  have S0 : Hid (w1.cell? ⟨p.y, 0, none⟩ = some (tp p.bx) ∧ w1.cell? ⟨p.y, 5, none⟩ = some (.slice (some ⟨g, 0, none⟩) n c) ∧ w1.cell? ⟨g, i * 2 + 1, none⟩ = some (.int .u64 (addr e.n 0))) := ⟨HY.out.map.cell 0, HY.out.map.cell 5, (ents_cells HE0.out HE.out).2⟩
  have HD : Hid (YS p w0 Q0 s T (.slice (some ⟨g, 0, none⟩) n c) w1.drew) := HY.out.drew
  go_region_held3 (fun W => W.cell? ⟨p.y, 0, none⟩ = some (tp p.bx) ∧ W.cell? ⟨p.y, 5, none⟩ = some (.slice (some ⟨g, 0, none⟩) n c) ∧ W.cell? ⟨g, i * 2 + 1, none⟩ = some (.int .u64 (addr e.n 0)))
    (first | exact S0.out | exact S1.out)
    (first
      | (go_at_call 37; refine (CP.out _ _ _ HD.out).mono ?_; rintro e' w3 ⟨rfl, T1, h1⟩; have H1 := Lib.hid h1; have HE1 : Hid (Ents w3 (.slice (some ⟨g, 0, none⟩) s.es.length c) s.es) := (by have := h1.ents; unfold Ents at this ⊢; rw [HNN.out] at this ⊢; exact this); have S1 : Hid (w3.cell? ⟨p.y, 0, none⟩ = some (tp p.bx) ∧ w3.cell? ⟨p.y, 5, none⟩ = some (.slice (some ⟨g, 0, none⟩) n c) ∧ w3.cell? ⟨g, i * 2 + 1, none⟩ = some (.int .u64 (addr e.n 0))) := ⟨h1.map.cell 0, h1.map.cell 5, (ents_cells HE1.out HE.out).2⟩; clear h1))
  go_wp2_with fail
  go_ret
  exact ⟨rfl, _, _, H1.out⟩
end
end Go.Proofs.YtomhflaofipccaaGreat
namespace Go.Proofs.YtomhflaofipccaaGreat
open Go Go.RowKit Go.Maps
set_option linter.unusedVariables false
set_option linter.unusedSimpArgs false
set_option maxRecDepth 100000
theorem wpList_append_run' {P : Program} {ops : Array Oper} {rest : List Oper} {o : Oper} {a : Act} {w : World} {Q : Exit → Act → World → Prop} (hgd : o.guard = none) (s x : Operand) (t : TypeId)
    (ho : o.op = .call { callee := .builtin .append, args := #[s, x], argTypes := #[t, t] }) (v xv v' : Value) (w' : World) (hs : a.eval s = v) (hx : a.eval x = xv) (hrun : ∀ ty, (Builtin.append_ #[t, t] ty #[v, xv]).run P w = .ok v' w')
    (h : wpList P ops Q rest (a.put o.dst v') w') : wpList P ops Q (o :: rest) a w := by
  refine wpList_plain hgd fun K hK => ?_
  unfold Oper.wp execOp
  simp only [ho, resolve, invoke, builtin, Sem.run_bind, Sem.run_pure, Result.andThen_ok, List.map_toArray, List.map_cons, List.map_nil, hs, hx, hrun]
  exact hK _ _ h
def HSt.push (s : HSt) (e : Ent) : HSt := { s with es := s.es ++ [e] }
section
variable {p : HPar} {w0 w w' : World} {Q Q0 U T T' : Nat → Prop} {s s' : HSt} {V V' : Value}
/-- An entry comes. -/
theorem YS.app (h : YS p w0 Q0 s T V w) (hl : s.es.length ≤ 4096) (e : Ent) :
    ∃ A c w2, (∀ ty, (Builtin.append_ #[entsT, entsT] ty #[V, .slice (some ⟨w.heap.size, 0, none⟩) 1 1]).run Tryz.prog (w.alloc (.cells #[.string e.key, .int .u64 (addr e.n 0)] entT)) = .ok (.slice A (s.es.length + 1) c) w2) ∧
      Blk w2 p.y rT (rowC p s V) ∧ YS p w0 Q0 (s.push e) T (.slice A (s.es.length + 1) c) (w2.setCell ⟨p.y, 5, none⟩ (.slice A (s.es.length + 1) c)) := by
  have ka : Keeps (fun _ => False) w (w.alloc (.cells #[.string e.key, .int .u64 (addr e.n 0)] entT)) := (Keeps.refl _ w).alloc _
  have h1 := h.quiet ka
  have hb := Blk.new w entT #[.string e.key, .int .u64 (addr e.n 0)]
  obtain ⟨V', w2, r, o, g, b⟩ := ents_append (M := [e]) (A := some ⟨w.heap.size, 0, none⟩) (c := 1) h1.ents (fun i u hi => ⟨w.heap.size, 0, rfl, by
    rw [Nat.zero_add]
    refine (hb.cell i).trans ?_
    have : (#[Value.string e.key, .int .u64 (addr e.n 0)] : Array Value)[i]? = (entC e)[i]? := by rw [← Array.getElem?_toList]; rfl
    rw [this]
    simpa [entsC] using hi⟩) (fun h => by cases h) (fun a h => by cases h; exact ⟨_, _, rfl⟩) (by simp; omega)
  have hl1 : (s.es ++ [e]).length = s.es.length + 1 := by simp
  obtain ⟨A, c, rfl⟩ := ents_shape o
  rw [hl1] at r b
  have k2 : Keeps (ownY p V) (w.alloc (.cells #[.string e.key, .int .u64 (addr e.n 0)] entT)) w2 := Keeps.grown (Keeps.refl _ _) g (fun k ek => .inl (.inr ek))
  have hyV : ¬ V.ownBlock = some p.y := fun e => (h1.own _ e).2.2 rfl
  have m2 : Blk w2 p.y rT (rowC p s V) := by
    have k3 : Keeps (fun b => V.ownBlock = some b) (w.alloc (.cells #[.string e.key, .int .u64 (addr e.n 0)] entT)) w2 := Keeps.grown (Keeps.refl _ _) g (fun k ek => .inl ek)
    exact h1.map.keeps k3 hyV
  have own' : ∀ g', (Value.slice A (s.es.length + 1) c).ownBlock = some g' → V.ownBlock = some g' ∨ w.heap.size ≤ g' := fun g' hg' => by
    rcases b with eb | eb
    · exact .inl (eb ▸ hg')
    · rw [eb] at hg'
      cases hg'
      exact .inr (by simp)
  have hny : ∀ g', (Value.slice A (s.es.length + 1) c).ownBlock = some g' → g' ≠ p.y := fun g' hg' e => by
    subst e
    rcases own' _ hg' with h3 | h3
    · exact hyV h3
    · have := h.map.lt; omega
  refine ⟨A, c, w2, r, m2, h.local_ (s' := s.push e) rfl ?_ (m2.set_ 5 _) ?_ own'⟩
  · exact (((ka.mono fun _ hf => hf.elim).trans (k2.mono fun b hb => .inl hb))).setCell (p := ⟨p.y, 5, none⟩) (.inl (.inl rfl)) _
  · have : Ents w2 (.slice A (s.es.length + 1) c) (s.es ++ [e]) := by
      have := o
      rw [hl1] at this
      exact this
    exact ents_keeps this ((Keeps.refl (fun b => b = p.y) w2).setCell (p := ⟨p.y, 5, none⟩) (.inl rfl) _) hny
theorem YS.upd_full (h : YS p w0 Q0 s T V w) (hp : p.Ok) (hl : s.es.length ≤ 4096) (hg : s.gone = false) (key value : ByteArray) (fl : Int) (hk : IsKey p.key key) (hv : value.size = p.v) (h0 : 0 ≤ fl) (h2 : fl ≤ 2) (hf : findE s.es (formB key) = none) (hfl : fl ≠ 2) (hn : s.es.length = p.mx) :
    Calls Tryz.prog 12 #[tp p.y, .string key, .string value, .int .i64 fl] w fun e w' => e = .returned (.int .i64 3) ∧ YS p w0 Q0 s T V w' := by
  have HF := Lib.hid (h.form_is hp key hk)
  have HB : Hid (∀ W, YS p w0 Q0 s T V W → W.cell? ⟨p.y, 3, none⟩ = some (.int .i64 p.v) ∧ W.cell? ⟨p.y, 4, none⟩ = some (.int .i64 p.mx) ∧ W.cell? ⟨p.y, 6, none⟩ = some (.bool false)) := fun W hW => ⟨hW.map.cell 3, hW.map.cell 4, by rw [← hg]; exact hW.map.cell 6⟩
  have e2 : ((value.size : Int) != (p.v : Int)) = false := by simp; omega
  have e3 : decide (fl < 0) = false := decide_eq_false (by omega)
  have e4 : decide (2 < fl) = false := decide_eq_false (by omega)
  have CF := Lib.hid (fun W (hW : YS p w0 Q0 s T V W) => hW.find hl (formB key))
  rw [find_none hf] at CF
  have e5 : (fl == 2) = false := by simpa using hfl
  obtain ⟨A, c, rfl⟩ := h.shape
  have HA : Hid (∀ W, YS p w0 Q0 s T (.slice A s.es.length c) W → W.cell? ⟨p.y, 5, none⟩ = some (.slice A s.es.length c)) := fun W hW => hW.map.cell 5
  have g1 : ((s.es.length : Int) == (p.mx : Int)) = true := by simp; omega
  clear h hl hf hk hv hg h0 h2 hfl hn
  go_enter Tryz.func12, Tryz.ntmps12
  go_upto_region 2 with (go_at_call 35; refine HF.out.mono ?_; rintro e w1 ⟨rfl, h1⟩; have H1 := Lib.hid h1; clear h1)
  obtain ⟨c3, c4, c6⟩ := HB.out _ H1.out
  have c5 := HA.out _ H1.out
  go_upto_region 12 with (go_at_call 36; refine (CF.out _ H1.out).mono ?_; rintro e w2 ⟨rfl, rfl⟩)
  go_quiet (fail)
  go_wp2_with fail
  go_ret
  exact ⟨rfl, H1.out.drewN _⟩
theorem YS.upd_mem (h : YS p w0 Q0 s T V w) (hp : p.Ok) (hl : s.es.length ≤ 4096) (hg : s.gone = false) (key value : ByteArray) (fl : Int) (hk : IsKey p.key key) (hv : value.size = p.v) (h0 : 0 ≤ fl) (h2 : fl ≤ 2) (hf : findE s.es (formB key) = none) (hfl : fl ≠ 2) (hn : s.es.length ≠ p.mx) (hfail : s.m.fail = 1) (hv1 : 1 ≤ p.v) (hv2 : p.v ≤ 4096) :
    Calls Tryz.prog 12 #[tp p.y, .string key, .string value, .int .i64 fl] w fun e w' => e = .returned (.int .i64 2) ∧ ∃ T', YS p w0 Q0 { s with m := { s.m with fail := 0 } } T' V w' := by
  have HF := Lib.hid (h.form_is hp key hk)
  have HB : Hid (∀ W, YS p w0 Q0 s T V W → W.cell? ⟨p.y, 3, none⟩ = some (.int .i64 p.v) ∧ W.cell? ⟨p.y, 4, none⟩ = some (.int .i64 p.mx) ∧ W.cell? ⟨p.y, 6, none⟩ = some (.bool false)) := fun W hW => ⟨hW.map.cell 3, hW.map.cell 4, by rw [← hg]; exact hW.map.cell 6⟩
  have e2 : ((value.size : Int) != (p.v : Int)) = false := by simp; omega
  have e3 : decide (fl < 0) = false := decide_eq_false (by omega)
  have e4 : decide (2 < fl) = false := decide_eq_false (by omega)
  have CF := Lib.hid (fun W (hW : YS p w0 Q0 s T V W) => hW.find hl (formB key))
  rw [find_none hf] at CF
  have e5 : (fl == 2) = false := by simpa using hfl
  obtain ⟨A, c, rfl⟩ := h.shape
  have HA : Hid (∀ W, YS p w0 Q0 s T (.slice A s.es.length c) W → W.cell? ⟨p.y, 5, none⟩ = some (.slice A s.es.length c)) := fun W hW => hW.map.cell 5
  have g1 : ((s.es.length : Int) == (p.mx : Int)) = false := by simp; omega
  have CA := Lib.hid (fun w1 T1 V1 (h1 : YS p w0 Q0 s T1 V1 w1) => h1.call (x_alloc_no p.bx s.m hfail p.v hv1 (by omega)))
  clear h hl hf hk hv hg h0 h2 hfl hn hfail hv1 hv2
  go_enter Tryz.func12, Tryz.ntmps12
  go_upto_region 2 with (go_at_call 35; refine HF.out.mono ?_; rintro e w1 ⟨rfl, h1⟩; have H1 := Lib.hid h1; clear h1)
  obtain ⟨c3, c4, c6⟩ := HB.out _ H1.out
  have c5 := HA.out _ H1.out
  go_upto_region 12 with (go_at_call 36; refine (CF.out _ H1.out).mono ?_; rintro e w2 ⟨rfl, rfl⟩)
  go_quiet (fail)
  go_upto_region 14 with fail
  have HD : Hid (YS p w0 Q0 s T (.slice A s.es.length c) (w1.drewN nq)) := H1.out.drewN nq
  have S0 : Hid ((w1.drewN nq).cell? ⟨p.y, 0, none⟩ = some (tp p.bx) ∧ (w1.drewN nq).cell? ⟨p.y, 3, none⟩ = some (.int .i64 p.v)) := ⟨H1.out.map.cell 0, H1.out.map.cell 3⟩
  clear H1 c3 c4 c5 c6
  generalize w1.drewN nq = w2 at *
  go_region_held3 (fun W => W.cell? ⟨p.y, 0, none⟩ = some (tp p.bx) ∧ W.cell? ⟨p.y, 3, none⟩ = some (.int .i64 p.v))
    (first | exact S0.out | exact S1.out)
    (first
      | (go_at_call 38; refine (CA.out _ _ _ HD.out.drew).mono ?_; rintro e' w3 ⟨rfl, T1, h1⟩; have H1 := Lib.hid h1; have S1 : Hid (w3.cell? ⟨p.y, 0, none⟩ = some (tp p.bx) ∧ w3.cell? ⟨p.y, 3, none⟩ = some (.int .i64 p.v)) := ⟨h1.map.cell 0, h1.map.cell 3⟩; clear h1))
  go_wp2_with fail
  go_ret
  exact ⟨rfl, _, H1.out⟩
theorem grown_new (m : PS) (v : Nat) : (m.grown v).vs (m.made + 1) = some (3, List.replicate v 0, false) := by
  unfold PS.grown updv
  exact if_pos rfl
set_option maxHeartbeats 2000000 in
theorem YS.upd_new (h : YS p w0 Q0 s T V w) (hp : p.Ok) (hl : s.es.length ≤ 4096) (hg : s.gone = false) (key value : ByteArray) (fl : Int) (hk : IsKey p.key key) (hv : value.size = p.v) (h0 : 0 ≤ fl) (h2 : fl ≤ 2) (hf : findE s.es (formB key) = none) (hfl : fl ≠ 2) (hn : s.es.length ≠ p.mx) (hfail : s.m.fail ≠ 1) (hmade : s.m.made < 4095) (hv1 : 1 ≤ p.v) (hv2 : p.v ≤ 4096) (hl2 : s.es.length < 4096) (l : List UInt8) (hvl : value = bstr l) :
    Calls Tryz.prog 12 #[tp p.y, .string key, .string value, .int .i64 fl] w fun e w' => e = .returned (.int .i64 0) ∧ ∃ T' V', YS p w0 Q0 ((s.alloc p.v).fresh (s.m.made + 1) (formB key) l p.v) T' V' w' := by
  have HF := Lib.hid (h.form_is hp key hk)
  have HB : Hid (∀ W, YS p w0 Q0 s T V W → W.cell? ⟨p.y, 3, none⟩ = some (.int .i64 p.v) ∧ W.cell? ⟨p.y, 4, none⟩ = some (.int .i64 p.mx) ∧ W.cell? ⟨p.y, 6, none⟩ = some (.bool false)) := fun W hW => ⟨hW.map.cell 3, hW.map.cell 4, by rw [← hg]; exact hW.map.cell 6⟩
  have e2 : ((value.size : Int) != (p.v : Int)) = false := by simp; omega
  have e3 : decide (fl < 0) = false := decide_eq_false (by omega)
  have e4 : decide (2 < fl) = false := decide_eq_false (by omega)
  have CF := Lib.hid (fun W (hW : YS p w0 Q0 s T V W) => hW.find hl (formB key))
  rw [find_none hf] at CF
  have e5 : (fl == 2) = false := by simpa using hfl
  subst hvl
  have hll : l.length = p.v := by rw [← bstr_size]; exact hv
  obtain ⟨A, c, rfl⟩ := h.shape
  have HA : Hid (∀ W, YS p w0 Q0 s T (.slice A s.es.length c) W → W.cell? ⟨p.y, 5, none⟩ = some (.slice A s.es.length c)) := fun W hW => hW.map.cell 5
  have g1 : ((s.es.length : Int) == (p.mx : Int)) = false := by simp; omega
  have CA := Lib.hid (fun w1 T1 V1 (h1 : YS p w0 Q0 s T1 V1 w1) => h1.call (x_alloc p.bx s.m hfail hmade p.v hv1 (by omega)))
  have CP := Lib.hid (fun w1 T1 V1 (h1 : YS p w0 Q0 (s.alloc p.v) T1 V1 w1) => h1.call (x_put p.bx (s.alloc p.v).m (s.m.made + 1) (by omega) _ (grown_new s.m p.v) l (by omega) (by rw [List.length_replicate]; omega)))
  generalize formB key = fk at *
  clear h hl hf hk hv hg h0 h2 hfl hn hfail hv1 hv2 hll hmade
  go_enter Tryz.func12, Tryz.ntmps12
  go_upto_region 2 with (go_at_call 35; refine HF.out.mono ?_; rintro e w1 ⟨rfl, h1⟩; have H1 := Lib.hid h1; clear h1)
  obtain ⟨c3, c4, c6⟩ := HB.out _ H1.out
  have c5 := HA.out _ H1.out
  go_upto_region 12 with (go_at_call 36; refine (CF.out _ H1.out).mono ?_; rintro e w2 ⟨rfl, rfl⟩)
  go_quiet (fail)
  go_upto_region 14 with fail
  have HD : Hid (YS p w0 Q0 s T (.slice A s.es.length c) (w1.drewN nq)) := H1.out.drewN nq
  have S0 : Hid ((w1.drewN nq).cell? ⟨p.y, 0, none⟩ = some (tp p.bx) ∧ (w1.drewN nq).cell? ⟨p.y, 3, none⟩ = some (.int .i64 p.v)) := ⟨H1.out.map.cell 0, H1.out.map.cell 3⟩
  clear H1 c3 c4 c5 c6
  generalize w1.drewN nq = w2 at *
  go_region_held3 (fun W => W.cell? ⟨p.y, 0, none⟩ = some (tp p.bx) ∧ W.cell? ⟨p.y, 3, none⟩ = some (.int .i64 p.v))
    (first | exact S0.out | exact S1.out)
    (first
      | (go_at_call 38; refine (CA.out _ _ _ HD.out.drew).mono ?_; rintro e' w3 ⟨rfl, T1, h1⟩; have H1 := Lib.hid h1; have S1 : Hid (w3.cell? ⟨p.y, 0, none⟩ = some (tp p.bx) ∧ w3.cell? ⟨p.y, 3, none⟩ = some (.int .i64 p.v)) := ⟨h1.map.cell 0, h1.map.cell 3⟩; clear h1))
  have y0 : w3.cell? ⟨p.y, 0, none⟩ = some (tp p.bx) := H1.out.map.cell 0
  go_upto_region 18 with (go_at_call 37; refine (CP.out _ _ _ H1.out).mono ?_; rintro e' w4 ⟨rfl, T4, h4⟩; have H4 := Lib.hid h4; clear h4)
  obtain ⟨A5, c5', w5, hr, m5, h6⟩ := H4.out.app (show s.es.length ≤ 4096 by omega) ⟨fk, s.m.made + 1⟩
  have R5 := Lib.hid hr
  have H6 : Hid (YS p w0 Q0 ((s.alloc p.v).fresh (s.m.made + 1) fk l p.v) T4 (.slice A5 (s.es.length + 1) c5') (w5.setCell ⟨p.y, 5, none⟩ (.slice A5 (s.es.length + 1) c5'))) := h6
  have y5 : w4.cell? ⟨p.y, 5, none⟩ = some (.slice A s.es.length c) := H4.out.map.cell 5
  have y6 : w5.cell? ⟨p.y, 5, none⟩ = some (.slice A s.es.length c) := m5.cell 5
  have y7 : w5.frozen? ⟨p.y, 5, none⟩ = false := m5.frozen 5
  clear hr m5 h6
  go_upto_region 19 with (at_builtin; refine wpList_append_run' rfl _ _ entsT rfl (.slice A s.es.length c) (.slice (some ⟨w4.heap.size, 0, none⟩) 1 1) (.slice A5 (s.es.length + 1) c5') w5 rfl rfl R5.out ?_)
  go_wp2_with fail
  go_ret
  exact ⟨rfl, _, _, H6.out⟩
end
end Go.Proofs.YtomhflaofipccaaGreat
