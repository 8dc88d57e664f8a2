/-
  Package hash: Lookup, Delete, Next, Len. Package hash: add: a new entry, where there is room or the oldest one goes.
-/
import Derived.Test.YtbikofedppgblaaGreatQ18
namespace Go.Proofs.YtbikofedppgblaaGreat
open Go Go.RowKit Go.Maps
set_option linter.unusedVariables false
set_option linter.unusedSimpArgs false
set_option maxRecDepth 100000
section
variable {p : HPar} {w0 w w' : World} {P0 P U T T' : Nat → Prop} {s s' : HSt} {mb N N' : Nat} {D D' : DataW Value} {bl bl' : Nat → Nat}
theorem find_all {es : List Ent} {key : ByteArray} (hf : findE es key = none) : ∀ e, e ∈ es → e.key ≠ key := fun e he => by
  obtain ⟨i, hi, rfl⟩ := List.getElem_of_mem he
  exact keyB_no.1 (findE_none_key hf (List.getElem?_eq_getElem hi))
theorem find_eq {es : List Ent} {key : ByteArray} {i : Nat} {e : Ent} (hf : findE es key = some i) (he : es[i]? = some e) : e.key = key := keyB_iff.1 (find_key hf he)
theorem keepsF (w : World) : Keeps (fun _ => False) w w := Keeps.refl _ _
theorem PG.look_no (h : PG p w0 P0 s T mb N D bl w) (key : ByteArray) (hks : key.size ≤ maxLen) (hf : findE s.es key = none) :
    Calls Tryz.prog 74 #[tp p.x, .string key] w fun e w' => e = .returned (.int .u64 0) ∧ w = w' := by
  have CG := Lib.hid (gone_no h)
  have c5 : w.cell? ⟨p.x, 5, none⟩ = some (.map (some mb)) := h.map.cell 5
  have lk := (h.look hks).2 (find_all hf)
  clear h hf hks
  go_enter Tryz.func74, Tryz.ntmps74
  go_wp2_with (go_at_call 105; refine CG.out.mono ?_; rintro e w1 ⟨rfl, rfl⟩)
  go_ret
  exact ⟨rfl, rfl⟩
theorem PG.look_yes (h : PG p w0 P0 s T mb N D bl w) (ha : Apart s.es) (hc : s.clock < 1000000) (key : ByteArray) (hks : key.size ≤ maxLen) (i : Nat) (hf : findE s.es key = some i) (e : Ent) (he : s.es[i]? = some e) :
    Calls Tryz.prog 74 #[tp p.x, .string key] w fun e' w' => e' = .returned (.int .u64 (addr e.n 0)) ∧ PG p w0 P0 (s.use i) T mb N D bl w' := by
  have hm := List.mem_of_getElem? he
  have CG := Lib.hid (gone_no h)
  have CU := Lib.hid (h.use ha i e he hc)
  have c5 : w.cell? ⟨p.x, 5, none⟩ = some (.map (some mb)) := h.map.cell 5
  have lk := (h.look hks).1 e hm (find_eq hf he)
  have HU : Hid ({ e with used := s.clock + 1 } ∈ (s.use i).es) := List.mem_of_getElem? (setUsed_get (u := s.clock + 1) he)
  clear h hf hks hc he hm
  go_enter Tryz.func74, Tryz.ntmps74
  go_wp2_with (first
    | (go_at_call 105; refine CG.out.mono ?_; rintro e' w1 ⟨rfl, rfl⟩)
    | (go_at_call 124; refine CU.out.mono ?_; rintro e' w1 ⟨rfl, h1⟩; have d0 : w1.cell? ⟨bl e.n, 0, none⟩ = some (.int .u64 (addr e.n 0)) := (h1.ent _ HU.out).cell 0; have H1 := Lib.hid h1; clear h1))
  go_ret
  exact ⟨rfl, H1.out⟩
theorem PO.look_no (h : PO p w0 P0 s T w) (key : ByteArray) :
    Calls Tryz.prog 74 #[tp p.x, .string key] w fun e w' => e = .returned (.int .u64 0) ∧ w = w' := by
  have CG := Lib.hid (gone_yes h)
  clear h
  go_enter Tryz.func74, Tryz.ntmps74
  go_wp2_with (go_at_call 105; refine CG.out.mono ?_; rintro e w1 ⟨rfl, rfl⟩)
  go_ret
  exact ⟨rfl, rfl⟩
theorem PO.del_no (h : PO p w0 P0 s T w) (key : ByteArray) :
    Calls Tryz.prog 54 #[tp p.x, .string key] w fun e w' => e = .returned (.int .i64 1) ∧ w = w' := by
  have CG := Lib.hid (gone_yes h)
  clear h
  go_enter Tryz.func54, Tryz.ntmps54
  go_wp2_with (go_at_call 105; refine CG.out.mono ?_; rintro e w1 ⟨rfl, rfl⟩)
  go_ret
  exact ⟨rfl, rfl⟩
theorem PG.del_bad (h : PG p w0 P0 s T mb N D bl w) (key : ByteArray) (hk : key.size ≠ p.key) :
    Calls Tryz.prog 54 #[tp p.x, .string key] w fun e w' => e = .returned (.int .i64 1) ∧ w = w' := by
  have CG := Lib.hid (gone_no h)
  have c2 : w.cell? ⟨p.x, 2, none⟩ = some (.int .i64 p.key) := h.map.cell 2
  have b1 : ((key.size : Int) != (p.key : Int)) = true := by simp; omega
  clear h hk
  go_enter Tryz.func54, Tryz.ntmps54
  go_wp2_with (go_at_call 105; refine CG.out.mono ?_; rintro e w1 ⟨rfl, rfl⟩)
  go_ret
  exact ⟨rfl, rfl⟩
theorem PG.del_none (h : PG p w0 P0 s T mb N D bl w) (key : ByteArray) (hk : key.size = p.key) (hks : key.size ≤ maxLen) (hf : findE s.es key = none) :
    Calls Tryz.prog 54 #[tp p.x, .string key] w fun e w' => e = .returned (.int .i64 4) ∧ w = w' := by
  have CG := Lib.hid (gone_no h)
  have c2 : w.cell? ⟨p.x, 2, none⟩ = some (.int .i64 p.key) := h.map.cell 2
  have c5 : w.cell? ⟨p.x, 5, none⟩ = some (.map (some mb)) := h.map.cell 5
  have lk := (h.look hks).2 (find_all hf)
  have b1 : ((key.size : Int) != (p.key : Int)) = false := by simp; omega
  clear h hk hks hf
  go_enter Tryz.func54, Tryz.ntmps54
  go_wp2_with (go_at_call 105; refine CG.out.mono ?_; rintro e w1 ⟨rfl, rfl⟩)
  go_ret
  exact ⟨rfl, rfl⟩
theorem PG.del_yes (h : PG p w0 P0 s T mb N D bl w) (ha : Apart s.es) (key : ByteArray) (hk : key.size = p.key) (hks : key.size ≤ maxLen) (i : Nat) (hf : findE s.es key = some i) (e : Ent) (he : s.es[i]? = some e) (q : RV) (hq : s.m.vs e.n = some q) (hr : q.2.2 = false) :
    Calls Tryz.prog 54 #[tp p.x, .string key] w fun e' w' => e' = .returned (.int .i64 0) ∧ ∃ T', PG p w0 P0 (s.cut i e q) T' mb N (D.del (litS e.key)) bl w' := by
  have hm := List.mem_of_getElem? he
  have CG := Lib.hid (gone_no h)
  obtain rfl := find_eq hf he
  have CD := Lib.hid (h.drop ha i e he hks q hq hr)
  have c2 : w.cell? ⟨p.x, 2, none⟩ = some (.int .i64 p.key) := h.map.cell 2
  have c5 : w.cell? ⟨p.x, 5, none⟩ = some (.map (some mb)) := h.map.cell 5
  have lk := (h.look hks).1 e hm rfl
  have b1 : ((e.key.size : Int) != (p.key : Int)) = false := by simp; omega
  clear h hk hks hf hq hr hm he ha
  go_enter Tryz.func54, Tryz.ntmps54
  go_wp2_with (first
    | (go_at_call 105; refine CG.out.mono ?_; rintro e' w1 ⟨rfl, rfl⟩)
    | (go_at_call 112; refine CD.out.mono ?_; rintro e' w1 ⟨rfl, h1⟩; have H1 := Lib.hid h1; clear h1))
  go_ret
  exact ⟨rfl, H1.out⟩
theorem least_next (ho : HOk p s) (key key' : ByteArray) (hk : key' = if key.size = p.key then key else ⟨#[]⟩) {o : Option ByteArray} (h : Least (fun k => gtS k key' = true) (fun e => e ∈ s.es) o) : o = nextTo p.key s.es key s.es.length := by
  refine Least.eq (P := fun k => key.size ≠ p.key ∨ gtS k key = true) (S := fun e => e ∈ s.es) ?_ (nextTo_all p.key s.es key)
  have g : ∀ e, e ∈ s.es → (gtS e.key key' = true ↔ (key.size ≠ p.key ∨ gtS e.key key = true)) := fun e he => by
    by_cases hz : key.size = p.key
    · rw [hk, if_pos hz]; simp [hz]
    · rw [hk, if_neg hz]
      have := gtS_empty (a := e.key) (by rw [(ho.of_mem he).2.1]; have := ho.par.k1; omega)
      simp [hz, this]
  refine ⟨fun h0 e he hp => h.no h0 e he ((g e he).2 hp), fun k hk' => ?_⟩
  obtain ⟨⟨e, he, rfl, hp⟩, h2⟩ := h.yes k hk'
  exact ⟨⟨e, he, rfl, (g e he).1 hp⟩, fun e' he' hp' => h2 e' he' ((g e' he').2 hp')⟩
theorem key_len {k : ByteArray} (ho : HOk p s) {key : ByteArray} (hn : nextTo p.key s.es key s.es.length = some k) : k.size ≤ 4096 := by
  obtain ⟨⟨e, he, rfl, _⟩, _⟩ := (nextTo_all p.key s.es key).yes k hn
  rw [(ho.of_mem he).2.1]
  have := ho.par.k2
  omega
set_option maxHeartbeats 2000000 in
theorem PG.next (h : PG p w0 P0 s T mb N D bl w) (ho : HOk p s) (key : ByteArray) :
    Calls Tryz.prog 59 #[tp p.x, .string key] w fun e w' => e = nextE p s key ∧ PG p w0 P0 s T mb N D bl w' := by
  have c2 : w.cell? ⟨p.x, 2, none⟩ = some (.int .i64 p.key) := h.map.cell 2
  have c5 : w.cell? ⟨p.x, 5, none⟩ = some (.map (some mb)) := h.map.cell 5
  obtain ⟨key', hk⟩ : ∃ key' : ByteArray, key' = if key.size = p.key then key else ⟨#[]⟩ := ⟨_, rfl⟩
  have CA : Hid (Calls Tryz.prog 116 #[.map (some mb), .string key'] w fun e w' => e = aboveA (nextTo p.key s.es key s.es.length) ∧ PG p w0 P0 s T mb N D bl w') := by
    refine (h.above ho key').mono ?_
    rintro e w' ⟨⟨o, h1, rfl⟩, kk⟩
    exact ⟨by rw [least_next ho key key' hk h1], h.quiet kk⟩
  have HL := Lib.hid (fun k (hn : nextTo p.key s.es key s.es.length = some k) w1 => clone_any k (key_len ho hn) w1)
  clear h ho
  unfold nextE
  generalize nextTo p.key s.es key s.es.length = o at CA HL
  by_cases hz : key.size = p.key
  · rw [if_pos hz] at hk
    subst hk
    have b1 : ((key'.size : Int) != (p.key : Int)) = false := by simp; omega
    clear hz
    rcases o with _ | k
    · go_enter Tryz.func59, Tryz.ntmps59
      unfold aboveA at CA
      go_wp2_with (go_at_call 116; refine CA.out.mono ?_; rintro e w1 ⟨rfl, h1⟩; have H1 := Lib.hid h1; clear h1)
      go_ret2
      exact ⟨rfl, H1.out⟩
    · have HC := Lib.hid (HL.out k rfl)
      clear HL
      go_enter Tryz.func59, Tryz.ntmps59
      unfold aboveA at CA
      rw [show (some k).getD ⟨#[]⟩ = k from rfl] at CA
      go_wp2_with (first
        | (go_at_call 116; refine CA.out.mono ?_; rintro e w1 ⟨rfl, h1⟩; have H1 := Lib.hid h1; clear h1)
        | (go_at_call 78; refine (HC.out _).mono ?_; rintro e w2 ⟨rfl, hb⟩; have H2 := Lib.hid (H1.out.quiet (keeps_grow hb)); clear hb))
      go_ret2
      exact ⟨rfl, H2.out⟩
  · rw [if_neg hz] at hk
    subst hk
    have b1 : ((key.size : Int) != (p.key : Int)) = true := by simp; omega
    clear hz
    rcases o with _ | k
    · go_enter Tryz.func59, Tryz.ntmps59
      unfold aboveA at CA
      go_wp2_with (go_at_call 116; refine CA.out.mono ?_; rintro e w1 ⟨rfl, h1⟩; have H1 := Lib.hid h1; clear h1)
      go_ret2
      exact ⟨rfl, H1.out⟩
    · have HC := Lib.hid (HL.out k rfl)
      clear HL
      go_enter Tryz.func59, Tryz.ntmps59
      unfold aboveA at CA
      rw [show (some k).getD ⟨#[]⟩ = k from rfl] at CA
      go_wp2_with (first
        | (go_at_call 116; refine CA.out.mono ?_; rintro e w1 ⟨rfl, h1⟩; have H1 := Lib.hid h1; clear h1)
        | (go_at_call 78; refine (HC.out _).mono ?_; rintro e w2 ⟨rfl, hb⟩; have H2 := Lib.hid (H1.out.quiet (keeps_grow hb)); clear hb))
      go_ret2
      exact ⟨rfl, H2.out⟩
theorem PO.next (h : PO p w0 P0 s T w) (ho : HOk p s) (key : ByteArray) :
    Calls Tryz.prog 59 #[tp p.x, .string key] w fun e w' => e = nextE p s key ∧ PO p w0 P0 s T w' := by
  have c2 : w.cell? ⟨p.x, 2, none⟩ = some (.int .i64 0) := h.map.cell 2
  have c5 : w.cell? ⟨p.x, 5, none⟩ = some (.map none) := h.map.cell 5
  have e0 : nextE p s key = nextA none := by
    unfold nextE
    rw [ho.gone h.gone]; rfl
  rw [e0]
  have CA := Lib.hid (fun key' => above_nil key' w)
  have H := Lib.hid h
  clear h ho e0
  unfold aboveA at CA
  by_cases hz : key.size = 0
  · have b1 : ((key.size : Int) != 0) = false := by rw [hz]; rfl
    clear hz
    go_enter Tryz.func59, Tryz.ntmps59
    go_wp2_with (go_at_call 116; refine (CA.out _).mono ?_; rintro e w1 ⟨rfl, h1⟩; have H1 := Lib.hid (H.out.quiet h1); clear h1)
    go_ret2
    exact ⟨rfl, H1.out⟩
  · have b1 : ((key.size : Int) != 0) = true := by rw [bne_iff_ne]; omega
    clear hz
    go_enter Tryz.func59, Tryz.ntmps59
    go_wp2_with (go_at_call 116; refine (CA.out _).mono ?_; rintro e w1 ⟨rfl, h1⟩; have H1 := Lib.hid (H.out.quiet h1); clear h1)
    go_ret2
    exact ⟨rfl, H1.out⟩
end
end Go.Proofs.YtbikofedppgblaaGreat
namespace Go.Proofs.YtbikofedppgblaaGreat
open Go Go.RowKit Go.Maps
set_option linter.unusedVariables false
set_option linter.unusedSimpArgs false
set_option maxRecDepth 100000
section
variable {p : HPar} {w0 w w1 w2 w' : World} {P0 P U T T' : Nat → Prop} {s s' : HSt} {mb N N' : Nat} {D D' : DataW Value} {bl bl' : Nat → Nat}
theorem Apart.push {es : List Ent} (ha : Apart es) (key : ByteArray) (n : Nat) (hk : ∀ e, e ∈ es → e.key ≠ key) (hn : ∀ e, e ∈ es → e.n ≠ n) (hu : ∀ e, e ∈ es → e.used ≠ 0) : Apart (es ++ [⟨key, n, 0⟩]) := by
  have g : ∀ e e', e ∈ es ++ [(⟨key, n, 0⟩ : Ent)] → e' ∈ es ++ [(⟨key, n, 0⟩ : Ent)] → ∀ (C : Ent → Ent → Prop), (∀ a b, C a b → C b a) → (∀ a b, a ∈ es → b ∈ es → C a b → a = b) → (∀ a, a ∈ es → ¬ C a ⟨key, n, 0⟩) → C e e' → e = e' := by
    intro e e' he he' C hs h1 h2 hc
    rcases List.mem_append.1 he with h3 | h3 <;> rcases List.mem_append.1 he' with h4 | h4
    · exact h1 e e' h3 h4 hc
    · simp at h4; subst h4; exact absurd hc (h2 e h3)
    · simp at h3; subst h3; exact absurd (hs _ _ hc) (h2 e' h4)
    · simp at h3 h4; rw [h3, h4]
  refine ⟨fun i j a b ha' hb' hij => ?_, fun e e' he he' hc => g e e' he he' (fun a b => a.key = b.key) (fun a b h => h.symm) ha.key (fun a h1 h2 => hk a h1 h2) hc, fun e e' he he' hc => g e e' he he' (fun a b => a.n = b.n) (fun a b h => h.symm) ha.n (fun a h1 h2 => hn a h1 h2) hc, fun e e' he he' hc => g e e' he he' (fun a b => a.used = b.used) (fun a b h => h.symm) ha.used (fun a h1 h2 => hu a h1 h2) hc⟩
  have at_ : ∀ {k : Nat} {x : Ent}, (es ++ [(⟨key, n, 0⟩ : Ent)])[k]? = some x → es[k]? = some x ∨ (k = es.length ∧ x = ⟨key, n, 0⟩) := by
    intro k x hx
    rcases Nat.lt_or_ge k es.length with h | h
    · rw [List.getElem?_append_left h] at hx; exact .inl hx
    · rw [List.getElem?_append_right h] at hx
      have hk0 : k - es.length = 0 := by
        have := (List.getElem?_eq_some_iff.1 hx).1
        simp at this; omega
      rw [hk0] at hx
      simp at hx
      exact .inr ⟨by omega, hx.symm⟩
  rcases at_ ha' with h1 | ⟨h1, rfl⟩ <;> rcases at_ hb' with h2 | ⟨h2, rfl⟩
  · exact ha.at_ i j a b h1 h2 hij
  · exact hk a (List.mem_of_getElem? h1)
  · exact fun e => hk b (List.mem_of_getElem? h2) e.symm
  · omega
/-- A new entry in a block of its own has come into the map. -/
theorem PG.came (h : PG p w0 P0 s T mb N D bl w) (ho : HOk p s) (key : ByteArray) (n : Nat) (hk : ∀ e, e ∈ s.es → e.key ≠ key) (hn : ∀ e, e ∈ s.es → e.n ≠ n)
    (hb : Below w.heap.size (w.alloc (.cells (enC n 0) entryT)) w1 ∨ Below (w.heap.size + 1) (w.alloc (.cells (enC n 0) entryT)) w1) (hown : OwnsE w2 mb N' (D.put (litS key) (held w.heap.size))) (hg : w1.grownBy w2 (some mb)) (hb1 : Blk w1 w.heap.size entryT (enC n 0)) :
    PG p w0 P0 { s with es := s.es ++ [⟨key, n, 0⟩] } T mb N' (D.put (litS key) (held w.heap.size)) (upb bl n w.heap.size) w2 := by
  have k0 : Keeps (fun _ => False) w w1 := by
    have k1 : Below w.heap.size w w1 := by
      rcases hb with hb | hb
      · exact (below_alloc w _).trans hb
      · exact (below_alloc w _).trans (hb.mono (Nat.le_succ _))
    exact keeps_grow k1
  have kk : Keeps (fun b => b = mb) w w2 := (k0.mono fun _ h => h.elim).grown hg fun k hk => by cases hk; exact .inl rfl
  have hmb : mb < w.heap.size := h.own.lt
  refine h.local_ (s' := { s with es := s.es ++ [⟨key, n, 0⟩] }) (U := fun b => b = mb) rfl rfl kk ?_ (h.map.keeps kk (map_ne h.own h.map)) hown (h.dat.push h.own.isMap (h.own.tidy lawS) key n w.heap.size hk hn 0) ?_ ?_ ?_
  · rintro b rfl
    exact ⟨h.tm, h.mbp⟩
  · intro e he
    rcases List.mem_append.1 he with h1 | h1
    · rw [upb_other _ _ (hn e h1)]
      exact (h.ent e h1).keeps kk (map_ne h.own (h.ent e h1))
    · simp at h1
      subst h1
      rw [upb_same]
      exact (hg.block w.heap.size hb1.lt (by simp; omega)).trans hb1
  · intro e he
    rcases List.mem_append.1 he with h1 | h1
    · rw [upb_other _ _ (hn e h1)]
      exact .inr ⟨e, h1, rfl⟩
    · simp at h1
      subst h1
      rw [upb_same]
      exact .inl (Nat.le_refl _)
  · intro e e' he he' hbe
    have old : ∀ x, x ∈ s.es → upb bl n w.heap.size x.n = bl x.n ∧ bl x.n < w.heap.size := fun x hx => ⟨upb_other _ _ (hn x hx), (h.ent x hx).lt⟩
    rcases List.mem_append.1 he with h1 | h1 <;> rcases List.mem_append.1 he' with h2 | h2
    · rw [(old e h1).1, (old e' h2).1] at hbe
      exact h.inj e e' h1 h2 hbe
    · simp at h2; subst h2
      rw [(old e h1).1, upb_same] at hbe
      have := (old e h1).2; omega
    · simp at h1; subst h1
      rw [(old e' h2).1, upb_same] at hbe
      have := (old e' h2).2; omega
    · simp at h1 h2; rw [h1, h2]
theorem PG.lenRun (h : PG p w0 P0 s T mb N D bl w) (ty : TypeId) : (Builtin.len_ #[entriesT] ty #[.map (some mb)]).run Tryz.prog w = .ok (.int .i64 (s.es.length : Int)) w := by
  rw [← h.dat.size]; exact h.own.len Tryz.underlying138 ty
set_option maxHeartbeats 2000000 in
theorem PG.add_full (h : PG p w0 P0 s T mb N D bl w) (key value : ByteArray) (hn : s.es.length = p.mx) (hk1 : p.k = 1) :
    Calls Tryz.prog 107 #[tp p.x, .string key, .string value] w fun e w' => e = .returned (.int .i64 3) ∧ PG p w0 P0 s T mb N D bl w' := by
  have c1 : w.cell? ⟨p.x, 1, none⟩ = some (.int .i64 p.k) := h.map.cell 1
  rw [hk1] at c1
  have c4 : w.cell? ⟨p.x, 4, none⟩ = some (.int .i64 p.mx) := h.map.cell 4
  have c5 : w.cell? ⟨p.x, 5, none⟩ = some (.map (some mb)) := h.map.cell 5
  have hl : ∀ n ty, (Builtin.len_ #[entriesT] ty #[.map (some mb)]).run Tryz.prog (w.drewN n) = .ok (.int .i64 (s.es.length : Int)) (w.drewN n) := fun n ty => (h.drewN n).lenRun ty
  have g1 : ((s.es.length : Int) == (p.mx : Int)) = true := by simp; omega
  have H := Lib.hid h
  clear h hn hk1
  go_enter Tryz.func107, Tryz.ntmps107
  go_upto_region 1 with fail
  have S0 : Hid (∀ n, (w.drewN n).cell? ⟨p.x, 4, none⟩ = some (.int .i64 p.mx) ∧ (w.drewN n).cell? ⟨p.x, 5, none⟩ = some (.map (some mb)) ∧ (Builtin.len_ #[entriesT] 0 #[.map (some mb)]).run Tryz.prog (w.drewN n) = .ok (.int .i64 (s.es.length : Int)) (w.drewN n)) := fun n => ⟨c4, c5, hl n 0⟩
  go_quiet (fail)
  go_wp2_with fail
  go_ret
  exact ⟨rfl, H.out.drewN _⟩
end
end Go.Proofs.YtbikofedppgblaaGreat
