/-
  Package hash: the least key above one, and the entry that was used longest ago, in whatever order the map tells them. Package hash: the least key above one, in whatever order the map tells them; a nil map.
-/
import Derived.Test.YtbikofedppgblaaGreatQ16
import Derived.Laws.IdiomRangeMap
namespace Go.Proofs.YtbikofedppgblaaGreat
open Go Go.RowKit Go.Maps
set_option linter.unusedVariables false
set_option linter.unusedSimpArgs false
set_option maxRecDepth 100000
abbrev Ranges (w : World) (mb r N : Nat) (D : DataW Value) (left : Lit → Bool) (cnt : Nat) : Prop := w.ranges Tryz.prog strT heldV mb r N D left cnt
def Seen (es : List Ent) (left : Lit → Bool) (e : Ent) : Prop := e ∈ es ∧ left (litS e.key) = false
/-- The oldest of those that came. -/
def Oldest (es : List Ent) (left : Lit → Bool) (l : ByteArray) (u : Nat) : Prop := (l = ⟨#[]⟩ ∧ ∀ e, ¬ Seen es left e) ∨ ∃ e, Seen es left e ∧ l = e.key ∧ u = e.used ∧ ∀ e', Seen es left e' → e.used ≤ e'.used
theorem ne_empty {k : ByteArray} (h : 1 ≤ k.size) : k.toList.isEmpty = false := by
  rw [Lib.toList_data]
  rcases hl : k.data.toList with _ | ⟨x, y⟩
  · have := Lib.size_eq k
    rw [hl] at this; rw [this] at h; exact absurd h (by decide)
  · rfl
section
variable {p : HPar} {w0 w w' : World} {P0 P U T T' : Nat → Prop} {s s' : HSt} {mb N N' : Nat} {D D' : DataW Value} {bl bl' : Nat → Nat}
set_option maxHeartbeats 4000000 in
theorem PG.leastUsed (h : PG p w0 P0 s T mb N D bl w) (ho : HOk p s) (h0 : 0 < s.es.length) (eo : Ent) (heo : s.es[oldTo s.es s.es.length]? = some eo) :
    Calls Tryz.prog 135 #[.map (some mb)] w fun e w' => e = .returned (.string eo.key) ∧ Keeps (fun _ => False) w w' := by
  have hown := h.own
  have H := Lib.hid h
  have HA := Lib.hid ho.aparts
  have HK := Lib.hid (fun e (he : e ∈ s.es) => (show 1 ≤ e.key.size by rw [(ho.of_mem he).2.1]; exact ho.par.k1))
  have HEND : Hid (∀ left l u, Oldest s.es left l u → (∀ kl, left kl = false) → l = eo.key) := by
    intro left l u hol hl
    have hmo := List.mem_of_getElem? heo
    rcases hol with ⟨_, hn⟩ | ⟨e, ⟨he, _⟩, rfl, _, hmin⟩
    · exact absurd ⟨hmo, hl _⟩ (hn eo)
    · have h1 := hmin eo ⟨hmo, hl _⟩
      obtain ⟨i, hi, rfl⟩ := List.getElem_of_mem he
      have h2 := oldTo_min s.es s.es.length h0 (Nat.le_refl _) i hi
      unfold usedAt at h2
      rw [heo, List.getElem?_eq_getElem hi] at h2
      have h3 : eo.used ≤ s.es[i].used := h2
      rw [ho.aparts.used _ _ he hmo (by omega)]
  clear h ho h0 heo
  go_enter Tryz.func135, Tryz.ntmps135
  go_wp2_with (first
    | (at_range; refine wpList_range_own _ rfl _ entriesT rfl strT 152 lawS Tryz.underlying138 heldV mb N D rfl hown ?_; intro w1 hrg0 hg0 hs0)
    | fail)
  go_frame
  go_loopw [3, 4, 5, 6] (fun l u _ _ wr => ∃ (left : Lit → Bool) (cnt : Nat) (ls : ByteArray) (us : Nat), Ranges wr mb w.heap.size N D left cnt ∧ Keeps (fun _ => False) w wr ∧ (∀ kl, left kl = true → Maps.has D kl = true) ∧ l = .string ls ∧ u = .int .u64 us ∧ Oldest s.es left ls us)
    (fun _ _ _ _ wr => wr.rangeLeft mb w.heap.size)
  case atStart =>
    refine ⟨_, _, ⟨#[]⟩, 0, hrg0, (Keeps.refl _ w).grown hg0 (fun k hk => by cases hk), fun kl hk => hk, rfl, rfl, .inl ⟨rfl, fun e he => ?_⟩⟩
    have := H.out.dat.has_yes he.1
    rw [he.2] at this; cases this
  case round =>
    obtain ⟨left, cnt, ls, us, hrg, hkp, hlf, rfl, rfl, hol⟩ := hrel
    have HKP := Lib.hid hkp
    have HLF := Lib.hid hlf
    have HOL := Lib.hid hol
    clear hkp hlf hol hrg0 hg0 hs0 hown
    go_wp2_with (first
      | (at_next; refine wpList_next_ranges _ rfl _ rfl strT lawS heldV Value.string id (fun key kl hk => by obtain ⟨x, hx, _⟩ := keyS_inv hk; exact ⟨x, hx⟩) (fun v _ _ => ⟨v, rfl⟩) mb w.heap.size N _ _ _ rfl hrg ?_ ?_)
      | fail)
    · intro hc0 hl0
      have HE := Lib.hid (HEND.out _ _ _ HOL.out hl0)
      clear hc0 hl0
      go_wp2_with fail
      go_ret
      exact ⟨by rw [HE.out]; rfl, HKP.out⟩
    · intro x c kl yd yp w2 cnt2 hkey hlk hv hat hrg2 hlt hg2 hs2 hen
      obtain ⟨x', ex, rfl⟩ := keyS_inv hkey
      cases ex
      simp only [id_eq, heldV, Option.some.injEq, Prod.mk.injEq] at hv
      obtain ⟨rfl, rfl⟩ := hv
      obtain ⟨e, he, rfl, rfl, hseen, hlf2⟩ := H.out.dat.came HA.out HLF.out hlk hat
      have HK2 : Hid (Keeps (fun _ => False) w w2) := HKP.out.grown hg2 (fun k hk => by cases hk; exact .inr (Nat.le_refl _))
      have d1 : w2.cell? ⟨bl e.n, 1, none⟩ = some (.int .u64 e.used) := ((H.out.ent e he).keeps HK2.out (fun h => h)).cell 1
      have HR2 := Lib.hid hrg2
      have HM : Hid (w2.rangeLeft mb w.heap.size < wr.rangeLeft mb w.heap.size) := by unfold Hid; rw [hrg2.left_eq, hrg.left_eq]; exact hlt
      have HLF2 := Lib.hid hlf2
      have HS := Lib.hid hseen
      have HEM := Lib.hid he
      clear hkey hlk hat hrg2 hlt hg2 hs2 hseen hlf2 hrg
      have HT : Hid ((ls = ⟨#[]⟩ ∨ e.used < us) → Oldest s.es (fun z => left z && !z.sameKey (litS e.key)) e.key e.used) := by
        intro hh
        refine .inr ⟨e, (HS.out e).2 (.inr rfl), rfl, rfl, fun e' he' => ?_⟩
        rcases (HS.out e').1 he' with h1 | rfl
        · rcases HOL.out with ⟨_, hn⟩ | ⟨e0, h2, rfl, rfl, hmin⟩
          · exact absurd h1 (hn e')
          · rcases hh with h3 | h3
            · have := HK.out e0 h2.1
              rw [h3] at this
              exact absurd this (by decide)
            · have := hmin e' h1; omega
        · exact Nat.le_refl _
      have HT2 : Hid (ls.size ≠ 0 → us ≤ e.used → Oldest s.es (fun z => left z && !z.sameKey (litS e.key)) ls us) := by
        intro h1 h2
        rcases HOL.out with ⟨h3, hn⟩ | ⟨e0, h3, rfl, rfl, hmin⟩
        · rw [h3] at h1; exact absurd rfl h1
        · refine .inr ⟨e0, (HS.out e0).2 (.inl h3), rfl, rfl, fun e' he' => ?_⟩
          rcases (HS.out e').1 he' with h4 | rfl
          · exact hmin e' h4
          · exact h2
      have HW : Hid (∀ n, Ranges (w2.drewN n) mb w.heap.size N D (fun z => left z && !z.sameKey (litS e.key)) cnt2 ∧ Keeps (fun _ => False) w (w2.drewN n)) := fun n => ⟨HR2.out, HK2.out.drewN' n⟩
      by_cases hz : ls.size = 0
      · have hls : ls = ⟨#[]⟩ := ByteArray.ext (Array.eq_empty_of_size_eq_zero hz)
        subst hls
        have HT' := Lib.hid (HT.out (.inl rfl))
        clear HT HT2 hz HOL
        go_upto_region 6 with fail
        go_quiet (fail)
        go_wp2_with fail
        go_roundw
        case rel => exact ⟨_, cnt2, e.key, e.used, (HW.out _).1, (HW.out _).2, HLF2.out, rfl, rfl, HT'.out⟩
        case measure => exact HM.out
      · have b0 := ne_empty (k := ls) (by omega)
        have HZ := Lib.hid hz
        clear hz
        by_cases hlt : e.used < us
        · have b1 : decide (e.used < us) = true := by simpa using hlt
          have i1 : (e.used : Int) < (us : Int) := by omega
          have HT' := Lib.hid (HT.out (.inr hlt))
          clear HT HT2 hlt HOL
          go_upto_region 6 with fail
          go_quiet (fail)
          go_wp2_with fail
          go_roundw
          case rel => exact ⟨_, cnt2, e.key, e.used, (HW.out _).1, (HW.out _).2, HLF2.out, rfl, rfl, HT'.out⟩
          case measure => exact HM.out
        · have b1 : decide (e.used < us) = false := by simpa using hlt
          have i1 : ¬ (e.used : Int) < (us : Int) := by omega
          have HT' := Lib.hid (HT2.out HZ.out (by omega))
          clear HT HT2 hlt HOL
          go_wp2_with fail
          go_roundw
          case rel => exact ⟨_, cnt2, ls, us, HR2.out, HK2.out, HLF2.out, rfl, rfl, HT'.out⟩
          case measure => exact HM.out
end
end Go.Proofs.YtbikofedppgblaaGreat
namespace Go.Proofs.YtbikofedppgblaaGreat
open Go Go.RowKit Go.Maps
set_option linter.unusedVariables false
set_option linter.unusedSimpArgs false
set_option maxRecDepth 100000
def aboveA (o : Option ByteArray) : Ending := .returned (.tuple #[.string (o.getD ⟨#[]⟩), .bool o.isSome])
section
variable {p : HPar} {w0 w w' : World} {P0 P U T T' : Nat → Prop} {s s' : HSt} {mb N N' : Nat} {D D' : DataW Value} {bl bl' : Nat → Nat}
set_option maxHeartbeats 4000000 in
theorem PG.above (h : PG p w0 P0 s T mb N D bl w) (ho : HOk p s) (key : ByteArray) :
    Calls Tryz.prog 116 #[.map (some mb), .string key] w fun e w' => (∃ o, Least (fun k => gtS k key = true) (fun e => e ∈ s.es) o ∧ e = aboveA o) ∧ Keeps (fun _ => False) w w' := by
  have hown := h.own
  have H := Lib.hid h
  have HA := Lib.hid ho.aparts
  have HK := Lib.hid (fun e (he : e ∈ s.es) => (show 1 ≤ e.key.size by rw [(ho.of_mem he).2.1]; exact ho.par.k1))
  clear h ho
  go_enter Tryz.func116, Tryz.ntmps116
  go_wp2_with (first
    | (at_range; refine wpList_range_own _ rfl _ entriesT rfl strT 152 lawS Tryz.underlying138 heldV mb N D rfl hown ?_; intro w1 hrg0 hg0 hs0)
    | fail)
  go_frame
  go_loopw [6, 7] (fun l _ wr => ∃ (left : Lit → Bool) (cnt : Nat) (o : Option ByteArray), Ranges wr mb w.heap.size N D left cnt ∧ Keeps (fun _ => False) w wr ∧ (∀ kl, left kl = true → Maps.has D kl = true) ∧ l = .string (o.getD ⟨#[]⟩) ∧ Least (fun k => gtS k key = true) (Seen s.es left) o)
    (fun _ _ wr => wr.rangeLeft mb w.heap.size)
  case atStart =>
    refine ⟨_, _, none, hrg0, (Keeps.refl _ w).grown hg0 (fun k hk => by cases hk), fun kl hk => hk, rfl, Least.start.congr fun e => ⟨fun h => h.elim, fun he => ?_⟩⟩
    have := H.out.dat.has_yes he.1
    rw [he.2] at this; cases this
  case round =>
    obtain ⟨left, cnt, o, hrg, hkp, hlf, rfl, hol⟩ := hrel
    have HKP := Lib.hid hkp
    have HLF := Lib.hid hlf
    have HOL := Lib.hid hol
    clear hkp hlf hol hrg0 hg0 hs0 hown
    go_wp2_with (first
      | (at_next; refine wpList_next_ranges _ rfl _ rfl strT lawS heldV Value.string id (fun key kl hk => by obtain ⟨x, hx, _⟩ := keyS_inv hk; exact ⟨x, hx⟩) (fun v _ _ => ⟨v, rfl⟩) mb w.heap.size N _ _ _ rfl hrg ?_ ?_)
      | fail)
    · intro hc0 hl0
      have HE : Hid (Least (fun k => gtS k key = true) (fun e => e ∈ s.es) o) := HOL.out.congr fun e => ⟨fun he => he.1, fun he => ⟨he, hl0 _⟩⟩
      clear hc0 hl0
      rcases o with _ | k
      · rw [show (none : Option ByteArray).getD ⟨#[]⟩ = ⟨#[]⟩ from rfl]
        go_wp2_with fail
        go_ret2
        exact ⟨⟨none, HE.out, rfl⟩, HKP.out⟩
      · rw [show (some k).getD ⟨#[]⟩ = k from rfl]
        obtain ⟨⟨e, he, rfl, _⟩, _⟩ := HE.out.yes k rfl
        have b0 := ne_empty (HK.out e he)
        go_wp2_with fail
        go_ret2
        exact ⟨⟨some e.key, HE.out, rfl⟩, HKP.out⟩
    · intro x c kl yd yp w2 cnt2 hkey hlk hv hat hrg2 hlt hg2 hs2 hen
      obtain ⟨x', ex, rfl⟩ := keyS_inv hkey
      cases ex
      simp only [id_eq, heldV, Option.some.injEq, Prod.mk.injEq] at hv
      obtain ⟨rfl, rfl⟩ := hv
      obtain ⟨e, he, rfl, rfl, hseen, hlf2⟩ := H.out.dat.came HA.out HLF.out hlk hat
      have HK2 : Hid (Keeps (fun _ => False) w w2) := HKP.out.grown hg2 (fun k hk => by cases hk; exact .inr (Nat.le_refl _))
      have HR2 := Lib.hid hrg2
      have HM : Hid (w2.rangeLeft mb w.heap.size < wr.rangeLeft mb w.heap.size) := by unfold Hid; rw [hrg2.left_eq, hrg.left_eq]; exact hlt
      have HLF2 := Lib.hid hlf2
      have HS := Lib.hid hseen
      clear hkey hlk hat hrg2 hlt hg2 hs2 hseen hlf2 hrg
      have bg := gt_run 9 e.key key
      cases hgt : gtS e.key key
      · rw [hgt] at bg
        have HX := Lib.hid (HOL.out.skip (e := e) (S' := Seen s.es fun z => left z && !z.sameKey (litS e.key)) (by rw [hgt]; decide) HS.out)
        clear hgt
        go_wp2_with fail
        go_roundw
        case rel => exact ⟨_, cnt2, o, HR2.out, HK2.out, HLF2.out, rfl, HX.out⟩
        case measure => exact HM.out
      · rw [hgt] at bg
        have HGT := Lib.hid hgt
        clear hgt
        rcases o with _ | k
        · rw [show (none : Option ByteArray).getD ⟨#[]⟩ = ⟨#[]⟩ from rfl]
          have HX := Lib.hid (HOL.out.take (e := e) (S' := Seen s.es fun z => left z && !z.sameKey (litS e.key)) HGT.out (.inl rfl) HS.out)
          go_wp2_with fail
          go_roundw
          case rel => exact ⟨_, cnt2, some e.key, HR2.out, HK2.out, HLF2.out, rfl, HX.out⟩
          case measure => exact HM.out
        · rw [show (some k).getD ⟨#[]⟩ = k from rfl]
          have b0 : k.toList.isEmpty = false := by
            obtain ⟨⟨e', he', h1, _⟩, _⟩ := HOL.out.yes k rfl
            rw [← h1]; exact ne_empty (HK.out e' he'.1)
          cases hl : Op.bytesLess e.key.toList k.toList
          · have HX := Lib.hid (HOL.out.stay (e := e) (S' := Seen s.es fun z => left z && !z.sameKey (litS e.key)) hl HS.out)
            go_wp2_with fail
            go_roundw
            case rel => exact ⟨_, cnt2, some k, HR2.out, HK2.out, HLF2.out, rfl, HX.out⟩
            case measure => exact HM.out
          · have HX := Lib.hid (HOL.out.take (e := e) (S' := Seen s.es fun z => left z && !z.sameKey (litS e.key)) HGT.out (.inr hl) HS.out)
            go_wp2_with fail
            go_roundw
            case rel => exact ⟨_, cnt2, some e.key, HR2.out, HK2.out, HLF2.out, rfl, HX.out⟩
            case measure => exact HM.out
theorem above_nil (key : ByteArray) (w : World) :
    Calls Tryz.prog 116 #[.map none, .string key] w fun e w' => e = aboveA none ∧ Keeps (fun _ => False) w w' := by
  have hrg := run_range_nilMap (P := Tryz.prog) w entriesT strT 152 Tryz.underlying138
  have hnx : ∀ ty, (Instr.next (.pointer (some ⟨w.heap.size, 0, none⟩)) false ty).run Tryz.prog (w.alloc (.mapIter none 0 #[] 0)) = _ := fun ty => run_next_nilMap w ty 0 0 #[]
  have HK : Hid (Keeps (fun _ => False) w (w.alloc (.mapIter none 0 #[] 0))) := (Keeps.refl _ w).alloc _
  go_enter Tryz.func116, Tryz.ntmps116
  go_wp2
  refine wp_loop_rounds 1 ?_
  rw [rounds_succ]
  go_wp2
  go_ret2
  exact ⟨rfl, HK.out⟩
end
end Go.Proofs.YtbikofedppgblaaGreat
