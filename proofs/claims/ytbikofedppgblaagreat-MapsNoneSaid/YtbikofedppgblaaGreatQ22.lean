/-
  Package hash: which specs may be; New. Package hash: what Prog asks, as one; a table in a world of its own; what an Update leaves, plainly.
-/
import Derived.Test.YtbikofedppgblaaGreatQ21
namespace Go.Proofs.YtbikofedppgblaaGreat
open Go Go.RowKit Go.Maps
set_option linter.unusedVariables false
set_option linter.unusedSimpArgs false
set_option maxRecDepth 100000
set_option maxHeartbeats 2000000 in
theorem fits_any (k key v mx : Int) (w : World) : Calls Tryz.prog 97 #[specV k key v mx] w fun e w' => e = .returned (.bool (fitsH k key v mx)) ∧ Below w.heap.size w w' := by
  have B := Lib.hid (below_alloc w (.cells #[.int .i64 k, .int .i64 key, .int .i64 v, .int .i64 mx] 30))
  cases h1 : (k == 1)
  · cases h2 : (k == 9)
    · rw [show fitsH k key v mx = false by simp only [fitsH, h1, h2]; rfl]
      go_enter Tryz.func97, Tryz.ntmps97
      go_wp2_with fail
      go_ret
      exact ⟨rfl, B.out⟩
    · cases h3 : decide (1 ≤ key)
      · rw [show fitsH k key v mx = false by simp only [fitsH, h1, h2, h3]; rfl]
        go_enter Tryz.func97, Tryz.ntmps97
        go_wp2_with fail
        go_ret
        exact ⟨rfl, B.out⟩
      · cases h3' : decide (key ≤ 512)
        · rw [show fitsH k key v mx = false by simp only [fitsH, h1, h2, h3, h3']; rfl]
          go_enter Tryz.func97, Tryz.ntmps97
          go_wp2_with fail
          go_ret
          exact ⟨rfl, B.out⟩
        · cases h4 : decide (1 ≤ v)
          · rw [show fitsH k key v mx = false by simp only [fitsH, h1, h2, h3, h3', h4]; rfl]
            go_enter Tryz.func97, Tryz.ntmps97
            go_wp2_with fail
            go_ret
            exact ⟨rfl, B.out⟩
          · cases h5 : decide (v ≤ 4096)
            · rw [show fitsH k key v mx = false by simp only [fitsH, h1, h2, h3, h3', h4, h5]; rfl]
              go_enter Tryz.func97, Tryz.ntmps97
              go_wp2_with fail
              go_ret
              exact ⟨rfl, B.out⟩
            · cases h6 : decide (1 ≤ mx)
              · rw [show fitsH k key v mx = false by simp only [fitsH, h1, h2, h3, h3', h4, h5, h6]; rfl]
                go_enter Tryz.func97, Tryz.ntmps97
                go_wp2_with fail
                go_ret
                exact ⟨rfl, B.out⟩
              · cases h7 : decide (mx ≤ 4096)
                · rw [show fitsH k key v mx = false by simp only [fitsH, h1, h2, h3, h3', h4, h5, h6, h7]; rfl]
                  go_enter Tryz.func97, Tryz.ntmps97
                  go_wp2_with fail
                  go_ret
                  exact ⟨rfl, B.out⟩
                · rw [show fitsH k key v mx = true by simp only [fitsH, h1, h2, h3, h3', h4, h5, h6, h7]; rfl]
                  go_enter Tryz.func97, Tryz.ntmps97
                  go_wp2_with fail
                  go_ret
                  exact ⟨rfl, B.out⟩
  · cases h3 : decide (1 ≤ key)
    · rw [show fitsH k key v mx = false by simp only [fitsH, h1, h3]; rfl]
      go_enter Tryz.func97, Tryz.ntmps97
      go_wp2_with fail
      go_ret
      exact ⟨rfl, B.out⟩
    · cases h3' : decide (key ≤ 512)
      · rw [show fitsH k key v mx = false by simp only [fitsH, h1, h3, h3']; rfl]
        go_enter Tryz.func97, Tryz.ntmps97
        go_wp2_with fail
        go_ret
        exact ⟨rfl, B.out⟩
      · cases h4 : decide (1 ≤ v)
        · rw [show fitsH k key v mx = false by simp only [fitsH, h1, h3, h3', h4]; rfl]
          go_enter Tryz.func97, Tryz.ntmps97
          go_wp2_with fail
          go_ret
          exact ⟨rfl, B.out⟩
        · cases h5 : decide (v ≤ 4096)
          · rw [show fitsH k key v mx = false by simp only [fitsH, h1, h3, h3', h4, h5]; rfl]
            go_enter Tryz.func97, Tryz.ntmps97
            go_wp2_with fail
            go_ret
            exact ⟨rfl, B.out⟩
          · cases h6 : decide (1 ≤ mx)
            · rw [show fitsH k key v mx = false by simp only [fitsH, h1, h3, h3', h4, h5, h6]; rfl]
              go_enter Tryz.func97, Tryz.ntmps97
              go_wp2_with fail
              go_ret
              exact ⟨rfl, B.out⟩
            · cases h7 : decide (mx ≤ 4096)
              · rw [show fitsH k key v mx = false by simp only [fitsH, h1, h3, h3', h4, h5, h6, h7]; rfl]
                go_enter Tryz.func97, Tryz.ntmps97
                go_wp2_with fail
                go_ret
                exact ⟨rfl, B.out⟩
              · rw [show fitsH k key v mx = true by simp only [fitsH, h1, h3, h3', h4, h5, h6, h7]; rfl]
                go_enter Tryz.func97, Tryz.ntmps97
                go_wp2_with fail
                go_ret
                exact ⟨rfl, B.out⟩
theorem new_nil (k key v mx : Int) (w : World) : Calls Tryz.prog 45 #[.pointer none, specV k key v mx] w fun e w' => e = .returned (.tuple #[.pointer none, .int .i64 1]) ∧ Below w.heap.size w w' := by
  have B := Lib.hid (below_alloc w (.cells (specC k key v mx) 30))
  go_enter Tryz.func45, Tryz.ntmps45
  go_wp2_with fail
  go_ret2
  exact ⟨rfl, B.out⟩
theorem new_no (bm : Nat) (k key v mx : Int) (h : fitsH k key v mx = false) (w : World) : Calls Tryz.prog 45 #[tp bm, specV k key v mx] w fun e w' => e = .returned (.tuple #[.pointer none, .int .i64 1]) ∧ Below w.heap.size w w' := by
  have CF := Lib.hid (fits_any k key v mx)
  rw [h] at CF
  have B := Lib.hid (below_alloc w (.cells (specC k key v mx) 30))
  have HB := Lib.hid (Blk.new w 30 (specC k key v mx))
  clear h
  have c0 : (w.alloc (.cells (specC k key v mx) 30)).cell? ⟨w.heap.size, 0, none⟩ = some (.int .i64 k) := HB.out.cell 0
  have c1 : (w.alloc (.cells (specC k key v mx) 30)).cell? ⟨w.heap.size, 1, none⟩ = some (.int .i64 key) := HB.out.cell 1
  have c2 : (w.alloc (.cells (specC k key v mx) 30)).cell? ⟨w.heap.size, 2, none⟩ = some (.int .i64 v) := HB.out.cell 2
  have c3 : (w.alloc (.cells (specC k key v mx) 30)).cell? ⟨w.heap.size, 3, none⟩ = some (.int .i64 mx) := HB.out.cell 3
  go_enter Tryz.func45, Tryz.ntmps45
  go_wp2_with (go_at_call 97; refine (CF.out _).mono ?_; rintro e w1 ⟨rfl, hb⟩; have B1 := Lib.hid (below_then B.out hb); clear hb)
  go_ret2
  exact ⟨rfl, B1.out⟩
theorem new_ok (bm : Nat) (k key v mx : Int) (h : fitsH k key v mx = true) (w : World) : Calls Tryz.prog 45 #[tp bm, specV k key v mx] w fun e w' => ∃ x mb, e = .returned (.tuple #[tp x, .int .i64 0]) ∧ Blk w' x mapT (liveC bm k key v mx mb 0) ∧ OwnsE w' mb 0 (.map []) ∧ w.heap.size ≤ x ∧ w.heap.size ≤ mb ∧ Below w.heap.size w w' := by
  have CF := Lib.hid (fits_any k key v mx)
  rw [h] at CF
  have hmm := @run_makeMap Tryz.prog
  have B := Lib.hid (below_alloc w (.cells (specC k key v mx) 30))
  have HB := Lib.hid (Blk.new w 30 (specC k key v mx))
  clear h
  have c0 : (w.alloc (.cells (specC k key v mx) 30)).cell? ⟨w.heap.size, 0, none⟩ = some (.int .i64 k) := HB.out.cell 0
  have c1 : (w.alloc (.cells (specC k key v mx) 30)).cell? ⟨w.heap.size, 1, none⟩ = some (.int .i64 key) := HB.out.cell 1
  have c2 : (w.alloc (.cells (specC k key v mx) 30)).cell? ⟨w.heap.size, 2, none⟩ = some (.int .i64 v) := HB.out.cell 2
  have c3 : (w.alloc (.cells (specC k key v mx) 30)).cell? ⟨w.heap.size, 3, none⟩ = some (.int .i64 mx) := HB.out.cell 3
  go_enter Tryz.func45, Tryz.ntmps45
  go_upto_region 3 with (go_at_call 97; refine (CF.out _).mono ?_; rintro e w1 ⟨rfl, hb⟩; have B1 := Lib.hid (below_then B.out hb); have HB1 := Lib.hid (blk_below HB.out hb); clear hb)
  clear c0 c1 c2 c3
  have c0 : w1.cell? ⟨w.heap.size, 0, none⟩ = some (.int .i64 k) := HB1.out.cell 0
  have c1 : w1.cell? ⟨w.heap.size, 1, none⟩ = some (.int .i64 key) := HB1.out.cell 1
  have c2 : w1.cell? ⟨w.heap.size, 2, none⟩ = some (.int .i64 v) := HB1.out.cell 2
  have c3 : w1.cell? ⟨w.heap.size, 3, none⟩ = some (.int .i64 mx) := HB1.out.cell 3
  go_wp2_with fail
  go_ret2
  have hm := World.ownsMap_made (H := Value) w1 Tryz.prog strT heldV
  have hbx := Blk.new (w1.alloc (.map #[] 0)) mapT (liveC bm k key v mx w1.heap.size 0)
  rw [show (w1.alloc (.map #[] 0)).heap.size = w1.heap.size + 1 by simp] at hbx
  exact ⟨_, w1.heap.size, rfl, hbx, hm.alloc _, Nat.le_succ_of_le B1.out.size, B1.out.size, below_then (below_then B1.out (below_alloc _ _)) (below_alloc _ _)⟩
/-- A table as New makes it. -/
theorem PH.made {bm bx x y mb : Nat} {k : Int} {key v mx : Nat} {m : PS} {S : Nat → Prop} {w w' : World} (hk : KSide w S bm m) (hx : Blk w' x mapT (liveC bm k key v mx mb 0)) (hm : OwnsE w' mb 0 (.map [])) (h1 : w.heap.size ≤ x) (h2 : w.heap.size ≤ mb) (hb : Below w.heap.size w w') :
    PH ⟨bm, bx, x, y, k, key, v, mx⟩ ⟨m, [], 0, false⟩ (more S w w') w' := by
  have kk := keeps_grow hb
  have hS : ∀ b, S b → b < w.heap.size := hk.lt'
  refine .inr ⟨S, mb, 0, .map [], fun _ => 0, Nat.le_refl _, ⟨Keeps.refl _ _, ?_, .inr ⟨h1, hx.lt⟩, hk.keeps' kk (fun _ _ h => h), fun b hb => .inl (.inl hb), fun ht => ?_, hx, hm, .inl (.inr ⟨h2, hm.lt⟩), fun ht => ?_, DatOf.empty, fun e he => by simp at he, fun e he => by simp at he, fun e e' he => by simp at he, rfl⟩⟩
  · rintro b (h | h)
    · exact Nat.lt_of_lt_of_le (hS b h) hb.size
    · exact h.2
  · have := hS _ ht
    have h1' : w.heap.size ≤ x := h1
    have h3 : x < w.heap.size := this
    omega
  · have := hS _ ht; omega
end Go.Proofs.YtbikofedppgblaaGreat
namespace Go.Proofs.YtbikofedppgblaaGreat
open Go Go.RowKit Go.Maps
set_option linter.unusedVariables false
set_option linter.unusedSimpArgs false
set_option maxRecDepth 100000
/-- One table, in blocks from B on. -/
def TB (B : Nat) (w0 : World) (p : HPar) (s : HSt) (w : World) : Prop := ∃ P, PH p s P w ∧ (∀ b, P b → B ≤ b) ∧ Below B w0 w ∧ B ≤ w.heap.size
section
variable {B : Nat} {w0 w w' : World} {p : HPar} {s s' : HSt} {f : FuncId} {args : Array Value} {e0 : Ending}
theorem TB.call (h : TB B w0 p s w) (c : FCallH PH p f args s s' e0) : Calls Tryz.prog f args w fun e w' => e = e0 ∧ TB B w0 p s' w' := by
  obtain ⟨P, h1, h2, h3, h4⟩ := h
  refine (c w P h1).mono ?_
  rintro e w' ⟨rfl, hk, kk⟩
  refine ⟨rfl, _, hk, ?_, h3.trans (kk.below h2 h4), Nat.le_trans h4 kk.size⟩
  rintro b (hb | ⟨hb, _⟩)
  · exact h2 b hb
  · omega
theorem TB.quiet (h : TB B w0 p s w) (k : Keeps (fun _ => False) w w') : TB B w0 p s w' := by
  obtain ⟨P, h1, h2, h3, h4⟩ := h
  exact ⟨P, h1.keeps k (fun _ _ h => h), h2, h3.trans (k.below (fun _ h => h.elim) h4), Nat.le_trans h4 k.size⟩
theorem TB.below (h : TB B w0 p s w) : Below B w0 w := by obtain ⟨P, h1, h2, h3, h4⟩ := h; exact h3
theorem TB.sz (h : TB B w0 p s w) : B ≤ w.heap.size := by obtain ⟨P, h1, h2, h3, h4⟩ := h; exact h4
theorem TB.look (h : TB B w0 p s w) (ho : HOk p s) (hc : s.clock < 1000000) (key : ByteArray) (hks : key.size ≤ maxLen) : Calls Tryz.prog 74 #[tp p.x, .string key] w fun e w' => e = .returned (.int .u64 (lookA s key)) ∧ TB B w0 p (lookS s key) w' := h.call (ph_look key hks ho hc)
theorem TB.upd (h : TB B w0 p s w) (ho : HOk p s) (hc : s.clock < 1000000) (hm : s.m.made < 4095) (key value : ByteArray) (fl : Int) : Calls Tryz.prog 50 #[tp p.x, .string key, .string value, .int .i64 fl] w fun e w' => e = .returned (.int .i64 (updA p s key value fl)) ∧ TB B w0 p (updS p s key value fl) w' := h.call (ph_upd key value fl ho hc hm)
theorem TB.del (h : TB B w0 p s w) (ho : HOk p s) (key : ByteArray) : Calls Tryz.prog 54 #[tp p.x, .string key] w fun e w' => e = .returned (.int .i64 (delA p s key)) ∧ TB B w0 p (delS p s key) w' := h.call (ph_del key ho)
theorem TB.next (h : TB B w0 p s w) (ho : HOk p s) (key : ByteArray) : Calls Tryz.prog 59 #[tp p.x, .string key] w fun e w' => e = nextE p s key ∧ TB B w0 p s w' := h.call (ph_next key ho)
/-- A memory of the call's own, and a table in it. -/
theorem tb_new (W : World) (k : Int) (key v mx : Nat) (h : fitsH k key v mx = true) :
    Calls Tryz.prog 45 #[tp W.heap.size, specV k key v mx] (W.alloc (.cells #[.map none, .int .u32 0, .slice none 0 0, .int .i64 0] 59)) fun e w' => ∃ x, e = .returned (.tuple #[tp x, .int .i64 0]) ∧ TB W.heap.size W ⟨W.heap.size, 0, x, 0, k, key, v, mx⟩ ⟨⟨0, 0, fun _ => none⟩, [], 0, false⟩ w' := by
  obtain ⟨hb, hB, S, mv, rv, hk, hS⟩ := KF.start W
  refine (new_ok W.heap.size k key v mx h _).mono ?_
  rintro e w' ⟨x, mb, rfl, h1, h2, h3, h4, h5⟩
  have hks : KSide (W.alloc (.cells #[.map none, .int .u32 0, .slice none 0 0, .int .i64 0] 59)) S W.heap.size ⟨0, 0, fun _ => none⟩ := ⟨_, _, _, _, hk, fun _ => rfl⟩
  refine ⟨x, rfl, _, PH.made hks h1 h2 h3 h4 h5, ?_, hb.trans (h5.mono hB), Nat.le_trans hB h5.size⟩
  rintro b (hb' | ⟨hb', _⟩)
  · exact hS b hb'
  · exact Nat.le_trans hB hb'
theorem hok_new {bm bx x y : Nat} {k : Int} {key v mx : Nat} {m : PS} (h : fitsH k key v mx = true) : HOk ⟨bm, bx, x, y, k, key, v, mx⟩ ⟨m, [], 0, false⟩ := by
  obtain ⟨h1, h2, h3, h4, h5⟩ := fitsH_true h
  exact ⟨⟨h1, by show 1 ≤ key; omega, by show key ≤ 512; omega, by show 1 ≤ v; omega, by show v ≤ 4096; omega, by show 1 ≤ mx; omega, by show mx ≤ 4096; omega⟩, Nat.zero_le _, fun i e he => by simp at he, fun i j a b ha => by simp at ha, fun h => by cases h⟩
/-! ### what an Update leaves -/
theorem setUsed_last : ∀ (es : List Ent) (key : ByteArray) (n u : Nat), setUsed (es ++ [⟨key, n, 0⟩]) es.length u = es ++ [⟨key, n, u⟩]
  | [], _, _, _ => rfl
  | e :: es, key, n, u => by
    have ih := setUsed_last es key n u
    unfold setUsed at ih ⊢
    rw [List.cons_append, List.length_cons, List.modify_succ_cons, ih]
    rfl
/-- A new entry comes. -/
structure Fresh (p : HPar) (s : HSt) (key value : ByteArray) : Prop where
  k : key.size = p.key
  v : value.size = p.v
  gone : s.gone = false
  none_ : findE s.es key = none
theorem upd_room {key value : ByteArray} (h : Fresh p s key value) (hn : s.es.length ≠ p.mx) (hf : s.m.fail ≠ 1) : updA p s key value 0 = 0 ∧ (updS p s key value 0).es = s.es ++ [⟨key, s.m.made + 1, s.clock + 1⟩] ∧ (updS p s key value 0).clock = s.clock + 1 ∧ (updS p s key value 0).m.made = s.m.made + 1 ∧ (updS p s key value 0).m.fail = s.m.fail - 1 ∧ (updS p s key value 0).gone = false := by
  have hb : ¬ updBad p s key value 0 := by
    rintro (h1 | h1 | h1 | h1 | h1)
    · rw [h.gone] at h1; cases h1
    · exact h1 h.k
    · exact h1 h.v
    · exact absurd h1 (by decide)
    · exact absurd h1 (by decide)
  have eS : updS p s key value 0 = ((s.alloc p.v).fresh (s.m.made + 1) key value.data.toList p.v).use s.es.length := by
    unfold updS
    rw [if_neg hb, h.none_]
    show (if (0 : Int) = 2 then s else if s.es.length = p.mx ∧ p.k = 1 then s else if s.m.fail = 1 then _ else _) = _
    rw [if_neg (by decide), if_neg (fun hh => hn hh.1), if_neg hf]
    unfold HSt.insert
    rw [if_neg hn]
  have eA : updA p s key value 0 = 0 := by
    unfold updA
    rw [if_neg hb, h.none_]
    show (if (0 : Int) = 2 then (4 : Int) else if s.es.length = p.mx ∧ p.k = 1 then 3 else if s.m.fail = 1 then 2 else 0) = 0
    rw [if_neg (by decide), if_neg (fun hh => hn hh.1), if_neg hf]
  rw [eS, eA]
  exact ⟨rfl, setUsed_last _ _ _ _, rfl, rfl, rfl, h.gone⟩
theorem upd_forget {key value : ByteArray} (h : Fresh p s key value) (ho : HOk p s) (hn : s.es.length = p.mx) (hk : p.k ≠ 1) (hf : s.m.fail ≠ 1) : updA p s key value 0 = 0 ∧ (updS p s key value 0).es = s.es.eraseIdx (oldTo s.es s.es.length) ++ [⟨key, s.m.made + 1, s.clock + 1⟩] ∧ (updS p s key value 0).clock = s.clock + 1 ∧ (updS p s key value 0).m.made = s.m.made + 1 ∧ (updS p s key value 0).m.fail = s.m.fail - 1 ∧ (updS p s key value 0).gone = false := by
  have hb : ¬ updBad p s key value 0 := by
    rintro (h1 | h1 | h1 | h1 | h1)
    · rw [h.gone] at h1; cases h1
    · exact h1 h.k
    · exact h1 h.v
    · exact absurd h1 (by decide)
    · exact absurd h1 (by decide)
  obtain ⟨eo, bo, heo, hqo, hB⟩ := insert_facts ho hn
  have hlen : (s.es.eraseIdx (oldTo s.es s.es.length)).length = s.es.length - 1 := by
    rw [List.length_eraseIdx, if_pos (List.getElem?_eq_some_iff.1 heo).1]
  have eS : updS p s key value 0 = (((s.alloc p.v).cut (oldTo s.es s.es.length) eo (3, bo, false)).fresh (s.m.made + 1) key value.data.toList p.v).use (s.es.length - 1) := by
    unfold updS
    rw [if_neg hb, h.none_]
    show (if (0 : Int) = 2 then s else if s.es.length = p.mx ∧ p.k = 1 then s else if s.m.fail = 1 then _ else _) = _
    rw [if_neg (by decide), if_neg (fun hh => hk hh.2), if_neg hf]
    exact insert_lru ho hn key _ heo hqo
  have eA : updA p s key value 0 = 0 := by
    unfold updA
    rw [if_neg hb, h.none_]
    show (if (0 : Int) = 2 then (4 : Int) else if s.es.length = p.mx ∧ p.k = 1 then 3 else if s.m.fail = 1 then 2 else 0) = 0
    rw [if_neg (by decide), if_neg (fun hh => hk hh.2), if_neg hf]
  rw [eS, eA]
  refine ⟨rfl, ?_, rfl, rfl, rfl, h.gone⟩
  show setUsed (s.es.eraseIdx _ ++ [_]) (s.es.length - 1) _ = _
  rw [← hlen]
  exact setUsed_last _ _ _ _
end
end Go.Proofs.YtbikofedppgblaaGreat
