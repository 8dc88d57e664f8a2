/-
  Package hash: which specs may be; New. Package hash: what Prog asks, as one; a table in a world of its own; what an Update leaves, plainly. Layer 10: awake; calls on nil; the law HashNone, walked.
-/
import Derived.Test.YtmopflcaeecgcaaPUpd
namespace Go.Proofs.Ytmopflcaeecgcaa
open Go Go.RowKit Go.Maps
set_option linter.unusedVariables false
set_option linter.unusedSimpArgs false
set_option maxRecDepth 100000
set_option maxHeartbeats 2000000 in
theorem fits_any (k key v mx : Int) (w : World) : Calls Try.prog 26 #[specV k key v mx] w fun e w' => e = .returned (.bool (fitsH k key v mx)) ∧ Below w.heap.size w w' := by
  have B := Lib.hid (below_alloc w (.cells #[.int .i64 k, .int .i64 key, .int .i64 v, .int .i64 mx] 23))
  cases h1 : (k == 1)
  · cases h2 : (k == 9)
    · rw [show fitsH k key v mx = false by simp only [fitsH, h1, h2]; rfl]
      go_enter Try.func26, Try.ntmps26
      go_wp2_with fail
      go_ret
      exact ⟨rfl, B.out⟩
    · cases h3 : decide (1 ≤ key)
      · rw [show fitsH k key v mx = false by simp only [fitsH, h1, h2, h3]; rfl]
        go_enter Try.func26, Try.ntmps26
        go_wp2_with fail
        go_ret
        exact ⟨rfl, B.out⟩
      · cases h3' : decide (key ≤ 512)
        · rw [show fitsH k key v mx = false by simp only [fitsH, h1, h2, h3, h3']; rfl]
          go_enter Try.func26, Try.ntmps26
          go_wp2_with fail
          go_ret
          exact ⟨rfl, B.out⟩
        · cases h4 : decide (1 ≤ v)
          · rw [show fitsH k key v mx = false by simp only [fitsH, h1, h2, h3, h3', h4]; rfl]
            go_enter Try.func26, Try.ntmps26
            go_wp2_with fail
            go_ret
            exact ⟨rfl, B.out⟩
          · cases h5 : decide (v ≤ 4096)
            · rw [show fitsH k key v mx = false by simp only [fitsH, h1, h2, h3, h3', h4, h5]; rfl]
              go_enter Try.func26, Try.ntmps26
              go_wp2_with fail
              go_ret
              exact ⟨rfl, B.out⟩
            · cases h6 : decide (1 ≤ mx)
              · rw [show fitsH k key v mx = false by simp only [fitsH, h1, h2, h3, h3', h4, h5, h6]; rfl]
                go_enter Try.func26, Try.ntmps26
                go_wp2_with fail
                go_ret
                exact ⟨rfl, B.out⟩
              · cases h7 : decide (mx ≤ 4096)
                · rw [show fitsH k key v mx = false by simp only [fitsH, h1, h2, h3, h3', h4, h5, h6, h7]; rfl]
                  go_enter Try.func26, Try.ntmps26
                  go_wp2_with fail
                  go_ret
                  exact ⟨rfl, B.out⟩
                · rw [show fitsH k key v mx = true by simp only [fitsH, h1, h2, h3, h3', h4, h5, h6, h7]; rfl]
                  go_enter Try.func26, Try.ntmps26
                  go_wp2_with fail
                  go_ret
                  exact ⟨rfl, B.out⟩
  · cases h3 : decide (1 ≤ key)
    · rw [show fitsH k key v mx = false by simp only [fitsH, h1, h3]; rfl]
      go_enter Try.func26, Try.ntmps26
      go_wp2_with fail
      go_ret
      exact ⟨rfl, B.out⟩
    · cases h3' : decide (key ≤ 512)
      · rw [show fitsH k key v mx = false by simp only [fitsH, h1, h3, h3']; rfl]
        go_enter Try.func26, Try.ntmps26
        go_wp2_with fail
        go_ret
        exact ⟨rfl, B.out⟩
      · cases h4 : decide (1 ≤ v)
        · rw [show fitsH k key v mx = false by simp only [fitsH, h1, h3, h3', h4]; rfl]
          go_enter Try.func26, Try.ntmps26
          go_wp2_with fail
          go_ret
          exact ⟨rfl, B.out⟩
        · cases h5 : decide (v ≤ 4096)
          · rw [show fitsH k key v mx = false by simp only [fitsH, h1, h3, h3', h4, h5]; rfl]
            go_enter Try.func26, Try.ntmps26
            go_wp2_with fail
            go_ret
            exact ⟨rfl, B.out⟩
          · cases h6 : decide (1 ≤ mx)
            · rw [show fitsH k key v mx = false by simp only [fitsH, h1, h3, h3', h4, h5, h6]; rfl]
              go_enter Try.func26, Try.ntmps26
              go_wp2_with fail
              go_ret
              exact ⟨rfl, B.out⟩
            · cases h7 : decide (mx ≤ 4096)
              · rw [show fitsH k key v mx = false by simp only [fitsH, h1, h3, h3', h4, h5, h6, h7]; rfl]
                go_enter Try.func26, Try.ntmps26
                go_wp2_with fail
                go_ret
                exact ⟨rfl, B.out⟩
              · rw [show fitsH k key v mx = true by simp only [fitsH, h1, h3, h3', h4, h5, h6, h7]; rfl]
                go_enter Try.func26, Try.ntmps26
                go_wp2_with fail
                go_ret
                exact ⟨rfl, B.out⟩
theorem new_nil (k key v mx : Int) (w : World) : Calls Try.prog 9 #[.pointer none, specV k key v mx] w fun e w' => e = .returned (.tuple #[.pointer none, .int .i64 1]) ∧ Below w.heap.size w w' := by
  have B := Lib.hid (below_alloc w (.cells (specC k key v mx) 23))
  go_enter Try.func9, Try.ntmps9
  go_wp2_with fail
  go_ret2
  exact ⟨rfl, B.out⟩
theorem new_no (bm : Nat) (k key v mx : Int) (h : fitsH k key v mx = false) (w : World) : Calls Try.prog 9 #[tp bm, specV k key v mx] w fun e w' => e = .returned (.tuple #[.pointer none, .int .i64 1]) ∧ Below w.heap.size w w' := by
  have CF := Lib.hid (fits_any k key v mx)
  rw [h] at CF
  have B := Lib.hid (below_alloc w (.cells (specC k key v mx) 23))
  have HB := Lib.hid (Blk.new w 23 (specC k key v mx))
  clear h
  have c0 : (w.alloc (.cells (specC k key v mx) 23)).cell? ⟨w.heap.size, 0, none⟩ = some (.int .i64 k) := HB.out.cell 0
  have c1 : (w.alloc (.cells (specC k key v mx) 23)).cell? ⟨w.heap.size, 1, none⟩ = some (.int .i64 key) := HB.out.cell 1
  have c2 : (w.alloc (.cells (specC k key v mx) 23)).cell? ⟨w.heap.size, 2, none⟩ = some (.int .i64 v) := HB.out.cell 2
  have c3 : (w.alloc (.cells (specC k key v mx) 23)).cell? ⟨w.heap.size, 3, none⟩ = some (.int .i64 mx) := HB.out.cell 3
  go_enter Try.func9, Try.ntmps9
  go_wp2_with (go_at_call 26; refine (CF.out _).mono ?_; rintro e w1 ⟨rfl, hb⟩; have B1 := Lib.hid (below_then B.out hb); clear hb)
  go_ret2
  exact ⟨rfl, B1.out⟩
theorem new_ok (bm : Nat) (k key v mx : Int) (h : fitsH k key v mx = true) (w : World) : Calls Try.prog 9 #[tp bm, specV k key v mx] w fun e w' => ∃ x mb, e = .returned (.tuple #[tp x, .int .i64 0]) ∧ Blk w' x mapT (liveC bm k key v mx mb 0) ∧ OwnsE w' mb 0 (.map []) ∧ w.heap.size ≤ x ∧ w.heap.size ≤ mb ∧ Below w.heap.size w w' := by
  have CF := Lib.hid (fits_any k key v mx)
  rw [h] at CF
  have hmm := @run_makeMap Try.prog
  have B := Lib.hid (below_alloc w (.cells (specC k key v mx) 23))
  have HB := Lib.hid (Blk.new w 23 (specC k key v mx))
  clear h
  have c0 : (w.alloc (.cells (specC k key v mx) 23)).cell? ⟨w.heap.size, 0, none⟩ = some (.int .i64 k) := HB.out.cell 0
  have c1 : (w.alloc (.cells (specC k key v mx) 23)).cell? ⟨w.heap.size, 1, none⟩ = some (.int .i64 key) := HB.out.cell 1
  have c2 : (w.alloc (.cells (specC k key v mx) 23)).cell? ⟨w.heap.size, 2, none⟩ = some (.int .i64 v) := HB.out.cell 2
  have c3 : (w.alloc (.cells (specC k key v mx) 23)).cell? ⟨w.heap.size, 3, none⟩ = some (.int .i64 mx) := HB.out.cell 3
  go_enter Try.func9, Try.ntmps9
  go_upto_region 3 with (go_at_call 26; refine (CF.out _).mono ?_; rintro e w1 ⟨rfl, hb⟩; have B1 := Lib.hid (below_then B.out hb); have HB1 := Lib.hid (blk_below HB.out hb); clear hb)
  clear c0 c1 c2 c3
  have c0 : w1.cell? ⟨w.heap.size, 0, none⟩ = some (.int .i64 k) := HB1.out.cell 0
  have c1 : w1.cell? ⟨w.heap.size, 1, none⟩ = some (.int .i64 key) := HB1.out.cell 1
  have c2 : w1.cell? ⟨w.heap.size, 2, none⟩ = some (.int .i64 v) := HB1.out.cell 2
  have c3 : w1.cell? ⟨w.heap.size, 3, none⟩ = some (.int .i64 mx) := HB1.out.cell 3
  go_wp2_with fail
  go_ret2
  have hm := World.ownsMap_made (H := Value) w1 Try.prog strT heldV
  have hbx := Blk.new (w1.alloc (.map #[] 0)) mapT (liveC bm k key v mx w1.heap.size 0)
  rw [show (w1.alloc (.map #[] 0)).heap.size = w1.heap.size + 1 by simp] at hbx
  exact ⟨_, w1.heap.size, rfl, hbx, hm.alloc _, Nat.le_succ_of_le B1.out.size, B1.out.size, below_then (below_then B1.out (below_alloc _ _)) (below_alloc _ _)⟩
/-- A table as New makes it. -/
theorem PH.made {bm bx x y mb : Nat} {k : Int} {key v mx : Nat} {m : PS} {S : Nat → Prop} {w w' : World} (hk : KSide w S bm m) (hx : Blk w' x mapT (liveC bm k key v mx mb 0)) (hm : OwnsE w' mb 0 (.map [])) (h1 : w.heap.size ≤ x) (h2 : w.heap.size ≤ mb) (hb : Below w.heap.size w w') :
    PH ⟨bm, bx, x, y, k, key, v, mx⟩ ⟨m, [], 0, false⟩ (more S w w') w' := by
  have kk := keeps_grow hb
  have hS : ∀ b, S b → b < w.heap.size := hk.lt'
  refine .inr ⟨S, mb, 0, .map [], fun _ => 0, Nat.le_refl _, ⟨Keeps.refl _ _, ?_, .inr ⟨h1, hx.lt⟩, hk.keeps' kk (fun _ _ h => h), fun b hb => .inl (.inl hb), fun ht => ?_, hx, hm, .inl (.inr ⟨h2, hm.lt⟩), fun ht => ?_, DatOf.empty, fun e he => by simp at he, fun e he => by simp at he, fun e e' he => by simp at he, rfl⟩⟩
  · rintro b (h | h)
    · exact Nat.lt_of_lt_of_le (hS b h) hb.size
    · exact h.2
  · have := hS _ ht
    have h1' : w.heap.size ≤ x := h1
    have h3 : x < w.heap.size := this
    omega
  · have := hS _ ht; omega
end Go.Proofs.Ytmopflcaeecgcaa
namespace Go.Proofs.Ytmopflcaeecgcaa
open Go Go.RowKit Go.Maps
set_option linter.unusedVariables false
set_option linter.unusedSimpArgs false
set_option maxRecDepth 100000
theorem phProg : Prog PH where
  lt h := h.lt
  keeps h k hd := h.keeps k hd
  side h := h.side
  mem c := PH.mem c
  look key hks ho hc := ph_look key hks ho hc
  upd key value fl ho hc hm := ph_upd key value fl ho hc hm
  del key ho := ph_del key ho
  next key ho := ph_next key ho
  free ho hm := ph_free ho hm
  len ho h := ph_len ho h
/-- One table, in blocks from B on. -/
def TB (B : Nat) (w0 : World) (p : HPar) (s : HSt) (w : World) : Prop := ∃ P, PH p s P w ∧ (∀ b, P b → B ≤ b) ∧ Below B w0 w ∧ B ≤ w.heap.size
section
variable {B : Nat} {w0 w w' : World} {p : HPar} {s s' : HSt} {f : FuncId} {args : Array Value} {e0 : Ending}
theorem TB.call (h : TB B w0 p s w) (c : FCallH PH p f args s s' e0) : Calls Try.prog f args w fun e w' => e = e0 ∧ TB B w0 p s' w' := by
  obtain ⟨P, h1, h2, h3, h4⟩ := h
  refine (c w P h1).mono ?_
  rintro e w' ⟨rfl, hk, kk⟩
  refine ⟨rfl, _, hk, ?_, h3.trans (kk.below h2 h4), Nat.le_trans h4 kk.size⟩
  rintro b (hb | ⟨hb, _⟩)
  · exact h2 b hb
  · omega
theorem TB.quiet (h : TB B w0 p s w) (k : Keeps (fun _ => False) w w') : TB B w0 p s w' := by
  obtain ⟨P, h1, h2, h3, h4⟩ := h
  exact ⟨P, h1.keeps k (fun _ _ h => h), h2, h3.trans (k.below (fun _ h => h.elim) h4), Nat.le_trans h4 k.size⟩
theorem TB.below (h : TB B w0 p s w) : Below B w0 w := by obtain ⟨P, h1, h2, h3, h4⟩ := h; exact h3
theorem TB.sz (h : TB B w0 p s w) : B ≤ w.heap.size := by obtain ⟨P, h1, h2, h3, h4⟩ := h; exact h4
theorem TB.len (h : TB B w0 p s w) (ho : HOk p s) : Calls Try.prog 14 #[tp p.x] w fun e w' => e = .returned (.int .i64 s.es.length) ∧ w = w' := by
  obtain ⟨P, h1, _⟩ := h
  rcases h1 with ⟨T, hO⟩ | ⟨T, mb, N, D, bl, hN, hG⟩
  · refine hO.len.mono ?_
    rintro e w' ⟨rfl, rfl⟩
    exact ⟨by rw [ho.gone hO.gone]; rfl, rfl⟩
  · exact hG.len
theorem TB.look (h : TB B w0 p s w) (ho : HOk p s) (hc : s.clock < 1000000) (key : ByteArray) (hks : key.size ≤ maxLen) : Calls Try.prog 21 #[tp p.x, .string key] w fun e w' => e = .returned (.int .u64 (lookA s key)) ∧ TB B w0 p (lookS s key) w' := h.call (ph_look key hks ho hc)
theorem TB.upd (h : TB B w0 p s w) (ho : HOk p s) (hc : s.clock < 1000000) (hm : s.m.made < 4095) (key value : ByteArray) (fl : Int) : Calls Try.prog 19 #[tp p.x, .string key, .string value, .int .i64 fl] w fun e w' => e = .returned (.int .i64 (updA p s key value fl)) ∧ TB B w0 p (updS p s key value fl) w' := h.call (ph_upd key value fl ho hc hm)
theorem TB.del (h : TB B w0 p s w) (ho : HOk p s) (key : ByteArray) : Calls Try.prog 23 #[tp p.x, .string key] w fun e w' => e = .returned (.int .i64 (delA p s key)) ∧ TB B w0 p (delS p s key) w' := h.call (ph_del key ho)
theorem TB.next (h : TB B w0 p s w) (ho : HOk p s) (key : ByteArray) : Calls Try.prog 20 #[tp p.x, .string key] w fun e w' => e = nextE p s key ∧ TB B w0 p s w' := h.call (ph_next key ho)
/-- A memory of the call's own, and a table in it. -/
theorem tb_new (W : World) (k : Int) (key v mx : Nat) (h : fitsH k key v mx = true) :
    Calls Try.prog 9 #[tp W.heap.size, specV k key v mx] (W.alloc (.cells #[.map none, .int .u32 0, .slice none 0 0, .int .i64 0] 69)) fun e w' => ∃ x, e = .returned (.tuple #[tp x, .int .i64 0]) ∧ TB W.heap.size W ⟨W.heap.size, 0, x, 0, k, key, v, mx⟩ ⟨⟨0, 0, fun _ => none⟩, [], 0, false⟩ w' := by
  obtain ⟨hb, hB, S, mv, rv, hk, hS⟩ := KF.start W
  refine (new_ok W.heap.size k key v mx h _).mono ?_
  rintro e w' ⟨x, mb, rfl, h1, h2, h3, h4, h5⟩
  have hks : KSide (W.alloc (.cells #[.map none, .int .u32 0, .slice none 0 0, .int .i64 0] 69)) S W.heap.size ⟨0, 0, fun _ => none⟩ := ⟨_, _, _, _, hk, fun _ => rfl⟩
  refine ⟨x, rfl, _, PH.made hks h1 h2 h3 h4 h5, ?_, hb.trans (h5.mono hB), Nat.le_trans hB h5.size⟩
  rintro b (hb' | ⟨hb', _⟩)
  · exact hS b hb'
  · exact Nat.le_trans hB hb'
theorem hok_new {bm bx x y : Nat} {k : Int} {key v mx : Nat} {m : PS} (h : fitsH k key v mx = true) : HOk ⟨bm, bx, x, y, k, key, v, mx⟩ ⟨m, [], 0, false⟩ := by
  obtain ⟨h1, h2, h3, h4, h5⟩ := fitsH_true h
  exact ⟨⟨h1, by show 1 ≤ key; omega, by show key ≤ 512; omega, by show 1 ≤ v; omega, by show v ≤ 4096; omega, by show 1 ≤ mx; omega, by show mx ≤ 4096; omega⟩, Nat.zero_le _, fun i e he => by simp at he, fun i j a b ha => by simp at ha, fun h => by cases h⟩
/-! ### what an Update leaves -/
theorem setUsed_last : ∀ (es : List Ent) (key : ByteArray) (n u : Nat), setUsed (es ++ [⟨key, n, 0⟩]) es.length u = es ++ [⟨key, n, u⟩]
  | [], _, _, _ => rfl
  | e :: es, key, n, u => by
    have ih := setUsed_last es key n u
    unfold setUsed at ih ⊢
    rw [List.cons_append, List.length_cons, List.modify_succ_cons, ih]
    rfl
/-- A new entry comes. -/
structure Fresh (p : HPar) (s : HSt) (key value : ByteArray) : Prop where
  k : key.size = p.key
  v : value.size = p.v
  gone : s.gone = false
  none_ : findE s.es key = none
theorem upd_room {key value : ByteArray} (h : Fresh p s key value) (hn : s.es.length ≠ p.mx) (hf : s.m.fail ≠ 1) : updA p s key value 0 = 0 ∧ (updS p s key value 0).es = s.es ++ [⟨key, s.m.made + 1, s.clock + 1⟩] ∧ (updS p s key value 0).clock = s.clock + 1 ∧ (updS p s key value 0).m.made = s.m.made + 1 ∧ (updS p s key value 0).m.fail = s.m.fail - 1 ∧ (updS p s key value 0).gone = false := by
  have hb : ¬ updBad p s key value 0 := by
    rintro (h1 | h1 | h1 | h1 | h1)
    · rw [h.gone] at h1; cases h1
    · exact h1 h.k
    · exact h1 h.v
    · exact absurd h1 (by decide)
    · exact absurd h1 (by decide)
  have eS : updS p s key value 0 = ((s.alloc p.v).fresh (s.m.made + 1) key value.data.toList p.v).use s.es.length := by
    unfold updS
    rw [if_neg hb, h.none_]
    show (if (0 : Int) = 2 then s else if s.es.length = p.mx ∧ p.k = 1 then s else if s.m.fail = 1 then _ else _) = _
    rw [if_neg (by decide), if_neg (fun hh => hn hh.1), if_neg hf]
    unfold HSt.insert
    rw [if_neg hn]
  have eA : updA p s key value 0 = 0 := by
    unfold updA
    rw [if_neg hb, h.none_]
    show (if (0 : Int) = 2 then (4 : Int) else if s.es.length = p.mx ∧ p.k = 1 then 3 else if s.m.fail = 1 then 2 else 0) = 0
    rw [if_neg (by decide), if_neg (fun hh => hn hh.1), if_neg hf]
  rw [eS, eA]
  exact ⟨rfl, setUsed_last _ _ _ _, rfl, rfl, rfl, h.gone⟩
theorem upd_forget {key value : ByteArray} (h : Fresh p s key value) (ho : HOk p s) (hn : s.es.length = p.mx) (hk : p.k ≠ 1) (hf : s.m.fail ≠ 1) : updA p s key value 0 = 0 ∧ (updS p s key value 0).es = s.es.eraseIdx (oldTo s.es s.es.length) ++ [⟨key, s.m.made + 1, s.clock + 1⟩] ∧ (updS p s key value 0).clock = s.clock + 1 ∧ (updS p s key value 0).m.made = s.m.made + 1 ∧ (updS p s key value 0).m.fail = s.m.fail - 1 ∧ (updS p s key value 0).gone = false := by
  have hb : ¬ updBad p s key value 0 := by
    rintro (h1 | h1 | h1 | h1 | h1)
    · rw [h.gone] at h1; cases h1
    · exact h1 h.k
    · exact h1 h.v
    · exact absurd h1 (by decide)
    · exact absurd h1 (by decide)
  obtain ⟨eo, bo, heo, hqo, hB⟩ := insert_facts ho hn
  have hlen : (s.es.eraseIdx (oldTo s.es s.es.length)).length = s.es.length - 1 := by
    rw [List.length_eraseIdx, if_pos (List.getElem?_eq_some_iff.1 heo).1]
  have eS : updS p s key value 0 = (((s.alloc p.v).cut (oldTo s.es s.es.length) eo (3, bo, false)).fresh (s.m.made + 1) key value.data.toList p.v).use (s.es.length - 1) := by
    unfold updS
    rw [if_neg hb, h.none_]
    show (if (0 : Int) = 2 then s else if s.es.length = p.mx ∧ p.k = 1 then s else if s.m.fail = 1 then _ else _) = _
    rw [if_neg (by decide), if_neg (fun hh => hk hh.2), if_neg hf]
    exact insert_lru ho hn key _ heo hqo
  have eA : updA p s key value 0 = 0 := by
    unfold updA
    rw [if_neg hb, h.none_]
    show (if (0 : Int) = 2 then (4 : Int) else if s.es.length = p.mx ∧ p.k = 1 then 3 else if s.m.fail = 1 then 2 else 0) = 0
    rw [if_neg (by decide), if_neg (fun hh => hk hh.2), if_neg hf]
  rw [eS, eA]
  refine ⟨rfl, ?_, rfl, rfl, rfl, h.gone⟩
  show setUsed (s.es.eraseIdx _ ++ [_]) (s.es.length - 1) _ = _
  rw [← hlen]
  exact setUsed_last _ _ _ _
end
end Go.Proofs.Ytmopflcaeecgcaa
namespace Go.Proofs.Ytmopflcaeecgcaa
open Go Go.RowKit Go.Maps
set_option linter.unusedVariables false
set_option linter.unusedSimpArgs false
set_option maxRecDepth 100000
section
variable {p : HPar} {s : HSt} {key : ByteArray}
theorem look_at {i : Nat} {e : Ent} (hf : findE s.es key = some i) (he : s.es[i]? = some e) : lookA s key = addr e.n 0 ∧ (lookS s key).es = setUsed s.es i (s.clock + 1) ∧ (lookS s key).clock = s.clock + 1 ∧ (lookS s key).m = s.m ∧ (lookS s key).gone = s.gone := by
  have e1 : lookS s key = s.use i := by unfold lookS; rw [hf]; rfl
  rw [e1]
  exact ⟨by unfold lookA; rw [hf]; show (s.es[i]?).elim 0 _ = _; rw [he]; rfl, rfl, rfl, rfl, rfl⟩
theorem look_off (hf : findE s.es key = none) : lookA s key = 0 ∧ lookS s key = s := ⟨by unfold lookA; rw [hf]; rfl, by unfold lookS; rw [hf]; rfl⟩
theorem del_at (ho : HOk p s) (hg : s.gone = false) (hk : key.size = p.key) {i : Nat} (hf : findE s.es key = some i) : delA p s key = 0 ∧ (delS p s key).es = s.es.eraseIdx i ∧ (delS p s key).gone = false := by
  have hb : ¬ delBad p s key := by
    rintro (h1 | h1)
    · rw [hg] at h1; cases h1
    · exact h1 hk
  obtain ⟨e, he⟩ := found hf
  obtain ⟨_, _, _, b, hq, _⟩ := ho.ent i e he
  have e1 : delS p s key = s.cut i e (3, b, false) := by unfold delS; rw [if_neg hb, hf]; exact rem_eq he hq
  rw [e1]
  exact ⟨by unfold delA; rw [if_neg hb, hf]; rfl, rfl, hg⟩
theorem del_off (hg : s.gone = false) (hk : key.size = p.key) (hf : findE s.es key = none) : delA p s key = 4 ∧ delS p s key = s := by
  have hb : ¬ delBad p s key := by
    rintro (h1 | h1)
    · rw [hg] at h1; cases h1
    · exact h1 hk
  exact ⟨by unfold delA; rw [if_neg hb, hf]; rfl, by unfold delS; rw [if_neg hb, hf]; rfl⟩
theorem find_cons_yes (e : Ent) (es : List Ent) (h : e.key = key) : findE (e :: es) key = some 0 := by rw [findE, if_pos (keyB_iff.2 h)]
theorem find_cons_no (e : Ent) (es : List Ent) (h : e.key ≠ key) : findE (e :: es) key = (findE es key).map (· + 1) := by rw [findE, if_neg (by rw [keyB_no.2 h]; decide)]
end
abbrev kA : ByteArray := ⟨#[97]⟩
abbrev kB : ByteArray := ⟨#[98]⟩
abbrev kC : ByteArray := ⟨#[99]⟩
structure AwakeP (p : HPar) (s0 s1 s2 s3 s4 s5 : HSt) : Prop where
  o0 : HOk p s0 ∧ s0.clock < 1000000 ∧ s0.m.made < 4095
  o1 : HOk p s1 ∧ s1.clock < 1000000 ∧ s1.m.made < 4095
  o2 : HOk p s2 ∧ s2.clock < 1000000 ∧ s2.m.made < 4095
  o3 : HOk p s3 ∧ s3.clock < 1000000 ∧ s3.m.made < 4095
  o4 : HOk p s4 ∧ s4.clock < 1000000 ∧ s4.m.made < 4095
  o5 : HOk p s5
  u1 : updS p s0 kA ⟨#[49]⟩ 0 = s1
  u2 : updS p s1 kB ⟨#[50]⟩ 0 = s2
  l3 : lookS s2 kA = s3 ∧ lookA s2 kA = 4294967296
  u4 : updS p s3 kC ⟨#[51]⟩ 0 = s4 ∧ updA p s3 kC ⟨#[51]⟩ 0 = 0
  n4 : nextE p s4 ⟨#[]⟩ = .returned (.tuple #[.string kA, .int .i64 0])
  l4 : lookS s4 kB = s4 ∧ lookA s4 kB = 0
  len : s4.es.length = 2
  d5 : delS p s4 kA = s5 ∧ delA p s4 kA = 0
  d6 : delS p s5 kA = s5 ∧ delA p s5 kA = 4
theorem awake_plan (bm x : Nat) : ∃ s1 s2 s3 s4 s5, AwakeP ⟨bm, 0, x, 0, 9, 1, 1, 2⟩ ⟨⟨0, 0, fun _ => none⟩, [], 0, false⟩ s1 s2 s3 s4 s5 := by
  have o0 : HOk ⟨bm, 0, x, 0, 9, 1, 1, 2⟩ ⟨⟨0, 0, fun _ => none⟩, [], 0, false⟩ := hok_new (key := 1) (v := 1) (mx := 2) (by decide)
  generalize hp : (⟨bm, 0, x, 0, 9, 1, 1, 2⟩ : HPar) = p at *
  have pk : p.key = 1 := by rw [← hp]
  have pv : p.v = 1 := by rw [← hp]
  have pm : p.mx = 2 := by rw [← hp]
  have pK : p.k ≠ 1 := by rw [← hp]; show (9 : Int) ≠ 1; decide
  generalize hs0 : (⟨⟨0, 0, fun _ => none⟩, [], 0, false⟩ : HSt) = s0 at *
  have e0 : s0.es = [] := by rw [← hs0]
  have c0 : s0.clock = 0 := by rw [← hs0]
  have m0 : s0.m.made = 0 := by rw [← hs0]
  have f0 : s0.m.fail = 0 := by rw [← hs0]
  have g0 : s0.gone = false := by rw [← hs0]
  clear hp hs0
  have g1 := upd_goes o0 kA ⟨#[49]⟩ 0
  obtain ⟨_, e1, c1, m1, f1, n1⟩ := upd_room (p := p) (s := s0) (key := kA) (value := ⟨#[49]⟩) ⟨by rw [pk]; rfl, by rw [pv]; rfl, g0, by rw [e0]; rfl⟩ (by rw [e0, pm]; decide) (by rw [f0]; decide)
  generalize h1 : updS p s0 kA ⟨#[49]⟩ 0 = s1 at *
  rw [e0, m0, c0] at e1
  have e1 : s1.es = [⟨kA, 1, 1⟩] := e1
  rw [c0] at c1
  rw [m0] at m1
  rw [f0] at f1
  have g2 := upd_goes g1.ok kB ⟨#[50]⟩ 0
  obtain ⟨_, e2, c2, m2, f2, n2⟩ := upd_room (p := p) (s := s1) (key := kB) (value := ⟨#[50]⟩) ⟨by rw [pk]; rfl, by rw [pv]; rfl, n1, by rw [e1, find_cons_no _ _ (by decide)]; rfl⟩ (by rw [e1, pm]; decide) (by rw [f1]; decide)
  generalize h2 : updS p s1 kB ⟨#[50]⟩ 0 = s2 at *
  rw [e1, m1, c1] at e2
  have e2 : s2.es = [⟨kA, 1, 1⟩, ⟨kB, 2, 2⟩] := e2
  rw [c1] at c2
  rw [m1] at m2
  rw [f1] at f2
  have g3 := look_goes g2.ok kA
  have fA : findE s2.es kA = some 0 := by rw [e2]; exact find_cons_yes _ _ rfl
  obtain ⟨a3, e3, c3, m3, n3⟩ := look_at fA (e := ⟨kA, 1, 1⟩) (by rw [e2]; rfl)
  generalize h3 : lookS s2 kA = s3 at *
  rw [e2, c2] at e3
  have e3 : s3.es = [⟨kA, 1, 3⟩, ⟨kB, 2, 2⟩] := e3
  rw [c2] at c3
  rw [n2] at n3
  have g4 := upd_goes g3.ok kC ⟨#[51]⟩ 0
  obtain ⟨a4, e4, c4, m4, f4, n4⟩ := upd_forget (p := p) (s := s3) (key := kC) (value := ⟨#[51]⟩) ⟨by rw [pk]; rfl, by rw [pv]; rfl, n3, by rw [e3, find_cons_no _ _ (by decide), find_cons_no _ _ (by decide)]; rfl⟩ g3.ok (by rw [e3, pm]; decide) pK (by rw [m3, f2]; decide)
  generalize h4 : updS p s3 kC ⟨#[51]⟩ 0 = s4 at *
  rw [m3, m2, e3, c3] at e4
  have e4 : s4.es = [⟨kA, 1, 3⟩, ⟨kC, 3, 4⟩] := e4
  rw [c3] at c4
  rw [m3, m2] at m4
  have fA4 : findE s4.es kA = some 0 := by rw [e4]; exact find_cons_yes _ _ rfl
  have fB4 : findE s4.es kB = none := by rw [e4, find_cons_no _ _ (by decide), find_cons_no _ _ (by decide)]; rfl
  have g5 := del_goes g4.ok kA
  obtain ⟨a5, e5, n5⟩ := del_at g4.ok n4 (by rw [pk]; rfl) fA4
  generalize h5 : delS p s4 kA = s5 at *
  rw [e4] at e5
  have e5 : s5.es = [⟨kC, 3, 4⟩] := e5
  obtain ⟨a6, e6⟩ := del_off (p := p) (s := s5) (key := kA) n5 (by rw [pk]; rfl) (by rw [e5, find_cons_no _ _ (by decide)]; rfl)
  have hnx : nextTo p.key s4.es ⟨#[]⟩ s4.es.length = some kA := by
    refine (nextTo_all p.key s4.es ⟨#[]⟩).eq ⟨fun h => (by cases h), fun k hk => ?_⟩
    cases hk
    refine ⟨⟨⟨kA, 1, 3⟩, by rw [e4]; simp, rfl, .inl (by rw [pk]; decide)⟩, fun e he _ => ?_⟩
    rw [e4] at he
    simp at he
    rcases he with rfl | rfl
    · exact ltS_irr _
    · unfold ltS
      rw [Lib.toList_data, Lib.toList_data]
      decide
  refine ⟨s1, s2, s3, s4, s5, ⟨o0, by omega, by omega⟩, ⟨g1.ok, by omega, by omega⟩, ⟨g2.ok, by omega, by omega⟩, ⟨g3.ok, by omega, by rw [m3]; omega⟩, ⟨g4.ok, by omega, by omega⟩, g5.ok, h1, h2, ⟨h3, a3⟩, ⟨h4, a4⟩, ?_, ?_, by rw [e4]; rfl, ⟨h5, a5⟩, ⟨e6, a6⟩⟩
  · unfold nextE nextA
    rw [hnx]; rfl
  · exact ⟨(look_off fB4).2, (look_off fB4).1⟩
theorem look_nil (key : ByteArray) (w : World) : Calls Try.prog 21 #[.pointer none, .string key] w fun e w' => e = .returned (.int .u64 0) ∧ w = w' := by
  go_enter Try.func21, Try.ntmps21
  go_wp2_with (go_at_call 39; refine (gone_nil _).mono ?_; rintro e w1 ⟨rfl, rfl⟩)
  go_ret
  exact ⟨rfl, rfl⟩
theorem upd_nil (key value : ByteArray) (fl : Int) (w : World) : Calls Try.prog 19 #[.pointer none, .string key, .string value, .int .i64 fl] w fun e w' => e = .returned (.int .i64 1) ∧ w = w' := by
  go_enter Try.func19, Try.ntmps19
  go_wp2_with (go_at_call 39; refine (gone_nil _).mono ?_; rintro e w1 ⟨rfl, rfl⟩)
  go_ret
  exact ⟨rfl, rfl⟩
theorem del_nil (key : ByteArray) (w : World) : Calls Try.prog 23 #[.pointer none, .string key] w fun e w' => e = .returned (.int .i64 1) ∧ w = w' := by
  go_enter Try.func23, Try.ntmps23
  go_wp2_with (go_at_call 39; refine (gone_nil _).mono ?_; rintro e w1 ⟨rfl, rfl⟩)
  go_ret
  exact ⟨rfl, rfl⟩
theorem next_nil (key : ByteArray) (w : World) : Calls Try.prog 20 #[.pointer none, .string key] w fun e w' => e = .returned (.tuple #[.string ⟨#[]⟩, .int .i64 1]) ∧ w = w' := by
  go_enter Try.func20, Try.ntmps20
  go_wp2_with fail
  go_ret2
  exact ⟨rfl, rfl⟩
theorem len_nil_ (w : World) : Calls Try.prog 14 #[.pointer none] w fun e w' => e = .returned (.int .i64 0) ∧ w = w' := by
  go_enter Try.func14, Try.ntmps14
  go_wp2_with fail
  go_ret
  exact ⟨rfl, rfl⟩
theorem free_nil_ (w : World) : Calls Try.prog 25 #[.pointer none] w fun e w' => e = .returned (.int .i64 1) ∧ w = w' := by
  go_enter Try.func25, Try.ntmps25
  go_wp2_with (go_at_call 39; refine (gone_nil _).mono ?_; rintro e w1 ⟨rfl, rfl⟩)
  go_ret
  exact ⟨rfl, rfl⟩
set_option maxHeartbeats 1000000 in
theorem awake_any (w : World) :
    Calls Try.prog 18 #[] w fun e w' => e = .returned (.bool true) ∧ Below w.heap.size w w' := by
  have C0 := Lib.hid (new_any w)
  have CN := Lib.hid (tb_new w 9 1 1 2 (by decide))
  have AP := Lib.hid (fun x => awake_plan w.heap.size x)
  go_enter Try.func18, Try.ntmps18
  go_upto_region 3 with (first
    | (go_at_call 8; refine C0.out.mono ?_; rintro e w1 ⟨rfl, rfl⟩)
    | (go_at_call 9; refine CN.out.mono ?_; rintro e w2 ⟨x, rfl, hf⟩; have F := Lib.hid hf; clear hf))
  obtain ⟨s1, s2, s3, s4, s5, ap⟩ := AP.out x
  have A := Lib.hid ap
  clear C0 CN ap AP
  go_upto_region 6 with (go_at_call 19; refine (F.out.upd A.out.o0.1 A.out.o0.2.1 A.out.o0.2.2 kA ⟨#[49]⟩ 0).mono ?_; rintro e w3 ⟨rfl, h⟩; rw [A.out.u1] at h; have F3 := Lib.hid h; clear h)
  go_upto_region 7 with (go_at_call 19; refine (F3.out.upd A.out.o1.1 A.out.o1.2.1 A.out.o1.2.2 kB ⟨#[50]⟩ 0).mono ?_; rintro e w4 ⟨rfl, h⟩; rw [A.out.u2] at h; have F4 := Lib.hid h; clear h)
  go_upto_region 8 with (go_at_call 21; refine (F4.out.look A.out.o2.1 A.out.o2.2.1 kA (by decide)).mono ?_; rintro e w5 ⟨rfl, h⟩; rw [A.out.l3.1] at h; rw [A.out.l3.2]; have F5 := Lib.hid h; clear h)
  go_upto_region 9 with (go_at_call 19; refine (F5.out.upd A.out.o3.1 A.out.o3.2.1 A.out.o3.2.2 kC ⟨#[51]⟩ 0).mono ?_; rintro e w6 ⟨rfl, h⟩; rw [A.out.u4.1] at h; rw [A.out.u4.2]; have F6 := Lib.hid h; clear h)
  clear F F3 F4 F5
  go_upto_region 10 with (go_at_call 20; refine (F6.out.next A.out.o4.1 ⟨#[]⟩).mono ?_; rintro e w7 ⟨he, h⟩; rw [A.out.n4] at he; subst he; have F7 := Lib.hid h; clear h)
  go_wp2_with (first
    | (go_at_call 21; refine (F7.out.look A.out.o4.1 A.out.o4.2.1 kB (by decide)).mono ?_; rintro e w8 ⟨rfl, h⟩; rw [A.out.l4.1] at h; rw [A.out.l4.2]; have F8 := Lib.hid h; clear h)
    | (go_at_call 14; refine (F8.out.len A.out.o4.1).mono ?_; rintro e w9 ⟨rfl, rfl⟩; rw [A.out.len])
    | (go_at_call 23; (have _p := F9.out); refine (F9.out.del A.out.o5 kA).mono ?_; rintro e w11 ⟨rfl, h⟩; rw [A.out.d6.1] at h; rw [A.out.d6.2]; have F10 := Lib.hid h; clear h)
    | (go_at_call 23; refine (F8.out.del A.out.o4.1 kA).mono ?_; rintro e w10 ⟨rfl, h⟩; rw [A.out.d5.1] at h; rw [A.out.d5.2]; have F9 := Lib.hid h; clear h))
  go_ret
  exact ⟨rfl, F10.out.below⟩
theorem awake_later {B : Nat} {w w' : World} (hb : Below B w w') (hB : B ≤ w'.heap.size) : Calls Try.prog 18 #[] w' fun e w'' => e = .returned (.bool true) ∧ Below B w w'' :=
  (awake_any w').mono fun e w'' h => ⟨h.1, hb.trans (h.2.mono hB)⟩
set_option maxHeartbeats 1000000 in
theorem none_walk (kd fl : Int) (u : Int) (ky vl : ByteArray) (w : World) :
    Calls Try.prog 7 #[.agg #[.int .i64 kd, .string ky, .string vl, .int .i64 fl, .int .u64 u]] w fun e w' => e = .returned (.bool true) ∧ Below w.heap.size w w' := by
  have B0 := Lib.hid (below_alloc w (.cells #[.int .i64 kd, .string ky, .string vl, .int .i64 fl, .int .u64 u] dT))
  have HB := Lib.hid (Blk.new w dT #[.int .i64 kd, .string ky, .string vl, .int .i64 fl, .int .u64 u])
  have CN := Lib.hid (new_nil 1 4 4 2)
  go_enter Try.func7, Try.ntmps7
  go_upto_region 3 with (go_at_call 20; refine (next_nil _ _).mono ?_; rintro e w1 ⟨rfl, rfl⟩)
  go_upto_region 4 with (go_at_call 9; refine (CN.out _).mono ?_; rintro e w2 ⟨rfl, hb⟩; have B2 := Lib.hid (below_then B0.out hb); have HB2 := Lib.hid (blk_below HB.out hb); clear hb)
  have d1 : w2.cell? ⟨w.heap.size, 1, none⟩ = some (.string ky) := HB2.out.cell 1
  have d2 : w2.cell? ⟨w.heap.size, 2, none⟩ = some (.string vl) := HB2.out.cell 2
  have d3 : w2.cell? ⟨w.heap.size, 3, none⟩ = some (.int .i64 fl) := HB2.out.cell 3
  go_wp2_with (first
    | (go_at_call 21; refine (look_nil _ _).mono ?_; rintro e w3 ⟨rfl, rfl⟩)
    | (go_at_call 19; refine (upd_nil _ _ _ _).mono ?_; rintro e w4 ⟨rfl, rfl⟩)
    | (go_at_call 23; refine (del_nil _ _).mono ?_; rintro e w5 ⟨rfl, rfl⟩)
    | (go_at_call 14; refine (len_nil_ _).mono ?_; rintro e w5 ⟨rfl, rfl⟩)
    | (go_at_call 25; refine (free_nil_ _).mono ?_; rintro e w6 ⟨rfl, rfl⟩)
    | (go_at_call 18; refine (awake_later B2.out B2.out.size).mono ?_; rintro e w7 ⟨rfl, hb⟩; have B7 := Lib.hid hb; clear hb))
  go_ret
  exact ⟨rfl, B7.out⟩
end Go.Proofs.Ytmopflcaeecgcaa
