/-
  Package flat: free; New that is refused, and New for which memory fails midway. The reference of layer 8: Free, New.
-/
import Derived.Test.YthilkgfbaddjpaaP8
import Derived.Test.YthilkgfbaddjpaaFFitsBig
import Derived.Test.YthilkgfbaddjpaaP10
import Derived.Test.YthilkgfbaddjpaaMMay
namespace Go.Proofs.Ythilkgfbaddjpaa
open Go Go.RowKit Go.Maps
set_option linter.unusedVariables false
set_option linter.unusedSimpArgs false
set_option maxRecDepth 100000
section
variable {w : World} {S : Nat → Prop} {bm bx : Nat}
set_option maxHeartbeats 1000000 in
theorem ffree (made fl n c : Nat) (z : Nat → List UInt8) (hn : n ≤ 8) (A : Option Addr) (h : KSide w S bm ⟨made, fl, rng 0 n z⟩) (hA : ∀ i, i < n → ∃ g, A = some ⟨g, 0, none⟩ ∧ g < w.heap.size ∧ ¬ S g ∧ w.cell? ⟨g, i, none⟩ = some (.int .u64 (addr (i + 1) 0))) :
    Calls Try.prog 49 #[.pointer (some ⟨bm, 0, none⟩), .slice A n c] w fun e w' => e = .returned (.tuple #[]) ∧ ∃ S', KS w S bm ⟨made, fl, rng n n z⟩ S' w' := by
  have H := Lib.hid h
  have HA := Lib.hid hA
  have HN := Lib.hid hn
  clear h hA hn
  go_enter Try.func49, Try.ntmps49
  go_wp2_with fail
  go_loopw [8] (fun i wr => ∃ (j : Nat) (S' : Nat → Prop), j ≤ n ∧ i = .int .i64 j ∧ KS w S bm ⟨made, fl, rng j n z⟩ S' wr) (fun i _ => n - (intOf i).toNat)
  case atStart => exact ⟨0, S, by omega, rfl, KS.start H.out⟩
  case round =>
    obtain ⟨j, S', hj, rfl, hk⟩ := hrel
    have HK := Lib.hid hk
    clear hk
    by_cases hlt : j < n
    · obtain ⟨g, rfl, g1, g2, g3⟩ := HA.out j hlt
      have c0 : wr.cell? ⟨g, j, none⟩ = some (.int .u64 (addr (j + 1) 0)) := (World.cell?_of_block (HK.out.2.1.block g g1 g2)).trans g3
      have CF := Lib.hid (HK.out.call (kfree bm made fl j n z hlt))
      have HW : Hid (wrap64 ((j : Int) + 1) = (j : Int) + 1) := by unfold Hid wrap64; have := HN.out; omega
      have HJ := Lib.hid hlt
      clear g1 g2 g3 HA
      go_wp2_with (go_at_call 64; refine CF.out.mono ?_; rintro e w1 ⟨rfl, hk2, _⟩; have HK2 := Lib.hid hk2; clear hk2)
      exact ⟨⟨j + 1, _, by have := HJ.out; omega, by rw [HW.out]; go_num, HK2.out⟩, by rw [HW.out]; simp [intOf]; have := HJ.out; omega⟩
    · have : j = n := by omega
      subst this
      go_wp2_with fail
      go_end0
      exact ⟨rfl, S', HK.out⟩
def zeros (size : Nat) : Nat → List UInt8 := fun _ => List.replicate size 0
theorem AN.side {size j fail : Nat} {wr : World} {v rv : Value} {rl : List Nat} {S' : Nat → Prop} {st' : Nat → Option RG} {mv' : Value} (h : AN w S bm 0 fail (fun _ => none) rl rv size j wr v S' st' mv') : KS w S bm ⟨j, fail - j, rng 0 j (zeros size)⟩ S' wr := by
  have hk := h.km
  rw [Nat.zero_add] at hk
  refine ⟨⟨_, _, _, _, hk, fun n => ?_⟩, h.keeps, h.sub⟩
  by_cases hn : 0 < n ∧ n ≤ j
  · obtain ⟨r, e, e1, e2, e3, _⟩ := h.new (n - 1) (by omega)
    rw [show 0 + 1 + (n - 1) = n by omega] at e
    rw [e]
    show some r.v = rng 0 j (zeros size) n
    rw [rng_in hn]
    simp [RG.v, e1, e2, e3, zeros]
  · rw [h.old n (by omega)]
    exact (rng_out hn).symm
theorem side_km {m : PS} (h : KSide w S bm m) (hv : m.vs = fun _ => none) : ∃ rl mv rv, KM w S bm m.made m.fail (fun _ => none) rl mv rv := by
  obtain ⟨st, rl, mv, rv, hk, h2⟩ := h
  have e : st = fun _ => none := by
    funext n
    have := h2 n
    rw [hv] at this
    simpa using this
  subst e
  exact ⟨rl, mv, rv, hk⟩
set_option maxHeartbeats 1000000 in
theorem alloc_fail (f n : Nat) (h : KSide w S bm ⟨0, f, fun _ => none⟩) (hf : 1 ≤ f) (hfn : f ≤ n) (hn : n ≤ 8) (size : Nat) (h1 : 1 ≤ size) (h2 : size ≤ 1048576) :
    Calls Try.prog 26 #[.pointer (some ⟨bm, 0, none⟩), .int .i64 n, .int .i64 size] w fun e w' => e = .returned (.tuple #[.slice none 0 0, .int .i64 2]) ∧ ∃ S', KS w S bm ⟨f - 1, 0, fun _ => none⟩ S' w' := by
  obtain ⟨rl, mv, rv, hk⟩ := side_km h rfl
  have H := Lib.hid hk
  have HF := Lib.hid (And.intro hf (And.intro hfn hn))
  have H1 := Lib.hid h1
  have H2 := Lib.hid h2
  clear h hk hf hfn hn h1 h2
  go_enter Try.func26, Try.ntmps26
  go_wp2_with fail
  go_loopw [8, 12] (fun v i wr => ∃ (j : Nat) (S' : Nat → Prop) (st' : Nat → Option RG) (mv' : Value), j < f ∧ i = .int .i64 j ∧ AN w S bm 0 f (fun _ => none) rl rv size j wr v S' st' mv') (fun _ i _ => n - (intOf i).toNat)
  case atStart => exact ⟨0, S, (fun _ => none), mv, by have := HF.out; omega, rfl, AN.start H.out size⟩
  case round =>
    obtain ⟨j, S', st', mv', hj, rfl, hA⟩ := hrel
    have HA := Lib.hid hA
    clear hA
    have HJ := Lib.hid hj
    have hlt : j < n := by have := HF.out; omega
    have HLT := Lib.hid hlt
    have HW : Hid (wrap64 ((j : Int) + 1) = (j : Int) + 1) := by unfold Hid wrap64; have := HF.out; omega
    by_cases hl : j + 1 = f
    · have hs := HA.out.side
      rw [show f - j = 1 by omega] at hs
      have CA := Lib.hid (hs.call (kalloc_no bm j (rng 0 j (zeros size)) size H1.out H2.out))
      have AP := Lib.hid HA.out.apart
      have RW := Lib.hid HA.out.row
      have HL := Lib.hid hl
      clear hj hs hl
      obtain ⟨A, cc, rfl, hrow⟩ := own_form_any RW.out
      have HR := Lib.hid hrow
      clear hrow
      go_wp2_with (first
        | (go_at_call 50; refine CA.out.mono ?_; rintro e w1 ⟨rfl, hk2, kk⟩; have HK2 := Lib.hid hk2; have KK := Lib.hid kk; clear hk2 kk)
        | (go_at_call 49; refine (ffree j 0 j cc (zeros size) (by have := HLT.out; have := HF.out; omega) A HK2.out.1 (fun i hi => ?_)).mono ?_))
      · obtain ⟨g, rfl, hg⟩ := HR.out (by omega)
        have g1 := (RW.out.lt g rfl).2
        have g2 := AP.out g rfl
        refine ⟨g, rfl, Nat.lt_of_lt_of_le g1 KK.out.size, fun hs => ?_, (World.cell?_of_block (KK.out.block g g1 g2)).trans (hg i _ ?_)⟩
        · rcases hs with hs | ⟨hs, _⟩
          · exact g2 hs
          · omega
        · unfold firstsC
          rw [List.getElem?_map, List.getElem?_range hi]
          simp [Nat.add_comm]
      · rintro e w2 ⟨rfl, S2, hk3⟩
        have HK3 := Lib.hid hk3
        clear hk3
        go_wp2_with fail
        go_ret2
        refine ⟨rfl, S2, ?_⟩
        have hk := HK3.out
        rw [rng_nil] at hk
        have hl := HL.out
        rw [show f - 1 = j by omega]
        exact ⟨hk.1, HK2.out.2.1.trans (hk.2.1.mono fun b hb => (HK2.out.2.2 b hb).imp id fun hz => ⟨hz, HK2.out.1.lt' b hb⟩), fun b hb => by
          rcases hk.2.2 b hb with hb | hb
          · exact HK2.out.2.2 b hb
          · exact .inr (Nat.le_trans HK2.out.2.1.size hb)⟩
    · have CA := Lib.hid (alloc_ok HA.out.km (by have := HF.out; omega) (by have := HF.out; omega) size 3 H1.out H2.out (by decide) (by decide))
      have HL := Lib.hid hl
      clear hl hj
      go_wp2_with (first
        | (go_at_call 50; refine CA.out.mono ?_; rintro e w1 ⟨rfl, ha⟩; obtain ⟨v2, w3, hr, S2, st2, mv2, hA2⟩ := HA.out.step (by have := HF.out; have := HJ.out; omega) ha; simp only [Nat.zero_add] at hr; have HR := Lib.hid hr; have HA2 := Lib.hid hA2; clear ha hr hA2)
        | (at_builtin; refine wpList_append_runA rfl (.tmp 26) (.tmp 28) 68 rfl _ (.slice (some ⟨w1.heap.size, 0, none⟩) 1 1) v2 w3 rfl rfl 68 rfl HR.out ?_))
      exact ⟨⟨j + 1, S2, st2, mv2, by have := HL.out; have := HJ.out; omega, by rw [HW.out]; go_num, HA2.out⟩, by rw [HW.out]; simp [intOf]; have := HLT.out; omega⟩
theorem New_bad (k key v mx c : Int) (w : World) (hF : ∀ W : World, Calls Try.prog 25 #[specV k key v mx, .int .i64 c] W fun e w' => e = .returned (.bool false) ∧ Below W.heap.size W w') :
    Calls Try.prog 12 #[.pointer (some ⟨bm, 0, none⟩), specV k key v mx, .int .i64 c] w fun e w' => e = .returned (.tuple #[.pointer none, .int .i64 1]) ∧ Below w.heap.size w w' := by
  have CF := Lib.hid hF
  have B0 := Lib.hid (below_alloc w (.cells #[.int .i64 k, .int .i64 key, .int .i64 v, .int .i64 mx] 23))
  clear hF
  go_enter Try.func12, Try.ntmps12
  go_wp2_with (go_at_call 25; refine (CF.out _).mono ?_; rintro e w1 ⟨rfl, hb⟩; have B1 := Lib.hid (below_then B0.out hb); clear hb)
  go_ret2
  exact ⟨rfl, B1.out⟩
set_option maxHeartbeats 1000000 in
theorem New_fail (k c : Int) (f n v mx : Nat) (h : KSide w S bm ⟨0, f, fun _ => none⟩) (hf : 1 ≤ f) (hfn : f ≤ n) (hn : n ≤ 8) (h1 : 1 ≤ v) (h2 : v ≤ 4096) (h3 : 1 ≤ mx) (h4 : mx ≤ 4096) (h7 : mx * wide v ≤ 1048576)
    (hF : ∀ W : World, Calls Try.prog 25 #[specV k 4 v mx, .int .i64 c] W fun e w' => e = .returned (.bool true) ∧ Below W.heap.size W w')
    (hR : ∀ W : World, Calls Try.prog 27 #[.int .i64 k, .int .i64 c] W fun e w' => e = .returned (.int .i64 n) ∧ W = w') :
    Calls Try.prog 12 #[.pointer (some ⟨bm, 0, none⟩), specV k 4 v mx, .int .i64 c] w fun e w' => e = .returned (.tuple #[.pointer none, .int .i64 2]) ∧ ∃ S', KS w S bm ⟨f - 1, 0, fun _ => none⟩ S' w' := by
  obtain ⟨q, hq⟩ : ∃ q, mx * wide v = q := ⟨_, rfl⟩
  have hw1 : 1 ≤ wide v := by unfold wide; omega
  have hq1 : 1 ≤ q := by rw [← hq]; exact Nat.mul_pos (by omega) (by omega)
  have e0 : (mx : Int) * (wide v : Int) = (q : Int) := by rw [← hq]; simp
  have e3 : IntKind.i64.wrap ((mx : Int) * (wide v : Int)) = (q : Int) := by rw [e0]; exact IntWalk.i64_in _ (by omega)
  have CF := Lib.hid hF
  have CR := Lib.hid hR
  have CW := Lib.hid (width_any k 4 mx v h2)
  have CA := Lib.hid (fun (W : World) (hk : KSide W S bm ⟨0, f, fun _ => none⟩) => alloc_fail f n hk hf hfn hn q hq1 (by omega))
  have HK := Lib.hid h
  have HN : Hid (¬ S w.heap.size) := fun hs => Nat.lt_irrefl _ (h.lt' _ hs)
  have HB := Lib.hid (Blk.new w 23 #[.int .i64 k, .int .i64 4, .int .i64 v, .int .i64 mx])
  have B0 := Lib.hid (below_alloc w (.cells #[.int .i64 k, .int .i64 4, .int .i64 v, .int .i64 mx] 23))
  clear h hf hfn hn h1 h2 h3 h4 h7 hq hw1 hq1 e0 hF hR
  generalize wide v = d at *
  go_enter Try.func12, Try.ntmps12
  go_upto_region 3 with (go_at_call 25; refine (CF.out _).mono ?_; rintro e w1 ⟨rfl, hb⟩; have B1 := Lib.hid (below_then B0.out hb); have HB1 := Lib.hid (blk_below HB.out hb); clear hb)
  have K1 := Lib.hid ((KS.start HK.out).grow (keeps_grow B1.out))
  have S1 : Hid (w1.cell? ⟨w.heap.size, 0, none⟩ = some (.int .i64 k) ∧ w1.cell? ⟨w.heap.size, 1, none⟩ = some (.int .i64 4) ∧ w1.cell? ⟨w.heap.size, 2, none⟩ = some (.int .i64 v) ∧ w1.cell? ⟨w.heap.size, 3, none⟩ = some (.int .i64 mx)) := ⟨HB1.out.cell 0, HB1.out.cell 1, HB1.out.cell 2, HB1.out.cell 3⟩
  clear B0 HB HK CF
  go_region_held3 (fun W => W.cell? ⟨w.heap.size, 0, none⟩ = some (.int .i64 k) ∧ W.cell? ⟨w.heap.size, 1, none⟩ = some (.int .i64 4) ∧ W.cell? ⟨w.heap.size, 2, none⟩ = some (.int .i64 v) ∧ W.cell? ⟨w.heap.size, 3, none⟩ = some (.int .i64 mx))
    (first | exact S1.out | exact S2.out | exact S3'.out)
    (first
      | (go_at_call 27; refine (CR.out _).mono ?_; rintro e wq ⟨rfl, rfl⟩)
      | (go_at_call 28; refine (CW.out _).mono ?_; rintro e w2 ⟨rfl, hb⟩; have B2 := Lib.hid (below_then (below_drew1 B1.out) hb); have HB2 := Lib.hid (blk_below (blk_drew HB1.out) hb); have K2 := Lib.hid (K1.out.grow (keeps_grow (below_then (below_drew1 (Below.refl _ w1)) hb))); have S2 : Hid (w2.cell? ⟨w.heap.size, 0, none⟩ = some (.int .i64 k) ∧ w2.cell? ⟨w.heap.size, 1, none⟩ = some (.int .i64 4) ∧ w2.cell? ⟨w.heap.size, 2, none⟩ = some (.int .i64 v) ∧ w2.cell? ⟨w.heap.size, 3, none⟩ = some (.int .i64 mx)) := ⟨HB2.out.cell 0, HB2.out.cell 1, HB2.out.cell 2, HB2.out.cell 3⟩; clear hb)
      | (go_at_call 26; refine (CA.out _ K2.out.1).mono ?_; rintro e w3 ⟨rfl, S3, ha⟩; have HA := Lib.hid ha; have HB3 := Lib.hid (HB2.out.keeps ha.2.1 HN.out); have S3' : Hid (w3.cell? ⟨w.heap.size, 0, none⟩ = some (.int .i64 k) ∧ w3.cell? ⟨w.heap.size, 1, none⟩ = some (.int .i64 4) ∧ w3.cell? ⟨w.heap.size, 2, none⟩ = some (.int .i64 v) ∧ w3.cell? ⟨w.heap.size, 3, none⟩ = some (.int .i64 mx)) := ⟨HB3.out.cell 0, HB3.out.cell 1, HB3.out.cell 2, HB3.out.cell 3⟩; clear ha))
  go_wp2_with fail
  go_ret2
  refine ⟨rfl, S3, HA.out.1, K2.out.2.1.trans (HA.out.2.1.mono fun b hb => .inl hb), fun b hb => ?_⟩
  rcases HA.out.2.2 b hb with hb | hb
  · exact .inl hb
  · exact .inr (Nat.le_trans K2.out.2.1.size hb)
end
end Go.Proofs.Ythilkgfbaddjpaa
namespace Go.Proofs.Ythilkgfbaddjpaa
open Go Go.RowKit Go.Maps
set_option linter.unusedVariables false
set_option linter.unusedSimpArgs false
set_option maxRecDepth 100000
abbrev refC (bx : Nat) (k v mx c : Int) (V : Value) (gone : Bool) : Array Value := #[.pointer (some ⟨bx, 0, none⟩), .int .i64 k, .int .i64 4, .int .i64 v, .int .i64 mx, .int .i64 c, V, .bool gone]
section
variable {w : World} {T : Nat → Prop} {bx y : Nat}
/-- What Free leaves. -/
structure YFree (w : World) (T : Nat → Prop) (bx y : Nat) (cs : Array Value) (m : PS) (T' : Nat → Prop) (w' : World) : Prop where
  side : XSide w' T' bx m
  map : Blk w' y 79 cs
  keeps : Keeps (fun b => T b ∨ b = y) w w'
  sub : ∀ b, T' b → T b ∨ w.heap.size ≤ b
set_option maxHeartbeats 1000000 in
theorem yfree (k v mx c : Int) (made fl n cc : Nat) (z : Nat → List UInt8) (hn : n ≤ 8) (A : Option Addr) (h : XSide w T bx ⟨made, fl, rng 0 n z⟩) (hy : Blk w y 79 (refC bx k v mx c (.slice A n cc) false)) (ny : ¬ T y)
    (hA : ∀ i, i < n → ∃ g, A = some ⟨g, 0, none⟩ ∧ g < w.heap.size ∧ ¬ T g ∧ g ≠ y ∧ w.cell? ⟨g, i, none⟩ = some (.int .u64 (addr (i + 1) 0))) :
    Calls Try.prog 33 #[.pointer (some ⟨y, 0, none⟩)] w fun e w' => e = .returned (.int .i64 0) ∧ ∃ T', YFree w T bx y (refC bx k v mx c (.slice A n cc) true) ⟨made, fl, rng n n z⟩ T' w' := by
  have c7 : w.cell? ⟨y, 7, none⟩ = some (.bool false) := hy.cell 7
  have f7 : w.frozen? ⟨y, 7, none⟩ = false := hy.frozen 7
  have k0 : Keeps (fun b => b = y) w (w.setCell ⟨y, 7, none⟩ (.bool true)) := Keeps.setCell (S := fun b => b = y) (p := ⟨y, 7, none⟩) (Keeps.refl _ w) (.inl rfl) _
  have hy1 : Blk (w.setCell ⟨y, 7, none⟩ (.bool true)) y 79 (refC bx k v mx c (.slice A n cc) true) := by have := hy.set_ 7 (.bool true); simpa using this
  have HX := Lib.hid (XS.start (h.keeps' k0 (fun b hb e => ny (e ▸ hb))))
  have HY := Lib.hid hy1
  have NY := Lib.hid ny
  have HN := Lib.hid hn
  have K0 := Lib.hid k0
  have HYL := Lib.hid hy.lt
  have HA : Hid (∀ i, i < n → ∃ g, A = some ⟨g, 0, none⟩ ∧ g < (w.setCell ⟨y, 7, none⟩ (.bool true)).heap.size ∧ ¬ T g ∧ g ≠ y ∧ (w.setCell ⟨y, 7, none⟩ (.bool true)).cell? ⟨g, i, none⟩ = some (.int .u64 (addr (i + 1) 0))) := fun i hi => by
    obtain ⟨g, e, g1, g2, g3, g4⟩ := hA i hi
    exact ⟨g, e, Nat.lt_of_lt_of_le g1 k0.size, g2, g3, (World.cell?_of_block (k0.block g g1 g3)).trans g4⟩
  clear h hy ny hA hn hy1 k0
  go_enter Try.func33, Try.ntmps33
  go_wp2_with fail
  generalize hw1 : w.setCell ⟨y, 7, none⟩ (.bool true) = w1 at HX HY HA K0 ⊢
  clear hw1
  go_loopw [3] (fun i wr => ∃ (j : Nat) (T' : Nat → Prop), j ≤ n ∧ i = .int .i64 j ∧ XS w1 T bx ⟨made, fl, rng j n z⟩ T' wr) (fun i _ => n - (intOf i).toNat)
  case atStart => exact ⟨0, T, by omega, rfl, HX.out⟩
  case round =>
    obtain ⟨j, T', hj, rfl, hk⟩ := hrel
    have HK := Lib.hid hk
    clear hk
    have hyr := HY.out.keeps HK.out.2.1 NY.out
    have d0 : wr.cell? ⟨y, 0, none⟩ = some (.pointer (some ⟨bx, 0, none⟩)) := hyr.cell 0
    have d6 : wr.cell? ⟨y, 6, none⟩ = some (.slice A n cc) := hyr.cell 6
    by_cases hlt : j < n
    · obtain ⟨g, rfl, g1, g2, g3, g4⟩ := HA.out j hlt
      have c0 : wr.cell? ⟨g, j, none⟩ = some (.int .u64 (addr (j + 1) 0)) := (World.cell?_of_block (HK.out.2.1.block g g1 g2)).trans g4
      have CF := Lib.hid ((HK.out.grow ((Keeps.refl _ wr).drew)).call (xfree bx made fl j n z hlt))
      have HJ := Lib.hid hlt
      have S1 : Hid (wr.cell? ⟨y, 0, none⟩ = some (.pointer (some ⟨bx, 0, none⟩)) ∧ wr.cell? ⟨y, 6, none⟩ = some (.slice (some ⟨g, 0, none⟩) n cc) ∧ wr.cell? ⟨g, j, none⟩ = some (.int .u64 (addr (j + 1) 0))) := ⟨d0, d6, c0⟩
      have hS2 : ∀ W, Keeps T' wr.drew W → (W.cell? ⟨y, 0, none⟩ = some (.pointer (some ⟨bx, 0, none⟩)) ∧ W.cell? ⟨y, 6, none⟩ = some (.slice (some ⟨g, 0, none⟩) n cc) ∧ W.cell? ⟨g, j, none⟩ = some (.int .u64 (addr (j + 1) 0))) := fun W hW => by
        have hy' : ¬ T' y := fun hs => by
          rcases HK.out.2.2 y hs with hs | hs
          · exact NY.out hs
          · have := HY.out.lt; omega
        have hg' : ¬ T' g := fun hs => by
          rcases HK.out.2.2 g hs with hs | hs
          · exact g2 hs
          · omega
        have hyb : Blk wr.drew y 79 (refC bx k v mx c (.slice (some ⟨g, 0, none⟩) n cc) true) := hyr
        have hyw := hyb.keeps hW hy'
        exact ⟨hyw.cell 0, hyw.cell 6, (World.cell?_of_block (hW.block g (Nat.lt_of_lt_of_le g1 HK.out.2.1.size) hg')).trans c0⟩
      have HS2 := Lib.hid hS2
      have HW : Hid (wrap64 ((j : Int) + 1) = (j : Int) + 1) := by unfold Hid wrap64; have := HN.out; omega
      clear g1 g2 g3 g4 HA hyr c0 d0 hS2
      go_wp2_with fail
      clear d6
      go_region_held3 (fun W => W.cell? ⟨y, 0, none⟩ = some (.pointer (some ⟨bx, 0, none⟩)) ∧ W.cell? ⟨y, 6, none⟩ = some (.slice (some ⟨g, 0, none⟩) n cc) ∧ W.cell? ⟨g, j, none⟩ = some (.int .u64 (addr (j + 1) 0)))
        (first | exact S1.out | exact HS2.out _ KK2.out)
        (first | (go_at_call 51; refine CF.out.mono ?_; rintro e w2 ⟨rfl, hk2, kk2⟩; have HK2 := Lib.hid hk2; have KK2 := Lib.hid kk2; clear hk2 kk2))
      go_wp2_with fail
      go_roundw
      case rel => exact ⟨j + 1, _, by have := HJ.out; omega, by rw [HW.out]; go_num, HK2.out⟩
      case measure => rw [HW.out]; simp [intOf]; have := HJ.out; omega
    · have : j = n := by omega
      subst this
      go_wp2_with fail
      go_ret
      refine ⟨rfl, T', HK.out.1, hyr, ?_, fun b hb => ?_⟩
      · exact (K0.out.mono fun b hb => .inr hb).trans (HK.out.2.1.mono fun b hb => .inl (.inl hb))
      · rcases HK.out.2.2 b hb with hb | hb
        · exact .inl hb
        · exact .inr (Nat.le_trans K0.out.size hb)
end
/-- j regions have been made, and the map's block holds where they begin. -/
structure XN (w : World) (T : Nat → Prop) (bx f size s y : Nat) (k v mx c : Int) (j : Nat) (wr : World) (vv : Value) (T' : Nat → Prop) : Prop where
  xs : XS w T bx ⟨j, f - j, rng 0 j (zeros size)⟩ T' wr
  sp : Blk wr s 23 #[.int .i64 k, .int .i64 4, .int .i64 v, .int .i64 mx]
  yb : Blk wr y 79 (refC bx k v mx c vv false)
  row : wr.ownsRow w.heap.size 43 1 vv j (firstsC 0 j)
  apart : ∀ g, vv.ownBlock = some g → ¬ T' g ∧ g ≠ y ∧ g ≠ s
  ns : ¬ T' s
  ny : ¬ T' y
  sy : s ≠ y
  s0 : w.heap.size ≤ s
  y0 : w.heap.size ≤ y
section
variable {w : World} {T : Nat → Prop} {bx f size s y : Nat} {k v mx c : Int}
theorem XN.step {j : Nat} {wr w1 : World} {vv : Value} {T' : Nat → Prop} (h : XN w T bx f size s y k v mx c j wr vv T') (hj : j ≤ 8) (hx : XS w T bx ⟨j + 1, f - (j + 1), rng 0 (j + 1) (zeros size)⟩ (more T' wr w1) w1) (kk : Keeps T' wr w1) :
    w1.cell? ⟨y, 6, none⟩ = some vv ∧ ∃ g2 c2 w3, (Builtin.append_ #[68, 68] 68 #[vv, .slice (some ⟨w1.heap.size, 0, none⟩) 1 1]).run Try.prog (w1.alloc (.cells #[.int .u64 (addr (j + 1) 0)] 43)) = .ok (.slice (some ⟨g2, 0, none⟩) (j + 1) c2) w3 ∧
      w3.cell? ⟨y, 6, none⟩ = some vv ∧ w3.frozen? ⟨y, 6, none⟩ = false ∧ ∃ T2, XN w T bx f size s y k v mx c (j + 1) (w3.setCell ⟨y, 6, none⟩ (.slice (some ⟨g2, 0, none⟩) (j + 1) c2)) (.slice (some ⟨g2, 0, none⟩) (j + 1) c2) T2 := by
  obtain ⟨i0, hi, hz0, hz1, hz2⟩ := info_parts info64
  have hb0 : w.heap.size ≤ wr.heap.size := h.xs.2.1.size
  have hb1 : wr.heap.size ≤ w1.heap.size := kk.size
  have sl := h.sp.lt
  have yl := h.yb.lt
  have sp1 := h.sp.keeps kk h.ns
  have yb1 := h.yb.keeps kk h.ny
  have row1 : w1.ownsRow w.heap.size 43 1 vv j (firstsC 0 j) := ownsRow_block h.row fun g hg => kk.block g (h.row.lt g hg).2 (h.apart g hg).1
  have row2 := row1.alloc (.cells #[.int .u64 (addr (j + 1) 0)] 43)
  have hB := Blk.new w1 43 #[.int .u64 (addr (j + 1) 0)]
  obtain ⟨v2, w3, hr, h1, h2, _, h5⟩ := run_append_own_at (P := Try.prog) (w1.alloc (.cells #[.int .u64 (addr (j + 1) 0)] 43)) w.heap.size 68 68 43 i0 (.int .u64 0) 1 8 Try.underlying68 hi hz0 hz1 hz2 rfl (by decide) vv j (firstsC 0 j) row2 ⟨w1.heap.size, 0, none⟩ 1 1 [.int .u64 (addr (j + 1) 0)] rfl (fun k u hu => by
      rw [Go.WideShapes.add_plain, Nat.zero_add, hB.cell k]
      simpa using hu) (fun u hu => by simp only [List.mem_singleton] at hu; subst hu; rfl) (by unfold maxLen; omega) (by omega) (by simp; omega)
  obtain ⟨g2, c2, cur, rfl, _, _, _⟩ := own_any h1 (by simp)
  have k2 : Keeps (fun _ => False) w1 (w1.alloc (.cells #[.int .u64 (addr (j + 1) 0)] 43)) := (Keeps.refl _ _).alloc _
  have k3 : Keeps (fun b => vv.ownBlock = some b) (w1.alloc (.cells #[.int .u64 (addr (j + 1) 0)] 43)) w3 := (Keeps.refl _ _).grown h2 (fun k e => .inl e)
  have k23 : Keeps (fun b => vv.ownBlock = some b) w1 w3 := Keeps.trans (k2.mono fun b hf => hf.elim) (k3.mono fun b hb => .inl hb)
  have yb3 := yb1.keeps k23 (fun e => (h.apart y e).2.1 rfl)
  have sp3 := sp1.keeps k23 (fun e => (h.apart s e).2.2 rfl)
  have k4 : Keeps (fun b => b = y) w3 (w3.setCell ⟨y, 6, none⟩ (.slice (some ⟨g2, 0, none⟩) (j + 1) c2)) := Keeps.setCell (S := fun b => b = y) (p := ⟨y, 6, none⟩) (Keeps.refl _ w3) (.inl rfl) _
  have n1 : ∀ b, more T' wr w1 b → b < w1.heap.size ∧ ¬ vv.ownBlock = some b ∧ b ≠ y ∧ b ≠ s := fun b hb => by
    refine ⟨hx.1.lt' b hb, fun e => ?_, fun e => ?_, fun e => ?_⟩
    · rcases hb with hb | ⟨hb, _⟩
      · exact (h.apart b e).1 hb
      · have := (h.row.lt b e).2; omega
    · subst e
      rcases hb with hb | ⟨hb, _⟩
      · exact h.ny hb
      · omega
    · subst e
      rcases hb with hb | ⟨hb, _⟩
      · exact h.ns hb
      · omega
  have hx3 := hx.wrote k23 (fun b hb => ⟨(h.row.lt b hb).1, fun hm => (n1 b hm).2.1 hb⟩)
  have hx4 := hx3.wrote k4 (fun b hb => ⟨hb ▸ h.y0, fun hm => (n1 b hm).2.2.1 hb⟩)
  have ap3 : ∀ g, (Value.slice (some ⟨g2, 0, none⟩) (j + 1) c2).ownBlock = some g → ¬ more T' wr w1 g ∧ g ≠ y ∧ g ≠ s := fun g hg => by
    rcases h5 with e | e
    · rw [e] at hg
      exact ⟨fun hm => (n1 g hm).2.1 hg, (h.apart g hg).2⟩
    · rw [hg] at e
      have e := Option.some.inj e
      simp at e
      exact ⟨fun hm => by have := (n1 g hm).1; omega, by omega, by omega⟩
  refine ⟨yb1.cell 6, g2, c2, w3, hr, yb3.cell 6, yb3.frozen 6, more T' wr w1, hx4, sp3.keeps k4 h.sy, ?_, ?_, ap3, fun hm => (n1 s hm).2.2.2 rfl, fun hm => (n1 y hm).2.2.1 rfl, h.sy, h.s0, h.y0⟩
  · have := yb3.set_ 6 (.slice (some ⟨g2, 0, none⟩) (j + 1) c2)
    simpa using this
  · rw [firstsC_succ, Nat.zero_add]
    exact ownsRow_block h1 fun g hg => k4.block g (h1.lt g hg).2 (ap3 g hg).2.1
theorem XN.cellsA {j : Nat} {wr : World} {vv : Value} {T' : Nat → Prop} (h : XN w T bx f size s y k v mx c j wr vv T') : ∃ A cc, vv = .slice A j cc ∧ ∀ i, i < j → ∃ g, A = some ⟨g, 0, none⟩ ∧ g < wr.heap.size ∧ ¬ T' g ∧ g ≠ y ∧ wr.cell? ⟨g, i, none⟩ = some (.int .u64 (addr (i + 1) 0)) := by
  obtain ⟨A, cc, rfl, hrow⟩ := own_form_any h.row
  refine ⟨A, cc, rfl, fun i hi => ?_⟩
  obtain ⟨g, rfl, hg⟩ := hrow (by omega)
  have ha := h.apart g rfl
  refine ⟨g, rfl, (h.row.lt g rfl).2, ha.1, ha.2.1, hg i _ ?_⟩
  unfold firstsC
  rw [List.getElem?_map, List.getElem?_range hi]
  simp [Nat.add_comm]
end
end Go.Proofs.Ythilkgfbaddjpaa
