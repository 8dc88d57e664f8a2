/-
  The reference's Encode: the same bytes, or the same error.
-/
import Derived.Test.YtkopbjjpghbkoaaDoorILe2
import Derived.Lib.AppendStr
import Derived.Deep.RegionHeld3
import Derived.Deep.LoopGhost
import Derived.Deep.CutRange
import Derived.Deep.DeepCutAuto
namespace Go.Proofs.YtkopbjjpghbkoaaDoor
open Go Go.RowKit
set_option linter.unusedVariables false
def leS (n k : Int) : ByteArray := if k = 2 then bstr [u8 n, u8 (n / 256)] else bstr [u8 n, u8 (n / 256), u8 (n / 65536), u8 (n / 16777216)]
theorem le_any (n k : Int) (hn : 0 ≤ n) (hk : k = 2 ∨ k = 4) (w : World) :
    Calls Tryd.prog 25 #[.int .u64 n, .int .i64 k] w fun e w' => e = .returned (.string (leS n k)) ∧ Below w.heap.size w w' := by
  rcases hk with rfl | rfl
  · exact le_2 n hn w
  · exact le_4 n hn w
theorem step_append_run2 {P : Program} {ops : Array Oper} {o : Oper} {a : Act} {w : World} {K : Act → World → Prop} {Q : Exit → Act → World → Prop} {E : Prop} (hg : o.guard = none) (s x : Operand) (t u : TypeId)
    (hop : o.op = Op.call { callee := Callee.builtin Builtin.append, args := #[s, x], argTypes := #[t, u] }) (v xv v' : Value) (w' : World) (hs : a.eval s = v) (hx : a.eval x = xv) (ty : TypeId) (hty : o.type = ty) (hrun : (Builtin.append_ #[t, u] ty #[v, xv]).run P w = .ok v' w') (hK : K (a.put o.dst v') w') :
    if Region.wanted o (yielded ops a.tmps) = true then Oper.wp P o a w K Q else E := by
  have hw : Region.wanted o (yielded ops a.tmps) = true := by simp [Region.wanted, hg]
  rw [if_pos hw]
  subst hty
  unfold Oper.wp
  simp [execOp, hop, resolve, invoke, builtin, hs, hx, hrun, Result.andThen]
  exact hK
theorem strCells_bstr (l : List UInt8) : Lib.strCells (bstr l) = l.map byteV := by simp [Lib.strCells, bstr, byteV]
theorem new_cells2 (w : World) (ob : Obj) (cs : Array Value) (t : TypeId) (j : Nat) (u : Value) (h : cs.toList[j]? = some u) : ((w.alloc ob).alloc (.cells cs t)).cell? ((⟨w.heap.size + 1, 0, none⟩ : Addr).add j) = some u := by
  have := new_cells (w.alloc ob) cs t j u h
  simpa using this
theorem u8_mod (n : Int) : u8 (n % 18446744073709551616) = u8 n := by unfold u8; congr 2; omega
theorem u8_mod1 (n : Int) : u8 (n % 18446744073709551616 / 256) = u8 (n / 256) := by unfold u8; congr 2; omega
theorem u8_mod2 (n : Int) : u8 (n % 18446744073709551616 / 65536) = u8 (n / 65536) := by unfold u8; congr 2; omega
theorem u8_mod3 (n : Int) : u8 (n % 18446744073709551616 / 16777216) = u8 (n / 16777216) := by unfold u8; congr 2; omega
theorem tail_bytes (f m : Int) : leS (IntKind.u64.wrap f) 2 ++ leS (IntKind.u64.wrap m) 4 = bstr [u8 f, u8 (f / 256), u8 m, u8 (m / 256), u8 (m / 65536), u8 (m / 16777216)] := by
  simp only [IntKind.wrap_u64]
  rw [show leS (f % 18446744073709551616) 2 = bstr [u8 f, u8 (f / 256)] by unfold leS; rw [if_pos rfl, u8_mod, u8_mod1], show leS (m % 18446744073709551616) 4 = bstr [u8 m, u8 (m / 256), u8 (m / 65536), u8 (m / 16777216)] by unfold leS; rw [if_neg (by decide), u8_mod, u8_mod1, u8_mod2, u8_mod3]]
  rfl
theorem ref_row {w5 : World} {B : Nat} {X : Nat → Slot} {k : Nat} {v' : Value} {x : Slot} (he : X k = x) (hx : x.Ok)
    (h : w5.ownsRow B 5 1 v' (k * 8 + 2 + (leS (IntKind.u64.wrap x.f) 2 ++ leS (IntKind.u64.wrap x.m) 4).size) (((encAll X k).map byteV ++ [.int .u8 x.o, .int .u8 (x.d + 16 * x.s)]) ++ Lib.strCells (leS (IntKind.u64.wrap x.f) 2 ++ leS (IntKind.u64.wrap x.m) 4))) :
    w5.ownsRow B 5 1 v' ((k + 1) * 8) ((encAll X (k + 1)).map byteV) := by
  obtain ⟨h1, h2, h3, h4, h5⟩ := hx
  rw [tail_bytes, strCells_bstr, bstr_size] at h
  rw [encAll_succ, he, List.map_append, show (k + 1) * 8 = k * 8 + 2 + 6 by omega]
  have e : x.bytes.map byteV = [.int .u8 x.o, .int .u8 (x.d + 16 * x.s)] ++ [u8 x.f, u8 (x.f / 256), u8 x.m, u8 (x.m / 256), u8 (x.m / 65536), u8 (x.m / 16777216)].map byteV := by
    simp only [Slot.bytes, List.map_cons, List.map_nil, byteV_u8]
    rw [show x.o % 256 = x.o by omega, show (x.s * 16 + x.d) % 256 = x.d + 16 * x.s by omega]
    rfl
  rw [e, ← List.append_assoc]
  exact h
/-- A block of another type stays while a row grows. -/
theorem own_apart {w5 w7 w9 : World} {B : Nat} {v : Value} {n : Nat} {xs : List Value} {g : Nat} {o d s f m : Int} (h : w5.ownsRow B 5 1 v n xs) (hb : Blk w5 g 37 #[.int .i64 o, .int .i64 d, .int .i64 s, .int .i64 f, .int .i64 m]) (k : Below w5.heap.size w5 w7) (hg : w7.grownBy w9 v.ownBlock) (hne : 5 ≠ 37) :
    w9.cell? ⟨g, 3, none⟩ = some (.int .i64 f) ∧ w9.cell? ⟨g, 4, none⟩ = some (.int .i64 m) := by
  have h7 : Blk w7 g 37 #[.int .i64 o, .int .i64 d, .int .i64 s, .int .i64 f, .int .i64 m] := (k.block g hb.lt).trans hb
  have h9 : Blk w9 g 37 #[.int .i64 o, .int .i64 d, .int .i64 s, .int .i64 f, .int .i64 m] := (hg.block g h7.lt (fun e => by
    rcases h.2 with ⟨rfl, _⟩ | ⟨g1, _, cur, rfl, _, h1, _⟩
    · cases e
    · have e1 : g = g1 := by simpa [Value.ownBlock] using e
      subst e1
      exact Blk.ne_ (show Blk w5 g 5 cur from h1) hb hne rfl)).trans h7
  exact ⟨h9.cell 3, h9.cell 4⟩
set_option maxRecDepth 100000 in
set_option maxHeartbeats 1500000 in
theorem rencode_any (A : Option Addr) (n c : Nat) (X : Nat → Slot) (hn : n ≤ 1048576) (w : World) (h : Slots w A n X) :
    Calls Tryd.prog 9 #[.slice A n c] w fun e w' => e = encAns X n ∧ Below w.heap.size w w' := by
  have H := Lib.hid h
  clear h
  obtain ⟨i0, hi, hz0, hz1, hz2⟩ := info_parts info8
  have HI := Lib.hid (And.intro hi (And.intro hz0 (And.intro hz1 hz2))); clear hi hz0 hz1 hz2
  go_enter Tryd.func9, Tryd.ntmps9
  go_wp2_with fail
  go_loopg [4, 5] n (fun g v i wr => ∃ k : Nat, k + g = n ∧ i = .int .i64 k ∧ Below w.heap.size w wr ∧ AllOk X k ∧ wr.ownsRow w.heap.size 5 1 v (k * 8) ((encAll X k).map byteV))
  case atStart => exact ⟨0, by omega, rfl, Below.refl _ _, fun i hi => by omega, World.ownsRow_nil _ _ _ _⟩
  case round =>
    obtain ⟨k, hk, rfl, hb, hok, ho⟩ := hrel
    have hk' : k ≤ n := by omega
    have HK := Lib.hid hk
    have HB := Lib.hid hb
    have HOK := Lib.hid hok
    have HO := Lib.hid ho
    clear hb hok ho hk
    by_cases hkn : k < n
    · obtain ⟨b, off, rfl, hlt, hc⟩ := (H.out.below HB.out) k hkn
      obtain ⟨c0, c1, c2, c3, c4⟩ := hc
      have g1 : decide (k < n) = true := by simpa using hkn
      have i2 : (k : Int) < (n : Int) := by omega
      obtain ⟨x, hx⟩ : ∃ x, X k = x := ⟨_, rfl⟩
      rw [hx] at c0 c1 c2 c3 c4
      have HX := Lib.hid hx
      clear hx hlt
      obtain ⟨o, d, s, f, m⟩ := x
      simp only at c0 c1 c2 c3 c4
      by_cases hfit : Fits o d s f m
      · obtain ⟨⟨a1, a2⟩, ⟨a3, a4⟩, ⟨a5, a6⟩, ⟨a7, a8⟩, ⟨a9, a10⟩⟩ := hfit
        have e1 : wrap64 (16 * s) = 16 * s := by unfold wrap64; omega
        have e2 : wrap64 (d + 16 * s) = d + 16 * s := by unfold wrap64; omega
        have e3 : (d + 16 * s) % 256 = d + 16 * s := by omega
        have e4 : o % 256 = o := by omega
        have HF : Hid (Fits o d s f m) := ⟨⟨a1, a2⟩, ⟨a3, a4⟩, ⟨a5, a6⟩, ⟨a7, a8⟩, ⟨a9, a10⟩⟩
        have q1 : decide (o < 0) = false := by simp; omega
        have q2 : decide (255 < o) = false := by simp; omega
        have q3 : decide (d < 0) = false := by simp; omega
        have q4 : decide (15 < d) = false := by simp; omega
        have q5 : decide (s < 0) = false := by simp; omega
        have q6 : decide (15 < s) = false := by simp; omega
        have q7 : decide (f < -32768) = false := by simp; omega
        have q8 : decide (32767 < f) = false := by simp; omega
        have q9 : decide (m < -2147483648) = false := by simp; omega
        have q10 : decide (2147483647 < m) = false := by simp; omega
        clear a1 a2 a3 a4 a5 a6 a7 a8 a9 a10
        go_upto_region 8 with fail
        go_cut [4] from 7 to 88 (fun s4 wc => wc.ownsRow w.heap.size 5 1 s4 (k * 8 + 2) ((encAll X k).map byteV ++ [.int .u8 o, .int .u8 (d + 16 * s)]) ∧ Blk wc wr.heap.size 37 #[.int .i64 o, .int .i64 d, .int .i64 s, .int .i64 f, .int .i64 m] ∧ Below w.heap.size w wc)
        case first =>
          go_wp2_with (at_builtin; refine wpList_append_own_at _ rfl _ _ 45 rfl w.heap.size 5 i0 (.int .u8 0) 1 1 Tryd.underlying45 HI.out.1 HI.out.2.1 HI.out.2.2.1 HI.out.2.2.2 rfl (by decide) _ _ _ rfl ((HO.out.alloc _).alloc _) ⟨wr.heap.size + 1, 0, none⟩ 2 2 [.int .u8 o, .int .u8 (d + 16 * s)] rfl rfl (new_cells2 wr _ #[.int .u8 o, .int .u8 (d + 16 * s)] 5) (by intro u hu; simp at hu; rcases hu with rfl | rfl <;> rfl) (by unfold maxLen; omega) (by omega) (by have := HB.out.size; simp; omega) ?_; intro v' w5 hown5 hgrow5 _ hat5; have HO5 := Lib.hid hown5; have HG5 := Lib.hid hgrow5; clear hown5 hgrow5 hat5)
          go_meet
          case rel =>
            have hs1 := HB.out.size
            exact ⟨HO5.out, (HG5.out.block wr.heap.size (by simp; omega) (fun e => Nat.lt_irrefl _ (HO.out.lt _ e.symm).2)).trans ((Blk.new wr _ _).alloc _), ((HB.out.alloc hs1 _).alloc (by simp; omega) _).grown HG5.out (by simp; omega) (fun j e => (HO.out.lt j e).1)⟩
        case rest =>
          obtain ⟨ho5, hbk, hb5⟩ := hcut
          clear q1 q2 q3 q4 q5 q6 q7 q8 q9 q10 e1 e2 e3 e4 c0 c1 c2 c3 c4 i2 g1
          have hs5 : wr.heap.size < wc.heap.size := hbk.lt
          have HO5 := Lib.hid ho5
          have HBK := Lib.hid hbk
          have HB5 := Lib.hid hb5
          have S5 : Hid (wc.drew.cell? ⟨wr.heap.size, 3, none⟩ = some (.int .i64 f) ∧ wc.drew.cell? ⟨wr.heap.size, 4, none⟩ = some (.int .i64 m)) := ⟨hbk.cell 3, hbk.cell 4⟩
          have SB : Hid (∀ W : World, Below wc.heap.size wc W → W.cell? ⟨wr.heap.size, 3, none⟩ = some (.int .i64 f) ∧ W.cell? ⟨wr.heap.size, 4, none⟩ = some (.int .i64 m)) := fun W hW => ⟨(hW.cell (p := ⟨wr.heap.size, 3, none⟩) hs5).trans (hbk.cell 3), (hW.cell (p := ⟨wr.heap.size, 4, none⟩) hs5).trans (hbk.cell 4)⟩
          have D5 : Hid (Below wc.heap.size wc wc.drew) := (Below.refl _ wc).drew
          have hz2 : (leS (IntKind.u64.wrap f) 2).size = 2 := by unfold leS; rw [if_pos rfl]; rfl
          have hz4 : (leS (IntKind.u64.wrap m) 4).size = 4 := by unfold leS; rw [if_neg (by decide)]; rfl
          clear ho5 hbk hb5
          go_wp2_with fail
          go_region_held3 (fun W => W.cell? ⟨wr.heap.size, 3, none⟩ = some (.int .i64 f) ∧ W.cell? ⟨wr.heap.size, 4, none⟩ = some (.int .i64 m))
            (first | exact S9.out | exact S7.out | exact S6.out | exact S5.out)
            (first
              | (go_at_call 25; first
                  | (have h6 := D6.out; refine (le_any (IntKind.u64.wrap m) 4 (wrap_u64_nonneg m) (.inr rfl) w6).mono ?_; rintro e w7 ⟨rfl, hb7⟩; have D7 : Hid (Below wc.heap.size wc w7) := h6.trans (hb7.mono h6.size); have S7 := Lib.hid (SB.out w7 D7.out); clear hb7 h6)
                  | (refine (le_any (IntKind.u64.wrap f) 2 (wrap_u64_nonneg f) (.inl rfl) wc.drew).mono ?_; rintro e w6 ⟨rfl, hb6⟩; have D6 : Hid (Below wc.heap.size wc w6) := D5.out.trans (hb6.mono D5.out.size); have S6 := Lib.hid (SB.out w6 D6.out); clear hb6))
              | (have h7 := D7.out
                 obtain ⟨v9, w9, hrun9, ho9, hg9, _⟩ := Lib.run_append_own_string (P := Tryd.prog) (w := w7) w.heap.size 45 9 45 5 i0 Tryd.underlying45 Tryd.underlying9 HI.out.1 HI.out.2.1 HI.out.2.2.1 HI.out.2.2.2 u4 (k * 8 + 2) _ (ownsRow_below HO5.out D7.out) (leS (IntKind.u64.wrap f) 2 ++ leS (IntKind.u64.wrap m) 4) (by rw [tail_bytes, bstr_size]; unfold maxLen; simp; omega) (by rw [tail_bytes, bstr_size]; simp; omega) (by have := HB5.out.size; have := D7.out.size; omega)
                 have HO9 := Lib.hid ho9
                 have HG9 := Lib.hid hg9
                 have HR9 := Lib.hid hrun9
                 have S9 : Hid (w9.cell? ⟨wr.heap.size, 3, none⟩ = some (.int .i64 f) ∧ w9.cell? ⟨wr.heap.size, 4, none⟩ = some (.int .i64 m)) := own_apart HO5.out HBK.out D7.out hg9 (by decide)
                 clear ho9 hg9 hrun9
                 refine step_append_run2 (by rfl) (.tmp 78) (.tmp 87) 45 9 (by rfl) u4 (.string (leS (IntKind.u64.wrap f) 2 ++ leS (IntKind.u64.wrap m) 4)) v9 w9 (by rfl) (by rfl) 45 (by rfl) HR9.out ?_))
          go_wp2_with fail
          go_roundg (gk - 1)
          case measure => have := HK.out; omega
          case rel =>
            have hs5 := HB5.out.size
            refine ⟨k + 1, by have := HK.out; omega, by go_num, ?_, ?_, ?_⟩
            · exact (HB5.out.trans (D7.out.mono hs5)).grown HG9.out (by have := D7.out.size; omega) (fun j e => (HO5.out.lt j e).1)
            · intro i hi
              rcases Nat.lt_or_ge i k with h1 | h1
              · exact HOK.out i h1
              · rw [show i = k by omega, HX.out]; exact HF.out
            · exact ref_row HX.out HF.out HO9.out
      · have HF := Lib.hid hfit
        clear hfit
        have hans : encAns X n = .returned (.tuple #[.string (bstr []), .int .i64 30]) := encAns_bad (fun hall => HF.out (by have := hall k hkn; rw [HX.out] at this; exact this))
        have HA := Lib.hid hans
        clear hans
        have hs1 := HB.out.size
        have HB1 := Lib.hid (HB.out.alloc hs1 (.cells #[.int .i64 o, .int .i64 d, .int .i64 s, .int .i64 f, .int .i64 m] 37))
        go_wp2_with fail
        all_goals first
          | (go_ret2; exact ⟨HA.out.symm, HB1.out⟩)
          | (exfalso; exact HF.out ⟨⟨by omega, by omega⟩, ⟨by omega, by omega⟩, ⟨by omega, by omega⟩, ⟨by omega, by omega⟩, ⟨by omega, by omega⟩⟩)
    · have : k = n := by omega
      subst this
      have g1 : decide (k < k) = false := by simp
      have ho := HO.out
      rw [← encAll_length X k] at ho
      have hcv := own_str ho
      clear ho
      go_wp2_with fail
      go_ret2
      exact ⟨(encAns_ok HOK.out).symm, HB.out⟩
end Go.Proofs.YtkopbjjpghbkoaaDoor
