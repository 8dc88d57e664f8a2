/-
  Package flat: put; Update of an array.
-/
import Derived.Test.YthilkgfbaddjpaaFAsk
namespace Go.Proofs.Ythilkgfbaddjpaa
open Go Go.RowKit
set_option linter.unusedVariables false
set_option linter.unusedSimpArgs false
set_option maxRecDepth 100000
section
variable {w : World} {S : Nat → Prop} {bm made fail : Nat} {st : Nat → Option RG} {rl : List Nat} {mv rv : Value}
structure PA (w : World) (S : Nat → Prop) (bm made fail : Nat) (st : Nat → Option RG) (rl : List Nat) (rv : Value) (ns : Nat → Nat) (q : Nat) (l : List UInt8) (j : Nat) (wr : World) (S' : Nat → Prop) (st' : Nat → Option RG) (mv' : Value) : Prop where
  km : KM wr S' bm made fail st' rl mv' rv
  keeps : Keeps S w wr
  sub : ∀ b, S' b → S b ∨ w.heap.size ≤ b
  old : ∀ m, (∀ i, i < j → ns i ≠ m) → st' m = st m
  new : ∀ i, i < j → ∀ r, st (ns i) = some r → ∃ r', st' (ns i) = some r' ∧ r'.perm = r.perm ∧ r'.bytes = setAt r.bytes q l ∧ r'.ret = r.ret
theorem PA.start (h : KM w S bm made fail st rl mv rv) (ns : Nat → Nat) (q : Nat) (l : List UInt8) : PA w S bm made fail st rl rv ns q l 0 w S st mv :=
  ⟨h, Keeps.refl _ _, fun b hb => .inl hb, fun m _ => rfl, fun i hi => by omega⟩
theorem PA.step {ns : Nat → Nat} {q j n : Nat} {l : List UInt8} {wr w1 : World} {S' : Nat → Prop} {st' : Nat → Option RG} {mv' : Value} (h : PA w S bm made fail st rl rv ns q l j wr S' st' mv') (hj : j < n) (hinj : ∀ i k, i < n → k < n → ns i = ns k → i = k) {r : RG} (hr : st (ns j) = some r)
    (hp : WritePost wr S' bm made fail st' rl mv' rv (ns j) r (setAt r.bytes q l) w1) : ∃ S2 st2 mv2, PA w S bm made fail st rl rv ns q l (j + 1) w1 S2 st2 mv2 := by
  obtain ⟨g, hk, kk⟩ := hp
  refine ⟨more S' wr w1, _, mv', hk, h.keeps.trans (kk.mono fun b hb => ?_), fun b hb => ?_, fun m hm => ?_, fun i hi r2 hr2 => ?_⟩
  · rcases h.sub b hb with hs | hs
    · exact .inl hs
    · exact .inr ⟨hs, h.km.lt b hb⟩
  · rcases hb with hb | ⟨hb, _⟩
    · exact h.sub b hb
    · exact .inr (by have := h.keeps.size; omega)
  · rw [upd_other _ _ (fun e => hm j (by omega) e.symm)]
    exact h.old m fun i hi => hm i (by omega)
  · by_cases hij : i = j
    · subst hij
      rw [hr] at hr2
      cases hr2
      exact ⟨_, upd_same _ _ _, rfl, rfl, rfl⟩
    · obtain ⟨r', q1, q2⟩ := h.new i (by omega) r2 hr2
      exact ⟨r', by rw [upd_other _ _ (fun e => hij (hinj i j (by omega) hj e))]; exact q1, q2⟩
theorem PA.same {ns : Nat → Nat} {q j n : Nat} {l : List UInt8} {wr : World} {S' : Nat → Prop} {st' : Nat → Option RG} {mv' : Value} (h : PA w S bm made fail st rl rv ns q l j wr S' st' mv') (hj : j < n) (hinj : ∀ i k, i < n → k < n → ns i = ns k → i = k) : st' (ns j) = st (ns j) :=
  h.old _ fun i hi e => by have := hinj i j (by omega) hj e; omega
set_option maxHeartbeats 1000000 in
theorem put_all (h : KM w S bm made fail st rl mv rv) (x : Nat) (k v mx : Int) (V : Value) (hx : Blk w x 77 (mapC bm k v mx V)) (nx : ¬ S x) (g c n : Nat) (ns : Nat → Nat) (hg : g < w.heap.size) (ng : ¬ S g) (hc : ∀ i, i < n → w.cell? ⟨g, i, none⟩ = some (.int .u64 (addr (ns i) 0)))
    (hn : n ≤ 8) (hns : ∀ i, i < n → ns i ≤ 4096) (hinj : ∀ i k, i < n → k < n → ns i = ns k → i = k) (q : Nat) (l : List UInt8) (h1 : 1 ≤ l.length) (hl : l.length ≤ 4096) (hq : q ≤ 4294967295) (hr : ∀ i, i < n → ∃ r, st (ns i) = some r ∧ q + l.length ≤ r.bytes.length) :
    Calls Try.prog 45 #[.pointer (some ⟨x, 0, none⟩), .slice (some ⟨g, 0, none⟩) n c, .int .u64 q, .string (bstr l)] w fun e w' => e = .returned (.int .i64 0) ∧ ∃ S' st' mv', PA w S bm made fail st rl rv ns q l n w' S' st' mv' := by
  have H := Lib.hid h
  have HX := Lib.hid hx
  have NX := Lib.hid nx
  have HG := Lib.hid hg
  have NG := Lib.hid ng
  have HC := Lib.hid hc
  have HN := Lib.hid hn
  have HNS := Lib.hid hns
  have HI := Lib.hid hinj
  have H1 := Lib.hid h1
  have HL := Lib.hid hl
  have HQ := Lib.hid hq
  have HR := Lib.hid hr
  clear h hx nx hg ng hc hn hns hinj h1 hl hq hr
  go_enter Try.func45, Try.ntmps45
  go_wp2_with fail
  go_loopw [17] (fun i wr => ∃ j : Nat, j ≤ n ∧ i = .int .i64 j ∧ wr = w) (fun i _ => n - (intOf i).toNat)
  case atStart => exact ⟨0, by omega, rfl, rfl⟩
  case round =>
    obtain ⟨j, hj, rfl, hwr⟩ := hrel
    obtain rfl : w = wr := hwr.symm
    by_cases hlt : j < n
    · have c0 := HC.out j hlt
      have d0 : w.cell? ⟨x, 0, none⟩ = some (.pointer (some ⟨bm, 0, none⟩)) := HX.out.cell 0
      obtain ⟨r, hr1, hr2⟩ := HR.out j hlt
      have e1 : IntKind.u64.wrap (addr (ns j) 0 + (q : Int)) = addr (ns j) q := by
        have := HNS.out j hlt; have := HQ.out
        rw [wraps_u64 _ (by unfold addr; omega) (by unfold addr; omega)]; unfold addr; omega
      have CS := Lib.hid (size_ok H.out (ns j) q (by have := HNS.out j hlt; omega) HQ.out hr1 (by have := H1.out; omega))
      have HW : Hid (wrap64 ((j : Int) + 1) = (j : Int) + 1) := by unfold Hid wrap64; have := HN.out; omega
      clear hr1 hr2
      go_wp2_with (go_at_call 60; refine CS.out.mono ?_; rintro e w1 ⟨rfl, rfl⟩)
      exact ⟨⟨j + 1, by omega, by rw [HW.out]; go_num, trivial⟩, by rw [HW.out]; simp [intOf]; omega⟩
    · have : j = n := by omega
      subst this
      go_wp2_with fail
      go_loopw [38] (fun i w2 => ∃ (k : Nat) (S' : Nat → Prop) (st' : Nat → Option RG) (mv' : Value), k ≤ j ∧ i = .int .i64 k ∧ PA w S bm made fail st rl rv ns q l k w2 S' st' mv') (fun i _ => j - (intOf i).toNat)
      case atStart => exact ⟨0, S, st, mv, by omega, rfl, PA.start H.out ns q l⟩
      case round =>
        obtain ⟨k, S', st', mv', hk, rfl, hp⟩ := hrel
        have HP := Lib.hid hp
        clear hp
        by_cases hlt2 : k < j
        · have c0 : wr.cell? ⟨g, k, none⟩ = some (.int .u64 (addr (ns k) 0)) := (World.cell?_of_block (HP.out.keeps.block g HG.out NG.out)).trans (HC.out k hlt2)
          have d0 : wr.cell? ⟨x, 0, none⟩ = some (.pointer (some ⟨bm, 0, none⟩)) := (HX.out.keeps HP.out.keeps NX.out).cell 0
          obtain ⟨r, hr1, hr2⟩ := HR.out k hlt2
          have e1 : IntKind.u64.wrap (addr (ns k) 0 + (q : Int)) = addr (ns k) q := by
            have := HNS.out k hlt2; have := HQ.out
            rw [wraps_u64 _ (by unfold addr; omega) (by unfold addr; omega)]; unfold addr; omega
          have CP := Lib.hid (put_ok HP.out.km (ns k) q (by have := HNS.out k hlt2; omega) HQ.out l (by have := HL.out; omega) ((HP.out.same hlt2 HI.out).trans hr1) hr2)
          have HW : Hid (wrap64 ((k : Int) + 1) = (k : Int) + 1) := by unfold Hid wrap64; have := HN.out; omega
          have HR1 := Lib.hid hr1
          have HLT := Lib.hid hlt2
          clear hr1 hr2
          go_wp2_with (go_at_call 61; refine CP.out.mono ?_; rintro e w1 ⟨rfl, hp⟩; obtain ⟨S2, st2, mv2, hp2⟩ := HP.out.step HLT.out HI.out HR1.out hp; have HP2 := Lib.hid hp2; clear hp hp2)
          exact ⟨⟨k + 1, S2, st2, mv2, by omega, by rw [HW.out]; go_num, HP2.out⟩, by rw [HW.out]; simp [intOf]; omega⟩
        · have : k = j := by omega
          subst this
          go_wp2_with fail
          go_ret
          exact ⟨rfl, S', st', mv', HP.out⟩
theorem FS.put {B : Nat} {w0 w' : World} {x : Nat} {cs : Array Value} {ns : Nat → Nat} {q n : Nat} {l : List UInt8} {S' : Nat → Prop} {st' : Nat → Option RG} {mv' : Value} (h : FS B w0 w S bm made fail st rl mv rv x cs) (p : PA w S bm made fail st rl rv ns q l n w' S' st' mv') : FS B w0 w' S' bm made fail st' rl mv' rv x cs :=
  ⟨p.km, h.map.keeps p.keeps h.nx, fun hx => by
    rcases p.sub x hx with hx | hx
    · exact h.nx hx
    · have := h.map.lt; omega, h.below.trans (p.keeps.below h.base h.sz), fun b hb => by
    rcases p.sub b hb with hb | hb
    · exact h.base b hb
    · have := h.sz; omega, Nat.le_trans h.sz p.keeps.size⟩
set_option maxHeartbeats 1000000 in
theorem Update_arr {B : Nat} {w0 : World} {x m : Nat} (v mx : Nat) (h : FS B w0 w S bm made fail st rl mv rv x (mapC bm 2 v mx (sharedV (addr m 0)))) (c : Int) (hv : v ≤ 4096) (hm : mx ≤ 4096) (hm2 : m ≤ 4096) (xs : List UInt8) (h4 : xs.length = 4) (hn : le xs < mx) (l : List UInt8) (hl : l.length = v) (h1 : 1 ≤ v) {r : RG} (hr : st m = some r) (hb : le xs * wide v + v ≤ r.bytes.length) :
    Calls Try.prog 19 #[.pointer (some ⟨x, 0, none⟩), .string (bstr xs), .string (bstr l), .int .i64 0, .int .i64 c] w fun e w' => e = .returned (.int .i64 0) ∧ ∃ S' st' mv', FS B w0 w' S' bm made fail st' rl mv' rv x (mapC bm 2 v mx (sharedV (addr m 0))) ∧
      (∀ i, i ≠ m → st' i = st i) ∧ ∃ r', st' m = some r' ∧ r'.perm = r.perm ∧ r'.bytes = setAt r.bytes (le xs * wide v) l ∧ r'.ret = r.ret := by
  have c3 : w.cell? ⟨x, 3, none⟩ = some (.int .i64 v) := h.map.cell 3
  have c5 : w.cell? ⟨x, 5, none⟩ = some (sharedV (addr m 0)) := h.map.cell 5
  have hle : le xs ≤ 4294967295 := by omega
  have CN := Lib.hid (number_ok xs h4)
  have CG := Lib.hid (gone_no _ _ _ _ _ _ _ h.map)
  have CM := Lib.hid (fun w' (hb : Below w.heap.size w w') => max_any _ _ _ _ _ mx hm (blk_below h.map hb))
  have CO := Lib.hid (fun w' (hb : Below w.heap.size w w') => offset_any _ _ _ _ _ v (le xs) hv hle (blk_below h.map hb))
  have CW := Lib.hid (swritten_any (addr m 0) c w)
  have hw : wide v ≤ 4103 := by unfold wide; omega
  have hq : le xs * wide v ≤ 4096 * 4103 := Nat.mul_le_mul (by omega) hw
  obtain ⟨q, hqq⟩ : ∃ q, le xs * wide v = q := ⟨_, rfl⟩
  rw [hqq] at CO hq hb ⊢
  have g1 : decide ((mx : Int) ≤ (le xs : Int)) = false := by simp; omega
  have g2 : decide (mx ≤ le xs) = false := by simp; omega
  have g5 : (((bstr l).size : Int) != (v : Int)) = false := by rw [bstr_size, hl]; simp
  have mW := mWrittenS
  have HF := Lib.hid h
  have HR := Lib.hid hr
  have HB := Lib.hid hb
  have HQ := Lib.hid hq
  have HL := Lib.hid hl
  have H1 := Lib.hid h1
  have HV := Lib.hid hv
  have HM := Lib.hid hm2
  clear h hm hn h4 hv hw hqq hq hb hr hl h1 hle hm2
  generalize le xs = n at *
  go_enter Try.func19, Try.ntmps19
  go_wp2_with (first
    | (go_at_call 42; refine (CN.out _).mono ?_; rintro e w' ⟨rfl, rfl⟩)
    | (go_at_call 43; refine CG.out.mono ?_; rintro e w' ⟨rfl, rfl⟩)
    | (go_at_call 116; refine CW.out.mono ?_; rintro e w1 ⟨g, rfl, hb, hg, hk⟩; have B1 := Lib.hid hb; have HG := Lib.hid hg; have HK := Lib.hid hk; clear hb hg hk)
    | (go_at_call 44; refine (CM.out _ B1.out).mono ?_; rintro e w' ⟨rfl, rfl⟩)
    | (go_at_call 46; refine (CO.out _ B1.out).mono ?_; rintro e w2 ⟨rfl, hb⟩; have F2 := Lib.hid (HF.out.grow (below_then B1.out hb)); have HK2 := Lib.hid (blk_below HK.out hb); clear hb)
    | (go_at_call 45; go_loud (refine (put_all F2.out.km x _ _ _ _ F2.out.map F2.out.nx g 1 1 (fun _ => m) HK2.out.lt (fun hs => by have := HF.out.km.lt g hs; have := HG.out; omega) (fun i hi => by obtain rfl : i = 0 := (by omega); exact HK2.out.cell 0) (by decide) (fun _ _ => HM.out) (fun i k hi hk _ => by omega) q l (by have := HL.out; have := H1.out; omega) (by have := HL.out; have := HV.out; omega) (by have := HQ.out; omega) (fun i hi => ⟨r, HR.out, by have := HB.out; have := HL.out; omega⟩)).mono ?_); rintro e w3 ⟨rfl, S3, st3, mv3, hp⟩; have HP := Lib.hid hp; clear hp))
  go_ret
  refine ⟨rfl, S3, st3, mv3, F2.out.put HP.out, fun i hi => HP.out.old i fun _ _ e => hi e.symm, ?_⟩
  exact HP.out.new 0 (by decide) r HR.out
end
end Go.Proofs.Ythilkgfbaddjpaa
