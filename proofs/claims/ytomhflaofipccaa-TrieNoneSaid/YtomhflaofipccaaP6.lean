/-
  The laws' common end: the chapter's examples come out as they should ('awake' returns true and leaves old memory alone). What the walks of the laws of kmem share: a row of bytes as a text; a row that the call itself made. slices.IndexFunc, slices.DeleteFunc with Free's function: one number is taken out of a row. Retire: the region lives on until the next Grace. The library's sort of a row that rises already and has fewer than 50 elements: it stays as it is. Grace, where the numbers of the retired regions rise already and are fewer than fifty: these regions are gone. Grace, whatever was retired. Free of a region that was retired. slices.Sort of a row that is owned; slices.Sorted of the memory's numbers.
-/
import Derived.Test.YtomhflaofipccaaP3
import Derived.Test.YtomhflaofipccaaP4
import Derived.Test.YtomhflaofipccaaSortPdq
import Derived.Test.YtomhflaofipccaaSortPiv
import Derived.Lib.SliceRun
import Derived.BigFrame
import Derived.Outline
namespace Go.Proofs.Ytomhflaofipccaa
open Go Go.RowKit Go.Maps
set_option linter.unusedVariables false

theorem addr_1_0 : addr 1 0 = 4294967296 := rfl
theorem addr_1_4 : addr 1 4 = 4294967300 := rfl
theorem addr_1_5 : addr 1 5 = 4294967301 := rfl
theorem addr_0_0 : addr 0 0 = 0 := rfl
end Go.Proofs.Ytomhflaofipccaa
namespace Go.Proofs.Ytomhflaofipccaa
open Go Go.RowKit Go.Maps
set_option linter.unusedVariables false
theorem conv_blk {w : World} {g cap : Nat} {ys : List UInt8} (h : Blk w g 5 (ys.map byteV).toArray) :
    (convert 42 9 (.slice (some ⟨g, 0, none⟩) ys.length cap)).run Try.prog w = .ok (.string (bstr ys)) w := by
  have := Lib.run_convert_whole (P := Try.prog) w 42 5 9 Try.underlying42 Try.underlying5 Try.underlying9 g 0 (bstr ys) (fun i hi => by
    have hi' : i < ys.length := by rw [← bstr_size]; exact hi
    have := h.cell (0 + i)
    rw [List.getElem?_toArray, List.getElem?_map, Nat.zero_add, List.getElem?_eq_getElem hi'] at this
    rw [Nat.zero_add]
    exact this) cap
  rw [bstr_size] at this
  exact this
theorem own_form {w : World} {base : Nat} {e : TypeId} {v : Value} {n : Nat} {xs : List Value} (h : w.ownsRow base e 1 v n xs) :
    ∃ A c, v = .slice A n c ∧ (0 < n → ∃ g, A = some ⟨g, 0, none⟩ ∧ ∀ j u, xs[j]? = some u → w.cell? ⟨g, j, none⟩ = some u) := by
  have hl := h.1
  rcases h.2 with ⟨rfl, rfl⟩ | ⟨g, cap, cur, rfl, hb, hg, h1, h2, h3, h4⟩
  · exact ⟨none, 0, rfl, fun h => by omega⟩
  · refine ⟨_, cap, rfl, fun _ => ⟨g, rfl, fun j u hu => ?_⟩⟩
    have := h.cells (g := g) rfl j u hu
    rwa [show (⟨g, 0, none⟩ : Addr).add j = ⟨g, j, none⟩ by unfold Addr.add; split <;> simp_all] at this
theorem addr_ne {m n : Nat} (h : m ≠ n) : (addr m 0 == addr n 0) = false := by simp [addr]; omega
theorem alloc_int {w : World} {S : Nat → Prop} {bm made fail : Nat} {st : Nat → Option RG} {rl : List Nat} {mv rv : Value} (h : KM w S bm made fail st rl mv rv) (hf : fail ≠ 1) (hmade : made < 4095) (size : Int) (perm : Nat) (h1 : 1 ≤ size) (h2 : size ≤ 1048576) (h3 : 1 ≤ perm) (h4 : perm ≤ 3) :
    Calls Try.prog 35 #[.pointer (some ⟨bm, 0, none⟩), .int .i64 size, .int .i64 perm] w fun e w' => e = .returned (.tuple #[.int .u64 (addr (made + 1) 0), .int .i64 0]) ∧ AllocPost w S bm made fail st rl rv size.toNat perm w' := by
  obtain ⟨k, rfl⟩ := Int.eq_ofNat_of_zero_le (show 0 ≤ size by omega)
  exact alloc_ok h hf hmade k perm (by omega) (by omega) h3 h4
end Go.Proofs.Ytomhflaofipccaa
namespace Go.Proofs.Ytomhflaofipccaa
open Go Go.RowKit Go.Maps
set_option linter.unusedVariables false

theorem free1_any (y x s : Nat) (w : World) (hc : w.cell? ⟨s, 0, none⟩ = some (.int .u32 (x : Int))) :
    Calls Try.prog 50 #[.int .u32 (y : Int), .pointer (some ⟨s, 0, none⟩)] w fun e w' => e = .returned (.bool (decide (y = x))) ∧ w = w' := by
  by_cases h : y = x
  · have h1 : ((y : Int) == (x : Int)) = true := by simp; omega
    have HE := Lib.hid (decide_eq_true h)
    clear h
    go_enter Try.func50, Try.ntmps50
    go_wp2
    go_ret
    exact ⟨by rw [HE.out]; rfl, rfl⟩
  · have h1 : ((y : Int) == (x : Int)) = false := by simp; omega
    have HE := Lib.hid (decide_eq_false h)
    clear h
    go_enter Try.func50, Try.ntmps50
    go_wp2
    go_ret
    exact ⟨by rw [HE.out]; rfl, rfl⟩
theorem zero_u32 (w : World) : (zeroValue 53).run Try.prog w = .ok (.int .u32 0) w := by kernel_rfl
theorem clear_one (w : World) (g o m c : Nat) (hm : m = 1) (u : Value) (hc : w.cell? ⟨g, o, none⟩ = some u) (hf : w.frozen? ⟨g, o, none⟩ = false) (ty : TypeId) :
    (Builtin.clear_ #[54] ty #[.slice (some ⟨g, o, none⟩) m c]).run Try.prog w = .ok (.tuple #[]) (w.setCell ⟨g, o, none⟩ (.int .u32 0)) := by
  subst hm
  refine Lib.run_clear_slice w 54 53 ty (.int .u32 0) Try.underlying54 zero_u32 rfl rfl g o 1 c (by omega) (fun j hj => ?_) (fun j hj => ?_)
  · obtain rfl : j = 0 := by omega
    rw [Nat.add_zero, hc]; rfl
  · obtain rfl : j = 0 := by omega
    exact hf
theorem setB_same (d : Array Nat) (i x : Nat) (hi : i < d.size) : (d.setIfInBounds i x)[i]! = x := by simp [hi]
theorem setB_other (d : Array Nat) (i t x : Nat) (h : t ≠ i) : (d.setIfInBounds i x)[t]! = d[t]! := by
  by_cases ht : t < d.size
  · have ht' : t < (d.setIfInBounds i x).size := by simpa using ht
    rw [getElem!_pos (d.setIfInBounds i x) t ht', getElem!_pos d t ht, Array.getElem_setIfInBounds_ne _ (Ne.symm h)]
  · have ht' : ¬ t < (d.setIfInBounds i x).size := by simpa using ht
    rw [getElem!_neg (d.setIfInBounds i x) t ht', getElem!_neg d t ht]
section
variable {w0 w : World} {g s x : Nat} {sp : List Value} {d : Array Nat}
theorem SRow.aside (h : SRow w0 w g sp d) (hs : Blk w0 s 53 #[.int .u32 (x : Int)]) (hsg : s ≠ g) : w.cell? ⟨s, 0, none⟩ = some (.int .u32 (x : Int)) :=
  (hs.keeps h.keep hsg).cell 0
set_option maxRecDepth 100000 in
theorem indexFunc_any (idx cap : Nat) (hsg : s ≠ g) (hs : Blk w0 s 53 #[.int .u32 (x : Int)]) (hidx : idx < d.size) (hat : d[idx]! = x) (hbef : ∀ j, j < idx → d[j]! ≠ x) (hcap : d.size ≤ cap) (hc : d.size ≤ 1048576) (h : SRow w0 w g sp d) :
    Calls Try.prog 57 #[.slice (some ⟨g, 0, none⟩) d.size cap, .func (.func 50) #[] #[.pointer (some ⟨s, 0, none⟩)]] w fun e w' => e = .returned (.int .i64 (idx : Int)) ∧ w = w' := by
  have CL := Lib.hid (fun y => free1_any y x s w (h.aside hs hsg))
  have HC := Lib.hid (fun (i : Nat) (hi : i < d.size) => h.cell hi)
  have HB := Lib.hid hbef
  have HA := Lib.hid hat
  clear h hbef hat hs
  obtain ⟨n, hn⟩ : ∃ n, n = d.size := ⟨_, rfl⟩
  rw [← hn] at hidx hcap hc HC ⊢
  clear hn
  go_enter Try.func57, Try.ntmps57
  go_wp2
  go_loop [8] (fun i => ∃ k : Nat, k ≤ idx ∧ i = .int .i64 k) (fun i => idx + 1 - (intOf i).toNat)
  case atStart => exact ⟨0, by omega, rfl⟩
  case round =>
    obtain ⟨k, hk, rfl⟩ := hrel
    have ck := HC.out k (by omega)
    have i1 : (k : Int) < (n : Int) := by omega
    have g1 : decide (k < n) = true := by simp; omega
    by_cases hki : k = idx
    · subst hki
      have cc := CL.out x
      rw [HA.out] at ck
      have he : decide (x = x) = true := by simp
      rw [he] at cc
      have CC := Lib.hid cc; clear cc
      go_wp2_with (go_at_call 50; refine CC.out.mono ?_; rintro e w' ⟨rfl, rfl⟩)
      go_ret
      exact ⟨rfl, rfl⟩
    · have hne := HB.out k (by omega)
      obtain ⟨y, hy⟩ : ∃ y, d[k]! = y := ⟨_, rfl⟩
      rw [hy] at ck hne
      clear hy
      have cc := CL.out y
      rw [decide_eq_false hne] at cc
      have CC := Lib.hid cc; clear cc
      go_wp2_with (go_at_call 50; refine CC.out.mono ?_; rintro e w' ⟨rfl, rfl⟩)
      go_round
      case rel => exact ⟨k + 1, by omega, by go_num⟩
      case measure => simp [intOf]; omega
/-- The places from idx on moved one down, as far as j. -/
def Moved (d dk : Array Nat) (idx j : Nat) : Prop := dk.size = d.size ∧ ∀ t, t < d.size → dk[t]! = if t < idx then d[t]! else if t + 1 < j then d[t + 1]! else d[t]!
def DelPost (w0 : World) (g : Nat) (d : Array Nat) (idx cap : Nat) (e : Ending) (w' : World) : Prop :=
  e = .returned (.slice (some ⟨g, 0, none⟩) (d.size - 1) cap) ∧ ∃ (dk : Array Nat) (sp : List Value), Moved d dk idx d.size ∧ Keeps (fun b => b = g) w0 w' ∧ Blk w' g 53 (((dk.toList.take (d.size - 1)).map encU) ++ sp).toArray ∧ sp.length = cap - (d.size - 1)
end
set_option maxRecDepth 100000 in
set_option maxHeartbeats 2000000 in
theorem deleteFunc_any (w0 w : World) (g s x : Nat) (sp : List Value) (d : Array Nat) (idx cap : Nat) (hsg : s ≠ g) (hs : Blk w0 s 53 #[.int .u32 (x : Int)]) (hidx : idx < d.size) (hat : d[idx]! = x) (hone : ∀ j, j < d.size → j ≠ idx → d[j]! ≠ x) (hcap : d.size ≤ cap) (hsp : sp.length = cap - d.size) (hc : d.size ≤ 1048576) (h : SRow w0 w g sp d) :
    Calls Try.prog 49 #[.slice (some ⟨g, 0, none⟩) d.size cap, .func (.func 50) #[] #[.pointer (some ⟨s, 0, none⟩)]] w (DelPost w0 g d idx cap) := by
  have CI := Lib.hid (indexFunc_any idx cap hsg hs hidx hat (fun j hj => hone j (by omega) (by omega)) hcap hc h)
  have HON := Lib.hid hone
  have HS := Lib.hid hs
  have H0 := Lib.hid h
  obtain ⟨n, hn⟩ : ∃ n, n = d.size := ⟨_, rfl⟩
  have HSP := Lib.hid hsp
  unfold DelPost
  rw [← hn] at hidx hcap hc CI HON HSP ⊢
  have HN := Lib.hid hn
  clear hn h hs hone hat hsp
  have g0 : ((idx : Int) == -1) = false := by simp
  go_enter Try.func49, Try.ntmps49
  go_wp2_with (go_at_call 57; refine CI.out.mono ?_; rintro e w' ⟨rfl, rfl⟩)
  go_loopw [5, 6] (fun i j wr => ∃ (k : Nat) (dk : Array Nat), idx + 1 ≤ k ∧ k ≤ n ∧ i = .int .i64 ((k : Int) - 1) ∧ j = .int .i64 k ∧ SRow w0 wr g sp dk ∧ Moved d dk idx k) (fun _ j _ => n - (intOf j).toNat)
  case atStart => exact ⟨idx + 1, d, by omega, by omega, by first | (congr 1; omega) | congr 1, by go_num, H0.out, rfl, fun t ht => by split; rfl; split; omega; rfl⟩
  case round =>
    clear H0 CI
    obtain ⟨k, dk, hk1, hk2, rfl, rfl, hr, hmv⟩ := hrel
    have HR := Lib.hid hr; clear hr
    have HM := Lib.hid hmv; clear hmv
    have hz : dk.size = n := HM.out.1.trans HN.out.symm
    have HZ := Lib.hid hz; clear hz
    by_cases hkn : k < n
    · have hkd : k < dk.size := by rw [HZ.out]; exact hkn
      have hkd1 : k - 1 < dk.size := by omega
      have ck := HR.out.cell hkd
      have ck1 := HR.out.cell hkd1
      have fk1 := HR.out.frozen (k - 1)
      have hne : dk[k]! ≠ x := by
        rw [HM.out.2 k (by rw [← HN.out]; exact hkn), if_neg (by omega), if_neg (by omega)]
        exact HON.out k hkn (by omega)
      have hset := HR.out.set_ hkd1 dk[k]!
      have hmoved : Moved d (dk.setIfInBounds (k - 1) dk[k]!) idx (k + 1) := by
        refine ⟨by rw [Array.size_setIfInBounds]; exact HM.out.1, fun t ht => ?_⟩
        by_cases e : t = k - 1
        · subst e
          rw [setB_same _ _ _ hkd1, HM.out.2 k (by rw [← HN.out]; exact hkn), if_neg (by omega), if_neg (by omega), if_neg (by omega), if_pos (by omega), show k - 1 + 1 = k by omega]
        · rw [setB_other _ _ _ _ e, HM.out.2 t ht]
          by_cases h1 : t < idx
          · rw [if_pos h1, if_pos h1]
          · rw [if_neg h1, if_neg h1]
            by_cases h2 : t + 1 < k
            · rw [if_pos h2, if_pos (by omega)]
            · rw [if_neg h2]
              by_cases h3 : t + 1 < k + 1
              · omega
              · rw [if_neg h3]
      obtain ⟨y, hy⟩ : ∃ y, dk[k]! = y := ⟨_, rfl⟩
      rw [hy] at ck hne hset hmoved
      clear hy
      have HSET := Lib.hid hset
      have HMV := Lib.hid hmoved
      have cc := free1_any y x s wr (HR.out.aside HS.out hsg)
      rw [decide_eq_false hne] at cc
      have CC := Lib.hid cc
      clear cc hset hmoved
      have i1 : (k : Int) < (n : Int) := by omega
      have g1 : decide (k < n) = true := by simp; omega
      have i2 : (0 : Int) ≤ (k : Int) - 1 := by omega
      have i3 : (k : Int) - 1 < (n : Int) := by omega
      have e2 : ((k : Int) - 1).toNat = k - 1 := by omega
      go_wp2_with (go_at_call 50; refine CC.out.mono ?_; rintro e w' ⟨rfl, rfl⟩)
      go_roundw
      case rel => exact ⟨k + 1, _, by omega, by omega, by first | (congr 1; omega) | congr 1, by go_num, HSET.out, HMV.out⟩
      case measure => simp [intOf]; omega
    · have hkn' : k = n := by omega
      subst hkn'
      have hl : k - 1 < dk.size := by rw [HZ.out]; omega
      have c1 := HR.out.cell hl
      have f1 := HR.out.frozen (k - 1)
      have hcl := clear_one wr g (k - 1) (k - (k - 1)) (cap - (k - 1)) (by omega) _ c1 f1
      have HEND := Lib.hid (show Keeps (fun b => b = g) w0 (wr.setCell ⟨g, k - 1, none⟩ (.int .u32 0)) ∧ Blk (wr.setCell ⟨g, k - 1, none⟩ (.int .u32 0)) g 53 (((dk.toList.take (k - 1)).map encU) ++ (.int .u32 0 :: sp)).toArray ∧ (Value.int .u32 0 :: sp).length = cap - (k - 1) from by
        have hs2 := HR.out.set_ hl 0
        refine ⟨hs2.keep, ?_, by simp [HSP.out]; omega⟩
        have hb := hs2.row
        have e : ((dk.setIfInBounds (k - 1) 0).toList.map encU ++ sp) = ((dk.toList.take (k - 1)).map encU) ++ (.int .u32 0 :: sp) := by
          have hlen : dk.toList.length = k := by rw [Array.length_toList]; exact HZ.out
          rw [Array.toList_setIfInBounds, List.set_eq_take_append_cons_drop, if_pos (by omega), List.drop_of_length_le (by omega)]
          simp [encU]
        rw [e] at hb
        exact hb)
      have g1 : decide (k < k) = false := by simp
      have i2 : (0 : Int) ≤ (k : Int) - 1 := by omega
      have i3 : (k : Int) - 1 ≤ (k : Int) := by omega
      have e2 : ((k : Int) - 1).toNat = k - 1 := by omega
      clear c1 f1
      have HM2 := HM
      go_wp2_with (simp only [hcl])
      go_ret
      exact ⟨rfl, dk, _, HM2.out, HEND.out⟩
end Go.Proofs.Ytomhflaofipccaa
namespace Go.Proofs.Ytomhflaofipccaa
open Go Go.RowKit Go.Maps
set_option linter.unusedVariables false
section
variable {w w1 w' : World} {S : Nat → Prop} {bm made fail : Nat} {st : Nat → Option RG} {rl : List Nat} {mv rv : Value}
theorem KM.retBlk (h : KM w S bm made fail st rl mv rv) {g : Nat} (hg : rv.ownBlock = some g) : ∃ cur, Blk w g 53 cur := by
  rcases h.ret.2 with ⟨hn, _⟩ | ⟨g', cap, cur, hv, _, hgg, _⟩
  · rw [hn] at hg; cases hg
  · have : g' = g := by rw [hv] at hg; simpa [Value.ownBlock] using hg
    subst this
    exact ⟨cur, hgg⟩
theorem KM.notMap (h : KM w S bm made fail st rl mv rv) {b x : Nat} {t : TypeId} {cs : Array Value} (e : mv = .map (some b)) (hx : Blk w x t cs) : x ≠ b := by
  rintro rfl
  obtain ⟨_, D', ho, _⟩ := h.own e
  obtain ⟨es, clock, h2, _⟩ := ho
  unfold Blk at hx; rw [hx] at h2; cases h2
theorem KM.retire (h : KM w S bm made fail st rl mv rv) {n : Nat} {r : RG} {v' : Value} (hs : st n = some r) (hret : r.ret = false) (k : Keeps (fun b => b = bm ∨ b = r.blk ∨ rv.ownBlock = some b) w w')
    (hm : Blk w' bm 56 #[mv, .int .u32 made, v', .int .i64 fail]) (hr : Blk w' r.blk 95 #[.int .i64 r.bytes.length, .int .i64 r.perm, r.sl, .bool true])
    (ho : w'.ownsRow 0 53 1 v' (rl.length + 1) ((rl.map fun n : Nat => Value.int .u32 (n : Int)) ++ [.int .u32 (n : Int)])) (hat : ∀ g, v'.ownBlock = some g → rv.ownBlock = some g ∨ (w.heap.size ≤ g ∧ g < w'.heap.size)) :
    KM w' (more S w w') bm made fail (upd st n (some { r with ret := true })) (rl ++ [n]) mv v' ∧ Keeps S w w' := by
  have hnrl : n ∉ rl := by
    rw [h.retM]; rintro ⟨r', e1, e2⟩
    rw [hs] at e1; cases e1; rw [hret] at e2; cases e2
  have hR := h.regs n r hs
  have rowok : ∀ m q, st m = some q → ∀ g, q.row = some g → ¬ (g = bm ∨ g = r.blk ∨ rv.ownBlock = some g) := by
    rintro m q hq g hg (e | e | e)
    · exact Blk.ne_ ((h.regs m q hq).rows g hg) h.mem (by decide) e
    · exact Blk.ne_ ((h.regs m q hq).rows g hg) hR.head (by decide) e
    · obtain ⟨cur, hc⟩ := h.retBlk e
      exact Blk.ne_ ((h.regs m q hq).rows g hg) hc (by decide) rfl
  refine ⟨⟨hm, ?_, ?_, ?_, ?_, ?_, by simpa using ho, ?_, ?_, .inl h.sbm, ?_, ?_, ?_, h.made_le, h.fail_le⟩, k.mono ?_⟩
  · rcases h.map with ⟨e, h1⟩ | ⟨b, D, e, hb', ho', hm'⟩
    · rw [h1 n] at hs; cases hs
    · refine .inr ⟨b, D, e, .inl hb', ownsMap_block ho' (k.block b (h.lt b hb') ?_), KM.isMap_upd (b := 0) hm' hs rfl⟩
      rintro (e' | e' | e')
      · exact h.notMap e h.mem e'.symm
      · exact h.notMap e hR.head e'.symm
      · obtain ⟨cur, hc⟩ := h.retBlk e'; exact h.notMap e hc rfl
  · intro m q hq
    by_cases hmn : m = n
    · subst hmn; exact h.range m r hs
    · rw [upd_other _ _ hmn] at hq; exact h.range m q hq
  · intro m q hq
    by_cases hmn : m = n
    · subst hmn; rw [upd_same] at hq; cases hq
      exact ⟨hr, fun g hg => (hR.rows g hg).keeps k (rowok _ r hs g hg), hR.zero, hR.pos, hR.le, hR.p1, hR.p3⟩
    · rw [upd_other _ _ hmn] at hq
      refine (h.regs m q hq).keeps k ?_ (fun g hg => rowok m q hq g hg)
      rintro (e | e | e)
      · exact Blk.ne_ (h.regs m q hq).head h.mem (by decide) e
      · exact hmn (h.inj m n q r hq hs e)
      · obtain ⟨cur, hc⟩ := h.retBlk e
        exact Blk.ne_ (h.regs m q hq).head hc (by decide) rfl
  · intro m m' q q' hq hq' e
    by_cases hmn : m = n <;> by_cases hmn' : m' = n
    · omega
    · subst hmn; rw [upd_same] at hq; rw [upd_other _ _ hmn'] at hq'; cases hq; exact h.inj _ _ r q' hs hq' e
    · subst hmn'; rw [upd_same] at hq'; rw [upd_other _ _ hmn] at hq; cases hq'; exact h.inj _ _ q r hq hs e
    · rw [upd_other _ _ hmn] at hq; rw [upd_other _ _ hmn'] at hq'; exact h.inj _ _ q q' hq hq' e
  · intro m m' q q' g hq hq' e e'
    by_cases hmn : m = n <;> by_cases hmn' : m' = n
    · omega
    · subst hmn; rw [upd_same] at hq; rw [upd_other _ _ hmn'] at hq'; cases hq; exact h.injr _ _ r q' g hs hq' e e'
    · subst hmn'; rw [upd_same] at hq'; rw [upd_other _ _ hmn] at hq; cases hq'; exact h.injr _ _ q r g hq hs e e'
    · rw [upd_other _ _ hmn] at hq; rw [upd_other _ _ hmn'] at hq'; exact h.injr _ _ q q' g hq hq' e e'
  · intro m
    by_cases hmn : m = n
    · subst hmn; rw [upd_same]; simp
    · rw [upd_other _ _ hmn, List.mem_append, h.retM]; simp [hmn]
  · rw [List.nodup_append]
    exact ⟨h.retN, by simp, fun p hp q hq => by simp at hq; subst hq; rintro rfl; exact hnrl hp⟩
  · intro m q hq
    by_cases hmn : m = n
    · subst hmn; rw [upd_same] at hq; cases hq
      exact ⟨.inl (h.sreg _ r hs).1, fun g hg => .inl ((h.sreg _ r hs).2 g hg)⟩
    · rw [upd_other _ _ hmn] at hq
      exact ⟨.inl (h.sreg m q hq).1, fun g hg => .inl ((h.sreg m q hq).2 g hg)⟩
  · intro g hg
    rcases hat g hg with e | e
    · exact .inl (h.srv g e)
    · exact .inr e
  · rintro x (h2 | h2)
    · exact Nat.lt_of_lt_of_le (h.lt x h2) k.size
    · exact h2.2
  · rintro b (e | e | e)
    · subst e; exact h.sbm
    · subst e; exact (h.sreg n r hs).1
    · exact h.srv b e
theorem nodup_le : ∀ (m : Nat) (l : List Nat), l.Nodup → (∀ x ∈ l, 1 ≤ x ∧ x ≤ m) → l.length ≤ m
  | 0, l, _, h => by
    rcases l with _ | ⟨x, r⟩
    · exact Nat.le_refl _
    · have := h x (by simp); omega
  | m + 1, l, hn, h => by
    have h1 := nodup_le m (l.erase (m + 1)) (hn.erase _) (fun x hx => by
      have := h x (List.mem_of_mem_erase hx)
      have hne : x ≠ m + 1 := fun e => by subst e; exact (hn.mem_erase_iff.1 hx).1 rfl
      omega)
    rw [List.length_erase] at h1
    split at h1 <;> omega
theorem KM.retLen (h : KM w S bm made fail st rl mv rv) : rl.length ≤ made :=
  nodup_le made rl h.retN (fun x hx => by obtain ⟨r, hr, _⟩ := (h.retM x).1 hx; exact h.range x r hr)
set_option maxRecDepth 100000 in
set_option maxHeartbeats 1000000 in
theorem retire_ok (h : KM w S bm made fail st rl mv rv) (n : Nat) {r : RG} (hs : st n = some r) (hret : r.ret = false) :
    Calls Try.prog 26 #[.pointer (some ⟨bm, 0, none⟩), .int .u64 (addr n 0)] w fun e w' => e = .returned (.int .i64 0) ∧ ∃ v', KM w' (more S w w') bm made fail (upd st n (some { r with ret := true })) (rl ++ [n]) mv v' ∧ Keeps S w w' := by
  obtain ⟨h0, hm⟩ := h.range n r hs
  have hle := h.made_le
  have hn : n ≤ 4294967295 := by omega
  have hrl := h.retLen
  obtain ⟨i0, hi, hz0, hz1, hz2⟩ := info_parts info32
  have c := beginsAt_at h n hn
  rw [hs] at c
  change Calls _ _ _ _ (fun e w' => e = Ending.returned (Value.pointer (some ⟨r.blk, 0, none⟩)) ∧ w = w') at c
  have cs := split_any n 0 hn (by omega) w
  have d3 : w.cell? ⟨r.blk, 3, none⟩ = some (.bool r.ret) := (h.regs n r hs).head.cell 3
  rw [hret] at d3
  have f3 := (h.regs n r hs).head.frozen 3
  have hrbl := (h.regs n r hs).head.lt
  have hbl := h.mem.lt
  have hrb : r.blk ≠ bm := Blk.ne_ (h.regs n r hs).head h.mem (by decide)
  have c2 : w.cell? ⟨bm, 2, none⟩ = some rv := h.mem.cell 2
  -- what the writes leave
  have R1 : Blk (w.setCell ⟨r.blk, 3, none⟩ (.bool true)) r.blk 95 #[.int .i64 r.bytes.length, .int .i64 r.perm, r.sl, .bool true] := by
    have := (h.regs n r hs).head.set_ 3 (.bool true); simpa using this
  have M1 : Blk (w.setCell ⟨r.blk, 3, none⟩ (.bool true)) bm 56 #[mv, .int .u32 made, rv, .int .i64 fail] := h.mem.far (p := ⟨r.blk, 3, none⟩) (Ne.symm hrb) _
  have O1 : (w.setCell ⟨r.blk, 3, none⟩ (.bool true)).ownsRow 0 53 1 rv rl.length (rl.map fun n : Nat => Value.int .u32 (n : Int)) := ownsRow_block h.ret (fun g hg => Below.heap_setCell w _ _ g (by
    obtain ⟨cur, hc⟩ := h.retBlk hg
    exact Blk.ne_ hc (h.regs n r hs).head (by decide)))
  have K1 : Keeps (fun b => b = bm ∨ b = r.blk ∨ rv.ownBlock = some b) w (w.setCell ⟨r.blk, 3, none⟩ (.bool true)) := Keeps.setCell (S := fun b => b = bm ∨ b = r.blk ∨ rv.ownBlock = some b) (p := ⟨r.blk, 3, none⟩) (Keeps.refl _ w) (.inl (.inr (.inl rfl))) _
  have hz : (w.setCell ⟨r.blk, 3, none⟩ (.bool true)).heap.size = w.heap.size := by simp [World.setCell]
  have hrt : ∀ x y, rv.ownBlock = some x → Blk w x 53 y → True := fun _ _ _ _ => trivial
  have END : Hid (∀ (w4 : World) (v' : Value), w4.ownsRow 0 53 1 v' (rl.length + 1) ((rl.map fun n : Nat => Value.int .u32 (n : Int)) ++ [.int .u32 (n : Int)]) → ((w.setCell ⟨r.blk, 3, none⟩ (.bool true)).alloc (.cells #[.int .u32 (n : Int)] 53)).grownBy w4 rv.ownBlock →
      (v'.ownBlock = rv.ownBlock ∨ v'.ownBlock = some ((w.setCell ⟨r.blk, 3, none⟩ (.bool true)).alloc (.cells #[.int .u32 (n : Int)] 53)).heap.size) →
      (w4.cell? ⟨bm, 2, none⟩ = some rv ∧ w4.frozen? ⟨bm, 2, none⟩ = false) ∧ KM (w4.setCell ⟨bm, 2, none⟩ v') (more S w (w4.setCell ⟨bm, 2, none⟩ v')) bm made fail (upd st n (some { r with ret := true })) (rl ++ [n]) mv v' ∧ Keeps S w (w4.setCell ⟨bm, 2, none⟩ v')) := by
    intro w4 v' ho hg hat
    have nb : ∀ x t cs, t ≠ 53 → Blk w x t cs → some x ≠ rv.ownBlock := by
      intro x t cs ht hx e
      obtain ⟨cur, hc⟩ := h.retBlk e.symm
      exact Blk.ne_ hx hc ht rfl
    have M4 : Blk w4 bm 56 #[mv, .int .u32 made, rv, .int .i64 fail] := (hg.block bm (by simp; omega) (nb bm _ _ (by decide) h.mem)).trans (M1.alloc _)
    have R4 : Blk w4 r.blk 95 #[.int .i64 r.bytes.length, .int .i64 r.perm, r.sl, .bool true] := (hg.block r.blk (by simp; omega) (nb r.blk _ _ (by decide) (h.regs n r hs).head)).trans (R1.alloc _)
    have K4 : Keeps (fun b => b = bm ∨ b = r.blk ∨ rv.ownBlock = some b) w w4 := (K1.alloc _).grown hg (fun k e => .inl (.inr (.inr e)))
    have hlt4 : ∀ g, v'.ownBlock = some g → g < w4.heap.size := fun g hg' => (ho.lt g hg').2
    have nbm : ∀ g, v'.ownBlock = some g → g ≠ bm := by
      rintro g hg' rfl
      rcases ho.2 with ⟨e, _⟩ | ⟨g', cap, cur, e, _, hb', _⟩
      · rw [e] at hg'; cases hg'
      · have : g' = g := by rw [e] at hg'; simpa [Value.ownBlock] using hg'
        subst this
        exact Blk.ne_ (t := 53) (cs := cur) hb' M4 (by decide) rfl
    have K5 : Keeps (fun b => b = bm ∨ b = r.blk ∨ rv.ownBlock = some b) w (w4.setCell ⟨bm, 2, none⟩ v') := K4.setCell (p := ⟨bm, 2, none⟩) (.inl (.inl rfl)) _
    refine ⟨⟨M4.cell 2, M4.frozen 2⟩, h.retire hs hret K5 (by have := M4.set_ 2 v'; simpa using this) (R4.far (p := ⟨bm, 2, none⟩) hrb _) (ownsRow_block ho (fun g hg' => Below.heap_setCell w4 _ _ g (nbm g hg'))) (fun g hg' => ?_)⟩
    rcases hat with e | e
    · exact .inl (by rw [← e]; exact hg')
    · rw [e] at hg'
      have h5 : g < w4.heap.size := hlt4 g (by rw [e]; exact hg')
      simp at hg'
      refine .inr ⟨by omega, by simp [World.setCell]; omega⟩
  have HO := Lib.hid O1
  have hnew : ∀ j u, [Value.int .u32 (n : Int)][j]? = some u → ((w.setCell ⟨r.blk, 3, none⟩ (.bool true)).alloc (.cells #[.int .u32 (n : Int)] 53)).cell? ((⟨w.heap.size, 0, none⟩ : Addr).add j) = some u := by rw [← hz]; exact cell_one_new _ _ _
  have HNW := Lib.hid hnew
  have HI := Lib.hid (And.intro hi (And.intro hz0 (And.intro hz1 hz2)))
  clear hnew R1 M1 O1 K1 hz hi hz0 hz1 hz2 h hs hret hrt
  generalize r.blk = rb at *
  generalize addr n 0 = a at *
  have hne1 : ¬ bm = rb := fun e => hrb e.symm
  go_enter Try.func26, Try.ntmps26
  go_wp2_with (first
    | (go_at_call 43; refine c.mono ?_; rintro e w' ⟨rfl, rfl⟩)
    | (go_at_call 40; refine cs.mono ?_; rintro e w' ⟨rfl, rfl⟩)
    | (at_builtin; refine wpList_append_own_at _ rfl _ _ 54 rfl 0 53 i0 (.int .u32 0) 1 4 Try.underlying54 HI.out.1 HI.out.2.1 HI.out.2.2.1 HI.out.2.2.2 rfl (by decide) _ _ _ rfl (HO.out.alloc _) ⟨w.heap.size, 0, none⟩ 1 1 [.int .u32 (n : Int)] rfl rfl HNW.out (by simp [Value.oneCell']) (by unfold maxLen; omega) (by omega) (by omega) ?_; intro v' w4 hown4 hgrow4 _ hat4; obtain ⟨⟨k2, k3⟩, hfin⟩ := END.out w4 v' hown4 hgrow4 hat4; obtain ⟨g', cap', rfl⟩ := ownsRow_succ hown4; have HF := Lib.hid hfin; clear hown4 hgrow4 hat4 hfin))
  go_ret
  exact ⟨rfl, _, HF.out⟩
end
end Go.Proofs.Ytomhflaofipccaa
namespace Go.Proofs.Ytomhflaofipccaa
open Go Go.RowKit Go.Maps
set_option linter.unusedVariables false

/-- d rises. -/
def Rises (d : Array Nat) : Prop := ∀ i j, i ≤ j → j < d.size → ¬ d[j]! < d[i]!
theorem insInner_asc {d : Array Nat} (h : Rises d) (a k : Nat) (hk : k < d.size) : Sort.insInner ltN a k d = d :=
  insInner_stop a k d (.inr (.inr (h (k - 1) k (by omega) hk)))
theorem insOuter_asc {d : Array Nat} (h : Rises d) (a b : Nat) (hb : b ≤ d.size) : ∀ (m i : Nat), b - i ≤ m → Sort.insOuter ltN a b i d = d
  | 0, i, hm => by rw [Sort.insOuter, if_neg (by omega)]
  | m + 1, i, hm => by
    rw [Sort.insOuter]
    split
    · rw [insInner_asc h a i (by omega)]; exact insOuter_asc h a b hb m (i + 1) (by omega)
    · rfl
theorem order2_asc {d : Array Nat} (h : Rises d) (a b c : Nat) (hab : a ≤ b) (hb : b < d.size) : Sort.order2 ltN d a b c = (a, b, c) := by
  rw [Sort.order2, if_neg (by simpa [ltN] using h a b hab hb)]
theorem choosePivot_asc {d : Array Nat} (h : Rises d) (a b : Nat) (hab : a + 12 < b) (hb : b ≤ d.size) (h50 : b - a < 50) : (Sort.choosePivot ltN d a b).2 = .increasing := by
  have hp := choosePivot_eq d a b _ rfl
  rw [if_pos (by omega), if_neg (by omega)] at hp
  have hm : (Sort.median ltN d (a + (b - a) / 4 * 1) (a + (b - a) / 4 * 2) (a + (b - a) / 4 * 3) 0).2 = 0 := by
    unfold Sort.median
    have o1 := order2_asc h (a + (b - a) / 4 * 1) (a + (b - a) / 4 * 2) 0 (by omega) (by omega)
    have o2 := order2_asc h (a + (b - a) / 4 * 2) (a + (b - a) / 4 * 3) 0 (by omega) (by omega)
    simp only [o1, o2]
  rw [hp, hm]
  rfl
theorem bitLen_bd (n : Nat) (h0 : 0 < n) (h : n < 50) : 0 < Lib.bitLen n ∧ Lib.bitLen n ≤ 64 := by
  have : ∀ k : Fin 50, 0 < k.val → 0 < Lib.bitLen k.val ∧ Lib.bitLen k.val ≤ 64 := by decide
  exact this ⟨n, h⟩ h0
end Go.Proofs.Ytomhflaofipccaa
namespace Go.Proofs.Ytomhflaofipccaa
open Go Go.RowKit Go.Maps
set_option linter.unusedVariables false
def dels (st : Nat → Option RG) (l : List Nat) : Nat → Option RG := fun n => if n ∈ l then none else st n
theorem dels_nil (st : Nat → Option RG) : dels st [] = st := by funext n; simp [dels]
theorem dels_succ (st : Nat → Option RG) (l : List Nat) (j : Nat) (hj : j < l.length) : upd (dels st (l.take j)) l[j] none = dels st (l.take (j + 1)) := by
  funext n
  have hm : n ∈ l.take (j + 1) ↔ (n ∈ l.take j ∨ n = l[j]) := by
    rw [List.take_succ_eq_append_getElem hj, List.mem_append, List.mem_singleton]
  unfold upd dels
  by_cases h : n = l[j]
  · rw [if_pos h, if_pos (hm.2 (.inr h))]
  · rw [if_neg h]
    by_cases h2 : n ∈ l.take j
    · rw [if_pos h2, if_pos (hm.2 (.inl h2))]
    · rw [if_neg h2, if_neg (fun hh => (hm.1 hh).elim h2 h)]
section
variable {w w1 w2 : World} {S : Nat → Prop} {bm made fail : Nat} {st : Nat → Option RG} {rl : List Nat} {mv rv : Value}
theorem KM.graced (h : KM w S bm made fail st rl mv rv) {b : Nat} {D : DataW Value} (hmv : mv = .map (some b)) (k : Keeps (fun x => x = b ∨ x = bm ∨ rv.ownBlock = some x) w w2)
    (hm : Blk w2 bm 56 #[mv, .int .u32 made, .slice none 0 0, .int .i64 fail]) (hown : w2.ownsMap Try.prog 53 heldV b made D) (hd : MapOf D (dels st rl)) :
    KM w2 (more S w w2) bm made fail (dels st rl) [] mv (.slice none 0 0) ∧ Keeps S w w2 := by
  have hb : S b := (h.own hmv).1
  have sub : ∀ m q, dels st rl m = some q → m ∉ rl ∧ st m = some q := by
    intro m q hq
    unfold dels at hq
    split at hq
    · cases hq
    · exact ⟨‹_›, hq⟩
  refine ⟨⟨hm, .inr ⟨b, D, hmv, .inl hb, hown, hd⟩, fun m q hq => h.range m q (sub m q hq).2, fun m q hq => ?_, fun m m' q q' hq hq' e => h.inj m m' q q' (sub m q hq).2 (sub m' q' hq').2 e,
    fun m m' q q' g hq hq' e e' => h.injr m m' q q' g (sub m q hq).2 (sub m' q' hq').2 e e', World.ownsRow_nil _ _ _ _, fun m => ?_, List.nodup_nil, .inl h.sbm, fun m q hq => ⟨.inl (h.sreg m q (sub m q hq).2).1, fun g hg => .inl ((h.sreg m q (sub m q hq).2).2 g hg)⟩,
    fun g hg => (by cases hg), ?_, h.made_le, h.fail_le⟩, k.mono ?_⟩
  · have hr := h.regs m q (sub m q hq).2
    refine hr.keeps k ?_ (fun g hg => ?_)
    · rintro (e | e | e)
      · exact h.notMap hmv hr.head e
      · exact Blk.ne_ hr.head h.mem (by decide) e
      · obtain ⟨cur, hc⟩ := h.retBlk e
        exact Blk.ne_ hr.head hc (by decide) rfl
    · rintro (e | e | e)
      · exact h.notMap hmv (hr.rows g hg) e
      · exact Blk.ne_ (hr.rows g hg) h.mem (by decide) e
      · obtain ⟨cur, hc⟩ := h.retBlk e
        exact Blk.ne_ (hr.rows g hg) hc (by decide) rfl
  · constructor
    · intro h0; cases h0
    · rintro ⟨r, hr, ht⟩
      obtain ⟨h1, h2⟩ := sub m r hr
      exact absurd ((h.retM m).2 ⟨r, h2, ht⟩) h1
  · rintro x (h2 | h2)
    · exact Nat.lt_of_lt_of_le (h.lt x h2) k.size
    · exact h2.2
  · rintro x (e | e | e)
    · exact e ▸ hb
    · exact e ▸ h.sbm
    · exact h.srv x e
/-- Behind the sort, j numbers deleted. -/
structure GAt (w : World) (g b bm made fail : Nat) (cap : Nat) (rl : List Nat) (st : Nat → Option RG) (j : Nat) (wr : World) : Prop where
  keep : Keeps (fun x => x = b ∨ x = g) w wr
  mem : Blk wr bm 56 #[.map (some b), .int .u32 made, .slice (some ⟨g, 0, none⟩) rl.length cap, .int .i64 fail]
  own : ∃ D, wr.ownsMap Try.prog 53 heldV b made D ∧ MapOf D (dels st (rl.take j))
  cells : ∀ i, (hi : i < rl.length) → wr.cell? ⟨g, i, none⟩ = some (.int .u32 (rl[i] : Int))
theorem GAt.drew {g b cap j : Nat} {wr : World} (h : GAt w g b bm made fail cap rl st j wr) : GAt w g b bm made fail cap rl st j wr.drew := ⟨h.keep.drew, h.mem, by obtain ⟨D, ho, hd⟩ := h.own; exact ⟨D, ho.drew, hd⟩, h.cells⟩
theorem GAt.del {g b cap j : Nat} {wr : World} (h : GAt w g b bm made fail cap rl st j wr) (hgb : g ≠ b) (hmb : bm ≠ b) (hgl : g < wr.heap.size) (hml : bm < wr.heap.size) (hj : j < rl.length) (hn : rl[j] ≤ 4294967295) :
    ∃ w2, (∀ ty, (Builtin.delete_ #[52, 53] ty #[.map (some b), .int .u32 (rl[j] : Int)]).run Try.prog wr = .ok (.tuple #[]) w2) ∧ GAt w g b bm made fail cap rl st (j + 1) w2 := by
  obtain ⟨D, ho, hd⟩ := h.own
  obtain ⟨w2, hrun, hown, hturn⟩ := ho.drop law32 Try.underlying52 (key32 hn) 0
  have hG := hturn.grown
  refine ⟨w2, fun ty => hrun, ⟨h.keep.grown hG (fun k e => .inl (.inl (by simpa using e.symm))), (hG.block bm hml (by simpa using hmb)).trans h.mem, ⟨D.del _, hown, ?_⟩, fun i hi => ?_⟩⟩
  · rw [← dels_succ st rl j hj]; exact hd.del _
  · exact (World.cell?_of_block (w := wr) (a := ⟨g, i, none⟩) (hG.block g hgl (by simpa using hgb))).trans (h.cells i hi)
end
end Go.Proofs.Ytomhflaofipccaa
namespace Go.Proofs.Ytomhflaofipccaa
open Go Go.RowKit Go.Maps
set_option linter.unusedVariables false
section
variable {w w1 w2 : World} {S : Nat → Prop} {bm made fail : Nat} {st : Nat → Option RG} {rl : List Nat} {mv rv : Value}
theorem dels_same {l l' : List Nat} (h : ∀ x, x ∈ l' ↔ x ∈ l) : dels st l' = dels st l := by
  funext n
  unfold dels
  by_cases hn : n ∈ l
  · rw [if_pos hn, if_pos ((h n).2 hn)]
  · rw [if_neg hn, if_neg (fun hh => hn ((h n).1 hh))]
end
end Go.Proofs.Ytomhflaofipccaa
namespace Go.Proofs.Ytomhflaofipccaa
open Go Go.RowKit Go.Maps
set_option linter.unusedVariables false
section
variable {w w1 w2 : World} {S : Nat → Prop} {bm made fail : Nat} {st : Nat → Option RG} {rl : List Nat} {mv rv : Value}
theorem KM.freedRet (h : KM w S bm made fail st rl mv rv) {n : Nat} {b : Nat} {D : DataW Value} {rl' : List Nat} {rv' : Value} (hmv : mv = .map (some b)) (k : Keeps (fun x => x = b ∨ x = bm ∨ rv.ownBlock = some x) w w2)
    (hm : Blk w2 bm 56 #[mv, .int .u32 made, rv', .int .i64 fail]) (hown : w2.ownsMap Try.prog 53 heldV b made D) (hd : MapOf D (upd st n none))
    (hr : w2.ownsRow 0 53 1 rv' rl'.length (rl'.map fun n : Nat => Value.int .u32 (n : Int))) (hat : ∀ g, rv'.ownBlock = some g → rv.ownBlock = some g) (hmem : ∀ x, x ∈ rl' ↔ x ∈ rl ∧ x ≠ n) (hnd : rl'.Nodup) :
    KM w2 (more S w w2) bm made fail (upd st n none) rl' mv rv' ∧ Keeps S w w2 := by
  have hb : S b := (h.own hmv).1
  have sub : ∀ m q, upd st n none m = some q → m ≠ n ∧ st m = some q := by
    intro m q hq
    by_cases hmn : m = n
    · subst hmn; rw [upd_same] at hq; cases hq
    · rw [upd_other _ _ hmn] at hq; exact ⟨hmn, hq⟩
  refine ⟨⟨hm, .inr ⟨b, D, hmv, .inl hb, hown, hd⟩, fun m q hq => h.range m q (sub m q hq).2, fun m q hq => ?_, fun m m' q q' hq hq' e => h.inj m m' q q' (sub m q hq).2 (sub m' q' hq').2 e,
    fun m m' q q' g hq hq' e e' => h.injr m m' q q' g (sub m q hq).2 (sub m' q' hq').2 e e', hr, fun m => ?_, hnd, .inl h.sbm, fun m q hq => ⟨.inl (h.sreg m q (sub m q hq).2).1, fun g hg => .inl ((h.sreg m q (sub m q hq).2).2 g hg)⟩,
    fun g hg => .inl (h.srv g (hat g hg)), ?_, h.made_le, h.fail_le⟩, k.mono ?_⟩
  · have hr := h.regs m q (sub m q hq).2
    refine hr.keeps k ?_ (fun g hg => ?_)
    · rintro (e | e | e)
      · exact h.notMap hmv hr.head e
      · exact Blk.ne_ hr.head h.mem (by decide) e
      · obtain ⟨cur, hc⟩ := h.retBlk e
        exact Blk.ne_ hr.head hc (by decide) rfl
    · rintro (e | e | e)
      · exact h.notMap hmv (hr.rows g hg) e
      · exact Blk.ne_ (hr.rows g hg) h.mem (by decide) e
      · obtain ⟨cur, hc⟩ := h.retBlk e
        exact Blk.ne_ (hr.rows g hg) hc (by decide) rfl
  · rw [hmem m, h.retM m]
    constructor
    · rintro ⟨⟨r, h1, h2⟩, hne⟩
      exact ⟨r, by rw [upd_other _ _ hne]; exact h1, h2⟩
    · rintro ⟨r, h1, h2⟩
      obtain ⟨h3, h4⟩ := sub m r h1
      exact ⟨⟨r, h4, h2⟩, h3⟩
  · rintro x (h2 | h2)
    · exact Nat.lt_of_lt_of_le (h.lt x h2) k.size
    · exact h2.2
  · rintro x (e | e | e)
    · exact e ▸ hb
    · exact e ▸ h.sbm
    · exact h.srv x e
end
theorem nodup_idx {l : List Nat} (hn : l.Nodup) {i j : Nat} (hi : i < l.length) (hj : j < l.length) (e : l[i] = l[j]) : i = j := by
  rcases Nat.lt_trichotomy i j with h | h | h
  · exact absurd e (List.pairwise_iff_getElem.1 hn i j hi hj h)
  · exact h
  · exact absurd e.symm (List.pairwise_iff_getElem.1 hn j i hj hi h)
theorem moved_erase {rl : List Nat} {dk : Array Nat} {idx : Nat} (hi : idx < rl.length) (h : Moved rl.toArray dk idx rl.length) : dk.toList.take (rl.length - 1) = rl.eraseIdx idx := by
  have hz : dk.size = rl.length := by have := h.1; simpa using this
  apply List.ext_getElem
  · have hz' : dk.toList.length = rl.length := by rw [Array.length_toList]; exact hz
    rw [List.length_eraseIdx_of_lt hi, List.length_take, hz']; omega
  · intro t h1 h2
    have ht : t < rl.length - 1 := by rw [List.length_eraseIdx_of_lt hi] at h2; exact h2
    have h3 := h.2 t (by rw [List.size_toArray]; omega)
    have e1 : dk[t]! = dk[t]'(by omega) := getElem!_pos dk t (by omega)
    rw [List.getElem_take, Array.getElem_toList, List.getElem_eraseIdx, ← e1, h3]
    split
    · rw [getElem!_pos rl.toArray t (by rw [List.size_toArray]; omega)]; rfl
    · rw [if_pos (by omega), getElem!_pos rl.toArray (t + 1) (by rw [List.size_toArray]; omega)]; rfl
theorem erase_mem {rl : List Nat} (hn : rl.Nodup) {idx : Nat} (hi : idx < rl.length) (x : Nat) : x ∈ rl.eraseIdx idx ↔ x ∈ rl ∧ x ≠ rl[idx] := by
  rw [List.mem_eraseIdx_iff_getElem]
  constructor
  · rintro ⟨i, h, hne, rfl⟩
    exact ⟨List.getElem_mem h, fun e => hne (nodup_idx hn h hi e)⟩
  · rintro ⟨hx, hne⟩
    obtain ⟨i, h, rfl⟩ := List.getElem_of_mem hx
    exact ⟨i, h, fun e => hne (by subst e; rfl), rfl⟩
section
variable {w w1 w2 : World} {S : Nat → Prop} {bm made fail : Nat} {st : Nat → Option RG} {rl : List Nat} {mv rv : Value}
def FreeRet (w : World) (S : Nat → Prop) (bm made fail : Nat) (st : Nat → Option RG) (mv : Value) (w' : World) : Prop := ∃ rl' rv', KM w' (more S w w') bm made fail st rl' mv rv' ∧ Keeps S w w'
set_option maxRecDepth 100000 in
set_option maxHeartbeats 1000000 in
theorem free_ret (h : KM w S bm made fail st rl mv rv) (n : Nat) {r : RG} (hs : st n = some r) (hret : r.ret = true) :
    Calls Try.prog 33 #[.pointer (some ⟨bm, 0, none⟩), .int .u64 (addr n 0)] w fun e w' => e = .returned (.int .i64 0) ∧ FreeRet w S bm made fail (upd st n none) mv w' := by
  obtain ⟨h0, hm⟩ := h.range n r hs
  have hle := h.made_le
  have hn : n ≤ 4294967295 := by omega
  have c := beginsAt_at h n hn
  rw [hs] at c
  change Calls _ _ _ _ (fun e w' => e = Ending.returned (Value.pointer (some ⟨r.blk, 0, none⟩)) ∧ w = w') at c
  have cs := split_any n 0 hn (by omega) w
  have d3 : w.cell? ⟨r.blk, 3, none⟩ = some (.bool r.ret) := (h.regs n r hs).head.cell 3
  rw [hret] at d3
  have hrbl := (h.regs n r hs).head.lt
  have hbl := h.mem.lt
  have hnrl : n ∈ rl := (h.retM n).2 ⟨r, hs, hret⟩
  obtain ⟨idx, hidx, hat⟩ := List.getElem_of_mem hnrl
  have hrl := h.retLen
  obtain ⟨b, D, hmv, hSb, ho, hmo⟩ : ∃ b D, mv = .map (some b) ∧ S b ∧ w.ownsMap Try.prog 53 heldV b made D ∧ MapOf D st := by
    rcases h.map with ⟨_, h1⟩ | h1
    · rw [h1 n] at hs; cases hs
    · exact h1
  obtain ⟨g, cap, cur, hrv, hgb, hcap, hcm, hcur, htake⟩ : ∃ g cap cur, rv = .slice (some ⟨g, 0, none⟩) rl.length cap ∧ Blk w g 53 cur ∧ rl.length ≤ cap ∧ cap ≤ maxLen ∧ cur.size = cap ∧ cur.toList.take rl.length = rl.map encU := by
    rcases h.ret.2 with ⟨_, h0⟩ | ⟨g, cap, cur, hv, _, h1, h2, h3, h4, h5⟩
    · omega
    · exact ⟨g, cap, cur, hv, h1, h2, h3, by simpa using h4, by simpa using h5⟩
  have hgbm : g ≠ bm := Blk.ne_ hgb h.mem (by decide)
  have hgm : g ≠ b := h.notMap hmv hgb
  have hbm : bm ≠ b := h.notMap hmv h.mem
  have hgl := hgb.lt
  have hbb : b < w.heap.size := ho.lt
  -- behind the number's own block
  have hrow : SRow (w.alloc (.cells #[.int .u32 (n : Int)] 53)) (w.alloc (.cells #[.int .u32 (n : Int)] 53)) g (cur.toList.drop rl.length) rl.toArray := ⟨Keeps.refl _ _, by
    have e : (rl.toArray.toList.map encU ++ cur.toList.drop rl.length).toArray = cur := by
      simp only
      rw [← htake, List.take_append_drop]
    rw [e]; exact hgb.alloc _⟩
  have hdel := deleteFunc_any _ _ g w.heap.size n _ rl.toArray idx cap (by omega) (Blk.new w _ _) (by simpa using hidx) (by rw [getElem!_pos rl.toArray idx (by simpa using hidx)]; exact hat) (fun j hj hne => by
    have hj' : j < rl.length := by simpa using hj
    rw [getElem!_pos rl.toArray j hj]
    intro e
    have e' : rl[j] = rl[idx] := e.trans hat.symm
    exact hne (nodup_idx h.retN hj' hidx e')) (by simpa using hcap) (by simp [hcur]) (by rw [List.size_toArray]; omega) hrow
  rw [List.size_toArray] at hdel
  have hfin : ∀ e w2, DelPost (w.alloc (.cells #[.int .u32 (n : Int)] 53)) g rl.toArray idx cap e w2 → e = .returned (.slice (some ⟨g, 0, none⟩) (rl.length - 1) cap) ∧
      w2.cell? ⟨bm, 2, none⟩ = some rv ∧ w2.frozen? ⟨bm, 2, none⟩ = false ∧
      ∃ w4, (∀ ty, (Builtin.delete_ #[52, 53] ty #[.map (some b), .int .u32 (n : Int)]).run Try.prog (w2.setCell ⟨bm, 2, none⟩ (.slice (some ⟨g, 0, none⟩) (rl.length - 1) cap)).drew = .ok (.tuple #[]) w4) ∧
        (w2.setCell ⟨bm, 2, none⟩ (.slice (some ⟨g, 0, none⟩) (rl.length - 1) cap)).cell? ⟨bm, 0, none⟩ = some (.map (some b)) ∧ (w2.setCell ⟨bm, 2, none⟩ (.slice (some ⟨g, 0, none⟩) (rl.length - 1) cap)).cell? ⟨w.heap.size, 0, none⟩ = some (.int .u32 (n : Int)) ∧
        w4.cell? ⟨bm, 0, none⟩ = some (.map (some b)) ∧ w4.cell? ⟨w.heap.size, 0, none⟩ = some (.int .u32 (n : Int)) ∧ FreeRet w S bm made fail (upd st n none) mv w4 := by
    rintro e w2 ⟨rfl, dk, sp, hmvd, kk, hblk, hspl⟩
    rw [List.size_toArray] at hmvd hblk hspl
    have K1 : Keeps (fun x => x = g) w w2 := ((Keeps.refl (fun x => x = g) w).alloc (.cells #[.int .u32 (n : Int)] 53)).trans (kk.mono (fun x e => .inl e))
    have M2 : Blk w2 bm 56 #[mv, .int .u32 made, rv, .int .i64 fail] := h.mem.keeps K1 (fun e => hgbm e.symm)
    have O2 : w2.ownsMap Try.prog 53 heldV b made D := ownsMap_block ho (K1.block b hbb (fun e => hgm e.symm))
    have N2 : Blk w2 w.heap.size 53 #[.int .u32 (n : Int)] := (Blk.new w 53 #[.int .u32 (n : Int)]).keeps kk (by omega)
    obtain ⟨v3, hv3⟩ : ∃ v3, v3 = Value.slice (some ⟨g, 0, none⟩) (rl.length - 1) cap := ⟨_, rfl⟩
    rw [← hv3]
    have M3 : Blk (w2.setCell ⟨bm, 2, none⟩ v3) bm 56 #[mv, .int .u32 made, v3, .int .i64 fail] := by have := M2.set_ 2 v3; simpa using this
    have O3 : (w2.setCell ⟨bm, 2, none⟩ v3).ownsMap Try.prog 53 heldV b made D := ownsMap_block O2 (Below.heap_setCell w2 _ _ b (fun e => hbm e.symm))
    have N3 : Blk (w2.setCell ⟨bm, 2, none⟩ v3) w.heap.size 53 #[.int .u32 (n : Int)] := N2.far (p := ⟨bm, 2, none⟩) (show w.heap.size ≠ bm by omega) _
    have G3 : Blk (w2.setCell ⟨bm, 2, none⟩ v3) g 53 (((dk.toList.take (rl.length - 1)).map encU) ++ sp).toArray := hblk.far (p := ⟨bm, 2, none⟩) hgbm _
    obtain ⟨w4, hrun, hown, hturn⟩ := O3.drew.drop law32 Try.underlying52 (key32 hn) 0
    have hG := hturn.grown
    have hsz : (w2.setCell ⟨bm, 2, none⟩ v3).heap.size = w2.heap.size := by simp [World.setCell]
    have M4 : Blk w4 bm 56 #[mv, .int .u32 made, v3, .int .i64 fail] := (hG.block bm M3.lt (by simpa using hbm)).trans M3
    have N4 : Blk w4 w.heap.size 53 #[.int .u32 (n : Int)] := (hG.block w.heap.size N3.lt (by simp; omega)).trans N3
    have G4 : Blk w4 g 53 (((dk.toList.take (rl.length - 1)).map encU) ++ sp).toArray := (hG.block g G3.lt (by simpa using hgm)).trans G3
    have K4 : Keeps (fun x => x = b ∨ x = bm ∨ rv.ownBlock = some x) w w4 := by
      have K3 : Keeps (fun x => x = b ∨ x = bm ∨ rv.ownBlock = some x) w (w2.setCell ⟨bm, 2, none⟩ v3) := Keeps.setCell (p := ⟨bm, 2, none⟩) (K1.mono (fun x e => .inr (.inr (by rw [hrv, e]; rfl)))) (.inl (.inr (.inl rfl))) _
      exact K3.drew.grown hG (fun k e => .inl (.inl (by simpa using e.symm)))
    have hlen : (rl.eraseIdx idx).length = rl.length - 1 := List.length_eraseIdx_of_lt hidx
    refine ⟨by rw [hv3, List.size_toArray], M2.cell 2, M2.frozen 2, w4, fun ty => hrun, by rw [← hmv]; exact M3.cell 0, N3.cell 0, by rw [← hmv]; exact M4.cell 0, N4.cell 0, rl.eraseIdx idx, v3, h.freedRet hmv K4 M4 hown (hmo.del n) ?_ ?_ (fun x => by rw [erase_mem h.retN hidx, hat]) (h.retN.sublist (List.eraseIdx_sublist _ _))⟩
    · rw [moved_erase hidx hmvd] at G4
      refine ⟨by simp, .inr ⟨g, cap, _, by rw [hlen]; exact hv3, Nat.zero_le _, G4, by omega, hcm, ?_, ?_⟩⟩
      · simp [hlen, hspl]; omega
      · simp
    · intro g' hg'
      rw [hv3] at hg'
      rw [hrv]
      exact hg'
  have c2 : w.cell? ⟨bm, 2, none⟩ = some rv := h.mem.cell 2
  rw [hrv] at c2 hfin
  have HF := Lib.hid hfin
  have HC := Lib.hid hdel
  generalize FreeRet w S bm made fail (upd st n none) mv = post at HF ⊢
  clear h hs hret ho hmo hrow hdel hfin hgb htake hcur hat hidx hnrl
  obtain ⟨l, hl⟩ : ∃ l, l = rl.length := ⟨_, rfl⟩
  rw [← hl] at c2 HF HC hcap hrl
  clear hl
  generalize r.blk = rb at c d3 hrbl
  generalize addr n 0 = a at *
  have hne : bm ≠ w.heap.size := by omega
  have hne2 : rb ≠ w.heap.size := by omega
  go_enter Try.func33, Try.ntmps33
  go_wp2_with (first
    | (go_at_call 43; refine c.mono ?_; rintro e w' ⟨rfl, rfl⟩)
    | (go_at_call 40; refine cs.mono ?_; rintro e w' ⟨rfl, rfl⟩)
    | (go_at_call 49; refine HC.out.mono ?_; rintro e w2 hpost; obtain ⟨rfl, C2, F2, w4, hrun, E0, E6, E0', E6', hpo⟩ := HF.out e w2 hpost; have HPO := Lib.hid hpo; have HRUN := Lib.hid hrun; clear hpost hpo hrun))
  have hrun := HRUN.out
  generalize hw3 : w2.setCell ⟨bm, 2, none⟩ (.slice (some ⟨g, 0, none⟩) (l - 1) cap) = w3 at *
  go_region_held3 (fun w' => w'.cell? ⟨bm, 0, none⟩ = some (.map (some b)) ∧ w'.cell? ⟨w.heap.size, 0, none⟩ = some (.int .u32 (n : Int)))
    (first | go_keep | exact ⟨E0', E6'⟩ | exact ⟨E0, E6⟩)
    (fail)
  go_wp2
  go_ret
  exact ⟨rfl, HPO.out⟩
end
end Go.Proofs.Ytomhflaofipccaa
namespace Go.Proofs.Ytomhflaofipccaa
open Go Go.RowKit Go.Maps
set_option linter.unusedVariables false
theorem sorted_lt {d : Array Nat} {n : Nat} (hn : d.size = n) (h : Sort.SortedIn ltN 0 n d) (hd : d.toList.Nodup) : d.toList.Pairwise (· < ·) := by
  rw [List.pairwise_iff_getElem]
  intro i j hi hj hij
  have hi' : i < d.size := by simpa using hi
  have hj' : j < d.size := by simpa using hj
  have h1 := h i j (Nat.zero_le _) hij (by omega)
  rw [getElem!_pos d i hi', getElem!_pos d j hj'] at h1
  have h2 : ¬ d[j] < d[i] := by simpa [ltN] using h1
  have h3 : d[i] ≠ d[j] := fun e => by
    have := nodup_idx hd hi hj (by simpa using e)
    omega
  simp only [Array.getElem_toList]
  omega
def SortRow (w2 : World) (B : Nat) (v : Value) (ss : List Nat) (e : Ending) (w' : World) : Prop :=
  e = .returned (.tuple #[]) ∧ ∃ ss' : List Nat, ss'.Perm ss ∧ (ss.Nodup → ss'.Pairwise (· < ·)) ∧ w'.ownsRow B 53 1 v ss'.length (ss'.map encU) ∧ Keeps (fun b => v.ownBlock = some b) w2 w'
section
variable {w : World} {S : Nat → Prop} {bm made fail : Nat} {st : Nat → Option RG} {rl : List Nat} {mv rv : Value}
/-- Just these numbers are live, and they rise. -/
def LiveAsc (st : Nat → Option RG) (ss : List Nat) : Prop := ss.Pairwise (· < ·) ∧ ∀ n : Nat, n ∈ ss ↔ (st n).isSome = true
def SortedPost (w : World) (st : Nat → Option RG) (e : Ending) (w' : World) : Prop :=
  ∃ (v : Value) (ss : List Nat), e = .returned v ∧ LiveAsc st ss ∧ w'.ownsRow w.heap.size 53 1 v ss.length (ss.map encU) ∧ Below w.heap.size w w'
end
end Go.Proofs.Ytomhflaofipccaa
