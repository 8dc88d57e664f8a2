/-
  The library's sort: siftDownOrdered, heapSortOrdered. The library's sort: heapSortOrdered, reverseRangeOrdered. The library's sort: (*xorshift).Next, nextPowerOfTwo, breakPatternsOrdered (some permutation of its part, whichever). The library's sort: pdqsortOrdered and Sort: the row is permuted and rises. slices.IndexFunc, slices.DeleteFunc with Free's function: one number is taken out of a row.
-/
import Derived.Test.YtbikofedppgblaaGreatQ07
import Derived.Sort.Lot0
import Derived.Laws.Bits64
import Derived.Laws.Bits64b
import Derived.Sort.LotD3
import Derived.Sort.LotB
import Derived.Sort.LotA
import Derived.Sort.LotD1
import Derived.Deep.Cut
import Derived.Deep.CutRange
import Derived.Deep.LoopGhost
import Derived.Lib.SliceRun
import Derived.BigFrame
namespace Go.Proofs.YtbikofedppgblaaGreat
open Go Go.RowKit Go.Maps
set_option linter.unusedVariables false

theorem quiet_add_left {P : Program} {f : FuncId} {args : Array Value} {w : World} {a n : Nat} {v : Value}
    (h : Calls P f args (w.drewN (a + n)) fun e w' => e = .returned v ∧ w.drewN (a + n) = w') :
    Calls P f args (w.drewN (a + n)) fun e w'' => e = .returned v ∧ ∃ m, w'' = w.drewN (a + m) :=
  h.mono fun _ _ ⟨he, hm⟩ => ⟨he, n, hm.symm⟩
theorem siftDown_stop0 (hi f r : Nat) (d : Array Nat) (h : 2 * r + 1 ≥ hi) : Sort.siftDown ltN hi f r d = d := by
  rw [Sort.siftDown, dif_pos h]
theorem siftDown_hi (hi f r : Nat) (d : Array Nat) (h : ¬ 2 * r + 1 ≥ hi) (h1 : 2 * r + 1 + 1 < hi) (h2 : d[f + (2 * r + 1)]! < d[f + (2 * r + 1) + 1]!) :
    Sort.siftDown ltN hi f r d = if d[f + r]! < d[f + (2 * r + 1) + 1]! then Sort.siftDown ltN hi f (2 * r + 1 + 1) (Sort.swp d (f + r) (f + (2 * r + 1) + 1)) else d := by
  rw [Sort.siftDown, dif_neg h, if_pos (by rw [Bool.and_eq_true]; exact ⟨by simpa using h1, decide_eq_true h2⟩)]
  have e : f + (2 * r + 2) = f + (2 * r + 1) + 1 := by omega
  rw [e]
  by_cases h3 : d[f + r]! < d[f + (2 * r + 1) + 1]!
  · rw [if_pos h3, if_neg (by simp [ltN, h3]), dif_pos (by omega)]
  · rw [if_neg h3, if_pos (by simp [ltN]; omega)]
theorem siftDown_lo (hi f r : Nat) (d : Array Nat) (h : ¬ 2 * r + 1 ≥ hi) (h1 : ¬ (2 * r + 1 + 1 < hi ∧ d[f + (2 * r + 1)]! < d[f + (2 * r + 1) + 1]!)) :
    Sort.siftDown ltN hi f r d = if d[f + r]! < d[f + (2 * r + 1)]! then Sort.siftDown ltN hi f (2 * r + 1) (Sort.swp d (f + r) (f + (2 * r + 1))) else d := by
  rw [Sort.siftDown, dif_neg h, if_neg (by rw [Bool.and_eq_true]; rintro ⟨a, b⟩; exact h1 ⟨by simpa using a, of_decide_eq_true b⟩)]
  by_cases h3 : d[f + r]! < d[f + (2 * r + 1)]!
  · rw [if_pos h3, if_neg (by simp [ltN, h3])]
  · rw [if_neg h3, if_pos (by simp [ltN]; omega)]
/-- An index that is reckoned: what the walk wants to know of a sum. -/
def Idx (z : Int) (k n : Nat) : Prop := IntKind.i64.wrap z = z ∧ 0 ≤ z ∧ z < (n : Int) ∧ z.toNat = k
theorem Idx.mk' {z : Int} {k n : Nat} (h : z = (k : Int)) (hk : k < n) (hn : n ≤ 4611686018427387904) : Idx z k n := ⟨IntWalk.i64_in _ (by omega), by omega, by omega, by omega⟩
end Go.Proofs.YtbikofedppgblaaGreat
namespace Go.Proofs.YtbikofedppgblaaGreat
open Go Go.RowKit Go.Maps
set_option linter.unusedVariables false

theorem size_siftDown' (hi f : Nat) : ∀ (m r : Nat) (d : Array Nat), hi - r ≤ m → (Sort.siftDown ltN hi f r d).size = d.size
  | 0, r, d, h => by rw [siftDown_stop0 _ _ _ _ (by omega)]
  | m + 1, r, d, h => by
    by_cases h0 : 2 * r + 1 ≥ hi
    · rw [siftDown_stop0 _ _ _ _ h0]
    · by_cases h1 : 2 * r + 1 + 1 < hi ∧ d[f + (2 * r + 1)]! < d[f + (2 * r + 1) + 1]!
      · rw [siftDown_hi _ _ _ _ h0 h1.1 h1.2]
        split
        · rw [size_siftDown' hi f m _ _ (by omega), size_swp]
        · rfl
      · rw [siftDown_lo _ _ _ _ h0 h1]
        split
        · rw [size_siftDown' hi f m _ _ (by omega), size_swp]
        · rfl
theorem size_siftDown (hi f r : Nat) (d : Array Nat) : (Sort.siftDown ltN hi f r d).size = d.size := size_siftDown' hi f _ r d (Nat.le_refl _)
end Go.Proofs.YtbikofedppgblaaGreat
namespace Go.Proofs.YtbikofedppgblaaGreat
open Go Go.RowKit Go.Maps
set_option linter.unusedVariables false

theorem setCell_twice (w : World) (s : Nat) (v v' : Value) : (w.setCell ⟨s, 0, none⟩ v).setCell ⟨s, 0, none⟩ v' = w.setCell ⟨s, 0, none⟩ v' := by
  simp only [World.setCell]
  congr 1
  apply Array.ext_getElem?
  intro i
  simp only [Array.getElem?_modify]
  by_cases h : s = i
  · subst h
    simp only [if_true]
    rcases w.heap[s]? with _ | o
    · rfl
    · cases o <;> simp
  · simp [h]
theorem pow_bitLen : ∀ (t n : Nat), n ≤ t → 0 < n → n < 18446744073709551616 → 2 ^ Lib.bitLen n ≤ 2 * n
  | 0, n, h, h0, _ => by omega
  | t + 1, n, h, h0, h1 => by
    rw [Lib.bitLen_half n (by omega) (by omega), Nat.pow_add]
    by_cases h2 : n < 2
    · have : n = 1 := by omega
      subst this
      decide
    · have := pow_bitLen t (n / 2) (by omega) (by omega) (by omega)
      omega
def BrkPost (w0 : World) (g : Nat) (sp : List Value) (d : Array Nat) (a b : Nat) (e : Ending) (w' : World) : Prop :=
  e = .returned (.tuple #[]) ∧ ∃ d', Sort.PermIn a b d d' ∧ SRow w0 w' g sp d'
end Go.Proofs.YtbikofedppgblaaGreat
namespace Go.Proofs.YtbikofedppgblaaGreat
open Go Go.RowKit Go.Maps
set_option linter.unusedVariables false

theorem swo_ltN : Sort.SWO ltN where
  irrefl x := by simp [ltN]
  trans x y z h1 h2 := by simp [ltN] at *; omega
  ntrans x y z h1 h2 := by simp [ltN] at *; omega
/-- Within [a', b') dk is still to be sorted; once that is done, [a, b) of d is. -/
structure PQ (n : Nat) (d : Array Nat) (a b a' b' : Nat) (dk : Array Nat) : Prop where
  size : dk.size = n
  ab : a' ≤ b'
  hi : b' ≤ n
  bel : Sort.Below ltN a' b' dk
  fin : ∀ R, Sort.PermIn a' b' dk R → Sort.SortedIn ltN a' b' R → Sort.PermIn a b d R ∧ Sort.SortedIn ltN a b R
theorem PQ.perm {n : Nat} {d dk dk' : Array Nat} {a b a' b' : Nat} (h : PQ n d a b a' b' dk) (hp : Sort.PermIn a' b' dk dk') : PQ n d a b a' b' dk' :=
  ⟨hp.1.trans h.size, h.ab, h.hi, h.bel.perm (by rw [h.size]; exact h.hi) hp, fun R h1 h2 => h.fin R (Sort.permIn_trans _ _ _ _ _ hp h1) h2⟩
def PdqPost (w0 : World) (g : Nat) (sp : List Value) (d : Array Nat) (a b : Nat) (e : Ending) (w' : World) : Prop :=
  e = .returned (.tuple #[]) ∧ ∃ d', Sort.PermIn a b d d' ∧ Sort.SortedIn ltN a b d' ∧ SRow w0 w' g sp d'
theorem PQ.done {n : Nat} {d dk dk' : Array Nat} {a b a' b' : Nat} {w0 w : World} {g : Nat} {sp : List Value} (h : PQ n d a b a' b' dk) (hp : Sort.PermIn a' b' dk dk' ∧ Sort.SortedIn ltN a' b' dk') (hr : SRow w0 w g sp dk') :
    PdqPost w0 g sp d a b (.returned (.tuple #[])) w := by
  obtain ⟨h1, h2⟩ := h.fin dk' hp.1 hp.2
  exact ⟨rfl, dk', h1, h2, hr⟩
theorem bitLen_le : ∀ (k n : Nat), n < 2 ^ k → k ≤ 64 → Lib.bitLen n ≤ k
  | 0, n, h, _ => by
    have : n = 0 := by simpa using h
    subst this
    decide
  | k + 1, n, h, h2 => by
    by_cases h0 : n = 0
    · subst h0; exact Nat.le_trans (by decide : Lib.bitLen 0 ≤ 0) (by omega)
    · have h64 : n < 2 ^ 64 := Nat.lt_of_lt_of_le h (Nat.pow_le_pow_right (by decide) h2)
      rw [Lib.bitLen_half n h0 h64]
      have := bitLen_le k (n / 2) (by rw [Nat.pow_succ] at h; omega) (by omega)
      omega
def SortPost (w0 : World) (g : Nat) (sp : List Value) (d : Array Nat) (e : Ending) (w' : World) : Prop :=
  e = .returned (.tuple #[]) ∧ ∃ d', d'.toList.Perm d.toList ∧ Sort.SortedIn ltN 0 d.size d' ∧ SRow w0 w' g sp d'
end Go.Proofs.YtbikofedppgblaaGreat
namespace Go.Proofs.YtbikofedppgblaaGreat
open Go Go.RowKit Go.Maps
set_option linter.unusedVariables false

theorem free1_any (y x s : Nat) (w : World) (hc : w.cell? ⟨s, 0, none⟩ = some (.int .u32 (x : Int))) :
    Calls Tryz.prog 149 #[.int .u32 (y : Int), .pointer (some ⟨s, 0, none⟩)] w fun e w' => e = .returned (.bool (decide (y = x))) ∧ w = w' := by
  by_cases h : y = x
  · have h1 : ((y : Int) == (x : Int)) = true := by simp; omega
    have HE := Lib.hid (decide_eq_true h)
    clear h
    go_enter Tryz.func149, Tryz.ntmps149
    go_wp2
    go_ret
    exact ⟨by rw [HE.out]; rfl, rfl⟩
  · have h1 : ((y : Int) == (x : Int)) = false := by simp; omega
    have HE := Lib.hid (decide_eq_false h)
    clear h
    go_enter Tryz.func149, Tryz.ntmps149
    go_wp2
    go_ret
    exact ⟨by rw [HE.out]; rfl, rfl⟩
theorem zero_u32 (w : World) : (zeroValue 56).run Tryz.prog w = .ok (.int .u32 0) w := by kernel_rfl
theorem clear_one (w : World) (g o m c : Nat) (hm : m = 1) (u : Value) (hc : w.cell? ⟨g, o, none⟩ = some u) (hf : w.frozen? ⟨g, o, none⟩ = false) (ty : TypeId) :
    (Builtin.clear_ #[57] ty #[.slice (some ⟨g, o, none⟩) m c]).run Tryz.prog w = .ok (.tuple #[]) (w.setCell ⟨g, o, none⟩ (.int .u32 0)) := by
  subst hm
  refine Lib.run_clear_slice w 57 56 ty (.int .u32 0) Tryz.underlying57 zero_u32 rfl rfl g o 1 c (by omega) (fun j hj => ?_) (fun j hj => ?_)
  · obtain rfl : j = 0 := by omega
    rw [Nat.add_zero, hc]; rfl
  · obtain rfl : j = 0 := by omega
    exact hf
theorem setB_same (d : Array Nat) (i x : Nat) (hi : i < d.size) : (d.setIfInBounds i x)[i]! = x := by simp [hi]
theorem setB_other (d : Array Nat) (i t x : Nat) (h : t ≠ i) : (d.setIfInBounds i x)[t]! = d[t]! := by
  by_cases ht : t < d.size
  · have ht' : t < (d.setIfInBounds i x).size := by simpa using ht
    rw [getElem!_pos (d.setIfInBounds i x) t ht', getElem!_pos d t ht, Array.getElem_setIfInBounds_ne _ (Ne.symm h)]
  · have ht' : ¬ t < (d.setIfInBounds i x).size := by simpa using ht
    rw [getElem!_neg (d.setIfInBounds i x) t ht', getElem!_neg d t ht]
section
variable {w0 w : World} {g s x : Nat} {sp : List Value} {d : Array Nat}
theorem SRow.aside (h : SRow w0 w g sp d) (hs : Blk w0 s 56 #[.int .u32 (x : Int)]) (hsg : s ≠ g) : w.cell? ⟨s, 0, none⟩ = some (.int .u32 (x : Int)) :=
  (hs.keeps h.keep hsg).cell 0
set_option maxRecDepth 100000 in
theorem indexFunc_any (idx cap : Nat) (hsg : s ≠ g) (hs : Blk w0 s 56 #[.int .u32 (x : Int)]) (hidx : idx < d.size) (hat : d[idx]! = x) (hbef : ∀ j, j < idx → d[j]! ≠ x) (hcap : d.size ≤ cap) (hc : d.size ≤ 1048576) (h : SRow w0 w g sp d) :
    Calls Tryz.prog 157 #[.slice (some ⟨g, 0, none⟩) d.size cap, .func (.func 149) #[] #[.pointer (some ⟨s, 0, none⟩)]] w fun e w' => e = .returned (.int .i64 (idx : Int)) ∧ w = w' := by
  have CL := Lib.hid (fun y => free1_any y x s w (h.aside hs hsg))
  have HC := Lib.hid (fun (i : Nat) (hi : i < d.size) => h.cell hi)
  have HB := Lib.hid hbef
  have HA := Lib.hid hat
  clear h hbef hat hs
  obtain ⟨n, hn⟩ : ∃ n, n = d.size := ⟨_, rfl⟩
  rw [← hn] at hidx hcap hc HC ⊢
  clear hn
  go_enter Tryz.func157, Tryz.ntmps157
  go_wp2
  go_loop [8] (fun i => ∃ k : Nat, k ≤ idx ∧ i = .int .i64 k) (fun i => idx + 1 - (intOf i).toNat)
  case atStart => exact ⟨0, by omega, rfl⟩
  case round =>
    obtain ⟨k, hk, rfl⟩ := hrel
    have ck := HC.out k (by omega)
    have i1 : (k : Int) < (n : Int) := by omega
    have g1 : decide (k < n) = true := by simp; omega
    by_cases hki : k = idx
    · subst hki
      have cc := CL.out x
      rw [HA.out] at ck
      have he : decide (x = x) = true := by simp
      rw [he] at cc
      have CC := Lib.hid cc; clear cc
      go_wp2_with (go_at_call 149; refine CC.out.mono ?_; rintro e w' ⟨rfl, rfl⟩)
      go_ret
      exact ⟨rfl, rfl⟩
    · have hne := HB.out k (by omega)
      obtain ⟨y, hy⟩ : ∃ y, d[k]! = y := ⟨_, rfl⟩
      rw [hy] at ck hne
      clear hy
      have cc := CL.out y
      rw [decide_eq_false hne] at cc
      have CC := Lib.hid cc; clear cc
      go_wp2_with (go_at_call 149; refine CC.out.mono ?_; rintro e w' ⟨rfl, rfl⟩)
      go_round
      case rel => exact ⟨k + 1, by omega, by go_num⟩
      case measure => simp [intOf]; omega
/-- The places from idx on moved one down, as far as j. -/
def Moved (d dk : Array Nat) (idx j : Nat) : Prop := dk.size = d.size ∧ ∀ t, t < d.size → dk[t]! = if t < idx then d[t]! else if t + 1 < j then d[t + 1]! else d[t]!
def DelPost (w0 : World) (g : Nat) (d : Array Nat) (idx cap : Nat) (e : Ending) (w' : World) : Prop :=
  e = .returned (.slice (some ⟨g, 0, none⟩) (d.size - 1) cap) ∧ ∃ (dk : Array Nat) (sp : List Value), Moved d dk idx d.size ∧ Keeps (fun b => b = g) w0 w' ∧ Blk w' g 56 (((dk.toList.take (d.size - 1)).map encU) ++ sp).toArray ∧ sp.length = cap - (d.size - 1)
end
set_option maxRecDepth 100000 in
set_option maxHeartbeats 2000000 in
theorem deleteFunc_any (w0 w : World) (g s x : Nat) (sp : List Value) (d : Array Nat) (idx cap : Nat) (hsg : s ≠ g) (hs : Blk w0 s 56 #[.int .u32 (x : Int)]) (hidx : idx < d.size) (hat : d[idx]! = x) (hone : ∀ j, j < d.size → j ≠ idx → d[j]! ≠ x) (hcap : d.size ≤ cap) (hsp : sp.length = cap - d.size) (hc : d.size ≤ 1048576) (h : SRow w0 w g sp d) :
    Calls Tryz.prog 148 #[.slice (some ⟨g, 0, none⟩) d.size cap, .func (.func 149) #[] #[.pointer (some ⟨s, 0, none⟩)]] w (DelPost w0 g d idx cap) := by
  have CI := Lib.hid (indexFunc_any idx cap hsg hs hidx hat (fun j hj => hone j (by omega) (by omega)) hcap hc h)
  have HON := Lib.hid hone
  have HS := Lib.hid hs
  have H0 := Lib.hid h
  obtain ⟨n, hn⟩ : ∃ n, n = d.size := ⟨_, rfl⟩
  have HSP := Lib.hid hsp
  unfold DelPost
  rw [← hn] at hidx hcap hc CI HON HSP ⊢
  have HN := Lib.hid hn
  clear hn h hs hone hat hsp
  have g0 : ((idx : Int) == -1) = false := by simp
  go_enter Tryz.func148, Tryz.ntmps148
  go_wp2_with (go_at_call 157; refine CI.out.mono ?_; rintro e w' ⟨rfl, rfl⟩)
  go_loopw [5, 6] (fun i j wr => ∃ (k : Nat) (dk : Array Nat), idx + 1 ≤ k ∧ k ≤ n ∧ i = .int .i64 ((k : Int) - 1) ∧ j = .int .i64 k ∧ SRow w0 wr g sp dk ∧ Moved d dk idx k) (fun _ j _ => n - (intOf j).toNat)
  case atStart => exact ⟨idx + 1, d, by omega, by omega, by first | (congr 1; omega) | congr 1, by go_num, H0.out, rfl, fun t ht => by split; rfl; split; omega; rfl⟩
  case round =>
    clear H0 CI
    obtain ⟨k, dk, hk1, hk2, rfl, rfl, hr, hmv⟩ := hrel
    have HR := Lib.hid hr; clear hr
    have HM := Lib.hid hmv; clear hmv
    have hz : dk.size = n := HM.out.1.trans HN.out.symm
    have HZ := Lib.hid hz; clear hz
    by_cases hkn : k < n
    · have hkd : k < dk.size := by rw [HZ.out]; exact hkn
      have hkd1 : k - 1 < dk.size := by omega
      have ck := HR.out.cell hkd
      have ck1 := HR.out.cell hkd1
      have fk1 := HR.out.frozen (k - 1)
      have hne : dk[k]! ≠ x := by
        rw [HM.out.2 k (by rw [← HN.out]; exact hkn), if_neg (by omega), if_neg (by omega)]
        exact HON.out k hkn (by omega)
      have hset := HR.out.set_ hkd1 dk[k]!
      have hmoved : Moved d (dk.setIfInBounds (k - 1) dk[k]!) idx (k + 1) := by
        refine ⟨by rw [Array.size_setIfInBounds]; exact HM.out.1, fun t ht => ?_⟩
        by_cases e : t = k - 1
        · subst e
          rw [setB_same _ _ _ hkd1, HM.out.2 k (by rw [← HN.out]; exact hkn), if_neg (by omega), if_neg (by omega), if_neg (by omega), if_pos (by omega), show k - 1 + 1 = k by omega]
        · rw [setB_other _ _ _ _ e, HM.out.2 t ht]
          by_cases h1 : t < idx
          · rw [if_pos h1, if_pos h1]
          · rw [if_neg h1, if_neg h1]
            by_cases h2 : t + 1 < k
            · rw [if_pos h2, if_pos (by omega)]
            · rw [if_neg h2]
              by_cases h3 : t + 1 < k + 1
              · omega
              · rw [if_neg h3]
      obtain ⟨y, hy⟩ : ∃ y, dk[k]! = y := ⟨_, rfl⟩
      rw [hy] at ck hne hset hmoved
      clear hy
      have HSET := Lib.hid hset
      have HMV := Lib.hid hmoved
      have cc := free1_any y x s wr (HR.out.aside HS.out hsg)
      rw [decide_eq_false hne] at cc
      have CC := Lib.hid cc
      clear cc hset hmoved
      have i1 : (k : Int) < (n : Int) := by omega
      have g1 : decide (k < n) = true := by simp; omega
      have i2 : (0 : Int) ≤ (k : Int) - 1 := by omega
      have i3 : (k : Int) - 1 < (n : Int) := by omega
      have e2 : ((k : Int) - 1).toNat = k - 1 := by omega
      go_wp2_with (go_at_call 149; refine CC.out.mono ?_; rintro e w' ⟨rfl, rfl⟩)
      go_roundw
      case rel => exact ⟨k + 1, _, by omega, by omega, by first | (congr 1; omega) | congr 1, by go_num, HSET.out, HMV.out⟩
      case measure => simp [intOf]; omega
    · have hkn' : k = n := by omega
      subst hkn'
      have hl : k - 1 < dk.size := by rw [HZ.out]; omega
      have c1 := HR.out.cell hl
      have f1 := HR.out.frozen (k - 1)
      have hcl := clear_one wr g (k - 1) (k - (k - 1)) (cap - (k - 1)) (by omega) _ c1 f1
      have HEND := Lib.hid (show Keeps (fun b => b = g) w0 (wr.setCell ⟨g, k - 1, none⟩ (.int .u32 0)) ∧ Blk (wr.setCell ⟨g, k - 1, none⟩ (.int .u32 0)) g 56 (((dk.toList.take (k - 1)).map encU) ++ (.int .u32 0 :: sp)).toArray ∧ (Value.int .u32 0 :: sp).length = cap - (k - 1) from by
        have hs2 := HR.out.set_ hl 0
        refine ⟨hs2.keep, ?_, by simp [HSP.out]; omega⟩
        have hb := hs2.row
        have e : ((dk.setIfInBounds (k - 1) 0).toList.map encU ++ sp) = ((dk.toList.take (k - 1)).map encU) ++ (.int .u32 0 :: sp) := by
          have hlen : dk.toList.length = k := by rw [Array.length_toList]; exact HZ.out
          rw [Array.toList_setIfInBounds, List.set_eq_take_append_cons_drop, if_pos (by omega), List.drop_of_length_le (by omega)]
          simp [encU]
        rw [e] at hb
        exact hb)
      have g1 : decide (k < k) = false := by simp
      have i2 : (0 : Int) ≤ (k : Int) - 1 := by omega
      have i3 : (k : Int) - 1 ≤ (k : Int) := by omega
      have e2 : ((k : Int) - 1).toNat = k - 1 := by omega
      clear c1 f1
      have HM2 := HM
      go_wp2_with (simp only [hcl])
      go_ret
      exact ⟨rfl, dk, _, HM2.out, HEND.out⟩
end Go.Proofs.YtbikofedppgblaaGreat
