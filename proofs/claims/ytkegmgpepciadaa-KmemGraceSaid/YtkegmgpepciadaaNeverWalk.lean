/-
  The law KmemNever, walked.
-/
import Derived.Test.YtkegmgpepciadaaSort0
import Derived.Test.YtkegmgpepciadaaAwake
namespace Go.Proofs.Ytkegmgpepciadaa
open Go Go.RowKit Go.Maps
set_option linter.unusedVariables false

theorem info64 : (Try.prog.info? 29).map (fun i => (i.zero, i.size, i.bytes)) = some (some (.int .u64 0), 1, 8) := by kernel_rfl
/-- A row that is owned: its value, nil let in. -/
theorem own_form {w : World} {base : Nat} {e : TypeId} {v : Value} {n : Nat} {xs : List Value} (h : w.ownsRow base e 1 v n xs) :
    ∃ A c, v = .slice A n c ∧ (0 < n → ∃ g, A = some ⟨g, 0, none⟩ ∧ ∀ j u, xs[j]? = some u → w.cell? ⟨g, j, none⟩ = some u) := by
  have hl := h.1
  rcases h.2 with ⟨rfl, rfl⟩ | ⟨g, cap, cur, rfl, hb, hg, h1, h2, h3, h4⟩
  · exact ⟨none, 0, rfl, fun h => by omega⟩
  · refine ⟨_, cap, rfl, fun _ => ⟨g, rfl, fun j u hu => ?_⟩⟩
    have := h.cells (g := g) rfl j u hu
    rwa [show (⟨g, 0, none⟩ : Addr).add j = ⟨g, j, none⟩ by unfold Addr.add; split <;> simp_all] at this
theorem addr_ne {m n : Nat} (h : m ≠ n) : (addr m 0 == addr n 0) = false := by simp [addr]; omega
theorem alloc_int {w : World} {S : Nat → Prop} {bm made fail : Nat} {st : Nat → Option RG} {rl : List Nat} {mv rv : Value} (h : KM w S bm made fail st rl mv rv) (hf : fail ≠ 1) (hmade : made < 4095) (size : Int) (perm : Nat) (h1 : 1 ≤ size) (h2 : size ≤ 1048576) (h3 : 1 ≤ perm) (h4 : perm ≤ 3) :
    Calls Try.prog 14 #[.pointer (some ⟨bm, 0, none⟩), .int .i64 size, .int .i64 perm] w fun e w' => e = .returned (.tuple #[.int .u64 (addr (made + 1) 0), .int .i64 0]) ∧ AllocPost w S bm made fail st rl rv size.toNat perm w' := by
  obtain ⟨k, rfl⟩ := Int.eq_ofNat_of_zero_le (show 0 ≤ size by omega)
  exact alloc_ok h hf hmade k perm (by omega) (by omega) h3 h4
/-- Between two rounds: no region is live; the list of the elder addresses. -/
def NeverAt (B : Nat) (w0 : World) (bm : Nat) (i : Nat) (v : Value) (w : World) : Prop :=
  ∃ S st mv rv, KM w S bm i 0 st [] mv rv ∧ (∀ n, st n = none) ∧ (∀ b, S b → B ≤ b) ∧ Below B w0 w ∧ B ≤ w.heap.size ∧ w.ownsRow B 29 1 v i ((List.range i).map fun j => .int .u64 (addr (j + 1) 0)) ∧ ∀ g, v.ownBlock = some g → ¬ S g
/-- .. and in a round, behind Alloc. -/
def NeverMid (B : Nat) (w0 : World) (bm : Nat) (i : Nat) (v : Value) (w : World) : Prop :=
  ∃ S st mv rv r, KM w S bm (i + 1) 0 st [] mv rv ∧ (∀ n, n ≠ i + 1 → st n = none) ∧ st (i + 1) = some r ∧ r.ret = false ∧ (∀ b, S b → B ≤ b) ∧ Below B w0 w ∧ B ≤ w.heap.size ∧ w.ownsRow B 29 1 v i ((List.range i).map fun j => .int .u64 (addr (j + 1) 0)) ∧ ∀ g, v.ownBlock = some g → ¬ S g
section
variable {B : Nat} {w0 w : World} {bm i : Nat} {v : Value}
theorem never_alloc (h : NeverAt B w0 bm i v w) (hi : i < 60) (size : Int) (h1 : 1 ≤ size) (h2 : size ≤ 100) :
    Calls Try.prog 14 #[.pointer (some ⟨bm, 0, none⟩), .int .i64 size, .int .i64 3] w fun e w' => e = .returned (.tuple #[.int .u64 (addr (i + 1) 0), .int .i64 0]) ∧ NeverMid B w0 bm i v w' := by
  obtain ⟨S, st, mv, rv, hk, hst, hS, hb, hB, ho, hv⟩ := h
  refine (alloc_int hk (by omega) (by omega) size 3 h1 (by omega) (by omega) (by omega)).mono ?_
  rintro e w' ⟨rfl, r, mv', hk', kk, _, _, hret, _⟩
  refine ⟨rfl, more S w w', _, _, _, r, hk', fun n hn => by rw [upd_other _ _ hn]; exact hst n, upd_same _ _ _, hret, ?_, hb.trans (kk.below hS hB), Nat.le_trans hB kk.size, ownsRow_block ho (fun g hg => kk.block g (ho.lt g hg).2 (hv g hg)), ?_⟩
  · rintro b (h | ⟨h, _⟩)
    · exact hS b h
    · omega
  · rintro g hg (h | ⟨h, _⟩)
    · exact hv g hg h
    · have := (ho.lt g hg).2; omega
theorem never_read (h : NeverMid B w0 bm i v w) (hi : i < 60) (k : Nat) (hk : k < i) :
    Calls Try.prog 17 #[.pointer (some ⟨bm, 0, none⟩), .int .u64 (addr (k + 1) 0), .int .i64 1] w fun e w' => e = .returned (.tuple #[.int .u64 0, .int .i64 21]) ∧ w = w' := by
  obtain ⟨S, st, mv, rv, r, hkm, hst, hs, hret, hS, hb, hB, ho, hv⟩ := h
  exact read_fault _ _ 1 21 (.inl rfl) w (find_freed hkm (k + 1) 0 (by omega) (by omega) 1 1 (by omega) (by omega) (hst _ (by omega)))
theorem never_free (h : NeverMid B w0 bm i v w) (hi : i < 60) :
    Calls Try.prog 18 #[.pointer (some ⟨bm, 0, none⟩), .int .u64 (addr (i + 1) 0)] w fun e w' => e = .returned (.int .i64 0) ∧
      (∃ S st mv rv, KM w' S bm (i + 1) 0 st [] mv rv ∧ (∀ n, st n = none) ∧ (∀ b, S b → B ≤ b) ∧ Below B w0 w' ∧ B ≤ w'.heap.size ∧ w'.ownsRow B 29 1 v i ((List.range i).map fun j => .int .u64 (addr (j + 1) 0)) ∧ ∀ g, v.ownBlock = some g → ¬ S g) := by
  obtain ⟨S, st, mv, rv, r, hkm, hst, hs, hret, hS, hb, hB, ho, hv⟩ := h
  refine (free_ok hkm (i + 1) hs hret).mono ?_
  rintro e w' ⟨rfl, hk', kk⟩
  refine ⟨rfl, more S w w', _, _, _, hk', fun n => ?_, ?_, hb.trans (kk.below hS hB), Nat.le_trans hB kk.size, ownsRow_block ho (fun g hg => kk.block g (ho.lt g hg).2 (hv g hg)), ?_⟩
  · by_cases hn : n = i + 1
    · subst hn; exact upd_same _ _ _
    · rw [upd_other _ _ hn]; exact hst n hn
  · rintro b (h | ⟨h, _⟩)
    · exact hS b h
    · omega
  · rintro g hg (h | ⟨h, _⟩)
    · exact hv g hg h
    · have := (ho.lt g hg).2; omega
theorem never_next {w3 w4 : World} {S : Nat → Prop} {st : Nat → Option RG} {mv rv v v' : Value} {j : Nat} (h : KM w3 S bm (j + 1) 0 st [] mv rv ∧ (∀ n, st n = none) ∧ (∀ b, S b → B ≤ b) ∧ ∀ g, v.ownBlock = some g → ¬ S g) (hb : Below B w0 w3) (hB : B ≤ w3.heap.size)
    (ho : w3.ownsRow B 29 1 v j ((List.range j).map fun i => .int .u64 (addr (i + 1) 0))) (ho4 : w4.ownsRow B 29 1 v' (j + 1) (((List.range j).map fun i => Value.int .u64 (addr (i + 1) 0)) ++ [.int .u64 (addr (j + 1) 0)]))
    (hg : (w3.alloc (.cells #[.int .u64 (addr (j + 1) 0)] 29)).grownBy w4 v.ownBlock) (hat : v'.ownBlock = v.ownBlock ∨ v'.ownBlock = some (w3.alloc (.cells #[.int .u64 (addr (j + 1) 0)] 29)).heap.size) : NeverAt B w0 bm (j + 1) v' w4 := by
  obtain ⟨hk, hst, hS, hv⟩ := h
  have kk : Keeps (fun b => v.ownBlock = some b) w3 w4 := ((Keeps.refl _ w3).alloc _).grown hg (fun k e => .inl e)
  refine ⟨S, st, mv, rv, hk.keeps kk (fun b hs hv' => hv b hv' hs), hst, hS, (hb.alloc hB _).grown hg (by simp; omega) (fun k e => (ho.lt k e).1), Nat.le_trans hB kk.size, by rw [List.range_succ, List.map_append]; exact ho4, fun g hg' hs => ?_⟩
  rcases hat with e | e
  · rw [e] at hg'; exact hv g hg' hs
  · rw [e] at hg'
    have h1 := hk.lt g hs
    simp at hg'
    omega
end
set_option maxRecDepth 100000 in
set_option maxHeartbeats 4000000 in
theorem never_walk (A : Option Addr) (len cap : Nat) (zs : Nat → Int) (w : World) (hlc : len ≤ cap) (hm : cap ≤ maxLen) (hA : 0 < len → ∃ ad : Addr, A = some ad ∧ ad.block < w.heap.size ∧ ∀ i, i < len → w.cell? (ad.add i) = some (.int .i64 (zs i))) :
    Calls Try.prog 5 #[.slice A len cap] w fun e w' => e = .returned (.bool true) ∧ Below w.heap.size w w' := by
  unfold maxLen at hm
  have c0 := Lib.hid (new_any w)
  have hst : NeverAt w.heap.size w w.heap.size 0 (.slice none 0 0) (w.alloc (.cells #[.map none, .int .u32 0, .slice none 0 0, .int .i64 0] 62)) := by
    obtain ⟨hb, hB, S, mv, rv, hk, hS⟩ := KF.start w
    exact ⟨S, _, mv, rv, hk, fun _ => rfl, hS, hb, hB, World.ownsRow_nil _ _ _ _, fun g hg => by cases hg⟩
  have HST := Lib.hid hst; clear hst
  have HA := Lib.hid hA; clear hA
  obtain ⟨i0, hi, hz0, hz1, hz2⟩ := info_parts info64
  have HI := Lib.hid (And.intro hi (And.intro hz0 (And.intro hz1 hz2))); clear hi hz0 hz1 hz2
  go_enter Try.func5, Try.ntmps5
  go_wp2_with fail
  refine c0.out.mono ?_
  rintro e w1 ⟨rfl, rfl⟩
  go_wp2_with fail
  generalize hw1 : w.alloc (.cells #[.map none, .int .u32 0, .slice none 0 0, .int .i64 0] 62) = w1 at HST ⊢
  clear hw1 c0
  go_loopw [4, 5] (fun v i wr => ∃ k : Nat, k ≤ len ∧ k ≤ 60 ∧ i = .int .i64 k ∧ NeverAt w.heap.size w w.heap.size k v wr) (fun _ i _ => len - (intOf i).toNat)
  case atStart => exact ⟨0, by omega, by omega, rfl, HST.out⟩
  case round =>
    obtain ⟨k, hk1, hk2, rfl, hN⟩ := hrel
    have HN := Lib.hid hN; clear hN
    by_cases hlt : k < len ∧ k < 60
    · obtain ⟨hlt, hlt2⟩ := hlt
      obtain ⟨ad, rfl, had, hcell⟩ := HA.out (by omega)
      have hc : wr.cell? (ad.add k) = some (.int .i64 (zs k)) := by
        obtain ⟨S, st, mv, rv, _, _, _, hb, _⟩ := HN.out
        rw [hb.cell (by unfold Addr.add; split <;> simpa using had)]; exact hcell k hlt
      clear hcell
      have hsz : (1 : Int) ≤ max 1 (min (zs k) 100) ∧ max 1 (min (zs k) 100) ≤ 100 := by omega
      have cA := Lib.hid (never_alloc HN.out hlt2 _ hsz.1 hsz.2)
      clear hsz
      go_wp2_with fail
      refine cA.out.mono ?_
      rintro e w2 ⟨rfl, hmid⟩
      clear cA
      have HM := Lib.hid hmid
      obtain ⟨A', c', rfl, hrow⟩ : ∃ A' c', u4 = .slice A' k c' ∧ (0 < k → ∃ g, A' = some ⟨g, 0, none⟩ ∧ ∀ j u, ((List.range k).map fun j => Value.int .u64 (addr (j + 1) 0))[j]? = some u → w2.cell? ⟨g, j, none⟩ = some u) := by
        obtain ⟨S, st, mv, rv, r, _, _, _, _, _, _, _, ho, _⟩ := hmid
        exact own_form ho
      have HR := Lib.hid hrow; clear hrow hmid
      go_wp2_with fail
      go_loop [8] (fun i => ∃ j : Nat, j ≤ k ∧ i = .int .i64 j) (fun i => k - (intOf i).toNat)
      case atStart => exact ⟨0, by omega, rfl⟩
      case round =>
        obtain ⟨j, hj, rfl⟩ := hrel
        by_cases hjk : j < k
        · obtain ⟨g, rfl, hcl⟩ := HR.out (by omega)
          have hcj := hcl j (.int .u64 (addr (j + 1) 0)) (by simp [hjk])
          clear hcl
          have cR := Lib.hid (never_read HM.out hlt2 j hjk)
          have hne := addr_ne (show j + 1 ≠ k + 1 by omega)
          go_wp2_with (go_at_call 17; refine cR.out.mono ?_; rintro e w' ⟨rfl, rfl⟩)
          go_round
          case rel => exact ⟨j + 1, by omega, by go_num⟩
          case measure => simp [intOf]; omega
        · have : j = k := by omega
          subst this
          have cF := Lib.hid (never_free HM.out hlt2)
          clear HA HR HN hc had
          go_wp2_with fail
          refine cF.out.mono ?_
          rintro e w3 ⟨rfl, S, st, mv, rv, hk3, hst3, hS3, hb3, hB3, ho3, hv3⟩
          clear cF
          have H3 := Lib.hid (And.intro hk3 (And.intro hst3 (And.intro hS3 hv3)))
          have HB3 := Lib.hid hb3
          have HO3 := Lib.hid ho3
          clear hk3 hst3 hS3 hv3 hb3 ho3 HM
          go_wp2_with (at_builtin; refine wpList_append_own_at _ rfl _ _ 48 rfl w.heap.size 29 i0 (.int .u64 0) 1 8 Try.underlying48 HI.out.1 HI.out.2.1 HI.out.2.2.1 HI.out.2.2.2 rfl (by decide) _ _ _ rfl (HO3.out.alloc _) ⟨w3.heap.size, 0, none⟩ 1 1 [.int .u64 (addr (j + 1) 0)] rfl rfl (cell_one_new _ _ _) (by simp [Value.oneCell']) (by unfold maxLen; omega) (by omega) (by simp; omega) ?_; intro v' w4 hown4 hgrow4 _ hat4; have HO4 := Lib.hid hown4; have HG4 := Lib.hid hgrow4; have HAT := Lib.hid hat4; clear hown4 hgrow4 hat4)
          go_roundw
          case rel => exact ⟨j + 1, by omega, by omega, by go_num, never_next H3.out HB3.out hB3 HO3.out HO4.out HG4.out HAT.out⟩
          case measure => simp [intOf]; omega
    · have HLT := Lib.hid hlt
      clear hlt HA
      have hfin : ∀ W : World, Calls Try.prog 13 #[] W fun e w' => e = .returned (.bool true) ∧ Below W.heap.size W w' := awake_any
      have CZ := Lib.hid hfin; clear hfin
      obtain ⟨S, st, mv, rv, hk, hst, hS, hb, hB, ho, hv⟩ := HN.out
      have CR := Lib.hid (regions_none hk hst)
      have HB := Lib.hid hb
      clear hk hst hS hb ho hv HN
      by_cases hl : k < len
      · have h60 : k = 60 := by have := HLT.out; omega
        subst h60
        go_wp2_with (first
          | (go_at_call 11; refine CR.out.mono ?_; rintro e w2 ⟨rfl, hb2⟩; have HB2 := Lib.hid hb2; clear hb2)
          | (go_at_call 13; refine (CZ.out _).mono ?_; rintro e w3 ⟨rfl, hb3⟩; have HB3 := Lib.hid hb3; clear hb3))
        go_ret
        exact ⟨rfl, HB.out.trans ((HB2.out.mono hB).trans (HB3.out.mono (Nat.le_trans hB HB2.out.size)))⟩
      · have hlk : k = len := by omega
        subst hlk
        go_wp2_with (first
          | (go_at_call 11; refine CR.out.mono ?_; rintro e w2 ⟨rfl, hb2⟩; have HB2 := Lib.hid hb2; clear hb2)
          | (go_at_call 13; refine (CZ.out _).mono ?_; rintro e w3 ⟨rfl, hb3⟩; have HB3 := Lib.hid hb3; clear hb3))
        go_ret
        exact ⟨rfl, HB.out.trans ((HB2.out.mono hB).trans (HB3.out.mono (Nat.le_trans hB HB2.out.size)))⟩
end Go.Proofs.Ytkegmgpepciadaa
