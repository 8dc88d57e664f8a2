/-
  The law KmemGrace, walked.
-/
import Derived.Test.YtkegmgpepciadaaGrace
import Derived.Test.YtkegmgpepciadaaNeverWalk
namespace Go.Proofs.Ytkegmgpepciadaa
open Go Go.RowKit Go.Maps
set_option linter.unusedVariables false

def nums (k : Nat) : List Nat := (List.range k).map (· + 1)
def addrs (k : Nat) : List Value := (List.range k).map fun j => .int .u64 (addr (j + 1) 0)
theorem nums_length (k : Nat) : (nums k).length = k := by simp [nums]
theorem nums_succ (k : Nat) : nums (k + 1) = nums k ++ [k + 1] := by simp [nums, List.range_succ]
theorem addrs_succ (k : Nat) : addrs (k + 1) = addrs k ++ [.int .u64 (addr (k + 1) 0)] := by simp [addrs, List.range_succ]
theorem nums_mem {k n : Nat} (h1 : 1 ≤ n) (h2 : n ≤ k) : n ∈ nums k := by
  simp only [nums, List.mem_map, List.mem_range]; exact ⟨n - 1, by omega, by omega⟩
theorem nums_rises (k : Nat) : Rises (nums k).toArray := by
  intro i j hij hj
  simp [nums] at hj
  simp [nums, hj, show i < k by omega]
  omega
theorem le_wb4 {k : Nat} (h : k < 30) : le (wb k 4) = k := by
  have : ∀ i : Fin 30, le (wb i.val 4) = i.val := by decide
  exact this ⟨k, h⟩
theorem wb4_length {k : Nat} (h : k < 30) : (wb k 4).length = 4 := by
  have : ∀ i : Fin 30, (wb i.val 4).length = 4 := by decide
  exact this ⟨k, h⟩
theorem setAt4 {k : Nat} (h : k < 30) : setAt (List.replicate 4 0) 0 (wb k 4) = wb k 4 := by
  have : ∀ i : Fin 30, setAt (List.replicate 4 0) 0 (wb i.val 4) = wb i.val 4 := by decide
  exact this ⟨k, h⟩
def stdv (j : Nat) : Int × List UInt8 × Bool := (3, wb j 4, true)
def butv (k : Nat) (x : Int × List UInt8 × Bool) (j : Nat) : Int × List UInt8 × Bool := if j = k then x else stdv j
/-- The memory with regions 1 .. made that hold what vals says, and the law's list of k addresses. -/
def GrG (B : Nat) (w0 : World) (bm made : Nat) (rl : List Nat) (vals : Nat → Int × List UInt8 × Bool) (k : Nat) (v : Value) (w : World) : Prop :=
  ∃ S st mv rv, KM w S bm made 0 st rl mv rv ∧ (∀ j, j < made → ∃ r, st (j + 1) = some r ∧ r.v = vals j) ∧ (∀ b, S b → B ≤ b) ∧ Below B w0 w ∧ B ≤ w.heap.size ∧ w.ownsRow B 29 1 v k (addrs k) ∧ ∀ g, v.ownBlock = some g → ¬ S g
/-- .. behind Grace: none is live. -/
def GrF (B : Nat) (w0 : World) (bm made : Nat) (k : Nat) (v : Value) (w : World) : Prop :=
  ∃ S st mv rv, KM w S bm made 0 st [] mv rv ∧ (∀ n, st n = none) ∧ Below B w0 w ∧ B ≤ w.heap.size ∧ w.ownsRow B 29 1 v k (addrs k)
section
variable {B : Nat} {w0 w w1 : World} {bm made k : Nat} {rl : List Nat} {vals : Nat → Int × List UInt8 × Bool} {v : Value}
theorem gr_next {S : Nat → Prop} (hS : ∀ b, S b → B ≤ b) (hb : Below B w0 w) (hB : B ≤ w.heap.size) (ho : w.ownsRow B 29 1 v k (addrs k)) (hv : ∀ g, v.ownBlock = some g → ¬ S g) (kk : Keeps S w w1) :
    (∀ b, more S w w1 b → B ≤ b) ∧ Below B w0 w1 ∧ B ≤ w1.heap.size ∧ w1.ownsRow B 29 1 v k (addrs k) ∧ ∀ g, v.ownBlock = some g → ¬ more S w w1 g := by
  refine ⟨?_, hb.trans (kk.below hS hB), Nat.le_trans hB kk.size, ownsRow_block ho (fun g hg => kk.block g (ho.lt g hg).2 (hv g hg)), ?_⟩
  · rintro b (h | ⟨h, _⟩)
    · exact hS b h
    · omega
  · rintro g hg (h | ⟨h, _⟩)
    · exact hv g hg h
    · have := (ho.lt g hg).2; omega
theorem gr_alloc (h : GrG B w0 bm k (nums k) stdv k v w) (hk : k < 30) :
    Calls Try.prog 14 #[.pointer (some ⟨bm, 0, none⟩), .int .i64 4, .int .i64 3] w fun e w' => e = .returned (.tuple #[.int .u64 (addr (k + 1) 0), .int .i64 0]) ∧ GrG B w0 bm (k + 1) (nums k) (butv k (3, List.replicate 4 0, false)) k v w' := by
  obtain ⟨S, st, mv, rv, hkm, hst, hS, hb, hB, ho, hv⟩ := h
  refine (alloc_ok hkm (by omega) (by omega) 4 3 (by omega) (by omega) (by omega) (by omega)).mono ?_
  rintro e w' ⟨rfl, r, mv', hk', kk, e1, e2, e3, _⟩
  refine ⟨rfl, _, _, _, _, hk', fun j hj => ?_, gr_next hS hb hB ho hv kk⟩
  unfold butv
  by_cases hjk : j = k
  · subst hjk; rw [upd_same, if_pos rfl]; exact ⟨r, rfl, by simp [RG.v, e1, e2, e3]⟩
  · rw [upd_other _ _ (by omega), if_neg hjk]; exact hst j (by omega)
theorem gr_retire (h : GrG B w0 bm (k + 1) (nums k) (butv k (3, List.replicate 4 0, false)) k v w) (hk : k < 30) :
    Calls Try.prog 19 #[.pointer (some ⟨bm, 0, none⟩), .int .u64 (addr (k + 1) 0)] w fun e w' => e = .returned (.int .i64 0) ∧ GrG B w0 bm (k + 1) (nums (k + 1)) (butv k (3, List.replicate 4 0, true)) k v w' := by
  obtain ⟨S, st, mv, rv, hkm, hst, hS, hb, hB, ho, hv⟩ := h
  obtain ⟨r, hr, er⟩ := hst k (by omega)
  rw [butv, if_pos rfl] at er
  have e1 : r.perm = 3 := congrArg Prod.fst er
  have e2 : r.bytes = List.replicate 4 0 := congrArg (fun x => x.2.1) er
  have e3 : r.ret = false := congrArg (fun x => x.2.2) er
  refine (retire_ok hkm (k + 1) hr e3).mono ?_
  rintro e w' ⟨rfl, v', hk', kk⟩
  rw [← nums_succ] at hk'
  refine ⟨rfl, _, _, _, _, hk', fun j hj => ?_, gr_next hS hb hB ho hv kk⟩
  unfold butv
  by_cases hjk : j = k
  · subst hjk; rw [upd_same, if_pos rfl]; exact ⟨_, rfl, by simp [RG.v, e1, e2]⟩
  · rw [upd_other _ _ (by omega), if_neg hjk]
    obtain ⟨q, hq, eq⟩ := hst j (by omega)
    rw [butv, if_neg hjk] at eq
    exact ⟨q, hq, eq⟩
theorem gr_again (h : GrG B w0 bm (k + 1) (nums (k + 1)) (butv k (3, List.replicate 4 0, true)) k v w) (hk : k < 30) :
    Calls Try.prog 19 #[.pointer (some ⟨bm, 0, none⟩), .int .u64 (addr (k + 1) 0)] w fun e w' => e = .returned (.int .i64 1) ∧ w = w' := by
  obtain ⟨S, st, mv, rv, hkm, hst, hS, hb, hB, ho, hv⟩ := h
  obtain ⟨r, hr, er⟩ := hst k (by omega)
  rw [butv, if_pos rfl] at er
  exact retire_again hkm (k + 1) (by omega) hr (congrArg (fun x => x.2.2) er)
theorem gr_write (h : GrG B w0 bm (k + 1) (nums (k + 1)) (butv k (3, List.replicate 4 0, true)) k v w) (hk : k < 30) :
    Calls Try.prog 15 #[.pointer (some ⟨bm, 0, none⟩), .int .u64 (addr (k + 1) 0), .int .i64 4, .int .u64 (k : Int)] w fun e w' => e = .returned (.int .i64 0) ∧ GrG B w0 bm (k + 1) (nums (k + 1)) stdv k v w' := by
  obtain ⟨S, st, mv, rv, hkm, hst, hS, hb, hB, ho, hv⟩ := h
  obtain ⟨r, hr, er⟩ := hst k (by omega)
  rw [butv, if_pos rfl] at er
  have e1 : r.perm = 3 := congrArg Prod.fst er
  have e2 : r.bytes = List.replicate 4 0 := congrArg (fun x => x.2.1) er
  have e3 : r.ret = true := congrArg (fun x => x.2.2) er
  refine (write_ok hkm (k + 1) 0 (by omega) (by omega) 4 (by omega) k (by omega) hr (by rw [e1]; decide) (by rw [e2]; decide)).mono ?_
  rintro e w' ⟨rfl, g, hk', kk⟩
  refine ⟨rfl, _, _, _, _, hk', fun j hj => ?_, gr_next hS hb hB ho hv kk⟩
  by_cases hjk : j = k
  · subst hjk; rw [upd_same]; exact ⟨_, rfl, by simp only [RG.v, stdv, e1, e2, e3, setAt4 hk]⟩
  · rw [upd_other _ _ (by omega)]
    obtain ⟨q, hq, eq⟩ := hst j (by omega)
    rw [butv, if_neg hjk] at eq
    exact ⟨q, hq, eq⟩
theorem gr_app {v' : Value} (h : GrG B w0 bm (k + 1) (nums (k + 1)) stdv k v w) (ho4 : w1.ownsRow B 29 1 v' (k + 1) (addrs k ++ [.int .u64 (addr (k + 1) 0)]))
    (hg : (w.alloc (.cells #[.int .u64 (addr (k + 1) 0)] 29)).grownBy w1 v.ownBlock) (hat : v'.ownBlock = v.ownBlock ∨ v'.ownBlock = some (w.alloc (.cells #[.int .u64 (addr (k + 1) 0)] 29)).heap.size) : GrG B w0 bm (k + 1) (nums (k + 1)) stdv (k + 1) v' w1 := by
  obtain ⟨S, st, mv, rv, hkm, hst, hS, hb, hB, ho, hv⟩ := h
  have kk : Keeps (fun b => v.ownBlock = some b) w w1 := ((Keeps.refl _ w).alloc _).grown hg (fun k e => .inl e)
  refine ⟨S, st, mv, rv, hkm.keeps kk (fun b hs hv' => hv b hv' hs), hst, hS, (hb.alloc hB _).grown hg (by simp; omega) (fun k e => (ho.lt k e).1), Nat.le_trans hB kk.size, by rw [addrs_succ]; exact ho4, fun g hg' hs => ?_⟩
  rcases hat with e | e
  · rw [e] at hg'; exact hv g hg' hs
  · rw [e] at hg'
    have h1 := hkm.lt g hs
    simp at hg'
    omega
theorem gr_row (h : GrG B w0 bm made rl vals k v w) : w.ownsRow B 29 1 v k (addrs k) := by
  obtain ⟨S, st, mv, rv, hkm, hst, hS, hb, hB, ho, hv⟩ := h
  exact ho
theorem row_cell {g c : Nat} (h : w.ownsRow B 29 1 (.slice (some ⟨g, 0, none⟩) k c) k (addrs k)) {j : Nat} (hj : j < k) : w.cell? ⟨g, j, none⟩ = some (.int .u64 (addr (j + 1) 0)) := by
  have := h.cells (g := g) rfl j (.int .u64 (addr (j + 1) 0)) (by simp [addrs, hj])
  rwa [show (⟨g, 0, none⟩ : Addr).add j = ⟨g, j, none⟩ by unfold Addr.add; split <;> simp_all] at this
theorem gr_read (h : GrG B w0 bm made rl stdv k v w) (j : Nat) (hj : j < made) (hm : made ≤ 30) :
    Calls Try.prog 17 #[.pointer (some ⟨bm, 0, none⟩), .int .u64 (addr (j + 1) 0), .int .i64 4] w fun e w' => e = .returned (.tuple #[.int .u64 (j : Int), .int .i64 0]) ∧ GrG B w0 bm made rl stdv k v w' := by
  obtain ⟨S, st, mv, rv, hkm, hst, hS, hb, hB, ho, hv⟩ := h
  obtain ⟨r, hr, er⟩ := hst j hj
  have e1 : r.perm = 3 := congrArg Prod.fst er
  have e2 : r.bytes = wb j 4 := congrArg (fun x => x.2.1) er
  have hl := wb4_length (show j < 30 by omega)
  have c := read_ok hkm (j + 1) 0 (by omega) (by omega) 4 (by omega) hr (by rw [e1]; decide) (by rw [e2, hl]; omega)
  rw [e2, List.drop_zero, List.take_of_length_le (by omega), le_wb4 (by omega)] at c
  refine c.mono ?_
  rintro e w' ⟨rfl, g, hk', kk, _⟩
  refine ⟨rfl, _, _, _, _, hk', fun i hi => ?_, gr_next hS hb hB ho hv kk⟩
  by_cases hij : i = j
  · subst hij; rw [upd_same]; exact ⟨_, rfl, er⟩
  · rw [upd_other _ _ (by omega)]; exact hst i hi
theorem gr_grace (h : GrG B w0 bm k (nums k) stdv k v w) (h0 : 0 < k) (hk : k ≤ 30) :
    Calls Try.prog 20 #[.pointer (some ⟨bm, 0, none⟩)] w fun e w' => e = .returned (.tuple #[]) ∧ GrF B w0 bm k k v w' := by
  obtain ⟨S, st, mv, rv, hkm, hst, hS, hb, hB, ho, hv⟩ := h
  refine (grace_asc hkm (by rw [nums_length]; omega) (by rw [nums_length]; omega) (nums_rises k)).mono ?_
  rintro e w' ⟨rfl, hk', kk⟩
  obtain ⟨_, n1, n2, n3, _⟩ := gr_next hS hb hB ho hv kk
  refine ⟨rfl, _, _, _, _, hk', fun n => ?_, n1, n2, n3⟩
  unfold dels
  split
  · rfl
  · rename_i hn
    rcases hs : st n with _ | r
    · rfl
    · obtain ⟨a, b⟩ := hkm.range n r hs
      exact absurd (nums_mem a b) hn
theorem gr_freed (h : GrF B w0 bm made k v w) (j : Nat) (hj : j < made) :
    Calls Try.prog 17 #[.pointer (some ⟨bm, 0, none⟩), .int .u64 (addr (j + 1) 0), .int .i64 4] w fun e w' => e = .returned (.tuple #[.int .u64 0, .int .i64 21]) ∧ w = w' := by
  obtain ⟨S, st, mv, rv, hkm, hst, hb, hB, ho⟩ := h
  have := hkm.made_le
  exact read_fault _ _ 4 21 (by omega) w (find_freed hkm (j + 1) 0 (by omega) (by omega) 4 1 (by omega) (by omega) (hst _))
theorem gr_start (w : World) : GrG w.heap.size w w.heap.size 0 (nums 0) stdv 0 (.slice none 0 0) (w.alloc (.cells #[.map none, .int .u32 0, .slice none 0 0, .int .i64 0] 62)) := by
  obtain ⟨hb, hB, S, mv, rv, hk, hS⟩ := KF.start w
  exact ⟨S, _, mv, rv, hk, fun j hj => by omega, hS, hb, hB, World.ownsRow_nil _ _ _ _, fun g hg => by cases hg⟩
end
set_option maxRecDepth 100000 in
set_option maxHeartbeats 4000000 in
theorem grace_walk (n : Int) (w : World) :
    Calls Try.prog 6 #[.int .i64 n] w fun e w' => e = .returned (.bool true) ∧ Below w.heap.size w w' := by
  have c0 := Lib.hid (new_any w)
  have HST := Lib.hid (gr_start w)
  obtain ⟨i0, hi, hz0, hz1, hz2⟩ := info_parts info64
  have HI := Lib.hid (And.intro hi (And.intro hz0 (And.intro hz1 hz2))); clear hi hz0 hz1 hz2
  obtain ⟨L, hL, hL1, hL30⟩ : ∃ L : Nat, max 1 (min n 30) = (L : Int) ∧ 1 ≤ L ∧ L ≤ 30 := ⟨(max 1 (min n 30)).toNat, by omega, by omega, by omega⟩
  have HL := Lib.hid hL; clear hL
  go_enter Try.func6, Try.ntmps6
  go_wp2_with fail
  refine c0.out.mono ?_
  rintro e w1 ⟨rfl, rfl⟩
  go_wp2_with fail
  generalize w.alloc (.cells #[.map none, .int .u32 0, .slice none 0 0, .int .i64 0] 62) = w1 at HST ⊢
  rw [HL.out]
  clear c0
  generalize hbm : w.heap.size = bm at HST ⊢
  go_loopw [4, 5] (fun v i wr => ∃ k : Nat, k ≤ L ∧ i = .int .i64 k ∧ GrG w.heap.size w bm k (nums k) stdv k v wr) (fun _ i _ => L - (intOf i).toNat)
  case atStart => exact ⟨0, by omega, rfl, hbm ▸ HST.out⟩
  case round =>
    obtain ⟨k, hk, rfl, hg⟩ := hrel
    by_cases hkL : k < L
    · have cA := Lib.hid (gr_alloc hg (by omega)); clear hg
      go_wp2_with fail
      refine cA.out.mono ?_
      rintro e w2 ⟨rfl, hg2⟩
      have cR := Lib.hid (gr_retire hg2 (by omega)); clear hg2 cA
      go_wp2_with fail
      refine cR.out.mono ?_
      rintro e w3 ⟨rfl, hg3⟩
      have cR2 := Lib.hid (gr_again hg3 (by omega))
      have cW := Lib.hid (gr_write hg3 (by omega)); clear hg3 cR
      go_wp2_with fail
      refine cR2.out.mono ?_
      rintro e w' ⟨rfl, rfl⟩
      clear cR2
      go_wp2_with fail
      refine cW.out.mono ?_
      rintro e w4 ⟨rfl, hg4⟩
      have HO4 := Lib.hid (gr_row hg4)
      have hB4 : w.heap.size ≤ w4.heap.size := by
        obtain ⟨S, st, mv, rv, _, _, _, _, hB, _⟩ := hg4
        exact hB
      have HG4 := Lib.hid hg4; clear hg4 cW
      go_wp2_with (at_builtin; refine wpList_append_own_at _ rfl _ _ 48 rfl w.heap.size 29 i0 (.int .u64 0) 1 8 Try.underlying48 HI.out.1 HI.out.2.1 HI.out.2.2.1 HI.out.2.2.2 rfl (by decide) _ _ _ rfl (HO4.out.alloc _) ⟨w4.heap.size, 0, none⟩ 1 1 [.int .u64 (addr (k + 1) 0)] rfl rfl (cell_one_new _ _ _) (by simp [Value.oneCell']) (by unfold maxLen; omega) (by omega) (by simp; omega) ?_; intro v' w5 hown5 hgrow5 _ hat5; have HO5 := Lib.hid hown5; have HG5 := Lib.hid hgrow5; have HAT := Lib.hid hat5; clear hown5 hgrow5 hat5)
      go_roundw
      case rel => exact ⟨k + 1, by omega, by go_num, gr_app HG4.out HO5.out HG5.out HAT.out⟩
      case measure => simp [intOf]; omega
    · have : k = L := by omega
      subst this
      obtain ⟨g, c, rfl⟩ : ∃ g c, u4 = .slice (some ⟨g, 0, none⟩) k c := by
        obtain ⟨A, c, rfl, h⟩ := own_form (gr_row hg)
        obtain ⟨g, rfl, _⟩ := h (by omega)
        exact ⟨g, c, rfl⟩
      have HG := Lib.hid hg; clear hg HST
      go_wp2_with fail
      go_loopw [8] (fun i wr => ∃ j : Nat, j ≤ k ∧ i = .int .i64 j ∧ GrG w.heap.size w bm k (nums k) stdv k (.slice (some ⟨g, 0, none⟩) k c) wr) (fun i _ => k - (intOf i).toNat)
      case atStart => exact ⟨0, by omega, rfl, HG.out⟩
      case round =>
        clear HG
        obtain ⟨j, hj, rfl, hg⟩ := hrel
        by_cases hjk : j < k
        · have cj := row_cell (gr_row hg) hjk
          have cR := Lib.hid (gr_read hg j hjk hL30)
          clear hg
          go_wp2_with (go_at_call 17; refine cR.out.mono ?_; rintro e w' ⟨rfl, hg2⟩; have HG2 := Lib.hid hg2; clear hg2)
          go_roundw
          case rel => exact ⟨j + 1, by omega, by go_num, HG2.out⟩
          case measure => simp [intOf]; omega
        · have : j = k := by omega
          subst this
          have cG := Lib.hid (gr_grace hg hL1 hL30)
          clear hg
          go_wp2_with fail
          refine cG.out.mono ?_
          rintro e w2 ⟨rfl, hf⟩
          clear cG
          have HF := Lib.hid hf; clear hf
          go_wp2_with fail
          go_loop [11] (fun i => ∃ m : Nat, m ≤ j ∧ i = .int .i64 m) (fun i => j - (intOf i).toNat)
          case atStart => exact ⟨0, by omega, rfl⟩
          case round =>
            obtain ⟨m, hm, rfl⟩ := hrel
            by_cases hmj : m < j
            · have cm := row_cell (by obtain ⟨S, st, mv, rv, _, _, _, _, ho⟩ := HF.out; exact ho) hmj
              have cR := Lib.hid (gr_freed HF.out m hmj)
              go_wp2_with (go_at_call 17; refine cR.out.mono ?_; rintro e w' ⟨rfl, rfl⟩)
              go_round
              case rel => exact ⟨m + 1, by omega, by go_num⟩
              case measure => simp [intOf]; omega
            · have : m = j := by omega
              subst this
              have CZ := Lib.hid (awake_any w2)
              obtain ⟨S, st, mv, rv, _, _, hb, hB, _⟩ := HF.out
              have HB := Lib.hid hb; clear hb HF
              go_wp2_with fail
              refine CZ.out.mono ?_
              rintro e w3 ⟨rfl, hb3⟩
              have HB3 := Lib.hid hb3; clear hb3
              go_wp2_with fail
              go_ret
              exact ⟨rfl, HB.out.trans (HB3.out.mono hB)⟩
end Go.Proofs.Ytkegmgpepciadaa
