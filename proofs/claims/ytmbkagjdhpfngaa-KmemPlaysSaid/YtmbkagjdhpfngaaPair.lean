/-
  Both memories side by side, deed by deed: each deed has one answer, and leads both to the same plain state.
-/
import Derived.Test.YtmbkagjdhpfngaaRmRegions
import Derived.Test.YtmbkagjdhpfngaaFreeRet
namespace Go.Proofs.Ytmbkagjdhpfngaa
open Go Go.RowKit Go.Maps
set_option linter.unusedVariables false
theorem RM.wide {w : World} {T U : Nat → Prop} {bx made fail : Nat} {vs : Nat → Option RV} {rb gb : Nat → Nat} {lv : Value} (h : RM w T bx made fail vs rb gb lv) (hT : ∀ b, T b → U b) (hl : ∀ b, U b → b < w.heap.size) : RM w U bx made fail vs rb gb lv :=
  { h with tbx := hT _ h.tbx, trb := fun n h1 h2 => hT _ (h.trb n h1 h2), tgb := fun n q hq => hT _ (h.tgb n q hq), tlv := fun g hg => hT _ (h.tlv g hg), lt := hl }
/-- What a memory holds, plainly. -/
structure PS where
  made : Nat
  fail : Nat
  vs : Nat → Option RV
def KSide (w : World) (S : Nat → Prop) (bm : Nat) (m : PS) : Prop := ∃ st rl mv rv, KM w S bm m.made m.fail st rl mv rv ∧ ∀ n, (st n).map RG.v = m.vs n
def XSide (w : World) (T : Nat → Prop) (bx : Nat) (m : PS) : Prop := ∃ rb gb lv, RM w T bx m.made m.fail m.vs rb gb lv
/-- From plain state m the call answers e0 and leads to m'. -/
def KCall (f : FuncId) (args : Array Value) (bm : Nat) (m m' : PS) (e0 : Ending) : Prop := ∀ w S, KSide w S bm m → Calls Try.prog f args w fun e w' => e = e0 ∧ KSide w' (more S w w') bm m' ∧ Keeps S w w'
def XCall (f : FuncId) (args : Array Value) (bx : Nat) (m m' : PS) (e0 : Ending) : Prop := ∀ w T, XSide w T bx m → Calls Try.prog f args w fun e w' => e = e0 ∧ XSide w' (more T w w') bx m' ∧ Keeps T w w'
section
variable {f g : FuncId} {args : Array Value} {bm bx : Nat} {m m' : PS} {e0 : Ending}
theorem KCall.same (h : ∀ w S st rl mv rv, KM w S bm m.made m.fail st rl mv rv → (∀ n, (st n).map RG.v = m.vs n) → Calls Try.prog f args w fun e w' => e = e0 ∧ w = w') : KCall f args bm m m e0 := by
  rintro w S ⟨st, rl, mv, rv, hk, hv⟩
  refine (h w S st rl mv rv hk hv).mono ?_
  rintro e w' ⟨rfl, rfl⟩
  exact ⟨rfl, ⟨st, rl, mv, rv, hk.same, hv⟩, Keeps.refl _ _⟩
theorem XCall.same (h : ∀ w T rb gb lv, RM w T bx m.made m.fail m.vs rb gb lv → Calls Try.prog f args w fun e w' => e = e0 ∧ w = w') : XCall f args bx m m e0 := by
  rintro w T ⟨rb, gb, lv, hk⟩
  refine (h w T rb gb lv hk).mono ?_
  rintro e w' ⟨rfl, rfl⟩
  exact ⟨rfl, ⟨rb, gb, lv, hk.wide (fun b hb => .inl hb) (fun b hb => hk.lt b ((more_self T w b).1 hb))⟩, Keeps.refl _ _⟩
theorem XCall.step (h : ∀ w T rb gb lv, RM w T bx m.made m.fail m.vs rb gb lv → Calls Try.prog f args w fun e w' => e = e0 ∧ RM w' T bx m'.made m'.fail m'.vs rb gb lv ∧ Keeps T w w') : XCall f args bx m m' e0 := by
  rintro w T ⟨rb, gb, lv, hk⟩
  refine (h w T rb gb lv hk).mono ?_
  rintro e w' ⟨rfl, hk', kk⟩
  refine ⟨rfl, ⟨rb, gb, lv, hk'.wide (fun b hb => .inl hb) ?_⟩, kk⟩
  rintro b (h1 | ⟨_, h1⟩)
  · exact hk'.lt b h1
  · exact h1
theorem upd_v {st : Nat → Option RG} {vs : Nat → Option RV} (h : ∀ n, (st n).map RG.v = vs n) (n : Nat) (r : Option RG) {q : Option RV} (hq : r.map RG.v = q) : ∀ k, (upd st n r k).map RG.v = updv vs n q k := by
  intro k
  unfold upd updv
  split
  · exact hq
  · exact h k
theorem updv_id {vs : Nat → Option RV} {n : Nat} {q : Option RV} (h : vs n = q) : updv vs n q = vs := by
  funext k
  unfold updv
  split
  · rename_i e; subst e; exact h.symm
  · rfl
theorem st_none {st : Nat → Option RG} {vs : Nat → Option RV} (h : ∀ n, (st n).map RG.v = vs n) {n : Nat} (hn : vs n = none) : st n = none := by
  have := h n
  rw [hn] at this
  rcases hs : st n with _ | r
  · rfl
  · rw [hs] at this; cases this
theorem st_some {st : Nat → Option RG} {vs : Nat → Option RV} (h : ∀ n, (st n).map RG.v = vs n) {n : Nat} {q : RV} (hn : vs n = some q) : ∃ r, st n = some r ∧ r.v = q := by
  have := h n
  rw [hn] at this
  rcases hs : st n with _ | r
  · rw [hs] at this; cases this
  · rw [hs] at this; exact ⟨r, rfl, Option.some.inj this⟩
/-- The three ways of a number. -/
theorem ways (m : PS) (n : Nat) : (n = 0 ∨ m.made < n) ∨ (1 ≤ n ∧ n ≤ m.made ∧ m.vs n = none) ∨ ∃ q, m.vs n = some q := by
  rcases hs : m.vs n with _ | q
  · by_cases h : n = 0 ∨ m.made < n
    · exact .inl h
    · exact .inr (.inl ⟨by omega, by omega, rfl⟩)
  · exact .inr (.inr ⟨q, rfl⟩)
theorem km_out {w : World} {S : Nat → Prop} {made fail : Nat} {st : Nat → Option RG} {rl : List Nat} {mv rv : Value} (h : KM w S bm made fail st rl mv rv) {n : Nat} (hn : n = 0 ∨ made < n) : st n = none := by
  rcases hs : st n with _ | r
  · rfl
  · have := h.range n r hs; omega
/-- One answer, one number. -/
def Pair1 (f : FuncId) (ak : Array Value) (g : FuncId) (ax : Array Value) (bm bx : Nat) (m : PS) : Prop :=
  ∃ (m' : PS) (a : Int), m'.made ≤ m.made + 1 ∧ KCall f ak bm m m' (.returned (.int .i64 a)) ∧ XCall g ax bx m m' (.returned (.int .i64 a))
/-- A value and a number. -/
def Pair2 (V : Value → Prop) (f : FuncId) (ak : Array Value) (g : FuncId) (ax : Array Value) (bm bx : Nat) (m : PS) : Prop :=
  ∃ (m' : PS) (v : Value) (a : Int), V v ∧ m'.made ≤ m.made + 1 ∧ KCall f ak bm m m' (.returned (.tuple #[v, .int .i64 a])) ∧ XCall g ax bx m m' (.returned (.tuple #[v, .int .i64 a]))
def isU64 (v : Value) : Prop := ∃ x : Int, v = .int .u64 x
def isI64 (v : Value) : Prop := ∃ x : Int, v = .int .i64 x
def isStr (v : Value) : Prop := ∃ x : ByteArray, v = .string x
end
section
variable (bm bx : Nat) (m : PS)
theorem pair_fail (n : Int) : Pair1 12 #[.pointer (some ⟨bm, 0, none⟩), .int .i64 n] 13 #[.pointer (some ⟨bx, 0, none⟩), .int .i64 n] bm bx m := by
  by_cases h : n < 0 ∨ 1048576 < n
  · exact ⟨m, 1, by omega, KCall.same fun w _ _ _ _ _ _ _ => fail_arg _ n h w, XCall.same fun w _ _ _ _ _ => xfail_arg _ n h w⟩
  · obtain ⟨k, rfl⟩ := Int.eq_ofNat_of_zero_le (show 0 ≤ n by omega)
    refine ⟨{ m with fail := k }, 0, Nat.le_succ _, ?_, XCall.step fun w _ _ _ _ hr => xfail_ok hr k (by omega)⟩
    rintro w S ⟨st, rl, mv, rv, hk, hv⟩
    refine (fail_ok hk k (by omega)).mono ?_
    rintro e w' ⟨rfl, hk', kk⟩
    exact ⟨rfl, ⟨_, _, _, _, hk', hv⟩, kk⟩
theorem pair_free (a : Int) (h0 : 0 ≤ a) (h1 : a ≤ 18446744073709551615) : Pair1 14 #[.pointer (some ⟨bm, 0, none⟩), .int .u64 a] 15 #[.pointer (some ⟨bx, 0, none⟩), .int .u64 a] bm bx m := by
  obtain ⟨n, o, hn, ho, rfl⟩ := addr_of a h0 h1
  rcases Nat.eq_zero_or_pos o with rfl | hp
  · rcases ways m n with hw | ⟨hw1, hw2, hs⟩ | ⟨q, hs⟩
    · refine ⟨m, 1, by omega, KCall.same fun w S st rl mv rv hk hv => free_arg _ _ w ?_, XCall.same fun w _ _ _ _ hr => xfree_arg _ _ w (first_null hr n hn hw)⟩
      have := beginsAt_at hk n hn
      rw [km_out hk hw] at this
      exact this
    · refine ⟨m, 1, by omega, KCall.same fun w S st rl mv rv hk hv => free_arg _ _ w ?_, XCall.same fun w _ _ _ _ hr => xfree_arg _ _ w (first_dead hr n hw1 hw2 hs)⟩
      have := beginsAt_at hk n hn
      rw [st_none hv hs] at this
      exact this
    · refine ⟨{ m with vs := updv m.vs n none }, 0, Nat.le_succ _, ?_, XCall.step fun w _ _ _ _ hr => xfree_ok hr n hs⟩
      rintro w S ⟨st, rl, mv, rv, hk, hv⟩
      obtain ⟨r, hr, hq⟩ := st_some hv hs
      rcases hret : r.ret with _ | _
      · refine (free_ok hk n hr hret).mono ?_
        rintro e w' ⟨rfl, hk', kk⟩
        exact ⟨rfl, ⟨_, _, _, _, hk', upd_v hv n none rfl⟩, kk⟩
      · refine (free_ret hk n hr hret).mono ?_
        rintro e w' ⟨rfl, rl', rv', hk', kk⟩
        exact ⟨rfl, ⟨_, _, _, _, hk', upd_v hv n none rfl⟩, kk⟩
  · exact ⟨m, 1, by omega, KCall.same fun w _ _ _ _ _ _ _ => free_arg _ _ w (beginsAt_off _ n o hn ho hp w), XCall.same fun w _ _ _ _ _ => xfree_arg _ _ w (first_off _ n o hn ho hp w)⟩
theorem pair_retire (a : Int) (h0 : 0 ≤ a) (h1 : a ≤ 18446744073709551615) : Pair1 16 #[.pointer (some ⟨bm, 0, none⟩), .int .u64 a] 17 #[.pointer (some ⟨bx, 0, none⟩), .int .u64 a] bm bx m := by
  obtain ⟨n, o, hn, ho, rfl⟩ := addr_of a h0 h1
  rcases Nat.eq_zero_or_pos o with rfl | hp
  · rcases ways m n with hw | ⟨hw1, hw2, hs⟩ | ⟨q, hs⟩
    · refine ⟨m, 1, by omega, KCall.same fun w S st rl mv rv hk hv => retire_arg _ _ w ?_, XCall.same fun w _ _ _ _ hr => xretire_arg _ _ w (first_null hr n hn hw)⟩
      have := beginsAt_at hk n hn
      rw [km_out hk hw] at this
      exact this
    · refine ⟨m, 1, by omega, KCall.same fun w S st rl mv rv hk hv => retire_arg _ _ w ?_, XCall.same fun w _ _ _ _ hr => xretire_arg _ _ w (first_dead hr n hw1 hw2 hs)⟩
      have := beginsAt_at hk n hn
      rw [st_none hv hs] at this
      exact this
    · rcases hret : q.2.2 with _ | _
      · refine ⟨{ m with vs := updv m.vs n (some (q.1, q.2.1, true)) }, 0, Nat.le_succ _, ?_, XCall.step fun w _ _ _ _ hr => xretire_ok hr n hs hret⟩
        rintro w S ⟨st, rl, mv, rv, hk, hv⟩
        obtain ⟨r, hr, hq⟩ := st_some hv hs
        subst hq
        refine (retire_ok hk n hr hret).mono ?_
        rintro e w' ⟨rfl, v', hk', kk⟩
        exact ⟨rfl, ⟨_, _, _, _, hk', upd_v hv n _ rfl⟩, kk⟩
      · refine ⟨m, 1, by omega, KCall.same fun w S st rl mv rv hk hv => ?_, XCall.same fun w _ _ _ _ hr => xretire_again hr n hs hret⟩
        obtain ⟨r, hr, hq⟩ := st_some hv hs
        subst hq
        exact retire_again hk n hn hr hret
  · exact ⟨m, 1, by omega, KCall.same fun w _ _ _ _ _ _ _ => retire_arg _ _ w (beginsAt_off _ n o hn ho hp w), XCall.same fun w _ _ _ _ _ => xretire_arg _ _ w (first_off _ n o hn ho hp w)⟩
/-- What may be done, asked in two ways. -/
theorem perm_x (p d : Int) (h1 : 1 ≤ p) (h3 : p ≤ 3) (hd : d = 1 ∨ d = 2) : (bits .and .i64 p d == 0) = (bits .and .i64 p d != d) := by
  rcases (show p = 1 ∨ p = 2 ∨ p = 3 by omega) with rfl | rfl | rfl <;> rcases hd with rfl | rfl <;> decide
theorem pair_read (a : Int) (h0 : 0 ≤ a) (h1 : a ≤ 18446744073709551615) (size : Int) : Pair2 isU64 20 #[.pointer (some ⟨bm, 0, none⟩), .int .u64 a, .int .i64 size] 21 #[.pointer (some ⟨bx, 0, none⟩), .int .u64 a, .int .i64 size] bm bx m := by
  by_cases hz : size = 1 ∨ size = 2 ∨ size = 4 ∨ size = 8
  · obtain ⟨n, o, hn, ho, rfl⟩ := addr_of a h0 h1
    obtain ⟨k, rfl⟩ := Int.eq_ofNat_of_zero_le (show 0 ≤ size by omega)
    rcases ways m n with hw | ⟨hw1, hw2, hs⟩ | ⟨q, hs⟩
    · exact ⟨m, _, 20, ⟨_, rfl⟩, by omega, KCall.same fun w S st rl mv rv hk hv => read_fault _ _ _ 20 hz w (find_null hk n o hn ho k 1 hw), XCall.same fun w _ _ _ _ hr => xread_fault _ _ _ 20 rfl hz w (at_null hr n o hn ho k 1 hw)⟩
    · exact ⟨m, _, 21, ⟨_, rfl⟩, by omega, KCall.same fun w S st rl mv rv hk hv => read_fault _ _ _ 21 hz w (find_freed hk n o hn ho k 1 hw1 hw2 (st_none hv hs)), XCall.same fun w _ _ _ _ hr => xread_fault _ _ _ 21 rfl hz w (at_freed hr n o ho k 1 hw1 hw2 hs)⟩
    · rcases hp : (bits .and .i64 q.1 1 != 1) with _ | _
      · by_cases hb : o + k ≤ q.2.1.length
        · refine ⟨m, _, 0, ⟨_, rfl⟩, by omega, ?_, XCall.same fun w _ _ _ _ hr => xread_ok hr n o ho k hz hs ((perm_x _ 1 (hr.sized n q hs).2.2.1 (hr.sized n q hs).2.2.2 (.inl rfl)).trans hp) hb⟩
          rintro w S ⟨st, rl, mv, rv, hk, hv⟩
          obtain ⟨r, hr, rfl⟩ := st_some hv hs
          refine (read_ok hk n o hn ho k hz hr hp hb).mono ?_
          rintro e w' ⟨rfl, g, hk', kk, _⟩
          refine ⟨rfl, ⟨_, _, _, _, hk', ?_⟩, kk⟩
          have := upd_v hv n (some { r with row := some g }) (q := some r.v) rfl
          rwa [updv_id (q := some r.v) hs] at this
        · refine ⟨m, _, 22, ⟨_, rfl⟩, by omega, KCall.same fun w S st rl mv rv hk hv => ?_, XCall.same fun w _ _ _ _ hr => xread_fault _ _ _ 22 rfl hz w (at_bound hr n o ho k (by omega) 1 hs (.inr ⟨rfl, (perm_x _ 1 (hr.sized n q hs).2.2.1 (hr.sized n q hs).2.2.2 (.inl rfl)).trans hp⟩) (by omega))⟩
          obtain ⟨r, hr, rfl⟩ := st_some hv hs
          exact read_fault _ _ _ 22 hz w (find_bound hk n o hn ho k (by omega) 1 hr hp (show r.bytes.length < o + k by have : ¬ o + k ≤ r.bytes.length := hb; omega))
      · refine ⟨m, _, 23, ⟨_, rfl⟩, by omega, KCall.same fun w S st rl mv rv hk hv => ?_, XCall.same fun w _ _ _ _ hr => xread_fault _ _ _ 23 rfl hz w (at_perm hr n o ho k 1 hs rfl ((perm_x _ 1 (hr.sized n q hs).2.2.1 (hr.sized n q hs).2.2.2 (.inl rfl)).trans hp))⟩
        obtain ⟨r, hr, rfl⟩ := st_some hv hs
        exact read_fault _ _ _ 23 hz w (find_perm hk n o hn ho k 1 hr hp)
  · exact ⟨m, _, 1, ⟨_, rfl⟩, by omega, KCall.same fun w S st rl mv rv hk hv => read_arg _ _ _ hz w, XCall.same fun w _ _ _ _ hr => xread_arg _ _ _ hz w⟩
theorem pair_write (a : Int) (h0 : 0 ≤ a) (h1 : a ≤ 18446744073709551615) (size u : Int) (hu0 : 0 ≤ u) (hu : u ≤ 18446744073709551615) : Pair1 22 #[.pointer (some ⟨bm, 0, none⟩), .int .u64 a, .int .i64 size, .int .u64 u] 23 #[.pointer (some ⟨bx, 0, none⟩), .int .u64 a, .int .i64 size, .int .u64 u] bm bx m := by
  by_cases hz : size = 1 ∨ size = 2 ∨ size = 4 ∨ size = 8
  · obtain ⟨n, o, hn, ho, rfl⟩ := addr_of a h0 h1
    obtain ⟨k, rfl⟩ := Int.eq_ofNat_of_zero_le (show 0 ≤ size by omega)
    obtain ⟨u, rfl⟩ := Int.eq_ofNat_of_zero_le hu0
    have hu' : u ≤ 18446744073709551615 := by omega
    rcases ways m n with hw | ⟨hw1, hw2, hs⟩ | ⟨q, hs⟩
    · exact ⟨m, 20, by omega, KCall.same fun w S st rl mv rv hk hv => write_fault _ _ _ _ 20 hz w (find_null hk n o hn ho k 2 hw), XCall.same fun w _ _ _ _ hr => xwrite_fault _ _ _ _ 20 rfl hz w (at_null hr n o hn ho k 2 hw)⟩
    · exact ⟨m, 21, by omega, KCall.same fun w S st rl mv rv hk hv => write_fault _ _ _ _ 21 hz w (find_freed hk n o hn ho k 2 hw1 hw2 (st_none hv hs)), XCall.same fun w _ _ _ _ hr => xwrite_fault _ _ _ _ 21 rfl hz w (at_freed hr n o ho k 2 hw1 hw2 hs)⟩
    · rcases hp : (bits .and .i64 q.1 2 != 2) with _ | _
      · by_cases hb : o + k ≤ q.2.1.length
        · refine ⟨{ m with vs := updv m.vs n (some (q.1, setAt q.2.1 o (wb u k), q.2.2)) }, 0, Nat.le_succ _, ?_, XCall.step fun w _ _ _ _ hr => xwrite_ok hr n o ho k hz u hu' hs ((perm_x _ 2 (hr.sized n q hs).2.2.1 (hr.sized n q hs).2.2.2 (.inr rfl)).trans hp) hb⟩
          rintro w S ⟨st, rl, mv, rv, hk, hv⟩
          obtain ⟨r, hr, rfl⟩ := st_some hv hs
          refine (write_ok hk n o hn ho k hz u hu' hr hp hb).mono ?_
          rintro e w' ⟨rfl, g, hk', kk⟩
          exact ⟨rfl, ⟨_, _, _, _, hk', upd_v hv n _ rfl⟩, kk⟩
        · refine ⟨m, 22, by omega, KCall.same fun w S st rl mv rv hk hv => ?_, XCall.same fun w _ _ _ _ hr => xwrite_fault _ _ _ _ 22 rfl hz w (at_bound hr n o ho k (by omega) 2 hs (.inr ⟨rfl, (perm_x _ 2 (hr.sized n q hs).2.2.1 (hr.sized n q hs).2.2.2 (.inr rfl)).trans hp⟩) (by omega))⟩
          obtain ⟨r, hr, rfl⟩ := st_some hv hs
          exact write_fault _ _ _ _ 22 hz w (find_bound hk n o hn ho k (by omega) 2 hr hp (show r.bytes.length < o + k by have : ¬ o + k ≤ r.bytes.length := hb; omega))
      · refine ⟨m, 23, by omega, KCall.same fun w S st rl mv rv hk hv => ?_, XCall.same fun w _ _ _ _ hr => xwrite_fault _ _ _ _ 23 rfl hz w (at_perm hr n o ho k 2 hs rfl ((perm_x _ 2 (hr.sized n q hs).2.2.1 (hr.sized n q hs).2.2.2 (.inr rfl)).trans hp))⟩
        obtain ⟨r, hr, rfl⟩ := st_some hv hs
        exact write_fault _ _ _ _ 23 hz w (find_perm hk n o hn ho k 2 hr hp)
  · exact ⟨m, 1, by omega, KCall.same fun w S st rl mv rv hk hv => write_arg _ _ _ _ hz w, XCall.same fun w _ _ _ _ hr => xwrite_arg _ _ _ _ hz w⟩
theorem pair_bytes (a : Int) (h0 : 0 ≤ a) (h1 : a ≤ 18446744073709551615) (size : Int) : Pair2 isStr 24 #[.pointer (some ⟨bm, 0, none⟩), .int .u64 a, .int .i64 size] 25 #[.pointer (some ⟨bx, 0, none⟩), .int .u64 a, .int .i64 size] bm bx m := by
  by_cases hz : size < 0 ∨ 1048576 < size
  · exact ⟨m, _, 1, ⟨_, rfl⟩, by omega, KCall.same fun w S st rl mv rv hk hv => bytes_arg _ _ _ hz w, XCall.same fun w _ _ _ _ hr => xbytes_arg _ _ _ hz w⟩
  · obtain ⟨n, o, hn, ho, rfl⟩ := addr_of a h0 h1
    have z0 : 0 ≤ size := by omega
    have z1 : size ≤ 1048576 := by omega
    obtain ⟨k, rfl⟩ := Int.eq_ofNat_of_zero_le z0
    rcases ways m n with hw | ⟨hw1, hw2, hs⟩ | ⟨q, hs⟩
    · exact ⟨m, _, 20, ⟨_, rfl⟩, by omega, KCall.same fun w S st rl mv rv hk hv => bytes_fault _ _ _ 20 z0 z1 w (find_null hk n o hn ho k 0 hw), XCall.same fun w _ _ _ _ hr => xbytes_fault _ _ _ 20 z0 z1 rfl w (at_null hr n o hn ho k 0 hw)⟩
    · exact ⟨m, _, 21, ⟨_, rfl⟩, by omega, KCall.same fun w S st rl mv rv hk hv => bytes_fault _ _ _ 21 z0 z1 w (find_freed hk n o hn ho k 0 hw1 hw2 (st_none hv hs)), XCall.same fun w _ _ _ _ hr => xbytes_fault _ _ _ 21 z0 z1 rfl w (at_freed hr n o ho k 0 hw1 hw2 hs)⟩
    · by_cases hb : o + k ≤ q.2.1.length
      · refine ⟨m, _, 0, ⟨_, rfl⟩, by omega, ?_, XCall.same fun w _ _ _ _ hr => xbytes_ok hr n o ho k (by omega) hs hb⟩
        rintro w S ⟨st, rl, mv, rv, hk, hv⟩
        obtain ⟨r, hr, rfl⟩ := st_some hv hs
        refine (bytes_ok hk n o hn ho k (by omega) hr hb).mono ?_
        rintro e w' ⟨rfl, g, hk', kk, _⟩
        refine ⟨rfl, ⟨_, _, _, _, hk', ?_⟩, kk⟩
        have := upd_v hv n (some { r with row := some g }) (q := some r.v) rfl
        rwa [updv_id (q := some r.v) hs] at this
      · refine ⟨m, _, 22, ⟨_, rfl⟩, by omega, KCall.same fun w S st rl mv rv hk hv => ?_, XCall.same fun w _ _ _ _ hr => xbytes_fault _ _ _ 22 z0 z1 rfl w (at_bound hr n o ho k (by omega) 0 hs (.inl rfl) (by omega))⟩
        obtain ⟨r, hr, rfl⟩ := st_some hv hs
        exact bytes_fault _ _ _ 22 z0 z1 w (find_bound hk n o hn ho k (by omega) 0 hr (hk.regs n r hr).whatever (show r.bytes.length < o + k by have : ¬ o + k ≤ r.bytes.length := hb; omega))
theorem pair_put (a : Int) (h0 : 0 ≤ a) (h1 : a ≤ 18446744073709551615) (s : ByteArray) (hm : s.size ≤ maxLen) : Pair1 26 #[.pointer (some ⟨bm, 0, none⟩), .int .u64 a, .string s] 27 #[.pointer (some ⟨bx, 0, none⟩), .int .u64 a, .string s] bm bx m := by
  by_cases hz : 1048576 < s.size
  · exact ⟨m, 1, by omega, KCall.same fun w S st rl mv rv hk hv => put_arg _ _ _ hz hm w, XCall.same fun w _ _ _ _ hr => xput_arg _ _ _ hz hm w⟩
  · obtain ⟨n, o, hn, ho, rfl⟩ := addr_of a h0 h1
    have z1 : s.size ≤ 1048576 := by omega
    rcases ways m n with hw | ⟨hw1, hw2, hs⟩ | ⟨q, hs⟩
    · exact ⟨m, 20, by omega, KCall.same fun w S st rl mv rv hk hv => put_fault _ _ 20 s z1 w (find_null hk n o hn ho s.size 0 hw), XCall.same fun w _ _ _ _ hr => xput_fault _ _ 20 s z1 rfl w (at_null hr n o hn ho s.size 0 hw)⟩
    · exact ⟨m, 21, by omega, KCall.same fun w S st rl mv rv hk hv => put_fault _ _ 21 s z1 w (find_freed hk n o hn ho s.size 0 hw1 hw2 (st_none hv hs)), XCall.same fun w _ _ _ _ hr => xput_fault _ _ 21 s z1 rfl w (at_freed hr n o ho s.size 0 hw1 hw2 hs)⟩
    · by_cases hb : o + s.size ≤ q.2.1.length
      · obtain ⟨l, rfl⟩ : ∃ l, s = bstr l := ⟨s.data.toList, by cases s; simp [bstr]⟩
        rw [bstr_size] at z1 hb
        refine ⟨{ m with vs := updv m.vs n (some (q.1, setAt q.2.1 o l, q.2.2)) }, 0, Nat.le_succ _, ?_, XCall.step fun w _ _ _ _ hr => xput_ok hr n o ho l z1 hs hb⟩
        rintro w S ⟨st, rl, mv, rv, hk, hv⟩
        obtain ⟨r, hr, rfl⟩ := st_some hv hs
        refine (put_ok hk n o hn ho l z1 hr hb).mono ?_
        rintro e w' ⟨rfl, g, hk', kk⟩
        exact ⟨rfl, ⟨_, _, _, _, hk', upd_v hv n _ rfl⟩, kk⟩
      · refine ⟨m, 22, by omega, KCall.same fun w S st rl mv rv hk hv => ?_, XCall.same fun w _ _ _ _ hr => xput_fault _ _ 22 s z1 rfl w (at_bound hr n o ho s.size z1 0 hs (.inl rfl) (by omega))⟩
        obtain ⟨r, hr, rfl⟩ := st_some hv hs
        exact put_fault _ _ 22 s z1 w (find_bound hk n o hn ho s.size z1 0 hr (hk.regs n r hr).whatever (show r.bytes.length < o + s.size by have : ¬ o + s.size ≤ r.bytes.length := hb; omega))
theorem pair_size (a : Int) (h0 : 0 ≤ a) (h1 : a ≤ 18446744073709551615) : Pair2 isI64 28 #[.pointer (some ⟨bm, 0, none⟩), .int .u64 a] 29 #[.pointer (some ⟨bx, 0, none⟩), .int .u64 a] bm bx m := by
  obtain ⟨n, o, hn, ho, rfl⟩ := addr_of a h0 h1
  rcases ways m n with hw | ⟨hw1, hw2, hs⟩ | ⟨q, hs⟩
  · exact ⟨m, _, 20, ⟨_, rfl⟩, by omega, KCall.same fun w S st rl mv rv hk hv => size_fault n o hn ho bm 20 rfl w (live_null hk n hn hw), XCall.same fun w _ _ _ _ hr => xsize_fault _ _ 20 rfl w (at_null hr n o hn ho 1 0 hw)⟩
  · exact ⟨m, _, 21, ⟨_, rfl⟩, by omega, KCall.same fun w S st rl mv rv hk hv => size_fault n o hn ho bm 21 rfl w (live_freed hk n hw1 hw2 (st_none hv hs)), XCall.same fun w _ _ _ _ hr => xsize_fault _ _ 21 rfl w (at_freed hr n o ho 1 0 hw1 hw2 hs)⟩
  · by_cases hb : o + 1 ≤ q.2.1.length
    · refine ⟨m, _, 0, ⟨_, rfl⟩, by omega, KCall.same fun w S st rl mv rv hk hv => ?_, XCall.same fun w _ _ _ _ hr => xsize_ok hr n o ho hs hb⟩
      obtain ⟨r, hr, rfl⟩ := st_some hv hs
      exact size_ok hk n o hn ho hr hb
    · refine ⟨m, _, 22, ⟨_, rfl⟩, by omega, KCall.same fun w S st rl mv rv hk hv => ?_, XCall.same fun w _ _ _ _ hr => xsize_fault _ _ 22 rfl w (at_bound hr n o ho 1 (by omega) 0 hs (.inl rfl) (by omega))⟩
      obtain ⟨r, hr, rfl⟩ := st_some hv hs
      exact size_bound hk n o hn ho hr (show r.bytes.length ≤ o by have : ¬ o + 1 ≤ r.bytes.length := hb; omega)
theorem pair_alloc (hmade : m.made < 4095) (size perm : Int) : Pair2 isU64 10 #[.pointer (some ⟨bm, 0, none⟩), .int .i64 size, .int .i64 perm] 11 #[.pointer (some ⟨bx, 0, none⟩), .int .i64 size, .int .i64 perm] bm bx m := by
  by_cases hz : 1 ≤ size ∧ size ≤ 1048576 ∧ 1 ≤ perm ∧ perm ≤ 3
  · obtain ⟨z1, z2, z3, z4⟩ := hz
    obtain ⟨k, rfl⟩ := Int.eq_ofNat_of_zero_le (show 0 ≤ size by omega)
    obtain ⟨p, rfl⟩ := Int.eq_ofNat_of_zero_le (show 0 ≤ perm by omega)
    obtain ⟨made, fail, vs⟩ := m
    simp only at hmade
    by_cases hf : fail = 1
    · subst hf
      refine ⟨⟨made, 0, vs⟩, _, 2, ⟨_, rfl⟩, Nat.le_succ _, ?_, XCall.step fun w _ _ _ _ hr => xalloc_mem hr k p z1 z2 z3 z4⟩
      rintro w S ⟨st, rl, mv, rv, hk, hv⟩
      refine (alloc_mem hk k p (by omega) (by omega) (by omega) (by omega)).mono ?_
      rintro e w' ⟨rfl, hk', kk⟩
      exact ⟨rfl, ⟨_, _, _, _, hk', hv⟩, kk⟩
    · refine ⟨⟨made + 1, fail - 1, updv vs (made + 1) (some ((p : Int), List.replicate k 0, false))⟩, .int .u64 (addr (made + 1) 0), 0, ⟨_, rfl⟩, Nat.le_refl _, ?_, ?_⟩
      · rintro w S ⟨st, rl, mv, rv, hk, hv⟩
        refine (alloc_ok hk hf hmade k p (by omega) (by omega) (by omega) (by omega)).mono ?_
        rintro e w' ⟨rfl, r, mv', hk', kk, e1, e2, e3, e4⟩
        exact ⟨rfl, ⟨_, _, _, _, hk', upd_v hv _ _ (by simp [RG.v, e1, e2, e3])⟩, kk⟩
      · rintro w T ⟨rb, gb, lv, hr⟩
        have fin : ∀ (fl : Nat) (e : Ending) (w' : World), fl = fail - 1 → (e = .returned (.tuple #[.int .u64 (addr (made + 1) 0), .int .i64 0]) ∧ XAllocPost w T bx made fl vs k (p : Int) w') →
            e = .returned (.tuple #[.int .u64 (addr (made + 1) 0), .int .i64 0]) ∧ XSide w' (more T w w') bx ⟨made + 1, fail - 1, updv vs (made + 1) (some ((p : Int), List.replicate k 0, false))⟩ ∧ Keeps T w w' := by
          rintro fl e w' rfl ⟨rfl, rb', gb', lv', hr', kk⟩
          exact ⟨rfl, ⟨rb', gb', lv', hr'⟩, kk⟩
        rcases fail with _ | _ | f
        · exact (xalloc_zero hr hmade k p (by omega) (by omega) z3 z4).mono (fun e w' h => fin 0 e w' rfl h)
        · exact absurd rfl hf
        · exact (xalloc_more hr hmade k p (by omega) (by omega) z3 z4).mono (fun e w' h => fin (f + 1) e w' rfl h)
  · exact ⟨m, _, 1, ⟨_, rfl⟩, by omega, KCall.same fun w S st rl mv rv hk hv => alloc_arg _ _ _ (by omega) w, XCall.same fun w _ _ _ _ hr => xalloc_arg _ _ _ hz w⟩
theorem pair_grace : ∃ m' : PS, m'.made ≤ m.made + 1 ∧ KCall 18 #[.pointer (some ⟨bm, 0, none⟩)] bm m m' (.returned (.tuple #[])) ∧ XCall 19 #[.pointer (some ⟨bx, 0, none⟩)] bx m m' (.returned (.tuple #[])) := by
  refine ⟨{ m with vs := gracev m.vs m.made }, Nat.le_succ _, ?_, XCall.step fun w _ _ _ _ hr => xgrace_any hr⟩
  rintro w S ⟨st, rl, mv, rv, hk, hv⟩
  refine (grace_any hk).mono ?_
  rintro e w' ⟨rfl, hk', kk⟩
  refine ⟨rfl, ⟨_, _, _, _, hk', fun n => ?_⟩, kk⟩
  have hM := hk.retM n
  simp only [gracev, dels, ← hv n]
  rcases hs : st n with _ | r
  · simp [keepv]
  · have hrg := hk.range n r hs
    rw [if_pos hrg.2]
    by_cases hn : n ∈ rl
    · obtain ⟨r', h1, h2⟩ := hM.1 hn
      rw [hs] at h1
      cases h1
      simp [hn, keepv, RG.v, h2]
    · have h2 : r.ret = false := by
        rcases h : r.ret with _ | _
        · rfl
        · exact absurd (hM.2 ⟨r, hs, h⟩) hn
      simp [hn, keepv, RG.v, h2]
end
end Go.Proofs.Ytmbkagjdhpfngaa
