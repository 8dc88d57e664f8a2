/-
  find: the bytes at an address, or the fault.
-/
import Derived.Test.YtdihlmhipkcedaaFind
namespace Go.Proofs.Ytdihlmhipkcedaa
open Go Go.RowKit Go.Maps
set_option linter.unusedVariables false
theorem ret_sl {A : Option Addr} {n c n' c' : Nat} {z : Int} (h : n = n') (h' : c = c') : Ending.returned (.tuple #[.slice A n c, .int .i64 z]) = .returned (.tuple #[.slice A n' c', .int .i64 z]) := by rw [h, h']
section
variable {w : World} {S : Nat → Prop} {bm made fail : Nat} {st : Nat → Option RG} {rl : List Nat} {mv rv : Value}
theorem find_null (h : KM w S bm made fail st rl mv rv) (n o : Nat) (hn : n ≤ 4294967295) (ho : o ≤ 4294967295) (k p : Int) (hm : n = 0 ∨ made < n) :
    Calls Try.prog 26 #[.pointer (some ⟨bm, 0, none⟩), .int .u64 (addr n o), .int .i64 k, .int .i64 p] w fun e w' => e = .returned (.tuple #[.slice none 0 0, .int .i64 20]) ∧ w = w' := by
  have c1 := split_any n o hn ho w
  have c2 := live_null h n hn hm
  generalize addr n o = a at *
  clear h hm
  go_enter Try.func26, Try.ntmps26
  go_wp2_with (first
    | (go_at_call 36; refine c1.mono ?_; rintro e w' ⟨rfl, rfl⟩)
    | (go_at_call 37; refine c2.mono ?_; rintro e w' ⟨rfl, rfl⟩))
  go_ret2
  exact ⟨rfl, rfl⟩
theorem find_freed (h : KM w S bm made fail st rl mv rv) (n o : Nat) (hn : n ≤ 4294967295) (ho : o ≤ 4294967295) (k p : Int) (h0 : 0 < n) (hm : n ≤ made) (hs : st n = none) :
    Calls Try.prog 26 #[.pointer (some ⟨bm, 0, none⟩), .int .u64 (addr n o), .int .i64 k, .int .i64 p] w fun e w' => e = .returned (.tuple #[.slice none 0 0, .int .i64 21]) ∧ w = w' := by
  have c1 := split_any n o hn ho w
  have c2 := live_freed h n h0 hm hs
  generalize addr n o = a at *
  clear h hm hs
  go_enter Try.func26, Try.ntmps26
  go_wp2_with (first
    | (go_at_call 36; refine c1.mono ?_; rintro e w' ⟨rfl, rfl⟩)
    | (go_at_call 37; refine c2.mono ?_; rintro e w' ⟨rfl, rfl⟩))
  go_ret2
  exact ⟨rfl, rfl⟩
theorem find_perm (h : KM w S bm made fail st rl mv rv) (n o : Nat) (hn : n ≤ 4294967295) (ho : o ≤ 4294967295) (k p : Int) {r : RG} (hs : st n = some r) (hp : (bits .and .i64 r.perm p != p) = true) :
    Calls Try.prog 26 #[.pointer (some ⟨bm, 0, none⟩), .int .u64 (addr n o), .int .i64 k, .int .i64 p] w fun e w' => e = .returned (.tuple #[.slice none 0 0, .int .i64 23]) ∧ w = w' := by
  have c1 := split_any n o hn ho w
  have c2 := live_yes h n hs
  have d1 : w.cell? ⟨r.blk, 1, none⟩ = some (.int .i64 r.perm) := (h.regs n r hs).head.cell 1
  generalize addr n o = a at *
  generalize r.blk = rb at c2 d1
  generalize r.perm = rp at hp d1
  clear h hs
  go_enter Try.func26, Try.ntmps26
  go_wp2_with (first
    | (go_at_call 36; refine c1.mono ?_; rintro e w' ⟨rfl, rfl⟩)
    | (go_at_call 37; refine c2.mono ?_; rintro e w' ⟨rfl, rfl⟩))
  go_ret2
  exact ⟨rfl, rfl⟩
theorem find_bound (h : KM w S bm made fail st rl mv rv) (n o : Nat) (hn : n ≤ 4294967295) (ho : o ≤ 4294967295) (k : Nat) (hk : k ≤ 1048576) (p : Int) {r : RG} (hs : st n = some r) (hp : (bits .and .i64 r.perm p != p) = false) (hb : r.bytes.length < o + k) :
    Calls Try.prog 26 #[.pointer (some ⟨bm, 0, none⟩), .int .u64 (addr n o), .int .i64 (k : Int), .int .i64 p] w fun e w' => e = .returned (.tuple #[.slice none 0 0, .int .i64 22]) ∧ w = w' := by
  have c1 := split_any n o hn ho w
  have c2 := live_yes h n hs
  have d1 : w.cell? ⟨r.blk, 1, none⟩ = some (.int .i64 r.perm) := (h.regs n r hs).head.cell 1
  have d0 : w.cell? ⟨r.blk, 0, none⟩ = some (.int .i64 r.bytes.length) := (h.regs n r hs).head.cell 0
  have hle := (h.regs n r hs).le
  generalize addr n o = a at *
  generalize r.blk = rb at c2 d1 d0
  generalize r.perm = rp at hp d1
  generalize r.bytes.length = len at hb d0 hle
  clear h hs
  have h9 : decide ((len : Int) < (o : Int) + (k : Int)) = true := by simp; omega
  go_enter Try.func26, Try.ntmps26
  go_wp2_with (first
    | (go_at_call 36; refine c1.mono ?_; rintro e w' ⟨rfl, rfl⟩)
    | (go_at_call 37; refine c2.mono ?_; rintro e w' ⟨rfl, rfl⟩))
  go_ret2
  exact ⟨rfl, rfl⟩
def FindPost (w : World) (S : Nat → Prop) (bm made fail : Nat) (st : Nat → Option RG) (rl : List Nat) (mv rv : Value) (n o k : Nat) (r : RG) (e : Ending) (w' : World) : Prop :=
  ∃ (g : Nat) (A : Addr), e = .returned (.tuple #[.slice (some A) k (r.bytes.length - o), .int .i64 0]) ∧ (0 < k → A = ⟨g, o, none⟩) ∧ AllPost w S bm made fail st rl mv rv n r w' g
theorem find_ok (h : KM w S bm made fail st rl mv rv) (n o : Nat) (hn : n ≤ 4294967295) (ho : o ≤ 4294967295) (k : Nat) (hk : k ≤ 1048576) (p : Int) {r : RG} (hs : st n = some r) (hp : (bits .and .i64 r.perm p != p) = false) (hb : o + k ≤ r.bytes.length) :
    Calls Try.prog 26 #[.pointer (some ⟨bm, 0, none⟩), .int .u64 (addr n o), .int .i64 (k : Int), .int .i64 p] w (FindPost w S bm made fail st rl mv rv n o k r) := by
  have c1 := split_any n o hn ho w
  have c2 := live_yes h n hs
  have c3 := all_any h n hs
  have d1 : w.cell? ⟨r.blk, 1, none⟩ = some (.int .i64 r.perm) := (h.regs n r hs).head.cell 1
  have d0 : w.cell? ⟨r.blk, 0, none⟩ = some (.int .i64 r.bytes.length) := (h.regs n r hs).head.cell 0
  have hle := (h.regs n r hs).le
  have HF : Hid (∀ (e : Ending) (w' : World) (g : Nat) (A : Addr), e = .returned (.tuple #[.slice (some A) k (r.bytes.length - o), .int .i64 0]) → (0 < k → A = ⟨g, o, none⟩) → AllPost w S bm made fail st rl mv rv n r w' g → FindPost w S bm made fail st rl mv rv n o k r e w') :=
    fun e w' g A h1 h2 h3 => ⟨g, A, h1, h2, h3⟩
  generalize FindPost w S bm made fail st rl mv rv n o k r = post at HF ⊢
  generalize AllPost w S bm made fail st rl mv rv n r = apost at HF c3
  generalize addr n o = a at *
  generalize r.blk = rb at c2 c3 d1 d0
  generalize r.perm = rp at hp d1
  generalize r.bytes.length = len at hb d0 hle c3 HF
  clear h hs
  have h9 : decide ((len : Int) < (o : Int) + (k : Int)) = false := by simp; omega
  rcases Nat.lt_or_ge o len with hol | hol
  · have hne : ¬ len = o := by omega
    have hne2 : ¬ o = len := by omega
    go_enter Try.func26, Try.ntmps26
    go_wp2_with (first
      | (go_at_call 36; refine c1.mono ?_; rintro e w' ⟨rfl, rfl⟩)
      | (go_at_call 37; refine c2.mono ?_; rintro e w' ⟨rfl, rfl⟩)
      | (go_at_call 38; refine c3.mono ?_; rintro e w' ⟨g, rfl, ha⟩; have HA := Lib.hid ha; clear ha))
    refine HF.out _ _ g ⟨g, o, none⟩ ?_ (fun _ => rfl) HA.out
    exact ret_sl (by omega) (by omega)
  · have e1 : len = o := by omega
    have e2 : k = 0 := by omega
    subst e1
    subst e2
    go_enter Try.func26, Try.ntmps26
    go_wp2_with (first
      | (go_at_call 36; refine c1.mono ?_; rintro e w' ⟨rfl, rfl⟩)
      | (go_at_call 37; refine c2.mono ?_; rintro e w' ⟨rfl, rfl⟩)
      | (go_at_call 38; refine c3.mono ?_; rintro e w' ⟨g, rfl, ha⟩; have HA := Lib.hid ha; clear ha))
    refine HF.out _ _ g ⟨g, 0, none⟩ ?_ (fun h => absurd h (by omega)) HA.out
    exact ret_sl (by omega) (by omega)
end
end Go.Proofs.Ytdihlmhipkcedaa
