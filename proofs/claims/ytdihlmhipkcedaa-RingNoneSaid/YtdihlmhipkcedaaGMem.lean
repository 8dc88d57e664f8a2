/-
  The program's memory, call by call, each with its plain effect on any plain memory: what a ring wants (kmem's texts and hash's, in short).
-/
import Derived.Test.YtdihlmhipkcedaaRetire
namespace Go.Proofs.Ytdihlmhipkcedaa
open Go Go.RowKit Go.Maps
set_option linter.unusedVariables false
set_option linter.unusedSimpArgs false
abbrev RV := Int × List UInt8 × Bool
def updv (vs : Nat → Option RV) (n : Nat) (r : Option RV) : Nat → Option RV := fun k => if k = n then r else vs k
/-- What a memory holds, plainly. -/
structure PS where
  made : Nat
  fail : Nat
  vs : Nat → Option RV
def KSide (w : World) (S : Nat → Prop) (bm : Nat) (m : PS) : Prop := ∃ st rl mv rv, KM w S bm m.made m.fail st rl mv rv ∧ ∀ n, (st n).map RG.v = m.vs n
/-- From plain state m the call answers e0 and leads to m'. -/
def KCall (f : FuncId) (args : Array Value) (bm : Nat) (m m' : PS) (e0 : Ending) : Prop := ∀ w S, KSide w S bm m → Calls Try.prog f args w fun e w' => e = e0 ∧ KSide w' (more S w w') bm m' ∧ Keeps S w w'
theorem upd_v {st : Nat → Option RG} {vs : Nat → Option RV} (h : ∀ n, (st n).map RG.v = vs n) (n : Nat) (r : Option RG) {q : Option RV} (hq : r.map RG.v = q) : ∀ k, (upd st n r k).map RG.v = updv vs n q k := by
  intro k
  unfold upd updv
  split
  · exact hq
  · exact h k
theorem st_some {st : Nat → Option RG} {vs : Nat → Option RV} (h : ∀ n, (st n).map RG.v = vs n) {n : Nat} {q : RV} (hn : vs n = some q) : ∃ r, st n = some r ∧ r.v = q := by
  have := h n
  rw [hn] at this
  rcases hs : st n with _ | r
  · rw [hs] at this; cases this
  · rw [hs] at this; exact ⟨r, rfl, Option.some.inj this⟩
theorem updv_same (vs : Nat → Option RV) (n : Nat) (q : Option RV) : updv vs n q n = q := by simp [updv]
theorem updv_other (vs : Nat → Option RV) {n k : Nat} (q : Option RV) (h : k ≠ n) : updv vs n q k = vs k := by simp [updv, h]
theorem updv_id {vs : Nat → Option RV} {n : Nat} {q : Option RV} (h : vs n = q) : updv vs n q = vs := by
  funext k
  unfold updv
  split
  · rename_i e; subst e; exact h.symm
  · rfl
/-- Region n is q from now on. -/
def PS.set (m : PS) (n : Nat) (q : Option RV) : PS := { m with vs := updv m.vs n q }
def PS.grown (m : PS) (k : Nat) : PS := ⟨m.made + 1, m.fail - 1, updv m.vs (m.made + 1) (some (3, List.replicate k 0, false))⟩
theorem KSide.lt' {w : World} {S : Nat → Prop} {bm : Nat} {m : PS} (h : KSide w S bm m) : ∀ b, S b → b < w.heap.size := by
  obtain ⟨st, rl, mv, rv, hk, hv⟩ := h
  exact hk.lt
theorem KSide.keeps' {w w' : World} {S : Nat → Prop} {bm : Nat} {m : PS} {U : Nat → Prop} (h : KSide w S bm m) (k : Keeps U w w') (hd : ∀ b, S b → ¬ U b) : KSide w' S bm m := by
  obtain ⟨st, rl, mv, rv, hk, hv⟩ := h
  exact ⟨st, rl, mv, rv, hk.keeps k hd, hv⟩
theorem kside_new (W : World) : KSide (W.alloc (.cells #[.map none, .int .u32 0, .slice none 0 0, .int .i64 0] 51)) (fun b => b = W.heap.size) W.heap.size ⟨0, 0, fun _ => none⟩ := by
  refine ⟨fun _ => none, [], .map none, .slice none 0 0, ?_, fun _ => rfl⟩
  exact {
    mem := by have := Blk.new W 51 #[.map none, .int .u32 0, .slice none 0 0, .int .i64 0]; simpa using this
    map := .inl ⟨rfl, fun _ => rfl⟩
    range := fun n r h => by cases h
    regs := fun n r h => by cases h
    inj := fun n n' r r' h => by cases h
    injr := fun n n' r r' g h => by cases h
    ret := World.ownsRow_nil _ _ _ _
    retM := fun n => by simp
    retN := List.nodup_nil
    sbm := rfl
    sreg := fun n r h => by cases h
    srv := fun g h => by cases h
    lt := fun b h => by simp; omega
    made_le := by simp
    fail_le := by simp }
section
variable (bm : Nat) (m : PS)
theorem k_alloc (hf : m.fail ≠ 1) (hm : m.made < 4095) (k : Nat) (h1 : 1 ≤ k) (h2 : k ≤ 1048576) :
    KCall 24 #[.pointer (some ⟨bm, 0, none⟩), .int .i64 k, .int .i64 3] bm m (m.grown k) (.returned (.tuple #[.int .u64 (addr (m.made + 1) 0), .int .i64 0])) := by
  rintro w S ⟨st, rl, mv, rv, hk, hv⟩
  refine (alloc_ok hk hf hm k 3 (by omega) (by omega) (by omega) (by omega)).mono ?_
  rintro e w' ⟨rfl, r, mv', hk', kk, e1, e2, e3, e4⟩
  exact ⟨rfl, ⟨_, _, _, _, hk', upd_v hv _ _ (by simp [RG.v, e1, e2, e3])⟩, kk⟩
theorem k_put (n : Nat) (hn : n ≤ 4294967295) (q : RV) (hs : m.vs n = some q) (l : List UInt8) (hl : l.length ≤ 1048576) (hb : l.length ≤ q.2.1.length) :
    KCall 14 #[.pointer (some ⟨bm, 0, none⟩), .int .u64 (addr n 0), .string (bstr l)] bm m (m.set n (some (q.1, setAt q.2.1 0 l, q.2.2))) (.returned (.int .i64 0)) := by
  rintro w S ⟨st, rl, mv, rv, hk, hv⟩
  obtain ⟨r, hr, rfl⟩ := st_some hv hs
  refine (put_ok hk n 0 hn (by decide) l hl hr (by rw [Nat.zero_add]; exact hb)).mono ?_
  rintro e w' ⟨rfl, g, hk', kk⟩
  exact ⟨rfl, ⟨_, _, _, _, hk', upd_v hv n _ rfl⟩, kk⟩
theorem k_bytes (n : Nat) (hn : n ≤ 4294967295) (q : RV) (hs : m.vs n = some q) (hl : q.2.1.length ≤ 1048576) :
    KCall 28 #[.pointer (some ⟨bm, 0, none⟩), .int .u64 (addr n 0), .int .i64 q.2.1.length] bm m m (.returned (.tuple #[.string (bstr q.2.1), .int .i64 0])) := by
  rintro w S ⟨st, rl, mv, rv, hk, hv⟩
  obtain ⟨r, hr, rfl⟩ := st_some hv hs
  refine (bytes_ok hk n 0 hn (by decide) r.bytes.length hl hr (by omega)).mono ?_
  rintro e w' ⟨rfl, g, hk', kk, _⟩
  refine ⟨by rw [List.drop_zero, List.take_length]; rfl, ⟨_, _, _, _, hk', ?_⟩, kk⟩
  have h1 := upd_v hv n (some { r with row := some g }) (q := some (RG.v r)) rfl
  rw [updv_id hs] at h1
  exact h1
theorem k_retire (n : Nat) (q : RV) (hs : m.vs n = some q) (hq : q.2.2 = false) :
    KCall 39 #[.pointer (some ⟨bm, 0, none⟩), .int .u64 (addr n 0)] bm m (m.set n (some (q.1, q.2.1, true))) (.returned (.int .i64 0)) := by
  rintro w S ⟨st, rl, mv, rv, hk, hv⟩
  obtain ⟨r, hr, hq'⟩ := st_some hv hs
  subst hq'
  refine (retire_ok hk n hr hq).mono ?_
  rintro e w' ⟨rfl, v', hk', kk⟩
  exact ⟨rfl, ⟨_, _, _, _, hk', upd_v hv n _ rfl⟩, kk⟩
end
end Go.Proofs.Ytdihlmhipkcedaa
