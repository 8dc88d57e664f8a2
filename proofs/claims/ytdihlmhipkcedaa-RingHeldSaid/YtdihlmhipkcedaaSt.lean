/-
  The state of a kmem.Mem: what its struct, its map, its regions' structs and their rows of bytes hold ('KM'); the functions that only look.
-/
import Derived.Test.YtdihlmhipkcedaaKm
namespace Go.Proofs.Ytdihlmhipkcedaa
open Go Go.RowKit Go.Maps
set_option linter.unusedVariables false

def byteV (b : UInt8) : Value := .int .u8 (b.toNat : Int)
/-- A live region as it lies: its struct's block, what may be done, the block of its bytes (none until somebody looks at them), the bytes, is it retired? -/
structure RG where
  blk : Nat
  perm : Int
  row : Option Nat
  bytes : List UInt8
  ret : Bool
def RG.sl (r : RG) : Value := match r.row with
  | none => .slice none 0 0
  | some g => .slice (some ⟨g, 0, none⟩) r.bytes.length r.bytes.length
structure RG.At (w : World) (r : RG) : Prop where
  head : Blk w r.blk 80 #[.int .i64 r.bytes.length, .int .i64 r.perm, r.sl, .bool r.ret]
  rows : ∀ g, r.row = some g → Blk w g 5 (r.bytes.map byteV).toArray
  zero : r.row = none → r.bytes = List.replicate r.bytes.length 0
  pos : 0 < r.bytes.length
  le : r.bytes.length ≤ 1048576
  p1 : 1 ≤ r.perm
  p3 : r.perm ≤ 3
theorem RG.At.keeps {w w' : World} {r : RG} {T : Nat → Prop} (h : r.At w) (k : Keeps T w w') (h1 : ¬ T r.blk) (h2 : ∀ g, r.row = some g → ¬ T g) : r.At w' :=
  ⟨h.head.keeps k h1, fun g hg => (h.rows g hg).keeps k (h2 g hg), h.zero, h.pos, h.le, h.p1, h.p3⟩

def ptrOf : Option RG → Value
  | none => .pointer none
  | some r => .pointer (some ⟨r.blk, 0, none⟩)
/-- How an element of the map reads: as it is. -/
def heldV (v : Value) : Option (DataW Value × List MemPlace) := some (.held v, [])
/-- What the map's datum says: which number leads to which region. -/
structure MapOf (D : DataW Value) (st : Nat → Option RG) : Prop where
  isMap : IsMap D
  at_ : ∀ n : Nat, D.atKey (.int .u32 (n : Int)) (.held (.pointer none)) = .held (ptrOf (st n))
  has_ : ∀ n : Nat, Maps.has D (.int .u32 (n : Int)) = (st n).isSome
def MapIs (w : World) (S : Nat → Prop) (mv : Value) (made : Nat) (st : Nat → Option RG) : Prop :=
  (mv = .map none ∧ ∀ n, st n = none) ∨
  ∃ b D, mv = .map (some b) ∧ S b ∧ w.ownsMap Try.prog 48 heldV b made D ∧ MapOf D st
def upd (st : Nat → Option RG) (n : Nat) (r : Option RG) : Nat → Option RG := fun k => if k = n then r else st k
theorem upd_same (st : Nat → Option RG) (n : Nat) (r : Option RG) : upd st n r n = r := by simp [upd]
theorem upd_other (st : Nat → Option RG) {n k : Nat} (r : Option RG) (h : k ≠ n) : upd st n r k = st k := by simp [upd, h]

structure KM (w : World) (S : Nat → Prop) (bm made fail : Nat) (st : Nat → Option RG) (rl : List Nat) (mv rv : Value) : Prop where
  mem : Blk w bm 51 #[mv, .int .u32 made, rv, .int .i64 fail]
  map : MapIs w S mv made st
  range : ∀ n r, st n = some r → 1 ≤ n ∧ n ≤ made
  regs : ∀ n r, st n = some r → r.At w
  inj : ∀ n n' r r', st n = some r → st n' = some r' → r.blk = r'.blk → n = n'
  injr : ∀ n n' r r' g, st n = some r → st n' = some r' → r.row = some g → r'.row = some g → n = n'
  ret : w.ownsRow 0 48 1 rv rl.length (rl.map fun n : Nat => Value.int .u32 (n : Int))
  retM : ∀ n, n ∈ rl ↔ ∃ r, st n = some r ∧ r.ret = true
  retN : rl.Nodup
  sbm : S bm
  sreg : ∀ n r, st n = some r → S r.blk ∧ ∀ g, r.row = some g → S g
  srv : ∀ g, rv.ownBlock = some g → S g
  lt : ∀ b, S b → b < w.heap.size
  made_le : made ≤ 4096
  fail_le : fail ≤ 1048576

theorem ownsMap_block {w w' : World} {P : Program} {k : TypeId} {R : Value → Option (DataW Value × List MemPlace)} {b n : Nat} {D : DataW Value} (h : w.ownsMap P k R b n D) (hb : w'.heap[b]? = w.heap[b]?) : w'.ownsMap P k R b n D := by
  obtain ⟨es, clock, h1, F, hs, hD⟩ := h
  exact ⟨es, clock, hb.trans h1, F, hs, hD⟩
theorem ownsRow_block {w w' : World} {base : Nat} {e : TypeId} {size : Nat} {v : Value} {n : Nat} {xs : List Value} (h : w.ownsRow base e size v n xs) (hb : ∀ g, v.ownBlock = some g → w'.heap[g]? = w.heap[g]?) : w'.ownsRow base e size v n xs := by
  refine ⟨h.1, ?_⟩
  rcases h.2 with hn | ⟨g, cap, cur, rfl, h1, h2, rest⟩
  · exact .inl hn
  · exact .inr ⟨g, cap, cur, rfl, h1, (hb g rfl).trans h2, rest⟩

section
variable {w w' : World} {S T : Nat → Prop} {bm made fail : Nat} {st : Nat → Option RG} {rl : List Nat} {mv rv : Value}
/-- The memory stays what it is while other blocks are written and new ones are made. -/
theorem KM.keeps (h : KM w S bm made fail st rl mv rv) (k : Keeps T w w') (hd : ∀ b, S b → ¬ T b) : KM w' S bm made fail st rl mv rv where
  mem := h.mem.keeps k (hd _ h.sbm)
  map := by
    rcases h.map with h1 | ⟨b, D, e, hb, ho, hm⟩
    · exact .inl h1
    · exact .inr ⟨b, D, e, hb, ownsMap_block ho (k.block b (h.lt b hb) (hd b hb)), hm⟩
  range := h.range
  regs n r hr := (h.regs n r hr).keeps k (hd _ (h.sreg n r hr).1) (fun g hg => hd _ ((h.sreg n r hr).2 g hg))
  inj := h.inj
  injr := h.injr
  ret := ownsRow_block h.ret (fun g hg => k.block g (h.lt g (h.srv g hg)) (hd g (h.srv g hg)))
  retM := h.retM
  retN := h.retN
  sbm := h.sbm
  sreg := h.sreg
  srv := h.srv
  lt b hb := Nat.lt_of_lt_of_le (h.lt b hb) k.size
  made_le := h.made_le
  fail_le := h.fail_le
theorem KM.mono (h : KM w S bm made fail st rl mv rv) (hS : ∀ b, S b → T b) (hl : ∀ b, T b → b < w.heap.size) : KM w T bm made fail st rl mv rv :=
  { h with
    map := by
      rcases h.map with h1 | ⟨b, D, e, hb, ho, hm⟩
      · exact .inl h1
      · exact .inr ⟨b, D, e, hS b hb, ho, hm⟩
    sbm := hS _ h.sbm
    sreg := fun n r hr => ⟨hS _ (h.sreg n r hr).1, fun g hg => hS _ ((h.sreg n r hr).2 g hg)⟩
    srv := fun g hg => hS _ (h.srv g hg)
    lt := hl }
theorem more_self (S : Nat → Prop) (w : World) (b : Nat) : more S w w b ↔ S b := by
  unfold more
  constructor
  · rintro (h | h)
    · exact h
    · omega
  · exact .inl
theorem KM.same (h : KM w S bm made fail st rl mv rv) : KM w (more S w w) bm made fail st rl mv rv :=
  h.mono (fun b hb => .inl hb) (fun b hb => h.lt b ((more_self S w b).1 hb))
end

theorem law32 : Keyed Try.prog 48 := int_keyed Try.underlying48
theorem zeroPtr (w : World) : (zeroValue 78).run Try.prog w = .ok (.pointer none) w := by kernel_rfl
theorem wf32 {n : Nat} (h : n ≤ 4294967295) : (Lit.int .u32 (n : Int)).wf = true := by go_wf
theorem key32 {n : Nat} (h : n ≤ 4294967295) : keyOf Try.prog 48 (.int .u32 (n : Int)) = some (.int .u32 (n : Int)) := keyOf_int_mk Try.underlying48 (wf32 h)
/-- What a look-up in the field's map gives, whatever map. -/
theorem look_run {w : World} {S : Nat → Prop} {mv : Value} {made : Nat} {st : Nat → Option RG} (h : MapIs w S mv made st) {n : Nat} (hn : n ≤ 4294967295) :
    (Instr.lookup 47 mv (.int .u32 (n : Int)) false).run Try.prog w = .ok (ptrOf (st n)) w := by
  rcases h with ⟨rfl, h0⟩ | ⟨b, D, rfl, _, ho, hm⟩
  · rw [h0 n]
    exact look_nil false law32 Try.underlying47 (zeroPtr w) (key32 hn)
  · obtain ⟨v, ps, hrun, hv⟩ := ho.lookup law32 Try.underlying47 (zeroPtr w) (zd := .held (.pointer none)) (zp := []) rfl (key32 hn)
    rw [hm.at_ n] at hv
    have : v = ptrOf (st n) := by
      have h1 := congrArg (fun x => x.map Prod.fst) hv
      simp [heldV] at h1
      exact h1
    rw [← this]
    exact hrun

section
variable {w : World} {S : Nat → Prop} {bm made fail : Nat} {st : Nat → Option RG} {rl : List Nat} {mv rv : Value}
theorem beginsAt_off (p : Option Addr) (n o : Nat) (hn : n ≤ 4294967295) (ho : o ≤ 4294967295) (h1 : 0 < o) (w : World) :
    Calls Try.prog 40 #[.pointer p, .int .u64 (addr n o)] w fun e w' => e = .returned (.pointer none) ∧ w = w' := by
  have h3 : ((o : Int) != 0) = true := by simp; omega
  rcases p with _ | p
  all_goals
    go_enter Try.func40, Try.ntmps40
    go_wp2_with (go_at_call 36; refine (split_any n o hn ho _).mono ?_; rintro e w' ⟨rfl, rfl⟩)
    go_ret
    exact ⟨rfl, rfl⟩
theorem beginsAt_nil (n o : Nat) (hn : n ≤ 4294967295) (ho : o ≤ 4294967295) (w : World) :
    Calls Try.prog 40 #[.pointer none, .int .u64 (addr n o)] w fun e w' => e = .returned (.pointer none) ∧ w = w' := by
  go_enter Try.func40, Try.ntmps40
  go_wp2_with (go_at_call 36; refine (split_any n o hn ho _).mono ?_; rintro e w' ⟨rfl, rfl⟩)
  go_ret
  exact ⟨rfl, rfl⟩
theorem beginsAt_at (h : KM w S bm made fail st rl mv rv) (n : Nat) (hn : n ≤ 4294967295) :
    Calls Try.prog 40 #[.pointer (some ⟨bm, 0, none⟩), .int .u64 (addr n 0)] w fun e w' => e = .returned (ptrOf (st n)) ∧ w = w' := by
  have hl := look_run h.map hn
  have c0 : w.cell? ⟨bm, 0, none⟩ = some mv := h.mem.cell 0
  have c := split_any n 0 hn (by omega) w
  generalize ptrOf (st n) = pv at *
  generalize addr n 0 = a at *
  clear h
  go_enter Try.func40, Try.ntmps40
  go_wp2_with (go_at_call 36; refine c.mono ?_; rintro e w' ⟨rfl, rfl⟩)
  go_ret
  exact ⟨rfl, rfl⟩
theorem live_null (h : KM w S bm made fail st rl mv rv) (n : Nat) (hn : n ≤ 4294967295) (hm : n = 0 ∨ made < n) :
    Calls Try.prog 37 #[.pointer (some ⟨bm, 0, none⟩), .int .u32 (n : Int)] w fun e w' => e = .returned (.tuple #[.pointer none, .int .i64 20]) ∧ w = w' := by
  have c1 : w.cell? ⟨bm, 1, none⟩ = some (.int .u32 made) := h.mem.cell 1
  have hle := h.made_le
  clear h
  by_cases h0 : n = 0
  · subst h0
    go_enter Try.func37, Try.ntmps37
    go_wp2
    go_ret2
    exact ⟨rfl, rfl⟩
  · have h1 : ((n : Int) == 0) = false := by simp; omega
    have h2 : decide (made < n) = true := by simp; omega
    have h3 : made < n := by omega
    clear hm
    go_enter Try.func37, Try.ntmps37
    go_wp2
    go_ret2
    exact ⟨rfl, rfl⟩
theorem live_freed (h : KM w S bm made fail st rl mv rv) (n : Nat) (h0 : 0 < n) (hm : n ≤ made) (hs : st n = none) :
    Calls Try.prog 37 #[.pointer (some ⟨bm, 0, none⟩), .int .u32 (n : Int)] w fun e w' => e = .returned (.tuple #[.pointer none, .int .i64 21]) ∧ w = w' := by
  have c1 : w.cell? ⟨bm, 1, none⟩ = some (.int .u32 made) := h.mem.cell 1
  have c0 : w.cell? ⟨bm, 0, none⟩ = some mv := h.mem.cell 0
  have hle := h.made_le
  have hl := look_run h.map (n := n) (by omega)
  rw [hs] at hl
  unfold ptrOf at hl
  clear h hs
  have h1 : ((n : Int) == 0) = false := by simp; omega
  have h2 : decide (made < n) = false := by simp; omega
  go_enter Try.func37, Try.ntmps37
  go_wp2
  go_ret2
  exact ⟨rfl, rfl⟩
theorem live_yes (h : KM w S bm made fail st rl mv rv) (n : Nat) {r : RG} (hs : st n = some r) :
    Calls Try.prog 37 #[.pointer (some ⟨bm, 0, none⟩), .int .u32 (n : Int)] w fun e w' => e = .returned (.tuple #[.pointer (some ⟨r.blk, 0, none⟩), .int .i64 0]) ∧ w = w' := by
  have c1 : w.cell? ⟨bm, 1, none⟩ = some (.int .u32 made) := h.mem.cell 1
  have c0 : w.cell? ⟨bm, 0, none⟩ = some mv := h.mem.cell 0
  have hle := h.made_le
  obtain ⟨h0, hm⟩ := h.range n r hs
  have hl := look_run h.map (n := n) (by omega)
  rw [hs] at hl
  change _ = Result.ok (Value.pointer (some ⟨r.blk, 0, none⟩)) w at hl
  generalize r.blk = g at hl ⊢
  clear h hs
  have h1 : ((n : Int) == 0) = false := by simp; omega
  have h2 : decide (made < n) = false := by simp; omega
  go_enter Try.func37, Try.ntmps37
  go_wp2
  go_ret2
  exact ⟨rfl, rfl⟩
end
end Go.Proofs.Ytdihlmhipkcedaa
