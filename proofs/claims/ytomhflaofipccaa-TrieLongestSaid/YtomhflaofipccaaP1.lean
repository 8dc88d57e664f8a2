/-
  Package kmem's memory as it lies in the heap: words for blocks that are known whole, for a world that keeps all but some blocks, and what each small function returns. The state of a kmem.Mem: what its struct, its map, its regions' structs and their rows of bytes hold ('KM'); the functions that only look. The functions that lead to a region's bytes (all, find), and the ones that make regions (Alloc). find: the bytes at an address, or the fault.
-/
import Derived.Test.YtomhflaofipccaaRows
import Derived.WalkKit
import Derived.Maps.OwnSet
import Derived.Lib.Hide
import Derived.Deep.Draws
import Derived.Laws.Rows
import Derived.WalkSpells
import Derived.IntWalk
import Derived.Lib.SliceRun
namespace Go.Proofs.Ytomhflaofipccaa
open Go Go.RowKit Go.Maps
set_option linter.unusedVariables false

/-- Block g holds just the cells cs of type t; none is frozen. -/
def Blk (w : World) (g : Nat) (t : TypeId) (cs : Array Value) : Prop := w.heap[g]? = some (.cells cs t (0, 0))
section
variable {w w' : World} {g : Nat} {t : TypeId} {cs : Array Value}
theorem Blk.lt (h : Blk w g t cs) : g < w.heap.size := by
  rcases Nat.lt_or_ge g w.heap.size with hlt | hge
  · exact hlt
  · unfold Blk at h; rw [Array.getElem?_eq_none hge] at h; cases h
theorem Blk.cell (h : Blk w g t cs) (i : Nat) : w.cell? ⟨g, i, none⟩ = cs[i]? := cell_of_row w g i cs t (0, 0) h
theorem Blk.frozen (h : Blk w g t cs) (i : Nat) : w.frozen? ⟨g, i, none⟩ = false := by
  unfold Blk at h
  simp [World.frozen?, h]
theorem Blk.new (w : World) (t : TypeId) (cs : Array Value) : Blk (w.alloc (.cells cs t)) w.heap.size t cs := heap_alloc_new w _
theorem Blk.alloc (h : Blk w g t cs) (o : Obj) : Blk (w.alloc o) g t cs := (Below.heap_alloc w o g h.lt).trans h
theorem Blk.set_ (h : Blk w g t cs) (i : Nat) (u : Value) : Blk (w.setCell ⟨g, i, none⟩ u) g t (cs.setIfInBounds i u) := by
  unfold Blk at h ⊢
  simp [World.setCell, Array.getElem?_modify, h]
theorem Blk.far (h : Blk w g t cs) {p : Addr} (hp : g ≠ p.block) (u : Value) : Blk (w.setCell p u) g t cs := (Below.heap_setCell w p u g hp).trans h
theorem Blk.ne_ {g' : Nat} {t' : TypeId} {cs' : Array Value} (h : Blk w g t cs) (h' : Blk w g' t' cs') (hne : t ≠ t') : g ≠ g' := by
  rintro rfl
  unfold Blk at h h'
  rw [h] at h'
  injection h' with h'
  injection h' with _ ht
  exact hne ht
end

/-- w' is w but for the blocks of S and new ones. -/
structure Keeps (S : Nat → Prop) (w w' : World) : Prop where
  os : w'.os = w.os
  tape : w'.tape = w.tape
  output : w'.output = w.output
  size : w.heap.size ≤ w'.heap.size
  block : ∀ k, k < w.heap.size → ¬ S k → w'.heap[k]? = w.heap[k]?
section
variable {S T : Nat → Prop} {a w w' : World}
theorem Keeps.refl (S : Nat → Prop) (w : World) : Keeps S w w := ⟨rfl, rfl, rfl, Nat.le_refl _, fun _ _ _ => rfl⟩
/-- The blocks of S, and those that were made from w to w'. -/
def more (S : Nat → Prop) (w w' : World) : Nat → Prop := fun b => S b ∨ (w.heap.size ≤ b ∧ b < w'.heap.size)
theorem Keeps.trans {b c : World} (h : Keeps S a b) (k : Keeps (more S a b) b c) : Keeps S a c :=
  ⟨k.os.trans h.os, k.tape.trans h.tape, k.output.trans h.output, Nat.le_trans h.size k.size, fun i hi hs => (k.block i (Nat.lt_of_lt_of_le hi h.size) (by
    rintro (h1 | ⟨h1, _⟩)
    · exact hs h1
    · omega)).trans (h.block i hi hs)⟩
theorem Keeps.mono (h : Keeps S w w') (hS : ∀ b, S b → T b) : Keeps T w w' := ⟨h.os, h.tape, h.output, h.size, fun i hi hs => h.block i hi (fun h1 => hs (hS i h1))⟩
theorem Keeps.drew (h : Keeps S a w) : Keeps S a w.drew := ⟨h.os, h.tape, h.output, h.size, h.block⟩
theorem Keeps.alloc (h : Keeps S a w) (o : Obj) : Keeps S a (w.alloc o) :=
  ⟨h.os, h.tape, h.output, by have := h.size; simp; omega, fun k hk hs => (Below.heap_alloc w o k (Nat.lt_of_lt_of_le hk h.size)).trans (h.block k hk hs)⟩
theorem Keeps.setCell (h : Keeps S a w) {p : Addr} (hp : S p.block ∨ a.heap.size ≤ p.block) (u : Value) : Keeps S a (w.setCell p u) :=
  ⟨h.os, h.tape, h.output, by have := h.size; simp [World.setCell]; omega, fun k hk hs => (Below.heap_setCell w p u k (by
    rintro rfl
    rcases hp with h1 | h1
    · exact hs h1
    · omega)).trans (h.block k hk hs)⟩
theorem Keeps.grown {row : Option Nat} (h : Keeps S a w) (hg : w.grownBy w' row) (hr : ∀ k, row = some k → S k ∨ a.heap.size ≤ k) : Keeps S a w' :=
  ⟨hg.os.trans h.os, hg.tape.trans h.tape, hg.output.trans h.output, Nat.le_trans h.size hg.size, fun k hk hs => (hg.block k (Nat.lt_of_lt_of_le hk h.size) (by
    intro e
    rcases hr k e.symm with h1 | h1
    · exact hs h1
    · omega)).trans (h.block k hk hs)⟩
theorem Keeps.below {B : Nat} (h : Keeps S w w') (hS : ∀ b, S b → B ≤ b) (hB : B ≤ w.heap.size) : Below B w w' :=
  ⟨h.os, h.tape, h.output, h.size, fun k hk => h.block k (by omega) (fun hs => by have := hS k hs; omega)⟩
theorem Below.keeps {B : Nat} (h : Below B w w') (hS : ∀ b, B ≤ b → b < w.heap.size → S b) : Keeps S w w' :=
  ⟨h.os, h.tape, h.output, h.size, fun k hk hs => h.block k (by
    rcases Nat.lt_or_ge k B with h1 | h1
    · exact h1
    · exact absurd (hS k h1 hk) hs)⟩
theorem Blk.keeps {g : Nat} {t : TypeId} {cs : Array Value} (h : Blk w g t cs) (k : Keeps S w w') (hs : ¬ S g) : Blk w' g t cs := (k.block g h.lt hs).trans h
end

theorem ret_int {k : IntKind} {a b : Int} (h : a = b) : Ending.returned (.int k a) = .returned (.int k b) := by rw [h]

/-! ### the small functions -/
/-- The address of offset o in region n. -/
def addr (n o : Nat) : Int := (n : Int) * 4294967296 + (o : Int)
theorem addr_bd {n o : Nat} (hn : n ≤ 4294967295) (ho : o ≤ 4294967295) : 0 ≤ addr n o ∧ addr n o ≤ 18446744073709551615 ∧ addr n o / 4294967296 = (n : Int) ∧ addr n o % 4294967296 = (o : Int) := by
  unfold addr; omega
theorem addr_of (a : Int) (h0 : 0 ≤ a) (h1 : a ≤ 18446744073709551615) : ∃ n o : Nat, n ≤ 4294967295 ∧ o ≤ 4294967295 ∧ a = addr n o :=
  ⟨(a / 4294967296).toNat, (a % 4294967296).toNat, by omega, by omega, by unfold addr; omega⟩
theorem ret2_u32 {a b c d : Int} (h : a = c) (h' : b = d) : Ending.returned (.tuple #[.int .u32 a, .int .u32 b]) = .returned (.tuple #[.int .u32 c, .int .u32 d]) := by rw [h, h']
theorem split_any (n o : Nat) (hn : n ≤ 4294967295) (ho : o ≤ 4294967295) (w : World) :
    Calls Try.prog 40 #[.int .u64 (addr n o)] w fun e w' => e = .returned (.tuple #[.int .u32 n, .int .u32 o]) ∧ w = w' := by
  obtain ⟨h0, h1, h2, h3⟩ := addr_bd hn ho
  generalize addr n o = a at *
  have H2 := Lib.hid h2; have H3 := Lib.hid h3; clear h2 h3
  go_enter Try.func40, Try.ntmps40
  go_wp2
  go_ret2
  exact ⟨ret2_u32 H2.out H3.out, rfl⟩
theorem address_any (n : Nat) (h1 : n ≤ 4294967295) (w : World) :
    Calls Try.prog 53 #[.int .u32 n] w fun e w' => e = .returned (.int .u64 (addr n 0)) ∧ w = w' := by
  have h2 : Hid (addr n 0 = (n : Int) * 4294967296) := by unfold addr Hid; omega
  go_enter Try.func53, Try.ntmps53
  go_wp2
  go_ret
  exact ⟨ret_int h2.out.symm, rfl⟩
theorem isSize_yes (n : Int) (hn : n = 1 ∨ n = 2 ∨ n = 4 ∨ n = 8) (w : World) :
    Calls Try.prog 24 #[.int .i64 n] w fun e w' => e = .returned (.bool true) ∧ w = w' := by
  rcases hn with rfl | rfl | rfl | rfl
  all_goals
    go_enter Try.func24, Try.ntmps24
    go_wp2
    go_ret
    exact ⟨rfl, rfl⟩
theorem isSize_no (n : Int) (hn : ¬ (n = 1 ∨ n = 2 ∨ n = 4 ∨ n = 8)) (w : World) :
    Calls Try.prog 24 #[.int .i64 n] w fun e w' => e = .returned (.bool false) ∧ w = w' := by
  have h1 : (n == 1) = false := by simp; omega
  have h2 : (n == 2) = false := by simp; omega
  have h4 : (n == 4) = false := by simp; omega
  have h8 : (n == 8) = false := by simp; omega
  go_enter Try.func24, Try.ntmps24
  go_wp2
  go_ret
  exact ⟨rfl, rfl⟩
theorem new_any (w : World) :
    Calls Try.prog 7 #[] w fun e w' => e = .returned (.pointer (some ⟨w.heap.size, 0, none⟩)) ∧ w' = w.alloc (.cells #[.map none, .int .u32 0, .slice none 0 0, .int .i64 0] 56) := by
  go_enter Try.func7, Try.ntmps7
  go_wp2
  go_ret
  exact ⟨rfl, rfl⟩
theorem failsNow_no (bm : Nat) (m n r : Value) (w : World) (hb : Blk w bm 56 #[m, n, r, .int .i64 0]) :
    Calls Try.prog 52 #[.pointer (some ⟨bm, 0, none⟩)] w fun e w' => e = .returned (.bool false) ∧ w = w' := by
  have c3 : w.cell? ⟨bm, 3, none⟩ = some (.int .i64 0) := hb.cell 3
  go_enter Try.func52, Try.ntmps52
  go_wp2
  go_ret
  exact ⟨rfl, rfl⟩
theorem failsNow_yes (bm : Nat) (m n r : Value) (k : Nat) (h1 : k < 1048576) (w : World) (hb : Blk w bm 56 #[m, n, r, .int .i64 ((k : Int) + 1)]) :
    Calls Try.prog 52 #[.pointer (some ⟨bm, 0, none⟩)] w fun e w' => e = .returned (.bool ((k : Int) == 0)) ∧ w' = w.setCell ⟨bm, 3, none⟩ (.int .i64 k) := by
  have c3 : w.cell? ⟨bm, 3, none⟩ = some (.int .i64 ((k : Int) + 1)) := hb.cell 3
  have f3 : w.frozen? ⟨bm, 3, none⟩ = false := hb.frozen 3
  have h3 : ((k : Int) + 1 == 0) = false := by simp; omega
  go_enter Try.func52, Try.ntmps52
  go_wp2
  go_ret
  exact ⟨rfl, rfl⟩
end Go.Proofs.Ytomhflaofipccaa
namespace Go.Proofs.Ytomhflaofipccaa
open Go Go.RowKit Go.Maps
set_option linter.unusedVariables false

def byteV (b : UInt8) : Value := .int .u8 (b.toNat : Int)
/-- A live region as it lies: its struct's block, what may be done, the block of its bytes (none until somebody looks at them), the bytes, is it retired? -/
structure RG where
  blk : Nat
  perm : Int
  row : Option Nat
  bytes : List UInt8
  ret : Bool
def RG.sl (r : RG) : Value := match r.row with
  | none => .slice none 0 0
  | some g => .slice (some ⟨g, 0, none⟩) r.bytes.length r.bytes.length
structure RG.At (w : World) (r : RG) : Prop where
  head : Blk w r.blk 95 #[.int .i64 r.bytes.length, .int .i64 r.perm, r.sl, .bool r.ret]
  rows : ∀ g, r.row = some g → Blk w g 5 (r.bytes.map byteV).toArray
  zero : r.row = none → r.bytes = List.replicate r.bytes.length 0
  pos : 0 < r.bytes.length
  le : r.bytes.length ≤ 1048576
  p1 : 1 ≤ r.perm
  p3 : r.perm ≤ 3
theorem RG.At.keeps {w w' : World} {r : RG} {T : Nat → Prop} (h : r.At w) (k : Keeps T w w') (h1 : ¬ T r.blk) (h2 : ∀ g, r.row = some g → ¬ T g) : r.At w' :=
  ⟨h.head.keeps k h1, fun g hg => (h.rows g hg).keeps k (h2 g hg), h.zero, h.pos, h.le, h.p1, h.p3⟩

def ptrOf : Option RG → Value
  | none => .pointer none
  | some r => .pointer (some ⟨r.blk, 0, none⟩)
/-- How an element of the map reads: as it is. -/
def heldV (v : Value) : Option (DataW Value × List MemPlace) := some (.held v, [])
/-- What the map's datum says: which number leads to which region. -/
structure MapOf (D : DataW Value) (st : Nat → Option RG) : Prop where
  isMap : IsMap D
  at_ : ∀ n : Nat, D.atKey (.int .u32 (n : Int)) (.held (.pointer none)) = .held (ptrOf (st n))
  has_ : ∀ n : Nat, Maps.has D (.int .u32 (n : Int)) = (st n).isSome
def MapIs (w : World) (S : Nat → Prop) (mv : Value) (made : Nat) (st : Nat → Option RG) : Prop :=
  (mv = .map none ∧ ∀ n, st n = none) ∨
  ∃ b D, mv = .map (some b) ∧ S b ∧ w.ownsMap Try.prog 53 heldV b made D ∧ MapOf D st
def upd (st : Nat → Option RG) (n : Nat) (r : Option RG) : Nat → Option RG := fun k => if k = n then r else st k
theorem upd_same (st : Nat → Option RG) (n : Nat) (r : Option RG) : upd st n r n = r := by simp [upd]
theorem upd_other (st : Nat → Option RG) {n k : Nat} (r : Option RG) (h : k ≠ n) : upd st n r k = st k := by simp [upd, h]

structure KM (w : World) (S : Nat → Prop) (bm made fail : Nat) (st : Nat → Option RG) (rl : List Nat) (mv rv : Value) : Prop where
  mem : Blk w bm 56 #[mv, .int .u32 made, rv, .int .i64 fail]
  map : MapIs w S mv made st
  range : ∀ n r, st n = some r → 1 ≤ n ∧ n ≤ made
  regs : ∀ n r, st n = some r → r.At w
  inj : ∀ n n' r r', st n = some r → st n' = some r' → r.blk = r'.blk → n = n'
  injr : ∀ n n' r r' g, st n = some r → st n' = some r' → r.row = some g → r'.row = some g → n = n'
  ret : w.ownsRow 0 53 1 rv rl.length (rl.map fun n : Nat => Value.int .u32 (n : Int))
  retM : ∀ n, n ∈ rl ↔ ∃ r, st n = some r ∧ r.ret = true
  retN : rl.Nodup
  sbm : S bm
  sreg : ∀ n r, st n = some r → S r.blk ∧ ∀ g, r.row = some g → S g
  srv : ∀ g, rv.ownBlock = some g → S g
  lt : ∀ b, S b → b < w.heap.size
  made_le : made ≤ 4096
  fail_le : fail ≤ 1048576

theorem ownsMap_block {w w' : World} {P : Program} {k : TypeId} {R : Value → Option (DataW Value × List MemPlace)} {b n : Nat} {D : DataW Value} (h : w.ownsMap P k R b n D) (hb : w'.heap[b]? = w.heap[b]?) : w'.ownsMap P k R b n D := by
  obtain ⟨es, clock, h1, F, hs, hD⟩ := h
  exact ⟨es, clock, hb.trans h1, F, hs, hD⟩
theorem ownsRow_block {w w' : World} {base : Nat} {e : TypeId} {size : Nat} {v : Value} {n : Nat} {xs : List Value} (h : w.ownsRow base e size v n xs) (hb : ∀ g, v.ownBlock = some g → w'.heap[g]? = w.heap[g]?) : w'.ownsRow base e size v n xs := by
  refine ⟨h.1, ?_⟩
  rcases h.2 with hn | ⟨g, cap, cur, rfl, h1, h2, rest⟩
  · exact .inl hn
  · exact .inr ⟨g, cap, cur, rfl, h1, (hb g rfl).trans h2, rest⟩

section
variable {w w' : World} {S T : Nat → Prop} {bm made fail : Nat} {st : Nat → Option RG} {rl : List Nat} {mv rv : Value}
/-- The memory stays what it is while other blocks are written and new ones are made. -/
theorem KM.keeps (h : KM w S bm made fail st rl mv rv) (k : Keeps T w w') (hd : ∀ b, S b → ¬ T b) : KM w' S bm made fail st rl mv rv where
  mem := h.mem.keeps k (hd _ h.sbm)
  map := by
    rcases h.map with h1 | ⟨b, D, e, hb, ho, hm⟩
    · exact .inl h1
    · exact .inr ⟨b, D, e, hb, ownsMap_block ho (k.block b (h.lt b hb) (hd b hb)), hm⟩
  range := h.range
  regs n r hr := (h.regs n r hr).keeps k (hd _ (h.sreg n r hr).1) (fun g hg => hd _ ((h.sreg n r hr).2 g hg))
  inj := h.inj
  injr := h.injr
  ret := ownsRow_block h.ret (fun g hg => k.block g (h.lt g (h.srv g hg)) (hd g (h.srv g hg)))
  retM := h.retM
  retN := h.retN
  sbm := h.sbm
  sreg := h.sreg
  srv := h.srv
  lt b hb := Nat.lt_of_lt_of_le (h.lt b hb) k.size
  made_le := h.made_le
  fail_le := h.fail_le
theorem KM.mono (h : KM w S bm made fail st rl mv rv) (hS : ∀ b, S b → T b) (hl : ∀ b, T b → b < w.heap.size) : KM w T bm made fail st rl mv rv :=
  { h with
    map := by
      rcases h.map with h1 | ⟨b, D, e, hb, ho, hm⟩
      · exact .inl h1
      · exact .inr ⟨b, D, e, hS b hb, ho, hm⟩
    sbm := hS _ h.sbm
    sreg := fun n r hr => ⟨hS _ (h.sreg n r hr).1, fun g hg => hS _ ((h.sreg n r hr).2 g hg)⟩
    srv := fun g hg => hS _ (h.srv g hg)
    lt := hl }
theorem more_self (S : Nat → Prop) (w : World) (b : Nat) : more S w w b ↔ S b := by
  unfold more
  constructor
  · rintro (h | h)
    · exact h
    · omega
  · exact .inl
theorem KM.same (h : KM w S bm made fail st rl mv rv) : KM w (more S w w) bm made fail st rl mv rv :=
  h.mono (fun b hb => .inl hb) (fun b hb => h.lt b ((more_self S w b).1 hb))
end

theorem law32 : Keyed Try.prog 53 := int_keyed Try.underlying53
theorem zeroPtr (w : World) : (zeroValue 91).run Try.prog w = .ok (.pointer none) w := by kernel_rfl
theorem wf32 {n : Nat} (h : n ≤ 4294967295) : (Lit.int .u32 (n : Int)).wf = true := by go_wf
theorem key32 {n : Nat} (h : n ≤ 4294967295) : keyOf Try.prog 53 (.int .u32 (n : Int)) = some (.int .u32 (n : Int)) := keyOf_int_mk Try.underlying53 (wf32 h)
/-- What a look-up in the field's map gives, whatever map. -/
theorem look_run {w : World} {S : Nat → Prop} {mv : Value} {made : Nat} {st : Nat → Option RG} (h : MapIs w S mv made st) {n : Nat} (hn : n ≤ 4294967295) :
    (Instr.lookup 52 mv (.int .u32 (n : Int)) false).run Try.prog w = .ok (ptrOf (st n)) w := by
  rcases h with ⟨rfl, h0⟩ | ⟨b, D, rfl, _, ho, hm⟩
  · rw [h0 n]
    exact look_nil false law32 Try.underlying52 (zeroPtr w) (key32 hn)
  · obtain ⟨v, ps, hrun, hv⟩ := ho.lookup law32 Try.underlying52 (zeroPtr w) (zd := .held (.pointer none)) (zp := []) rfl (key32 hn)
    rw [hm.at_ n] at hv
    have : v = ptrOf (st n) := by
      have h1 := congrArg (fun x => x.map Prod.fst) hv
      simp [heldV] at h1
      exact h1
    rw [← this]
    exact hrun

section
variable {w : World} {S : Nat → Prop} {bm made fail : Nat} {st : Nat → Option RG} {rl : List Nat} {mv rv : Value}
theorem beginsAt_off (p : Option Addr) (n o : Nat) (hn : n ≤ 4294967295) (ho : o ≤ 4294967295) (h1 : 0 < o) (w : World) :
    Calls Try.prog 43 #[.pointer p, .int .u64 (addr n o)] w fun e w' => e = .returned (.pointer none) ∧ w = w' := by
  have h3 : ((o : Int) != 0) = true := by simp; omega
  rcases p with _ | p
  all_goals
    go_enter Try.func43, Try.ntmps43
    go_wp2_with (go_at_call 40; refine (split_any n o hn ho _).mono ?_; rintro e w' ⟨rfl, rfl⟩)
    go_ret
    exact ⟨rfl, rfl⟩
theorem beginsAt_nil (n o : Nat) (hn : n ≤ 4294967295) (ho : o ≤ 4294967295) (w : World) :
    Calls Try.prog 43 #[.pointer none, .int .u64 (addr n o)] w fun e w' => e = .returned (.pointer none) ∧ w = w' := by
  go_enter Try.func43, Try.ntmps43
  go_wp2_with (go_at_call 40; refine (split_any n o hn ho _).mono ?_; rintro e w' ⟨rfl, rfl⟩)
  go_ret
  exact ⟨rfl, rfl⟩
theorem beginsAt_at (h : KM w S bm made fail st rl mv rv) (n : Nat) (hn : n ≤ 4294967295) :
    Calls Try.prog 43 #[.pointer (some ⟨bm, 0, none⟩), .int .u64 (addr n 0)] w fun e w' => e = .returned (ptrOf (st n)) ∧ w = w' := by
  have hl := look_run h.map hn
  have c0 : w.cell? ⟨bm, 0, none⟩ = some mv := h.mem.cell 0
  have c := split_any n 0 hn (by omega) w
  generalize ptrOf (st n) = pv at *
  generalize addr n 0 = a at *
  clear h
  go_enter Try.func43, Try.ntmps43
  go_wp2_with (go_at_call 40; refine c.mono ?_; rintro e w' ⟨rfl, rfl⟩)
  go_ret
  exact ⟨rfl, rfl⟩
theorem live_null (h : KM w S bm made fail st rl mv rv) (n : Nat) (hn : n ≤ 4294967295) (hm : n = 0 ∨ made < n) :
    Calls Try.prog 41 #[.pointer (some ⟨bm, 0, none⟩), .int .u32 (n : Int)] w fun e w' => e = .returned (.tuple #[.pointer none, .int .i64 20]) ∧ w = w' := by
  have c1 : w.cell? ⟨bm, 1, none⟩ = some (.int .u32 made) := h.mem.cell 1
  have hle := h.made_le
  clear h
  by_cases h0 : n = 0
  · subst h0
    go_enter Try.func41, Try.ntmps41
    go_wp2
    go_ret2
    exact ⟨rfl, rfl⟩
  · have h1 : ((n : Int) == 0) = false := by simp; omega
    have h2 : decide (made < n) = true := by simp; omega
    have h3 : made < n := by omega
    clear hm
    go_enter Try.func41, Try.ntmps41
    go_wp2
    go_ret2
    exact ⟨rfl, rfl⟩
theorem live_freed (h : KM w S bm made fail st rl mv rv) (n : Nat) (h0 : 0 < n) (hm : n ≤ made) (hs : st n = none) :
    Calls Try.prog 41 #[.pointer (some ⟨bm, 0, none⟩), .int .u32 (n : Int)] w fun e w' => e = .returned (.tuple #[.pointer none, .int .i64 21]) ∧ w = w' := by
  have c1 : w.cell? ⟨bm, 1, none⟩ = some (.int .u32 made) := h.mem.cell 1
  have c0 : w.cell? ⟨bm, 0, none⟩ = some mv := h.mem.cell 0
  have hle := h.made_le
  have hl := look_run h.map (n := n) (by omega)
  rw [hs] at hl
  unfold ptrOf at hl
  clear h hs
  have h1 : ((n : Int) == 0) = false := by simp; omega
  have h2 : decide (made < n) = false := by simp; omega
  go_enter Try.func41, Try.ntmps41
  go_wp2
  go_ret2
  exact ⟨rfl, rfl⟩
theorem live_yes (h : KM w S bm made fail st rl mv rv) (n : Nat) {r : RG} (hs : st n = some r) :
    Calls Try.prog 41 #[.pointer (some ⟨bm, 0, none⟩), .int .u32 (n : Int)] w fun e w' => e = .returned (.tuple #[.pointer (some ⟨r.blk, 0, none⟩), .int .i64 0]) ∧ w = w' := by
  have c1 : w.cell? ⟨bm, 1, none⟩ = some (.int .u32 made) := h.mem.cell 1
  have c0 : w.cell? ⟨bm, 0, none⟩ = some mv := h.mem.cell 0
  have hle := h.made_le
  obtain ⟨h0, hm⟩ := h.range n r hs
  have hl := look_run h.map (n := n) (by omega)
  rw [hs] at hl
  change _ = Result.ok (Value.pointer (some ⟨r.blk, 0, none⟩)) w at hl
  generalize r.blk = g at hl ⊢
  clear h hs
  have h1 : ((n : Int) == 0) = false := by simp; omega
  have h2 : decide (made < n) = false := by simp; omega
  go_enter Try.func41, Try.ntmps41
  go_wp2
  go_ret2
  exact ⟨rfl, rfl⟩
end
end Go.Proofs.Ytomhflaofipccaa
namespace Go.Proofs.Ytomhflaofipccaa
open Go Go.RowKit Go.Maps
set_option linter.unusedVariables false

theorem info8 : (Try.prog.info? 5).map (fun i => (i.zero, i.size, i.bytes)) = some (some (.int .u8 0), 1, 1) := by kernel_rfl
theorem make_run (n : Nat) (hn : n ≤ 1048576) (w : World) :
    (Instr.makeSlice 42 (.int .i64 (n : Int)) (.int .i64 (n : Int))).run Try.prog w = .ok (.slice (some ⟨w.heap.size, 0, none⟩) n n) (w.alloc (.cells (Array.replicate n (Value.int .u8 0)) 5)) := by
  obtain ⟨i, hi, hz, hsz, hby⟩ := info_parts info8
  have h := run_make (P := Try.prog) w 42 5 i (.int .u8 0) Try.underlying42 hi hz .i64 .i64 n n (by omega) (Int.le_refl _) (by rw [hby]; omega) (by omega)
  have e : (madeCells (Value.int .u8 0).cells n) = (Array.replicate n (Value.int .u8 0)) := by
    rw [← Array.toList_inj]
    have := toList_madeCells_one (.int .u8 0) n
    simpa [Value.cells] using this
  simpa [hsz, e] using h

section
variable {w : World} {S : Nat → Prop} {bm made fail : Nat} {st : Nat → Option RG} {rl : List Nat} {mv rv : Value}
theorem KM.isMap_upd {b n : Nat} {D : DataW Value} {r r' : RG} (hm : MapOf D st) (hs : st n = some r) (hb : r'.blk = r.blk) : MapOf D (upd st n (some r')) where
  isMap := hm.isMap
  at_ k := by
    by_cases hk : k = n
    · subst hk; rw [hm.at_, hs, upd_same]; simp [ptrOf, hb]
    · rw [hm.at_, upd_other _ _ hk]
  has_ k := by
    by_cases hk : k = n
    · subst hk; rw [hm.has_, hs, upd_same]; rfl
    · rw [hm.has_, upd_other _ _ hk]

/-- One region, which keeps its struct's block, holds something else; nothing else has turned. -/
theorem KM.region (h : KM w S bm made fail st rl mv rv) {n : Nat} {r r' : RG} (hs : st n = some r) {w' : World} {T : Nat → Prop} (k : Keeps T w w')
    (hb : r'.blk = r.blk) (hret : r'.ret = r.ret) (hT : ∀ b, S b → T b → b = r.blk ∨ r.row = some b) (hat : r'.At w')
    (hrow : ∀ g, r'.row = some g → r.row = some g ∨ (w.heap.size ≤ g ∧ g < w'.heap.size)) :
    KM w' (more S w w') bm made fail (upd st n (some r')) rl mv rv where
  mem := h.mem.keeps k (fun ht => by
    rcases hT bm h.sbm ht with e | e
    · exact Blk.ne_ h.mem (h.regs n r hs).head (by decide) e
    · exact Blk.ne_ h.mem ((h.regs n r hs).rows _ e) (by decide) rfl)
  map := by
    rcases h.map with ⟨e, h1⟩ | ⟨b, D, e, hb', ho, hm⟩
    · rw [h1 n] at hs; cases hs
    · refine .inr ⟨b, D, e, .inl hb', ownsMap_block ho (k.block b (h.lt b hb') (fun ht => ?_)), KM.isMap_upd (b := 0) hm hs hb⟩
      obtain ⟨es, clock, h1, _⟩ := ho
      rcases hT b hb' ht with e | e
      · subst e; have h2 := (h.regs n r hs).head; unfold Blk at h2; rw [h2] at h1; cases h1
      · have h2 := (h.regs n r hs).rows _ e; unfold Blk at h2; rw [h2] at h1; cases h1
  range m q hq := by
    by_cases hm : m = n
    · subst hm; exact h.range m r hs
    · rw [upd_other _ _ hm] at hq; exact h.range m q hq
  regs m q hq := by
    by_cases hm : m = n
    · subst hm; rw [upd_same] at hq; cases hq; exact hat
    · rw [upd_other _ _ hm] at hq
      refine (h.regs m q hq).keeps k (fun ht => ?_) (fun g hg ht => ?_)
      · rcases hT _ (h.sreg m q hq).1 ht with e | e
        · exact hm (h.inj m n q r hq hs e)
        · exact Blk.ne_ (h.regs m q hq).head ((h.regs n r hs).rows _ e) (by decide) rfl
      · rcases hT _ ((h.sreg m q hq).2 g hg) ht with e | e
        · exact Blk.ne_ ((h.regs m q hq).rows g hg) (h.regs n r hs).head (by decide) e
        · exact hm (h.injr m n q r g hq hs hg e)
  inj m m' q q' hq hq' e := by
    by_cases hm : m = n <;> by_cases hm' : m' = n
    · omega
    · subst hm; rw [upd_same] at hq; rw [upd_other _ _ hm'] at hq'; cases hq; exact h.inj _ _ r q' hs hq' (by rw [← hb]; exact e)
    · subst hm'; rw [upd_same] at hq'; rw [upd_other _ _ hm] at hq; cases hq'; exact h.inj _ _ q r hq hs (by rw [← hb]; exact e)
    · rw [upd_other _ _ hm] at hq; rw [upd_other _ _ hm'] at hq'; exact h.inj _ _ q q' hq hq' e
  injr m m' q q' g hq hq' e e' := by
    by_cases hm : m = n <;> by_cases hm' : m' = n
    · omega
    · subst hm; rw [upd_same] at hq; rw [upd_other _ _ hm'] at hq'; cases hq
      rcases hrow g e with h1 | ⟨h1, _⟩
      · exact h.injr _ _ r q' g hs hq' h1 e'
      · have := h.lt g ((h.sreg _ _ hq').2 g e'); omega
    · subst hm'; rw [upd_same] at hq'; rw [upd_other _ _ hm] at hq; cases hq'
      rcases hrow g e' with h1 | ⟨h1, _⟩
      · exact h.injr _ _ q r g hq hs e h1
      · have := h.lt g ((h.sreg _ _ hq).2 g e); omega
    · rw [upd_other _ _ hm] at hq; rw [upd_other _ _ hm'] at hq'; exact h.injr _ _ q q' g hq hq' e e'
  ret := ownsRow_block h.ret (fun g hg => k.block g (h.lt g (h.srv g hg)) (fun ht => by
    rcases h.ret.2 with ⟨hn, _⟩ | ⟨g', cap, cur, hv, _, hgg, _⟩
    · rw [hn] at hg; cases hg
    · have : g' = g := by rw [hv] at hg; simpa [Value.ownBlock] using hg
      subst this
      rcases hT _ (h.srv _ hg) ht with e | e
      · exact Blk.ne_ (t := 53) (cs := cur) hgg (h.regs n r hs).head (by decide) e
      · exact Blk.ne_ (t := 53) (cs := cur) hgg ((h.regs n r hs).rows _ e) (by decide) rfl))
  retM m := by
    rw [h.retM]
    by_cases hm : m = n
    · subst hm; rw [upd_same]; simp [hs, hret]
    · rw [upd_other _ _ hm]
  retN := h.retN
  sbm := .inl h.sbm
  sreg m q hq := by
    by_cases hm : m = n
    · subst hm; rw [upd_same] at hq; cases hq
      refine ⟨.inl (by rw [hb]; exact (h.sreg _ r hs).1), fun g hg => ?_⟩
      rcases hrow g hg with h1 | h1
      · exact .inl ((h.sreg _ r hs).2 g h1)
      · exact .inr h1
    · rw [upd_other _ _ hm] at hq
      exact ⟨.inl (h.sreg m q hq).1, fun g hg => .inl ((h.sreg m q hq).2 g hg)⟩
  srv g hg := .inl (h.srv g hg)
  lt b hb := by
    rcases hb with h1 | h1
    · exact Nat.lt_of_lt_of_le (h.lt b h1) k.size
    · exact h1.2
  made_le := h.made_le
  fail_le := h.fail_le

/-- What 'all' leaves: the region's row g is there. -/
def AllPost (w : World) (S : Nat → Prop) (bm made fail : Nat) (st : Nat → Option RG) (rl : List Nat) (mv rv : Value) (n : Nat) (r : RG) (w' : World) (g : Nat) : Prop :=
  KM w' (more S w w') bm made fail (upd st n (some { r with row := some g })) rl mv rv ∧ Keeps S w w' ∧ S r.blk
theorem upd_id (n : Nat) {r : RG} (hs : st n = some r) : upd st n (some r) = st := by
  funext k
  by_cases hk : k = n
  · subst hk; rw [upd_same, hs]
  · rw [upd_other _ _ hk]
theorem all_any (h : KM w S bm made fail st rl mv rv) (n : Nat) {r : RG} (hs : st n = some r) :
    Calls Try.prog 42 #[.pointer (some ⟨r.blk, 0, none⟩)] w fun e w' =>
      ∃ g : Nat, e = .returned (.slice (some ⟨g, 0, none⟩) r.bytes.length r.bytes.length) ∧ AllPost w S bm made fail st rl mv rv n r w' g := by
  have hr := h.regs n r hs
  rcases hrow : r.row with _ | g
  · have c2 : w.cell? ⟨r.blk, 2, none⟩ = some (.slice none 0 0) := by have := hr.head.cell 2; simpa [RG.sl, hrow] using this
    have c0 : w.cell? ⟨r.blk, 0, none⟩ = some (.int .i64 r.bytes.length) := hr.head.cell 0
    have f2 : w.frozen? ⟨r.blk, 2, none⟩ = false := hr.head.frozen 2
    have hlt := hr.head.lt
    have hm := make_run r.bytes.length hr.le
    have key : ∀ w', w' = (w.setCell ⟨r.blk, 2, none⟩ (.slice (some ⟨w.heap.size, 0, none⟩) r.bytes.length r.bytes.length)).alloc (.cells (Array.replicate r.bytes.length (Value.int .u8 0)) 5) →
        AllPost w S bm made fail st rl mv rv n r w' w.heap.size := by
      rintro w' hw
      have k0 : Keeps (fun b => b = r.blk) w w' := by rw [hw]; exact (Keeps.setCell (S := fun b => b = r.blk) (p := ⟨r.blk, 2, none⟩) (Keeps.refl _ w) (.inl rfl) _).alloc _
      refine ⟨h.region hs k0 rfl rfl (fun b _ hb => .inl hb) ⟨?_, ?_, ?_, hr.pos, hr.le, hr.p1, hr.p3⟩ ?_, k0.mono (fun b hb => by subst hb; exact (h.sreg n r hs).1), (h.sreg n r hs).1⟩
      · have := (hr.head.set_ 2 (.slice (some ⟨w.heap.size, 0, none⟩) r.bytes.length r.bytes.length)).alloc (.cells (Array.replicate r.bytes.length (Value.int .u8 0)) 5)
        rw [hw]
        simpa [RG.sl] using this
      · intro g hg
        simp at hg
        subst hg
        have := Blk.new (w.setCell ⟨r.blk, 2, none⟩ (.slice (some ⟨w.heap.size, 0, none⟩) r.bytes.length r.bytes.length)) 5 (Array.replicate r.bytes.length (Value.int .u8 0))
        have e : r.bytes.map byteV = List.replicate r.bytes.length (Value.int .u8 0) := by rw [hr.zero hrow]; simp [byteV]
        rw [hw]
        simpa [e, World.setCell] using this
      · intro h0; simp at h0
      · intro g hg
        simp at hg
        subst hg
        exact .inr ⟨Nat.le_refl _, by rw [hw]; simp [World.setCell]⟩
    clear h hr
    have hsz : r.blk ≠ w.heap.size := by omega
    generalize r.blk = rb at c0 c2 f2 hlt hsz key ⊢
    generalize r.bytes.length = len at c0 c2 f2 hlt key hm ⊢
    have K := Lib.hid key; clear key
    have HN := Lib.hid hs; clear hs
    have HR := Lib.hid hrow; clear hrow
    have hq := fun (w : World) a n c => Lib.run_eql_slice_nil (P := Try.prog) w 42 5 a n c 0 0 Try.underlying42
    go_enter Try.func42, Try.ntmps42
    go_wp2
    go_ret
    exact ⟨_, rfl, K.out _ rfl⟩
  · have c2 : w.cell? ⟨r.blk, 2, none⟩ = some (.slice (some ⟨g, 0, none⟩) r.bytes.length r.bytes.length) := by have := hr.head.cell 2; simpa [RG.sl, hrow] using this
    have key : AllPost w S bm made fail st rl mv rv n r w g := by
      refine ⟨?_, Keeps.refl _ _, (h.sreg n r hs).1⟩
      have : ({ r with row := some g } : RG) = r := by rw [← hrow]
      rw [this, upd_id n hs]
      exact h.same
    clear h hr
    generalize r.blk = rb at c2 ⊢
    generalize r.bytes.length = len at c2 ⊢
    have K := Lib.hid key; clear key
    have HN := Lib.hid hs; clear hs
    have HR := Lib.hid hrow; clear hrow
    have hq := fun (w : World) a n c => Lib.run_eql_slice_nil (P := Try.prog) w 42 5 a n c 0 0 Try.underlying42
    go_enter Try.func42, Try.ntmps42
    go_wp2
    go_ret
    exact ⟨g, rfl, K.out⟩
end
end Go.Proofs.Ytomhflaofipccaa
namespace Go.Proofs.Ytomhflaofipccaa
open Go Go.RowKit Go.Maps
set_option linter.unusedVariables false
theorem ret_sl {A : Option Addr} {n c n' c' : Nat} {z : Int} (h : n = n') (h' : c = c') : Ending.returned (.tuple #[.slice A n c, .int .i64 z]) = .returned (.tuple #[.slice A n' c', .int .i64 z]) := by rw [h, h']
section
variable {w : World} {S : Nat → Prop} {bm made fail : Nat} {st : Nat → Option RG} {rl : List Nat} {mv rv : Value}
theorem find_null (h : KM w S bm made fail st rl mv rv) (n o : Nat) (hn : n ≤ 4294967295) (ho : o ≤ 4294967295) (k p : Int) (hm : n = 0 ∨ made < n) :
    Calls Try.prog 25 #[.pointer (some ⟨bm, 0, none⟩), .int .u64 (addr n o), .int .i64 k, .int .i64 p] w fun e w' => e = .returned (.tuple #[.slice none 0 0, .int .i64 20]) ∧ w = w' := by
  have c1 := split_any n o hn ho w
  have c2 := live_null h n hn hm
  generalize addr n o = a at *
  clear h hm
  go_enter Try.func25, Try.ntmps25
  go_wp2_with (first
    | (go_at_call 40; refine c1.mono ?_; rintro e w' ⟨rfl, rfl⟩)
    | (go_at_call 41; refine c2.mono ?_; rintro e w' ⟨rfl, rfl⟩))
  go_ret2
  exact ⟨rfl, rfl⟩
theorem find_freed (h : KM w S bm made fail st rl mv rv) (n o : Nat) (hn : n ≤ 4294967295) (ho : o ≤ 4294967295) (k p : Int) (h0 : 0 < n) (hm : n ≤ made) (hs : st n = none) :
    Calls Try.prog 25 #[.pointer (some ⟨bm, 0, none⟩), .int .u64 (addr n o), .int .i64 k, .int .i64 p] w fun e w' => e = .returned (.tuple #[.slice none 0 0, .int .i64 21]) ∧ w = w' := by
  have c1 := split_any n o hn ho w
  have c2 := live_freed h n h0 hm hs
  generalize addr n o = a at *
  clear h hm hs
  go_enter Try.func25, Try.ntmps25
  go_wp2_with (first
    | (go_at_call 40; refine c1.mono ?_; rintro e w' ⟨rfl, rfl⟩)
    | (go_at_call 41; refine c2.mono ?_; rintro e w' ⟨rfl, rfl⟩))
  go_ret2
  exact ⟨rfl, rfl⟩
theorem find_perm (h : KM w S bm made fail st rl mv rv) (n o : Nat) (hn : n ≤ 4294967295) (ho : o ≤ 4294967295) (k p : Int) {r : RG} (hs : st n = some r) (hp : (bits .and .i64 r.perm p != p) = true) :
    Calls Try.prog 25 #[.pointer (some ⟨bm, 0, none⟩), .int .u64 (addr n o), .int .i64 k, .int .i64 p] w fun e w' => e = .returned (.tuple #[.slice none 0 0, .int .i64 23]) ∧ w = w' := by
  have c1 := split_any n o hn ho w
  have c2 := live_yes h n hs
  have d1 : w.cell? ⟨r.blk, 1, none⟩ = some (.int .i64 r.perm) := (h.regs n r hs).head.cell 1
  generalize addr n o = a at *
  generalize r.blk = rb at c2 d1
  generalize r.perm = rp at hp d1
  clear h hs
  go_enter Try.func25, Try.ntmps25
  go_wp2_with (first
    | (go_at_call 40; refine c1.mono ?_; rintro e w' ⟨rfl, rfl⟩)
    | (go_at_call 41; refine c2.mono ?_; rintro e w' ⟨rfl, rfl⟩))
  go_ret2
  exact ⟨rfl, rfl⟩
theorem find_bound (h : KM w S bm made fail st rl mv rv) (n o : Nat) (hn : n ≤ 4294967295) (ho : o ≤ 4294967295) (k : Nat) (hk : k ≤ 1048576) (p : Int) {r : RG} (hs : st n = some r) (hp : (bits .and .i64 r.perm p != p) = false) (hb : r.bytes.length < o + k) :
    Calls Try.prog 25 #[.pointer (some ⟨bm, 0, none⟩), .int .u64 (addr n o), .int .i64 (k : Int), .int .i64 p] w fun e w' => e = .returned (.tuple #[.slice none 0 0, .int .i64 22]) ∧ w = w' := by
  have c1 := split_any n o hn ho w
  have c2 := live_yes h n hs
  have d1 : w.cell? ⟨r.blk, 1, none⟩ = some (.int .i64 r.perm) := (h.regs n r hs).head.cell 1
  have d0 : w.cell? ⟨r.blk, 0, none⟩ = some (.int .i64 r.bytes.length) := (h.regs n r hs).head.cell 0
  have hle := (h.regs n r hs).le
  generalize addr n o = a at *
  generalize r.blk = rb at c2 d1 d0
  generalize r.perm = rp at hp d1
  generalize r.bytes.length = len at hb d0 hle
  clear h hs
  have h9 : decide ((len : Int) < (o : Int) + (k : Int)) = true := by simp; omega
  go_enter Try.func25, Try.ntmps25
  go_wp2_with (first
    | (go_at_call 40; refine c1.mono ?_; rintro e w' ⟨rfl, rfl⟩)
    | (go_at_call 41; refine c2.mono ?_; rintro e w' ⟨rfl, rfl⟩))
  go_ret2
  exact ⟨rfl, rfl⟩
def FindPost (w : World) (S : Nat → Prop) (bm made fail : Nat) (st : Nat → Option RG) (rl : List Nat) (mv rv : Value) (n o k : Nat) (r : RG) (e : Ending) (w' : World) : Prop :=
  ∃ (g : Nat) (A : Addr), e = .returned (.tuple #[.slice (some A) k (r.bytes.length - o), .int .i64 0]) ∧ (0 < k → A = ⟨g, o, none⟩) ∧ AllPost w S bm made fail st rl mv rv n r w' g
theorem find_ok (h : KM w S bm made fail st rl mv rv) (n o : Nat) (hn : n ≤ 4294967295) (ho : o ≤ 4294967295) (k : Nat) (hk : k ≤ 1048576) (p : Int) {r : RG} (hs : st n = some r) (hp : (bits .and .i64 r.perm p != p) = false) (hb : o + k ≤ r.bytes.length) :
    Calls Try.prog 25 #[.pointer (some ⟨bm, 0, none⟩), .int .u64 (addr n o), .int .i64 (k : Int), .int .i64 p] w (FindPost w S bm made fail st rl mv rv n o k r) := by
  have c1 := split_any n o hn ho w
  have c2 := live_yes h n hs
  have c3 := all_any h n hs
  have d1 : w.cell? ⟨r.blk, 1, none⟩ = some (.int .i64 r.perm) := (h.regs n r hs).head.cell 1
  have d0 : w.cell? ⟨r.blk, 0, none⟩ = some (.int .i64 r.bytes.length) := (h.regs n r hs).head.cell 0
  have hle := (h.regs n r hs).le
  have HF : Hid (∀ (e : Ending) (w' : World) (g : Nat) (A : Addr), e = .returned (.tuple #[.slice (some A) k (r.bytes.length - o), .int .i64 0]) → (0 < k → A = ⟨g, o, none⟩) → AllPost w S bm made fail st rl mv rv n r w' g → FindPost w S bm made fail st rl mv rv n o k r e w') :=
    fun e w' g A h1 h2 h3 => ⟨g, A, h1, h2, h3⟩
  generalize FindPost w S bm made fail st rl mv rv n o k r = post at HF ⊢
  generalize AllPost w S bm made fail st rl mv rv n r = apost at HF c3
  generalize addr n o = a at *
  generalize r.blk = rb at c2 c3 d1 d0
  generalize r.perm = rp at hp d1
  generalize r.bytes.length = len at hb d0 hle c3 HF
  clear h hs
  have h9 : decide ((len : Int) < (o : Int) + (k : Int)) = false := by simp; omega
  rcases Nat.lt_or_ge o len with hol | hol
  · have hne : ¬ len = o := by omega
    have hne2 : ¬ o = len := by omega
    go_enter Try.func25, Try.ntmps25
    go_wp2_with (first
      | (go_at_call 40; refine c1.mono ?_; rintro e w' ⟨rfl, rfl⟩)
      | (go_at_call 41; refine c2.mono ?_; rintro e w' ⟨rfl, rfl⟩)
      | (go_at_call 42; refine c3.mono ?_; rintro e w' ⟨g, rfl, ha⟩; have HA := Lib.hid ha; clear ha))
    refine HF.out _ _ g ⟨g, o, none⟩ ?_ (fun _ => rfl) HA.out
    exact ret_sl (by omega) (by omega)
  · have e1 : len = o := by omega
    have e2 : k = 0 := by omega
    subst e1
    subst e2
    go_enter Try.func25, Try.ntmps25
    go_wp2_with (first
      | (go_at_call 40; refine c1.mono ?_; rintro e w' ⟨rfl, rfl⟩)
      | (go_at_call 41; refine c2.mono ?_; rintro e w' ⟨rfl, rfl⟩)
      | (go_at_call 42; refine c3.mono ?_; rintro e w' ⟨g, rfl, ha⟩; have HA := Lib.hid ha; clear ha))
    refine HF.out _ _ g ⟨g, 0, none⟩ ?_ (fun h => absurd h (by omega)) HA.out
    exact ret_sl (by omega) (by omega)
end
end Go.Proofs.Ytomhflaofipccaa
