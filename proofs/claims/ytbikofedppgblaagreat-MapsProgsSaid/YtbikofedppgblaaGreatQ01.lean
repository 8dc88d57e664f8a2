/-
  Package kmem's memory as it lies in the heap: words for blocks that are known whole, for a world that keeps all but some blocks, and what each small function returns. The state of a kmem.Mem: what its struct, its map, its regions' structs and their rows of bytes hold ('KM'); the functions that only look.
-/
import Derived.Test.YtbikofedppgblaaGreatRows
import Derived.WalkKit
import Derived.Maps.OwnSet
import Derived.Lib.Hide
import Derived.Deep.Draws
import Derived.Laws.Rows
import Derived.WalkSpells
import Derived.IntWalk
namespace Go.Proofs.YtbikofedppgblaaGreat
open Go Go.RowKit Go.Maps
set_option linter.unusedVariables false

/-- Block g holds just the cells cs of type t; none is frozen. -/
def Blk (w : World) (g : Nat) (t : TypeId) (cs : Array Value) : Prop := w.heap[g]? = some (.cells cs t (0, 0))
section
variable {w w' : World} {g : Nat} {t : TypeId} {cs : Array Value}
theorem Blk.lt (h : Blk w g t cs) : g < w.heap.size := by
  rcases Nat.lt_or_ge g w.heap.size with hlt | hge
  · exact hlt
  · unfold Blk at h; rw [Array.getElem?_eq_none hge] at h; cases h
theorem Blk.cell (h : Blk w g t cs) (i : Nat) : w.cell? ⟨g, i, none⟩ = cs[i]? := cell_of_row w g i cs t (0, 0) h
theorem Blk.frozen (h : Blk w g t cs) (i : Nat) : w.frozen? ⟨g, i, none⟩ = false := by
  unfold Blk at h
  simp [World.frozen?, h]
theorem Blk.new (w : World) (t : TypeId) (cs : Array Value) : Blk (w.alloc (.cells cs t)) w.heap.size t cs := heap_alloc_new w _
theorem Blk.alloc (h : Blk w g t cs) (o : Obj) : Blk (w.alloc o) g t cs := (Below.heap_alloc w o g h.lt).trans h
theorem Blk.set_ (h : Blk w g t cs) (i : Nat) (u : Value) : Blk (w.setCell ⟨g, i, none⟩ u) g t (cs.setIfInBounds i u) := by
  unfold Blk at h ⊢
  simp [World.setCell, Array.getElem?_modify, h]
theorem Blk.far (h : Blk w g t cs) {p : Addr} (hp : g ≠ p.block) (u : Value) : Blk (w.setCell p u) g t cs := (Below.heap_setCell w p u g hp).trans h
theorem Blk.ne_ {g' : Nat} {t' : TypeId} {cs' : Array Value} (h : Blk w g t cs) (h' : Blk w g' t' cs') (hne : t ≠ t') : g ≠ g' := by
  rintro rfl
  unfold Blk at h h'
  rw [h] at h'
  injection h' with h'
  injection h' with _ ht
  exact hne ht
end

/-- w' is w but for the blocks of S and new ones. -/
structure Keeps (S : Nat → Prop) (w w' : World) : Prop where
  os : w'.os = w.os
  tape : w'.tape = w.tape
  output : w'.output = w.output
  size : w.heap.size ≤ w'.heap.size
  block : ∀ k, k < w.heap.size → ¬ S k → w'.heap[k]? = w.heap[k]?
section
variable {S T : Nat → Prop} {a w w' : World}
theorem Keeps.refl (S : Nat → Prop) (w : World) : Keeps S w w := ⟨rfl, rfl, rfl, Nat.le_refl _, fun _ _ _ => rfl⟩
/-- The blocks of S, and those that were made from w to w'. -/
def more (S : Nat → Prop) (w w' : World) : Nat → Prop := fun b => S b ∨ (w.heap.size ≤ b ∧ b < w'.heap.size)
theorem Keeps.trans {b c : World} (h : Keeps S a b) (k : Keeps (more S a b) b c) : Keeps S a c :=
  ⟨k.os.trans h.os, k.tape.trans h.tape, k.output.trans h.output, Nat.le_trans h.size k.size, fun i hi hs => (k.block i (Nat.lt_of_lt_of_le hi h.size) (by
    rintro (h1 | ⟨h1, _⟩)
    · exact hs h1
    · omega)).trans (h.block i hi hs)⟩
theorem Keeps.mono (h : Keeps S w w') (hS : ∀ b, S b → T b) : Keeps T w w' := ⟨h.os, h.tape, h.output, h.size, fun i hi hs => h.block i hi (fun h1 => hs (hS i h1))⟩
theorem Keeps.drew (h : Keeps S a w) : Keeps S a w.drew := ⟨h.os, h.tape, h.output, h.size, h.block⟩
theorem Keeps.alloc (h : Keeps S a w) (o : Obj) : Keeps S a (w.alloc o) :=
  ⟨h.os, h.tape, h.output, by have := h.size; simp; omega, fun k hk hs => (Below.heap_alloc w o k (Nat.lt_of_lt_of_le hk h.size)).trans (h.block k hk hs)⟩
theorem Keeps.setCell (h : Keeps S a w) {p : Addr} (hp : S p.block ∨ a.heap.size ≤ p.block) (u : Value) : Keeps S a (w.setCell p u) :=
  ⟨h.os, h.tape, h.output, by have := h.size; simp [World.setCell]; omega, fun k hk hs => (Below.heap_setCell w p u k (by
    rintro rfl
    rcases hp with h1 | h1
    · exact hs h1
    · omega)).trans (h.block k hk hs)⟩
theorem Keeps.grown {row : Option Nat} (h : Keeps S a w) (hg : w.grownBy w' row) (hr : ∀ k, row = some k → S k ∨ a.heap.size ≤ k) : Keeps S a w' :=
  ⟨hg.os.trans h.os, hg.tape.trans h.tape, hg.output.trans h.output, Nat.le_trans h.size hg.size, fun k hk hs => (hg.block k (Nat.lt_of_lt_of_le hk h.size) (by
    intro e
    rcases hr k e.symm with h1 | h1
    · exact hs h1
    · omega)).trans (h.block k hk hs)⟩
theorem Keeps.below {B : Nat} (h : Keeps S w w') (hS : ∀ b, S b → B ≤ b) (hB : B ≤ w.heap.size) : Below B w w' :=
  ⟨h.os, h.tape, h.output, h.size, fun k hk => h.block k (by omega) (fun hs => by have := hS k hs; omega)⟩
theorem Below.keeps {B : Nat} (h : Below B w w') (hS : ∀ b, B ≤ b → b < w.heap.size → S b) : Keeps S w w' :=
  ⟨h.os, h.tape, h.output, h.size, fun k hk hs => h.block k (by
    rcases Nat.lt_or_ge k B with h1 | h1
    · exact h1
    · exact absurd (hS k h1 hk) hs)⟩
theorem Blk.keeps {g : Nat} {t : TypeId} {cs : Array Value} (h : Blk w g t cs) (k : Keeps S w w') (hs : ¬ S g) : Blk w' g t cs := (k.block g h.lt hs).trans h
end

theorem ret_int {k : IntKind} {a b : Int} (h : a = b) : Ending.returned (.int k a) = .returned (.int k b) := by rw [h]

/-! ### the small functions -/
/-- The address of offset o in region n. -/
def addr (n o : Nat) : Int := (n : Int) * 4294967296 + (o : Int)
theorem addr_bd {n o : Nat} (hn : n ≤ 4294967295) (ho : o ≤ 4294967295) : 0 ≤ addr n o ∧ addr n o ≤ 18446744073709551615 ∧ addr n o / 4294967296 = (n : Int) ∧ addr n o % 4294967296 = (o : Int) := by
  unfold addr; omega
theorem addr_of (a : Int) (h0 : 0 ≤ a) (h1 : a ≤ 18446744073709551615) : ∃ n o : Nat, n ≤ 4294967295 ∧ o ≤ 4294967295 ∧ a = addr n o :=
  ⟨(a / 4294967296).toNat, (a % 4294967296).toNat, by omega, by omega, by unfold addr; omega⟩
theorem ret2_u32 {a b c d : Int} (h : a = c) (h' : b = d) : Ending.returned (.tuple #[.int .u32 a, .int .u32 b]) = .returned (.tuple #[.int .u32 c, .int .u32 d]) := by rw [h, h']
theorem split_any (n o : Nat) (hn : n ≤ 4294967295) (ho : o ≤ 4294967295) (w : World) :
    Calls Tryz.prog 139 #[.int .u64 (addr n o)] w fun e w' => e = .returned (.tuple #[.int .u32 n, .int .u32 o]) ∧ w = w' := by
  obtain ⟨h0, h1, h2, h3⟩ := addr_bd hn ho
  generalize addr n o = a at *
  have H2 := Lib.hid h2; have H3 := Lib.hid h3; clear h2 h3
  go_enter Tryz.func139, Tryz.ntmps139
  go_wp2
  go_ret2
  exact ⟨ret2_u32 H2.out H3.out, rfl⟩
theorem address_any (n : Nat) (h1 : n ≤ 4294967295) (w : World) :
    Calls Tryz.prog 122 #[.int .u32 n] w fun e w' => e = .returned (.int .u64 (addr n 0)) ∧ w = w' := by
  have h2 : Hid (addr n 0 = (n : Int) * 4294967296) := by unfold addr Hid; omega
  go_enter Tryz.func122, Tryz.ntmps122
  go_wp2
  go_ret
  exact ⟨ret_int h2.out.symm, rfl⟩
theorem new_any (w : World) :
    Calls Tryz.prog 5 #[] w fun e w' => e = .returned (.pointer (some ⟨w.heap.size, 0, none⟩)) ∧ w' = w.alloc (.cells #[.map none, .int .u32 0, .slice none 0 0, .int .i64 0] 59) := by
  go_enter Tryz.func5, Tryz.ntmps5
  go_wp2
  go_ret
  exact ⟨rfl, rfl⟩
theorem failsNow_no (bm : Nat) (m n r : Value) (w : World) (hb : Blk w bm 59 #[m, n, r, .int .i64 0]) :
    Calls Tryz.prog 121 #[.pointer (some ⟨bm, 0, none⟩)] w fun e w' => e = .returned (.bool false) ∧ w = w' := by
  have c3 : w.cell? ⟨bm, 3, none⟩ = some (.int .i64 0) := hb.cell 3
  go_enter Tryz.func121, Tryz.ntmps121
  go_wp2
  go_ret
  exact ⟨rfl, rfl⟩
theorem failsNow_yes (bm : Nat) (m n r : Value) (k : Nat) (h1 : k < 1048576) (w : World) (hb : Blk w bm 59 #[m, n, r, .int .i64 ((k : Int) + 1)]) :
    Calls Tryz.prog 121 #[.pointer (some ⟨bm, 0, none⟩)] w fun e w' => e = .returned (.bool ((k : Int) == 0)) ∧ w' = w.setCell ⟨bm, 3, none⟩ (.int .i64 k) := by
  have c3 : w.cell? ⟨bm, 3, none⟩ = some (.int .i64 ((k : Int) + 1)) := hb.cell 3
  have f3 : w.frozen? ⟨bm, 3, none⟩ = false := hb.frozen 3
  have h3 : ((k : Int) + 1 == 0) = false := by simp; omega
  go_enter Tryz.func121, Tryz.ntmps121
  go_wp2
  go_ret
  exact ⟨rfl, rfl⟩
end Go.Proofs.YtbikofedppgblaaGreat
namespace Go.Proofs.YtbikofedppgblaaGreat
open Go Go.RowKit Go.Maps
set_option linter.unusedVariables false

def byteV (b : UInt8) : Value := .int .u8 (b.toNat : Int)
/-- A live region as it lies: its struct's block, what may be done, the block of its bytes (none until somebody looks at them), the bytes, is it retired? -/
structure RG where
  blk : Nat
  perm : Int
  row : Option Nat
  bytes : List UInt8
  ret : Bool
def RG.sl (r : RG) : Value := match r.row with
  | none => .slice none 0 0
  | some g => .slice (some ⟨g, 0, none⟩) r.bytes.length r.bytes.length
structure RG.At (w : World) (r : RG) : Prop where
  head : Blk w r.blk 175 #[.int .i64 r.bytes.length, .int .i64 r.perm, r.sl, .bool r.ret]
  rows : ∀ g, r.row = some g → Blk w g 5 (r.bytes.map byteV).toArray
  zero : r.row = none → r.bytes = List.replicate r.bytes.length 0
  pos : 0 < r.bytes.length
  le : r.bytes.length ≤ 1048576
  p1 : 1 ≤ r.perm
  p3 : r.perm ≤ 3
theorem RG.At.keeps {w w' : World} {r : RG} {T : Nat → Prop} (h : r.At w) (k : Keeps T w w') (h1 : ¬ T r.blk) (h2 : ∀ g, r.row = some g → ¬ T g) : r.At w' :=
  ⟨h.head.keeps k h1, fun g hg => (h.rows g hg).keeps k (h2 g hg), h.zero, h.pos, h.le, h.p1, h.p3⟩

def ptrOf : Option RG → Value
  | none => .pointer none
  | some r => .pointer (some ⟨r.blk, 0, none⟩)
/-- How an element of the map reads: as it is. -/
def heldV (v : Value) : Option (DataW Value × List MemPlace) := some (.held v, [])
/-- What the map's datum says: which number leads to which region. -/
structure MapOf (D : DataW Value) (st : Nat → Option RG) : Prop where
  isMap : IsMap D
  at_ : ∀ n : Nat, D.atKey (.int .u32 (n : Int)) (.held (.pointer none)) = .held (ptrOf (st n))
  has_ : ∀ n : Nat, Maps.has D (.int .u32 (n : Int)) = (st n).isSome
def MapIs (w : World) (S : Nat → Prop) (mv : Value) (made : Nat) (st : Nat → Option RG) : Prop :=
  (mv = .map none ∧ ∀ n, st n = none) ∨
  ∃ b D, mv = .map (some b) ∧ S b ∧ w.ownsMap Tryz.prog 56 heldV b made D ∧ MapOf D st
def upd (st : Nat → Option RG) (n : Nat) (r : Option RG) : Nat → Option RG := fun k => if k = n then r else st k
theorem upd_same (st : Nat → Option RG) (n : Nat) (r : Option RG) : upd st n r n = r := by simp [upd]
theorem upd_other (st : Nat → Option RG) {n k : Nat} (r : Option RG) (h : k ≠ n) : upd st n r k = st k := by simp [upd, h]

structure KM (w : World) (S : Nat → Prop) (bm made fail : Nat) (st : Nat → Option RG) (rl : List Nat) (mv rv : Value) : Prop where
  mem : Blk w bm 59 #[mv, .int .u32 made, rv, .int .i64 fail]
  map : MapIs w S mv made st
  range : ∀ n r, st n = some r → 1 ≤ n ∧ n ≤ made
  regs : ∀ n r, st n = some r → r.At w
  inj : ∀ n n' r r', st n = some r → st n' = some r' → r.blk = r'.blk → n = n'
  injr : ∀ n n' r r' g, st n = some r → st n' = some r' → r.row = some g → r'.row = some g → n = n'
  ret : w.ownsRow 0 56 1 rv rl.length (rl.map fun n : Nat => Value.int .u32 (n : Int))
  retM : ∀ n, n ∈ rl ↔ ∃ r, st n = some r ∧ r.ret = true
  retN : rl.Nodup
  sbm : S bm
  sreg : ∀ n r, st n = some r → S r.blk ∧ ∀ g, r.row = some g → S g
  srv : ∀ g, rv.ownBlock = some g → S g
  lt : ∀ b, S b → b < w.heap.size
  made_le : made ≤ 4096
  fail_le : fail ≤ 1048576

theorem ownsMap_block {w w' : World} {P : Program} {k : TypeId} {R : Value → Option (DataW Value × List MemPlace)} {b n : Nat} {D : DataW Value} (h : w.ownsMap P k R b n D) (hb : w'.heap[b]? = w.heap[b]?) : w'.ownsMap P k R b n D := by
  obtain ⟨es, clock, h1, F, hs, hD⟩ := h
  exact ⟨es, clock, hb.trans h1, F, hs, hD⟩
theorem ownsRow_block {w w' : World} {base : Nat} {e : TypeId} {size : Nat} {v : Value} {n : Nat} {xs : List Value} (h : w.ownsRow base e size v n xs) (hb : ∀ g, v.ownBlock = some g → w'.heap[g]? = w.heap[g]?) : w'.ownsRow base e size v n xs := by
  refine ⟨h.1, ?_⟩
  rcases h.2 with hn | ⟨g, cap, cur, rfl, h1, h2, rest⟩
  · exact .inl hn
  · exact .inr ⟨g, cap, cur, rfl, h1, (hb g rfl).trans h2, rest⟩

section
variable {w w' : World} {S T : Nat → Prop} {bm made fail : Nat} {st : Nat → Option RG} {rl : List Nat} {mv rv : Value}
/-- The memory stays what it is while other blocks are written and new ones are made. -/
theorem KM.keeps (h : KM w S bm made fail st rl mv rv) (k : Keeps T w w') (hd : ∀ b, S b → ¬ T b) : KM w' S bm made fail st rl mv rv where
  mem := h.mem.keeps k (hd _ h.sbm)
  map := by
    rcases h.map with h1 | ⟨b, D, e, hb, ho, hm⟩
    · exact .inl h1
    · exact .inr ⟨b, D, e, hb, ownsMap_block ho (k.block b (h.lt b hb) (hd b hb)), hm⟩
  range := h.range
  regs n r hr := (h.regs n r hr).keeps k (hd _ (h.sreg n r hr).1) (fun g hg => hd _ ((h.sreg n r hr).2 g hg))
  inj := h.inj
  injr := h.injr
  ret := ownsRow_block h.ret (fun g hg => k.block g (h.lt g (h.srv g hg)) (hd g (h.srv g hg)))
  retM := h.retM
  retN := h.retN
  sbm := h.sbm
  sreg := h.sreg
  srv := h.srv
  lt b hb := Nat.lt_of_lt_of_le (h.lt b hb) k.size
  made_le := h.made_le
  fail_le := h.fail_le
theorem KM.mono (h : KM w S bm made fail st rl mv rv) (hS : ∀ b, S b → T b) (hl : ∀ b, T b → b < w.heap.size) : KM w T bm made fail st rl mv rv :=
  { h with
    map := by
      rcases h.map with h1 | ⟨b, D, e, hb, ho, hm⟩
      · exact .inl h1
      · exact .inr ⟨b, D, e, hS b hb, ho, hm⟩
    sbm := hS _ h.sbm
    sreg := fun n r hr => ⟨hS _ (h.sreg n r hr).1, fun g hg => hS _ ((h.sreg n r hr).2 g hg)⟩
    srv := fun g hg => hS _ (h.srv g hg)
    lt := hl }
theorem more_self (S : Nat → Prop) (w : World) (b : Nat) : more S w w b ↔ S b := by
  unfold more
  constructor
  · rintro (h | h)
    · exact h
    · omega
  · exact .inl
theorem KM.same (h : KM w S bm made fail st rl mv rv) : KM w (more S w w) bm made fail st rl mv rv :=
  h.mono (fun b hb => .inl hb) (fun b hb => h.lt b ((more_self S w b).1 hb))
end

theorem law32 : Keyed Tryz.prog 56 := int_keyed Tryz.underlying56
theorem zeroPtr (w : World) : (zeroValue 173).run Tryz.prog w = .ok (.pointer none) w := by kernel_rfl
theorem wf32 {n : Nat} (h : n ≤ 4294967295) : (Lit.int .u32 (n : Int)).wf = true := by go_wf
theorem key32 {n : Nat} (h : n ≤ 4294967295) : keyOf Tryz.prog 56 (.int .u32 (n : Int)) = some (.int .u32 (n : Int)) := keyOf_int_mk Tryz.underlying56 (wf32 h)
/-- What a look-up in the field's map gives, whatever map. -/
theorem look_run {w : World} {S : Nat → Prop} {mv : Value} {made : Nat} {st : Nat → Option RG} (h : MapIs w S mv made st) {n : Nat} (hn : n ≤ 4294967295) :
    (Instr.lookup 55 mv (.int .u32 (n : Int)) false).run Tryz.prog w = .ok (ptrOf (st n)) w := by
  rcases h with ⟨rfl, h0⟩ | ⟨b, D, rfl, _, ho, hm⟩
  · rw [h0 n]
    exact look_nil false law32 Tryz.underlying55 (zeroPtr w) (key32 hn)
  · obtain ⟨v, ps, hrun, hv⟩ := ho.lookup law32 Tryz.underlying55 (zeroPtr w) (zd := .held (.pointer none)) (zp := []) rfl (key32 hn)
    rw [hm.at_ n] at hv
    have : v = ptrOf (st n) := by
      have h1 := congrArg (fun x => x.map Prod.fst) hv
      simp [heldV] at h1
      exact h1
    rw [← this]
    exact hrun

section
variable {w : World} {S : Nat → Prop} {bm made fail : Nat} {st : Nat → Option RG} {rl : List Nat} {mv rv : Value}
theorem beginsAt_off (p : Option Addr) (n o : Nat) (hn : n ≤ 4294967295) (ho : o ≤ 4294967295) (h1 : 0 < o) (w : World) :
    Calls Tryz.prog 138 #[.pointer p, .int .u64 (addr n o)] w fun e w' => e = .returned (.pointer none) ∧ w = w' := by
  have h3 : ((o : Int) != 0) = true := by simp; omega
  rcases p with _ | p
  all_goals
    go_enter Tryz.func138, Tryz.ntmps138
    go_wp2_with (go_at_call 139; refine (split_any n o hn ho _).mono ?_; rintro e w' ⟨rfl, rfl⟩)
    go_ret
    exact ⟨rfl, rfl⟩
theorem beginsAt_nil (n o : Nat) (hn : n ≤ 4294967295) (ho : o ≤ 4294967295) (w : World) :
    Calls Tryz.prog 138 #[.pointer none, .int .u64 (addr n o)] w fun e w' => e = .returned (.pointer none) ∧ w = w' := by
  go_enter Tryz.func138, Tryz.ntmps138
  go_wp2_with (go_at_call 139; refine (split_any n o hn ho _).mono ?_; rintro e w' ⟨rfl, rfl⟩)
  go_ret
  exact ⟨rfl, rfl⟩
theorem beginsAt_at (h : KM w S bm made fail st rl mv rv) (n : Nat) (hn : n ≤ 4294967295) :
    Calls Tryz.prog 138 #[.pointer (some ⟨bm, 0, none⟩), .int .u64 (addr n 0)] w fun e w' => e = .returned (ptrOf (st n)) ∧ w = w' := by
  have hl := look_run h.map hn
  have c0 : w.cell? ⟨bm, 0, none⟩ = some mv := h.mem.cell 0
  have c := split_any n 0 hn (by omega) w
  generalize ptrOf (st n) = pv at *
  generalize addr n 0 = a at *
  clear h
  go_enter Tryz.func138, Tryz.ntmps138
  go_wp2_with (go_at_call 139; refine c.mono ?_; rintro e w' ⟨rfl, rfl⟩)
  go_ret
  exact ⟨rfl, rfl⟩
theorem live_null (h : KM w S bm made fail st rl mv rv) (n : Nat) (hn : n ≤ 4294967295) (hm : n = 0 ∨ made < n) :
    Calls Tryz.prog 146 #[.pointer (some ⟨bm, 0, none⟩), .int .u32 (n : Int)] w fun e w' => e = .returned (.tuple #[.pointer none, .int .i64 20]) ∧ w = w' := by
  have c1 : w.cell? ⟨bm, 1, none⟩ = some (.int .u32 made) := h.mem.cell 1
  have hle := h.made_le
  clear h
  by_cases h0 : n = 0
  · subst h0
    go_enter Tryz.func146, Tryz.ntmps146
    go_wp2
    go_ret2
    exact ⟨rfl, rfl⟩
  · have h1 : ((n : Int) == 0) = false := by simp; omega
    have h2 : decide (made < n) = true := by simp; omega
    have h3 : made < n := by omega
    clear hm
    go_enter Tryz.func146, Tryz.ntmps146
    go_wp2
    go_ret2
    exact ⟨rfl, rfl⟩
theorem live_freed (h : KM w S bm made fail st rl mv rv) (n : Nat) (h0 : 0 < n) (hm : n ≤ made) (hs : st n = none) :
    Calls Tryz.prog 146 #[.pointer (some ⟨bm, 0, none⟩), .int .u32 (n : Int)] w fun e w' => e = .returned (.tuple #[.pointer none, .int .i64 21]) ∧ w = w' := by
  have c1 : w.cell? ⟨bm, 1, none⟩ = some (.int .u32 made) := h.mem.cell 1
  have c0 : w.cell? ⟨bm, 0, none⟩ = some mv := h.mem.cell 0
  have hle := h.made_le
  have hl := look_run h.map (n := n) (by omega)
  rw [hs] at hl
  unfold ptrOf at hl
  clear h hs
  have h1 : ((n : Int) == 0) = false := by simp; omega
  have h2 : decide (made < n) = false := by simp; omega
  go_enter Tryz.func146, Tryz.ntmps146
  go_wp2
  go_ret2
  exact ⟨rfl, rfl⟩
theorem live_yes (h : KM w S bm made fail st rl mv rv) (n : Nat) {r : RG} (hs : st n = some r) :
    Calls Tryz.prog 146 #[.pointer (some ⟨bm, 0, none⟩), .int .u32 (n : Int)] w fun e w' => e = .returned (.tuple #[.pointer (some ⟨r.blk, 0, none⟩), .int .i64 0]) ∧ w = w' := by
  have c1 : w.cell? ⟨bm, 1, none⟩ = some (.int .u32 made) := h.mem.cell 1
  have c0 : w.cell? ⟨bm, 0, none⟩ = some mv := h.mem.cell 0
  have hle := h.made_le
  obtain ⟨h0, hm⟩ := h.range n r hs
  have hl := look_run h.map (n := n) (by omega)
  rw [hs] at hl
  change _ = Result.ok (Value.pointer (some ⟨r.blk, 0, none⟩)) w at hl
  generalize r.blk = g at hl ⊢
  clear h hs
  have h1 : ((n : Int) == 0) = false := by simp; omega
  have h2 : decide (made < n) = false := by simp; omega
  go_enter Tryz.func146, Tryz.ntmps146
  go_wp2
  go_ret2
  exact ⟨rfl, rfl⟩
end
end Go.Proofs.YtbikofedppgblaaGreat
