/-
  My own kit, for every law: a table's cells out of its listed datum ('back_of_trod'); what a law that leaves old memory alone owes to its row ('law_post'); integers in arrays that are handed over by value. A slice of structs that comes in, nil let in: each element's cells, field by field. Numbers of insn: bytes of a number, bits of signed kinds. Words for blocks that are known whole, for a world that keeps all but some blocks. Package insn's small functions, and the reference's. Package insn's small functions, and the reference's: wide instructions.
-/
import Derived.Below
import Derived.Carry
import Derived.ChangeSame
import Derived.ChangeArms
import Derived.OpenShut
import Derived.ProofKit
import Derived.MakeChecks
import Derived.WideShapes4
import Derived.Deep.Fields
import Derived.Deep.Slices
import Derived.WalkKit
import Derived.ChangeSlices
import Derived.Test.YtemiklbkfogjeaaGreatDoorRows
import Derived.Laws.BitsLemmas
import Derived.Laws.Bits64b
import Derived.Laws.Rows
import Derived.Lib.Hide
import Derived.IntWalk
import Derived.WalkSpells
namespace Go.Proofs.YtemiklbkfogjeaaGreatDoor
open Go Go.RowKit Go.WideShapes Go.ChangeShapes Go.WideElems
set_option linter.unusedVariables false
set_option linter.unusedSimpArgs false
section
variable {H : Type} {enc : TypeId × Value → H} {P : Program}

def tightEnd (P : Program) : Nat → List Field → Option Nat
 | o, [] => some o
 | o, f :: fs => if f.offset = o then tightEnd P (o + P.cellsOf f.type) fs else none

/-- The cells that read as a plain datum (bools, integers, strings, structs and arrays of such). -/
def back {H : Type} (P : Program) : Nat → TypeId → DataW H → Option (List Value)
 | 0, _, _ => none
 | f + 1, t, d =>
  match P.underlying t, d with
  | some .bool, .lit (.bool b) => some [.bool b]
  | some (.int k), .lit (.int k' n) => if k' = k then some [.int k n] else none
  | some .string, .lit (.string bs) => some [.string ⟨bs.toArray⟩]
  | some (.struct fs), .agg ds =>
   if ds.length = fs.size ∧ tightEnd P 0 fs.toList = some (P.cellsOf t) then ((fs.toList.zip ds).mapM fun x => back P f x.1.type x.2).map List.flatten else none
  | some (.array n e), .agg ds =>
   if ds.length = n ∧ P.cellsOf t = n * P.cellsOf e then (ds.mapM (back P f e)).map List.flatten else none
  | _, _ => none

theorem join_rows (c : Nat) : ∀ (ls : List (List Value)) (cs : List Value), cs.length = ls.length * c → (∀ i, i < ls.length → ls[i]? = some ((cs.drop (i * c)).take c)) → cs = ls.flatten := by
 intro ls
 induction ls with
 | nil => intro cs h _; simpa using h
 | cons l ls ih =>
  intro cs h hi
  have h0 := hi 0 (by simp)
  simp at h0
  rw [List.flatten_cons, h0, ← ih (cs.drop c) (by simp [h, Nat.add_mul]) ?_, List.take_append_drop]
  intro i hlt
  have := hi (i + 1) (by simpa using hlt)
  simpa [List.drop_drop, Nat.add_mul, Nat.add_comm] using this

theorem join_fields (CS : List Value) : ∀ (fs : List Field) (ls : List (List Value)) (o : Nat), tightEnd P o fs = some CS.length → ls.length = fs.length →
  (∀ (i : Nat) (f : Field), fs[i]? = some f → ls[i]? = some ((CS.drop f.offset).take (P.cellsOf f.type))) → CS.drop o = ls.flatten := by
 intro fs
 induction fs with
 | nil =>
  intro ls o h hl _
  simp [tightEnd] at h
  have : ls = [] := by simpa using hl
  subst this
  simp [h]
 | cons f fs ih =>
  intro ls o h hl hi
  match ls, hl with
  | l :: ls, hl =>
   simp only [tightEnd] at h
   split at h
   ·rename_i ho
    have h0 := hi 0 f (by simp)
    simp at h0
    rw [ho] at h0
    rw [List.flatten_cons, h0, ← ih ls (o + P.cellsOf f.type) h (by simpa using hl) (fun i g hg => by simpa using hi (i + 1) g (by simpa using hg)), ← List.drop_drop, List.take_append_drop]
   ·cases h

theorem mapM_get {α β : Type} {f : α → Option β} : ∀ {l : List α} {r : List β}, l.mapM f = some r → r.length = l.length ∧ ∀ (i : Nat) (a : α), l[i]? = some a → ∃ b, f a = some b ∧ r[i]? = some b := by
 intro l
 induction l with
 | nil => intro r h; simp at h; subst h; simp
 | cons a l ih =>
  intro r h
  simp only [List.mapM_cons, Option.bind_eq_bind, Option.bind_eq_some_iff, Option.pure_def, Option.some.injEq] at h
  obtain ⟨b, hb, r', hr', rfl⟩ := h
  obtain ⟨hl, hg⟩ := ih hr'
  refine ⟨by simp [hl], fun i x hx => ?_⟩
  cases i with
  | zero => simp at hx; subst hx; exact ⟨b, hb, by simp⟩
  | succ i => simpa using hg i x (by simpa using hx)

/-- What reads as a plain datum holds just the cells that the datum tells. -/
theorem back_of_trod {w : World} {base : Nat} {sp : Nat → Bool} {held : Bool} : ∀ (f g : Nat) (t : TypeId) (cs : List Value) (y : DataW H × List MemPlace) (l : List Value),
  DataW.trod enc P w base sp held g t cs = some y → back P f t y.1 = some l → cs = l := by
 intro f
 induction f with
 | zero => intro g t cs y l _ h; simp [back] at h
 | succ f ih =>
  intro g t cs y l ht hb
  unfold back at hb
  split at hb
  ·rename_i hu hd
   obtain ⟨b, rfl, rfl⟩ := DataW.trod_bool hu ht
   simp at hd hb
   subst hd; exact hb
  ·rename_i hu hd
   obtain ⟨n, rfl, rfl, _⟩ := DataW.trod_int hu ht
   simp only [DataW.lit.injEq, Lit.int.injEq] at hd
   obtain ⟨hk, hn⟩ := hd
   split at hb
   ·simp at hb
    rw [← hb, hn]
   ·cases hb
  ·rename_i hu hd
   obtain ⟨s, rfl, rfl, _⟩ := DataW.trod_string hu ht
   simp at hd hb
   subst hd
   rw [← hb]
  ·rename_i fs ds hu hd
   obtain ⟨xs, n, rfl, rfl, hl, hxl, hx⟩ := DataW.trod_struct hu ht
   simp only [DataW.agg.injEq] at hd
   split at hb
   ·rename_i hc
    simp only [Option.map_eq_some_iff] at hb
    obtain ⟨ls, hls, rfl⟩ := hb
    obtain ⟨hll, hg⟩ := mapM_get hls
    have e := join_fields (P := P) cs fs.toList ls 0 (by rw [hc.2, hl]) (by rw [hll]; simp [hc.1]) (fun i fd hfd => by
     have hfd' : fs[i]? = some fd := by simpa using hfd
     have h1 := hx i fd hfd'
     have hi : i < xs.length := by rw [hxl]; exact (Array.getElem?_eq_some_iff.1 hfd').1
     have h2 : xs[i]? = some xs[i] := List.getElem?_eq_getElem hi
     rw [h2] at h1
     have h3 : ds[i]? = some xs[i].1 := by rw [← hd]; simp [h2]
     obtain ⟨b, hb1, hb2⟩ := hg i (fd, xs[i].1) (by rw [List.getElem?_zip_eq_some]; exact ⟨hfd, h3⟩)
     rw [hb2, ih n fd.type _ _ b h1 hb1])
    simpa using e
   ·cases hb
  ·rename_i n e ds hu hd
   obtain ⟨xs, m, rfl, rfl, hl, hxl, hx⟩ := DataW.trod_array hu ht
   simp only [DataW.agg.injEq] at hd
   split at hb
   ·rename_i hc
    simp only [Option.map_eq_some_iff] at hb
    obtain ⟨ls, hls, rfl⟩ := hb
    obtain ⟨hll, hg⟩ := mapM_get hls
    refine join_rows (P.cellsOf e) ls cs (by rw [hl, hc.2, hll, hc.1]) (fun i hi => ?_)
    have hin : i < n := by rw [hll, hc.1] at hi; exact hi
    have h1 := hx i hin
    have h2 : xs[i]? = some (xs[i]'(by rw [hxl]; exact hin)) := List.getElem?_eq_getElem _
    rw [h2] at h1
    have h3 : ds[i]? = some (xs[i]'(by rw [hxl]; exact hin)).1 := by rw [← hd]; simp [h2]
    obtain ⟨b, hb1, hb2⟩ := hg i _ h3
    rw [hb2, ih m e _ _ b h1 hb1]
   ·cases hb
  ·cases hb

/-- What is read of the arguments stays as it was, where old memory did. -/
theorem trodAll_stays (hl : laidOutB P = true) {W W' : World} {sp : Nat → Bool} : ∀ (ts : List TypeId) (vs : List Value) (ds : List (DataW H)) (ps : List MemPlace), (ts.all fun t => P.readableRec t && decide (t < P.types.size)) = true →
  DataW.TrodAll enc P W 0 (fun _ => true) true ts vs ds ps → (∀ x ∈ ps, W.sameAt W' x) → (∀ x ∈ ps, sp x.block = true) → DataW.TrodAll enc P W' 0 sp true ts vs ds ps := by
 intro ts
 induction ts with
 | nil =>
  intro vs ds ps _ h _ _
  match vs, ds, h with
  | [], [], h => exact h
 | cons t ts ih =>
  intro vs ds ps hr h hs hsp
  match vs, ds, h with
  | v :: vs, d :: ds, h =>
   obtain ⟨p, q, h1, h2, rfl⟩ := h
   simp only [List.all_cons, Bool.and_eq_true, decide_eq_true_eq] at hr
   exact ⟨p, q, Trod_stays hl hr.1.1 hr.1.2 h1 (fun x hx => hs x (List.mem_append.2 (Or.inl hx))) (fun x hx => hsp x (List.mem_append.2 (Or.inl hx))),
    ih vs ds q hr.2 h2 (fun x hx => hs x (List.mem_append.2 (Or.inr hx))) (fun x hx => hsp x (List.mem_append.2 (Or.inr hx))), rfl⟩

/-- A law that answers true and leaves old memory alone meets its row's post. -/
theorem law_post {f : Func} {s : ChangeSpec} {tb : TypeId} {fresh handsOn : Bool} {W W' : World} {args : Array Value} {ds : List (DataW H)} {before : List MemPlace}
  (hl : laidOutB P = true) (hr : (f.params.toList.all fun t => P.readableRec t && decide (t < P.types.size)) = true) (hv : s.vars = []) (htb : P.underlying tb = some .bool) (hres : f.resultTypes = #[tb])
  (hfn : s.fn H ds = { results := [.lit (.bool true)], args := ds })
  (hW : DataW.Whole enc P f.params.toList s.vars false W args.toList ds [] before) (hb : Below W.heap.size W W') :
  s.post enc P f false fresh handsOn false W args (.bool true) W' := by
 have hlt : ∀ p ∈ before, p.block < W.heap.size := fun p hp => hW.lt p hp
 have hold : ∀ p ∈ before, (fun b => decide (b < W.heap.size)) p.block = true := fun p hp => by simpa using hlt p hp
 obtain ⟨p, q, hA, hV, hpq, hz, hn⟩ := id hW
 rw [hv] at hV
 obtain rfl : q = [] := hV
 simp only [List.append_nil] at hpq
 subst hpq
 have hargs : ∀ sp : Nat → Bool, (∀ x ∈ before, sp x.block = true) → DataW.TrodAll enc P W' 0 sp true f.params.toList args.toList ds before := fun sp hsp =>
  trodAll_stays hl _ _ _ _ hr hA (fun x hx => hb.same (hlt x hx)) hsp
 have hres' : ∀ (b : Nat) (sp : Nat → Bool) (hd : Bool), DataW.TrodAll enc P W' b sp hd f.resultTypes.toList ((Value.bool true).resultList f.resultTypes.size) (s.fn H (ds ++ [])).results [] := fun _ _ _ => by
  rw [hres, List.append_nil, hfn]
  exact trodAll_mk1 (shut_bool htb true)
 refine ⟨ds, [], before, [], before, [], hW, hres' _ _ _, ?_, ?_, World.keptBut_mono (fun p hp => ⟨hp, ?_⟩) (hb.frame (· ∈ before)), fun h => by cases h⟩
 ·rw [List.append_nil, hfn]; exact hargs _ hold
 ·rw [hv, List.append_nil, hfn]; rfl
 ·exact Or.inr (Or.inl hp)

end
end Go.Proofs.YtemiklbkfogjeaaGreatDoor
namespace Go.Proofs.YtemiklbkfogjeaaGreatDoor
open Go Go.RowKit Go.WideShapes Go.ChangeShapes Go.WideElems Go.Deep
set_option linter.unusedVariables false
set_option linter.unusedSimpArgs false
section
variable {H : Type} {enc : TypeId × Value → H} {w : World} {base : Nat} {spare : Nat → Bool} {held : Bool}
end
end Go.Proofs.YtemiklbkfogjeaaGreatDoor
namespace Go.Proofs.YtemiklbkfogjeaaGreatDoor
open Go Go.RowKit
set_option linter.unusedVariables false
set_option linter.unusedSimpArgs false
/-- x and X are the same modulo the kind's width. -/
def IsRep (k : IntKind) (x : Int) (X : Nat) : Prop := BitVec.ofInt k.bits x = BitVec.ofNat k.bits X
theorem rep_nat (k : IntKind) (X : Nat) : IsRep k (X : Int) X := BitVec.ofInt_natCast _ _
theorem rep_of (k : IntKind) {x : Int} {X : Nat} (h : x = (X : Int)) : IsRep k x X := by rw [h]; exact rep_nat k X
theorem rep_mod64 (x : Int) : IsRep .i64 x (x % 18446744073709551616).toNat := by
  unfold IsRep
  apply BitVec.eq_of_toNat_eq
  simp [IntKind.bits, BitVec.toNat_ofInt]
  omega
theorem rep_wrap (k : IntKind) {x : Int} {X : Nat} (h : IsRep k x X) : IsRep k (k.wrap x) X := by
  unfold IsRep at h ⊢
  rw [← h]
  apply BitVec.eq_of_toInt_eq
  simp only [BitVec.toInt_ofInt]
  cases k <;> simp [IntKind.wrap, IntKind.bits, IntKind.signed, Int.bmod] <;> split <;> omega
theorem rep_and (k : IntKind) {x y : Int} {X Y : Nat} (h : IsRep k x X) (g : IsRep k y Y) : IsRep k (bits .and k x y) (X &&& Y) := by
  unfold IsRep at h g
  simp only [bits, h, g]
  refine rep_wrap k (X := X &&& Y) ?_
  unfold IsRep
  rw [BitVec.ofInt_natCast]
  apply BitVec.eq_of_toNat_eq
  simp [BitVec.toNat_ofNat]
/-- Two numbers of a kind with one representative are one. -/
theorem rep_eq (k : IntKind) {x y : Int} {X : Nat} (h : IsRep k x X) (g : IsRep k y X) (hx : k.wrap x = x) (hy : k.wrap y = y) : x = y := by
  have e : (BitVec.ofInt k.bits x).toNat = (BitVec.ofInt k.bits y).toNat := by rw [show BitVec.ofInt k.bits x = BitVec.ofInt k.bits y from Eq.trans h (Eq.symm g)]
  simp only [BitVec.toNat_ofInt] at e
  have hp : (0 : Int) < ((2 ^ k.bits : Nat) : Int) := by exact_mod_cast Nat.two_pow_pos k.bits
  have h1 := Int.emod_nonneg x (show ((2 ^ k.bits : Nat) : Int) ≠ 0 by omega)
  have h2 := Int.emod_nonneg y (show ((2 ^ k.bits : Nat) : Int) ≠ 0 by omega)
  have hm : x % ((2 ^ k.bits : Nat) : Int) = y % ((2 ^ k.bits : Nat) : Int) := by omega
  have hm' : x % (2 : Int) ^ k.bits = y % (2 : Int) ^ k.bits := by simpa using hm
  calc x = k.wrap x := hx.symm
    _ = k.wrap y := by unfold IntKind.wrap; rw [hm']
    _ = y := hy
theorem or_add (a b i : Nat) (h : a < 2 ^ i) : a ||| b * 2 ^ i = a + b * 2 ^ i := by
  rw [Nat.or_comm, Nat.mul_comm, Nat.add_comm]
  exact (Nat.two_pow_add_eq_or_of_lt h b).symm
theorem wrap_idem (k : IntKind) (x : Int) : k.wrap (k.wrap x) = k.wrap x := by
  cases k <;> simp [IntKind.wrap, IntKind.bits, IntKind.signed] <;> split <;> (try split) <;> omega
theorem bits_wrapped (op : BinOp) (k : IntKind) (a b : Int) (h : op = .or ∨ op = .and) : k.wrap (bits op k a b) = bits op k a b := by
  rcases h with rfl | rfl <;> exact wrap_idem k _
theorem and_i64 (a : Int) (i : Nat) (hi : i ≤ 62) : bits .and .i64 a ((2 : Int) ^ i - 1) = a % 2 ^ i := by
  have hpos : 0 < 2 ^ i := Nat.two_pow_pos i
  have h62 : 2 ^ i ≤ 2 ^ 62 := Nat.pow_le_pow_right (by decide) hi
  have hm : ((2 : Int) ^ i - 1) = ((2 ^ i - 1 : Nat) : Int) := by rw [Int.natCast_sub hpos]; simp
  have h1 := rep_and .i64 (rep_mod64 a) (rep_of .i64 hm)
  rw [Nat.and_two_pow_sub_one_eq_mod] at h1
  have e : (((a % 18446744073709551616).toNat % 2 ^ i : Nat) : Int) = a % 2 ^ i := by
    rw [Int.natCast_emod, Int.toNat_of_nonneg (by omega)]
    have : ((2 : Int) ^ i) ∣ 18446744073709551616 := ⟨2 ^ (64 - i), by
      rw [← Int.pow_add, show i + (64 - i) = 64 by omega]; rfl⟩
    have h3 := Int.emod_emod_of_dvd a this
    simpa using h3
  refine rep_eq .i64 h1 (rep_of .i64 e.symm) (bits_wrapped _ _ _ _ (.inr rfl)) ?_
  rw [IntKind.wrap_i64]
  have h2 : 0 ≤ a % (2 : Int) ^ i := Int.emod_nonneg _ (by have : (0 : Int) < 2 ^ i := by exact_mod_cast hpos
                                                           omega)
  have h3 : a % (2 : Int) ^ i < 2 ^ i := Int.emod_lt_of_pos _ (by exact_mod_cast hpos)
  have h4 : (2 : Int) ^ i ≤ 2 ^ 62 := by exact_mod_cast h62
  omega
theorem and_i64_7 (a : Int) : bits .and .i64 a 7 = a % 8 := and_i64 a 3 (by decide)
theorem and_i64_3 (a : Int) : bits .and .i64 a 3 = a % 4 := and_i64 a 2 (by decide)
theorem or_regs (d s : Int) (hd : 0 ≤ d ∧ d ≤ 15) (hs : 0 ≤ s ∧ s ≤ 15) : bits .or .i64 (s * 16) d = s * 16 + d :=
  bits_join .i64 63 (by decide) (fun n h0 h1 => by rw [IntKind.wrap_i64]; omega) 4 (s * 16) d (by omega) (by omega) (by omega) (by omega) (by omega) (by omega)
theorem and_u64_low (a : Int) (h : 0 ≤ a) (h' : a ≤ 18446744073709551615) : bits .and .u64 a 4294967295 = a % 4294967296 := by
  obtain ⟨a, rfl⟩ := Int.eq_ofNat_of_zero_le h
  have := bits_and_u64_nat a 4294967295 (by omega) (by decide)
  rw [show ((4294967295 : Nat) : Int) = 4294967295 from rfl] at this
  rw [this]
  have e : a &&& 4294967295 = a % 4294967296 := Nat.and_two_pow_sub_one_eq_mod a 32
  rw [e]
  omega
theorem or_halves (a b : Int) (ha : 0 ≤ a ∧ a < 4294967296) (hb : 0 ≤ b ∧ b < 4294967296) : bits .or .u64 a (b * 4294967296) = a + b * 4294967296 := by
  obtain ⟨a, rfl⟩ := Int.eq_ofNat_of_zero_le ha.1
  obtain ⟨b, rfl⟩ := Int.eq_ofNat_of_zero_le hb.1
  have h := bits_or_u64_nat a (b * 4294967296) (by omega) (by omega)
  rw [show ((b * 4294967296 : Nat) : Int) = (b : Int) * 4294967296 by simp] at h
  rw [h, show a ||| b * 4294967296 = a + b * 4294967296 from or_add a b 32 (by omega)]
  simp
/-- Block g holds just the cells cs of type t; none is frozen. -/
def Blk (w : World) (g : Nat) (t : TypeId) (cs : Array Value) : Prop := w.heap[g]? = some (.cells cs t (0, 0))
section
variable {w w' : World} {g : Nat} {t : TypeId} {cs : Array Value}
theorem Blk.lt (h : Blk w g t cs) : g < w.heap.size := by
 rcases Nat.lt_or_ge g w.heap.size with hlt | hge
 ·exact hlt
 ·unfold Blk at h; rw [Array.getElem?_eq_none hge] at h; cases h
theorem Blk.cell (h : Blk w g t cs) (i : Nat) : w.cell? ⟨g, i, none⟩ = cs[i]? := cell_of_row w g i cs t (0, 0) h
theorem Blk.frozen (h : Blk w g t cs) (i : Nat) : w.frozen? ⟨g, i, none⟩ = false := by
 unfold Blk at h
 simp [World.frozen?, h]
theorem Blk.new (w : World) (t : TypeId) (cs : Array Value) : Blk (w.alloc (.cells cs t)) w.heap.size t cs := heap_alloc_new w _
theorem Blk.alloc (h : Blk w g t cs) (o : Obj) : Blk (w.alloc o) g t cs := (Below.heap_alloc w o g h.lt).trans h
theorem Blk.set_ (h : Blk w g t cs) (i : Nat) (u : Value) : Blk (w.setCell ⟨g, i, none⟩ u) g t (cs.setIfInBounds i u) := by
 unfold Blk at h ⊢
 simp [World.setCell, Array.getElem?_modify, h]
theorem Blk.far (h : Blk w g t cs) {p : Addr} (hp : g ≠ p.block) (u : Value) : Blk (w.setCell p u) g t cs := (Below.heap_setCell w p u g hp).trans h
theorem Blk.ne_ {g' : Nat} {t' : TypeId} {cs' : Array Value} (h : Blk w g t cs) (h' : Blk w g' t' cs') (hne : t ≠ t') : g ≠ g' := by
 rintro rfl
 unfold Blk at h h'
 rw [h] at h'
 injection h' with h'
 injection h' with _ ht
 exact hne ht
end

/-- w' is w but for the blocks of S and new ones. -/
structure Keeps (S : Nat → Prop) (w w' : World) : Prop where
 os : w'.os = w.os
 tape : w'.tape = w.tape
 output : w'.output = w.output
 size : w.heap.size ≤ w'.heap.size
 block : ∀ k, k < w.heap.size → ¬ S k → w'.heap[k]? = w.heap[k]?
section
variable {S T : Nat → Prop} {a w w' : World}
theorem Keeps.refl (S : Nat → Prop) (w : World) : Keeps S w w := ⟨rfl, rfl, rfl, Nat.le_refl _, fun _ _ _ => rfl⟩
/-- The blocks of S, and those that were made from w to w'. -/
def more (S : Nat → Prop) (w w' : World) : Nat → Prop := fun b => S b ∨ (w.heap.size ≤ b ∧ b < w'.heap.size)
theorem Keeps.trans {b c : World} (h : Keeps S a b) (k : Keeps (more S a b) b c) : Keeps S a c :=
 ⟨k.os.trans h.os, k.tape.trans h.tape, k.output.trans h.output, Nat.le_trans h.size k.size, fun i hi hs => (k.block i (Nat.lt_of_lt_of_le hi h.size) (by
  rintro (h1 | ⟨h1, _⟩)
  ·exact hs h1
  ·omega)).trans (h.block i hi hs)⟩
theorem Keeps.mono (h : Keeps S w w') (hS : ∀ b, S b → T b) : Keeps T w w' := ⟨h.os, h.tape, h.output, h.size, fun i hi hs => h.block i hi (fun h1 => hs (hS i h1))⟩
theorem Keeps.drew (h : Keeps S a w) : Keeps S a w.drew := ⟨h.os, h.tape, h.output, h.size, h.block⟩
theorem Keeps.alloc (h : Keeps S a w) (o : Obj) : Keeps S a (w.alloc o) :=
 ⟨h.os, h.tape, h.output, by have := h.size; simp; omega, fun k hk hs => (Below.heap_alloc w o k (Nat.lt_of_lt_of_le hk h.size)).trans (h.block k hk hs)⟩
theorem Keeps.setCell (h : Keeps S a w) {p : Addr} (hp : S p.block ∨ a.heap.size ≤ p.block) (u : Value) : Keeps S a (w.setCell p u) :=
 ⟨h.os, h.tape, h.output, by have := h.size; simp [World.setCell]; omega, fun k hk hs => (Below.heap_setCell w p u k (by
  rintro rfl
  rcases hp with h1 | h1
  ·exact hs h1
  ·omega)).trans (h.block k hk hs)⟩
theorem Keeps.grown {row : Option Nat} (h : Keeps S a w) (hg : w.grownBy w' row) (hr : ∀ k, row = some k → S k ∨ a.heap.size ≤ k) : Keeps S a w' :=
 ⟨hg.os.trans h.os, hg.tape.trans h.tape, hg.output.trans h.output, Nat.le_trans h.size hg.size, fun k hk hs => (hg.block k (Nat.lt_of_lt_of_le hk h.size) (by
  intro e
  rcases hr k e.symm with h1 | h1
  ·exact hs h1
  ·omega)).trans (h.block k hk hs)⟩
theorem Keeps.below {B : Nat} (h : Keeps S w w') (hS : ∀ b, S b → B ≤ b) (hB : B ≤ w.heap.size) : Below B w w' :=
 ⟨h.os, h.tape, h.output, h.size, fun k hk => h.block k (by omega) (fun hs => by have := hS k hs; omega)⟩
theorem Below.keeps {B : Nat} (h : Below B w w') (hS : ∀ b, B ≤ b → b < w.heap.size → S b) : Keeps S w w' :=
 ⟨h.os, h.tape, h.output, h.size, fun k hk hs => h.block k (by
  rcases Nat.lt_or_ge k B with h1 | h1
  ·exact h1
  ·exact absurd (hS k h1 hk) hs)⟩
theorem Blk.keeps {g : Nat} {t : TypeId} {cs : Array Value} (h : Blk w g t cs) (k : Keeps S w w') (hs : ¬ S g) : Blk w' g t cs := (k.block g h.lt hs).trans h
end

theorem within_yes (n a b : Int) (h : a ≤ n ∧ n ≤ b) (w : World) :
  Calls Tryz.prog 115 #[.int .i64 n, .int .i64 a, .int .i64 b] w fun e w' => e = .returned (.bool true) ∧ w = w' := by
 have h1 : decide (a ≤ n) = true := by simp; omega
 have h2 : decide (n ≤ b) = true := by simp; omega
 go_enter Tryz.func115, Tryz.ntmps115
 go_wp2
 go_ret
 exact ⟨rfl, rfl⟩
theorem within_no (n a b : Int) (h : ¬ (a ≤ n ∧ n ≤ b)) (w : World) :
  Calls Tryz.prog 115 #[.int .i64 n, .int .i64 a, .int .i64 b] w fun e w' => e = .returned (.bool false) ∧ w = w' := by
 by_cases h1 : a ≤ n
 ·have h1 : decide (a ≤ n) = true := by simp; omega
  have h2 : decide (n ≤ b) = false := by simp; omega
  go_enter Tryz.func115, Tryz.ntmps115
  go_wp2
  go_ret
  exact ⟨rfl, rfl⟩
 ·have h1 : decide (a ≤ n) = false := by simp; omega
  go_enter Tryz.func115, Tryz.ntmps115
  go_wp2
  go_ret
  exact ⟨rfl, rfl⟩
def inB (n a b : Int) : Bool := decide (a ≤ n ∧ n ≤ b)
theorem within_any (n a b : Int) (w : World) :
  Calls Tryz.prog 115 #[.int .i64 n, .int .i64 a, .int .i64 b] w fun e w' => e = .returned (.bool (inB n a b)) ∧ w = w' := by
 by_cases h : a ≤ n ∧ n ≤ b
 ·rw [show inB n a b = true by simp [inB, h]]; exact within_yes n a b h w
 ·rw [show inB n a b = false by simp only [inB]; exact decide_eq_false h]; exact within_no n a b h w
/-- A slot. -/
def insV (o d s f m : Int) : Value := .agg #[.int .i64 o, .int .i64 d, .int .i64 s, .int .i64 f, .int .i64 m]
def Fits (o d s f m : Int) : Prop := (0 ≤ o ∧ o ≤ 255) ∧ (0 ≤ d ∧ d ≤ 15) ∧ (0 ≤ s ∧ s ≤ 15) ∧ (-32768 ≤ f ∧ f ≤ 32767) ∧ (-2147483648 ≤ m ∧ m ≤ 2147483647)
instance (o d s f m : Int) : Decidable (Fits o d s f m) := by unfold Fits; infer_instance
set_option maxHeartbeats 1000000 in
theorem fits_any (o d s f m : Int) (w : World) :
  Calls Tryz.prog 94 #[insV o d s f m] w fun e w' => e = .returned (.bool (decide (Fits o d s f m))) ∧ Below w.heap.size w w' := by
 have hF : decide (Fits o d s f m) = (inB o 0 255 && (inB d 0 15 && (inB s 0 15 && (inB f (-32768) 32767 && inB m (-2147483648) 2147483647)))) := by
  rw [Bool.eq_iff_iff]
  simp [Fits, inB, and_assoc]
 rw [hF]
 clear hF
 unfold insV
 cases h1 : inB o 0 255 <;> cases h2 : inB d 0 15 <;> cases h3 : inB s 0 15 <;> cases h4 : inB f (-32768) 32767 <;> cases h5 : inB m (-2147483648) 2147483647
 all_goals
  go_enter Tryz.func94, Tryz.ntmps94
  go_wp2_with (go_at_call 115; refine (within_any _ _ _ _).mono ?_; rintro e w' ⟨rfl, rfl⟩)
  go_ret
  exact ⟨rfl, (Below.refl _ w).alloc (Nat.le_refl _) _⟩
def cellsE (o d s f m : Int) : Array Value := #[.int .u8 o, .int .u8 (s * 16 + d), .int .u8 (f % 256), .int .u8 (f / 256 % 256), .int .u8 (m % 256), .int .u8 (m / 256 % 256), .int .u8 (m / 65536 % 256), .int .u8 (m / 16777216 % 256)]
theorem bytesOf_any (o d s f m : Int) (h : Fits o d s f m) (w : World) :
  Calls Tryz.prog 95 #[insV o d s f m] w fun e w' => e = .returned (.agg (cellsE o d s f m)) ∧ Below w.heap.size w w' := by
 unfold insV cellsE
 obtain ⟨h1, h2, h3, h4, h5⟩ := h
 have e1 : wrap64 (s * 16) = s * 16 := by unfold wrap64; omega
 have e2 := or_regs d s h2 h3
 go_enter Tryz.func95, Tryz.ntmps95
 go_wp2_with fail
 exact bodyPost_ret (results_cell_row rfl _ _ (w.heap.size + 1) 130 _ (0, 0) _ rfl (heap_alloc2_new w _ _) Tryz.underlying130 rfl (by kernel_rfl)) rfl ⟨rfl, ((Below.refl _ w).alloc (Nat.le_refl _) _).alloc (by simp) _⟩
theorem wide_any (o d s f m : Int) (w : World) :
  Calls Tryz.prog 45 #[insV o d s f m] w fun e w' => e = .returned (.bool (o == 24)) ∧ Below w.heap.size w w' := by
 unfold insV
 go_enter Tryz.func45, Tryz.ntmps45
 go_wp2_with fail
 go_ret
 exact ⟨rfl, (Below.refl _ w).alloc (Nat.le_refl _) _⟩
theorem class_any (o d s f m : Int) (w : World) :
  Calls Tryz.prog 67 #[insV o d s f m] w fun e w' => e = .returned (.int .i64 (o % 8)) ∧ Below w.heap.size w w' := by
 unfold insV
 have h7 := and_i64_7 o
 go_enter Tryz.func67, Tryz.ntmps67
 go_wp2_with fail
 go_ret
 exact ⟨rfl, (Below.refl _ w).alloc (Nat.le_refl _) _⟩
theorem tmod256 (o : Int) : wrap64 (o.tmod 256 + 256) = o.tmod 256 + 256 ∧ (o.tmod 256 + 256).tmod 256 = o % 256 := by
 have h1 := Int.mul_tdiv_add_tmod o 256
 have h2 := Int.tmod_lt_of_pos o (show (0 : Int) < 256 by decide)
 have h3 := Int.lt_tmod_of_pos o (show (0 : Int) < 256 by decide)
 refine ⟨by unfold wrap64; omega, ?_⟩
 rw [Int.tmod_eq_emod_of_nonneg (by omega)]
 omega
/-- How many bytes an Op moves. -/
def sizeV (o : Int) : Int := if o % 8 < 1 ∨ 3 < o % 8 then 0 else if o / 8 % 4 = 0 then 4 else if o / 8 % 4 = 1 then 2 else if o / 8 % 4 = 2 then 1 else 8
theorem ret_u64 {a b : Int} (h : a = b) : Ending.returned (.int .u64 a) = .returned (.int .u64 b) := by rw [h]
/-- A wide instruction's number. -/
def wideN (m m' : Int) : Int := m % 4294967296 + m' % 4294967296 * 4294967296
theorem imm_any (o d s f m o' d' s' f' m' : Int) (w : World) :
  Calls Tryz.prog 99 #[insV o d s f m, insV o' d' s' f' m'] w fun e w' => e = .returned (.int .u64 (wideN m m')) ∧ Below w.heap.size w w' := by
 unfold insV
 have e0 : bits .or .u64 0 (m % 4294967296) = m % 4294967296 := by
  have := or_halves 0 0 (by omega) (by omega)
  obtain ⟨x, hx⟩ := Int.eq_ofNat_of_zero_le (show 0 ≤ m % 4294967296 by omega)
  rw [hx]
  have := bits_or_u64_nat 0 x (by omega) (by omega)
  rw [show ((0 : Nat) : Int) = 0 from rfl, Nat.zero_or] at this
  exact this
 have e1 := or_halves (m % 4294967296) (m' % 4294967296) (by omega) (by omega)
 have x0 : ∀ w : World, (Instr.index 66 (.agg #[.int .i64 o, .int .i64 d, .int .i64 s, .int .i64 f, .int .i64 m, .int .i64 o', .int .i64 d', .int .i64 s', .int .i64 f', .int .i64 m']) (.int .i64 0)).run Tryz.prog w = .ok (.agg #[.int .i64 o, .int .i64 d, .int .i64 s, .int .i64 f, .int .i64 m]) w := fun w => by kernel_rfl
 have x1 : ∀ w : World, (Instr.index 66 (.agg #[.int .i64 o, .int .i64 d, .int .i64 s, .int .i64 f, .int .i64 m, .int .i64 o', .int .i64 d', .int .i64 s', .int .i64 f', .int .i64 m']) (.int .i64 1)).run Tryz.prog w = .ok (.agg #[.int .i64 o', .int .i64 d', .int .i64 s', .int .i64 f', .int .i64 m']) w := fun w => by kernel_rfl
 go_enter Tryz.func99, Tryz.ntmps99
 go_wp2_with fail
 have hb0 : Below w.heap.size w ((w.alloc (.cells #[.int .i64 o, .int .i64 d, .int .i64 s, .int .i64 f, .int .i64 m] 38)).alloc (.cells #[.int .i64 o', .int .i64 d', .int .i64 s', .int .i64 f', .int .i64 m'] 38)) := ((Below.refl _ w).alloc (Nat.le_refl _) _).alloc (by simp) _
 have HB0 := Lib.hid hb0
 clear hb0
 go_loopw [5, 11] (fun n i wr => Below w.heap.size w wr ∧ ((i = .int .i64 0 ∧ n = .int .u64 0) ∨ (i = .int .i64 1 ∧ n = .int .u64 (m % 4294967296)) ∨ (i = .int .i64 2 ∧ n = .int .u64 (wideN m m')))) (fun _ i _ => 2 - (intOf i).toNat)
 case atStart => exact ⟨HB0.out, .inl ⟨rfl, rfl⟩⟩
 case round =>
  obtain ⟨hb, hr⟩ := hrel
  have HB := Lib.hid hb
  have hsz := Lib.hid hb.size
  clear hb HB0
  rcases hr with ⟨rfl, rfl⟩ | ⟨rfl, rfl⟩ | ⟨rfl, rfl⟩
  ·go_wp2_with fail
   go_roundw
   case rel => exact ⟨HB.out.alloc hsz.out _, .inr (.inl ⟨rfl, rfl⟩)⟩
   case measure => simp [intOf]
  ·go_wp2_with fail
   go_roundw
   case rel => exact ⟨HB.out.alloc hsz.out _, .inr (.inr ⟨rfl, rfl⟩)⟩
   case measure => simp [intOf]
  ·go_wp2_with fail
   go_ret
   exact ⟨rfl, HB.out⟩
/-- The two slots of a number. -/
def layV (d n : Int) : Value := .agg #[.int .i64 24, .int .i64 d, .int .i64 0, .int .i64 0, .int .i64 (wrap32 n), .int .i64 0, .int .i64 0, .int .i64 0, .int .i64 0, .int .i64 (wrap32 (n / 4294967296))]
theorem wrap3264 (n : Int) : wrap64 (wrap32 n) = wrap32 n := by unfold wrap64 wrap32; omega
end Go.Proofs.YtemiklbkfogjeaaGreatDoor
