/-
  Read: the number that so many bytes are, or the fault. Write: the lowest bytes of a number into a region, or the fault. Bytes, Put, Size, Fail: what they return, and what becomes of the memory. Put; Free of a region that was not retired; Retire and Grace where they only answer. Free of a region that was not retired. The functions once more, for a memory whose blocks all lie from block B on: what the laws want.
-/
import Derived.Test.YtomhflaofipccaaP2
import Derived.Lib.EndianBits
import Derived.Lib.SlBytesRow
import Derived.Lib.BufferWrite
import Derived.Lib.BufferRead
import Derived.Lib.SlBuf
import Derived.Shelf.Bytes.SlSmallAll
import Derived.Outline
import Derived.StillTailTactics
namespace Go.Proofs.Ytomhflaofipccaa
open Go Go.RowKit Go.Maps
set_option linter.unusedVariables false

/-- The number whose bytes these are, the lowest first. -/
def le : List UInt8 → Nat
  | [] => 0
  | b :: r => b.toNat + 256 * le r
theorem le_snoc : ∀ (l : List UInt8) (b : UInt8), le (l ++ [b]) = le l + b.toNat * 256 ^ l.length
  | [], b => by simp [le]
  | x :: r, b => by simp only [List.cons_append, le, le_snoc r b, List.length_cons, Nat.pow_succ]; rw [Nat.mul_add, Nat.add_assoc]; congr 2; rw [Nat.mul_comm, Nat.mul_assoc]
theorem le_lt : ∀ l : List UInt8, le l < 256 ^ l.length
  | [] => by simp [le]
  | x :: r => by
    have := le_lt r
    have := x.toNat_lt
    simp only [le, List.length_cons, Nat.pow_succ]
    omega
theorem pow_256 (k : Nat) : (256 : Nat) ^ k = 2 ^ (8 * k) := by rw [Nat.pow_mul]
theorem or_le (l : List UInt8) (b : UInt8) (h : l.length < 8) : bits .or .u64 (le l : Int) (((b.toNat : Int) * 2 ^ (8 * l.length)) % 18446744073709551616) = (le (l ++ [b]) : Int) := by
  have h1 := le_lt l
  rw [pow_256] at h1
  have h2 := b.toNat_lt
  have h3 : b.toNat * 2 ^ (8 * l.length) < 2 ^ 64 := by
    have : b.toNat * 2 ^ (8 * l.length) < 256 * 2 ^ (8 * l.length) := (Nat.mul_lt_mul_right (Nat.two_pow_pos _)).2 h2
    have h4 : 256 * 2 ^ (8 * l.length) = 2 ^ (8 * l.length + 8) := by rw [Nat.pow_add]; omega
    have h5 : (2 : Nat) ^ (8 * l.length + 8) ≤ 2 ^ 64 := Nat.pow_le_pow_right (by omega) (by omega)
    omega
  have h6 : 2 ^ (8 * l.length) ≤ 2 ^ 64 := Nat.pow_le_pow_right (by omega) (by omega)
  have e : ((b.toNat : Int) * 2 ^ (8 * l.length)) % 18446744073709551616 = ((b.toNat * 2 ^ (8 * l.length) : Nat) : Int) := by
    rw [Int.emod_eq_of_lt]
    · simp
    · exact Int.mul_nonneg (by omega) (Int.pow_nonneg (by omega))
    · have : ((b.toNat * 2 ^ (8 * l.length) : Nat) : Int) < ((2 ^ 64 : Nat) : Int) := by exact_mod_cast h3
      simpa using this
  have h7 : le l < 2 ^ 64 := by omega
  rw [e, bits_join_low .u64 64 (by decide) wraps_u64 (8 * l.length) (le l) _ (by omega) (by exact_mod_cast h1) (by exact_mod_cast h7) (by omega) ?_ (by exact_mod_cast h3), le_snoc, pow_256]
  · simp
  · have : b.toNat * 2 ^ (8 * l.length) % 2 ^ (8 * l.length) = 0 := Nat.mul_mod_left _ _
    exact_mod_cast this

section
variable {w : World} {S : Nat → Prop} {bm made fail : Nat} {st : Nat → Option RG} {rl : List Nat} {mv rv : Value}
theorem read_nil (a size : Int) (w : World) :
    Calls Try.prog 13 #[.pointer none, .int .u64 a, .int .i64 size] w fun e w' => e = .returned (.tuple #[.int .u64 0, .int .i64 1]) ∧ w = w' := by
  go_enter Try.func13, Try.ntmps13
  go_wp2_with fail
  go_ret2
  exact ⟨rfl, rfl⟩
theorem read_arg (p : Addr) (a size : Int) (hs : ¬ (size = 1 ∨ size = 2 ∨ size = 4 ∨ size = 8)) (w : World) :
    Calls Try.prog 13 #[.pointer (some p), .int .u64 a, .int .i64 size] w fun e w' => e = .returned (.tuple #[.int .u64 0, .int .i64 1]) ∧ w = w' := by
  have c := isSize_no size hs w
  clear hs
  go_enter Try.func13, Try.ntmps13
  go_wp2_with (go_at_call 24; refine c.mono ?_; rintro e w' ⟨rfl, rfl⟩)
  go_ret2
  exact ⟨rfl, rfl⟩
theorem read_fault (p : Addr) (a size z : Int) (hs : size = 1 ∨ size = 2 ∨ size = 4 ∨ size = 8) (w : World)
    (hf : Calls Try.prog 25 #[.pointer (some p), .int .u64 a, .int .i64 size, .int .i64 1] w fun e w' => e = .returned (.tuple #[.slice none 0 0, .int .i64 z]) ∧ w = w') :
    Calls Try.prog 13 #[.pointer (some p), .int .u64 a, .int .i64 size] w fun e w' => e = .returned (.tuple #[.int .u64 0, .int .i64 z]) ∧ w = w' := by
  have c := isSize_yes size hs w
  clear hs
  go_enter Try.func13, Try.ntmps13
  go_wp2_with (first
    | (go_at_call 24; refine c.mono ?_; rintro e w' ⟨rfl, rfl⟩)
    | (go_at_call 25; refine hf.mono ?_; rintro e w' ⟨rfl, rfl⟩))
  go_loop [10, 29] (fun n i => n = .int .u64 0 ∧ i = .int .i64 0) (fun _ _ => 0)
  case atStart => exact ⟨rfl, rfl⟩
  case round =>
    obtain ⟨rfl, rfl⟩ := hrel
    go_wp2
    go_ret2
    exact ⟨rfl, rfl⟩
/-- A region of the memory with the row g: what it holds, cell by cell. -/
theorem AllPost.cell {w' : World} {n g : Nat} {r : RG} (h : AllPost w S bm made fail st rl mv rv n r w' g) (j : Nat) : w'.cell? ⟨g, j, none⟩ = (r.bytes.map byteV)[j]? := by
  have := (h.1.regs n _ (upd_same st n _)).rows g rfl
  have := this.cell j
  simpa using this
def ReadPost (w : World) (S : Nat → Prop) (bm made fail : Nat) (st : Nat → Option RG) (rl : List Nat) (mv rv : Value) (n : Nat) (r : RG) (w' : World) : Prop := ∃ g, AllPost w S bm made fail st rl mv rv n r w' g
theorem read_ok (h : KM w S bm made fail st rl mv rv) (n o : Nat) (hn : n ≤ 4294967295) (ho : o ≤ 4294967295) (k : Nat) (hk : (k : Int) = 1 ∨ (k : Int) = 2 ∨ (k : Int) = 4 ∨ (k : Int) = 8) {r : RG} (hs : st n = some r) (hp : (bits .and .i64 r.perm 1 != 1) = false) (hb : o + k ≤ r.bytes.length) :
    Calls Try.prog 13 #[.pointer (some ⟨bm, 0, none⟩), .int .u64 (addr n o), .int .i64 (k : Int)] w fun e w' =>
      e = .returned (.tuple #[.int .u64 (le ((r.bytes.drop o).take k)), .int .i64 0]) ∧ ReadPost w S bm made fail st rl mv rv n r w' := by
  have c := isSize_yes k hk w
  have cf := find_ok h n o hn ho k (by omega) 1 hs hp hb
  have hk8 : k ≤ 8 := by omega
  have hk1 : 0 < k := by omega
  have hle := (h.regs n r hs).le
  clear h hs hp hk
  generalize addr n o = a at *
  have HP : Hid (∀ w' g, AllPost w S bm made fail st rl mv rv n r w' g → ReadPost w S bm made fail st rl mv rv n r w' ∧ ∀ j, w'.cell? ⟨g, j, none⟩ = (r.bytes.map byteV)[j]?) := fun w' g h => ⟨⟨g, h⟩, fun j => h.cell j⟩
  generalize ReadPost w S bm made fail st rl mv rv n r = post at HP ⊢
  unfold FindPost at cf
  generalize AllPost w S bm made fail st rl mv rv n r = apost at HP cf
  generalize hxs : r.bytes = xs at *
  clear hxs
  go_enter Try.func13, Try.ntmps13
  go_wp2_with (first
    | (go_at_call 24; refine c.mono ?_; rintro e w' ⟨rfl, rfl⟩)
    | (go_at_call 25; refine cf.mono ?_; rintro e w' ⟨g, A, rfl, hA, ha⟩; obtain rfl := hA hk1; clear hA; have HC := Lib.hid ha; clear ha))
  have HC2 := Lib.hid (HP.out _ _ HC.out)
  go_loop [10, 29] (fun n i => ∃ j : Nat, j ≤ k ∧ n = .int .u64 (le ((xs.drop o).take j)) ∧ i = .int .i64 j) (fun _ i => k - (intOf i).toNat)
  case atStart => exact ⟨0, by omega, rfl, rfl⟩
  case round =>
    obtain ⟨j, hj, rfl, rfl⟩ := hrel
    by_cases hlt : j < k
    · have hx : o + j < xs.length := by omega
      have hcell := HC2.out.2 (o + j)
      rw [List.getElem?_map, List.getElem?_eq_getElem hx] at hcell
      simp only [Option.map_some, byteV] at hcell
      have hj8 : (8 : Int) * j ≤ 63 := by omega
      go_wp2
      go_round
      case rel =>
        refine ⟨j + 1, by omega, ?_, by go_num⟩
        have e1 := or_le ((xs.drop o).take j) xs[o + j] (by simp; omega)
        have e2 : ((xs.drop o).take j).length = j := by simp; omega
        have e3 : (xs.drop o).take (j + 1) = (xs.drop o).take j ++ [xs[o + j]] := by
          rw [List.take_succ_eq_append_getElem (by simp; omega)]; simp
        rw [e3, ← e1, e2, IntKind.wrap_u64, IntKind.wrap_u64]
        have e4 : ((xs[o + j].toNat : Nat) : Int) % 18446744073709551616 = xs[o + j].toNat := by
          have := xs[o + j].toNat_lt; omega
        rw [e4]
      case measure => simp [intOf]; omega
    · have : j = k := by omega
      subst this
      go_wp2
      go_ret2
      exact ⟨rfl, HC2.out.1⟩
end
end Go.Proofs.Ytomhflaofipccaa
namespace Go.Proofs.Ytomhflaofipccaa
open Go Go.RowKit Go.Maps
set_option linter.unusedVariables false

/-- The bytes s put over those from o on. -/
def setAt (l : List UInt8) (o : Nat) (s : List UInt8) : List UInt8 := l.take o ++ s ++ l.drop (o + s.length)
theorem setAt_nil (l : List UInt8) (o : Nat) : setAt l o [] = l := by simp [setAt]
theorem setAt_length (l : List UInt8) (o : Nat) (s : List UInt8) (h : o + s.length ≤ l.length) : (setAt l o s).length = l.length := by simp [setAt]; omega
theorem setAt_get (l : List UInt8) (o : Nat) (s : List UInt8) (h : o + s.length ≤ l.length) (i : Nat) : (setAt l o s)[i]? = if o ≤ i ∧ i < o + s.length then s[i - o]? else l[i]? := by
  unfold setAt
  rw [List.getElem?_append, List.getElem?_append]
  simp only [List.length_append, List.length_take, List.getElem?_take, List.getElem?_drop]
  have e : min o l.length = o := by omega
  rw [e]
  by_cases h1 : i < o
  · rw [if_pos (by omega), if_pos h1, if_pos h1, if_neg (by omega)]
  · by_cases h2 : i < o + s.length
    · rw [if_pos h2, if_neg h1, if_pos ⟨by omega, h2⟩]
    · rw [if_neg h2, if_neg (by omega)]
      congr 1; omega
theorem setAt_snoc (l : List UInt8) (o : Nat) (s : List UInt8) (b : UInt8) (h : o + s.length < l.length) : setAt l o (s ++ [b]) = (setAt l o s).set (o + s.length) b := by
  apply List.ext_getElem?
  intro i
  rw [setAt_get _ _ _ (by simp; omega), List.getElem?_set, setAt_get _ _ _ (by omega), setAt_length _ _ _ (by omega)]
  by_cases h1 : o + s.length = i
  · subst h1; simp [h]
  · rw [if_neg h1]
    by_cases h2 : o ≤ i ∧ i < o + s.length
    · rw [if_pos h2, if_pos (by simp; omega), List.getElem?_append_left (by omega)]
    · rw [if_neg h2, if_neg (by simp; omega)]
/-- The lowest k bytes of n. -/
def wb (n k : Nat) : List UInt8 := (List.range k).map fun i => UInt8.ofNat (n / 256 ^ i)
theorem wb_length (n k : Nat) : (wb n k).length = k := by simp [wb]
theorem wb_succ (n k : Nat) : wb n (k + 1) = wb n k ++ [UInt8.ofNat (n / 256 ^ k)] := by simp [wb, List.range_succ]
theorem byteV_ofNat (m : Nat) : byteV (UInt8.ofNat m) = .int .u8 ((m % 256 : Nat) : Int) := by unfold byteV; rw [UInt8.toNat_ofNat']

section
variable {w w1 w2 : World} {S : Nat → Prop} {bm made fail : Nat} {st : Nat → Option RG} {rl : List Nat} {mv rv : Value}
theorem upd_upd (st : Nat → Option RG) (n : Nat) (a b : Option RG) : upd (upd st n a) n b = upd st n b := by
  funext k
  by_cases h : k = n
  · subst h; simp [upd]
  · simp [upd, h]
/-- Other bytes in a region whose row is there. -/
theorem AllPost.write {n g : Nat} {r : RG} {ys : List UInt8} (h : AllPost w S bm made fail st rl mv rv n r w1 g) (k : Keeps (fun b => b = g) w1 w2) (hb : Blk w2 g 5 (ys.map byteV).toArray) (hl : ys.length = r.bytes.length) :
    KM w2 (more S w w2) bm made fail (upd st n (some { r with row := some g, bytes := ys })) rl mv rv ∧ Keeps S w w2 := by
  obtain ⟨hk, kk, hS⟩ := h
  have hr := hk.regs n _ (upd_same st n _)
  have hd : Blk w2 r.blk _ _ := hr.head.keeps k (fun e => Blk.ne_ hr.head (hr.rows g rfl) (by decide) e)
  have := hk.region (upd_same st n _) (r' := { r with row := some g, bytes := ys }) k rfl rfl (fun b _ e => .inr (by rw [e]))
    ⟨by simpa [RG.sl, hl] using hd, fun g' hg' => by cases hg'; exact hb, (fun e => by cases e), by have := hr.pos; simpa [hl] using this, by have := hr.le; simpa [hl] using this, hr.p1, hr.p3⟩
    (fun g' hg' => .inl hg')
  rw [upd_upd] at this
  exact KM.chain kk (k.mono (fun b e => e ▸ (hk.sreg n _ (upd_same st n _)).2 g rfl)) this

def WritePost (w : World) (S : Nat → Prop) (bm made fail : Nat) (st : Nat → Option RG) (rl : List Nat) (mv rv : Value) (n : Nat) (r : RG) (ys : List UInt8) (w' : World) : Prop :=
  ∃ g, KM w' (more S w w') bm made fail (upd st n (some { r with row := some g, bytes := ys })) rl mv rv ∧ Keeps S w w'
end
end Go.Proofs.Ytomhflaofipccaa
namespace Go.Proofs.Ytomhflaofipccaa
open Go Go.RowKit Go.Maps
set_option linter.unusedVariables false

theorem RG.At.whatever {w : World} {r : RG} (hr : r.At w) : (bits .and .i64 r.perm 0 != 0) = false := by
  have h1 := hr.p1
  have h2 := hr.p3
  have h3 : r.perm = 1 ∨ r.perm = 2 ∨ r.perm = 3 := by omega
  rcases h3 with e | e | e <;> rw [e] <;> decide
/-- The string of these bytes. -/
def bstr (l : List UInt8) : ByteArray := ⟨l.toArray⟩
theorem bstr_size (l : List UInt8) : (bstr l).size = l.length := by simp [bstr, ByteArray.size]
theorem bstr_extract (l : List UInt8) (o k : Nat) : (bstr l).extract o (o + k) = bstr ((l.drop o).take k) := by
  apply ByteArray.ext
  apply Array.toList_inj.1
  rw [Lib.extract_data]
  simp [bstr]
section
variable {w w1 w2 : World} {S : Nat → Prop} {bm made fail : Nat} {st : Nat → Option RG} {rl : List Nat} {mv rv : Value}
theorem ret2_si {a b : ByteArray} {z : Int} (h : a = b) : Ending.returned (.tuple #[.string a, .int .i64 z]) = .returned (.tuple #[.string b, .int .i64 z]) := by rw [h]
end
end Go.Proofs.Ytomhflaofipccaa
namespace Go.Proofs.Ytomhflaofipccaa
open Go Go.RowKit Go.Maps
set_option linter.unusedVariables false

theorem size8 : (Try.prog.info? 5).map (·.size) = some 1 := by kernel_rfl
theorem copy_nil (w : World) (s : ByteArray) (ty : TypeId) :
    (Builtin.copy_ #[42, 9] ty #[.slice none 0 0, .string s]).run Try.prog w = .ok (goInt 0) w := by
  obtain ⟨i, hi, hz, hsz, hby⟩ := info_parts info8
  simp [Builtin.copy_, run_underlying Try.underlying42, Builtin.lenOf, Builtin.firstCells, sizeOf, typeInfo, hi]
section
variable {w w1 w2 : World} {S : Nat → Prop} {bm made fail : Nat} {st : Nat → Option RG} {rl : List Nat} {mv rv : Value}
theorem put_nil (a : Int) (s : ByteArray) (w : World) :
    Calls Try.prog 21 #[.pointer none, .int .u64 a, .string s] w fun e w' => e = .returned (.int .i64 1) ∧ w = w' := by
  go_enter Try.func21, Try.ntmps21
  go_wp2_with fail
  go_ret
  exact ⟨rfl, rfl⟩
theorem put_arg (p : Addr) (a : Int) (s : ByteArray) (hs : 1048576 < s.size) (hm : s.size ≤ maxLen) (w : World) :
    Calls Try.prog 21 #[.pointer (some p), .int .u64 a, .string s] w fun e w' => e = .returned (.int .i64 1) ∧ w = w' := by
  unfold maxLen at hm
  have h1 : decide (1048576 < (s.size : Int)) = true := by simp; omega
  go_enter Try.func21, Try.ntmps21
  go_wp2_with fail
  go_ret
  exact ⟨rfl, rfl⟩
theorem put_fault (p : Addr) (a z : Int) (s : ByteArray) (hs : s.size ≤ 1048576) (w : World)
    (hf : Calls Try.prog 25 #[.pointer (some p), .int .u64 a, .int .i64 (s.size : Int), .int .i64 0] w fun e w' => e = .returned (.tuple #[.slice none 0 0, .int .i64 z]) ∧ w = w') :
    Calls Try.prog 21 #[.pointer (some p), .int .u64 a, .string s] w fun e w' => e = .returned (.int .i64 z) ∧ w = w' := by
  have h1 : decide (1048576 < (s.size : Int)) = false := by simp; omega
  have hc := copy_nil w s
  go_enter Try.func21, Try.ntmps21
  go_wp2_with (go_at_call 25; refine hf.mono ?_; rintro e w' ⟨rfl, rfl⟩)
  go_ret
  exact ⟨rfl, rfl⟩
theorem setRow_keeps (w : World) (g : Nat) (cs : Array Value) : Keeps (fun b => b = g) w (w.setRow g cs) :=
  ⟨rfl, rfl, rfl, by simp [World.setRow], fun k hk hs => setRow_other w g k cs hs⟩
theorem put_copied (l ys xs : List UInt8) (o : Nat) (post : List UInt8 → World → Prop) (hb : o + l.length ≤ xs.length) (w1 : World) (g : Nat) (A : Addr) (hA : 0 < (bstr l).size → A = ⟨g, o, none⟩)
    (hblk : Blk w1 g 5 (xs.map byteV).toArray) (hend : ∀ w2 ys, Keeps (fun b => b = g) w1 w2 → Blk w2 g 5 (ys.map byteV).toArray → ys.length = xs.length → post ys w2) :
    ∃ w2, (∀ ty, (Builtin.copy_ #[42, 9] ty #[.slice (some A) (bstr l).size (xs.length - o), .string (bstr l)]).run Try.prog w1 = .ok (goInt ((bstr l).size : Int)) w2) ∧ post (setAt xs o l) w2 := by
  have hsz : (bstr l).size = l.length := bstr_size l
  rcases Nat.eq_zero_or_pos l.length with h0 | h0
  · obtain rfl : l = [] := List.eq_nil_of_length_eq_zero h0
    refine ⟨w1, fun ty => ?_, hend w1 _ (Keeps.refl _ _) (by rw [setAt_nil]; exact hblk) (by rw [setAt_nil])⟩
    exact Lib.run_copy_empty_string w1 _ _ ty _ _ _ _ _ Try.underlying42 (by obtain ⟨i, hi, _⟩ := info_parts info8; rw [hi]; rfl) rfl
  · obtain rfl := hA (by omega)
    have hr := fun ty => Lib.run_copy_row_string (P := Try.prog) w1 42 9 ty 5 g o (bstr l).size (xs.length - o) (bstr l) (xs.map byteV).toArray 5 Try.underlying42 size8 hblk (Nat.le_refl _) (by rw [hsz]; simpa using hb)
    have e : (setAt xs o l).map byteV = ((xs.map byteV).toArray.toList.take o ++ Lib.byteCells (bstr l).data.toList ++ (xs.map byteV).toArray.toList.drop (o + (bstr l).size)) := by
      rw [hsz]
      simp only [setAt, List.map_append, List.map_take, List.map_drop]
      rfl
    refine ⟨_, hr, hend _ _ (setRow_keeps _ _ _) ?_ (setAt_length _ _ _ hb)⟩
    rw [e]
    exact setRow_heap w1 g _ _ _ _ hblk
theorem put_ok (h : KM w S bm made fail st rl mv rv) (n o : Nat) (hn : n ≤ 4294967295) (ho : o ≤ 4294967295) (l : List UInt8) (hk : l.length ≤ 1048576) {r : RG} (hs : st n = some r) (hb : o + l.length ≤ r.bytes.length) :
    Calls Try.prog 21 #[.pointer (some ⟨bm, 0, none⟩), .int .u64 (addr n o), .string (bstr l)] w fun e w' =>
      e = .returned (.int .i64 0) ∧ WritePost w S bm made fail st rl mv rv n r (setAt r.bytes o l) w' := by
  have hr := h.regs n r hs
  have hsz : (bstr l).size = l.length := bstr_size l
  have cf := find_ok h n o hn ho (bstr l).size (by omega) 0 hs hr.whatever (by omega)
  have h1 : decide (1048576 < ((bstr l).size : Int)) = false := by simp; omega
  have copied : Hid (∀ (w1 : World) (g : Nat) (A : Addr), (0 < (bstr l).size → A = ⟨g, o, none⟩) → AllPost w S bm made fail st rl mv rv n r w1 g →
      ∃ w2, (∀ ty, (Builtin.copy_ #[42, 9] ty #[.slice (some A) (bstr l).size (r.bytes.length - o), .string (bstr l)]).run Try.prog w1 = .ok (goInt ((bstr l).size : Int)) w2) ∧ WritePost w S bm made fail st rl mv rv n r (setAt r.bytes o l) w2) :=
    fun w1 g A hA h => put_copied l [] r.bytes o _ hb w1 g A hA ((h.1.regs n _ (upd_same st n _)).rows g rfl) (fun w2 ys k hb hl => ⟨g, h.write k hb hl⟩)
  have hsm : (bstr l).size ≤ 1048576 := by omega
  clear h hs hr hsz
  generalize WritePost w S bm made fail st rl mv rv n r (setAt r.bytes o l) = post at copied ⊢
  unfold FindPost at cf
  generalize AllPost w S bm made fail st rl mv rv n r = apost at copied cf
  generalize addr n o = a at *
  generalize bstr l = sl at *
  generalize r.bytes.length - o = cap at *
  go_enter Try.func21, Try.ntmps21
  go_wp2_with (go_at_call 25; refine cf.mono ?_; rintro e w1 ⟨g, A, rfl, hA, ha⟩; obtain ⟨w2, hcp, hpo⟩ := copied.out w1 g A hA ha; have HC := Lib.hid hpo; clear ha hA hpo)
  go_ret
  exact ⟨rfl, HC.out⟩

theorem KM.delmap (h : KM w S bm made fail st rl mv rv) {n : Nat} {b : Nat} {D : DataW Value} {r : RG} (hs : st n = some r) (hret : r.ret = false) (hmv : mv = .map (some b)) (k : Keeps (fun x => x = b) w w2)
    (hown : w2.ownsMap Try.prog 53 heldV b made D) (hm : MapOf D (upd st n none)) : KM w2 (more S w w2) bm made fail (upd st n none) rl mv rv ∧ Keeps S w w2 := by
  subst hmv
  have hb : S b := (h.own rfl).1
  have nob : ∀ x t cs, Blk w x t cs → x ≠ b := by
    rintro x t cs hx rfl
    obtain ⟨_, D', ho, _⟩ := h.own rfl
    obtain ⟨es, clock, h2, _⟩ := ho
    unfold Blk at hx; rw [hx] at h2; cases h2
  have sub : ∀ m q, upd st n none m = some q → st m = some q := by
    intro m q hq
    by_cases hmn : m = n
    · subst hmn; rw [upd_same] at hq; cases hq
    · rwa [upd_other _ _ hmn] at hq
  refine ⟨⟨h.mem.keeps k (nob _ _ _ h.mem), .inr ⟨b, D, rfl, .inl hb, hown, hm⟩, fun m q hq => h.range m q (sub m q hq), fun m q hq => ?_, fun m m' q q' hq hq' e => h.inj m m' q q' (sub m q hq) (sub m' q' hq') e,
    fun m m' q q' g hq hq' e e' => h.injr m m' q q' g (sub m q hq) (sub m' q' hq') e e', ?_, fun m => ?_, h.retN, .inl h.sbm, fun m q hq => ⟨.inl (h.sreg m q (sub m q hq)).1, fun g hg => .inl ((h.sreg m q (sub m q hq)).2 g hg)⟩,
    fun g hg => .inl (h.srv g hg), ?_, h.made_le, h.fail_le⟩, k.mono (fun x e => e ▸ hb)⟩
  · have hr := h.regs m q (sub m q hq)
    exact hr.keeps k (nob _ _ _ hr.head) (fun g hg => nob _ _ _ (hr.rows g hg))
  · refine ownsRow_block h.ret (fun g hg => k.block g (h.lt g (h.srv g hg)) ?_)
    rcases h.ret.2 with ⟨hn, _⟩ | ⟨g', cap, cur, hv, _, hgg, _⟩
    · rw [hn] at hg; cases hg
    · have : g' = g := by rw [hv] at hg; simpa [Value.ownBlock] using hg
      subst this
      exact nob _ 53 cur hgg
  · rw [h.retM]
    by_cases hmn : m = n
    · subst hmn; rw [upd_same]; simp [hs, hret]
    · rw [upd_other _ _ hmn]
  · rintro x (h2 | h2)
    · exact Nat.lt_of_lt_of_le (h.lt x h2) k.size
    · exact h2.2
theorem free_arg (p : Option Addr) (a : Int) (w : World)
    (hb : Calls Try.prog 43 #[.pointer p, .int .u64 a] w fun e w' => e = .returned (.pointer none) ∧ w = w') :
    Calls Try.prog 33 #[.pointer p, .int .u64 a] w fun e w' => e = .returned (.int .i64 1) ∧ w = w' := by
  go_enter Try.func33, Try.ntmps33
  go_wp2_with (go_at_call 43; refine hb.mono ?_; rintro e w' ⟨rfl, rfl⟩)
  go_ret
  exact ⟨rfl, rfl⟩
theorem retire_arg (p : Option Addr) (a : Int) (w : World)
    (hb : Calls Try.prog 43 #[.pointer p, .int .u64 a] w fun e w' => e = .returned (.pointer none) ∧ w = w') :
    Calls Try.prog 26 #[.pointer p, .int .u64 a] w fun e w' => e = .returned (.int .i64 1) ∧ w = w' := by
  go_enter Try.func26, Try.ntmps26
  go_wp2_with (go_at_call 43; refine hb.mono ?_; rintro e w' ⟨rfl, rfl⟩)
  go_ret
  exact ⟨rfl, rfl⟩
theorem retire_again (h : KM w S bm made fail st rl mv rv) (n : Nat) (hn : n ≤ 4294967295) {r : RG} (hs : st n = some r) (hr : r.ret = true) :
    Calls Try.prog 26 #[.pointer (some ⟨bm, 0, none⟩), .int .u64 (addr n 0)] w fun e w' => e = .returned (.int .i64 1) ∧ w = w' := by
  have c := beginsAt_at h n hn
  rw [hs] at c
  change Calls _ _ _ _ (fun e w' => e = Ending.returned (Value.pointer (some ⟨r.blk, 0, none⟩)) ∧ w = w') at c
  have d3 : w.cell? ⟨r.blk, 3, none⟩ = some (.bool r.ret) := (h.regs n r hs).head.cell 3
  rw [hr] at d3
  clear h hs hr
  generalize r.blk = rb at c d3
  generalize addr n 0 = a at *
  go_enter Try.func26, Try.ntmps26
  go_wp2_with (go_at_call 43; refine c.mono ?_; rintro e w' ⟨rfl, rfl⟩)
  go_ret
  exact ⟨rfl, rfl⟩
end
end Go.Proofs.Ytomhflaofipccaa
namespace Go.Proofs.Ytomhflaofipccaa
open Go Go.RowKit Go.Maps
set_option linter.unusedVariables false
section
variable {w w1 w2 : World} {S : Nat → Prop} {bm made fail : Nat} {st : Nat → Option RG} {rl : List Nat} {mv rv : Value}
theorem turned_grown {w w' : World} {b : Nat} (h : w.mapTurned w' b) : w.grownBy w' (some b) := h.grown
set_option maxRecDepth 100000 in
theorem free_ok (h : KM w S bm made fail st rl mv rv) (n : Nat) {r : RG} (hs : st n = some r) (hret : r.ret = false) :
    Calls Try.prog 33 #[.pointer (some ⟨bm, 0, none⟩), .int .u64 (addr n 0)] w fun e w' => e = .returned (.int .i64 0) ∧ KM w' (more S w w') bm made fail (upd st n none) rl mv rv ∧ Keeps S w w' := by
  obtain ⟨h0, hm⟩ := h.range n r hs
  have hle := h.made_le
  have hn : n ≤ 4294967295 := by omega
  have c := beginsAt_at h n hn
  rw [hs] at c
  change Calls _ _ _ _ (fun e w' => e = Ending.returned (Value.pointer (some ⟨r.blk, 0, none⟩)) ∧ w = w') at c
  have cs := split_any n 0 hn (by omega) w
  have d3 : w.cell? ⟨r.blk, 3, none⟩ = some (.bool r.ret) := (h.regs n r hs).head.cell 3
  rw [hret] at d3
  have hrl := (h.regs n r hs).head.lt
  have hbl := h.mem.lt
  obtain ⟨b, D, rfl, hSb, ho, hmo⟩ : ∃ b D, mv = .map (some b) ∧ S b ∧ w.ownsMap Try.prog 53 heldV b made D ∧ MapOf D st := by
    rcases h.map with ⟨_, h1⟩ | h1
    · rw [h1 n] at hs; cases hs
    · exact h1
  have c0 : w.cell? ⟨bm, 0, none⟩ = some (.map (some b)) := h.mem.cell 0
  obtain ⟨w2, hrun, hown, hturn⟩ := ((ho.alloc (.cells #[.int .u32 (n : Int)] 53)).drew).drop law32 Try.underlying52 (key32 hn) 0
  have hrun' : ∀ ty, (Builtin.delete_ #[52, 53] ty #[.map (some b), .int .u32 (n : Int)]).run Try.prog (w.alloc (.cells #[.int .u32 (n : Int)] 53)).drew = .ok (.tuple #[]) w2 := fun ty => hrun
  have hbs : b < w.heap.size := ho.lt
  have kk : Keeps (fun x => x = b) w w2 := ((Keeps.refl _ w).alloc (.cells #[.int .u32 (n : Int)] 53)).drew.grown hturn.grown (fun k e => .inl (by simpa using e.symm))
  have H := Lib.hid (h.delmap hs hret rfl kk hown (hmo.del n))
  have E0 : w2.cell? ⟨bm, 0, none⟩ = some (.map (some b)) := H.out.1.mem.cell 0
  have E6 : w2.cell? ⟨w.heap.size, 0, none⟩ = some (.int .u32 (n : Int)) := Blk.cell (t := 53) (cs := #[.int .u32 (n : Int)]) ((hturn.grown.block w.heap.size (by simp) (by simp; omega)).trans (Blk.new w _ _)) 0
  clear h hs hret ho hown hturn hmo kk hrun
  generalize r.blk = rb at c d3 hrl
  generalize addr n 0 = a at *
  have hne : bm ≠ w.heap.size := by omega
  have hne2 : rb ≠ w.heap.size := by omega
  go_enter Try.func33, Try.ntmps33
  go_wp2_with (first
    | (go_at_call 43; refine c.mono ?_; rintro e w' ⟨rfl, rfl⟩)
    | (go_at_call 40; refine cs.mono ?_; rintro e w' ⟨rfl, rfl⟩))
  go_region_held3 (fun w' => w'.cell? ⟨bm, 0, none⟩ = some (.map (some b)) ∧ w'.cell? ⟨w.heap.size, 0, none⟩ = some (.int .u32 (n : Int)))
    (first | go_keep | exact ⟨E0, E6⟩)
    (fail)
  go_wp2
  go_ret
  exact ⟨rfl, H.out⟩
end
end Go.Proofs.Ytomhflaofipccaa
namespace Go.Proofs.Ytomhflaofipccaa
open Go Go.RowKit Go.Maps
set_option linter.unusedVariables false

/-- What a region holds for whoever asks. -/
def RG.v (r : RG) : Int × List UInt8 × Bool := (r.perm, r.bytes, r.ret)
/-- From w0 on only blocks from B on have turned, and there the memory lies. -/
def KF (B : Nat) (w0 w : World) (bm made fail : Nat) (st : Nat → Option RG) (rl : List Nat) : Prop :=
  Below B w0 w ∧ B ≤ w.heap.size ∧ ∃ S mv rv, KM w S bm made fail st rl mv rv ∧ ∀ b, S b → B ≤ b
/-- .. and region n is what v says. -/
def KFr (B : Nat) (w0 : World) (bm made fail : Nat) (st : Nat → Option RG) (rl : List Nat) (n : Nat) (v : Int × List UInt8 × Bool) (w : World) : Prop :=
  ∃ r, KF B w0 w bm made fail (upd st n (some r)) rl ∧ r.v = v
section
variable {B : Nat} {w0 w w1 : World} {S : Nat → Prop} {bm made fail : Nat} {st : Nat → Option RG} {rl : List Nat} {mv rv : Value}
theorem KF.next {bm' made' fail' : Nat} {st' : Nat → Option RG} {rl' : List Nat} {mv' rv' : Value} (hb : Below B w0 w) (hB : B ≤ w.heap.size) (hS : ∀ b, S b → B ≤ b) (hk : KM w1 (more S w w1) bm' made' fail' st' rl' mv' rv') (k : Keeps S w w1) : KF B w0 w1 bm' made' fail' st' rl' :=
  ⟨hb.trans (k.below hS hB), Nat.le_trans hB k.size, _, _, _, hk, fun b hb => by
    rcases hb with h | ⟨h, _⟩
    · exact hS b h
    · omega⟩
theorem KF.start (w : World) : KF w.heap.size w (w.alloc (.cells #[.map none, .int .u32 0, .slice none 0 0, .int .i64 0] 56)) w.heap.size 0 0 (fun _ => none) [] := by
  refine ⟨(Below.refl _ _).alloc (Nat.le_refl _) _, by simp, (fun b => b = w.heap.size), .map none, .slice none 0 0, ?_, fun b h => by omega⟩
  exact {
    mem := by have := Blk.new w 56 #[.map none, .int .u32 0, .slice none 0 0, .int .i64 0]; simpa using this
    map := .inl ⟨rfl, fun _ => rfl⟩
    range := fun n r h => by cases h
    regs := fun n r h => by cases h
    inj := fun n n' r r' h => by cases h
    injr := fun n n' r r' g h => by cases h
    ret := World.ownsRow_nil _ _ _ _
    retM := fun n => by simp
    retN := List.nodup_nil
    sbm := rfl
    sreg := fun n r h => by cases h
    srv := fun g h => by cases h
    lt := fun b h => by simp; omega
    made_le := by omega
    fail_le := by omega }
theorem kf_alloc (h : KF B w0 w bm made fail st rl) (hf : fail ≠ 1) (hmade : made < 4095) (size perm : Nat) (h1 : 1 ≤ size) (h2 : size ≤ 1048576) (h3 : 1 ≤ perm) (h4 : perm ≤ 3) :
    Calls Try.prog 35 #[.pointer (some ⟨bm, 0, none⟩), .int .i64 size, .int .i64 perm] w fun e w' => e = .returned (.tuple #[.int .u64 (addr (made + 1) 0), .int .i64 0]) ∧ KFr B w0 bm (made + 1) (fail - 1) st rl (made + 1) ((perm : Int), List.replicate size 0, false) w' := by
  obtain ⟨hb, hB, S, mv, rv, hk, hS⟩ := h
  refine (alloc_ok hk hf hmade size perm h1 h2 h3 h4).mono ?_
  rintro e w' ⟨rfl, r, mv', hk', kk, e1, e2, e3, e4⟩
  exact ⟨rfl, r, KF.next hb hB hS hk' kk, by simp [RG.v, e1, e2, e3]⟩
theorem kf_read (h : KF B w0 w bm made fail st rl) (n o : Nat) (hn : n ≤ 4294967295) (ho : o ≤ 4294967295) (k : Nat) (hk : (k : Int) = 1 ∨ (k : Int) = 2 ∨ (k : Int) = 4 ∨ (k : Int) = 8) {r : RG} (hs : st n = some r) (hp : (bits .and .i64 r.perm 1 != 1) = false) (hb : o + k ≤ r.bytes.length) :
    Calls Try.prog 13 #[.pointer (some ⟨bm, 0, none⟩), .int .u64 (addr n o), .int .i64 (k : Int)] w fun e w' => e = .returned (.tuple #[.int .u64 (le ((r.bytes.drop o).take k)), .int .i64 0]) ∧ KFr B w0 bm made fail st rl n r.v w' := by
  obtain ⟨hb', hB, S, mv, rv, hkm, hS⟩ := h
  refine (read_ok hkm n o hn ho k hk hs hp hb).mono ?_
  rintro e w' ⟨rfl, g, hk', kk, _⟩
  exact ⟨rfl, _, KF.next hb' hB hS hk' kk, rfl⟩
theorem kf_free (h : KF B w0 w bm made fail st rl) (n : Nat) {r : RG} (hs : st n = some r) (hret : r.ret = false) :
    Calls Try.prog 33 #[.pointer (some ⟨bm, 0, none⟩), .int .u64 (addr n 0)] w fun e w' => e = .returned (.int .i64 0) ∧ KF B w0 w' bm made fail (upd st n none) rl := by
  obtain ⟨hb', hB, S, mv, rv, hkm, hS⟩ := h
  refine (free_ok hkm n hs hret).mono ?_
  rintro e w' ⟨rfl, hk', kk⟩
  exact ⟨rfl, KF.next hb' hB hS hk' kk⟩
theorem kf_read_null (h : KF B w0 w bm made fail st rl) (n o : Nat) (hn : n ≤ 4294967295) (ho : o ≤ 4294967295) (size : Int) (hk : size = 1 ∨ size = 2 ∨ size = 4 ∨ size = 8) (hm : n = 0 ∨ made < n) :
    Calls Try.prog 13 #[.pointer (some ⟨bm, 0, none⟩), .int .u64 (addr n o), .int .i64 size] w fun e w' => e = .returned (.tuple #[.int .u64 0, .int .i64 20]) ∧ w = w' := by
  obtain ⟨hb', hB, S, mv, rv, hkm, hS⟩ := h
  exact read_fault _ _ _ 20 hk w (find_null hkm n o hn ho size 1 hm)
theorem kf_read_freed (h : KF B w0 w bm made fail st rl) (n o : Nat) (hn : n ≤ 4294967295) (ho : o ≤ 4294967295) (size : Int) (hk : size = 1 ∨ size = 2 ∨ size = 4 ∨ size = 8) (h0 : 0 < n) (hm : n ≤ made) (hs : st n = none) :
    Calls Try.prog 13 #[.pointer (some ⟨bm, 0, none⟩), .int .u64 (addr n o), .int .i64 size] w fun e w' => e = .returned (.tuple #[.int .u64 0, .int .i64 21]) ∧ w = w' := by
  obtain ⟨hb', hB, S, mv, rv, hkm, hS⟩ := h
  exact read_fault _ _ _ 21 hk w (find_freed hkm n o hn ho size 1 h0 hm hs)
theorem kf_read_bound (h : KF B w0 w bm made fail st rl) (n o : Nat) (hn : n ≤ 4294967295) (ho : o ≤ 4294967295) (k : Nat) (hk : (k : Int) = 1 ∨ (k : Int) = 2 ∨ (k : Int) = 4 ∨ (k : Int) = 8) {r : RG} (hs : st n = some r) (hp : (bits .and .i64 r.perm 1 != 1) = false) (hb : r.bytes.length < o + k) :
    Calls Try.prog 13 #[.pointer (some ⟨bm, 0, none⟩), .int .u64 (addr n o), .int .i64 (k : Int)] w fun e w' => e = .returned (.tuple #[.int .u64 0, .int .i64 22]) ∧ w = w' := by
  obtain ⟨hb', hB, S, mv, rv, hkm, hS⟩ := h
  exact read_fault _ _ _ 22 hk w (find_bound hkm n o hn ho k (by omega) 1 hs hp hb)
end
end Go.Proofs.Ytomhflaofipccaa
