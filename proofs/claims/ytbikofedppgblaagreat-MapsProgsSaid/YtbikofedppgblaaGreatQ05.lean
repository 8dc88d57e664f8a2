/-
  Read: the number that so many bytes are, or the fault. Write: the lowest bytes of a number into a region, or the fault. Bytes, Put, Size, Fail: what they return, and what becomes of the memory.
-/
import Derived.Test.YtbikofedppgblaaGreatQ04
import Derived.Lib.EndianBits
import Derived.Lib.SlBytesRow
import Derived.Lib.BufferWrite
import Derived.Lib.BufferRead
import Derived.Lib.SlBuf
import Derived.Shelf.Bytes.SlSmallAll
import Derived.Outline
namespace Go.Proofs.YtbikofedppgblaaGreat
open Go Go.RowKit Go.Maps
set_option linter.unusedVariables false

/-- The number whose bytes these are, the lowest first. -/
def le : List UInt8 → Nat
  | [] => 0
  | b :: r => b.toNat + 256 * le r
theorem le_snoc : ∀ (l : List UInt8) (b : UInt8), le (l ++ [b]) = le l + b.toNat * 256 ^ l.length
  | [], b => by simp [le]
  | x :: r, b => by simp only [List.cons_append, le, le_snoc r b, List.length_cons, Nat.pow_succ]; rw [Nat.mul_add, Nat.add_assoc]; congr 2; rw [Nat.mul_comm, Nat.mul_assoc]
theorem le_lt : ∀ l : List UInt8, le l < 256 ^ l.length
  | [] => by simp [le]
  | x :: r => by
    have := le_lt r
    have := x.toNat_lt
    simp only [le, List.length_cons, Nat.pow_succ]
    omega
theorem pow_256 (k : Nat) : (256 : Nat) ^ k = 2 ^ (8 * k) := by rw [Nat.pow_mul]
theorem or_le (l : List UInt8) (b : UInt8) (h : l.length < 8) : bits .or .u64 (le l : Int) (((b.toNat : Int) * 2 ^ (8 * l.length)) % 18446744073709551616) = (le (l ++ [b]) : Int) := by
  have h1 := le_lt l
  rw [pow_256] at h1
  have h2 := b.toNat_lt
  have h3 : b.toNat * 2 ^ (8 * l.length) < 2 ^ 64 := by
    have : b.toNat * 2 ^ (8 * l.length) < 256 * 2 ^ (8 * l.length) := (Nat.mul_lt_mul_right (Nat.two_pow_pos _)).2 h2
    have h4 : 256 * 2 ^ (8 * l.length) = 2 ^ (8 * l.length + 8) := by rw [Nat.pow_add]; omega
    have h5 : (2 : Nat) ^ (8 * l.length + 8) ≤ 2 ^ 64 := Nat.pow_le_pow_right (by omega) (by omega)
    omega
  have h6 : 2 ^ (8 * l.length) ≤ 2 ^ 64 := Nat.pow_le_pow_right (by omega) (by omega)
  have e : ((b.toNat : Int) * 2 ^ (8 * l.length)) % 18446744073709551616 = ((b.toNat * 2 ^ (8 * l.length) : Nat) : Int) := by
    rw [Int.emod_eq_of_lt]
    · simp
    · exact Int.mul_nonneg (by omega) (Int.pow_nonneg (by omega))
    · have : ((b.toNat * 2 ^ (8 * l.length) : Nat) : Int) < ((2 ^ 64 : Nat) : Int) := by exact_mod_cast h3
      simpa using this
  have h7 : le l < 2 ^ 64 := by omega
  rw [e, bits_join_low .u64 64 (by decide) wraps_u64 (8 * l.length) (le l) _ (by omega) (by exact_mod_cast h1) (by exact_mod_cast h7) (by omega) ?_ (by exact_mod_cast h3), le_snoc, pow_256]
  · simp
  · have : b.toNat * 2 ^ (8 * l.length) % 2 ^ (8 * l.length) = 0 := Nat.mul_mod_left _ _
    exact_mod_cast this

section
variable {w : World} {S : Nat → Prop} {bm made fail : Nat} {st : Nat → Option RG} {rl : List Nat} {mv rv : Value}
/-- A region of the memory with the row g: what it holds, cell by cell. -/
theorem AllPost.cell {w' : World} {n g : Nat} {r : RG} (h : AllPost w S bm made fail st rl mv rv n r w' g) (j : Nat) : w'.cell? ⟨g, j, none⟩ = (r.bytes.map byteV)[j]? := by
  have := (h.1.regs n _ (upd_same st n _)).rows g rfl
  have := this.cell j
  simpa using this
def ReadPost (w : World) (S : Nat → Prop) (bm made fail : Nat) (st : Nat → Option RG) (rl : List Nat) (mv rv : Value) (n : Nat) (r : RG) (w' : World) : Prop := ∃ g, AllPost w S bm made fail st rl mv rv n r w' g
end
end Go.Proofs.YtbikofedppgblaaGreat
namespace Go.Proofs.YtbikofedppgblaaGreat
open Go Go.RowKit Go.Maps
set_option linter.unusedVariables false

/-- The bytes s put over those from o on. -/
def setAt (l : List UInt8) (o : Nat) (s : List UInt8) : List UInt8 := l.take o ++ s ++ l.drop (o + s.length)
theorem setAt_nil (l : List UInt8) (o : Nat) : setAt l o [] = l := by simp [setAt]
theorem setAt_length (l : List UInt8) (o : Nat) (s : List UInt8) (h : o + s.length ≤ l.length) : (setAt l o s).length = l.length := by simp [setAt]; omega
theorem setAt_get (l : List UInt8) (o : Nat) (s : List UInt8) (h : o + s.length ≤ l.length) (i : Nat) : (setAt l o s)[i]? = if o ≤ i ∧ i < o + s.length then s[i - o]? else l[i]? := by
  unfold setAt
  rw [List.getElem?_append, List.getElem?_append]
  simp only [List.length_append, List.length_take, List.getElem?_take, List.getElem?_drop]
  have e : min o l.length = o := by omega
  rw [e]
  by_cases h1 : i < o
  · rw [if_pos (by omega), if_pos h1, if_pos h1, if_neg (by omega)]
  · by_cases h2 : i < o + s.length
    · rw [if_pos h2, if_neg h1, if_pos ⟨by omega, h2⟩]
    · rw [if_neg h2, if_neg (by omega)]
      congr 1; omega
theorem setAt_snoc (l : List UInt8) (o : Nat) (s : List UInt8) (b : UInt8) (h : o + s.length < l.length) : setAt l o (s ++ [b]) = (setAt l o s).set (o + s.length) b := by
  apply List.ext_getElem?
  intro i
  rw [setAt_get _ _ _ (by simp; omega), List.getElem?_set, setAt_get _ _ _ (by omega), setAt_length _ _ _ (by omega)]
  by_cases h1 : o + s.length = i
  · subst h1; simp [h]
  · rw [if_neg h1]
    by_cases h2 : o ≤ i ∧ i < o + s.length
    · rw [if_pos h2, if_pos (by simp; omega), List.getElem?_append_left (by omega)]
    · rw [if_neg h2, if_neg (by simp; omega)]
/-- The lowest k bytes of n. -/
def wb (n k : Nat) : List UInt8 := (List.range k).map fun i => UInt8.ofNat (n / 256 ^ i)
theorem wb_length (n k : Nat) : (wb n k).length = k := by simp [wb]
theorem wb_succ (n k : Nat) : wb n (k + 1) = wb n k ++ [UInt8.ofNat (n / 256 ^ k)] := by simp [wb, List.range_succ]
theorem byteV_ofNat (m : Nat) : byteV (UInt8.ofNat m) = .int .u8 ((m % 256 : Nat) : Int) := by unfold byteV; rw [UInt8.toNat_ofNat']

section
variable {w w1 w2 : World} {S : Nat → Prop} {bm made fail : Nat} {st : Nat → Option RG} {rl : List Nat} {mv rv : Value}
theorem upd_upd (st : Nat → Option RG) (n : Nat) (a b : Option RG) : upd (upd st n a) n b = upd st n b := by
  funext k
  by_cases h : k = n
  · subst h; simp [upd]
  · simp [upd, h]
/-- Other bytes in a region whose row is there. -/
theorem AllPost.write {n g : Nat} {r : RG} {ys : List UInt8} (h : AllPost w S bm made fail st rl mv rv n r w1 g) (k : Keeps (fun b => b = g) w1 w2) (hb : Blk w2 g 5 (ys.map byteV).toArray) (hl : ys.length = r.bytes.length) :
    KM w2 (more S w w2) bm made fail (upd st n (some { r with row := some g, bytes := ys })) rl mv rv ∧ Keeps S w w2 := by
  obtain ⟨hk, kk, hS⟩ := h
  have hr := hk.regs n _ (upd_same st n _)
  have hd : Blk w2 r.blk _ _ := hr.head.keeps k (fun e => Blk.ne_ hr.head (hr.rows g rfl) (by decide) e)
  have := hk.region (upd_same st n _) (r' := { r with row := some g, bytes := ys }) k rfl rfl (fun b _ e => .inr (by rw [e]))
    ⟨by simpa [RG.sl, hl] using hd, fun g' hg' => by cases hg'; exact hb, (fun e => by cases e), by have := hr.pos; simpa [hl] using this, by have := hr.le; simpa [hl] using this, hr.p1, hr.p3⟩
    (fun g' hg' => .inl hg')
  rw [upd_upd] at this
  exact KM.chain kk (k.mono (fun b e => e ▸ (hk.sreg n _ (upd_same st n _)).2 g rfl)) this

def WritePost (w : World) (S : Nat → Prop) (bm made fail : Nat) (st : Nat → Option RG) (rl : List Nat) (mv rv : Value) (n : Nat) (r : RG) (ys : List UInt8) (w' : World) : Prop :=
  ∃ g, KM w' (more S w w') bm made fail (upd st n (some { r with row := some g, bytes := ys })) rl mv rv ∧ Keeps S w w'
end
end Go.Proofs.YtbikofedppgblaaGreat
namespace Go.Proofs.YtbikofedppgblaaGreat
open Go Go.RowKit Go.Maps
set_option linter.unusedVariables false

theorem RG.At.whatever {w : World} {r : RG} (hr : r.At w) : (bits .and .i64 r.perm 0 != 0) = false := by
  have h1 := hr.p1
  have h2 := hr.p3
  have h3 : r.perm = 1 ∨ r.perm = 2 ∨ r.perm = 3 := by omega
  rcases h3 with e | e | e <;> rw [e] <;> decide
/-- The string of these bytes. -/
def bstr (l : List UInt8) : ByteArray := ⟨l.toArray⟩
theorem bstr_size (l : List UInt8) : (bstr l).size = l.length := by simp [bstr, ByteArray.size]
theorem bstr_extract (l : List UInt8) (o k : Nat) : (bstr l).extract o (o + k) = bstr ((l.drop o).take k) := by
  apply ByteArray.ext
  apply Array.toList_inj.1
  rw [Lib.extract_data]
  simp [bstr]
section
variable {w w1 w2 : World} {S : Nat → Prop} {bm made fail : Nat} {st : Nat → Option RG} {rl : List Nat} {mv rv : Value}
theorem ret2_si {a b : ByteArray} {z : Int} (h : a = b) : Ending.returned (.tuple #[.string a, .int .i64 z]) = .returned (.tuple #[.string b, .int .i64 z]) := by rw [h]
theorem bytes_nil (a n : Int) (w : World) :
    Calls Tryz.prog 80 #[.pointer none, .int .u64 a, .int .i64 n] w fun e w' => e = .returned (.tuple #[.string (bstr []), .int .i64 1]) ∧ w = w' := by
  go_enter Tryz.func80, Tryz.ntmps80
  go_wp2_with fail
  go_ret2
  exact ⟨rfl, rfl⟩
theorem bytes_arg (p : Addr) (a n : Int) (h : n < 0 ∨ 1048576 < n) (w : World) :
    Calls Tryz.prog 80 #[.pointer (some p), .int .u64 a, .int .i64 n] w fun e w' => e = .returned (.tuple #[.string (bstr []), .int .i64 1]) ∧ w = w' := by
  by_cases h1 : n < 0
  · clear h
    go_enter Tryz.func80, Tryz.ntmps80
    go_wp2_with fail
    go_ret2
    exact ⟨rfl, rfl⟩
  · have h2 : 1048576 < n := by omega
    clear h
    go_enter Tryz.func80, Tryz.ntmps80
    go_wp2_with fail
    go_ret2
    exact ⟨rfl, rfl⟩
set_option maxRecDepth 100000 in
theorem bytes_fault (p : Addr) (a n z : Int) (h0 : 0 ≤ n) (h1 : n ≤ 1048576) (w : World)
    (hf : Calls Tryz.prog 127 #[.pointer (some p), .int .u64 a, .int .i64 n, .int .i64 0] w fun e w' => e = .returned (.tuple #[.slice none 0 0, .int .i64 z]) ∧ w = w') :
    Calls Tryz.prog 80 #[.pointer (some p), .int .u64 a, .int .i64 n] w fun e w' => e = .returned (.tuple #[.string (bstr []), .int .i64 z]) ∧ w = w' := by
  have hc := Lib.run_convert_nil_bytes (P := Tryz.prog) w 67 9 5 0 Tryz.underlying67 Tryz.underlying5 Tryz.underlying9
  go_enter Tryz.func80, Tryz.ntmps80
  go_wp2_with (go_at_call 127; refine hf.mono ?_; rintro e w' ⟨rfl, rfl⟩)
  go_ret2
  exact ⟨ret2_si (by rfl), rfl⟩
theorem bytes_ok (h : KM w S bm made fail st rl mv rv) (n o : Nat) (hn : n ≤ 4294967295) (ho : o ≤ 4294967295) (k : Nat) (hk : k ≤ 1048576) {r : RG} (hs : st n = some r) (hb : o + k ≤ r.bytes.length) :
    Calls Tryz.prog 80 #[.pointer (some ⟨bm, 0, none⟩), .int .u64 (addr n o), .int .i64 (k : Int)] w fun e w' =>
      e = .returned (.tuple #[.string (bstr ((r.bytes.drop o).take k)), .int .i64 0]) ∧ ReadPost w S bm made fail st rl mv rv n r w' := by
  have hr := h.regs n r hs
  have cf := find_ok h n o hn ho k hk 0 hs hr.whatever hb
  have hle := hr.le
  clear h hs hr
  generalize addr n o = a at *
  have HP : Hid (∀ w' g, AllPost w S bm made fail st rl mv rv n r w' g → ReadPost w S bm made fail st rl mv rv n r w' ∧ ∀ j, w'.cell? ⟨g, j, none⟩ = (r.bytes.map byteV)[j]?) := fun w' g h => ⟨⟨g, h⟩, fun j => h.cell j⟩
  generalize ReadPost w S bm made fail st rl mv rv n r = post at HP ⊢
  unfold FindPost at cf
  generalize AllPost w S bm made fail st rl mv rv n r = apost at HP cf
  generalize hxs : r.bytes = xs at *
  clear hxs
  have conv : Hid (∀ (w' : World) (g : Nat) (A : Addr), (0 < k → A = ⟨g, o, none⟩) → (∀ j, w'.cell? ⟨g, j, none⟩ = (xs.map byteV)[j]?) →
      (convert 67 9 (.slice (some A) k (xs.length - o))).run Tryz.prog w' = .ok (.string (bstr ((xs.drop o).take k))) w') := by
    intro w' g A hA hc
    rcases Nat.eq_zero_or_pos k with h0 | h0
    · subst h0
      have := run_convert_bytes_zero (P := Tryz.prog) w' 67 5 Tryz.underlying67 Tryz.underlying5 (some A) (xs.length - o) 9 Tryz.underlying9
      rw [this]; rfl
    · obtain rfl := hA h0
      have := Lib.run_convert_window (P := Tryz.prog) w' 67 5 9 Tryz.underlying67 Tryz.underlying5 Tryz.underlying9 g 0 (bstr xs) (fun i hi => by
        have hi' : i < xs.length := by rw [← bstr_size]; exact hi
        rw [hc, List.getElem?_map, Nat.zero_add, List.getElem?_eq_getElem hi']
        rfl) o k (xs.length - o) (by rw [bstr_size]; exact hb)
      rw [Nat.zero_add, bstr_extract] at this
      exact this
  go_enter Tryz.func80, Tryz.ntmps80
  go_wp2_with (go_at_call 127; refine cf.mono ?_; rintro e w' ⟨g, A, rfl, hA, ha⟩; have HC := Lib.hid (HP.out _ _ ha); clear ha; have hcv := conv.out w' g A hA HC.out.2; clear hA)
  go_ret2
  exact ⟨rfl, HC.out.1⟩
theorem size_nil (a : Int) (w : World) :
    Calls Tryz.prog 134 #[.pointer none, .int .u64 a] w fun e w' => e = .returned (.tuple #[.int .i64 0, .int .i64 1]) ∧ w = w' := by
  go_enter Tryz.func134, Tryz.ntmps134
  go_wp2_with fail
  go_ret2
  exact ⟨rfl, rfl⟩
theorem size_fault (n o : Nat) (hn : n ≤ 4294967295) (ho : o ≤ 4294967295) (bm : Nat) (z : Int) (hz : (z != 0) = true) (w : World)
    (hl : Calls Tryz.prog 146 #[.pointer (some ⟨bm, 0, none⟩), .int .u32 (n : Int)] w fun e w' => e = .returned (.tuple #[.pointer none, .int .i64 z]) ∧ w = w') :
    Calls Tryz.prog 134 #[.pointer (some ⟨bm, 0, none⟩), .int .u64 (addr n o)] w fun e w' => e = .returned (.tuple #[.int .i64 0, .int .i64 z]) ∧ w = w' := by
  have c := split_any n o hn ho w
  generalize addr n o = a at *
  go_enter Tryz.func134, Tryz.ntmps134
  go_wp2_with (first
    | (go_at_call 139; refine c.mono ?_; rintro e w' ⟨rfl, rfl⟩)
    | (go_at_call 146; refine hl.mono ?_; rintro e w' ⟨rfl, rfl⟩))
  go_ret2
  exact ⟨rfl, rfl⟩
theorem size_bound (h : KM w S bm made fail st rl mv rv) (n o : Nat) (hn : n ≤ 4294967295) (ho : o ≤ 4294967295) {r : RG} (hs : st n = some r) (hb : r.bytes.length ≤ o) :
    Calls Tryz.prog 134 #[.pointer (some ⟨bm, 0, none⟩), .int .u64 (addr n o)] w fun e w' => e = .returned (.tuple #[.int .i64 0, .int .i64 22]) ∧ w = w' := by
  have c := split_any n o hn ho w
  have hl := live_yes h n hs
  have d0 : w.cell? ⟨r.blk, 0, none⟩ = some (.int .i64 r.bytes.length) := (h.regs n r hs).head.cell 0
  have hle := (h.regs n r hs).le
  clear h hs
  generalize addr n o = a at *
  generalize r.blk = rb at hl d0
  generalize r.bytes.length = len at hb d0 hle
  have h9 : decide ((len : Int) ≤ (o : Int)) = true := by simp; omega
  go_enter Tryz.func134, Tryz.ntmps134
  go_wp2_with (first
    | (go_at_call 139; refine c.mono ?_; rintro e w' ⟨rfl, rfl⟩)
    | (go_at_call 146; refine hl.mono ?_; rintro e w' ⟨rfl, rfl⟩))
  go_ret2
  exact ⟨rfl, rfl⟩
theorem size_ok (h : KM w S bm made fail st rl mv rv) (n o : Nat) (hn : n ≤ 4294967295) (ho : o ≤ 4294967295) {r : RG} (hs : st n = some r) (hb : o < r.bytes.length) :
    Calls Tryz.prog 134 #[.pointer (some ⟨bm, 0, none⟩), .int .u64 (addr n o)] w fun e w' => e = .returned (.tuple #[.int .i64 r.bytes.length, .int .i64 0]) ∧ w = w' := by
  have c := split_any n o hn ho w
  have hl := live_yes h n hs
  have d0 : w.cell? ⟨r.blk, 0, none⟩ = some (.int .i64 r.bytes.length) := (h.regs n r hs).head.cell 0
  have hle := (h.regs n r hs).le
  clear h hs
  generalize addr n o = a at *
  generalize r.blk = rb at hl d0
  generalize r.bytes.length = len at hb d0 hle ⊢
  have h9 : decide ((len : Int) ≤ (o : Int)) = false := by simp; omega
  go_enter Tryz.func134, Tryz.ntmps134
  go_wp2_with (first
    | (go_at_call 139; refine c.mono ?_; rintro e w' ⟨rfl, rfl⟩)
    | (go_at_call 146; refine hl.mono ?_; rintro e w' ⟨rfl, rfl⟩))
  go_ret2
  exact ⟨rfl, rfl⟩
end
end Go.Proofs.YtbikofedppgblaaGreat
