/-
  Bytes, Put, Size, Fail: what they return, and what becomes of the memory.
-/
import Derived.Test.YtdihlmhipkcedaaWrite
import Derived.Lib.SlBytesRow
import Derived.Lib.BufferWrite
import Derived.Lib.BufferRead
import Derived.Lib.SlBuf
import Derived.Shelf.Bytes.SlSmallAll
import Derived.Outline
namespace Go.Proofs.Ytdihlmhipkcedaa
open Go Go.RowKit Go.Maps
set_option linter.unusedVariables false

theorem RG.At.whatever {w : World} {r : RG} (hr : r.At w) : (bits .and .i64 r.perm 0 != 0) = false := by
  have h1 := hr.p1
  have h2 := hr.p3
  have h3 : r.perm = 1 ∨ r.perm = 2 ∨ r.perm = 3 := by omega
  rcases h3 with e | e | e <;> rw [e] <;> decide
/-- The string of these bytes. -/
def bstr (l : List UInt8) : ByteArray := ⟨l.toArray⟩
theorem bstr_size (l : List UInt8) : (bstr l).size = l.length := by simp [bstr, ByteArray.size]
theorem bstr_extract (l : List UInt8) (o k : Nat) : (bstr l).extract o (o + k) = bstr ((l.drop o).take k) := by
  apply ByteArray.ext
  apply Array.toList_inj.1
  rw [Lib.extract_data]
  simp [bstr]
section
variable {w w1 w2 : World} {S : Nat → Prop} {bm made fail : Nat} {st : Nat → Option RG} {rl : List Nat} {mv rv : Value}
theorem ret2_si {a b : ByteArray} {z : Int} (h : a = b) : Ending.returned (.tuple #[.string a, .int .i64 z]) = .returned (.tuple #[.string b, .int .i64 z]) := by rw [h]
theorem bytes_nil (a n : Int) (w : World) :
    Calls Try.prog 28 #[.pointer none, .int .u64 a, .int .i64 n] w fun e w' => e = .returned (.tuple #[.string (bstr []), .int .i64 1]) ∧ w = w' := by
  go_enter Try.func28, Try.ntmps28
  go_wp2_with fail
  go_ret2
  exact ⟨rfl, rfl⟩
theorem bytes_arg (p : Addr) (a n : Int) (h : n < 0 ∨ 1048576 < n) (w : World) :
    Calls Try.prog 28 #[.pointer (some p), .int .u64 a, .int .i64 n] w fun e w' => e = .returned (.tuple #[.string (bstr []), .int .i64 1]) ∧ w = w' := by
  by_cases h1 : n < 0
  · clear h
    go_enter Try.func28, Try.ntmps28
    go_wp2_with fail
    go_ret2
    exact ⟨rfl, rfl⟩
  · have h2 : 1048576 < n := by omega
    clear h
    go_enter Try.func28, Try.ntmps28
    go_wp2_with fail
    go_ret2
    exact ⟨rfl, rfl⟩
set_option maxRecDepth 100000 in
theorem bytes_fault (p : Addr) (a n z : Int) (h0 : 0 ≤ n) (h1 : n ≤ 1048576) (w : World)
    (hf : Calls Try.prog 26 #[.pointer (some p), .int .u64 a, .int .i64 n, .int .i64 0] w fun e w' => e = .returned (.tuple #[.slice none 0 0, .int .i64 z]) ∧ w = w') :
    Calls Try.prog 28 #[.pointer (some p), .int .u64 a, .int .i64 n] w fun e w' => e = .returned (.tuple #[.string (bstr []), .int .i64 z]) ∧ w = w' := by
  have hc := Lib.run_convert_nil_bytes (P := Try.prog) w 53 9 5 0 Try.underlying53 Try.underlying5 Try.underlying9
  go_enter Try.func28, Try.ntmps28
  go_wp2_with (go_at_call 26; refine hf.mono ?_; rintro e w' ⟨rfl, rfl⟩)
  go_ret2
  exact ⟨ret2_si (by rfl), rfl⟩
theorem bytes_ok (h : KM w S bm made fail st rl mv rv) (n o : Nat) (hn : n ≤ 4294967295) (ho : o ≤ 4294967295) (k : Nat) (hk : k ≤ 1048576) {r : RG} (hs : st n = some r) (hb : o + k ≤ r.bytes.length) :
    Calls Try.prog 28 #[.pointer (some ⟨bm, 0, none⟩), .int .u64 (addr n o), .int .i64 (k : Int)] w fun e w' =>
      e = .returned (.tuple #[.string (bstr ((r.bytes.drop o).take k)), .int .i64 0]) ∧ ReadPost w S bm made fail st rl mv rv n r w' := by
  have hr := h.regs n r hs
  have cf := find_ok h n o hn ho k hk 0 hs hr.whatever hb
  have hle := hr.le
  clear h hs hr
  generalize addr n o = a at *
  have HP : Hid (∀ w' g, AllPost w S bm made fail st rl mv rv n r w' g → ReadPost w S bm made fail st rl mv rv n r w' ∧ ∀ j, w'.cell? ⟨g, j, none⟩ = (r.bytes.map byteV)[j]?) := fun w' g h => ⟨⟨g, h⟩, fun j => h.cell j⟩
  generalize ReadPost w S bm made fail st rl mv rv n r = post at HP ⊢
  unfold FindPost at cf
  generalize AllPost w S bm made fail st rl mv rv n r = apost at HP cf
  generalize hxs : r.bytes = xs at *
  clear hxs
  have conv : Hid (∀ (w' : World) (g : Nat) (A : Addr), (0 < k → A = ⟨g, o, none⟩) → (∀ j, w'.cell? ⟨g, j, none⟩ = (xs.map byteV)[j]?) →
      (convert 53 9 (.slice (some A) k (xs.length - o))).run Try.prog w' = .ok (.string (bstr ((xs.drop o).take k))) w') := by
    intro w' g A hA hc
    rcases Nat.eq_zero_or_pos k with h0 | h0
    · subst h0
      have := run_convert_bytes_zero (P := Try.prog) w' 53 5 Try.underlying53 Try.underlying5 (some A) (xs.length - o) 9 Try.underlying9
      rw [this]; rfl
    · obtain rfl := hA h0
      have := Lib.run_convert_window (P := Try.prog) w' 53 5 9 Try.underlying53 Try.underlying5 Try.underlying9 g 0 (bstr xs) (fun i hi => by
        have hi' : i < xs.length := by rw [← bstr_size]; exact hi
        rw [hc, List.getElem?_map, Nat.zero_add, List.getElem?_eq_getElem hi']
        rfl) o k (xs.length - o) (by rw [bstr_size]; exact hb)
      rw [Nat.zero_add, bstr_extract] at this
      exact this
  go_enter Try.func28, Try.ntmps28
  go_wp2_with (go_at_call 26; refine cf.mono ?_; rintro e w' ⟨g, A, rfl, hA, ha⟩; have HC := Lib.hid (HP.out _ _ ha); clear ha; have hcv := conv.out w' g A hA HC.out.2; clear hA)
  go_ret2
  exact ⟨rfl, HC.out.1⟩
end
end Go.Proofs.Ytdihlmhipkcedaa
