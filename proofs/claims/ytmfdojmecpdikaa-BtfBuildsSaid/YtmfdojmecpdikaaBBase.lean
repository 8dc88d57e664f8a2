/-
  Layer 6: bytes as they lie; rows that the call itself made.
-/
import Derived.Test.YtmfdojmecpdikaaKit
import Derived.Test.YtmfdojmecpdikaaBlk
import Derived.Test.YtmfdojmecpdikaaIArith
import Derived.Test.YtmfdojmecpdikaaBMath
import Derived.OwnWalk
import Derived.Laws.MakeOwn
import Derived.Maps.AppendAt
import Derived.Lib.BufferRead
import Derived.Lib.SlBytesRow
import Derived.Lib.AppendStr
import Derived.Lib.Hide
import Derived.IntWalk
import Derived.WalkSpells
import Derived.Shelf.Bytes.SlSmallAll
namespace Go.Proofs.Ytmfdojmecpdikaa
open Go Go.RowKit
set_option linter.unusedVariables false
set_option linter.unusedSimpArgs false
def byteV (b : UInt8) : Value := .int .u8 (b.toNat : Int)
theorem byteV_u8 (n : Int) : byteV (u8 n) = .int .u8 (n % 256) := by
  unfold byteV
  rw [toNat_u8]
/-- A type, by value. -/
def tyV (t : Ty) (mv : Value) : Value := .agg #[.int .i64 t.kind, .string t.name, .int .i64 t.size, .int .i64 t.ty, .int .i64 t.count, mv]
theorem info8 : (Try.prog.info? 5).map (fun i => (i.zero, i.size, i.bytes)) = some (some (.int .u8 0), 1, 1) := by kernel_rfl
theorem infoM : (Try.prog.info? 53).map (fun i => (i.zero, i.size, i.bytes)) = some (some (.agg #[.string ⟨#[]⟩, .int .i64 0, .int .i64 0]), 3, 32) := by kernel_rfl
theorem infoT : (Try.prog.info? 36).map (fun i => (i.zero, i.size, i.bytes)) = some (some (.agg #[.int .i64 0, .string ⟨#[]⟩, .int .i64 0, .int .i64 0, .int .i64 0, .slice none 0 0]), 6, 72) := by kernel_rfl
theorem ownsRow_below {w w' : World} {base : Nat} {e : TypeId} {size : Nat} {v : Value} {n : Nat} {xs : List Value} (h : w.ownsRow base e size v n xs) (hb : Below w.heap.size w w') : w'.ownsRow base e size v n xs := by
  refine ⟨h.1, ?_⟩
  rcases h.2 with hn | ⟨g, cap, cur, rfl, h1, h2, rest⟩
  · exact .inl hn
  · have hlt : g < w.heap.size := by
      rcases Nat.lt_or_ge g w.heap.size with hlt | hge
      · exact hlt
      · rw [Array.getElem?_eq_none hge] at h2; cases h2
    exact .inr ⟨g, cap, cur, rfl, h1, (hb.block g hlt).trans h2, rest⟩
theorem own_form_any {w : World} {base : Nat} {e : TypeId} {s : Nat} {v : Value} {n : Nat} {xs : List Value} (h : w.ownsRow base e s v n xs) :
    ∃ A c, v = .slice A n c ∧ (0 < n → ∃ g, A = some ⟨g, 0, none⟩ ∧ g < w.heap.size ∧ ∀ j u, xs[j]? = some u → w.cell? ⟨g, j, none⟩ = some u) := by
  rcases h.2 with ⟨rfl, rfl⟩ | ⟨g, cap, cur, rfl, hb, hg, h1, h2, h3, h4⟩
  · exact ⟨none, 0, rfl, fun h => by omega⟩
  · refine ⟨_, cap, rfl, fun _ => ⟨g, rfl, ?_, fun j u hu => ?_⟩⟩
    · rcases Nat.lt_or_ge g w.heap.size with hlt | hge
      · exact hlt
      · rw [Array.getElem?_eq_none hge] at hg; cases hg
    · have := h.cells (g := g) rfl j u hu
      rwa [show (⟨g, 0, none⟩ : Addr).add j = ⟨g, j, none⟩ by unfold Addr.add; split <;> simp_all] at this
theorem own_str {w : World} {base : Nat} {v : Value} {ys : List UInt8} (h : w.ownsRow base 5 1 v ys.length (ys.map byteV)) :
    (convert 45 9 v).run Try.prog w = .ok (.string (bstr ys)) w := by
  rcases Nat.eq_zero_or_pos ys.length with h0 | h0
  · have : ys = [] := List.length_eq_zero_iff.1 h0
    subst this
    rcases h.2 with ⟨rfl, _⟩ | ⟨g, cap, cur, rfl, _⟩
    · have e : (convert 45 9 (.slice none 0 0)).run Try.prog w = .ok (.string (bstr [])) w := by kernel_rfl
      exact e
    · have := Lib.run_convert_whole (P := Try.prog) w 45 5 9 Try.underlying45 Try.underlying5 Try.underlying9 g 0 (bstr []) (fun i hi => by rw [bstr_size] at hi; exact absurd hi (by simp)) cap
      rw [bstr_size] at this
      exact this
  · obtain ⟨A, c, rfl, hc⟩ := own_form_any h
    obtain ⟨g, rfl, _, hcell⟩ := hc h0
    have := Lib.run_convert_whole (P := Try.prog) w 45 5 9 Try.underlying45 Try.underlying5 Try.underlying9 g 0 (bstr ys) (fun i hi => by
      have hi' : i < ys.length := by rw [← bstr_size]; exact hi
      have := hcell i (byteV ys[i]) (by rw [List.getElem?_map, List.getElem?_eq_getElem hi']; rfl)
      rw [Nat.zero_add]
      exact this) c
    rw [bstr_size] at this
    exact this
theorem bstr_drop (l : List UInt8) (k : Nat) (h : k ≤ l.length) : (bstr l).extract k l.length = bstr (l.drop k) := by
  apply ByteArray.ext
  rw [ByteArray.data_extract]
  apply Array.toList_inj.1
  simp [bstr, Array.toList_extract, List.extract]
  exact List.take_of_length_le (by simp)
theorem bstr_cut (l : List UInt8) (i j : Nat) : (bstr l).extract i j = bstr ((l.drop i).take (j - i)) := by
  apply ByteArray.ext
  rw [ByteArray.data_extract]
  apply Array.toList_inj.1
  simp [bstr, Array.toList_extract, List.extract]
theorem bstr_getElem (l : List UInt8) (k : Nat) (h : k < (bstr l).size) : (bstr l)[k] = l[k]'(by rw [bstr_size] at h; exact h) := by
  show (bstr l).data[k]'h = _
  simp [bstr]
theorem num4_lo (l : List UInt8) : 0 ≤ num4 l ∧ num4 l < 4294967296 := by
  have h0 := (l.getD 0 0).toNat_lt
  have h1 := (l.getD 1 0).toNat_lt
  have h2 := (l.getD 2 0).toNat_lt
  have h3 := (l.getD 3 0).toNat_lt
  unfold num4
  omega
theorem numV_lo (r : RS) : 0 ≤ numV r ∧ numV r < 4294967296 := by
  unfold numV
  split
  · omega
  · exact num4_lo _
theorem or_u32 (a b c d : Int) (ha : 0 ≤ a ∧ a ≤ 255) (hb : 0 ≤ b ∧ b ≤ 255) (hc : 0 ≤ c ∧ c ≤ 255) (hd : 0 ≤ d ∧ d ≤ 255) :
    bits .or .u32 (bits .or .u32 (bits .or .u32 a (b * 256)) (c * 65536)) (d * 16777216) = a + b * 256 + c * 65536 + d * 16777216 := by
  obtain ⟨a, rfl⟩ := Int.eq_ofNat_of_zero_le ha.1
  obtain ⟨b, rfl⟩ := Int.eq_ofNat_of_zero_le hb.1
  obtain ⟨c, rfl⟩ := Int.eq_ofNat_of_zero_le hc.1
  obtain ⟨d, rfl⟩ := Int.eq_ofNat_of_zero_le hd.1
  have h := rep_or .u32 (rep_or .u32 (rep_or .u32 (rep_nat .u32 a) (show IsRep .u32 ((b : Int) * 256) (b * 256) from rep_of _ (by simp))) (show IsRep .u32 ((c : Int) * 65536) (c * 65536) from rep_of _ (by simp))) (show IsRep .u32 ((d : Int) * 16777216) (d * 16777216) from rep_of _ (by simp))
  rw [show a ||| b * 256 = a + b * 256 from or_add a b 8 (by omega), show (a + b * 256) ||| c * 65536 = a + b * 256 + c * 65536 from or_add _ c 16 (by omega), show (a + b * 256 + c * 65536) ||| d * 16777216 = a + b * 256 + c * 65536 + d * 16777216 from or_add _ d 24 (by omega)] at h
  exact rep_eq .u32 h (rep_of .u32 (by simp)) (bits_wrapped _ _ _ _ (.inl rfl)) (by rw [IntKind.wrap_u32]; omega)
end Go.Proofs.Ytmfdojmecpdikaa
