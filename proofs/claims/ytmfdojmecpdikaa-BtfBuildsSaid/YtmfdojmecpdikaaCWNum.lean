/-
  Layer 6, the reference: its writer's numbers.
-/
import Derived.Test.YtmfdojmecpdikaaCNum
import Derived.Test.YtmfdojmecpdikaaBBuild
import Derived.Deep.RegionLaw
import Derived.RegionTactic
namespace Go.Proofs.Ytmfdojmecpdikaa
open Go Go.RowKit Go.Maps Go.Lib
set_option linter.unusedVariables false
set_option linter.unusedSimpArgs false
set_option maxRecDepth 100000
/-- A text's bytes put behind a row that is the call's own, nil among them. -/
theorem run_append_t {w : World} {base : Nat} {v : Value} {l : List UInt8} (h : w.ownsRow base 5 1 v l.length (l.map byteV)) (ty : TypeId) (s : ByteArray)
    (hbytes : l.length + s.size ≤ 140737488355328) (hbase : base ≤ w.heap.size) (h0 : 0 < s.size) :
    ∃ v' w', (Builtin.append_ #[45, 9] ty #[v, .string s]).run Try.prog w = .ok v' w' ∧ w'.ownsRow base 5 1 v' (l ++ s.data.toList).length ((l ++ s.data.toList).map byteV) ∧ w.grownBy w' v.ownBlock ∧ (v'.ownBlock = v.ownBlock ∨ v'.ownBlock = some w.heap.size) := by
  by_cases hl : 0 < l.length
  · exact run_append_s (RowB.own h) hl ty s hbytes hbase h0
  · have hln : l = [] := List.length_eq_zero_iff.1 (by omega)
    subst hln
    obtain ⟨i0, hi, hz, hs, hb⟩ := info_parts info8
    have hsl := size_list s
    simp only [List.length_nil, Nat.zero_add] at hbytes
    rcases h.2 with ⟨rfl, _⟩ | ⟨g, cap, cur, rfl, hbg, hg, hnc, hcm, hcs, htake⟩
    · have hr := run_append_nil_string (P := Try.prog) (w := w) 45 9 ty 5 i0 (.int .u8 0) Try.underlying45 Try.underlying9 hi hz s h0 (by omega) (by rw [hb]; omega)
      have := grown_row (w := w) (base := base) (old := 0) (l := []) (news := s.data.toList) (by rw [hsl]; simpa using hbytes) hbase (by rw [hsl]; simpa using h0)
      have e : (s.data.map (fun b => Value.int .u8 (b.toNat : Int))) = ((List.map byteV []).toArray ++ (s.data.toList.map byteV).toArray) := by
        apply Array.ext'
        simp [byteV]
      rw [e] at hr
      simp only [List.length_nil, Nat.zero_add, hsl] at this
      exact ⟨_, _, hr, this, ⟨rfl, rfl, rfl, by simp, fun k hk _ => Below.heap_alloc w.drew _ k hk⟩, .inr rfl⟩
    · by_cases hroom : s.size ≤ cap
      · have hr := run_append_room_string (P := Try.prog) w 45 9 ty 5 i0 Try.underlying45 Try.underlying9 hi hs g 0 cap cur hg s (by omega) (by omega)
        refine ⟨_, _, hr, ?_, ⟨rfl, rfl, rfl, by simp, fun k _ hk => setRow_other w g k _ (fun e => hk (by simp [Value.ownBlock, e]))⟩, .inl rfl⟩
        rw [List.nil_append, hsl, Nat.zero_add]
        refine ⟨by simp [hsl], .inr ⟨g, cap, _, rfl, hbg, setRow_heap w g cur _ 5 _ hg, hroom, hcm, ?_, ?_⟩⟩
        · simp only [List.size_toArray, List.length_append, List.length_take, List.length_drop, Array.length_toList, Lib.strCells_length]
          omega
        · rw [strCells_byteV, show s.size * 1 = (s.data.toList.map byteV).length by simp [hsl]]
          simp
      · have hr := run_append_grow_string (P := Try.prog) w 45 9 ty 5 i0 (.int .u8 0) Try.underlying45 Try.underlying9 hi hz ⟨g, 0, none⟩ 0 cap [] (by simp) (fun j u hu => by simp at hu) s (by omega) (by omega) (growslice_fits (by omega) (by rw [hb]; omega))
        rw [strCells_byteV] at hr
        have := grown_row (w := w) (base := base) (old := cap) (l := []) (news := s.data.toList) (by rw [hsl]; simpa using hbytes) hbase (by rw [hsl]; simp only [List.length_nil]; omega)
        rw [hsl] at this
        exact ⟨_, _, hr, this, ⟨rfl, rfl, rfl, by simp, fun k hk _ => Below.heap_alloc w.drew _ k hk⟩, .inr rfl⟩
/-- Four bytes of any number: the same ones whether it is cut to 64 bits or not. -/
theorem u8_wrap (n k : Int) (hk : k = 1 ∨ k = 256 ∨ k = 65536 ∨ k = 16777216) : u8 (n % 18446744073709551616 / k) = u8 (n / k) := by
  unfold u8
  congr 2
  rcases hk with rfl | rfl | rfl | rfl <;> omega
theorem le4_wrap (n : Int) : [u8 (n % 18446744073709551616), u8 (n % 18446744073709551616 / 256), u8 (n % 18446744073709551616 / 65536), u8 (n % 18446744073709551616 / 16777216)] = le4 n := by
  have h1 := u8_wrap n 1 (.inl rfl)
  rw [Int.ediv_one, Int.ediv_one] at h1
  rw [h1, u8_wrap n 256 (by simp), u8_wrap n 65536 (by simp), u8_wrap n 16777216 (by simp)]
  rfl
theorem le_any (n : Int) (w : World) :
    Calls Try.prog 18 #[.int .u64 (IntKind.u64.wrap n), .int .i64 4] w fun e w' => e = .returned (.string (bstr (le4 n))) ∧ Below w.heap.size w w' := by
  rw [IntKind.wrap_u64, ← le4_wrap]
  exact le_4 _ (by omega) w
end Go.Proofs.Ytmfdojmecpdikaa
