/-
  Layer 6: the writer of package btf: rows of bytes, full ones that bear a mark among them; numbers.
-/
import Derived.Test.YtmfdojmecpdikaaBLeaf
import Derived.Maps.Own
import Derived.Maps.OwnSet
import Derived.Maps.Views
import Derived.Lib.SlBytesConst
namespace Go.Proofs.Ytmfdojmecpdikaa
open Go Go.RowKit Go.Maps Go.Lib
set_option linter.unusedVariables false
set_option linter.unusedSimpArgs false
set_option maxRecDepth 100000
/-- A row of bytes that is the call's own; or a full one, whatever mark it bears. -/
def RowB (w : World) (base : Nat) (v : Value) (l : List UInt8) : Prop :=
  w.ownsRow base 5 1 v l.length (l.map byteV) ∨
  (0 < l.length ∧ ∃ g cur fr, v = .slice (some ⟨g, 0, none⟩) l.length l.length ∧ base ≤ g ∧ w.heap[g]? = some (.cells cur 5 fr) ∧ cur.toList = l.map byteV)
theorem RowB.form {w : World} {base : Nat} {v : Value} {l : List UInt8} (h : RowB w base v l) : ∃ A c, v = .slice A l.length c := by
  rcases h with h | ⟨_, g, cur, fr, rfl, _⟩
  · obtain ⟨A, c, e, _⟩ := own_form_any h
    exact ⟨A, c, e⟩
  · exact ⟨_, _, rfl⟩
theorem RowB.tag {w : World} {base : Nat} {v : Value} {l : List UInt8} (h : RowB w base v l) (b : Nat) (hb : v.ownBlock = some b) : base ≤ b ∧ b < w.heap.size ∧ ∃ cur fr, w.heap[b]? = some (.cells cur 5 fr) := by
  have lt : ∀ {o}, w.heap[b]? = some o → b < w.heap.size := fun {o} h2 => by
    rcases Nat.lt_or_ge b w.heap.size with hlt | hge
    · exact hlt
    · rw [Array.getElem?_eq_none hge] at h2; cases h2
  rcases h with h | ⟨_, g, cur, fr, rfl, h1, h2, _⟩
  · rcases h.2 with ⟨rfl, _⟩ | ⟨g, cap, cur, rfl, h1, h2, rest⟩
    · cases hb
    · simp only [Value.ownBlock, Option.some.injEq] at hb
      subst hb
      exact ⟨h1, lt h2, cur, _, h2⟩
  · simp only [Value.ownBlock, Option.some.injEq] at hb
    subst hb
    exact ⟨h1, lt h2, cur, fr, h2⟩
theorem RowB.block {w w' : World} {base : Nat} {v : Value} {l : List UInt8} (h : RowB w base v l) (hk : ∀ b, v.ownBlock = some b → w'.heap[b]? = w.heap[b]?) : RowB w' base v l := by
  rcases h with h | ⟨h0, g, cur, fr, rfl, h1, h2, h3⟩
  · left
    refine ⟨h.1, ?_⟩
    rcases h.2 with hn | ⟨g, cap, cur, rfl, h1, h2, rest⟩
    · exact .inl hn
    · exact .inr ⟨g, cap, cur, rfl, h1, (hk g rfl).trans h2, rest⟩
  · exact .inr ⟨h0, g, cur, fr, rfl, h1, (hk g rfl).trans h2, h3⟩
theorem RowB.keeps {S : Nat → Prop} {w w' : World} {base : Nat} {v : Value} {l : List UInt8} (h : RowB w base v l) (hk : Keeps S w w') (hS : ∀ b, v.ownBlock = some b → ¬ S b) : RowB w' base v l :=
  h.block fun b hb => hk.block b (h.tag b hb).2.1 (hS b hb)
theorem RowB.cells {w : World} {base : Nat} {v : Value} {l : List UInt8} (h : RowB w base v l) (h0 : 0 < l.length) : ∃ g c, v = .slice (some ⟨g, 0, none⟩) l.length c ∧ ∀ j u, (l.map byteV)[j]? = some u → w.cell? ((⟨g, 0, none⟩ : Addr).add j) = some u := by
  rcases h with h | ⟨_, g, cur, fr, rfl, _, h2, h3⟩
  · rcases h.2 with ⟨_, h1⟩ | ⟨g, cap, cur, rfl, _⟩
    · omega
    · exact ⟨g, cap, rfl, fun j u hu => h.cells (g := g) rfl j u hu⟩
  · refine ⟨g, _, rfl, fun j u hu => ?_⟩
    rw [show (⟨g, 0, none⟩ : Addr).add j = ⟨g, j, none⟩ by unfold Addr.add; split <;> simp_all]
    rw [← h3] at hu
    simp [World.cell?, h2]
    simpa using hu
theorem byteV_one (l : List UInt8) (u : Value) (h : u ∈ l.map byteV) : u.oneCell' = true := by
  obtain ⟨b, _, rfl⟩ := List.mem_map.1 h
  rfl
/-- Bytes put behind such a row. -/
theorem run_append_b {w : World} {base : Nat} {v : Value} {l : List UInt8} (h : RowB w base v l) (ty : TypeId) (a : Addr) (c : Nat) (news : List UInt8) (h0 : 0 < news.length) (hnews : ∀ j u, (news.map byteV)[j]? = some u → w.cell? (a.add j) = some u)
    (hbytes : l.length + news.length ≤ 140737488355328) (hbase : base ≤ w.heap.size) :
    ∃ v' w', (Builtin.append_ #[45, 45] ty #[v, .slice (some a) news.length c]).run Try.prog w = .ok v' w' ∧ w'.ownsRow base 5 1 v' (l ++ news).length ((l ++ news).map byteV) ∧ w.grownBy w' v.ownBlock ∧ (v'.ownBlock = v.ownBlock ∨ v'.ownBlock = some w.heap.size) := by
  obtain ⟨i0, hi, hz, hs, hb⟩ := info_parts info8
  rcases h with h | ⟨hl0, g, cur, fr, rfl, h1, h2, h3⟩
  · obtain ⟨v', w', r1, r2, r3, _, r5⟩ := run_append_own_at (P := Try.prog) w base 45 ty 5 i0 (.int .u8 0) 1 1 Try.underlying45 hi hz hs hb rfl (by decide) v l.length (l.map byteV) h a news.length c (news.map byteV) (by simp) hnews (byteV_one news) (by unfold maxLen; omega) (by omega) hbase
    exact ⟨v', w', r1, by rw [List.length_append, List.map_append]; exact r2, r3, r5⟩
  · have hr := run_append_grow (P := Try.prog) w 45 ty 5 i0 (.int .u8 0) Try.underlying45 hi hz ⟨g, 0, none⟩ l.length l.length (l.map byteV) (by simp [hs]) (fun j u hu => by
      rw [show (⟨g, 0, none⟩ : Addr).add j = ⟨g, j, none⟩ by unfold Addr.add; split <;> simp_all]
      rw [← h3] at hu
      simp [World.cell?, h2]
      simpa using hu) a news.length c (news.map byteV) (by simp [hs]) hnews (by omega) (by omega) (growslice_fits (by omega) (by rw [hb]; omega))
    refine ⟨_, _, hr, ?_, ⟨rfl, rfl, rfl, by simp, fun k hk _ => Below.heap_alloc w.drew _ k hk⟩, .inr rfl⟩
    have hge := grownCap_ge w (l.length + news.length) l.length 5
    have hcm : grownCap w (l.length + news.length) l.length 5 ≤ maxLen := grownCap_le_maxLen w _ _ _ (by unfold maxLen; omega)
    rw [List.length_append, List.map_append]
    refine ⟨by simp, .inr ⟨w.heap.size, _, _, rfl, hbase, heap_alloc_new w.drew _, hge, hcm, ?_, ?_⟩⟩
    · simp only [Array.size_append, List.size_toArray, size_zeroCells, List.length_map, Value.cells, List.size_toArray, List.length_cons, List.length_nil]
      simp
      omega
    · simp only [Array.toList_append, List.append_assoc]
      rw [← List.append_assoc, show (l.length + news.length) * 1 = (l.map byteV ++ news.map byteV).length by simp]
      exact List.take_left
theorem strCells_byteV (s : ByteArray) : Lib.strCells s = s.data.toList.map byteV := by
  rw [Lib.strCells_eq]; rfl
theorem grown_row {w : World} {base old : Nat} {l news : List UInt8} (hbytes : l.length + news.length ≤ 140737488355328) (hbase : base ≤ w.heap.size) (hold : old < l.length + news.length) :
    (w.drew.alloc (.cells ((l.map byteV).toArray ++ (news.map byteV).toArray ++ Builtin.zeroCells (Value.int .u8 0).cells (grownCap w (l.length + news.length) old 5 - (l.length + news.length))) 5)).ownsRow base 5 1
      (.slice (some ⟨w.heap.size, 0, none⟩) (l.length + news.length) (grownCap w (l.length + news.length) old 5)) (l ++ news).length ((l ++ news).map byteV) := by
  have hge := grownCap_ge w (l.length + news.length) old 5
  have hcm : grownCap w (l.length + news.length) old 5 ≤ maxLen := grownCap_le_maxLen w _ _ _ (by unfold maxLen; omega)
  rw [List.length_append, List.map_append]
  refine ⟨by simp, .inr ⟨w.heap.size, _, _, rfl, hbase, heap_alloc_new w.drew _, hge, hcm, ?_, ?_⟩⟩
  · simp only [Array.size_append, List.size_toArray, size_zeroCells, List.length_map, Value.cells, List.size_toArray, List.length_cons, List.length_nil]
    simp
    omega
  · simp only [Array.toList_append, List.append_assoc]
    rw [← List.append_assoc, show (l.length + news.length) * 1 = (l.map byteV ++ news.map byteV).length by simp]
    exact List.take_left
/-- A text's bytes put behind such a row. -/
theorem run_append_s {w : World} {base : Nat} {v : Value} {l : List UInt8} (h : RowB w base v l) (hl : 0 < l.length) (ty : TypeId) (s : ByteArray)
    (hbytes : l.length + s.size ≤ 140737488355328) (hbase : base ≤ w.heap.size) (h0 : 0 < s.size) :
    ∃ v' w', (Builtin.append_ #[45, 9] ty #[v, .string s]).run Try.prog w = .ok v' w' ∧ w'.ownsRow base 5 1 v' (l ++ s.data.toList).length ((l ++ s.data.toList).map byteV) ∧ w.grownBy w' v.ownBlock ∧ (v'.ownBlock = v.ownBlock ∨ v'.ownBlock = some w.heap.size) := by
  obtain ⟨i0, hi, hz, hs, hb⟩ := info_parts info8
  have hsl := size_list s
  rcases h with h | ⟨hl0, g, cur, fr, rfl, h1, h2, h3⟩
  · rcases h.2 with ⟨_, h0'⟩ | ⟨g, cap, cur, rfl, hbg, hg, hnc, hcm, hcs, htake⟩
    · omega
    · by_cases hroom : l.length + s.size ≤ cap
      · have hr := run_append_room_string (P := Try.prog) w 45 9 ty 5 i0 Try.underlying45 Try.underlying9 hi hs g l.length cap cur hg s hroom (by omega)
        refine ⟨_, _, hr, ?_, ⟨rfl, rfl, rfl, by simp, fun k _ hk => setRow_other w g k _ (fun e => hk (by simp [Value.ownBlock, e]))⟩, .inl rfl⟩
        rw [List.length_append, List.map_append, hsl]
        refine ⟨by simp [hsl], .inr ⟨g, cap, _, rfl, hbg, setRow_heap w g cur _ 5 _ hg, hroom, hcm, ?_, ?_⟩⟩
        · simp only [List.size_toArray, List.length_append, List.length_take, List.length_drop, Array.length_toList, Lib.strCells_length]
          omega
        · rw [Nat.mul_one] at htake
          rw [strCells_byteV, htake, show (l.length + s.size) * 1 = (l.map byteV ++ s.data.toList.map byteV).length by simp [hsl]]
          exact List.take_left
      · have holds : ∀ j u, (l.map byteV)[j]? = some u → w.cell? ((⟨g, 0, none⟩ : Addr).add j) = some u := h.cells (g := g) rfl
        have hr := run_append_grow_string (P := Try.prog) w 45 9 ty 5 i0 (.int .u8 0) Try.underlying45 Try.underlying9 hi hz ⟨g, 0, none⟩ l.length cap (l.map byteV) (by simp [hs]) holds s (by omega) (by omega) (growslice_fits (by omega) (by rw [hb]; omega))
        rw [strCells_byteV] at hr
        have := grown_row (w := w) (base := base) (old := cap) (l := l) (news := s.data.toList) (by rw [hsl]; exact hbytes) hbase (by rw [hsl]; omega)
        rw [hsl] at this
        exact ⟨_, _, hr, this, ⟨rfl, rfl, rfl, by simp, fun k hk _ => Below.heap_alloc w.drew _ k hk⟩, .inr rfl⟩
  · have holds : ∀ j u, (l.map byteV)[j]? = some u → w.cell? ((⟨g, 0, none⟩ : Addr).add j) = some u := fun j u hu => by
      rw [show (⟨g, 0, none⟩ : Addr).add j = ⟨g, j, none⟩ by unfold Addr.add; split <;> simp_all]
      rw [← h3] at hu
      simp [World.cell?, h2]
      simpa using hu
    have hr := run_append_grow_string (P := Try.prog) w 45 9 ty 5 i0 (.int .u8 0) Try.underlying45 Try.underlying9 hi hz ⟨g, 0, none⟩ l.length l.length (l.map byteV) (by simp [hs]) holds s (by omega) (by omega) (growslice_fits (by omega) (by rw [hb]; omega))
    rw [strCells_byteV] at hr
    have := grown_row (w := w) (base := base) (old := l.length) (l := l) (news := s.data.toList) (by rw [hsl]; exact hbytes) hbase (by rw [hsl]; omega)
    rw [hsl] at this
    exact ⟨_, _, hr, this, ⟨rfl, rfl, rfl, by simp, fun k hk _ => Below.heap_alloc w.drew _ k hk⟩, .inr rfl⟩
/-- Numbers that lie behind A. -/
def IntsAt (w : World) (A : Option Addr) (ns : List Int) : Prop := ∀ i n, ns[i]? = some n → ∃ b off, A = some ⟨b, off, none⟩ ∧ b < w.heap.size ∧ w.cell? ⟨b, off + i, none⟩ = some (.int .i64 n)
theorem IntsAt.below {w w' : World} {A : Option Addr} {ns : List Int} (h : IntsAt w A ns) (hb : Below w.heap.size w w') : IntsAt w' A ns := by
  intro i m hm
  obtain ⟨b, off, rfl, hlt, c0⟩ := h i m hm
  exact ⟨b, off, rfl, Nat.lt_of_lt_of_le hlt hb.size, by rw [hb.cell (by simpa using hlt)]; exact c0⟩
/-- A row of numbers that was just laid. -/
theorem IntsAt.new (w : World) (ns : List Int) : IntsAt (w.alloc (.cells (ns.map (Value.int .i64)).toArray 3)) (some ⟨w.heap.size, 0, none⟩) ns := by
  intro i n hn
  refine ⟨w.heap.size, 0, rfl, by simp, ?_⟩
  rw [(Blk.new w _ _).cell]
  simp [hn]
end Go.Proofs.Ytmfdojmecpdikaa
