/-
  The list of deeds that comes in; any deed on both memories; both memories at their start.
-/
import Derived.Test.YtmbkagjdhpfngaaStructs
import Derived.Test.YtmbkagjdhpfngaaDo
namespace Go.Proofs.Ytmbkagjdhpfngaa
open Go Go.RowKit Go.Maps Go.WideShapes Go.ChangeShapes Go.WideElems Go.Deep
set_option linter.unusedVariables false
/-- Deed number i of a list lies at block b, offset off on. -/
def DeedAt (w : World) (b o : Nat) (kd nn mm aa uu : Int) (ss : ByteArray) : Prop :=
  w.cell? ⟨b, o, none⟩ = some (.int .i64 kd) ∧ w.cell? ⟨b, o + 1, none⟩ = some (.int .i64 nn) ∧ w.cell? ⟨b, o + 2, none⟩ = some (.int .i64 mm) ∧ w.cell? ⟨b, o + 3, none⟩ = some (.int .u64 aa) ∧ w.cell? ⟨b, o + 4, none⟩ = some (.int .u64 uu) ∧ w.cell? ⟨b, o + 5, none⟩ = some (.string ss)
section
variable {H : Type} {enc : TypeId × Value → H} {w : World} {base : Nat} {spare : Nat → Bool} {held : Bool}
theorem wf_u64 {n : Int} (h : (Lit.int .u64 n).wf = true) : 0 ≤ n ∧ n ≤ 18446744073709551615 := by
  simp [Lit.wf, IntKind.min, IntKind.max, IntKind.bits, IntKind.signed] at h; omega
set_option maxRecDepth 100000 in
theorem open_deeds {b0 : Nat} {v : Value} {d : DataW H} {p : List MemPlace} (hv : Value.okWide Try.prog w .any b0 22 v) (h : DataW.Trod enc Try.prog w base spare held 22 v d p) :
    ∃ (A : Option Addr) (len cap : Nat), v = .slice A len cap ∧ len ≤ cap ∧ cap ≤ maxLen ∧
      ∀ i, i < len → ∃ (b off : Nat) (kd nn mm aa uu : Int) (ss : ByteArray), A = some ⟨b, off, none⟩ ∧ b < w.heap.size ∧ DeedAt w b (off + i * 6) kd nn mm aa uu ss ∧
        (0 ≤ aa ∧ aa ≤ 18446744073709551615) ∧ (0 ≤ uu ∧ uu ≤ 18446744073709551615) ∧ ss.size ≤ maxLen := by
  obtain ⟨A, len, cap, rfl, hl, hm, hA, hf⟩ := open_structs_any Try.underlying22 Try.underlying31 (by kernel_rfl) (by kernel_rfl) (by decide) hv h
  refine ⟨A, len, cap, rfl, hl, hm, fun i hi => ?_⟩
  obtain ⟨ad, rfl, hlt⟩ := hA (by omega)
  obtain ⟨c0, y0, n0, g0, t0⟩ := hf i hi ad rfl 0 _ rfl
  obtain ⟨c1, y1, n1, g1, t1⟩ := hf i hi ad rfl 1 _ rfl
  obtain ⟨c2, y2, n2, g2, t2⟩ := hf i hi ad rfl 2 _ rfl
  obtain ⟨c3, y3, n3, g3, t3⟩ := hf i hi ad rfl 3 _ rfl
  obtain ⟨c4, y4, n4, g4, t4⟩ := hf i hi ad rfl 4 _ rfl
  obtain ⟨c5, y5, n5, g5, t5⟩ := hf i hi ad rfl 5 _ rfl
  obtain ⟨kd, e0, _, w0⟩ := DataW.trod_int Try.underlying3 t0
  obtain ⟨nn, e1, _, w1⟩ := DataW.trod_int Try.underlying3 t1
  obtain ⟨mm, e2, _, w2⟩ := DataW.trod_int Try.underlying3 t2
  obtain ⟨aa, e3, _, w3⟩ := DataW.trod_int Try.underlying29 t3
  obtain ⟨uu, e4, _, w4⟩ := DataW.trod_int Try.underlying29 t4
  obtain ⟨ss, e5, _, w5⟩ := DataW.trod_string Try.underlying9 t5
  cases e0; cases e1; cases e2; cases e3; cases e4; cases e5
  obtain ⟨b, off, spot⟩ := ad
  have hspot : spot = none := by
    obtain ⟨_, _, _, gz, _⟩ := hf 0 (by omega) ⟨b, off, spot⟩ rfl 0 _ rfl
    simpa [Addr.add] using World.cell?_spot gz
  subst hspot
  simp only [Go.WideShapes.add_plain] at g0 g1 g2 g3 g4 g5
  exact ⟨b, off, kd, nn, mm, aa, uu, ss, rfl, hlt, ⟨g0, g1, g2, g3, g4, g5⟩, wf_u64 w3, wf_u64 w4, w5⟩
end
section
variable {B : Nat} {w0 w : World} {bm bx : Nat} {m : PS}
theorem do_any (h : Both B w0 bm bx m m w) (hmade : m.made < 4095) (kd N M At U : Int) (Sx : ByteArray) (ha : 0 ≤ At ∧ At ≤ 18446744073709551615) (hu : 0 ≤ U ∧ U ≤ 18446744073709551615) (hs : Sx.size ≤ maxLen) :
    Calls Try.prog 5 #[.pointer (some ⟨bm, 0, none⟩), .pointer (some ⟨bx, 0, none⟩), .agg #[.int .i64 kd, .int .i64 N, .int .i64 M, .int .u64 At, .int .u64 U, .string Sx]] w (DoPost B w0 bm bx m) := by
  by_cases k0 : kd = 0
  · subst k0; exact do_alloc h N M At U Sx (pair_alloc bm bx m hmade N M)
  by_cases k1 : kd = 1
  · subst k1; exact do_fail h N M At U Sx (pair_fail bm bx m N)
  by_cases k2 : kd = 2
  · subst k2; exact do_free h N M At U Sx (pair_free bm bx m At ha.1 ha.2)
  by_cases k3 : kd = 3
  · subst k3; exact do_retire h N M At U Sx (pair_retire bm bx m At ha.1 ha.2)
  by_cases k4 : kd = 4
  · subst k4; exact do_grace h N M At U Sx (pair_grace bm bx m)
  by_cases k5 : kd = 5
  · subst k5; exact do_read h N M At U Sx (pair_read bm bx m At ha.1 ha.2 N)
  by_cases k6 : kd = 6
  · subst k6; exact do_write h N M At U Sx (pair_write bm bx m At ha.1 ha.2 N U hu.1 hu.2)
  by_cases k7 : kd = 7
  · subst k7; exact do_bytes h N M At U Sx (pair_bytes bm bx m At ha.1 ha.2 N)
  by_cases k8 : kd = 8
  · subst k8; exact do_put h N M At U Sx (pair_put bm bx m At ha.1 ha.2 Sx hs)
  exact do_size h N M At U Sx kd (by simpa using k0) (by simpa using k1) (by simpa using k2) (by simpa using k3) (by simpa using k4) (by simpa using k5) (by simpa using k6) (by simpa using k7) (by simpa using k8) (pair_size bm bx m At ha.1 ha.2)
end
theorem rm_start (w : World) : RM ((w.alloc (.cells #[.map none, .int .u32 0, .slice none 0 0, .int .i64 0] 42)).alloc (.cells #[.slice none 0 0, .int .i64 0, .int .i64 0] 28)) (fun b => b = w.heap.size + 1) (w.heap.size + 1) 0 0 (fun _ => none) (fun _ => 0) (fun _ => 0) (.slice none 0 0) where
  head := by have := Blk.new (w.alloc (.cells #[.map none, .int .u32 0, .slice none 0 0, .int .i64 0] 42)) 28 #[.slice none 0 0, .int .i64 0, .int .i64 0]; simpa [cnt] using this
  row := by simpa using World.ownsRow_nil _ _ _ _
  range := fun n q h => by cases h
  live := fun n q h => by cases h
  bytes := fun n q h => by cases h
  sized := fun n q h => by cases h
  dead := fun n h1 h2 => by omega
  injr := fun n m h1 h2 => by omega
  injg := fun n m q q' h => by cases h
  tbx := rfl
  trb := fun n h1 h2 => by omega
  tgb := fun n q h => by cases h
  tlv := fun g h => by cases h
  lt := fun b h => by simp; omega
  made_le := by omega
  fail_le := by omega
theorem both_start (w : World) : Both w.heap.size w w.heap.size (w.heap.size + 1) ⟨0, 0, fun _ => none⟩ ⟨0, 0, fun _ => none⟩
    ((w.alloc (.cells #[.map none, .int .u32 0, .slice none 0 0, .int .i64 0] 42)).alloc (.cells #[.slice none 0 0, .int .i64 0, .int .i64 0] 28)) := by
  obtain ⟨hb, hB, S, mv, rv, hk, hS⟩ := KF.start w
  refine ⟨S, fun b => b = w.heap.size + 1, ⟨_, _, _, _, hk.keeps (T := fun _ => False) ((Keeps.refl _ _).alloc _) (fun _ _ h => h), fun _ => rfl⟩, ⟨fun _ => 0, fun _ => 0, .slice none 0 0, rm_start w⟩, ?_, hS, fun b h => by omega, hb.alloc hB _, by simp; omega⟩
  intro b h1 h2
  have h3 := hk.lt b h1
  simp at h3
  omega
/-- Two rising lists of the same numbers are one. -/
theorem asc_eq : ∀ {a b : List Nat}, a.Pairwise (· < ·) → b.Pairwise (· < ·) → (∀ n, n ∈ a ↔ n ∈ b) → a = b
  | [], [], _, _, _ => rfl
  | [], y :: b, _, _, h => by simpa using (h y).2 (by simp)
  | x :: a, [], _, _, h => by simpa using (h x).1 (by simp)
  | x :: a, y :: b, ha, hb, h => by
    obtain ⟨ha1, ha2⟩ := List.pairwise_cons.1 ha
    obtain ⟨hb1, hb2⟩ := List.pairwise_cons.1 hb
    have hxy : x = y := by
      rcases List.mem_cons.1 ((h x).1 (by simp)) with e | e
      · exact e
      · rcases List.mem_cons.1 ((h y).2 (by simp)) with e' | e'
        · exact e'.symm
        · have := ha1 y e'; have := hb1 x e; omega
    subst hxy
    congr 1
    refine asc_eq ha2 hb2 fun n => ⟨fun hn => ?_, fun hn => ?_⟩
    · rcases List.mem_cons.1 ((h n).1 (List.mem_cons_of_mem _ hn)) with e | e
      · have := ha1 n hn; omega
      · exact e
    · rcases List.mem_cons.1 ((h n).2 (List.mem_cons_of_mem _ hn)) with e | e
      · have := hb1 n hn; omega
      · exact e
theorem lives_asc (vs : Nat → Option RV) (k : Nat) : (lives vs k).Pairwise (· < ·) := by
  unfold lives
  refine List.Pairwise.filter _ (List.pairwise_map.2 (List.pairwise_lt_range.imp (fun h => by omega)))
theorem lives_mem (vs : Nat → Option RV) (k : Nat) (hr : ∀ n q, vs n = some q → 1 ≤ n ∧ n ≤ k) (n : Nat) : n ∈ lives vs k ↔ (vs n).isSome = true := by
  unfold lives
  simp only [List.mem_filter, List.mem_map, List.mem_range]
  constructor
  · exact fun h => h.2
  · intro h
    rcases hs : vs n with _ | q
    · rw [hs] at h; cases h
    · have := hr n q hs
      exact ⟨⟨n - 1, by omega, by omega⟩, rfl⟩
/-- A list of regions as Same sees it. -/
theorem rowOf {w : World} {base n : Nat} {vs : Nat → Option RV} {v : Value} {ss : List Nat} (h : w.ownsRow base 67 3 v n (cellsR vs ss)) (hn : ss.length = n) :
    ∃ A c, v = .slice A n c ∧ RowOf w A n (fun k => (ss.getD k 0 : Nat)) (fun k => ((vs (ss.getD k 0)).getD (0, [], false)).1) (fun k => bstr ((vs (ss.getD k 0)).getD (0, [], false)).2.1) := by
  obtain ⟨A, c, rfl, hc⟩ := own_form_any h
  refine ⟨A, c, rfl, fun k hk => ?_⟩
  obtain ⟨g, rfl, hcell⟩ := hc (by omega)
  have hks : k < ss.length := by omega
  have e : ss.getD k 0 = ss[k] := by simp [List.getD, hks]
  refine ⟨g, rfl, ?_, ?_, ?_⟩
  · exact hcell _ _ ((cellsR_get vs ss k 0 hks (by omega)).trans (by simp only [e]; rfl))
  · exact hcell _ _ ((cellsR_get vs ss k 1 hks (by omega)).trans (by simp only [e]; rfl))
  · exact hcell _ _ ((cellsR_get vs ss k 2 hks (by omega)).trans (by simp only [e]; rfl))
end Go.Proofs.Ytmbkagjdhpfngaa
