/-
  Layer 7: types as they lie; the laws' arguments, opened.
-/
import Derived.Test.YthilkgfbaddjpaaDoorBlk
import Derived.Test.YthilkgfbaddjpaaDoorKit
import Derived.Test.YthilkgfbaddjpaaDoorStructs
import Derived.SizedLaws
import Derived.Deep.DeepHandedRow
import Derived.ChangeMaps5
import Derived.ProofKit
import Derived.OpenShut
namespace Go.Proofs.YthilkgfbaddjpaaDoor
open Go Go.RowKit Go.WideShapes Go.ChangeShapes Go.WideElems Go.Deep
set_option linter.unusedVariables false
set_option linter.unusedSimpArgs false
set_option maxRecDepth 100000
structure Mem where
  name : ByteArray
  ty : Int
  off : Int
structure Ty where
  kind : Int
  name : ByteArray
  size : Int
  ty : Int
  count : Int
  mems : List Mem
theorem Blk.below_ {w w' : World} {g : Nat} {t : TypeId} {cs : Array Value} (h : Blk w g t cs) (hb : Below w.heap.size w w') : Blk w' g t cs := (hb.block g h.lt).trans h
/-- Members that lie behind A. -/
def MemsAt (w : World) (A : Option Addr) (ms : List Mem) : Prop := ∀ i m, ms[i]? = some m → ∃ b off, A = some ⟨b, off, none⟩ ∧ b < w.heap.size ∧
  w.cell? ⟨b, off + i * 3, none⟩ = some (.string m.name) ∧ w.cell? ⟨b, off + i * 3 + 1, none⟩ = some (.int .i64 m.ty) ∧ w.cell? ⟨b, off + i * 3 + 2, none⟩ = some (.int .i64 m.off) ∧ m.name.size ≤ 9223372036854775807
theorem MemsAt.below {w w' : World} {A : Option Addr} {ms : List Mem} (h : MemsAt w A ms) (hb : Below w.heap.size w w') : MemsAt w' A ms := by
  intro i m hm
  obtain ⟨b, off, rfl, hlt, c0, c1, c2, hs⟩ := h i m hm
  exact ⟨b, off, rfl, Nat.lt_of_lt_of_le hlt hb.size, by rw [hb.cell (by simpa using hlt)]; exact c0, by rw [hb.cell (by simpa using hlt)]; exact c1, by rw [hb.cell (by simpa using hlt)]; exact c2, hs⟩
def TysAt (w : World) (A : Option Addr) (l : List Ty) : Prop := ∀ i t, l[i]? = some t → ∃ b off A' c', A = some ⟨b, off, none⟩ ∧ b < w.heap.size ∧
  w.cell? ⟨b, off + i * 6, none⟩ = some (.int .i64 t.kind) ∧ w.cell? ⟨b, off + i * 6 + 1, none⟩ = some (.string t.name) ∧ w.cell? ⟨b, off + i * 6 + 2, none⟩ = some (.int .i64 t.size) ∧ w.cell? ⟨b, off + i * 6 + 3, none⟩ = some (.int .i64 t.ty) ∧ w.cell? ⟨b, off + i * 6 + 4, none⟩ = some (.int .i64 t.count) ∧
  w.cell? ⟨b, off + i * 6 + 5, none⟩ = some (.slice A' t.mems.length c') ∧ MemsAt w A' t.mems ∧ t.name.size ≤ 9223372036854775807 ∧ t.mems.length ≤ 9223372036854775807
theorem TysAt.below {w w' : World} {A : Option Addr} {l : List Ty} (h : TysAt w A l) (hb : Below w.heap.size w w') : TysAt w' A l := by
  intro i t ht
  obtain ⟨b, off, A', c', rfl, hlt, c0, c1, c2, c3, c4, c5, hm, hs, hn⟩ := h i t ht
  have e : ∀ o, w'.cell? ⟨b, o, none⟩ = w.cell? ⟨b, o, none⟩ := fun o => hb.cell (p := ⟨b, o, none⟩) hlt
  exact ⟨b, off, A', c', rfl, Nat.lt_of_lt_of_le hlt hb.size, (e _).trans c0, (e _).trans c1, (e _).trans c2, (e _).trans c3, (e _).trans c4, (e _).trans c5, hm.below hb, hs, hn⟩
section
variable {H : Type} {enc : TypeId × Value → H} {w : World} {base : Nat} {spare : Nat → Bool} {held : Bool}
/-- A slice of structs of one-cell fields, read out of one cell. -/
theorem open_structs_cell {P : Program} {t e : TypeId} {fs : Array Field} {v : Value} {fu : Nat} {y : DataW H × List MemPlace} (ht : P.underlying t = some (.slice e)) (he : P.underlying e = some (.struct fs)) (hone : oneCellFields P fs = true) (hC : P.cellsOf e = fs.size) (hpos : 0 < fs.size)
    (hf : DataW.trod enc P w base spare held fu t [v] = some y) :
    ∃ (A : Option Addr) (len cap : Nat), v = .slice A len cap ∧ len ≤ cap ∧ cap ≤ maxLen ∧ (0 < len → ∃ ad : Addr, A = some ad ∧ ad.block < w.heap.size) ∧
      ∀ i, i < len → ∀ ad, A = some ad → ∀ (j : Nat) (f : Field), fs[j]? = some f → ∃ c y n, w.cell? (ad.add (i * fs.size + j)) = some c ∧ DataW.trod enc P w base spare held n f.type [c] = some y := by
  rcases open_slice ht hf with ⟨hcs, _⟩ | ⟨a, len, cap, m, n, D, Pl, hcs, _, hl, hm, hmm, _, hx⟩
  · simp at hcs
    subst hcs
    exact ⟨none, 0, 0, rfl, by omega, by unfold maxLen; omega, fun h => by omega, fun i hi => by omega⟩
  · simp at hcs
    subst hcs
    have hlm : len ≤ m := by rw [hmm]; split <;> omega
    have each : ∀ i, i < len → ∀ (j : Nat) (f : Field), fs[j]? = some f → ∃ c y n, w.cell? (a.add (i * fs.size + j)) = some c ∧ DataW.trod enc P w base spare held n f.type [c] = some y := by
      intro i hi j f hj
      obtain ⟨cs', h1, h2⟩ := hx i (by omega)
      rw [hC] at h1
      obtain ⟨_, hlen, hcell⟩ := World.cells?_some h1
      obtain ⟨xs, k, _, _, _, hxl, hg⟩ := DataW.trod_struct he h2
      obtain ⟨ho, hk⟩ := hone_of hone j f hj
      have hjl : j < fs.size := (Array.getElem?_eq_some_iff.1 hj).1
      have h3 := hg j f hj
      rw [ho, hk] at h3
      have hjc : j < cs'.length := by omega
      have e1 : (cs'.drop j).take 1 = [cs'[j]] := by rw [List.drop_eq_getElem_cons hjc]; rfl
      rw [e1] at h3
      have hxj : xs[j]? = some (xs[j]'(by omega)) := List.getElem?_eq_getElem (by omega)
      have h4 := hcell j (by omega)
      rw [add_add] at h4
      exact ⟨cs'[j], _, k, by rw [h4, List.getElem?_eq_getElem hjc], h3.trans hxj⟩
    refine ⟨some a, len, cap, rfl, hl, hm, fun h0 => ⟨a, rfl, ?_⟩, fun i hi ad had j f hj => ?_⟩
    · have hf0 : fs[0]? = some fs[0] := Array.getElem?_eq_getElem hpos
      obtain ⟨c, _, _, h1, _⟩ := each 0 h0 0 _ hf0
      have := World.block_lt_of_cell? w _ h1
      rwa [block_add_] at this
    · cases had
      exact each i hi j f hj
theorem range_get {α : Type} (X : Nat → α) (n i : Nat) (x : α) (h : ((List.range n).map X)[i]? = some x) : i < n ∧ x = X i := by
  rw [List.getElem?_map, Option.map_eq_some_iff] at h
  obtain ⟨k, hk, rfl⟩ := h
  obtain ⟨h1, h2⟩ := List.getElem?_eq_some_iff.1 hk
  rw [List.getElem_range] at h2
  subst h2
  exact ⟨by simpa using h1, rfl⟩
theorem bounds_i64 {n : Int} (h : (Lit.int .i64 n).wf = true) : -9223372036854775808 ≤ n ∧ n ≤ 9223372036854775807 := by
  simp [Lit.wf, IntKind.min, IntKind.max, IntKind.bits, IntKind.signed] at h; omega
theorem one_le_bulk (d : DataW H) : 1 ≤ Rows.uptoBulk d := by
  cases d with
  | lit l => cases l <;> simp [Rows.uptoBulk]
  | nil => simp [Rows.uptoBulk]
  | ptr d => simp [Rows.uptoBulk]
  | slice elems spare => simp [Rows.uptoBulk]
  | agg parts => simp [Rows.uptoBulk]
  | iface t d => simp [Rows.uptoBulk]
  | map entries => simp [Rows.uptoBulk]
  | held h => simp [Rows.uptoBulk]
theorem length_le_bulk (l : List (DataW H)) : l.length ≤ Rows.uptoBulkAll l := by
  induction l with
  | nil => simp [Rows.uptoBulkAll]
  | cons x r ih => have := one_le_bulk x; simp only [Rows.uptoBulkAll, List.length_cons]; omega
theorem sum_le_bulk (f : Nat → Nat) (n : Nat) (D : Nat → DataW H) (h : ∀ i, i < n → f i ≤ Rows.uptoBulk (D i)) : ((List.range n).map f).sum ≤ Rows.uptoBulkAll ((List.range n).map D) := by
  have key : ∀ (ix : List Nat), (∀ i ∈ ix, i < n) → (ix.map f).sum ≤ Rows.uptoBulkAll (ix.map D) := by
    intro ix
    induction ix with
    | nil => intro _; simp [Rows.uptoBulkAll]
    | cons i ix ih =>
      intro hi
      have h1 := ih fun x hx => hi x (by simp [hx])
      have h2 := h i (hi i (by simp))
      simp only [List.map_cons, List.sum_cons, Rows.uptoBulkAll]
      omega
  exact key _ fun i hi => by simpa using hi
theorem mem_bulk {l : List (DataW H)} {d : DataW H} (h : d ∈ l) : Rows.uptoBulk d ≤ Rows.uptoBulkAll l := by
  induction l with
  | nil => cases h
  | cons x r ih =>
    simp only [Rows.uptoBulkAll]
    rcases List.mem_cons.1 h with rfl | h
    · omega
    · have := ih h; omega
/-- A slice's elements are no more than its datum's bulk. -/
theorem slice_bulk {P : Program} {t e : TypeId} {A : Option Addr} {len cap fu : Nat} {y : DataW H × List MemPlace} (ht : P.underlying t = some (.slice e)) (hf : DataW.trod enc P w base spare held fu t [.slice A len cap] = some y) : len ≤ Rows.uptoBulk y.1 ∧ (A = none → len = 0 ∧ cap = 0) := by
  rcases open_slice ht hf with ⟨hcs, _⟩ | ⟨a, len', cap', m, n', D, Pl, hcs, _, _, _, _, hx, _⟩
  · simp at hcs
    obtain ⟨rfl, rfl, rfl⟩ := hcs
    exact ⟨by omega, fun _ => ⟨rfl, rfl⟩⟩
  · simp at hcs
    obtain ⟨rfl, rfl, rfl⟩ := hcs
    subst hx
    refine ⟨?_, fun e => by cases e⟩
    have := length_le_bulk ((List.range len).map D)
    simp only [Rows.uptoBulk, List.length_map, List.length_range] at this ⊢
    omega
def bulkT (l : List Ty) : Nat := (l.map fun t => 1 + t.mems.length).sum
theorem open_mems {v : Value} {fu : Nat} {y : DataW H × List MemPlace} (hf : DataW.trod enc Tryd.prog w base spare held fu 32 [v] = some y) :
    ∃ (A : Option Addr) (c : Nat) (ms : List Mem), v = .slice A ms.length c ∧ MemsAt w A ms ∧ ms.length ≤ 9223372036854775807 ∧ (∀ m ∈ ms, m.off ≤ 9223372036854775807) ∧ ms.length ≤ Rows.uptoBulk y.1 := by
  obtain ⟨A, n, c, rfl, hl, hm, hA, hx⟩ := open_structs_cell Tryd.underlying32 Tryd.underlying60 (by kernel_rfl) (by kernel_rfl) (by decide) hf
  have hbk := (slice_bulk Tryd.underlying32 hf).1
  have each : ∀ i, i < n → ∃ x : Mem, (∃ b off, A = some ⟨b, off, none⟩ ∧ b < w.heap.size ∧ w.cell? ⟨b, off + i * 3, none⟩ = some (.string x.name) ∧ w.cell? ⟨b, off + i * 3 + 1, none⟩ = some (.int .i64 x.ty) ∧ w.cell? ⟨b, off + i * 3 + 2, none⟩ = some (.int .i64 x.off) ∧ x.name.size ≤ 9223372036854775807) ∧ x.off ≤ 9223372036854775807 := by
    intro i hi
    obtain ⟨ad, rfl, hlt⟩ := hA (by omega)
    obtain ⟨c0, y0, n0, g0, t0⟩ := hx i hi ad rfl 0 _ rfl
    obtain ⟨c1, y1, n1, g1, t1⟩ := hx i hi ad rfl 1 _ rfl
    obtain ⟨c2, y2, n2, g2, t2⟩ := hx i hi ad rfl 2 _ rfl
    obtain ⟨nm, e0, _, w0⟩ := DataW.trod_string Tryd.underlying9 t0
    obtain ⟨ty, e1, _, w1⟩ := DataW.trod_int Tryd.underlying3 t1
    obtain ⟨of, e2, _, w2⟩ := DataW.trod_int Tryd.underlying3 t2
    have b2 := (bounds_i64 w2).2
    cases e0; cases e1; cases e2
    obtain ⟨b, off, spot⟩ := ad
    have hspot : spot = none := by
      obtain ⟨_, _, _, gz, _⟩ := hx 0 (by omega) ⟨b, off, spot⟩ rfl 0 _ rfl
      simpa [Addr.add] using World.cell?_spot gz
    subst hspot
    simp only [Go.WideShapes.add_plain] at g0 g1 g2
    exact ⟨⟨nm, ty, of⟩, ⟨b, off, rfl, hlt, g0, g1, g2, by unfold maxLen at w0; omega⟩, b2⟩
  have : Inhabited Mem := ⟨⟨⟨#[]⟩, 0, 0⟩⟩
  obtain ⟨X, hX⟩ := choose_lt each
  refine ⟨A, c, (List.range n).map X, by simp, fun i m hm' => ?_, by simp; unfold maxLen at hm; omega, fun m hm' => ?_, by simpa using hbk⟩
  · obtain ⟨hi, rfl⟩ := range_get X n i m hm'
    exact (hX i hi).1
  · obtain ⟨i, hget⟩ := List.getElem?_of_mem hm'
    obtain ⟨hi, rfl⟩ := range_get X n i m hget
    exact (hX i hi).2
/-- A slice of structs of one-cell fields, each with its own datum. -/
theorem open_structs_data {P : Program} {t e : TypeId} {fs : Array Field} {v : Value} {fu : Nat} {y : DataW H × List MemPlace} (ht : P.underlying t = some (.slice e)) (he : P.underlying e = some (.struct fs)) (hone : oneCellFields P fs = true) (hC : P.cellsOf e = fs.size) (hpos : 0 < fs.size)
    (hf : DataW.trod enc P w base spare held fu t [v] = some y) :
    ∃ (A : Option Addr) (len cap : Nat) (D : Nat → DataW H), v = .slice A len cap ∧ len ≤ cap ∧ cap ≤ maxLen ∧ (A = none → len = 0 ∧ cap = 0) ∧ (0 < len → ∃ ad : Addr, A = some ad ∧ ad.block < w.heap.size) ∧ Rows.uptoBulkAll ((List.range len).map D) ≤ Rows.uptoBulk y.1 ∧
      ∀ i, i < len → ∀ ad, A = some ad → ∃ (xs : List (DataW H × List MemPlace)) (k : Nat), D i = .agg (xs.map (·.1)) ∧ ∀ (j : Nat) (f : Field), fs[j]? = some f → ∃ c z, w.cell? (ad.add (i * fs.size + j)) = some c ∧ DataW.trod enc P w base spare held k f.type [c] = some z ∧ xs[j]? = some z := by
  rcases open_slice ht hf with ⟨hcs, _⟩ | ⟨a, len, cap, m, n, D, Pl, hcs, _, hl, hm, hmm, hxx, hx⟩
  · simp at hcs
    subst hcs
    exact ⟨none, 0, 0, fun _ => .nil, rfl, by omega, by unfold maxLen; omega, fun _ => ⟨rfl, rfl⟩, fun h => by omega, by simp [Rows.uptoBulkAll], fun i hi => by omega⟩
  · simp at hcs
    subst hcs
    subst hxx
    have hlm : len ≤ m := by rw [hmm]; split <;> omega
    have each : ∀ i, i < len → ∃ (xs : List (DataW H × List MemPlace)) (k : Nat), D i = .agg (xs.map (·.1)) ∧ ∀ (j : Nat) (f : Field), fs[j]? = some f → ∃ c z, w.cell? (a.add (i * fs.size + j)) = some c ∧ DataW.trod enc P w base spare held k f.type [c] = some z ∧ xs[j]? = some z := by
      intro i hi
      obtain ⟨cs', h1, h2⟩ := hx i (by omega)
      rw [hC] at h1
      obtain ⟨_, hlen, hcell⟩ := World.cells?_some h1
      obtain ⟨xs, k, _, e1, _, hxl, hg⟩ := DataW.trod_struct he h2
      simp only [Prod.mk.injEq] at e1
      refine ⟨xs, k, e1.1, fun j f hj => ?_⟩
      obtain ⟨ho, hk⟩ := hone_of hone j f hj
      have hjl : j < fs.size := (Array.getElem?_eq_some_iff.1 hj).1
      have h3 := hg j f hj
      rw [ho, hk] at h3
      have hjc : j < cs'.length := by omega
      have e1 : (cs'.drop j).take 1 = [cs'[j]] := by rw [List.drop_eq_getElem_cons hjc]; rfl
      rw [e1] at h3
      have hxj : xs[j]? = some (xs[j]'(by omega)) := List.getElem?_eq_getElem (by omega)
      have h4 := hcell j (by omega)
      rw [add_add] at h4
      exact ⟨cs'[j], _, by rw [h4, List.getElem?_eq_getElem hjc], h3.trans hxj, hxj⟩
    refine ⟨some a, len, cap, D, rfl, hl, hm, (fun e => by cases e), fun h0 => ⟨a, rfl, ?_⟩, by simp only [Rows.uptoBulk]; omega, fun i hi ad had => ?_⟩
    · have hf0 : fs[0]? = some fs[0] := Array.getElem?_eq_getElem hpos
      obtain ⟨_, _, _, he0⟩ := each 0 h0
      obtain ⟨c, _, h1, _⟩ := he0 0 _ hf0
      have := World.block_lt_of_cell? w _ h1
      rwa [block_add_] at this
    · cases had
      exact each i hi
/-- A list of types that comes in, nil let in; how bulky it is. -/
theorem open_types {b0 : Nat} {v : Value} {d : DataW H} {p : List MemPlace} (hv : Value.okWide Tryd.prog w .any b0 22 v) (h : DataW.Trod enc Tryd.prog w base spare held 22 v d p) :
    ∃ (A : Option Addr) (c : Nat) (l : List Ty), v = .slice A l.length c ∧ TysAt w A l ∧ l.length ≤ 9223372036854775807 ∧ (A = none → l.length = 0 ∧ c = 0) ∧ l.length ≤ c ∧ c ≤ maxLen ∧ (∀ t ∈ l, ∀ m ∈ t.mems, m.off ≤ 9223372036854775807) ∧ bulkT l ≤ Rows.uptoBulk d := by
  obtain ⟨A, n, c, rfl⟩ := okWide_slice Tryd.underlying22 hv
  obtain ⟨fu, hf⟩ := h
  obtain ⟨A2, n2, c2, D, hvv, hl, hm, hnil, hA, hD, hx⟩ := open_structs_data Tryd.underlying22 Tryd.underlying34 (by kernel_rfl) (by kernel_rfl) (by decide) hf
  cases hvv
  have each : ∀ i, i < n → ∃ x : Ty, (∃ b off A' c', A = some ⟨b, off, none⟩ ∧ b < w.heap.size ∧
      w.cell? ⟨b, off + i * 6, none⟩ = some (.int .i64 x.kind) ∧ w.cell? ⟨b, off + i * 6 + 1, none⟩ = some (.string x.name) ∧ w.cell? ⟨b, off + i * 6 + 2, none⟩ = some (.int .i64 x.size) ∧ w.cell? ⟨b, off + i * 6 + 3, none⟩ = some (.int .i64 x.ty) ∧ w.cell? ⟨b, off + i * 6 + 4, none⟩ = some (.int .i64 x.count) ∧
      w.cell? ⟨b, off + i * 6 + 5, none⟩ = some (.slice A' x.mems.length c') ∧ MemsAt w A' x.mems ∧ x.name.size ≤ 9223372036854775807 ∧ x.mems.length ≤ 9223372036854775807) ∧ (∀ m ∈ x.mems, m.off ≤ 9223372036854775807) ∧ 1 + x.mems.length ≤ Rows.uptoBulk (D i) := by
    intro i hi
    obtain ⟨ad, rfl, hlt⟩ := hA (by omega)
    obtain ⟨xs, k, hDi, hj⟩ := hx i hi ad rfl
    obtain ⟨c0, y0, g0, t0, _⟩ := hj 0 _ rfl
    obtain ⟨c1, y1, g1, t1, _⟩ := hj 1 _ rfl
    obtain ⟨c2, y2, g2, t2, _⟩ := hj 2 _ rfl
    obtain ⟨c3, y3, g3, t3, _⟩ := hj 3 _ rfl
    obtain ⟨c4, y4, g4, t4, _⟩ := hj 4 _ rfl
    obtain ⟨c5, y5, g5, t5, x5⟩ := hj 5 _ rfl
    obtain ⟨kd, e0, _, w0⟩ := DataW.trod_int Tryd.underlying3 t0
    obtain ⟨nm, e1, _, w1⟩ := DataW.trod_string Tryd.underlying9 t1
    obtain ⟨sz, e2, _, w2⟩ := DataW.trod_int Tryd.underlying3 t2
    obtain ⟨ty, e3, _, w3⟩ := DataW.trod_int Tryd.underlying3 t3
    obtain ⟨ct, e4, _, w4⟩ := DataW.trod_int Tryd.underlying3 t4
    obtain ⟨A', c', ms, e5, hms, hml, hoff, hbk⟩ := open_mems t5
    cases e0; cases e1; cases e2; cases e3; cases e4
    subst e5
    obtain ⟨b, off, spot⟩ := ad
    have hspot : spot = none := by
      obtain ⟨_, _, _, hz⟩ := hx 0 (by omega) ⟨b, off, spot⟩ rfl
      obtain ⟨_, _, gz, _⟩ := hz 0 _ rfl
      simpa [Addr.add] using World.cell?_spot gz
    subst hspot
    simp only [Go.WideShapes.add_plain] at g0 g1 g2 g3 g4 g5
    refine ⟨⟨kd, nm, sz, ty, ct, ms⟩, ⟨b, off, A', c', rfl, hlt, g0, g1, g2, g3, g4, g5, hms, by unfold maxLen at w1; omega, hml⟩, hoff, ?_⟩
    rw [hDi]
    have : y5.1 ∈ xs.map (·.1) := List.mem_map.2 ⟨y5, List.mem_of_getElem? x5, rfl⟩
    have := mem_bulk this
    simp only [Rows.uptoBulk]
    omega
  have : Inhabited Ty := ⟨⟨0, ⟨#[]⟩, 0, 0, 0, []⟩⟩
  obtain ⟨X, hX⟩ := choose_lt each
  refine ⟨A, c, (List.range n).map X, by simp, fun i m hm' => ?_, by simp; unfold maxLen at hm; omega, by simpa using hnil, by simpa using hl, hm, fun t ht => ?_, ?_⟩
  · obtain ⟨hi, rfl⟩ := range_get X n i m hm'
    exact (hX i hi).1
  · obtain ⟨i, hget⟩ := List.getElem?_of_mem ht
    obtain ⟨hi, rfl⟩ := range_get X n i t hget
    exact (hX i hi).2.1
  · have := sum_le_bulk (fun i => 1 + (X i).mems.length) n D (fun i hi => (hX i hi).2.2)
    unfold bulkT
    rw [List.map_map]
    exact Nat.le_trans this hD
end
end Go.Proofs.YthilkgfbaddjpaaDoor
