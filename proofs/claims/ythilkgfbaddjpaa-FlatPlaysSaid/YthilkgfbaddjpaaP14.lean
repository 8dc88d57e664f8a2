/-
  A map of package flat and one of the reference, each with its memory: each call has one answer, and leads both to the same plain state. Both maps side by side: Update, Free, a write at what Lookup told. One deed on both maps: the same answer, and both hold the same afterwards.
-/
import Derived.Test.YthilkgfbaddjpaaFXFree
import Derived.Deep.RegionHeld3
namespace Go.Proofs.Ythilkgfbaddjpaa
open Go Go.RowKit Go.Maps
set_option linter.unusedVariables false
set_option linter.unusedSimpArgs false
set_option maxRecDepth 100000
structure Par where
  bm : Nat
  bx : Nat
  x : Nat
  y : Nat
  k : Int
  c : Int
  v : Nat
  mx : Nat
  n : Nat
structure Par.Ok (p : Par) : Prop where
  kind : (p.k = 2 ∧ p.n = 1) ∨ (p.k = 6 ∧ p.c = p.n)
  n1 : 1 ≤ p.n
  n8 : p.n ≤ 8
  v1 : 1 ≤ p.v
  v2 : p.v ≤ 4096
  m1 : 1 ≤ p.mx
  m2 : p.mx ≤ 4096
structure FSt where
  gone : Bool
  fl : Nat
  z : Nat → List UInt8
def FSt.ps (s : FSt) (n : Nat) : PS := ⟨n, s.fl, if s.gone = true then fun _ => none else rng 0 n s.z⟩
def XF (p : Par) (s : FSt) (P : Nat → Prop) (w : World) : Prop :=
  (∀ b, P b → b < w.heap.size) ∧ P p.x ∧ ∃ S, KSide w S p.bm (s.ps p.n) ∧ (∀ b, S b → P b) ∧ ¬ S p.x ∧
    ((s.gone = true ∧ Blk w p.x 77 goneC) ∨ (s.gone = false ∧ ∃ V, Blk w p.x 77 (mapC p.bm p.k p.v p.mx V) ∧
      ((p.k = 2 ∧ p.n = 1 ∧ V = sharedV (addr 1 0)) ∨ (p.k = 6 ∧ ∃ g cc, V = eachV (some ⟨g, 0, none⟩) p.n cc ∧ P g ∧ ¬ S g ∧ g ≠ p.x ∧ ∀ i, i < p.n → w.cell? ⟨g, i, none⟩ = some (.int .u64 (addr (i + 1) 0))))))
def YF (p : Par) (s : FSt) (Q : Nat → Prop) (w : World) : Prop :=
  (∀ b, Q b → b < w.heap.size) ∧ Q p.y ∧ ∃ T A cc, XSide w T p.bx (s.ps p.n) ∧ (∀ b, T b → Q b) ∧ ¬ T p.y ∧
    Blk w p.y 79 (refC p.bx p.k p.v p.mx p.c (.slice A p.n cc) s.gone) ∧
      ∀ i, i < p.n → ∃ g, A = some ⟨g, 0, none⟩ ∧ Q g ∧ ¬ T g ∧ g ≠ p.y ∧ w.cell? ⟨g, i, none⟩ = some (.int .u64 (addr (i + 1) 0))
def FCall (p : Par) (f : FuncId) (args : Array Value) (s s' : FSt) (e0 : Ending) : Prop := ∀ w P, XF p s P w → Calls Try.prog f args w fun e w' => e = e0 ∧ XF p s' (more P w w') w' ∧ Keeps P w w'
def GCall (p : Par) (f : FuncId) (args : Array Value) (s s' : FSt) (e0 : Ending) : Prop := ∀ w Q, YF p s Q w → Calls Try.prog f args w fun e w' => e = e0 ∧ YF p s' (more Q w w') w' ∧ Keeps Q w w'
section
variable {p : Par} {s s' : FSt} {P Q U : Nat → Prop} {w w' : World} {f : FuncId} {args : Array Value} {e0 : Ending}
theorem XF.keeps (h : XF p s P w) (k : Keeps U w w') (hd : ∀ b, P b → ¬ U b) : XF p s P w' := by
  obtain ⟨h1, h2, S, h3, h4, h5, h6⟩ := h
  refine ⟨fun b hb => Nat.lt_of_lt_of_le (h1 b hb) k.size, h2, S, h3.keeps' k (fun b hb => hd b (h4 b hb)), h4, h5, ?_⟩
  rcases h6 with ⟨g1, g2⟩ | ⟨g1, V, g2, g3⟩
  · exact .inl ⟨g1, g2.keeps k (hd _ h2)⟩
  · refine .inr ⟨g1, V, g2.keeps k (hd _ h2), ?_⟩
    rcases g3 with g3 | ⟨e1, g, cc, e2, e3, e4, e5, e6⟩
    · exact .inl g3
    · exact .inr ⟨e1, g, cc, e2, e3, e4, e5, fun i hi => (World.cell?_of_block (k.block g (h1 g e3) (hd g e3))).trans (e6 i hi)⟩
theorem YF.keeps (h : YF p s Q w) (k : Keeps U w w') (hd : ∀ b, Q b → ¬ U b) : YF p s Q w' := by
  obtain ⟨h1, h2, T, A, cc, h3, h4, h5, h6, h7⟩ := h
  refine ⟨fun b hb => Nat.lt_of_lt_of_le (h1 b hb) k.size, h2, T, A, cc, h3.keeps' k (fun b hb => hd b (h4 b hb)), h4, h5, h6.keeps k (hd _ h2), fun i hi => ?_⟩
  obtain ⟨g, e1, e2, e3, e4, e5⟩ := h7 i hi
  exact ⟨g, e1, e2, e3, e4, (World.cell?_of_block (k.block g (h1 g e2) (hd g e2))).trans e5⟩
theorem XF.mono (h : XF p s P w) (hP : ∀ b, P b → Q b) (hl : ∀ b, Q b → b < w.heap.size) : XF p s Q w := by
  obtain ⟨h1, h2, S, h3, h4, h5, h6⟩ := h
  refine ⟨hl, hP _ h2, S, h3, fun b hb => hP b (h4 b hb), h5, h6.imp id ?_⟩
  rintro ⟨g1, V, g2, g3⟩
  refine ⟨g1, V, g2, g3.imp id ?_⟩
  rintro ⟨e1, g, cc, e2, e3, e4⟩
  exact ⟨e1, g, cc, e2, hP _ e3, e4⟩
theorem YF.mono (h : YF p s P w) (hP : ∀ b, P b → Q b) (hl : ∀ b, Q b → b < w.heap.size) : YF p s Q w := by
  obtain ⟨h1, h2, T, A, cc, h3, h4, h5, h6, h7⟩ := h
  refine ⟨hl, hP _ h2, T, A, cc, h3, fun b hb => hP b (h4 b hb), h5, h6, fun i hi => ?_⟩
  obtain ⟨g, e1, e2, e3⟩ := h7 i hi
  exact ⟨g, e1, hP _ e2, e3⟩
theorem more_lt2 (h : ∀ b, P b → b < w.heap.size) (hz : w.heap.size ≤ w'.heap.size) : ∀ b, more P w w' b → b < w'.heap.size := by
  rintro b (hb | ⟨_, hb⟩)
  · exact Nat.lt_of_lt_of_le (h b hb) hz
  · exact hb
theorem XF.grow (h : XF p s P w) (hb : Below w.heap.size w w') : XF p s (more P w w') w' ∧ Keeps P w w' :=
  ⟨(h.keeps (keeps_grow hb) (fun _ _ hf => hf)).mono (fun b hb => .inl hb) (more_lt2 h.1 hb.size), (keeps_grow hb).mono fun _ hf => hf.elim⟩
theorem YF.grow (h : YF p s Q w) (hb : Below w.heap.size w w') : YF p s (more Q w w') w' ∧ Keeps Q w w' :=
  ⟨(h.keeps (keeps_grow hb) (fun _ _ hf => hf)).mono (fun b hb => .inl hb) (more_lt2 h.1 hb.size), (keeps_grow hb).mono fun _ hf => hf.elim⟩
theorem FCall.quiet (h : ∀ w P, XF p s P w → Calls Try.prog f args w fun e w' => e = e0 ∧ Below w.heap.size w w') : FCall p f args s s e0 := by
  intro w P hx
  refine (h w P hx).mono ?_
  rintro e w' ⟨rfl, hb⟩
  exact ⟨rfl, hx.grow hb⟩
theorem GCall.quiet (h : ∀ w Q, YF p s Q w → Calls Try.prog f args w fun e w' => e = e0 ∧ Below w.heap.size w w') : GCall p f args s s e0 := by
  intro w P hx
  refine (h w P hx).mono ?_
  rintro e w' ⟨rfl, hb⟩
  exact ⟨rfl, hx.grow hb⟩
theorem below_same {w w' : World} (h : w = w') : Below w.heap.size w w' := by subst h; exact Below.refl _ _
/-- What changes the memory alone. -/
theorem XF.ks {S S' : Nat → Prop} (h : XF p s P w) (hSP : ∀ b, S b → P b) (nx : ¬ S p.x) (hk : KS w S p.bm (s'.ps p.n) S' w') (hg : s'.gone = s.gone)
    (h6 : (s.gone = true ∧ Blk w p.x 77 goneC) ∨ (s.gone = false ∧ ∃ V, Blk w p.x 77 (mapC p.bm p.k p.v p.mx V) ∧
      ((p.k = 2 ∧ p.n = 1 ∧ V = sharedV (addr 1 0)) ∨ (p.k = 6 ∧ ∃ g cc, V = eachV (some ⟨g, 0, none⟩) p.n cc ∧ P g ∧ ¬ S g ∧ g ≠ p.x ∧ ∀ i, i < p.n → w.cell? ⟨g, i, none⟩ = some (.int .u64 (addr (i + 1) 0)))))) :
    XF p s' (more P w w') w' ∧ Keeps P w w' := by
  have hz := hk.2.1.size
  have hS' : ∀ b, b < w.heap.size → ¬ S b → ¬ S' b := fun b hb hs hs' => by
    rcases hk.2.2 b hs' with h | h
    · exact hs h
    · omega
  refine ⟨⟨more_lt2 h.1 hz, .inl h.2.1, S', hk.1, fun b hb => ?_, hS' _ (h.1 _ h.2.1) nx, ?_⟩, hk.2.1.mono hSP⟩
  · rcases hk.2.2 b hb with hs | hs
    · exact .inl (hSP b hs)
    · exact .inr ⟨hs, hk.1.lt' b hb⟩
  · rw [hg]
    rcases h6 with ⟨g1, g2⟩ | ⟨g1, V, g2, g3⟩
    · exact .inl ⟨g1, g2.keeps hk.2.1 nx⟩
    · refine .inr ⟨g1, V, g2.keeps hk.2.1 nx, ?_⟩
      rcases g3 with g3 | ⟨e1, g, cc, e2, e3, e4, e5, e6⟩
      · exact .inl g3
      · exact .inr ⟨e1, g, cc, e2, .inl e3, hS' g (h.1 g e3) e4, e5, fun i hi => (World.cell?_of_block (hk.2.1.block g (h.1 g e3) e4)).trans (e6 i hi)⟩
theorem YF.xs {T T' : Nat → Prop} {A : Option Addr} {cc : Nat} (h : YF p s Q w) (hTQ : ∀ b, T b → Q b) (ny : ¬ T p.y) (hk : XS w T p.bx (s'.ps p.n) T' w') (hg : s'.gone = s.gone)
    (h6 : Blk w p.y 79 (refC p.bx p.k p.v p.mx p.c (.slice A p.n cc) s.gone))
    (h7 : ∀ i, i < p.n → ∃ g, A = some ⟨g, 0, none⟩ ∧ Q g ∧ ¬ T g ∧ g ≠ p.y ∧ w.cell? ⟨g, i, none⟩ = some (.int .u64 (addr (i + 1) 0))) :
    YF p s' (more Q w w') w' ∧ Keeps Q w w' := by
  have hz := hk.2.1.size
  have hS' : ∀ b, b < w.heap.size → ¬ T b → ¬ T' b := fun b hb hs hs' => by
    rcases hk.2.2 b hs' with h | h
    · exact hs h
    · omega
  refine ⟨⟨more_lt2 h.1 hz, .inl h.2.1, T', A, cc, hk.1, fun b hb => ?_, hS' _ (h.1 _ h.2.1) ny, by rw [hg]; exact h6.keeps hk.2.1 ny, fun i hi => ?_⟩, hk.2.1.mono hTQ⟩
  · rcases hk.2.2 b hb with hs | hs
    · exact .inl (hTQ b hs)
    · exact .inr ⟨hs, hk.1.lt' b hb⟩
  · obtain ⟨g, e1, e2, e3, e4, e5⟩ := h7 i hi
    exact ⟨g, e1, .inl e2, hS' g (h.1 g e2) e3, e4, (World.cell?_of_block (hk.2.1.block g (h.1 g e2) e3)).trans e5⟩
theorem FCall.of_k (hg : s'.gone = s.gone) (c : KCall f args p.bm (s.ps p.n) (s'.ps p.n) e0) : FCall p f args s s' e0 := by
  intro w P hx
  have hx' := hx
  obtain ⟨h1, h2, S, h3, h4, h5, h6⟩ := hx
  refine ((KS.start h3).call c).mono ?_
  rintro e w' ⟨rfl, hk, _⟩
  exact ⟨rfl, hx'.ks h4 h5 hk hg h6⟩
theorem GCall.of_x (hg : s'.gone = s.gone) (c : XCall f args p.bx (s.ps p.n) (s'.ps p.n) e0) : GCall p f args s s' e0 := by
  intro w P hx
  have hx' := hx
  obtain ⟨h1, h2, T, A, cc, h3, h4, h5, h6, h7⟩ := hx
  refine ((XS.start h3).call c).mono ?_
  rintro e w' ⟨rfl, hk, _⟩
  exact ⟨rfl, hx'.xs h4 h5 hk hg h6 h7⟩
end
section
variable (p : Par) (hp : p.Ok) (s : FSt)
abbrev xp (p : Par) : Value := .pointer (some ⟨p.x, 0, none⟩)
abbrev yp (p : Par) : Value := .pointer (some ⟨p.y, 0, none⟩)
include hp in
theorem look_pair (key : ByteArray) (cpu : Int) : ∃ a : Int, FCall p 21 #[xp p, .string key, .int .i64 cpu] s s (.returned (.int .u64 a)) ∧ GCall p 34 #[yp p, .string key, .int .i64 cpu] s s (.returned (.int .u64 a)) ∧
    (a = 0 ∨ (s.gone = false ∧ ∃ c q : Nat, (0 < c ∧ c ≤ p.n) ∧ q ≤ 4294967295 ∧ a = addr c q)) := by
  obtain ⟨hk, n1, n8, v1, v2, m1, m2⟩ := hp
  by_cases hno : s.gone = true ∨ idx key < 0 ∨ (p.mx : Int) ≤ idx key
  · refine ⟨0, FCall.quiet fun w P hx => ?_, GCall.quiet fun w Q hy => ?_, .inl rfl⟩
    · obtain ⟨h1, h2, S, h3, h4, h5, ⟨g1, g2⟩ | ⟨g1, V, g2, g3⟩⟩ := hx
      · exact (xlook_gone key cpu g2).mono fun e w' h => ⟨h.1, below_same h.2⟩
      · have hno' : idx key < 0 ∨ (p.mx : Int) ≤ idx key := by
          rcases hno with h | h
          · rw [g1] at h; cases h
          · exact h
        rcases g3 with ⟨_, _, rfl⟩ | ⟨_, g, cc, rfl, _⟩
        · exact (xlook_no _ _ key cpu m2 g2 hno').mono fun e w' h => ⟨h.1, below_same h.2⟩
        · exact (xlook_no _ _ key cpu m2 g2 hno').mono fun e w' h => ⟨h.1, below_same h.2⟩
    · obtain ⟨h1, h2, T, A, cc, h3, h4, h5, h6, h7⟩ := hy
      exact (ylook_no p.mx key cpu h6 hno).mono fun e w' h => ⟨h.1, below_same h.2⟩
  · have hg : s.gone = false := by
      rcases hb : s.gone with _ | _
      · rfl
      · exact absurd (.inl hb) hno
    obtain ⟨j, hj⟩ : ∃ j : Nat, idx key = j := Int.eq_ofNat_of_zero_le (by omega)
    have hjm : j < p.mx := by omega
    have hq : j * wide p.v ≤ 4096 * 4103 := Nat.mul_le_mul (by omega) (by unfold wide; omega)
    rcases hk with ⟨k2, en⟩ | ⟨k6, ec⟩
    · refine ⟨addr 1 (j * wide p.v), FCall.quiet fun w P hx => ?_, GCall.quiet fun w Q hy => ?_, .inr ⟨hg, 1, _, ⟨by decide, n1⟩, by omega, rfl⟩⟩
      · obtain ⟨h1, h2, S, h3, h4, h5, ⟨g1, g2⟩ | ⟨g1, V, g2, g3⟩⟩ := hx
        · rw [hg] at g1; cases g1
        · rcases g3 with ⟨_, _, rfl⟩ | ⟨e, _⟩
          · rw [k2] at g2
            rcases key_ways key with ⟨_, e⟩ | ⟨xs, hx4, rfl, e⟩
            · omega
            · have ej : le xs = j := by omega
              have := Lookup_arr p.v p.mx 1 cpu v2 m2 (by decide) g2 xs hx4 (by omega)
              rw [ej] at this
              exact this
          · rw [k2] at e; exact absurd e (by decide)
      · obtain ⟨h1, h2, T, A, cc, h3, h4, h5, h6, h7⟩ := hy
        rw [hg, k2, en] at h6
        obtain ⟨g, rfl, _, _, _, hc⟩ := h7 0 (by omega)
        exact ylook_arr (c := p.c) cpu p.v p.mx cc g v2 m2 key h6 hc j hj hjm
    · by_cases hin : 0 ≤ cpu ∧ cpu < p.n
      · obtain ⟨i, rfl⟩ := Int.eq_ofNat_of_zero_le hin.1
        have hi : i < p.n := by omega
        refine ⟨addr (i + 1) (j * wide p.v), FCall.quiet fun w P hx => ?_, GCall.quiet fun w Q hy => ?_, .inr ⟨hg, i + 1, _, ⟨by omega, by omega⟩, by omega, rfl⟩⟩
        · obtain ⟨h1, h2, S, h3, h4, h5, ⟨g1, g2⟩ | ⟨g1, V, g2, g3⟩⟩ := hx
          · rw [hg] at g1; cases g1
          · rcases g3 with ⟨e, _⟩ | ⟨_, g, cc, rfl, e3, e4, e5, e6⟩
            · rw [k6] at e; exact absurd e (by decide)
            · rw [k6] at g2
              exact xlook_cpu_in p.n g cc i hi n8 (h1 g e3) (e6 i hi) v2 m2 g2 key j hj hjm
        · obtain ⟨h1, h2, T, A, cc, h3, h4, h5, h6, h7⟩ := hy
          rw [hg, k6] at h6
          obtain ⟨g, rfl, _, _, _, hc⟩ := h7 i hi
          exact ylook_cpu (c := p.c) i p.n hi n8 p.v p.mx cc g v2 m2 key h6 hc j hj hjm
      · have ho : cpu < 0 ∨ (p.n : Int) ≤ cpu := by omega
        refine ⟨0, FCall.quiet fun w P hx => ?_, GCall.quiet fun w Q hy => ?_, .inl rfl⟩
        · obtain ⟨h1, h2, S, h3, h4, h5, ⟨g1, g2⟩ | ⟨g1, V, g2, g3⟩⟩ := hx
          · rw [hg] at g1; cases g1
          · rcases g3 with ⟨e, _⟩ | ⟨_, g, cc, rfl, e3, e4, e5, e6⟩
            · rw [k6] at e; exact absurd e (by decide)
            · rw [k6] at g2
              exact xlook_cpu_out p.n cc _ cpu ho v2 m2 g2 key j hj hjm
        · obtain ⟨h1, h2, T, A, cc, h3, h4, h5, h6, h7⟩ := hy
          rw [hg, k6] at h6
          exact (ylook_out (c := p.c) p.mx p.n cc A key cpu h6 (by omega) (by omega) ho).mono fun e w' h => ⟨h.1, below_same h.2⟩
include hp in
theorem next_pair (key : ByteArray) : ∃ (t : ByteArray) (a : Int), FCall p 22 #[xp p, .string key] s s (.returned (.tuple #[.string t, .int .i64 a])) ∧ GCall p 36 #[yp p, .string key] s s (.returned (.tuple #[.string t, .int .i64 a])) := by
  obtain ⟨hk, n1, n8, v1, v2, m1, m2⟩ := hp
  rcases hg : s.gone with _ | _
  · by_cases hno : idx key < 0 ∨ (p.mx : Int) ≤ idx key
    · refine ⟨bstr (wb 0 4), 0, FCall.quiet fun w P hx => ?_, GCall.quiet fun w Q hy => ?_⟩
      · obtain ⟨h1, h2, S, h3, h4, h5, ⟨g1, g2⟩ | ⟨g1, V, g2, g3⟩⟩ := hx
        · rw [hg] at g1; cases g1
        · rcases g3 with ⟨_, _, rfl⟩ | ⟨_, g, cc, rfl, _⟩
          · exact xnext_start _ _ key m2 g2 hno
          · exact xnext_start _ _ key m2 g2 hno
      · obtain ⟨h1, h2, T, A, cc, h3, h4, h5, h6, h7⟩ := hy
        rw [hg] at h6
        exact ynext_start key h6 hno
    · rcases key_ways key with ⟨_, e⟩ | ⟨xs, hx4, rfl, hj⟩
      · omega
      have hjm : le xs < p.mx := by omega
      by_cases hl : le xs + 1 = p.mx
      · refine ⟨⟨#[]⟩, 4, FCall.quiet fun w P hx => ?_, GCall.quiet fun w Q hy => ?_⟩
        · obtain ⟨h1, h2, S, h3, h4, h5, ⟨g1, g2⟩ | ⟨g1, V, g2, g3⟩⟩ := hx
          · rw [hg] at g1; cases g1
          · rcases g3 with ⟨_, _, rfl⟩ | ⟨_, g, cc, rfl, _⟩
            · exact (Next_last p.v p.mx m2 _ _ _ g2 xs hx4 hl).mono fun e w' h => ⟨h.1, below_same h.2⟩
            · exact (Next_last p.v p.mx m2 _ _ _ g2 xs hx4 hl).mono fun e w' h => ⟨h.1, below_same h.2⟩
        · obtain ⟨h1, h2, T, A, cc, h3, h4, h5, h6, h7⟩ := hy
          rw [hg] at h6
          exact (ynext_last (bstr xs) h6 m2 (le xs) hj hl).mono fun e w' h => ⟨h.1, below_same h.2⟩
      · have hl2 : le xs + 1 < p.mx := by omega
        refine ⟨bstr (wb (le xs + 1) 4), 0, FCall.quiet fun w P hx => ?_, GCall.quiet fun w Q hy => ?_⟩
        · obtain ⟨h1, h2, S, h3, h4, h5, ⟨g1, g2⟩ | ⟨g1, V, g2, g3⟩⟩ := hx
          · rw [hg] at g1; cases g1
          · rcases g3 with ⟨_, _, rfl⟩ | ⟨_, g, cc, rfl, _⟩
            · exact Next_on p.v p.mx m2 _ _ _ g2 xs hx4 hl2
            · exact Next_on p.v p.mx m2 _ _ _ g2 xs hx4 hl2
        · obtain ⟨h1, h2, T, A, cc, h3, h4, h5, h6, h7⟩ := hy
          rw [hg] at h6
          exact ynext_on (bstr xs) h6 m2 (le xs) hj hl2
  · refine ⟨⟨#[]⟩, 1, FCall.quiet fun w P hx => ?_, GCall.quiet fun w Q hy => ?_⟩
    · obtain ⟨h1, h2, S, h3, h4, h5, ⟨g1, g2⟩ | ⟨g1, V, g2, g3⟩⟩ := hx
      · exact (xnext_gone key g2).mono fun e w' h => ⟨h.1, below_same h.2⟩
      · rw [hg] at g1; cases g1
    · obtain ⟨h1, h2, T, A, cc, h3, h4, h5, h6, h7⟩ := hy
      rw [hg] at h6
      exact (ynext_gone key h6).mono fun e w' h => ⟨h.1, below_same h.2⟩
end
end Go.Proofs.Ythilkgfbaddjpaa
namespace Go.Proofs.Ythilkgfbaddjpaa
open Go Go.RowKit Go.Maps
set_option linter.unusedVariables false
set_option linter.unusedSimpArgs false
set_option maxRecDepth 100000
section
variable (p : Par) (hp : p.Ok) (s : FSt) (hz : ∀ i, (s.z i).length = p.mx * wide p.v)
include hp hz in
theorem upd_pair (key val : ByteArray) (f cpu : Int) : ∃ (s' : FSt) (a : Int), (∀ i, (s'.z i).length = p.mx * wide p.v) ∧ FCall p 19 #[xp p, .string key, .string val, .int .i64 f, .int .i64 cpu] s s' (.returned (.int .i64 a)) ∧
    GCall p 35 #[yp p, .string key, .string val, .int .i64 f, .int .i64 cpu] s s' (.returned (.int .i64 a)) := by
  obtain ⟨hk, n1, n8, v1, v2, m1, m2⟩ := hp
  rcases hg : s.gone with _ | _
  · by_cases hbad : idx key < 0 ∨ val.size ≠ p.v ∨ f < 0 ∨ 2 < f
    · refine ⟨s, 1, hz, FCall.quiet fun w P hx => ?_, GCall.quiet fun w Q hy => ?_⟩
      · obtain ⟨h1, h2, S, h3, h4, h5, ⟨g1, g2⟩ | ⟨g1, V, g2, g3⟩⟩ := hx
        · rw [hg] at g1; cases g1
        · rcases g3 with ⟨_, _, rfl⟩ | ⟨_, g, cc, rfl, _⟩
          · exact (xupd_bad _ _ key val f cpu g2 hbad).mono fun e w' h => ⟨h.1, below_same h.2⟩
          · exact (xupd_bad _ _ key val f cpu g2 hbad).mono fun e w' h => ⟨h.1, below_same h.2⟩
      · obtain ⟨h1, h2, T, A, cc, h3, h4, h5, h6, h7⟩ := hy
        refine (yupd_bad p.v s.gone key val f cpu h6 ?_).mono fun e w' h => ⟨h.1, below_same h.2⟩
        rcases hbad with h | h | h | h
        · exact .inr (.inl h)
        · exact .inr (.inr (.inl h))
        · exact .inr (.inr (.inr (.inl h)))
        · exact .inr (.inr (.inr (.inr (.inl h))))
    · have hv : val.size = p.v := by
        rcases Nat.decEq val.size p.v with h | h
        · exact absurd (.inr (.inl h)) hbad
        · exact h
      have hf : 0 ≤ f ∧ f ≤ 2 := by omega
      obtain ⟨j, hj⟩ : ∃ j : Nat, idx key = j := Int.eq_ofNat_of_zero_le (by omega)
      have ways : (p.k = 2 ∧ p.n = 1) ∨ (p.k = 6 ∧ p.c = p.n ∧ (cpu < -1 ∨ (p.n : Int) ≤ cpu)) ∨ (p.k = 6 ∧ p.c = p.n ∧ cpu = -1) ∨ (p.k = 6 ∧ p.c = p.n ∧ ∃ i : Nat, i < p.n ∧ cpu = i) := by
        rcases hk with h | ⟨h1, h2⟩
        · exact .inl h
        · refine .inr ?_
          by_cases h3 : cpu < -1 ∨ (p.n : Int) ≤ cpu
          · exact .inl ⟨h1, h2, h3⟩
          · by_cases h4 : cpu = -1
            · exact .inr (.inl ⟨h1, h2, h4⟩)
            · exact .inr (.inr ⟨h1, h2, cpu.toNat, by omega, by omega⟩)
      rcases ways with ⟨k2, en⟩ | ⟨k6, ec, hc⟩ | ways
      · -- one for all CPUs
        by_cases hfull : p.mx ≤ j
        · refine ⟨s, 3, hz, FCall.quiet fun w P hx => ?_, GCall.quiet fun w Q hy => ?_⟩
          · obtain ⟨h1, h2, S, h3, h4, h5, ⟨g1, g2⟩ | ⟨g1, V, g2, g3⟩⟩ := hx
            · rw [hg] at g1; cases g1
            · rcases g3 with ⟨_, _, rfl⟩ | ⟨e, _⟩
              · rw [k2] at g2
                exact xupd_full_s cpu m2 g2 key val f hf hv j hj hfull
              · rw [k2] at e; exact absurd e (by decide)
          · obtain ⟨h1, h2, T, A, cc, h3, h4, h5, h6, h7⟩ := hy
            rw [hg] at h6
            exact (yupd_full p.v key val f cpu h6 (.inl k2) hf hv (by omega) (by omega)).mono fun e w' h => ⟨h.1, below_same h.2⟩
        · by_cases hf1 : f = 1
          · subst hf1
            refine ⟨s, 5, hz, FCall.quiet fun w P hx => ?_, GCall.quiet fun w Q hy => ?_⟩
            · obtain ⟨h1, h2, S, h3, h4, h5, ⟨g1, g2⟩ | ⟨g1, V, g2, g3⟩⟩ := hx
              · rw [hg] at g1; cases g1
              · rcases g3 with ⟨_, _, rfl⟩ | ⟨e, _⟩
                · rw [k2] at g2
                  exact xupd_exists_s cpu m2 g2 key val hv j hj (by omega)
                · rw [k2] at e; exact absurd e (by decide)
            · obtain ⟨h1, h2, T, A, cc, h3, h4, h5, h6, h7⟩ := hy
              rw [hg] at h6
              exact (yupd_exists p.v key val cpu h6 (.inl k2) hv (by omega) (by omega)).mono fun e w' h => ⟨h.1, below_same h.2⟩
          · have hl : val.data.toList.length = p.v := by rw [Array.length_toList]; exact hv
            have hfit : j * wide p.v + p.v ≤ p.mx * wide p.v := fit_in (by omega)
            refine ⟨{ s with z := zq s.z (j * wide p.v) val.data.toList (pU 2 cpu 1) }, 0, zq_len hz (by omega), fun w P hx => ?_, fun w Q hy => ?_⟩
            · have hx' := hx
              obtain ⟨h1, h2, S, h3, h4, h5, g⟩ := hx
              have g' := g
              rcases g with ⟨g1, g2⟩ | ⟨g1, V, g2, g3⟩
              · rw [hg] at g1; cases g1
              · rcases g3 with ⟨_, _, rfl⟩ | ⟨e, _⟩
                · rw [k2] at g2
                  have h3' : KSide w S p.bm ⟨p.n, s.fl, rng 0 1 s.z⟩ := by
                    have := h3
                    unfold FSt.ps at this
                    rw [hg, if_neg (by decide)] at this
                    rwa [en] at this ⊢
                  rw [bstr_of val]
                  refine (xupd_ok_s cpu p.v p.mx p.n s.fl p.x s.z h3' g2 h5 v2 v1 m2 key val.data.toList f (by omega) hl j hj (by omega) hz).mono ?_
                  rintro e w' ⟨rfl, S', hks⟩
                  refine ⟨rfl, hx'.ks (S' := S') (s' := { s with z := zq s.z (j * wide p.v) val.data.toList (pU 2 cpu 1) }) h4 h5 ?_ rfl g'⟩
                  unfold FSt.ps
                  rw [hg, if_neg (by decide)]
                  rwa [en] at hks ⊢
                · rw [k2] at e; exact absurd e (by decide)
            · have hy' := hy
              obtain ⟨h1, h2, T, A, cc, h3, h4, h5, h6, h7⟩ := hy
              have h6' := h6
              rw [hg, k2, en] at h6
              have h3' : XSide w T p.bx ⟨p.n, s.fl, rng 0 1 s.z⟩ := by
                have := h3
                unfold FSt.ps at this
                rw [hg, if_neg (by decide)] at this
                rwa [en] at this ⊢
              rw [bstr_of val]
              refine (yupd_ok_arr p.c cpu p.v p.mx p.n s.fl cc s.z A key val.data.toList f h3' h6 h5 (fun i hi => ?_) v2 m2 (by omega) hl j hj (by omega) hz).mono ?_
              · obtain ⟨g, e1, e2, e3, e4, e5⟩ := h7 i (by omega)
                exact ⟨g, e1, h1 g e2, e3, e4, e5⟩
              · rintro e w' ⟨rfl, T', hks⟩
                refine ⟨rfl, hy'.xs (T' := T') (s' := { s with z := zq s.z (j * wide p.v) val.data.toList (pU 2 cpu 1) }) h4 h5 ?_ rfl h6' h7⟩
                unfold FSt.ps
                rw [hg, if_neg (by decide)]
                rwa [en] at hks ⊢
      · -- no such CPU
        refine ⟨s, 1, hz, FCall.quiet fun w P hx => ?_, GCall.quiet fun w Q hy => ?_⟩
        · obtain ⟨h1, h2, S, h3, h4, h5, ⟨g1, g2⟩ | ⟨g1, V, g2, g3⟩⟩ := hx
          · rw [hg] at g1; cases g1
          · rcases g3 with ⟨e, _⟩ | ⟨_, g, cc, rfl, e3, e4, e5, e6⟩
            · rw [k6] at e; exact absurd e (by decide)
            · rw [k6] at g2
              exact xupd_no_n cpu _ p.n cc (by omega) (by omega) m2 g2 key val f hf hv j hj
        · obtain ⟨h1, h2, T, A, cc, h3, h4, h5, h6, h7⟩ := hy
          exact (yupd_bad p.v s.gone key val f cpu h6 (.inr (.inr (.inr (.inr (.inr ⟨k6, by rw [ec]; exact hc⟩)))))).mono fun e w' h => ⟨h.1, below_same h.2⟩
      · have k6 : p.k = 6 := by rcases ways with h | h <;> exact h.1
        have ec : p.c = p.n := by rcases ways with h | h <;> exact h.2.1
        have hcu : -1 ≤ cpu ∧ cpu < p.n := by
          rcases ways with ⟨_, _, h⟩ | ⟨_, _, i, hi, h⟩ <;> omega
        have hky : p.k = 2 ∨ (p.k = 6 ∧ -1 ≤ cpu ∧ cpu < p.c) := .inr ⟨k6, hcu.1, by rw [ec]; exact hcu.2⟩
        have w2 : cpu = -1 ∨ ∃ i : Nat, i < p.n ∧ cpu = i := by
          rcases ways with h | h
          · exact .inl h.2.2
          · exact .inr h.2.2
        clear ways
        by_cases hfull : p.mx ≤ j
        · refine ⟨s, 3, hz, FCall.quiet fun w P hx => ?_, GCall.quiet fun w Q hy => ?_⟩
          · obtain ⟨h1, h2, S, h3, h4, h5, ⟨g1, g2⟩ | ⟨g1, V, g2, g3⟩⟩ := hx
            · rw [hg] at g1; cases g1
            · rcases g3 with ⟨e, _⟩ | ⟨_, g, cc, rfl, e3, e4, e5, e6⟩
              · rw [k6] at e; exact absurd e (by decide)
              · rw [k6] at g2
                rcases w2 with rfl | ⟨i, hi, rfl⟩
                · exact xupd_full_a _ p.n cc n1 m2 g2 key val f hf hv j hj hfull
                · exact xupd_full_o g p.n cc i hi n8 (h1 g e3) (e6 i hi) m2 g2 key val f hf hv j hj hfull
          · obtain ⟨h1, h2, T, A, cc, h3, h4, h5, h6, h7⟩ := hy
            rw [hg] at h6
            exact (yupd_full p.v key val f cpu h6 hky hf hv (by omega) (by omega)).mono fun e w' h => ⟨h.1, below_same h.2⟩
        · by_cases hf1 : f = 1
          · subst hf1
            refine ⟨s, 5, hz, FCall.quiet fun w P hx => ?_, GCall.quiet fun w Q hy => ?_⟩
            · obtain ⟨h1, h2, S, h3, h4, h5, ⟨g1, g2⟩ | ⟨g1, V, g2, g3⟩⟩ := hx
              · rw [hg] at g1; cases g1
              · rcases g3 with ⟨e, _⟩ | ⟨_, g, cc, rfl, e3, e4, e5, e6⟩
                · rw [k6] at e; exact absurd e (by decide)
                · rw [k6] at g2
                  rcases w2 with rfl | ⟨i, hi, rfl⟩
                  · exact xupd_exists_a _ p.n cc n1 m2 g2 key val hv j hj (by omega)
                  · exact xupd_exists_o g p.n cc i hi n8 (h1 g e3) (e6 i hi) m2 g2 key val hv j hj (by omega)
            · obtain ⟨h1, h2, T, A, cc, h3, h4, h5, h6, h7⟩ := hy
              rw [hg] at h6
              exact (yupd_exists p.v key val cpu h6 hky hv (by omega) (by omega)).mono fun e w' h => ⟨h.1, below_same h.2⟩
          · have hl : val.data.toList.length = p.v := by rw [Array.length_toList]; exact hv
            have hfit : j * wide p.v + p.v ≤ p.mx * wide p.v := fit_in (by omega)
            refine ⟨{ s with z := zq s.z (j * wide p.v) val.data.toList (pU 6 cpu p.n) }, 0, zq_len hz (by omega), fun w P hx => ?_, fun w Q hy => ?_⟩
            · have hx' := hx
              obtain ⟨h1, h2, S, h3, h4, h5, g⟩ := hx
              have g' := g
              rcases g with ⟨g1, g2⟩ | ⟨g1, V, g2, g3⟩
              · rw [hg] at g1; cases g1
              · rcases g3 with ⟨e, _⟩ | ⟨_, g, cc, rfl, e3, e4, e5, e6⟩
                · rw [k6] at e; exact absurd e (by decide)
                · rw [k6] at g2
                  have h3' : KSide w S p.bm ⟨p.n, s.fl, rng 0 p.n s.z⟩ := by
                    have := h3
                    unfold FSt.ps at this
                    rwa [hg, if_neg (by decide)] at this
                  rw [bstr_of val]
                  have fin : ∀ (e : Ending) (w' : World), (e = .returned (.int .i64 0) ∧ ∃ S', KS w S p.bm ⟨p.n, s.fl, rng 0 p.n (zq s.z (j * wide p.v) val.data.toList (pU 6 cpu p.n))⟩ S' w') →
                      e = .returned (.int .i64 0) ∧ XF p { s with z := zq s.z (j * wide p.v) val.data.toList (pU 6 cpu p.n) } (more P w w') w' ∧ Keeps P w w' := by
                    rintro e w' ⟨rfl, S', hks⟩
                    refine ⟨rfl, hx'.ks (S' := S') (s' := { s with z := zq s.z (j * wide p.v) val.data.toList (pU 6 cpu p.n) }) h4 h5 ?_ rfl g'⟩
                    unfold FSt.ps
                    rwa [hg, if_neg (by decide)]
                  rcases w2 with rfl | ⟨i, hi, rfl⟩
                  · exact (xupd_ok_a g p.n cc n1 n8 (h1 g e3) e4 e6 p.v p.mx p.n s.fl p.x s.z h3' g2 h5 v2 v1 m2 key val.data.toList f (by omega) hl j hj (by omega) hz).mono fin
                  · exact (xupd_ok_o g p.n cc i hi n8 (h1 g e3) (e6 i hi) p.v p.mx p.n s.fl p.x s.z h3' g2 h5 v2 v1 m2 key val.data.toList f (by omega) hl j hj (by omega) hz).mono fin
            · have hy' := hy
              obtain ⟨h1, h2, T, A, cc, h3, h4, h5, h6, h7⟩ := hy
              have h6' := h6
              rw [hg, k6, ec] at h6
              have h3' : XSide w T p.bx ⟨p.n, s.fl, rng 0 p.n s.z⟩ := by
                have := h3
                unfold FSt.ps at this
                rwa [hg, if_neg (by decide)] at this
              rw [bstr_of val]
              refine (yupd_ok_cpu p.n cpu n8 hcu p.v p.mx p.n s.fl cc s.z A key val.data.toList f h3' h6 h5 (fun i hi => ?_) v2 m2 (by omega) hl j hj (by omega) hz).mono ?_
              · obtain ⟨g, e1, e2, e3, e4, e5⟩ := h7 i hi
                exact ⟨g, e1, h1 g e2, e3, e4, e5⟩
              · rintro e w' ⟨rfl, T', hks⟩
                refine ⟨rfl, hy'.xs (T' := T') (s' := { s with z := zq s.z (j * wide p.v) val.data.toList (pU 6 cpu p.n) }) h4 h5 ?_ rfl h6' h7⟩
                unfold FSt.ps
                rwa [hg, if_neg (by decide)]
  · refine ⟨s, 1, hz, FCall.quiet fun w P hx => ?_, GCall.quiet fun w Q hy => ?_⟩
    · obtain ⟨h1, h2, S, h3, h4, h5, ⟨g1, g2⟩ | ⟨g1, V, g2, g3⟩⟩ := hx
      · exact (xupd_gone key val f cpu g2).mono fun e w' h => ⟨h.1, below_same h.2⟩
      · rw [hg] at g1; cases g1
    · obtain ⟨h1, h2, T, A, cc, h3, h4, h5, h6, h7⟩ := hy
      exact (yupd_bad p.v s.gone key val f cpu h6 (.inl hg)).mono fun e w' h => ⟨h.1, below_same h.2⟩
theorem yfree_gone {w : World} {bx y : Nat} {k v mx c : Int} {V : Value} (hy : Blk w y 79 (refC bx k v mx c V true)) :
    Calls Try.prog 33 #[.pointer (some ⟨y, 0, none⟩)] w fun e w' => e = .returned (.int .i64 1) ∧ w = w' := by
  have c7 : w.cell? ⟨y, 7, none⟩ = some (.bool true) := hy.cell 7
  clear hy
  go_enter Try.func33, Try.ntmps33
  go_wp2_with fail
  go_ret
  exact ⟨rfl, rfl⟩
include hp in
theorem free_pair : ∃ (s' : FSt) (a : Int), s'.z = s.z ∧ FCall p 24 #[xp p] s s' (.returned (.int .i64 a)) ∧ GCall p 33 #[yp p] s s' (.returned (.int .i64 a)) := by
  obtain ⟨hk, n1, n8, v1, v2, m1, m2⟩ := hp
  rcases hg : s.gone with _ | _
  · refine ⟨{ s with gone := true }, 0, rfl, fun w P hx => ?_, fun w Q hy => ?_⟩
    · obtain ⟨h1, h2, S, h3, h4, h5, g⟩ := hx
      have h3' : KSide w S p.bm ⟨p.n, s.fl, rng 0 p.n s.z⟩ := by
        have := h3
        unfold FSt.ps at this
        rwa [hg, if_neg (by decide)] at this
      have fin : ∀ (e : Ending) (w' : World), (e = .returned (.int .i64 0) ∧ ∃ S', XFree w S p.bm p.x ⟨p.n, s.fl, rng p.n p.n s.z⟩ S' w') →
          e = .returned (.int .i64 0) ∧ XF p { s with gone := true } (more P w w') w' ∧ Keeps P w w' := by
        rintro e w' ⟨rfl, S', hf⟩
        have hsd := hf.side
        rw [rng_nil] at hsd
        refine ⟨rfl, ⟨more_lt2 h1 hf.keeps.size, .inl h2, S', ?_, fun b hb => ?_, fun hs => ?_, .inl ⟨rfl, hf.map⟩⟩, hf.keeps.mono ?_⟩
        · unfold FSt.ps
          rw [if_pos rfl]
          exact hsd
        · rcases hf.sub b hb with hs | hs
          · exact .inl (h4 b hs)
          · exact .inr ⟨hs, hsd.lt' b hb⟩
        · rcases hf.sub _ hs with hs | hs
          · exact h5 hs
          · have := h1 _ h2; omega
        · rintro b (hb | rfl)
          · exact h4 b hb
          · exact h2
      rcases g with ⟨g1, g2⟩ | ⟨g1, V, g2, g3⟩
      · rw [hg] at g1; cases g1
      · rcases g3 with ⟨k2, en, rfl⟩ | ⟨k6, g, cc, rfl, e3, e4, e5, e6⟩
        · rw [k2] at g2
          have h3'' : KSide w S p.bm ⟨p.n, s.fl, rng 0 1 s.z⟩ := by rwa [en] at h3' ⊢
          refine (xfree_ok_s p.v p.mx p.x s.z p.n s.fl h3'' g2 h5).mono fun e w' h => fin e w' ?_
          rwa [en] at h ⊢
        · rw [k6] at g2
          exact (xfree_ok_e g p.n cc n8 (h1 g e3) e4 e6 p.v p.mx p.x s.z p.n s.fl h3' g2 h5).mono fin
    · obtain ⟨h1, h2, T, A, cc, h3, h4, h5, h6, h7⟩ := hy
      rw [hg] at h6
      have h3' : XSide w T p.bx ⟨p.n, s.fl, rng 0 p.n s.z⟩ := by
        have := h3
        unfold FSt.ps at this
        rwa [hg, if_neg (by decide)] at this
      refine (yfree p.k p.v p.mx p.c p.n s.fl p.n cc s.z n8 A h3' h6 h5 (fun i hi => ?_)).mono ?_
      · obtain ⟨g, e1, e2, e3, e4, e5⟩ := h7 i hi
        exact ⟨g, e1, h1 g e2, e3, e4, e5⟩
      · rintro e w' ⟨rfl, T', hf⟩
        have hsd := hf.side
        rw [rng_nil] at hsd
        have hT' : ∀ b, b < w.heap.size → ¬ T b → ¬ T' b := fun b hb hs hs' => by
          rcases hf.sub b hs' with h | h
          · exact hs h
          · omega
        refine ⟨rfl, ⟨more_lt2 h1 hf.keeps.size, .inl h2, T', A, cc, ?_, fun b hb => ?_, hT' _ (h1 _ h2) h5, hf.map, fun i hi => ?_⟩, hf.keeps.mono ?_⟩
        · unfold FSt.ps
          rw [if_pos rfl]
          exact hsd
        · rcases hf.sub b hb with hs | hs
          · exact .inl (h4 b hs)
          · exact .inr ⟨hs, hsd.lt' b hb⟩
        · obtain ⟨g, e1, e2, e3, e4, e5⟩ := h7 i hi
          refine ⟨g, e1, .inl e2, hT' g (h1 g e2) e3, e4, (World.cell?_of_block (hf.keeps.block g (h1 g e2) ?_)).trans e5⟩
          rintro (h | h)
          · exact e3 h
          · exact e4 h
        · rintro b (hb | rfl)
          · exact h4 b hb
          · exact h2
  · refine ⟨s, 1, rfl, FCall.quiet fun w P hx => ?_, GCall.quiet fun w Q hy => ?_⟩
    · obtain ⟨h1, h2, S, h3, h4, h5, ⟨g1, g2⟩ | ⟨g1, V, g2, g3⟩⟩ := hx
      · exact (xfree_gone g2).mono fun e w' h => ⟨h.1, below_same h.2⟩
      · rw [hg] at g1; cases g1
    · obtain ⟨h1, h2, T, A, cc, h3, h4, h5, h6, h7⟩ := hy
      rw [hg] at h6
      exact (yfree_gone h6).mono fun e w' h => ⟨h.1, below_same h.2⟩
include hp in
/-- A write of four bytes at what Lookup told. -/
theorem poke_pair (a : Int) (ha : a = 0 ∨ (s.gone = false ∧ ∃ c q : Nat, (0 < c ∧ c ≤ p.n) ∧ q ≤ 4294967295 ∧ a = addr c q)) (u : Int) (hu0 : 0 ≤ u) (hu : u ≤ 18446744073709551615) :
    ∃ (s' : FSt) (r : Int), (∀ i, (s'.z i).length = (s.z i).length) ∧ FCall p 37 #[.pointer (some ⟨p.bm, 0, none⟩), .int .u64 a, .int .i64 4, .int .u64 u] s s' (.returned (.int .i64 r)) ∧
      GCall p 38 #[.pointer (some ⟨p.bx, 0, none⟩), .int .u64 a, .int .i64 4, .int .u64 u] s s' (.returned (.int .i64 r)) := by
  obtain ⟨hk, n1, n8, v1, v2, m1, m2⟩ := hp
  rcases hg : s.gone with _ | _
  · obtain ⟨z', r, hl, ck, cx⟩ := pair_write4 p.bm p.bx p.n s.fl p.n s.z n8 (Nat.le_refl _) a (ha.imp id fun h => h.2) u hu0 hu
    have e1 : s.ps p.n = ⟨p.n, s.fl, rng 0 p.n s.z⟩ := by unfold FSt.ps; rw [hg, if_neg (by decide)]
    have e2 : FSt.ps { s with z := z' } p.n = ⟨p.n, s.fl, rng 0 p.n z'⟩ := by unfold FSt.ps; rw [hg, if_neg (by decide)]
    refine ⟨{ s with z := z' }, r, hl, FCall.of_k rfl ?_, GCall.of_x rfl ?_⟩
    · rw [e1, e2]; exact ck
    · rw [e1, e2]; exact cx
  · have ha0 : a = 0 := by
      rcases ha with h | ⟨h, _⟩
      · exact h
      · rw [hg] at h; cases h
    obtain ⟨z', r, hl, ck, cx⟩ := pair_write4 p.bm p.bx p.n s.fl 0 s.z (by decide) (Nat.zero_le _) a (.inl ha0) u hu0 hu
    rw [rng_nil, rng_nil] at ck cx
    have e1 : s.ps p.n = ⟨p.n, s.fl, fun _ => none⟩ := by unfold FSt.ps; rw [hg, if_pos rfl]
    refine ⟨s, r, fun _ => rfl, FCall.of_k rfl ?_, GCall.of_x rfl ?_⟩
    · rw [e1]; exact ck
    · rw [e1]; exact cx
end
end Go.Proofs.Ythilkgfbaddjpaa
namespace Go.Proofs.Ythilkgfbaddjpaa
open Go Go.RowKit Go.Maps
set_option linter.unusedVariables false
set_option linter.unusedSimpArgs false
/-- Both maps lie apart, in blocks from B on; the one is sx, the other sy. -/
def ApartF (B : Nat) (w0 : World) (p : Par) (sx sy : FSt) (w : World) (P Q : Nat → Prop) : Prop :=
  XF p sx P w ∧ YF p sy Q w ∧ (∀ b, P b → ¬ Q b) ∧ (∀ b, P b → B ≤ b) ∧ (∀ b, Q b → B ≤ b) ∧ Below B w0 w ∧ B ≤ w.heap.size
def BothF (B : Nat) (w0 : World) (p : Par) (sx sy : FSt) (w : World) : Prop := ∃ P Q, ApartF B w0 p sx sy w P Q
/-- .. and block db, none of theirs, holds cs. -/
def BothFD (B : Nat) (w0 : World) (p : Par) (sx sy : FSt) (db : Nat) (cs : Array Value) (w : World) : Prop :=
  ∃ P Q, ApartF B w0 p sx sy w P Q ∧ Blk w db 45 cs ∧ ¬ P db ∧ ¬ Q db
section
variable {B : Nat} {w0 w w' : World} {p : Par} {s s' sx sy : FSt} {db : Nat} {cs : Array Value} {P Q U : Nat → Prop} {f : FuncId} {args : Array Value} {e0 : Ending}
theorem ApartF.quiet (h : ApartF B w0 p sx sy w P Q) (k : Keeps (fun _ => False) w w') : ApartF B w0 p sx sy w' P Q := by
  obtain ⟨h1, h2, h3, h4, h5, h6, h7⟩ := h
  exact ⟨h1.keeps k (fun _ _ h => h), h2.keeps k (fun _ _ h => h), h3, h4, h5, h6.trans (k.below (fun _ h => h.elim) h7), Nat.le_trans h7 k.size⟩
theorem ApartF.fcall (h : ApartF B w0 p s sy w P Q) (c : FCall p f args s s' e0) :
    Calls Try.prog f args w fun e w' => e = e0 ∧ ApartF B w0 p s' sy w' (more P w w') Q ∧ Keeps P w w' := by
  obtain ⟨h1, h2, h3, h4, h5, h6, h7⟩ := h
  refine (c w P h1).mono ?_
  rintro e w' ⟨rfl, hk, kk⟩
  refine ⟨rfl, ⟨hk, h2.keeps kk (fun b hb hs => h3 b hs hb), ?_, ?_, h5, h6.trans (kk.below h4 h7), Nat.le_trans h7 kk.size⟩, kk⟩
  · rintro b (hs | ⟨hs, _⟩) ht
    · exact h3 b hs ht
    · have := h2.1 b ht; omega
  · rintro b (hs | ⟨hs, _⟩)
    · exact h4 b hs
    · omega
theorem ApartF.gcall (h : ApartF B w0 p sx s w P Q) (c : GCall p f args s s' e0) :
    Calls Try.prog f args w fun e w' => e = e0 ∧ ApartF B w0 p sx s' w' P (more Q w w') ∧ Keeps Q w w' := by
  obtain ⟨h1, h2, h3, h4, h5, h6, h7⟩ := h
  refine (c w Q h2).mono ?_
  rintro e w' ⟨rfl, hk, kk⟩
  refine ⟨rfl, ⟨h1.keeps kk h3, hk, ?_, h4, ?_, h6.trans (kk.below h5 h7), Nat.le_trans h7 kk.size⟩, kk⟩
  · rintro b hs (ht | ⟨ht, _⟩)
    · exact h3 b hs ht
    · have := h1.1 b hs; omega
  · rintro b (hs | ⟨hs, _⟩)
    · exact h5 b hs
    · omega
theorem BothFD.c (h : BothFD B w0 p sx sy db cs w) (i : Nat) : w.cell? ⟨db, i, none⟩ = cs[i]? := by
  obtain ⟨P, Q, _, hb, _⟩ := h
  exact hb.cell i
theorem BothFD.y0 (h : BothFD B w0 p sx sy db cs w) : w.cell? ⟨p.y, 0, none⟩ = some (.pointer (some ⟨p.bx, 0, none⟩)) := by
  obtain ⟨P, Q, ⟨_, ⟨_, _, T, A, cc, _, _, _, h6, _⟩, _⟩, _⟩ := h
  exact h6.cell 0
theorem BothFD.out (h : BothFD B w0 p sx sy db cs w) : BothF B w0 p sx sy w := by
  obtain ⟨P, Q, h1, _⟩ := h
  exact ⟨P, Q, h1⟩
theorem BothF.enter (h : BothF B w0 p sx sy w) (cs : Array Value) : BothFD B w0 p sx sy w.heap.size cs (w.alloc (.cells cs 45)) := by
  obtain ⟨P, Q, h1⟩ := h
  exact ⟨P, Q, h1.quiet ((Keeps.refl _ w).alloc _), Blk.new w _ _, fun hs => by have := h1.1.1 _ hs; omega, fun hs => by have := h1.2.1.1 _ hs; omega⟩
theorem BothFD.drew (h : BothFD B w0 p sx sy db cs w) : BothFD B w0 p sx sy db cs w.drew := by
  obtain ⟨P, Q, h1, h2, h3, h4⟩ := h
  exact ⟨P, Q, h1.quiet (Keeps.refl _ w).drew, h2, h3, h4⟩
theorem BothFD.fcall (h : BothFD B w0 p s sy db cs w) (c : FCall p f args s s' e0) : Calls Try.prog f args w fun e w' => e = e0 ∧ BothFD B w0 p s' sy db cs w' := by
  obtain ⟨P, Q, h1, h2, h3, h4⟩ := h
  refine (h1.fcall c).mono ?_
  rintro e w' ⟨rfl, h5, kk⟩
  refine ⟨rfl, _, _, h5, h2.keeps kk h3, ?_, h4⟩
  rintro (hs | ⟨hs, _⟩)
  · exact h3 hs
  · have := h2.lt; omega
theorem BothFD.gcall (h : BothFD B w0 p sx s db cs w) (c : GCall p f args s s' e0) : Calls Try.prog f args w fun e w' => e = e0 ∧ BothFD B w0 p sx s' db cs w' := by
  obtain ⟨P, Q, h1, h2, h3, h4⟩ := h
  refine (h1.gcall c).mono ?_
  rintro e w' ⟨rfl, h5, kk⟩
  refine ⟨rfl, _, _, h5, h2.keeps kk h4, h3, ?_⟩
  rintro (hs | ⟨hs, _⟩)
  · exact h4 hs
  · have := h2.lt; omega
end
def FDoPost (B : Nat) (w0 : World) (p : Par) (e : Ending) (w' : World) : Prop := e = .returned (.bool true) ∧ ∃ s' : FSt, (∀ i, (s'.z i).length = p.mx * wide p.v) ∧ BothF B w0 p s' s' w'
section
variable {B : Nat} {w0 w : World} {p : Par} {s : FSt}
set_option maxRecDepth 100000 in
set_option maxHeartbeats 2000000 in
theorem fdo_look (hp : p.Ok) (h : BothF B w0 p s s w) (hz : ∀ i, (s.z i).length = p.mx * wide p.v) (key val : ByteArray) (fl cpu u : Int)  :
    Calls Try.prog 14 #[xp p, yp p, .pointer (some ⟨p.bm, 0, none⟩), .agg #[.int .i64 0, .string key, .string val, .int .i64 fl, .int .i64 cpu, .int .u64 u]] w (FDoPost B w0 p) := by
  obtain ⟨a, ck, cx, _⟩ := look_pair p hp s key cpu
  have h1 := h.enter #[.int .i64 0, .string key, .string val, .int .i64 fl, .int .i64 cpu, .int .u64 u]
  clear h hp
  have HZ := Lib.hid hz
  clear hz
  have h1d := h1.drew
  have H1 := Lib.hid h1d
  clear h1 h1d
  have CF := Lib.hid ck
  have CG := Lib.hid cx
  clear ck cx
  go_enter Try.func14, Try.ntmps14
  go_wp2_with fail
  go_region_held3 (fun W => W.cell? ⟨w.heap.size, 1, none⟩ = some (.string key) ∧ W.cell? ⟨w.heap.size, 4, none⟩ = some (.int .i64 cpu))
    (first | exact ⟨H1.out.c 1, H1.out.c 4⟩ | exact ⟨H3.out.c 1, H3.out.c 4⟩ | exact ⟨H2.out.c 1, H2.out.c 4⟩)
    (first | (go_at_call 21; refine (H1.out.fcall CF.out).mono ?_; rintro e w1 ⟨rfl, h2⟩; have H2 := Lib.hid h2; clear h2) | (go_at_call 34; refine (H2.out.gcall CG.out).mono ?_; rintro e w2 ⟨rfl, h3⟩; have H3 := Lib.hid h3; clear h3))
  go_wp2_with fail
  go_ret
  exact ⟨rfl, s, HZ.out, H3.out.out⟩
set_option maxRecDepth 100000 in
set_option maxHeartbeats 2000000 in
theorem fdo_upd (hp : p.Ok) (h : BothF B w0 p s s w) (hz : ∀ i, (s.z i).length = p.mx * wide p.v) (key val : ByteArray) (fl cpu u : Int)  :
    Calls Try.prog 14 #[xp p, yp p, .pointer (some ⟨p.bm, 0, none⟩), .agg #[.int .i64 1, .string key, .string val, .int .i64 fl, .int .i64 cpu, .int .u64 u]] w (FDoPost B w0 p) := by
  obtain ⟨s', a, hz', ck, cx⟩ := upd_pair p hp s hz key val fl cpu
  have h1 := h.enter #[.int .i64 1, .string key, .string val, .int .i64 fl, .int .i64 cpu, .int .u64 u]
  clear h hp
  have HZ := Lib.hid hz'
  clear hz hz'
  have h1d := h1.drew
  have H1 := Lib.hid h1d
  clear h1 h1d
  have CF := Lib.hid ck
  have CG := Lib.hid cx
  clear ck cx
  go_enter Try.func14, Try.ntmps14
  go_wp2_with fail
  go_region_held3 (fun W => W.cell? ⟨w.heap.size, 1, none⟩ = some (.string key) ∧ W.cell? ⟨w.heap.size, 2, none⟩ = some (.string val) ∧ W.cell? ⟨w.heap.size, 3, none⟩ = some (.int .i64 fl) ∧ W.cell? ⟨w.heap.size, 4, none⟩ = some (.int .i64 cpu))
    (first | exact ⟨H1.out.c 1, H1.out.c 2, H1.out.c 3, H1.out.c 4⟩ | exact ⟨H3.out.c 1, H3.out.c 2, H3.out.c 3, H3.out.c 4⟩ | exact ⟨H2.out.c 1, H2.out.c 2, H2.out.c 3, H2.out.c 4⟩)
    (first | (go_at_call 19; refine (H1.out.fcall CF.out).mono ?_; rintro e w1 ⟨rfl, h2⟩; have H2 := Lib.hid h2; clear h2) | (go_at_call 35; refine (H2.out.gcall CG.out).mono ?_; rintro e w2 ⟨rfl, h3⟩; have H3 := Lib.hid h3; clear h3))
  go_wp2_with fail
  go_ret
  exact ⟨rfl, s', HZ.out, H3.out.out⟩
set_option maxRecDepth 100000 in
set_option maxHeartbeats 2000000 in
theorem fdo_del (hp : p.Ok) (h : BothF B w0 p s s w) (hz : ∀ i, (s.z i).length = p.mx * wide p.v) (key val : ByteArray) (fl cpu u : Int)  :
    Calls Try.prog 14 #[xp p, yp p, .pointer (some ⟨p.bm, 0, none⟩), .agg #[.int .i64 2, .string key, .string val, .int .i64 fl, .int .i64 cpu, .int .u64 u]] w (FDoPost B w0 p) := by
  have ck : FCall p 23 #[xp p, .string key] s s (.returned (.int .i64 1)) := FCall.quiet fun w P hx => (delete_any _ key w).mono fun e w' h => ⟨h.1, below_same h.2⟩
  have h1 := h.enter #[.int .i64 2, .string key, .string val, .int .i64 fl, .int .i64 cpu, .int .u64 u]
  clear h hp
  have HZ := Lib.hid hz
  clear hz
  have d1 := h1.c 1
  have H1 := Lib.hid h1
  clear h1
  have CF := Lib.hid ck
  clear ck
  go_enter Try.func14, Try.ntmps14
  go_wp2_with (go_at_call 23; refine (H1.out.fcall CF.out).mono ?_; rintro e w1 ⟨rfl, h2⟩; have H2 := Lib.hid h2; clear h2)
  go_ret
  exact ⟨rfl, s, HZ.out, H2.out.out⟩
set_option maxRecDepth 100000 in
set_option maxHeartbeats 2000000 in
theorem fdo_next (hp : p.Ok) (h : BothF B w0 p s s w) (hz : ∀ i, (s.z i).length = p.mx * wide p.v) (key val : ByteArray) (fl cpu u : Int)  :
    Calls Try.prog 14 #[xp p, yp p, .pointer (some ⟨p.bm, 0, none⟩), .agg #[.int .i64 3, .string key, .string val, .int .i64 fl, .int .i64 cpu, .int .u64 u]] w (FDoPost B w0 p) := by
  obtain ⟨t, a, ck, cx⟩ := next_pair p hp s key
  have h1 := h.enter #[.int .i64 3, .string key, .string val, .int .i64 fl, .int .i64 cpu, .int .u64 u]
  clear h hp
  have HZ := Lib.hid hz
  clear hz
  have d1 := h1.c 1
  have H1 := Lib.hid h1
  clear h1
  have CF := Lib.hid ck
  have CG := Lib.hid cx
  clear ck cx
  go_enter Try.func14, Try.ntmps14
  go_wp2_with (first | (go_at_call 22; refine (H1.out.fcall CF.out).mono ?_; rintro e w1 ⟨rfl, h2⟩; have d2 : w1.cell? ⟨w.heap.size, 1, none⟩ = some (.string key) := h2.c 1; have H2 := Lib.hid h2; clear h2) | (go_at_call 36; refine (H2.out.gcall CG.out).mono ?_; rintro e w2 ⟨rfl, h3⟩; have H3 := Lib.hid h3; clear h3))
  go_ret
  exact ⟨rfl, s, HZ.out, H3.out.out⟩
set_option maxRecDepth 100000 in
set_option maxHeartbeats 2000000 in
theorem fdo_poke (hp : p.Ok) (h : BothF B w0 p s s w) (hz : ∀ i, (s.z i).length = p.mx * wide p.v) (key val : ByteArray) (fl cpu u : Int) (hu : 0 ≤ u ∧ u ≤ 18446744073709551615) :
    Calls Try.prog 14 #[xp p, yp p, .pointer (some ⟨p.bm, 0, none⟩), .agg #[.int .i64 4, .string key, .string val, .int .i64 fl, .int .i64 cpu, .int .u64 u]] w (FDoPost B w0 p) := by
  obtain ⟨a, ck, cx, ha⟩ := look_pair p hp s key cpu
  obtain ⟨s', r, hl, ckw, cxw⟩ := poke_pair p hp s a ha u hu.1 hu.2
  have HZ : Hid (∀ i, (s'.z i).length = p.mx * wide p.v) := fun i => (hl i).trans (hz i)
  clear hz hl ha hu
  have h1 := h.enter #[.int .i64 4, .string key, .string val, .int .i64 fl, .int .i64 cpu, .int .u64 u]
  clear h hp
  have h1d := h1.drew
  have H1 := Lib.hid h1d
  clear h1 h1d
  have CF := Lib.hid ck
  have CG := Lib.hid cx
  clear ck cx
  have CFW := Lib.hid ckw
  have CGW := Lib.hid cxw
  clear ckw cxw
  go_enter Try.func14, Try.ntmps14
  go_wp2_with fail
  go_region_held3 (fun W => W.cell? ⟨w.heap.size, 1, none⟩ = some (.string key) ∧ W.cell? ⟨w.heap.size, 4, none⟩ = some (.int .i64 cpu))
    (first | exact ⟨H1.out.c 1, H1.out.c 4⟩ | exact ⟨H3.out.c 1, H3.out.c 4⟩ | exact ⟨H2.out.c 1, H2.out.c 4⟩)
    (first | (go_at_call 21; refine (H1.out.fcall CF.out).mono ?_; rintro e w1 ⟨rfl, h2⟩; have H2 := Lib.hid h2; clear h2) | (go_at_call 34; refine (H2.out.gcall CG.out).mono ?_; rintro e w2 ⟨rfl, h3⟩; have H3 := Lib.hid h3; clear h3))
  have H4 := Lib.hid H3.out.drew
  clear CF CG
  go_wp2_with fail
  go_region_held3 (fun W => W.cell? ⟨w.heap.size, 5, none⟩ = some (.int .u64 u) ∧ W.cell? ⟨p.y, 0, none⟩ = some (.pointer (some ⟨p.bx, 0, none⟩)))
    (first | exact ⟨H4.out.c 5, H4.out.y0⟩ | exact ⟨H6.out.c 5, H6.out.y0⟩ | exact ⟨H5.out.c 5, H5.out.y0⟩ | exact ⟨H3.out.c 5, H3.out.y0⟩)
    (first | (go_at_call 37; refine (H4.out.fcall CFW.out).mono ?_; rintro e w5 ⟨rfl, h2⟩; have H5 := Lib.hid h2; clear h2) | (go_at_call 38; refine (H5.out.gcall CGW.out).mono ?_; rintro e w6 ⟨rfl, h3⟩; have H6 := Lib.hid h3; clear h3))
  go_wp2_with fail
  go_ret
  exact ⟨rfl, s', HZ.out, H6.out.out⟩
set_option maxRecDepth 100000 in
set_option maxHeartbeats 2000000 in
theorem fdo_free (hp : p.Ok) (h : BothF B w0 p s s w) (hz : ∀ i, (s.z i).length = p.mx * wide p.v) (key val : ByteArray) (fl cpu u : Int)  :
    Calls Try.prog 14 #[xp p, yp p, .pointer (some ⟨p.bm, 0, none⟩), .agg #[.int .i64 5, .string key, .string val, .int .i64 fl, .int .i64 cpu, .int .u64 u]] w (FDoPost B w0 p) := by
  obtain ⟨s', a, hz2, ck, cx⟩ := free_pair p hp s
  have HZ : Hid (∀ i, (s'.z i).length = p.mx * wide p.v) := fun i => by rw [hz2]; exact hz i
  clear hz hz2
  have h1 := h.enter #[.int .i64 5, .string key, .string val, .int .i64 fl, .int .i64 cpu, .int .u64 u]
  clear h hp
  have H1 := Lib.hid h1
  clear h1
  have CF := Lib.hid ck
  have CG := Lib.hid cx
  clear ck cx
  go_enter Try.func14, Try.ntmps14
  go_wp2_with (first | (go_at_call 24; refine (H1.out.fcall CF.out).mono ?_; rintro e w1 ⟨rfl, h2⟩; have H2 := Lib.hid h2; clear h2) | (go_at_call 33; refine (H2.out.gcall CG.out).mono ?_; rintro e w2 ⟨rfl, h3⟩; have H3 := Lib.hid h3; clear h3))
  go_ret
  exact ⟨rfl, s', HZ.out, H3.out.out⟩
set_option maxRecDepth 100000 in
set_option maxHeartbeats 2000000 in
theorem fdo_other (hp : p.Ok) (h : BothF B w0 p s s w) (hz : ∀ i, (s.z i).length = p.mx * wide p.v) (key val : ByteArray) (fl cpu u : Int) (kd : Int) (k0 : (kd == 0) = false) (k1 : (kd == 1) = false) (k2 : (kd == 2) = false) (k3 : (kd == 3) = false) (k4 : (kd == 4) = false) (k5 : (kd == 5) = false) :
    Calls Try.prog 14 #[xp p, yp p, .pointer (some ⟨p.bm, 0, none⟩), .agg #[.int .i64 kd, .string key, .string val, .int .i64 fl, .int .i64 cpu, .int .u64 u]] w (FDoPost B w0 p) := by
  have h1 := h.enter #[.int .i64 kd, .string key, .string val, .int .i64 fl, .int .i64 cpu, .int .u64 u]
  clear h hp
  have HZ := Lib.hid hz
  clear hz
  have H1 := Lib.hid h1
  clear h1
  go_enter Try.func14, Try.ntmps14
  go_wp2_with fail
  go_ret
  exact ⟨rfl, s, HZ.out, H1.out.out⟩
theorem fdo_any (hp : p.Ok) (h : BothF B w0 p s s w) (hz : ∀ i, (s.z i).length = p.mx * wide p.v) (kd : Int) (key val : ByteArray) (fl cpu u : Int) (hu : 0 ≤ u ∧ u ≤ 18446744073709551615) :
    Calls Try.prog 14 #[xp p, yp p, .pointer (some ⟨p.bm, 0, none⟩), .agg #[.int .i64 kd, .string key, .string val, .int .i64 fl, .int .i64 cpu, .int .u64 u]] w (FDoPost B w0 p) := by
  by_cases k0 : kd = 0
  · subst k0; exact fdo_look hp h hz key val fl cpu u
  by_cases k1 : kd = 1
  · subst k1; exact fdo_upd hp h hz key val fl cpu u
  by_cases k2 : kd = 2
  · subst k2; exact fdo_del hp h hz key val fl cpu u
  by_cases k3 : kd = 3
  · subst k3; exact fdo_next hp h hz key val fl cpu u
  by_cases k4 : kd = 4
  · subst k4; exact fdo_poke hp h hz key val fl cpu u hu
  by_cases k5 : kd = 5
  · subst k5; exact fdo_free hp h hz key val fl cpu u
  exact fdo_other hp h hz key val fl cpu u kd (by simpa using k0) (by simpa using k1) (by simpa using k2) (by simpa using k3) (by simpa using k4) (by simpa using k5)
end
end Go.Proofs.Ythilkgfbaddjpaa
