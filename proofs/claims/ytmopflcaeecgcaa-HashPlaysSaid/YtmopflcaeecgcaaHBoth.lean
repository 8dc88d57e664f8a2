/-
  Layer 10: both memories side by side, both tables; Regions of both, behind which both stand.
-/
import Derived.Test.YtmopflcaeecgcaaP16
import Derived.Test.YtmopflcaeecgcaaP8
namespace Go.Proofs.Ytmopflcaeecgcaa
open Go Go.RowKit Go.Maps
set_option linter.unusedVariables false
set_option linter.unusedSimpArgs false
set_option maxRecDepth 100000
/-- Both memories lie apart, in blocks from B on; the one holds mk, the other mx. -/
def ApartM (B : Nat) (w0 : World) (bm bx : Nat) (mk mx : PS) (w : World) (S T : Nat → Prop) : Prop :=
  KSide w S bm mk ∧ XSide w T bx mx ∧ (∀ b, S b → ¬ T b) ∧ (∀ b, S b → B ≤ b) ∧ (∀ b, T b → B ≤ b) ∧ Below B w0 w ∧ B ≤ w.heap.size
def BothM (B : Nat) (w0 : World) (bm bx : Nat) (mk mx : PS) (w : World) : Prop := ∃ S T, ApartM B w0 bm bx mk mx w S T
/-- Two rising lists of the same numbers are one. -/
theorem asc_eq : ∀ {a b : List Nat}, a.Pairwise (· < ·) → b.Pairwise (· < ·) → (∀ n, n ∈ a ↔ n ∈ b) → a = b
  | [], [], _, _, _ => rfl
  | [], y :: b, _, _, h => by simpa using (h y).2 (by simp)
  | x :: a, [], _, _, h => by simpa using (h x).1 (by simp)
  | x :: a, y :: b, ha, hb, h => by
    obtain ⟨ha1, ha2⟩ := List.pairwise_cons.1 ha
    obtain ⟨hb1, hb2⟩ := List.pairwise_cons.1 hb
    have hxy : x = y := by
      rcases List.mem_cons.1 ((h x).1 (by simp)) with e | e
      · exact e
      · rcases List.mem_cons.1 ((h y).2 (by simp)) with e' | e'
        · exact e'.symm
        · have := ha1 y e'; have := hb1 x e; omega
    subst hxy
    congr 1
    refine asc_eq ha2 hb2 fun n => ⟨fun hn => ?_, fun hn => ?_⟩
    · rcases List.mem_cons.1 ((h n).1 (List.mem_cons_of_mem _ hn)) with e | e
      · have := ha1 n hn; omega
      · exact e
    · rcases List.mem_cons.1 ((h n).2 (List.mem_cons_of_mem _ hn)) with e | e
      · have := hb1 n hn; omega
      · exact e
theorem lives_asc (vs : Nat → Option RV) (k : Nat) : (lives vs k).Pairwise (· < ·) := by
  unfold lives
  refine List.Pairwise.filter _ (List.pairwise_map.2 (List.pairwise_lt_range.imp (fun h => by omega)))
theorem lives_mem (vs : Nat → Option RV) (k : Nat) (hr : ∀ n q, vs n = some q → 1 ≤ n ∧ n ≤ k) (n : Nat) : n ∈ lives vs k ↔ (vs n).isSome = true := by
  unfold lives
  simp only [List.mem_filter, List.mem_map, List.mem_range]
  constructor
  · exact fun h => h.2
  · intro h
    rcases hs : vs n with _ | q
    · rw [hs] at h; cases h
    · have := hr n q hs
      exact ⟨⟨n - 1, by omega, by omega⟩, rfl⟩
/-- A list of regions as Same sees it. -/
theorem rowOf {w : World} {base n : Nat} {vs : Nat → Option RV} {v : Value} {ss : List Nat} (h : w.ownsRow base 82 3 v n (cellsR vs ss)) (hn : ss.length = n) :
    ∃ A c, v = .slice A n c ∧ RowOf w A n (fun k => (ss.getD k 0 : Nat)) (fun k => ((vs (ss.getD k 0)).getD (0, [], false)).1) (fun k => bstr ((vs (ss.getD k 0)).getD (0, [], false)).2.1) := by
  obtain ⟨A, c, rfl, hc⟩ := own_form_any h
  refine ⟨A, c, rfl, fun k hk => ?_⟩
  obtain ⟨g, rfl, hcell⟩ := hc (by omega)
  have hks : k < ss.length := by omega
  have e : ss.getD k 0 = ss[k] := by simp [List.getD, hks]
  refine ⟨g, rfl, ?_, ?_, ?_⟩
  · exact hcell _ _ ((cellsR_get vs ss k 0 hks (by omega)).trans (by simp only [e]; rfl))
  · exact hcell _ _ ((cellsR_get vs ss k 1 hks (by omega)).trans (by simp only [e]; rfl))
  · exact hcell _ _ ((cellsR_get vs ss k 2 hks (by omega)).trans (by simp only [e]; rfl))
theorem rm_start (w : World) : RM ((w.alloc (.cells #[.map none, .int .u32 0, .slice none 0 0, .int .i64 0] 69)).alloc (.cells #[.slice none 0 0, .int .i64 0, .int .i64 0] 30)) (fun b => b = w.heap.size + 1) (w.heap.size + 1) 0 0 (fun _ => none) (fun _ => 0) (fun _ => 0) (.slice none 0 0) where
  head := by have := Blk.new (w.alloc (.cells #[.map none, .int .u32 0, .slice none 0 0, .int .i64 0] 69)) 30 #[.slice none 0 0, .int .i64 0, .int .i64 0]; simpa [cnt] using this
  row := by simpa using World.ownsRow_nil _ _ _ _
  range := fun n q h => by cases h
  live := fun n q h => by cases h
  bytes := fun n q h => by cases h
  sized := fun n q h => by cases h
  dead := fun n h1 h2 => by omega
  injr := fun n m h1 h2 => by omega
  injg := fun n m q q' h => by cases h
  tbx := rfl
  trb := fun n h1 h2 => by omega
  tgb := fun n q h => by cases h
  tlv := fun g h => by cases h
  lt := fun b h => by simp; omega
  made_le := by omega
  fail_le := by omega
theorem bothM_start (w : World) : BothM w.heap.size w w.heap.size (w.heap.size + 1) ⟨0, 0, fun _ => none⟩ ⟨0, 0, fun _ => none⟩
    ((w.alloc (.cells #[.map none, .int .u32 0, .slice none 0 0, .int .i64 0] 69)).alloc (.cells #[.slice none 0 0, .int .i64 0, .int .i64 0] 30)) := by
  obtain ⟨hb, hB, S, mv, rv, hk, hS⟩ := KF.start w
  refine ⟨S, fun b => b = w.heap.size + 1, ⟨_, _, _, _, hk.keeps (T := fun _ => False) ((Keeps.refl _ _).alloc _) (fun _ _ h => h), fun _ => rfl⟩, ⟨fun _ => 0, fun _ => 0, .slice none 0 0, rm_start w⟩, ?_, hS, fun b h => by omega, hb.alloc hB _, by simp; omega⟩
  intro b h1 h2
  have h3 := hk.lt b h1
  simp at h3
  omega
section
variable {B : Nat} {w0 w w' : World} {bm bx : Nat} {m m' mk mx : PS} {S T S' T' : Nat → Prop} {f : FuncId} {args : Array Value} {e0 : Ending}
theorem ApartM.ks (h : ApartM B w0 bm bx m mx w S T) (hk : KS w S bm m' S' w') : ApartM B w0 bm bx m' mx w' S' T := by
  obtain ⟨h1, h2, h3, h4, h5, h6, h7⟩ := h
  refine ⟨hk.1, h2.keeps' hk.2.1 (fun b hb hs => h3 b hs hb), fun b hs ht => ?_, fun b hs => ?_, h5, h6.trans (hk.2.1.below h4 h7), Nat.le_trans h7 hk.2.1.size⟩
  · rcases hk.2.2 b hs with hs | hs
    · exact h3 b hs ht
    · have := h2.lt' b ht; omega
  · rcases hk.2.2 b hs with hs | hs
    · exact h4 b hs
    · omega
theorem ApartM.xs (h : ApartM B w0 bm bx mk m w S T) (hk : XS w T bx m' T' w') : ApartM B w0 bm bx mk m' w' S T' := by
  obtain ⟨h1, h2, h3, h4, h5, h6, h7⟩ := h
  refine ⟨h1.keeps' hk.2.1 h3, hk.1, fun b hs ht => ?_, h4, fun b hs => ?_, h6.trans (hk.2.1.below h5 h7), Nat.le_trans h7 hk.2.1.size⟩
  · rcases hk.2.2 b ht with ht | ht
    · exact h3 b hs ht
    · have := h1.lt' b hs; omega
  · rcases hk.2.2 b hs with hs | hs
    · exact h5 b hs
    · omega
theorem ApartM.grow (h : ApartM B w0 bm bx mk mx w S T) (hb : Below w.heap.size w w') : ApartM B w0 bm bx mk mx w' S T := by
  obtain ⟨h1, h2, h3, h4, h5, h6, h7⟩ := h
  exact ⟨h1.keeps' (keeps_grow hb) (fun _ _ h => h), h2.keeps' (keeps_grow hb) (fun _ _ h => h), h3, h4, h5, h6.trans (hb.mono h7), Nat.le_trans h7 hb.size⟩
end
section
variable {B : Nat} {w0 w w' : World} {bm bx : Nat} {m m' mk mx' : PS} {f : FuncId} {args : Array Value} {e0 : Ending}
theorem BothM.kcall (h : BothM B w0 bm bx m mx' w) (c : KCall f args bm m m' e0) : Calls Try.prog f args w fun e w' => e = e0 ∧ BothM B w0 bm bx m' mx' w' := by
  obtain ⟨S, T, h1⟩ := h
  refine ((KS.start h1.1).call c).mono ?_
  rintro e w' ⟨rfl, hk, _⟩
  exact ⟨rfl, _, _, h1.ks hk⟩
theorem BothM.xcall (h : BothM B w0 bm bx mk m w) (c : XCall f args bx m m' e0) : Calls Try.prog f args w fun e w' => e = e0 ∧ BothM B w0 bm bx mk m' w' := by
  obtain ⟨S, T, h1⟩ := h
  refine ((XS.start h1.2.1).call c).mono ?_
  rintro e w' ⟨rfl, hk, _⟩
  exact ⟨rfl, _, _, h1.xs hk⟩
theorem BothM.grow (h : BothM B w0 bm bx mk m w) (hb : Below w.heap.size w w') : BothM B w0 bm bx mk m w' := by
  obtain ⟨S, T, h1⟩ := h
  exact ⟨S, T, h1.grow hb⟩
theorem BothM.below (h : BothM B w0 bm bx mk m w) : Below B w0 w := by
  obtain ⟨S, T, h1⟩ := h
  exact h1.2.2.2.2.2.1
end
section
variable {bm bx : Nat}
/-- Which allocation fails. -/
theorem fail_pair (n : Int) : ∃ (f : Nat) (a : Int), KCall 11 #[.pointer (some ⟨bm, 0, none⟩), .int .i64 n] bm ⟨0, 0, fun _ => none⟩ ⟨0, f, fun _ => none⟩ (.returned (.int .i64 a)) ∧ XCall 12 #[.pointer (some ⟨bx, 0, none⟩), .int .i64 n] bx ⟨0, 0, fun _ => none⟩ ⟨0, f, fun _ => none⟩ (.returned (.int .i64 a)) := by
  by_cases h : n < 0 ∨ 1048576 < n
  · exact ⟨0, 1, KCall.same fun w _ _ _ _ _ _ _ => fail_arg _ n h w, XCall.same fun w _ _ _ _ _ => xfail_arg _ n h w⟩
  · obtain ⟨k, rfl⟩ := Int.eq_ofNat_of_zero_le (show 0 ≤ n by omega)
    refine ⟨k, 0, ?_, XCall.step fun w _ _ _ _ hr => xfail_ok hr k (by omega)⟩
    rintro w S ⟨st, rl, mv, rv, hk, hv⟩
    refine (fail_ok hk k (by omega)).mono ?_
    rintro e w' ⟨rfl, hk', kk⟩
    exact ⟨rfl, ⟨_, _, _, _, hk', hv⟩, kk⟩
end
section
variable {B : Nat} {w0 w w' : World} {p : HPar} {s s' sx sy : HSt} {bm bx : Nat} {m : PS}
theorem BothH.quiet (h : BothH PH B w0 p sx sy w) (k : Keeps (fun _ => False) w w') : BothH PH B w0 p sx sy w' := by
  obtain ⟨P, Q, h1⟩ := h
  exact ⟨P, Q, h1.quiet phProg k⟩
theorem BothH.drew (h : BothH PH B w0 p sx sy w) : BothH PH B w0 p sx sy w.drew := h.quiet (Keeps.refl _ w).drew
theorem BothH.drewN (h : BothH PH B w0 p sx sy w) (n : Nat) : BothH PH B w0 p sx sy (w.drewN n) := h.quiet ((Keeps.refl _ w).drewN' n)
theorem BothH.below (h : BothH PH B w0 p sx sy w) : Below B w0 w := by
  obtain ⟨P, Q, h1⟩ := h
  exact h1.2.2.2.2.2.1
theorem BothH.sz (h : BothH PH B w0 p sx sy w) : B ≤ w.heap.size := by
  obtain ⟨P, Q, h1⟩ := h
  exact h1.2.2.2.2.2.2
theorem BothH.fcall {f : FuncId} {args : Array Value} {e0 : Ending} (h : BothH PH B w0 p s sy w) (c : FCallH PH p f args s s' e0) : Calls Try.prog f args w fun e w' => e = e0 ∧ BothH PH B w0 p s' sy w' := by
  obtain ⟨P, Q, h1⟩ := h
  refine (h1.fcall phProg c).mono ?_
  rintro e w' ⟨rfl, h2, _⟩
  exact ⟨rfl, _, _, h2⟩
theorem BothH.gcall {f : FuncId} {args : Array Value} {e0 : Ending} (h : BothH PH B w0 p sx s w) (c : GCallH p f args s s' e0) : Calls Try.prog f args w fun e w' => e = e0 ∧ BothH PH B w0 p sx s' w' := by
  obtain ⟨P, Q, h1⟩ := h
  refine (h1.gcall phProg c).mono ?_
  rintro e w' ⟨rfl, h2, _⟩
  exact ⟨rfl, _, _, h2⟩
theorem BothH.len (h : BothH PH B w0 p s sy w) (ho : HOk p s) : Calls Try.prog 14 #[tp p.x] w fun e w' => e = .returned (.int .i64 s.es.length) ∧ w = w' := by
  obtain ⟨P, Q, h1, _⟩ := h
  rcases h1 with ⟨T, hO⟩ | ⟨T, mb, N, D, bl, hN, hG⟩
  · refine hO.len.mono ?_
    rintro e w' ⟨rfl, rfl⟩
    exact ⟨by rw [ho.gone hO.gone]; rfl, rfl⟩
  · exact hG.len
theorem BothH.list (h : BothH PH B w0 p sx s w) : ∃ A c, w.cell? ⟨p.y, 5, none⟩ = some (.slice A s.es.length c) := by
  obtain ⟨P, Q, _, ⟨T, V, h⟩, _⟩ := h
  obtain ⟨A, c, rfl⟩ := ents_shape h.ents
  exact ⟨A, c, h.map.cell 5⟩
/-- A call on the memory that turns nothing of what it holds, whatever it answers. -/
theorem PH.same_ {P : Nat → Prop} {f : FuncId} {args : Array Value} {Φ : Ending → World → Prop} (h : PH p s P w) (c : ∀ S, KSide w S p.bm s.m → Calls Try.prog f args w fun e w' => Φ e w' ∧ KSide w' (more S w w') p.bm s.m ∧ Keeps S w w') :
    Calls Try.prog f args w fun e w' => Φ e w' ∧ PH p s (more P w w') w' ∧ Keeps P w w' := by
  rcases h with ⟨T, h⟩ | ⟨T, mb, N, D, bl, hN, h⟩
  · refine (c T h.side).mono ?_
    rintro e w' ⟨hf, hk, kk⟩
    exact ⟨hf, (h.mem_ hk kk).done⟩
  · refine (c T h.side).mono ?_
    rintro e w' ⟨hf, hk, kk⟩
    exact ⟨hf, (h.mem_ hk kk).done hN⟩
/-- Behind kmem's Regions: both stand, and its list lies there. -/
def RegsH (B : Nat) (w0 : World) (p : HPar) (s : HSt) (v : Value) (w1 : World) : Prop :=
  BothH PH B w0 p s s w1 ∧ (lives s.m.vs s.m.made).length ≤ 4096 ∧ ∃ base, w1.ownsRow base 82 3 v (lives s.m.vs s.m.made).length (cellsR s.m.vs (lives s.m.vs s.m.made))
theorem kregsH (h : BothH PH B w0 p s s w) :
    Calls Try.prog 16 #[.pointer (some ⟨p.bm, 0, none⟩)] w fun e w1 => ∃ A c, e = .returned (.slice A (lives s.m.vs s.m.made).length c) ∧ RegsH B w0 p s (.slice A (lives s.m.vs s.m.made).length c) w1 := by
  obtain ⟨P, Q, h1, h2, h3, h4, h5, h6, h7⟩ := h
  refine (h1.same_ (Φ := fun e w1 => ∃ A c, e = .returned (.slice A (lives s.m.vs s.m.made).length c) ∧ (lives s.m.vs s.m.made).length ≤ 4096 ∧ ∃ base, w1.ownsRow base 82 3 (.slice A (lives s.m.vs s.m.made).length c) (lives s.m.vs s.m.made).length (cellsR s.m.vs (lives s.m.vs s.m.made))) ?_).mono ?_
  · rintro S ⟨st, rl, mv, rv, hk, hv⟩
    refine (regions_any2 hk s.m.vs hv).mono ?_
    rintro e w1 ⟨lv, ss, rfl, h8, h9, kk, ho, hl, hks⟩
    have hr : ∀ n q, s.m.vs n = some q → 1 ≤ n ∧ n ≤ s.m.made := fun n q hq => by
      obtain ⟨r, hs, _⟩ := st_some hv hq
      exact hk.range n r hs
    have e : ss = lives s.m.vs s.m.made := asc_eq h8 (lives_asc _ _) (fun n => (h9 n).trans (lives_mem _ _ hr n).symm)
    subst e
    obtain ⟨A, c, rfl, _⟩ := own_form_any ho
    exact ⟨⟨A, c, rfl, hl, _, ho⟩, hks, kk⟩
  · rintro e w1 ⟨⟨A, c, rfl, hl, base, ho⟩, hk, kk⟩
    refine ⟨A, c, rfl, ⟨more P w w1, Q, hk, h2.keeps kk (fun b hb hs => h3 b hs hb), ?_, ?_, h5, h6.trans (kk.below h4 h7), Nat.le_trans h7 kk.size⟩, hl, base, ho⟩
    · rintro b (hs | ⟨hs, _⟩) ht
      · exact h3 b hs ht
      · have := h2.lt b ht; omega
    · rintro b (hs | ⟨hs, _⟩)
      · exact h4 b hs
      · omega
theorem xregsH {w1 : World} {A : Option Addr} {n c : Nat} (h : RegsH B w0 p s (.slice A n c) w1) (hn : n = (lives s.m.vs s.m.made).length) :
    Calls Try.prog 17 #[.pointer (some ⟨p.bx, 0, none⟩)] w1 fun e w2 => ∃ A' c', e = .returned (.slice A' n c') ∧ BothH PH B w0 p s s w2 ∧ n ≤ 4096 ∧ ∃ N P Bs, RowOf w2 A n N P Bs ∧ RowOf w2 A' n N P Bs := by
  subst hn
  obtain ⟨h1, h4, base, h5⟩ := h
  have hb1 := h1
  obtain ⟨P, Q, _, ⟨T, V, hy⟩, _⟩ := hb1
  obtain ⟨rb, gb, lv, hr⟩ := hy.side
  refine (xregions_any hr).mono ?_
  rintro e w2 ⟨l, rfl, hb, ho⟩
  have O5 := ownsRow_block (w' := w2) h5 (fun g hg => hb.block g (h5.lt g hg).2)
  obtain ⟨A1, c1, e1, r1⟩ := rowOf O5 rfl
  obtain ⟨A2, c2, rfl, r2⟩ := rowOf ho rfl
  cases e1
  exact ⟨A2, c2, rfl, h1.quiet (keeps_grow hb), h4, _, _, _, r1, r2⟩
/-! ### both News -/
def MidH (B : Nat) (w0 : World) (bm bx : Nat) (k : Int) (key v mx : Nat) (m : PS) (x : Nat) (w1 : World) : Prop :=
  ∃ P T, (∀ y, PH ⟨bm, bx, x, y, k, key, v, mx⟩ ⟨m, [], 0, false⟩ P w1) ∧ XSide w1 T bx m ∧ (∀ b, P b → ¬ T b) ∧ (∀ b, P b → B ≤ b) ∧ (∀ b, T b → B ≤ b) ∧ Below B w0 w1 ∧ B ≤ w1.heap.size
theorem hnew_mid (k : Int) (key v mx : Nat) (hf : fitsH k key v mx = true) (h : BothM B w0 bm bx m m w) :
    Calls Try.prog 9 #[tp bm, specV k key v mx] w fun e w' => ∃ x, e = .returned (.tuple #[tp x, .int .i64 0]) ∧ MidH B w0 bm bx k key v mx m x w' := by
  obtain ⟨S, T, a1, a2, a3, a4, a5, a6, a7⟩ := h
  refine (new_ok bm k key v mx hf w).mono ?_
  rintro e w' ⟨x, mb, rfl, h1, h2, h3, h4, h5⟩
  refine ⟨x, rfl, more S w w', T, fun y => PH.made a1 h1 h2 h3 h4 h5, a2.keeps' (keeps_grow h5) (fun _ _ h => h), ?_, ?_, a5, a6.trans (h5.mono a7), Nat.le_trans a7 h5.size⟩
  · rintro b (hs | ⟨hs, _⟩) ht
    · exact a3 b hs ht
    · have := a2.lt' b ht; omega
  · rintro b (hs | ⟨hs, _⟩)
    · exact a4 b hs
    · omega
theorem hnew_both (k : Int) (key v mx : Nat) (hf : fitsH k key v mx = true) {x : Nat} (h : MidH B w0 bm bx k key v mx m x w) :
    Calls Try.prog 10 #[tp bx, specV k key v mx] w fun e w' => ∃ y, e = .returned (.tuple #[tp y, .int .i64 0]) ∧ BothH PH B w0 ⟨bm, bx, x, y, k, key, v, mx⟩ ⟨m, [], 0, false⟩ ⟨m, [], 0, false⟩ w' := by
  obtain ⟨P, T, a1, a2, a3, a4, a5, a6, a7⟩ := h
  refine (xnew_ok bx k key v mx hf w).mono ?_
  rintro e w' ⟨y, rfl, h1, h2, h3⟩
  have kk := keeps_grow h3
  have hT : ∀ b, T b → b < w.heap.size := a2.lt'
  refine ⟨y, rfl, P, more T w w', (a1 y).keeps kk (fun _ _ h => h), ⟨T, .slice none 0 0, ?_, .inr ⟨h2, h1.lt⟩, a2.keeps' kk (fun _ _ h => h), fun b hb => .inl hb, fun ht => ?_, h1, World.ownsRow_nil _ _ _ _, fun g hg => by cases hg⟩, ?_, a4, ?_, a6.trans (h3.mono a7), Nat.le_trans a7 h3.size⟩
  · rintro b (h | h)
    · exact Nat.lt_of_lt_of_le (hT b h) h3.size
    · exact h.2
  · have h4 := hT _ ht
    have h2' : w.heap.size ≤ y := h2
    have h5 : y < w.heap.size := h4
    omega
  · rintro b hp (ht | ⟨ht, _⟩)
    · exact a3 b hp ht
    · have := (a1 y).lt b hp; omega
  · rintro b (hs | ⟨hs, _⟩)
    · exact a5 b hs
    · omega
end
end Go.Proofs.Ytmopflcaeecgcaa
