/-
  Package ring: a ring as it lies, its memory, its bytes and its map of held records.
-/
import Derived.Test.YtdihlmhipkcedaaGText
namespace Go.Proofs.Ytdihlmhipkcedaa
open Go Go.RowKit Go.Maps
set_option linter.unusedVariables false
set_option linter.unusedSimpArgs false
set_option maxRecDepth 100000
structure RPar where
  bm : Nat
  x : Nat
  g : Nat
  mb : Nat
  mx : Nat
structure RSt where
  m : PS
  first : Nat
  rs : List Rec
abbrev mapT : TypeId := 57
abbrev heldT : TypeId := 55
abbrev u64T : TypeId := 37
abbrev liveC (p : RPar) (first used : Nat) : Array Value := #[.pointer (some ⟨p.bm, 0, none⟩), rowV p.g p.mx, .int .i64 first, .int .i64 used, .map (some p.mb)]
abbrev rp (x : Nat) : Value := .pointer (some ⟨x, 0, none⟩)
/-- Where the held records begin, by their regions' numbers. -/
def hp (mx : Nat) : Nat → List Rec → Nat → Option Nat
  | _, [], _ => none
  | a, r :: rs, n => if r.state = 0 ∧ r.n = n then some (a % mx) else hp mx (a + uses r.size) rs n
structure HeldOf (D : DataW Value) (h : Nat → Option Nat) : Prop where
  isMap : IsMap D
  at_ : ∀ n : Nat, D.atKey (.int .u64 (addr n 0)) (.held (.int .i64 0)) = .held (.int .i64 (((h n).getD 0 : Nat) : Int))
  has_ : ∀ n : Nat, Maps.has D (.int .u64 (addr n 0)) = (h n).isSome
/-- What always holds of a ring. -/
structure Ok (p : RPar) (s : RSt) : Prop where
  m64 : 64 ≤ p.mx
  mle : p.mx ≤ 65536
  dv : p.mx % 8 = 0
  first : s.first < p.mx
  f8 : s.first % 8 = 0
  sum : sumU s.rs ≤ p.mx
  recs : ∀ r, r ∈ s.rs → 1 ≤ r.size ∧ r.size ≤ p.mx / 2 ∧ r.state ≤ 2 ∧ 1 ≤ r.n ∧ r.n ≤ s.m.made
  nums : (s.rs.map (·.n)).Nodup
  held : ∀ r, r ∈ s.rs → r.state = 0 → ∃ b, s.m.vs r.n = some (3, b, false) ∧ b.length = r.size
  made : s.m.made ≤ 4095
structure RB (p : RPar) (s : RSt) (T : Nat → Prop) (bs : List UInt8) (N : Nat) (D : DataW Value) (w : World) : Prop where
  side : KSide w T p.bm s.m
  tx : ¬ T p.x
  tg : ¬ T p.g
  tm : ¬ T p.mb
  map : Blk w p.x mapT (liveC p s.first (sumU s.rs))
  row : Blk w p.g u8T (bs.map byteV).toArray
  len : bs.length = p.mx
  lies : Lies bs s.first s.rs
  own : w.ownsMap Try.prog u64T heldV p.mb N D
  dat : HeldOf D (hp p.mx s.first s.rs)
  nle : N ≤ s.m.made
def RS (p : RPar) (s : RSt) (T : Nat → Prop) (w : World) : Prop := ∃ bs N D, RB p s T bs N D w
/-- A ring's blocks. -/
def ownB (p : RPar) (T : Nat → Prop) (b : Nat) : Prop := T b ∨ b = p.x ∨ b = p.g ∨ b = p.mb
/-- From w the ring, whose memory's blocks were T, came to s. -/
def Step (p : RPar) (T : Nat → Prop) (w : World) (s : RSt) (w' : World) : Prop := ∃ T', RS p s T' w' ∧ Keeps (ownB p T) w w' ∧ ∀ b, T' b → T b ∨ w.heap.size ≤ b
theorem law64 : Keyed Try.prog u64T := int_keyed Try.underlying37
theorem zeroInt (w : World) : (zeroValue 3).run Try.prog w = .ok (.int .i64 0) w := by kernel_rfl
theorem wf64 {n : Nat} (h : n ≤ 4294967295) : (Lit.int .u64 (addr n 0)).wf = true := by unfold addr; go_wf
theorem key64 {n : Nat} (h : n ≤ 4294967295) : keyOf Try.prog u64T (.int .u64 (addr n 0)) = some (.int .u64 (addr n 0)) := keyOf_int_mk Try.underlying37 (wf64 h)
theorem isKey64 (n : Nat) : WideAt.IsKeyLit (.int .u64 (addr n 0)) := by simp [WideAt.IsKeyLit]
theorem lit64_ne {m n : Nat} (h : m ≠ n) : (Lit.int .u64 (addr m 0)) ≠ .int .u64 (addr n 0) := by
  intro e
  injection e with _ e
  unfold addr at e
  omega
section
variable {D : DataW Value} {h h' : Nat → Option Nat}
theorem HeldOf.put (hd : HeldOf D h) (n q : Nat) (e : ∀ k, h' k = if k = n then some q else h k) : HeldOf (D.put (.int .u64 (addr n 0)) (.held (.int .i64 (q : Int)))) h' where
  isMap := hd.isMap.put _ _
  at_ m := by
    rw [e m]
    by_cases hm : m = n
    · subst hm; rw [atKey_put_same hd.isMap (isKey64 _), if_pos rfl]; rfl
    · rw [atKey_put_other (lit64_ne hm), if_neg hm]; exact hd.at_ m
  has_ m := by
    rw [e m]
    by_cases hm : m = n
    · subst hm; rw [has_put_same hd.isMap (isKey64 _), if_pos rfl]; rfl
    · rw [has_put_other (lit64_ne hm), if_neg hm]; exact hd.has_ m
theorem HeldOf.empty (e : ∀ n, h n = none) : HeldOf (.map []) h where
  isMap := isMap_empty
  at_ n := by rw [e n]; rfl
  has_ n := by rw [e n]; rfl
theorem HeldOf.del (hd : HeldOf D h) (n : Nat) (e : ∀ k, h' k = if k = n then none else h k) : HeldOf (D.del (.int .u64 (addr n 0))) h' where
  isMap := hd.isMap.del _
  at_ m := by
    rw [e m]
    by_cases hm : m = n
    · subst hm; rw [atKey_del_same, if_pos rfl]; rfl
    · rw [atKey_del_other (lit64_ne hm), if_neg hm]; exact hd.at_ m
  has_ m := by
    rw [e m]
    by_cases hm : m = n
    · subst hm; rw [has_del_same, if_pos rfl]; rfl
    · rw [has_del_other (lit64_ne hm), if_neg hm]; exact hd.has_ m
theorem HeldOf.same (hd : HeldOf D h) (e : ∀ n, h' n = h n) : HeldOf D h' := ⟨hd.isMap, fun n => by rw [e n]; exact hd.at_ n, fun n => by rw [e n]; exact hd.has_ n⟩
end
/-! ### where held records begin, plainly -/
theorem hp_none {mx : Nat} {n : Nat} : ∀ (l : List Rec) (a : Nat), (∀ r, r ∈ l → r.state = 0 → r.n ≠ n) → hp mx a l n = none
  | [], _, _ => rfl
  | r :: l, a, h => by
    unfold hp
    rw [if_neg (fun e => h r (by simp) e.1 e.2)]
    exact hp_none l _ (fun q hq => h q (by simp [hq]))
theorem hp_append {mx n : Nat} : ∀ (l q : List Rec) (a : Nat), (∀ r, r ∈ l → r.state = 0 → r.n ≠ n) → hp mx a (l ++ q) n = hp mx (a + sumU l) q n
  | [], q, a, _ => by simp [sumU]
  | r :: l, q, a, h => by
    rw [List.cons_append]
    rw [show hp mx a (r :: (l ++ q)) n = hp mx (a + uses r.size) (l ++ q) n by
      show (if r.state = 0 ∧ r.n = n then some (a % mx) else hp mx (a + uses r.size) (l ++ q) n) = _
      rw [if_neg (fun e => h r (by simp) e.1 e.2)]]
    rw [hp_append l q _ (fun s hs => h s (by simp [hs])), sumU, Nat.add_assoc]
/-- Another record in the place of one. -/
theorem hp_turn {mx n : Nat} {r r' : Rec} (hu : r'.size = r.size) : ∀ (l q : List Rec) (a : Nat), (r.n = n → r'.state ≠ 0 ∧ (∀ x, x ∈ l ++ q → x.state = 0 → x.n ≠ n)) → (r.n ≠ n → r'.n ≠ n) → hp mx a (l ++ r' :: q) n = if n = r.n then none else hp mx a (l ++ r :: q) n
  | [], q, a, h1, h2 => by
    simp only [List.nil_append]
    show (if r'.state = 0 ∧ r'.n = n then some (a % mx) else hp mx (a + uses r'.size) q n) = if n = r.n then none else (if r.state = 0 ∧ r.n = n then some (a % mx) else hp mx (a + uses r.size) q n)
    by_cases e : n = r.n
    · obtain ⟨g1, g2⟩ := h1 e.symm
      rw [if_pos e, if_neg (fun x => g1 x.1), hp_none q _ (fun x hx => g2 x (by simpa using hx))]
    · have e' : r.n ≠ n := fun x => e x.symm
      rw [if_neg e, if_neg (fun x => h2 e' x.2), if_neg (fun x => e' x.2), hu]
  | y :: l, q, a, h1, h2 => by
    simp only [List.cons_append]
    show (if y.state = 0 ∧ y.n = n then some (a % mx) else hp mx (a + uses y.size) (l ++ r' :: q) n) = if n = r.n then none else (if y.state = 0 ∧ y.n = n then some (a % mx) else hp mx (a + uses y.size) (l ++ r :: q) n)
    have ih := hp_turn (mx := mx) (n := n) hu l q (a + uses y.size) (fun e => ⟨(h1 e).1, fun x hx => (h1 e).2 x (by simp only [List.cons_append, List.mem_cons]; exact .inr hx)⟩) h2
    by_cases hy : y.state = 0 ∧ y.n = n
    · rw [if_pos hy, if_pos hy]
      by_cases e : n = r.n
      · exact absurd hy.2 ((h1 e.symm).2 y (by simp) hy.1)
      · rw [if_neg e]
    · rw [if_neg hy, if_neg hy, ih]
theorem hp_mod {mx n : Nat} : ∀ (l : List Rec) (a b : Nat), a % mx = b % mx → hp mx a l n = hp mx b l n
  | [], _, _, _ => rfl
  | r :: l, a, b, e => by
    show (if r.state = 0 ∧ r.n = n then some (a % mx) else hp mx (a + uses r.size) l n) = (if r.state = 0 ∧ r.n = n then some (b % mx) else hp mx (b + uses r.size) l n)
    rw [e, hp_mod l (a + uses r.size) (b + uses r.size) (by rw [← Nat.mod_add_mod, e, Nat.mod_add_mod])]
section
variable {p : RPar} {s s' : RSt} {T T' U : Nat → Prop} {bs bs' : List UInt8} {N N' : Nat} {D D' : DataW Value} {w w' w0 : World}
theorem RB.ngx (h : RB p s T bs N D w) : p.x ≠ p.g := h.map.ne_ h.row (by decide)
theorem RB.nxm (h : RB p s T bs N D w) : p.x ≠ p.mb := by
  intro e
  obtain ⟨es, clock, h1, _⟩ := h.own
  have h2 := h.map
  unfold Blk at h2
  rw [e, h1] at h2; cases h2
theorem RB.ngm (h : RB p s T bs N D w) : p.g ≠ p.mb := by
  intro e
  obtain ⟨es, clock, h1, _⟩ := h.own
  have h2 := h.row
  unfold Blk at h2
  rw [e, h1] at h2; cases h2
theorem RB.keeps (h : RB p s T bs N D w) (k : Keeps U w w') (hd : ∀ b, ownB p T b → ¬ U b) : RB p s T bs N D w' :=
  ⟨h.side.keeps' k fun b hb => hd b (.inl hb), h.tx, h.tg, h.tm, h.map.keeps k (hd _ (.inr (.inl rfl))), h.row.keeps k (hd _ (.inr (.inr (.inl rfl)))), h.len, h.lies, ownsMap_block h.own (k.block p.mb h.own.lt (hd _ (.inr (.inr (.inr rfl))))), h.dat, h.nle⟩
theorem RB.below (h : RB p s T bs N D w) (hb : Below w.heap.size w w') : RB p s T bs N D w' := h.keeps (keeps_grow hb) (fun _ _ hf => hf)
theorem RB.drewN (h : RB p s T bs N D w) (n : Nat) : RB p s T bs N D (w.drewN n) := h.below (below_drewN w n)
theorem RB.lt (h : RB p s T bs N D w) : ∀ b, ownB p T b → b < w.heap.size := by
  rintro b (hb | rfl | rfl | rfl)
  · exact h.side.lt' b hb
  · exact h.map.lt
  · exact h.row.lt
  · exact h.own.lt
/-- The memory turns. -/
theorem RB.mem_ {m' : PS} (h : RB p s T bs N D w) (hk : KSide w' (more T w w') p.bm m') (kk : Keeps T w w') (hn : s.m.made ≤ m'.made) : RB p { s with m := m' } (more T w w') bs N D w' := by
  have nt : ∀ b, b < w.heap.size → ¬ T b → ¬ more T w w' b := by
    rintro b hb ht (h1 | ⟨h1, _⟩)
    · exact ht h1
    · omega
  exact ⟨hk, nt _ h.map.lt h.tx, nt _ h.row.lt h.tg, nt _ h.own.lt h.tm, h.map.keeps kk h.tx, h.row.keeps kk h.tg, h.len, h.lies, ownsMap_block h.own (kk.block p.mb h.own.lt h.tm), h.dat, Nat.le_trans h.nle hn⟩
theorem RB.call {m' : PS} {f : FuncId} {args : Array Value} {e0 : Ending} (h : RB p s T bs N D w) (c : KCall f args p.bm s.m m' e0) (hn : s.m.made ≤ m'.made) :
    Calls Try.prog f args w fun e w' => e = e0 ∧ RB p { s with m := m' } (more T w w') bs N D w' ∧ Keeps T w w' := by
  refine (c w T h.side).mono ?_
  rintro e w' ⟨rfl, hk, kk⟩
  exact ⟨rfl, h.mem_ hk kk hn, kk⟩
/-- The bytes turn. -/
theorem RB.wrote (h : RB p s T bs N D w) (k : Keeps (fun b => b = p.g) w w') (hr : Blk w' p.g u8T (bs'.map byteV).toArray) (hl : bs'.length = bs.length) (hlies : Lies bs' s.first s.rs) : RB p s T bs' N D w' :=
  ⟨h.side.keeps' k (fun b hb e => h.tg (e ▸ hb)), h.tx, h.tg, h.tm, h.map.keeps k h.ngx, hr, hl.trans h.len, hlies, ownsMap_block h.own (k.block p.mb h.own.lt (fun e => h.ngm e.symm)), h.dat, h.nle⟩
theorem Step.refl (h : RS p s T w) : Step p T w s w := ⟨T, h, Keeps.refl _ _, fun b hb => .inl hb⟩
theorem Step.trans {w1 w2 : World} {s1 s2 : RSt} (h : Step p T w s1 w1) (h2 : ∀ T1, RS p s1 T1 w1 → Step p T1 w1 s2 w2) : Step p T w s2 w2 := by
  obtain ⟨T1, r1, k1, e1⟩ := h
  obtain ⟨T2, r2, k2, e2⟩ := h2 T1 r1
  refine ⟨T2, r2, k1.trans (k2.mono ?_), fun b hb => ?_⟩
  · rintro b (hb | hb)
    · have hlt : b < w1.heap.size := by
        obtain ⟨bs, N, D, hr⟩ := r1
        exact hr.lt b (.inl hb)
      rcases e1 b hb with h1 | h1
      · exact .inl (.inl h1)
      · exact .inr ⟨h1, hlt⟩
    · exact .inl (.inr hb)
  · rcases e2 b hb with h1 | h1
    · exact e1 b h1
    · exact .inr (Nat.le_trans k1.size h1)
/-- What a map lookup gives. -/
theorem RB.look (h : RB p s T bs N D w) {n : Nat} (hn : n ≤ 4294967295) (c : Bool) : (Instr.lookup heldT (.map (some p.mb)) (.int .u64 (addr n 0)) c).run Try.prog w = .ok (if c then .tuple #[.int .i64 (((hp p.mx s.first s.rs n).getD 0 : Nat) : Int), .bool (hp p.mx s.first s.rs n).isSome] else .int .i64 (((hp p.mx s.first s.rs n).getD 0 : Nat) : Int)) w := by
  cases c with
  | true =>
    obtain ⟨v, ps, hrun, hv⟩ := h.own.look_ok law64 Try.underlying55 (zeroInt w) (zd := .held (.int .i64 0)) (zp := []) rfl (key64 hn)
    rw [h.dat.at_ n] at hv
    have hvv : v = .int .i64 (((hp p.mx s.first s.rs n).getD 0 : Nat) : Int) := by
      have h1 := congrArg (fun x => x.map Prod.fst) hv
      simp [heldV] at h1
      exact h1
    rw [hrun, hvv, h.dat.has_ n]
    rfl
  | false =>
    obtain ⟨v, ps, hrun, hv⟩ := h.own.lookup law64 Try.underlying55 (zeroInt w) (zd := .held (.int .i64 0)) (zp := []) rfl (key64 hn)
    rw [h.dat.at_ n] at hv
    have hvv : v = .int .i64 (((hp p.mx s.first s.rs n).getD 0 : Nat) : Int) := by
      have h1 := congrArg (fun x => x.map Prod.fst) hv
      simp [heldV] at h1
      exact h1
    rw [hrun, hvv]
    rfl
end
/-! ### the small calls -/
theorem gone_nil (w : World) : Calls Try.prog 19 #[.pointer none] w fun e w' => e = .returned (.bool true) ∧ w = w' := by
  go_enter Try.func19, Try.ntmps19
  go_wp2_with fail
  go_ret
  exact ⟨rfl, rfl⟩
theorem gone_no {p : RPar} {f u : Nat} {w : World} (h : Blk w p.x mapT (liveC p f u)) : Calls Try.prog 19 #[rp p.x] w fun e w' => e = .returned (.bool false) ∧ w = w' := by
  have c0 : w.cell? ⟨p.x, 0, none⟩ = some (.pointer (some ⟨p.bm, 0, none⟩)) := h.cell 0
  clear h
  go_enter Try.func19, Try.ntmps19
  go_wp2_with fail
  go_ret
  exact ⟨rfl, rfl⟩
theorem used_nil (w : World) : Calls Try.prog 9 #[.pointer none] w fun e w' => e = .returned (.int .i64 0) ∧ w = w' := by
  go_enter Try.func9, Try.ntmps9
  go_wp2_with fail
  go_ret
  exact ⟨rfl, rfl⟩
theorem used_any {p : RPar} {f u : Nat} {w : World} (h : Blk w p.x mapT (liveC p f u)) : Calls Try.prog 9 #[rp p.x] w fun e w' => e = .returned (.int .i64 u) ∧ w' = w := by
  have c0 : w.cell? ⟨p.x, 3, none⟩ = some (.int .i64 u) := h.cell 3
  clear h
  go_enter Try.func9, Try.ntmps9
  go_wp2_with fail
  go_ret
  exact ⟨rfl, rfl⟩
end Go.Proofs.Ytdihlmhipkcedaa
