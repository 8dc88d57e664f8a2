/-
  Layer 6, the reference: a type that is being read, as it lies.
-/
import Derived.Test.YtmfdojmecpdikaaCMath
import Derived.Test.YtmfdojmecpdikaaBNext0
namespace Go.Proofs.Ytmfdojmecpdikaa
open Go Go.RowKit
set_option linter.unusedVariables false
set_option linter.unusedSimpArgs false
set_option maxRecDepth 100000
theorem pm_far {w : World} {g t : Nat} {r : RS} (h : PM w g r) (hne : g ≠ t) (i : Nat) (u : Value) : PM (w.setCell ⟨t, i, none⟩ u) g r := ⟨h.blk.far hne u, h.ts, h.ns⟩
theorem TB.name_ {w : World} {t : Nat} {k : Int} {n : ByteArray} {b : Bd} {mv : Value} (h : TB w t k n b mv) (v : ByteArray) : TB (w.setCell ⟨t, 1, none⟩ (.string v)) t k v b mv := by
  have := Blk.set_ h 1 (.string v)
  simpa [TB] using this
theorem nat_mid (n : Nat) : n &&& 16711680 = n / 65536 % 256 * 65536 := by
  have e1 : n / 65536 = n >>> 16 := by rw [Nat.shiftRight_eq_div_pow]
  have e2 : n >>> 16 % 256 = n >>> 16 &&& 255 := (Nat.and_two_pow_sub_one_eq_mod (n >>> 16) 8).symm
  have e3 : (n >>> 16 &&& 255) * 65536 = (n >>> 16 &&& 255) <<< 16 := by rw [Nat.shiftLeft_eq]
  rw [e1, e2, e3]
  apply Nat.eq_of_testBit_eq
  intro i
  rw [show (16711680 : Nat) = 255 <<< 16 from rfl]
  simp only [Nat.testBit_and, Nat.testBit_shiftLeft, Nat.testBit_shiftRight]
  by_cases h : 16 ≤ i
  · rw [show 16 + (i - 16) = i by omega]; simp [h]
  · simp [h]
theorem and_mid (v : Int) (h : 0 ≤ v ∧ v < 4294967296) : bits .and .i64 v 16711680 = v / 65536 % 256 * 65536 := by
  obtain ⟨n, rfl⟩ := Int.eq_ofNat_of_zero_le h.1
  have h1 := rep_and .i64 (rep_nat .i64 n) (rep_nat .i64 16711680)
  rw [nat_mid] at h1
  refine rep_eq .i64 h1 (rep_of .i64 (by simp)) (bits_wrapped _ _ _ _ (.inr rfl)) ?_
  rw [IntKind.wrap_i64]
  omega
/-- While the reference reads a type. -/
structure QY (w wr : World) (g B t : Nat) (r : RS) (k : Int) (nm : ByteArray) (bd : Bd) (mv : Value) : Prop where
  rm : PM wr g r
  tb : TB wr t k nm bd mv
  res : Blk wr B 36 #[.int .i64 0, .string ⟨#[]⟩, .int .i64 0, .int .i64 0, .int .i64 0, .slice none 0 0]
  keeps : Keeps (· = g) w wr
  hB : w.heap.size ≤ B
  ht : w.heap.size ≤ t
  hBt : B ≠ t
  hg : g < w.heap.size
section
variable {w wr w' : World} {g B t : Nat} {r r' : RS} {k : Int} {nm : ByteArray} {bd : Bd} {mv : Value}
theorem QY.call (h : QY w wr g B t r k nm bd mv) (hm : PM w' g r') (hk : Keeps (· = g) wr w') : QY w w' g B t r' k nm bd mv :=
  ⟨hm, h.tb.keepsR hk (by have := h.ht; have := h.hg; omega), h.res.keeps hk (by have := h.hB; have := h.hg; omega), h.keeps.then_ hk, h.hB, h.ht, h.hBt, h.hg⟩
theorem QY.drew (h : QY w wr g B t r k nm bd mv) : QY w wr.drew g B t r k nm bd mv := ⟨⟨h.rm.blk, h.rm.ts, h.rm.ns⟩, h.tb, h.res, h.keeps.drew, h.hB, h.ht, h.hBt, h.hg⟩
theorem QY.alloc (h : QY w wr g B t r k nm bd mv) (o : Obj) : QY w (wr.alloc o) g B t r k nm bd mv := ⟨⟨h.rm.blk.alloc o, h.rm.ts, h.rm.ns⟩, Blk.alloc h.tb o, h.res.alloc o, h.keeps.alloc o, h.hB, h.ht, h.hBt, h.hg⟩
theorem QY.grown {row : Option Nat} (h : QY w wr g B t r k nm bd mv) (hg : wr.grownBy w' row) (hrow : ∀ b, row = some b → w.heap.size ≤ b ∧ ∃ cur, wr.heap[b]? = some (.cells cur 53 (0, 0))) : QY w w' g B t r k nm bd mv :=
  ⟨⟨blk_grown h.rm.blk hg (fun b hb => (hrow b hb).2) (by decide), h.rm.ts, h.rm.ns⟩, blk_grown h.tb hg (fun b hb => (hrow b hb).2) (by decide), blk_grown h.res hg (fun b hb => (hrow b hb).2) (by decide), h.keeps.grown hg (fun k hk => .inr (hrow k hk).1), h.hB, h.ht, h.hBt, h.hg⟩
theorem QY.mems_ (h : QY w wr g B t r k nm bd mv) (v : Value) : QY w (wr.setCell ⟨t, 5, none⟩ v) g B t r k nm bd v :=
  ⟨pm_far h.rm (by have := h.ht; have := h.hg; omega) 5 v, h.tb.mems_ v, h.res.far h.hBt v, h.keeps.setCell (p := ⟨t, 5, none⟩) (.inr h.ht) v, h.hB, h.ht, h.hBt, h.hg⟩
theorem QY.kind_ (h : QY w wr g B t r k nm bd mv) (v : Int) : QY w (wr.setCell ⟨t, 0, none⟩ (.int .i64 v)) g B t r v nm bd mv :=
  ⟨pm_far h.rm (by have := h.ht; have := h.hg; omega) 0 _, h.tb.kind_ v, h.res.far h.hBt _, h.keeps.setCell (p := ⟨t, 0, none⟩) (.inr h.ht) _, h.hB, h.ht, h.hBt, h.hg⟩
end
theorem QY.six_ {w wr : World} {g B t : Nat} {r : RS} {k : Int} {nm : ByteArray} {bd : Bd} {mv : Value} (h : QY w wr g B t r k nm bd mv) (u0 u1 u2 u3 u4 u5 : Value) :
    Blk (six wr B u0 u1 u2 u3 u4 u5) B 36 #[u0, u1, u2, u3, u4, u5] ∧ PM (six wr B u0 u1 u2 u3 u4 u5) g r ∧ Keeps (· = g) w (six wr B u0 u1 u2 u3 u4 u5) ∧
      ∀ (v : Value) (n : Nat) (xs : List Value), wr.ownsRow w.heap.size 53 3 v n xs → (six wr B u0 u1 u2 u3 u4 u5).ownsRow w.heap.size 53 3 v n xs := by
  have hgB : g ≠ B := by have := h.hB; have := h.hg; omega
  have b0 := h.res.set_ 0 u0
  have b1 := b0.set_ 1 u1
  have b2 := b1.set_ 2 u2
  have b3 := b2.set_ 3 u3
  have b4 := b3.set_ 4 u4
  have b5 := b4.set_ 5 u5
  refine ⟨by simpa [six] using b5, ?_, ?_, fun v n xs ho => ?_⟩
  · exact pm_far (pm_far (pm_far (pm_far (pm_far (pm_far h.rm hgB 0 _) hgB 1 _) hgB 2 _) hgB 3 _) hgB 4 _) hgB 5 _
  · exact (((((h.keeps.setCell (p := ⟨B, 0, none⟩) (.inr h.hB) _).setCell (p := ⟨B, 1, none⟩) (.inr h.hB) _).setCell (p := ⟨B, 2, none⟩) (.inr h.hB) _).setCell (p := ⟨B, 3, none⟩) (.inr h.hB) _).setCell (p := ⟨B, 4, none⟩) (.inr h.hB) _).setCell (p := ⟨B, 5, none⟩) (.inr h.hB) _
  · exact own_mems (own_mems (own_mems (own_mems (own_mems (own_mems ho h.hB h.res 0 _) h.hB b0 1 _) h.hB b1 2 _) h.hB b2 3 _) h.hB b3 4 _) h.hB b4 5 _
theorem QY.name_ {w wr : World} {g B t : Nat} {r : RS} {k : Int} {nm : ByteArray} {bd : Bd} {mv : Value} (h : QY w wr g B t r k nm bd mv) (v : ByteArray) : QY w (wr.setCell ⟨t, 1, none⟩ (.string v)) g B t r k v bd mv :=
  ⟨pm_far h.rm (by have := h.ht; have := h.hg; omega) 1 _, h.tb.name_ v, h.res.far h.hBt _, h.keeps.setCell (p := ⟨t, 1, none⟩) (.inr h.ht) _, h.hB, h.ht, h.hBt, h.hg⟩
theorem QY.size_ {w wr : World} {g B t : Nat} {r : RS} {k : Int} {nm : ByteArray} {bd : Bd} {mv : Value} (h : QY w wr g B t r k nm bd mv) (v : Int) : QY w (wr.setCell ⟨t, 2, none⟩ (.int .i64 v)) g B t r k nm ⟨v, bd.ty, bd.count⟩ mv :=
  ⟨pm_far h.rm (by have := h.ht; have := h.hg; omega) 2 _, h.tb.size_ v, h.res.far h.hBt _, h.keeps.setCell (p := ⟨t, 2, none⟩) (.inr h.ht) _, h.hB, h.ht, h.hBt, h.hg⟩
theorem QY.ty_ {w wr : World} {g B t : Nat} {r : RS} {k : Int} {nm : ByteArray} {bd : Bd} {mv : Value} (h : QY w wr g B t r k nm bd mv) (v : Int) : QY w (wr.setCell ⟨t, 3, none⟩ (.int .i64 v)) g B t r k nm ⟨bd.size, v, bd.count⟩ mv :=
  ⟨pm_far h.rm (by have := h.ht; have := h.hg; omega) 3 _, h.tb.ty_ v, h.res.far h.hBt _, h.keeps.setCell (p := ⟨t, 3, none⟩) (.inr h.ht) _, h.hB, h.ht, h.hBt, h.hg⟩
theorem QY.count_ {w wr : World} {g B t : Nat} {r : RS} {k : Int} {nm : ByteArray} {bd : Bd} {mv : Value} (h : QY w wr g B t r k nm bd mv) (v : Int) : QY w (wr.setCell ⟨t, 4, none⟩ (.int .i64 v)) g B t r k nm ⟨bd.size, bd.ty, v⟩ mv :=
  ⟨pm_far h.rm (by have := h.ht; have := h.hg; omega) 4 _, h.tb.count_ v, h.res.far h.hBt _, h.keeps.setCell (p := ⟨t, 4, none⟩) (.inr h.ht) _, h.hB, h.ht, h.hBt, h.hg⟩
theorem QY.bad_ {w wr : World} {g B t : Nat} {r : RS} {k : Int} {nm : ByteArray} {bd : Bd} {mv : Value} (h : QY w wr g B t r k nm bd mv) (b : Bool) : QY w (wr.setCell ⟨g, 2, none⟩ (.bool b)) g B t ⟨r.ts, r.ns, b⟩ k nm bd mv :=
  ⟨⟨by simpa using h.rm.blk.set_ 2 (.bool b), h.rm.ts, h.rm.ns⟩, Blk.far h.tb (by have := h.ht; have := h.hg; simp only; omega) _, h.res.far (by have := h.hB; have := h.hg; simp only; omega) _, h.keeps.set_ 2 _, h.hB, h.ht, h.hBt, h.hg⟩
def PostY (w : World) (g : Nat) (r : RS) (e : Ending) (w' : World) : Prop :=
  ∃ mv, e = .returned (tyV (qone r).1 mv) ∧ PM w' g (qone r).2 ∧ Keeps (· = g) w w' ∧ w'.ownsRow w.heap.size 53 3 mv (qone r).1.mems.length (memC (qone r).1.mems)
theorem QY.start {w : World} {g : Nat} {r : RS} (h : PM w g r) : QY w ((w.alloc (.cells #[.int .i64 0, .string ⟨#[]⟩, .int .i64 0, .int .i64 0, .int .i64 0, .slice none 0 0] 36)).alloc (.cells #[.int .i64 0, .string ⟨#[]⟩, .int .i64 0, .int .i64 0, .int .i64 0, .slice none 0 0] 36)) g w.heap.size (w.heap.size + 1) r 0 ⟨#[]⟩ ⟨0, 0, 0⟩ (.slice none 0 0) := by
  have hg := h.blk.lt
  refine ⟨⟨(h.blk.alloc _).alloc _, h.ts, h.ns⟩, ?_, (Blk.new _ _ _).alloc _, ((Keeps.refl _ _).alloc _).alloc _, Nat.le_refl _, by omega, by omega, hg⟩
  have := Blk.new (w.alloc (.cells #[.int .i64 0, .string ⟨#[]⟩, .int .i64 0, .int .i64 0, .int .i64 0, .slice none 0 0] 36)) 36 #[.int .i64 0, .string ⟨#[]⟩, .int .i64 0, .int .i64 0, .int .i64 0, .slice none 0 0]
  rw [show (w.alloc (.cells #[.int .i64 0, .string ⟨#[]⟩, .int .i64 0, .int .i64 0, .int .i64 0, .slice none 0 0] 36)).heap.size = w.heap.size + 1 by simp] at this
  exact this
theorem psmall_q {w : World} {g : Nat} {r : RS} (h : PM w g r) : Calls Try.prog 41 #[.pointer (some ⟨g, 0, none⟩)] w (PostQ w g (.returned (.int .i64 (numV r))) (qsmallR r)) := psmall_any h
theorem QY.other {w wr : World} {g B t : Nat} {r : RS} {k : Int} {nm : ByteArray} {bd : Bd} {mv : Value} (h : QY w wr g B t r k nm bd mv) {M : Nat} (hM : w.heap.size ≤ M) (hB : B ≠ M) (ht : t ≠ M) (i : Nat) (v : Value) : QY w (wr.setCell ⟨M, i, none⟩ v) g B t r k nm bd mv :=
  ⟨pm_far h.rm (by have := h.hg; omega) i v, Blk.far h.tb ht _, h.res.far hB _, h.keeps.setCell (p := ⟨M, i, none⟩) (.inr hM) _, h.hB, h.ht, h.hBt, h.hg⟩
theorem qown_block {w w' : World} {base : Nat} {e : TypeId} {size : Nat} {v : Value} {n : Nat} {xs : List Value} (h : w.ownsRow base e size v n xs) (hk : ∀ b, v.ownBlock = some b → w'.heap[b]? = w.heap[b]?) : w'.ownsRow base e size v n xs := by
  refine ⟨h.1, ?_⟩
  rcases h.2 with hn | ⟨g, cap, cur, rfl, h1, h2, rest⟩
  · exact .inl hn
  · exact .inr ⟨g, cap, cur, rfl, h1, (hk g rfl).trans h2, rest⟩
theorem qown_lt {w : World} {base : Nat} {e : TypeId} {size : Nat} {v : Value} {n : Nat} {xs : List Value} (h : w.ownsRow base e size v n xs) (b : Nat) (hb : v.ownBlock = some b) : b < w.heap.size := by
  obtain ⟨_, cur, hc⟩ := row_tag h b hb
  rcases Nat.lt_or_ge b w.heap.size with hlt | hge
  · exact hlt
  · rw [Array.getElem?_eq_none hge] at hc; cases hc
/-- While a member is read, in block M. -/
structure MQ (w W : World) (g B t : Nat) (r : RS) (k : Int) (nm : ByteArray) (bd : Bd) (mv : Value) (j : Nat) (ms : List Mem) (M : Nat) (a : ByteArray) (b c : Int) : Prop where
  qy : QY w W g B t r k nm bd mv
  own : W.ownsRow w.heap.size 53 3 mv j (memC ms)
  mb : Blk W M 53 #[.string a, .int .i64 b, .int .i64 c]
  hM : w.heap.size ≤ M
  hB : B ≠ M
  ht : t ≠ M
  row : ∀ b, mv.ownBlock = some b → b ≠ M
section
variable {w W W' : World} {g B t : Nat} {r r' : RS} {k : Int} {nm : ByteArray} {bd : Bd} {mv : Value} {j : Nat} {ms : List Mem} {M : Nat} {a : ByteArray} {b c : Int}
theorem MQ.start (h : QY w W g B t r k nm bd mv) (ho : W.ownsRow w.heap.size 53 3 mv j (memC ms)) : MQ w (W.alloc (.cells #[.string ⟨#[]⟩, .int .i64 0, .int .i64 0] 53)) g B t r k nm bd mv j ms W.heap.size ⟨#[]⟩ 0 0 :=
  ⟨h.alloc _, ho.alloc _, Blk.new _ _ _, h.keeps.size, by have := h.res.lt; omega, by have := Blk.lt h.tb; omega, fun b hb => by have := qown_lt ho b hb; omega⟩
theorem MQ.call (h : MQ w W g B t r k nm bd mv j ms M a b c) (hm : PM W' g r') (hk : Keeps (· = g) W W') : MQ w W' g B t r' k nm bd mv j ms M a b c :=
  ⟨h.qy.call hm hk, ownsRow_keeps h.own hk (fun b e => by have := h.qy.hg; omega), h.mb.keeps hk (by have := h.hM; have := h.qy.hg; omega), h.hM, h.hB, h.ht, h.row⟩
theorem MQ.set_ (h : MQ w W g B t r k nm bd mv j ms M a b c) (i : Nat) (v : Value) : QY w (W.setCell ⟨M, i, none⟩ v) g B t r k nm bd mv ∧ (W.setCell ⟨M, i, none⟩ v).ownsRow w.heap.size 53 3 mv j (memC ms) :=
  ⟨h.qy.other h.hM h.hB h.ht i v, qown_block h.own fun x hx => Below.heap_setCell W ⟨M, i, none⟩ v x (h.row x hx)⟩
theorem MQ.name_ (h : MQ w W g B t r k nm bd mv j ms M a b c) (v : ByteArray) : MQ w (W.setCell ⟨M, 0, none⟩ (.string v)) g B t r k nm bd mv j ms M v b c :=
  ⟨(h.set_ 0 _).1, (h.set_ 0 _).2, by simpa using h.mb.set_ 0 (.string v), h.hM, h.hB, h.ht, h.row⟩
theorem MQ.ty_ (h : MQ w W g B t r k nm bd mv j ms M a b c) (v : Int) : MQ w (W.setCell ⟨M, 1, none⟩ (.int .i64 v)) g B t r k nm bd mv j ms M a v c :=
  ⟨(h.set_ 1 _).1, (h.set_ 1 _).2, by simpa using h.mb.set_ 1 (.int .i64 v), h.hM, h.hB, h.ht, h.row⟩
theorem MQ.off_ (h : MQ w W g B t r k nm bd mv j ms M a b c) (v : Int) : MQ w (W.setCell ⟨M, 2, none⟩ (.int .i64 v)) g B t r k nm bd mv j ms M a b v :=
  ⟨(h.set_ 2 _).1, (h.set_ 2 _).2, by simpa using h.mb.set_ 2 (.int .i64 v), h.hM, h.hB, h.ht, h.row⟩
end
/-- Behind j of n members. -/
def LoopQ (w wr : World) (g B T : Nat) (r0 : RS) (n : Nat) (k : Int) (nm : ByteArray) (bd : Bd) (j : Nat) (r : RS) (ms : List Mem) (mv : Value) : Prop :=
  QY w wr g B T r k nm bd mv ∧ wr.ownsRow w.heap.size 53 3 mv j (memC ms) ∧ ms.length = j ∧ qmemsV n r0 = ms ++ qmemsV (n - j) r ∧ qmemsR n r0 = qmemsR (n - j) r
theorem qloop_step {w wr w' : World} {g B T n : Nat} {r0 r : RS} {k : Int} {nm : ByteArray} {bd : Bd} {j : Nat} {ms : List Mem} {mv mv' : Value} (h : LoopQ w wr g B T r0 n k nm bd j r ms mv) (hj : j < n) (hb : r.bad = false)
    (hy : QY w w' g B T (qmemR r) k nm bd mv') (ho : w'.ownsRow w.heap.size 53 3 mv' (j + 1) (memC ms ++ memCells (qmemV r))) : LoopQ w w' g B T r0 n k nm bd (j + 1) (qmemR r) (ms ++ [qmemV r]) mv' := by
  obtain ⟨_, _, h3, h4, h5⟩ := h
  obtain ⟨x, hx⟩ : ∃ x, n - j = x + 1 := ⟨n - j - 1, by omega⟩
  have e : n - (j + 1) = x := by omega
  rw [hx] at h4 h5
  simp only [qmemsV, qmemsR, hb, Bool.false_eq_true, if_false] at h4 h5
  refine ⟨hy, ?_, by simp [h3], by rw [e, h4]; simp, by rw [e, h5]⟩
  rw [memC_app]
  simpa [memC] using ho
theorem qloop_exit {w wr : World} {g B T n : Nat} {r0 r : RS} {k : Int} {nm : ByteArray} {bd : Bd} {j : Nat} {ms : List Mem} {mv : Value} (h : LoopQ w wr g B T r0 n k nm bd j r ms mv) (he : j = n ∨ r.bad = true) : qmemsV n r0 = ms ∧ qmemsR n r0 = r := by
  obtain ⟨_, _, h3, h4, h5⟩ := h
  rcases he with rfl | hb
  · rw [Nat.sub_self] at h4 h5
    simpa [qmemsV, qmemsR] using And.intro h4 h5
  · cases hx : n - j with
    | zero =>
      rw [hx] at h4 h5
      simpa [qmemsV, qmemsR] using And.intro h4 h5
    | succ x =>
      rw [hx] at h4 h5
      simpa [qmemsV, qmemsR, hb] using And.intro h4 h5
end Go.Proofs.Ytmfdojmecpdikaa
