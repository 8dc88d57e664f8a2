/-
  Layer 6, the reference: its writer's two rows grow by a name and its place.
-/
import Derived.Test.YtmfdojmecpdikaaCWName
namespace Go.Proofs.Ytmfdojmecpdikaa
open Go Go.RowKit Go.Maps
set_option linter.unusedVariables false
set_option linter.unusedSimpArgs false
set_option maxRecDepth 100000
theorem infoS : (Try.prog.info? 9).map (fun i => (i.zero, i.size, i.bytes)) = some (some (.string ⟨#[]⟩), 1, 16) := by kernel_rfl
theorem infoI : (Try.prog.info? 3).map (fun i => (i.zero, i.size, i.bytes)) = some (some (.int .i64 0), 1, 8) := by kernel_rfl
/-- Between: the block g as it was, its rows as they have become. -/
structure WV (w W : World) (g base : Nat) (q : QS) (a0 t0 bv av tv : Value) (e1 e2 : List (ByteArray × Int)) : Prop where
  blk : Blk W g 47 #[.string (bstr q.ns), a0, t0, bv]
  all : W.ownsRow base 9 1 av e1.length (nameC e1)
  at_ : W.ownsRow base 3 1 tv e2.length (atC e2)
  b : W.ownsRow base 5 1 bv q.ts.length (q.ts.map byteV)
  hg : base ≤ g
  hbase : base ≤ W.heap.size
  keeps : Keeps (fun b => b = g ∨ base ≤ b) w W
  keept : KeepT w W
theorem WQ.wv {w : World} {g base : Nat} {q : QS} {av tv bv : Value} (h : WQ w g base q av tv bv) : WV w w g base q av tv bv av tv q.es q.es := ⟨h.blk, h.all, h.at_, h.b, h.hg, h.hbase, Keeps.refl _ _, KeepT.refl _⟩
section
variable {w W : World} {g base : Nat} {q : QS} {a0 t0 bv av tv : Value} {e1 e2 : List (ByteArray × Int)}
theorem own_below {W' : World} {e : TypeId} {size : Nat} {v : Value} {n : Nat} {xs : List Value} (h : W.ownsRow base e size v n xs) (hb : ∀ k, k < W.heap.size → W'.heap[k]? = W.heap[k]?) : W'.ownsRow base e size v n xs :=
  own_block h fun b hx => hb b (own_lt h b hx)
theorem WV.drew (h : WV w W g base q a0 t0 bv av tv e1 e2) : WV w W.drew g base q a0 t0 bv av tv e1 e2 :=
  ⟨h.blk, h.all, h.at_, h.b, h.hg, h.hbase, h.keeps.drew, h.keept⟩
theorem WV.alloc (h : WV w W g base q a0 t0 bv av tv e1 e2) (o : Obj) : WV w (W.alloc o) g base q a0 t0 bv av tv e1 e2 :=
  ⟨h.blk.alloc o, own_below h.all (fun k hk => Below.heap_alloc W o k hk), own_below h.at_ (fun k hk => Below.heap_alloc W o k hk), own_below h.b (fun k hk => Below.heap_alloc W o k hk), h.hg, by have := h.hbase; simp; omega, h.keeps.alloc o, h.keept.alloc o⟩
theorem WV.grown {W' : World} (h : WV w W g base q a0 t0 bv av tv e1 e2) {row : Option Nat} (hg : W.grownBy W' row) (hrow : ∀ b, row = some b → base ≤ b ∧ b ≠ g) : Blk W' g 47 #[.string (bstr q.ns), a0, t0, bv] ∧ Keeps (fun b => b = g ∨ base ≤ b) w W' := by
  have hgb := h.hg
  refine ⟨(hg.block g h.blk.lt (fun e => (hrow g e.symm).2 rfl)).trans h.blk, h.keeps.trans ⟨hg.os, hg.tape, hg.output, hg.size, fun b hb hS => hg.block b hb (fun e => hS (.inl (.inr (hrow b e.symm).1)))⟩⟩
theorem WV.append1 (h : WV w W g base q a0 t0 bv av tv e1 e2) (s : ByteArray) (p : Int) (ad : Nat) (hc : W.cell? ⟨ad, 0, none⟩ = some (.string s)) (hl : e1.length ≤ 1099511627776) :
    ∃ A N k W', (Builtin.append_ #[43, 43] 43 #[av, .slice (some ⟨ad, 0, none⟩) 1 1]).run Try.prog W = .ok (.slice A N k) W' ∧ WV w W' g base q a0 t0 bv (.slice A N k) tv (e1 ++ [(s, p)]) e2 ∧
      (∀ x, x.block < W.heap.size → av.ownBlock ≠ some x.block → W'.cell? x = W.cell? x) := by
  obtain ⟨i0, hi, hz, hs, hb⟩ := info_parts infoS
  obtain ⟨v', W', r1, r2, r3, _, r5⟩ := run_append_own_at (P := Try.prog) W base 43 43 9 i0 (.string ⟨#[]⟩) 1 16 Try.underlying43 hi hz hs hb rfl (by decide) av e1.length (nameC e1) h.all ⟨ad, 0, none⟩ 1 1 [.string s] (by rfl)
    (fun j u hu => by
      cases j with
      | zero => simp only [List.getElem?_cons_zero, Option.some.injEq] at hu; subst hu; rw [show (⟨ad, 0, none⟩ : Addr).add 0 = ⟨ad, 0, none⟩ by unfold Addr.add; split <;> simp_all]; exact hc
      | succ j => simp at hu) (fun u hu => by simp only [List.mem_singleton] at hu; subst hu; rfl) (by unfold maxLen; omega) (by omega) h.hbase
  have hown : W'.ownsRow base 9 1 v' (e1 ++ [(s, p)]).length (nameC (e1 ++ [(s, p)])) := by
    have e : nameC (e1 ++ [(s, p)]) = nameC e1 ++ [.string s] := by simp [nameC]
    rw [e, List.length_append]; exact r2
  obtain ⟨A, k, rfl, _⟩ := own_form_any hown
  obtain ⟨k1, k2⟩ := h.grown r3 (fun b hx => ⟨(row_tag h.all b hx).1, row_ne_blk h.all h.blk (by decide) b hx⟩)
  refine ⟨A, _, k, W', r1, ⟨k1, hown, own_block h.at_ fun b hx => r3.block b (own_lt h.at_ b hx) (fun e => own_ne h.all h.at_ (by decide) b e.symm hx), own_block h.b fun b hx => r3.block b (own_lt h.b b hx) (fun e => own_ne h.all h.b (by decide) b e.symm hx), h.hg, Nat.le_trans h.hbase r3.size, k2, h.keept.grown r3 fun b hx => by obtain ⟨_, cur, hc⟩ := row_tag h.all b hx; exact ⟨cur, _, hc, by decide⟩⟩, fun x hx hne => r3.cell_far x hx (fun e => hne e.symm)⟩
theorem WV.append2 (h : WV w W g base q a0 t0 bv av tv e1 e2) (s : ByteArray) (p : Int) (ad : Nat) (hc : W.cell? ⟨ad, 0, none⟩ = some (.int .i64 p)) (hl : e2.length ≤ 1099511627776) :
    ∃ A N k W', (Builtin.append_ #[44, 44] 44 #[tv, .slice (some ⟨ad, 0, none⟩) 1 1]).run Try.prog W = .ok (.slice A N k) W' ∧ WV w W' g base q a0 t0 bv av (.slice A N k) e1 (e2 ++ [(s, p)]) := by
  obtain ⟨i0, hi, hz, hs, hb⟩ := info_parts infoI
  obtain ⟨v', W', r1, r2, r3, _, r5⟩ := run_append_own_at (P := Try.prog) W base 44 44 3 i0 (.int .i64 0) 1 8 Try.underlying44 hi hz hs hb rfl (by decide) tv e2.length (atC e2) h.at_ ⟨ad, 0, none⟩ 1 1 [.int .i64 p] (by rfl)
    (fun j u hu => by
      cases j with
      | zero => simp only [List.getElem?_cons_zero, Option.some.injEq] at hu; subst hu; rw [show (⟨ad, 0, none⟩ : Addr).add 0 = ⟨ad, 0, none⟩ by unfold Addr.add; split <;> simp_all]; exact hc
      | succ j => simp at hu) (fun u hu => by simp only [List.mem_singleton] at hu; subst hu; rfl) (by unfold maxLen; omega) (by omega) h.hbase
  have hown : W'.ownsRow base 3 1 v' (e2 ++ [(s, p)]).length (atC (e2 ++ [(s, p)])) := by
    have e : atC (e2 ++ [(s, p)]) = atC e2 ++ [.int .i64 p] := by simp [atC]
    rw [e, List.length_append]; exact r2
  obtain ⟨A, k, rfl, _⟩ := own_form_any hown
  obtain ⟨k1, k2⟩ := h.grown r3 (fun b hx => ⟨(row_tag h.at_ b hx).1, row_ne_blk h.at_ h.blk (by decide) b hx⟩)
  exact ⟨A, _, k, W', r1, ⟨k1, own_block h.all fun b hx => r3.block b (own_lt h.all b hx) (fun e => own_ne h.at_ h.all (by decide) b e.symm hx), hown, own_block h.b fun b hx => r3.block b (own_lt h.b b hx) (fun e => own_ne h.at_ h.b (by decide) b e.symm hx), h.hg, Nat.le_trans h.hbase r3.size, k2, h.keept.grown r3 fun b hx => by obtain ⟨_, cur, hc⟩ := row_tag h.at_ b hx; exact ⟨cur, _, hc, by decide⟩⟩⟩
theorem WV.done {e : List (ByteArray × Int)} (h : WV w W g base q a0 t0 bv av tv e e) :
    WQ ((W.setCell ⟨g, 1, none⟩ av).setCell ⟨g, 2, none⟩ tv) g base ⟨q.ts, q.ns, e⟩ av tv bv ∧ Keeps (fun b => b = g ∨ base ≤ b) w ((W.setCell ⟨g, 1, none⟩ av).setCell ⟨g, 2, none⟩ tv) ∧ KeepT w ((W.setCell ⟨g, 1, none⟩ av).setCell ⟨g, 2, none⟩ tv) := by
  have hgb := h.hg
  have k : Keeps (· = g) W ((W.setCell ⟨g, 1, none⟩ av).setCell ⟨g, 2, none⟩ tv) := (keeps_set W g 1 av).set_ 2 tv
  refine ⟨⟨by simpa using (h.blk.set_ 1 av).set_ 2 tv, own_far h.all k h.blk (by decide), own_far h.at_ k h.blk (by decide), own_far h.b k h.blk (by decide), h.hg, Nat.le_trans h.hbase k.size⟩, h.keeps.trans (k.mono fun b hb => .inl (.inl hb)), h.keept.trans ((KeepT.set_ (i := 1) h.blk (by decide) av).trans (KeepT.set_ (i := 2) (h.blk.set_ 1 av) (by decide) tv))⟩
end
end Go.Proofs.Ytmfdojmecpdikaa
