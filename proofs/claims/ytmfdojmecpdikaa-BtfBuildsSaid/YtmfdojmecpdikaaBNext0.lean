/-
  Layer 6: a type that is being read, and its members, as they lie.
-/
import Derived.Test.YtmfdojmecpdikaaBBody
import Derived.Deep.AppendLies
namespace Go.Proofs.Ytmfdojmecpdikaa
open Go Go.RowKit
set_option linter.unusedVariables false
set_option linter.unusedSimpArgs false
set_option maxRecDepth 100000
def memCells (m : Mem) : List Value := [.string m.name, .int .i64 m.ty, .int .i64 m.off]
def memC (ms : List Mem) : List Value := ms.flatMap memCells
theorem memC_app (a b : List Mem) : memC (a ++ b) = memC a ++ memC b := by simp [memC]
theorem memC_len (ms : List Mem) : (memC ms).length = ms.length * 3 := by
  induction ms with
  | nil => rfl
  | cons m ms ih => simp only [memC, List.flatMap_cons, List.length_append, List.length_cons] at *; simp [memCells] at *; omega
theorem ownsRow_keeps {S : Nat → Prop} {w w' : World} {base : Nat} {e : TypeId} {size : Nat} {v : Value} {n : Nat} {xs : List Value} (h : w.ownsRow base e size v n xs) (hk : Keeps S w w') (hS : ∀ b, S b → b < base) : w'.ownsRow base e size v n xs := by
  refine ⟨h.1, ?_⟩
  rcases h.2 with hn | ⟨g, cap, cur, rfl, h1, h2, rest⟩
  · exact .inl hn
  · have hlt : g < w.heap.size := by
      rcases Nat.lt_or_ge g w.heap.size with hlt | hge
      · exact hlt
      · rw [Array.getElem?_eq_none hge] at h2; cases h2
    exact .inr ⟨g, cap, cur, rfl, h1, (hk.block g hlt (fun hs => by have := hS g hs; omega)).trans h2, rest⟩
theorem row_tag {w : World} {base : Nat} {e : TypeId} {size : Nat} {v : Value} {n : Nat} {xs : List Value} (h : w.ownsRow base e size v n xs) (b : Nat) (hb : v.ownBlock = some b) : base ≤ b ∧ ∃ cur, w.heap[b]? = some (.cells cur e (0, 0)) := by
  rcases h.2 with ⟨rfl, _⟩ | ⟨g, cap, cur, rfl, h1, h2, rest⟩
  · cases hb
  · simp only [Value.ownBlock, Option.some.injEq] at hb
    subst hb
    exact ⟨h1, cur, h2⟩
theorem blk_grown {w w' : World} {row : Option Nat} {g : Nat} {t e : TypeId} {cs : Array Value} (h : Blk w g t cs) (hg : w.grownBy w' row) (hrow : ∀ b, row = some b → ∃ cur, w.heap[b]? = some (.cells cur e (0, 0))) (hne : t ≠ e) : Blk w' g t cs :=
  (hg.block g h.lt (fun e1 => by
    obtain ⟨cur, hc⟩ := hrow g e1.symm
    have h' : Blk w g e cur := hc
    exact h.ne_ h' hne rfl)).trans h
/-- While a type is read. -/
structure NY (w wr : World) (g B t : Nat) (r : RS) (k : Int) (nm : ByteArray) (bd : Bd) (mv : Value) : Prop where
  rm : RM wr g r
  tb : TB wr t k nm bd mv
  res : Blk wr B 36 #[.int .i64 0, .string ⟨#[]⟩, .int .i64 0, .int .i64 0, .int .i64 0, .slice none 0 0]
  keeps : Keeps (· = g) w wr
  hB : w.heap.size ≤ B
  ht : w.heap.size ≤ t
  hBt : B ≠ t
  hg : g < w.heap.size
section
variable {w wr w' : World} {g B t : Nat} {r r' : RS} {k : Int} {nm : ByteArray} {bd : Bd} {mv : Value}
theorem NY.call (h : NY w wr g B t r k nm bd mv) (hm : RM w' g r') (hk : Keeps (· = g) wr w') : NY w w' g B t r' k nm bd mv :=
  ⟨hm, h.tb.keepsR hk (by have := h.ht; have := h.hg; omega), h.res.keeps hk (by have := h.hB; have := h.hg; omega), h.keeps.then_ hk, h.hB, h.ht, h.hBt, h.hg⟩
theorem NY.drew (h : NY w wr g B t r k nm bd mv) : NY w wr.drew g B t r k nm bd mv := ⟨⟨h.rm.blk, h.rm.ts, h.rm.ns⟩, h.tb, h.res, h.keeps.drew, h.hB, h.ht, h.hBt, h.hg⟩
theorem NY.alloc (h : NY w wr g B t r k nm bd mv) (o : Obj) : NY w (wr.alloc o) g B t r k nm bd mv := ⟨⟨h.rm.blk.alloc o, h.rm.ts, h.rm.ns⟩, Blk.alloc h.tb o, h.res.alloc o, h.keeps.alloc o, h.hB, h.ht, h.hBt, h.hg⟩
theorem NY.grown {row : Option Nat} (h : NY w wr g B t r k nm bd mv) (hg : wr.grownBy w' row) (hrow : ∀ b, row = some b → w.heap.size ≤ b ∧ ∃ cur, wr.heap[b]? = some (.cells cur 53 (0, 0))) : NY w w' g B t r k nm bd mv :=
  ⟨⟨blk_grown h.rm.blk hg (fun b hb => (hrow b hb).2) (by decide), h.rm.ts, h.rm.ns⟩, blk_grown h.tb hg (fun b hb => (hrow b hb).2) (by decide), blk_grown h.res hg (fun b hb => (hrow b hb).2) (by decide), h.keeps.grown hg (fun k hk => .inr (hrow k hk).1), h.hB, h.ht, h.hBt, h.hg⟩
theorem NY.mems_ (h : NY w wr g B t r k nm bd mv) (v : Value) : NY w (wr.setCell ⟨t, 5, none⟩ v) g B t r k nm bd v :=
  ⟨rm_far h.rm (by have := h.ht; have := h.hg; omega) 5 v, h.tb.mems_ v, h.res.far h.hBt v, h.keeps.setCell (p := ⟨t, 5, none⟩) (.inr h.ht) v, h.hB, h.ht, h.hBt, h.hg⟩
theorem NY.kind_ (h : NY w wr g B t r k nm bd mv) (v : Int) : NY w (wr.setCell ⟨t, 0, none⟩ (.int .i64 v)) g B t r v nm bd mv :=
  ⟨rm_far h.rm (by have := h.ht; have := h.hg; omega) 0 _, h.tb.kind_ v, h.res.far h.hBt _, h.keeps.setCell (p := ⟨t, 0, none⟩) (.inr h.ht) _, h.hB, h.ht, h.hBt, h.hg⟩
theorem own_mems {v : Value} {n : Nat} {xs : List Value} (h : wr.ownsRow w.heap.size 53 3 v n xs) (hB : w.heap.size ≤ B) {cs : Array Value} (hb : Blk wr B 36 cs) (i : Nat) (u : Value) :
    (wr.setCell ⟨B, i, none⟩ u).ownsRow w.heap.size 53 3 v n xs := by
  refine ⟨h.1, ?_⟩
  rcases h.2 with hn | ⟨g, cap, cur, rfl, h1, h2, rest⟩
  · exact .inl hn
  · refine .inr ⟨g, cap, cur, rfl, h1, ?_, rest⟩
    have hne : g ≠ B := (show Blk wr g 53 cur from h2).ne_ hb (by decide)
    exact (Below.heap_setCell wr ⟨B, i, none⟩ u g hne).trans h2
end
/-- The world behind six stores into block B. -/
def six (w : World) (B : Nat) (u0 u1 u2 u3 u4 u5 : Value) : World := (((((w.setCell ⟨B, 0, none⟩ u0).setCell ⟨B, 1, none⟩ u1).setCell ⟨B, 2, none⟩ u2).setCell ⟨B, 3, none⟩ u3).setCell ⟨B, 4, none⟩ u4).setCell ⟨B, 5, none⟩ u5
theorem NY.six_ {w wr : World} {g B t : Nat} {r : RS} {k : Int} {nm : ByteArray} {bd : Bd} {mv : Value} (h : NY w wr g B t r k nm bd mv) (u0 u1 u2 u3 u4 u5 : Value) :
    Blk (six wr B u0 u1 u2 u3 u4 u5) B 36 #[u0, u1, u2, u3, u4, u5] ∧ RM (six wr B u0 u1 u2 u3 u4 u5) g r ∧ Keeps (· = g) w (six wr B u0 u1 u2 u3 u4 u5) ∧
      ∀ (v : Value) (n : Nat) (xs : List Value), wr.ownsRow w.heap.size 53 3 v n xs → (six wr B u0 u1 u2 u3 u4 u5).ownsRow w.heap.size 53 3 v n xs := by
  have hgB : g ≠ B := by have := h.hB; have := h.hg; omega
  have b0 := h.res.set_ 0 u0
  have b1 := b0.set_ 1 u1
  have b2 := b1.set_ 2 u2
  have b3 := b2.set_ 3 u3
  have b4 := b3.set_ 4 u4
  have b5 := b4.set_ 5 u5
  refine ⟨by simpa [six] using b5, ?_, ?_, fun v n xs ho => ?_⟩
  · exact rm_far (rm_far (rm_far (rm_far (rm_far (rm_far h.rm hgB 0 _) hgB 1 _) hgB 2 _) hgB 3 _) hgB 4 _) hgB 5 _
  · exact (((((h.keeps.setCell (p := ⟨B, 0, none⟩) (.inr h.hB) _).setCell (p := ⟨B, 1, none⟩) (.inr h.hB) _).setCell (p := ⟨B, 2, none⟩) (.inr h.hB) _).setCell (p := ⟨B, 3, none⟩) (.inr h.hB) _).setCell (p := ⟨B, 4, none⟩) (.inr h.hB) _).setCell (p := ⟨B, 5, none⟩) (.inr h.hB) _
  · exact own_mems (own_mems (own_mems (own_mems (own_mems (own_mems ho h.hB h.res 0 _) h.hB b0 1 _) h.hB b1 2 _) h.hB b2 3 _) h.hB b3 4 _) h.hB b4 5 _
theorem NY.body {w wr w' : World} {g B t : Nat} {r r' : RS} {k : Int} {nm : ByteArray} {bd bd' : Bd} {mv : Value} (h : NY w wr g B t r k nm bd mv) (hm : RM w' g r') (ht : TB w' t k nm bd' mv) (hk : Keeps (fun b => b = g ∨ b = t) wr w') : NY w w' g B t r' k nm bd' mv :=
  ⟨hm, ht, h.res.keeps hk (by have h1 := h.hB; have h2 := h.hg; have h3 := h.hBt; intro e; rcases e with e | e <;> omega), h.keeps.trans (hk.mono (by
    intro b hb
    rcases hb with hb | hb
    · exact .inl hb
    · subst hb; exact .inr ⟨h.ht, h.tb.lt⟩)), h.hB, h.ht, h.hBt, h.hg⟩
theorem new_cells (w : World) (cs : Array Value) (t : TypeId) (j : Nat) (u : Value) (h : cs.toList[j]? = some u) : (w.alloc (.cells cs t)).cell? ((⟨w.heap.size, 0, none⟩ : Addr).add j) = some u := by
  rw [show (⟨w.heap.size, 0, none⟩ : Addr).add j = ⟨w.heap.size, j, none⟩ by unfold Addr.add; split <;> simp_all, (Blk.new w t cs).cell j]
  simpa using h
theorem memCells_one (m : Mem) (u : Value) (h : u ∈ memCells m) : u.oneCell' = true := by
  simp only [memCells, List.mem_cons, List.not_mem_nil, or_false] at h
  rcases h with rfl | rfl | rfl <;> rfl
/-- Behind j of n members. -/
def LoopX (w wr : World) (g B T : Nat) (r0 : RS) (n : Nat) (k : Int) (nm : ByteArray) (bd : Bd) (j : Nat) (r : RS) (ms : List Mem) (mv : Value) : Prop :=
  NY w wr g B T r k nm bd mv ∧ wr.ownsRow w.heap.size 53 3 mv j (memC ms) ∧ ms.length = j ∧ memsV n r0 = ms ++ memsV (n - j) r ∧ memsR n r0 = memsR (n - j) r
def PostX (w : World) (g : Nat) (r : RS) (e : Ending) (w' : World) : Prop :=
  ∃ mv, e = .returned (tyV (nextV r) mv) ∧ RM w' g (nextR r) ∧ Keeps (· = g) w w' ∧ w'.ownsRow w.heap.size 53 3 mv (nextV r).mems.length (memC (nextV r).mems)
theorem memsV_len : ∀ (n : Nat) (r : RS), (memsV n r).length = n
  | 0, r => rfl
  | n + 1, r => by simp [memsV, memsV_len n]
/-- k of n members are read. -/
theorem mems_step (n k : Nat) (r0 r : RS) (ms : List Mem) (hk : k < n) (h1 : memsV n r0 = ms ++ memsV (n - k) r) (h2 : memsR n r0 = memsR (n - k) r) :
    memsV n r0 = (ms ++ [memV r]) ++ memsV (n - (k + 1)) (memR r) ∧ memsR n r0 = memsR (n - (k + 1)) (memR r) := by
  obtain ⟨j, hj⟩ : ∃ j, n - k = j + 1 := ⟨n - k - 1, by omega⟩
  have e : n - (k + 1) = j := by omega
  rw [hj] at h1 h2
  rw [e]
  refine ⟨?_, h2⟩
  rw [h1]
  simp [memsV]
theorem loop_step {w wr w' : World} {g B T n : Nat} {r0 r : RS} {k : Int} {nm : ByteArray} {bd : Bd} {j : Nat} {ms : List Mem} {mv mv' : Value} (h : LoopX w wr g B T r0 n k nm bd j r ms mv) (hj : j < n)
    (hy : NY w w' g B T (memR r) k nm bd mv') (ho : w'.ownsRow w.heap.size 53 3 mv' (j + 1) (memC ms ++ memCells (memV r))) : LoopX w w' g B T r0 n k nm bd (j + 1) (memR r) (ms ++ [memV r]) mv' := by
  obtain ⟨_, _, h3, h4, h5⟩ := h
  obtain ⟨e1, e2⟩ := mems_step n j r0 r ms hj h4 h5
  refine ⟨hy, ?_, by simp [h3], e1, e2⟩
  rw [memC_app]
  simpa [memC] using ho
end Go.Proofs.Ytmfdojmecpdikaa
