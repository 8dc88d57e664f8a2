/-
  Layer 6: the writer's blob.
-/
import Derived.Test.YtmfdojmecpdikaaBBuild
import Derived.Outline
namespace Go.Proofs.Ytmfdojmecpdikaa
open Go Go.RowKit Go.Maps
set_option linter.unusedVariables false
set_option linter.unusedSimpArgs false
set_option maxRecDepth 100000
/-- Behind the head: the types, the names, the text. -/
def Tail (wr w5 : World) (v5 tv nv : Value) (l0 ts ns : List UInt8) : Prop := ∃ v6 w6 v7 w7, (Builtin.append_ #[45, 45] 45 #[v5, tv]).run Try.prog w5.drew = .ok v6 w6 ∧ (Builtin.append_ #[45, 45] 45 #[v6, nv]).run Try.prog w6 = .ok v7 w7 ∧
  (convert 45 9 v7).run Try.prog w7 = .ok (.string (bstr (l0 ++ ts ++ ns))) w7 ∧ Olds wr w6 ∧ Olds wr w7
theorem tail_any {wr w5 : World} {base g mb n : Nat} {st : WS} {tv nv v5 : Value} {l0 : List UInt8} (h : WM wr base g st tv nv mb n) (hr : RowB w5 wr.heap.size v5 l0) (ho : Olds wr w5) (h0 : 0 < l0.length) (h9 : l0.length ≤ 100) (hs1 : st.ts.length ≤ 1000000000000) (hs2 : st.ns.length ≤ 1000000000000) :
    Tail wr w5 v5 tv nv l0 st.ts st.ns := by
  have hr' : RowB w5.drew wr.heap.size v5 l0 := hr.block fun _ _ => rfl
  have ho' : Olds wr w5.drew := ho.drew
  have step1 : ∃ v6 w6, (Builtin.append_ #[45, 45] 45 #[v5, tv]).run Try.prog w5.drew = .ok v6 w6 ∧ RowB w6 wr.heap.size v6 (l0 ++ st.ts) ∧ Olds wr w6 := by
    rcases Nat.eq_zero_or_pos st.ts.length with hz | hz
    · obtain ⟨A, c, rfl⟩ := h.ts.form
      have e : st.ts = [] := List.length_eq_zero_iff.1 hz
      refine ⟨v5, w5.drew, ?_, by rw [e, List.append_nil]; exact hr', ho'⟩
      rw [hz]
      exact run_append_zero hr' h0 _ A c
    · obtain ⟨gt, c, rfl, hc⟩ := (h.olds ho').ts.cells hz
      obtain ⟨v6, w6, r1, r2, r3, r4⟩ := run_append_b hr' 45 ⟨gt, 0, none⟩ c st.ts hz hc (by omega) ho'.size
      exact ⟨v6, w6, r1, .inl r2, ho'.grown r3 (fun b hb => (hr'.tag b hb).1)⟩
  obtain ⟨v6, w6, r1, r2, r3⟩ := step1
  obtain ⟨gn, c, hnv, hc⟩ := (h.olds r3).ns.cells h.n0
  subst hnv
  obtain ⟨v7, w7, q1, q2, q3, q4⟩ := run_append_b r2 45 ⟨gn, 0, none⟩ c st.ns h.n0 hc (by rw [List.length_append]; omega) r3.size
  exact ⟨v6, w6, v7, w7, r1, q1, own_str q2, r3, r3.grown q3 (fun b hb => (r2.tag b hb).1)⟩
set_option maxHeartbeats 4000000 in
theorem blob_any {w0 w wr : World} {g : Nat} {st : WS} (h : WA w0 w wr g st) (hs1 : st.ts.length ≤ 1000000000000) (hs2 : st.ns.length ≤ 1000000000000) :
    Calls Try.prog 14 #[.pointer (some ⟨g, 0, none⟩)] wr fun e w' => e = .returned (.string (bstr (blobW st))) ∧ Below w0.heap.size w0 w' := by
  obtain ⟨tv, nv, mb, n, hm, hn⟩ := h.wx
  obtain ⟨A1, k1, h1⟩ := hm.ts.form
  obtain ⟨A2, k2, h2⟩ := hm.ns.form
  subst h1
  subst h2
  have HM := Lib.hid hm
  have H := Lib.hid h
  have HS1 := Lib.hid hs1
  have HS2 := Lib.hid hs2
  have i1 : (st.ts.length : Int) ≤ 1000000000000 := by omega
  have i2 : (st.ns.length : Int) ≤ 1000000000000 := by omega
  have o1 : Olds wr (wr.alloc (.cells #[.int .u8 159, .int .u8 235, .int .u8 1, .int .u8 0, .int .u8 24, .int .u8 0, .int .u8 0, .int .u8 0] 5)).drew := ((Olds.refl wr).alloc _).drew
  have o2 : Olds wr ((wr.alloc (.cells #[.int .u8 159, .int .u8 235, .int .u8 1, .int .u8 0, .int .u8 24, .int .u8 0, .int .u8 0, .int .u8 0] 5)).alloc (.cells #[.int .i64 0, .int .i64 st.ts.length, .int .i64 st.ts.length, .int .i64 st.ns.length] 3)).drew := (((Olds.refl wr).alloc _).alloc _).drew
  have o3 : Olds wr ((wr.alloc (.cells #[.int .i64 0, .int .i64 st.ts.length, .int .i64 st.ts.length, .int .i64 st.ns.length] 3)).alloc (.cells #[.int .u8 159, .int .u8 235, .int .u8 1, .int .u8 0, .int .u8 24, .int .u8 0, .int .u8 0, .int .u8 0] 5)).drew := (((Olds.refl wr).alloc _).alloc _).drew
  have s1 : (wr.alloc (.cells #[.int .u8 159, .int .u8 235, .int .u8 1, .int .u8 0, .int .u8 24, .int .u8 0, .int .u8 0, .int .u8 0] 5)).drew.heap[wr.heap.size]? = some (.cells #[.int .u8 159, .int .u8 235, .int .u8 1, .int .u8 0, .int .u8 24, .int .u8 0, .int .u8 0, .int .u8 0] 5 (0, 0)) := heap_alloc_new wr _
  have s2 : ((wr.alloc (.cells #[.int .u8 159, .int .u8 235, .int .u8 1, .int .u8 0, .int .u8 24, .int .u8 0, .int .u8 0, .int .u8 0] 5)).alloc (.cells #[.int .i64 0, .int .i64 st.ts.length, .int .i64 st.ts.length, .int .i64 st.ns.length] 3)).drew.heap[wr.heap.size]? = some (.cells #[.int .u8 159, .int .u8 235, .int .u8 1, .int .u8 0, .int .u8 24, .int .u8 0, .int .u8 0, .int .u8 0] 5 (0, 0)) := (Below.heap_alloc _ _ _ (by simp)).trans (heap_alloc_new wr _)
  have t2 : ((wr.alloc (.cells #[.int .u8 159, .int .u8 235, .int .u8 1, .int .u8 0, .int .u8 24, .int .u8 0, .int .u8 0, .int .u8 0] 5)).alloc (.cells #[.int .i64 0, .int .i64 st.ts.length, .int .i64 st.ts.length, .int .i64 st.ns.length] 3)).drew.heap[wr.heap.size + 1]? = some (.cells #[.int .i64 0, .int .i64 st.ts.length, .int .i64 st.ts.length, .int .i64 st.ns.length] 3) := by
    have := heap_alloc_new (wr.alloc (.cells #[.int .u8 159, .int .u8 235, .int .u8 1, .int .u8 0, .int .u8 24, .int .u8 0, .int .u8 0, .int .u8 0] 5)) (.cells #[.int .i64 0, .int .i64 st.ts.length, .int .i64 st.ts.length, .int .i64 st.ns.length] 3)
    rwa [show (wr.alloc (.cells #[.int .u8 159, .int .u8 235, .int .u8 1, .int .u8 0, .int .u8 24, .int .u8 0, .int .u8 0, .int .u8 0] 5)).heap.size = wr.heap.size + 1 by simp] at this
  have t3 : ((wr.alloc (.cells #[.int .i64 0, .int .i64 st.ts.length, .int .i64 st.ts.length, .int .i64 st.ns.length] 3)).alloc (.cells #[.int .u8 159, .int .u8 235, .int .u8 1, .int .u8 0, .int .u8 24, .int .u8 0, .int .u8 0, .int .u8 0] 5)).drew.heap[wr.heap.size]? = some (.cells #[.int .i64 0, .int .i64 st.ts.length, .int .i64 st.ts.length, .int .i64 st.ns.length] 3) := (Below.heap_alloc _ _ _ (by simp)).trans (heap_alloc_new wr _)
  have s3 : ((wr.alloc (.cells #[.int .i64 0, .int .i64 st.ts.length, .int .i64 st.ts.length, .int .i64 st.ns.length] 3)).alloc (.cells #[.int .u8 159, .int .u8 235, .int .u8 1, .int .u8 0, .int .u8 24, .int .u8 0, .int .u8 0, .int .u8 0] 5)).drew.heap[wr.heap.size + 1]? = some (.cells #[.int .u8 159, .int .u8 235, .int .u8 1, .int .u8 0, .int .u8 24, .int .u8 0, .int .u8 0, .int .u8 0] 5 (0, 0)) := by
    have := heap_alloc_new (wr.alloc (.cells #[.int .i64 0, .int .i64 st.ts.length, .int .i64 st.ts.length, .int .i64 st.ns.length] 3)) (.cells #[.int .u8 159, .int .u8 235, .int .u8 1, .int .u8 0, .int .u8 24, .int .u8 0, .int .u8 0, .int .u8 0] 5)
    rwa [show (wr.alloc (.cells #[.int .i64 0, .int .i64 st.ts.length, .int .i64 st.ts.length, .int .i64 st.ns.length] 3)).heap.size = wr.heap.size + 1 by simp] at this
  have K1 := conv_mark s1 8 8
  have K2 := conv_mark s2 8 8
  have K3 := conv_mark s3 8 8
  have p1 := o1.freeze wr.heap.size 8 1 (Nat.le_refl _)
  have p2 := o2.freeze wr.heap.size 8 1 (Nat.le_refl _)
  have p3 := o3.freeze (wr.heap.size + 1) 8 1 (by omega)
  obtain ⟨fr1, f1⟩ := freeze_same _ wr.heap.size 8 1 _ _ _ s1
  obtain ⟨fr2, f2⟩ := freeze_same _ wr.heap.size 8 1 _ _ _ s2
  obtain ⟨fr3, f3⟩ := freeze_same _ (wr.heap.size + 1) 8 1 _ _ _ s3
  have u2 := (freeze_other ((wr.alloc (.cells #[.int .u8 159, .int .u8 235, .int .u8 1, .int .u8 0, .int .u8 24, .int .u8 0, .int .u8 0, .int .u8 0] 5)).alloc (.cells #[.int .i64 0, .int .i64 st.ts.length, .int .i64 st.ts.length, .int .i64 st.ns.length] 3)).drew wr.heap.size 8 1 (wr.heap.size + 1) (by omega)).trans t2
  have u3 := (freeze_other ((wr.alloc (.cells #[.int .i64 0, .int .i64 st.ts.length, .int .i64 st.ts.length, .int .i64 st.ns.length] 3)).alloc (.cells #[.int .u8 159, .int .u8 235, .int .u8 1, .int .u8 0, .int .u8 24, .int .u8 0, .int .u8 0, .int .u8 0] 5)).drew (wr.heap.size + 1) 8 1 wr.heap.size (by omega)).trans t3
  rw [show (#[.int .u8 159, .int .u8 235, .int .u8 1, .int .u8 0, .int .u8 24, .int .u8 0, .int .u8 0, .int .u8 0] : Array Value).size = 8 from rfl] at K1 K2 K3
  obtain ⟨X1, hX1⟩ : ∃ X, X = ((wr.alloc (.cells #[.int .u8 159, .int .u8 235, .int .u8 1, .int .u8 0, .int .u8 24, .int .u8 0, .int .u8 0, .int .u8 0] 5)).drew).freeze ⟨wr.heap.size, 8, none⟩ 1 := ⟨_, rfl⟩
  obtain ⟨X2, hX2⟩ : ∃ X, X = (((wr.alloc (.cells #[.int .u8 159, .int .u8 235, .int .u8 1, .int .u8 0, .int .u8 24, .int .u8 0, .int .u8 0, .int .u8 0] 5)).alloc (.cells #[.int .i64 0, .int .i64 st.ts.length, .int .i64 st.ts.length, .int .i64 st.ns.length] 3)).drew).freeze ⟨wr.heap.size, 8, none⟩ 1 := ⟨_, rfl⟩
  obtain ⟨X3, hX3⟩ : ∃ X, X = (((wr.alloc (.cells #[.int .i64 0, .int .i64 st.ts.length, .int .i64 st.ts.length, .int .i64 st.ns.length] 3)).alloc (.cells #[.int .u8 159, .int .u8 235, .int .u8 1, .int .u8 0, .int .u8 24, .int .u8 0, .int .u8 0, .int .u8 0] 5)).drew).freeze ⟨wr.heap.size + 1, 8, none⟩ 1 := ⟨_, rfl⟩
  rw [← hX1] at K1 p1 f1
  rw [← hX2] at K2 p2 f2 u2
  rw [← hX3] at K3 p3 f3 u3
  have v1 : (X1.alloc (.cells #[.int .i64 0, .int .i64 st.ts.length, .int .i64 st.ts.length, .int .i64 st.ns.length] 3)).heap[wr.heap.size]? = some (.cells #[.int .u8 159, .int .u8 235, .int .u8 1, .int .u8 0, .int .u8 24, .int .u8 0, .int .u8 0, .int .u8 0] 5 fr1) := (Below.heap_alloc _ _ _ (lt_of_some f1)).trans f1
  have C1 := Lib.hid (head_call wr.heap.size X1.heap.size st.ts.length st.ns.length fr1 (p1.alloc (.cells #[.int .i64 0, .int .i64 st.ts.length, .int .i64 st.ts.length, .int .i64 st.ns.length] 3)) (Nat.le_refl _) p1.size v1 (heap_alloc_new X1 _))
  have C2 := Lib.hid (head_call wr.heap.size (wr.heap.size + 1) st.ts.length st.ns.length fr2 p2 (Nat.le_refl _) (by omega) f2 u2)
  have C3 := Lib.hid (head_call (wr.heap.size + 1) wr.heap.size st.ts.length st.ns.length fr3 p3 (by omega) (Nat.le_refl _) f3 u3)
  have c0 : wr.cell? ⟨g, 0, none⟩ = some (.slice A1 st.ts.length k1) := hm.blk.cell 0
  have c1 : wr.cell? ⟨g, 1, none⟩ = some (.slice A2 st.ns.length k2) := hm.blk.cell 1
  have x0 : (wr.alloc (.cells #[.int .u8 159, .int .u8 235, .int .u8 1, .int .u8 0, .int .u8 24, .int .u8 0, .int .u8 0, .int .u8 0] 5)).drew.cell? ⟨g, 0, none⟩ = some (.slice A1 st.ts.length k1) := (hm.olds o1).blk.cell 0
  have x1 : (wr.alloc (.cells #[.int .u8 159, .int .u8 235, .int .u8 1, .int .u8 0, .int .u8 24, .int .u8 0, .int .u8 0, .int .u8 0] 5)).drew.cell? ⟨g, 1, none⟩ = some (.slice A2 st.ns.length k2) := (hm.olds o1).blk.cell 1
  have y0 : ((wr.alloc (.cells #[.int .u8 159, .int .u8 235, .int .u8 1, .int .u8 0, .int .u8 24, .int .u8 0, .int .u8 0, .int .u8 0] 5)).alloc (.cells #[.int .i64 0, .int .i64 st.ts.length, .int .i64 st.ts.length, .int .i64 st.ns.length] 3)).drew.cell? ⟨g, 0, none⟩ = some (.slice A1 st.ts.length k1) := (hm.olds o2).blk.cell 0
  have y1 : ((wr.alloc (.cells #[.int .u8 159, .int .u8 235, .int .u8 1, .int .u8 0, .int .u8 24, .int .u8 0, .int .u8 0, .int .u8 0] 5)).alloc (.cells #[.int .i64 0, .int .i64 st.ts.length, .int .i64 st.ts.length, .int .i64 st.ns.length] 3)).drew.cell? ⟨g, 1, none⟩ = some (.slice A2 st.ns.length k2) := (hm.olds o2).blk.cell 1
  have z0 : ((wr.alloc (.cells #[.int .i64 0, .int .i64 st.ts.length, .int .i64 st.ts.length, .int .i64 st.ns.length] 3)).alloc (.cells #[.int .u8 159, .int .u8 235, .int .u8 1, .int .u8 0, .int .u8 24, .int .u8 0, .int .u8 0, .int .u8 0] 5)).drew.cell? ⟨g, 0, none⟩ = some (.slice A1 st.ts.length k1) := (hm.olds o3).blk.cell 0
  have z1 : ((wr.alloc (.cells #[.int .i64 0, .int .i64 st.ts.length, .int .i64 st.ts.length, .int .i64 st.ns.length] 3)).alloc (.cells #[.int .u8 159, .int .u8 235, .int .u8 1, .int .u8 0, .int .u8 24, .int .u8 0, .int .u8 0, .int .u8 0] 5)).drew.cell? ⟨g, 1, none⟩ = some (.slice A2 st.ns.length k2) := (hm.olds o3).blk.cell 1
  have q0 : X1.cell? ⟨g, 0, none⟩ = some (.slice A1 st.ts.length k1) := (hm.olds p1).blk.cell 0
  have q1 : X1.cell? ⟨g, 1, none⟩ = some (.slice A2 st.ns.length k2) := (hm.olds p1).blk.cell 1
  have r0 : (X1.alloc (.cells #[.int .i64 0, .int .i64 st.ts.length, .int .i64 st.ts.length, .int .i64 st.ns.length] 3)).cell? ⟨g, 0, none⟩ = some (.slice A1 st.ts.length k1) := (hm.olds (p1.alloc _)).blk.cell 0
  have r1 : (X1.alloc (.cells #[.int .i64 0, .int .i64 st.ts.length, .int .i64 st.ts.length, .int .i64 st.ns.length] 3)).cell? ⟨g, 1, none⟩ = some (.slice A2 st.ns.length k2) := (hm.olds (p1.alloc _)).blk.cell 1
  have a0 : X2.cell? ⟨g, 0, none⟩ = some (.slice A1 st.ts.length k1) := (hm.olds p2).blk.cell 0
  have a1 : X2.cell? ⟨g, 1, none⟩ = some (.slice A2 st.ns.length k2) := (hm.olds p2).blk.cell 1
  have b0 : X3.cell? ⟨g, 0, none⟩ = some (.slice A1 st.ts.length k1) := (hm.olds p3).blk.cell 0
  have b1 : X3.cell? ⟨g, 1, none⟩ = some (.slice A2 st.ns.length k2) := (hm.olds p3).blk.cell 1
  have e0 : (wr.alloc (.cells #[.int .i64 0, .int .i64 st.ts.length, .int .i64 st.ts.length, .int .i64 st.ns.length] 3)).drew.cell? ⟨g, 0, none⟩ = some (.slice A1 st.ts.length k1) := (hm.olds (((Olds.refl wr).alloc _).drew)).blk.cell 0
  have e1 : (wr.alloc (.cells #[.int .i64 0, .int .i64 st.ts.length, .int .i64 st.ts.length, .int .i64 st.ns.length] 3)).drew.cell? ⟨g, 1, none⟩ = some (.slice A2 st.ns.length k2) := (hm.olds (((Olds.refl wr).alloc _).drew)).blk.cell 1
  clear hm h hn hs1 hs2 hX1 hX2 hX3 o1 o2 o3 s1 s2 s3 t2 t3 p1 p2 p3 f1 f2 f3 u2 u3 v1
  go_enter Try.func14, Try.ntmps14
  go_wp2_with fail
  refine wp_region_noPanic ?_
  refine wp_region_held_drew (S := (fun W => W.cell? ⟨g, 0, none⟩ = some (.slice A1 st.ts.length k1) ∧ W.cell? ⟨g, 1, none⟩ = some (.slice A2 st.ns.length k2))) (by kernel_rfl) ⟨c0, c1⟩ (fun hHeld => ?_)
  refine wpAnyH_take (i := 2) (oi := _) (v := ?_) rfl (by kernel_rfl) (by kernel_rfl) (by kernel_rfl) (fun _ _ _ h => h) (Or.inl ⟨by kernel_rfl, ?_⟩) (by assumption) ?_
  rotate_left 1
  · intro w hSw; obtain ⟨hs0, hs1⟩ := hSw; go_simp; (try with_reducible rfl)
  try simp only [Act.put, List.getElem_toArray, List.getElem_cons_succ, List.getElem_cons_zero, List.setIfInBounds_toArray, List.set_cons_zero, List.set_cons_succ]
  refine wpAnyH_take (i := 3) (oi := _) (v := ?_) rfl (by kernel_rfl) (by kernel_rfl) (by kernel_rfl) (fun _ _ _ h => h) (Or.inl ⟨by kernel_rfl, ?_⟩) (by assumption) ?_
  rotate_left 1
  · intro w hSw; obtain ⟨hs0, hs1⟩ := hSw; go_simp; (try with_reducible rfl)
  try simp only [Act.put, List.getElem_toArray, List.getElem_cons_succ, List.getElem_cons_zero, List.setIfInBounds_toArray, List.set_cons_zero, List.set_cons_succ]
  refine wpAnyH_take (i := 4) (oi := _) (v := ?_) rfl (by kernel_rfl) (by kernel_rfl) (by kernel_rfl) (fun _ _ _ h => h) (Or.inl ⟨by kernel_rfl, ?_⟩) (by assumption) ?_
  rotate_left 1
  · intro w hSw; obtain ⟨hs0, hs1⟩ := hSw; go_simp; (try with_reducible rfl)
  try simp only [Act.put, List.getElem_toArray, List.getElem_cons_succ, List.getElem_cons_zero, List.setIfInBounds_toArray, List.set_cons_zero, List.set_cons_succ]
  refine wpAnyH_take (i := 5) (oi := _) (v := ?_) rfl (by kernel_rfl) (by kernel_rfl) (by kernel_rfl) (fun _ _ _ h => h) (Or.inl ⟨by kernel_rfl, ?_⟩) (by assumption) ?_
  rotate_left 1
  · intro w hSw; obtain ⟨hs0, hs1⟩ := hSw; go_simp; (try with_reducible rfl)
  try simp only [Act.put, List.getElem_toArray, List.getElem_cons_succ, List.getElem_cons_zero, List.setIfInBounds_toArray, List.set_cons_zero, List.set_cons_succ]
  refine wpAnyH_take (i := 6) (oi := _) (v := ?_) rfl (by kernel_rfl) (by kernel_rfl) (by kernel_rfl) (fun _ _ _ h => h) (Or.inl ⟨by kernel_rfl, ?_⟩) (by assumption) ?_
  rotate_left 1
  · intro w hSw; obtain ⟨hs0, hs1⟩ := hSw; go_simp; (try with_reducible rfl)
  try simp only [Act.put, List.getElem_toArray, List.getElem_cons_succ, List.getElem_cons_zero, List.setIfInBounds_toArray, List.set_cons_zero, List.set_cons_succ]
  refine wpAnyH_take (i := 7) (oi := _) (v := ?_) rfl (by kernel_rfl) (by kernel_rfl) (by kernel_rfl) (fun _ _ _ h => h) (Or.inl ⟨by kernel_rfl, ?_⟩) (by assumption) ?_
  rotate_left 1
  · intro w hSw; obtain ⟨hs0, hs1⟩ := hSw; go_simp; (try with_reducible rfl)
  try simp only [Act.put, List.getElem_toArray, List.getElem_cons_succ, List.getElem_cons_zero, List.setIfInBounds_toArray, List.set_cons_zero, List.set_cons_succ]
  refine wpAnyH_take (i := 8) (oi := _) (v := ?_) rfl (by kernel_rfl) (by kernel_rfl) (by kernel_rfl) (fun _ _ _ h => h) (Or.inl ⟨by kernel_rfl, ?_⟩) (by assumption) ?_
  rotate_left 1
  · intro w hSw; obtain ⟨hs0, hs1⟩ := hSw; go_simp; (try with_reducible rfl)
  try simp only [Act.put, List.getElem_toArray, List.getElem_cons_succ, List.getElem_cons_zero, List.setIfInBounds_toArray, List.set_cons_zero, List.set_cons_succ]
  refine wpAnyH_take (i := 9) (oi := _) (v := ?_) rfl (by kernel_rfl) (by kernel_rfl) (by kernel_rfl) (fun _ _ _ h => h) (Or.inl ⟨by kernel_rfl, ?_⟩) (by assumption) ?_
  rotate_left 1
  · intro w hSw; obtain ⟨hs0, hs1⟩ := hSw; go_simp; (try with_reducible rfl)
  try simp only [Act.put, List.getElem_toArray, List.getElem_cons_succ, List.getElem_cons_zero, List.setIfInBounds_toArray, List.set_cons_zero, List.set_cons_succ]
  refine wpAnyH_take (i := 10) (oi := _) (v := ?_) rfl (by kernel_rfl) (by kernel_rfl) (by kernel_rfl) (fun _ _ _ h => h) (Or.inl ⟨by kernel_rfl, ?_⟩) (by assumption) ?_
  rotate_left 1
  · intro w hSw; obtain ⟨hs0, hs1⟩ := hSw; go_simp; (try with_reducible rfl)
  try simp only [Act.put, List.getElem_toArray, List.getElem_cons_succ, List.getElem_cons_zero, List.setIfInBounds_toArray, List.set_cons_zero, List.set_cons_succ]
  refine wpAnyH_take (i := 11) (oi := _) (v := ?_) rfl (by kernel_rfl) (by kernel_rfl) (by kernel_rfl) (fun _ _ _ h => h) (Or.inl ⟨by kernel_rfl, ?_⟩) (by assumption) ?_
  rotate_left 1
  · intro w hSw; obtain ⟨hs0, hs1⟩ := hSw; go_simp; (try with_reducible rfl)
  try simp only [Act.put, List.getElem_toArray, List.getElem_cons_succ, List.getElem_cons_zero, List.setIfInBounds_toArray, List.set_cons_zero, List.set_cons_succ]
  refine wpAnyH_take (i := 12) (oi := _) (v := ?_) rfl (by kernel_rfl) (by kernel_rfl) (by kernel_rfl) (fun _ _ _ h => h) (Or.inl ⟨by kernel_rfl, ?_⟩) (by assumption) ?_
  rotate_left 1
  · intro w hSw; obtain ⟨hs0, hs1⟩ := hSw; go_simp; (try with_reducible rfl)
  try simp only [Act.put, List.getElem_toArray, List.getElem_cons_succ, List.getElem_cons_zero, List.setIfInBounds_toArray, List.set_cons_zero, List.set_cons_succ]
  refine wpAnyH_take (i := 13) (oi := _) (v := ?_) rfl (by kernel_rfl) (by kernel_rfl) (by kernel_rfl) (fun _ _ _ h => h) (Or.inl ⟨by kernel_rfl, ?_⟩) (by assumption) ?_
  rotate_left 1
  · intro w hSw; obtain ⟨hs0, hs1⟩ := hSw; go_simp; (try with_reducible rfl)
  try simp only [Act.put, List.getElem_toArray, List.getElem_cons_succ, List.getElem_cons_zero, List.setIfInBounds_toArray, List.set_cons_zero, List.set_cons_succ]
  refine wpAnyH_take (i := 14) (oi := _) (v := ?_) rfl (by kernel_rfl) (by kernel_rfl) (by kernel_rfl) (fun _ _ _ h => h) (Or.inl ⟨by kernel_rfl, ?_⟩) (by assumption) ?_
  rotate_left 1
  · intro w hSw; obtain ⟨hs0, hs1⟩ := hSw; go_simp; (try with_reducible rfl)
  try simp only [Act.put, List.getElem_toArray, List.getElem_cons_succ, List.getElem_cons_zero, List.setIfInBounds_toArray, List.set_cons_zero, List.set_cons_succ]
  refine wpAnyH_take (i := 15) (oi := _) (v := ?_) rfl (by kernel_rfl) (by kernel_rfl) (by kernel_rfl) (fun _ _ _ h => h) (Or.inl ⟨by kernel_rfl, ?_⟩) (by assumption) ?_
  rotate_left 1
  · intro w hSw; obtain ⟨hs0, hs1⟩ := hSw; go_simp; (try with_reducible rfl)
  try simp only [Act.put, List.getElem_toArray, List.getElem_cons_succ, List.getElem_cons_zero, List.setIfInBounds_toArray, List.set_cons_zero, List.set_cons_succ]
  refine wpAnyH_take (i := 16) (oi := _) (v := ?_) rfl (by kernel_rfl) (by kernel_rfl) (by kernel_rfl) (fun _ _ _ h => h) (Or.inl ⟨by kernel_rfl, ?_⟩) (by assumption) ?_
  rotate_left 1
  · intro w hSw; obtain ⟨hs0, hs1⟩ := hSw; go_simp; (try with_reducible rfl)
  try simp only [Act.put, List.getElem_toArray, List.getElem_cons_succ, List.getElem_cons_zero, List.setIfInBounds_toArray, List.set_cons_zero, List.set_cons_succ]
  refine wpAnyH_ready (rs := [0, 17]) (by kernel_rfl) (by simp) ?_
  refine AllReadyH.cons (o := _) rfl (fun K hK => ?_) (AllReadyH.cons (o := _) rfl (fun K hK => ?_) AllReadyH.nil)
  · go_simp
    refine hK.out _ _ ⟨x0, x1⟩ (fun hHeld => ?_)
    clear hK K
    try simp only [Act.put, List.getElem_toArray, List.getElem_cons_succ, List.getElem_cons_zero, List.setIfInBounds_toArray, List.set_cons_zero, List.set_cons_succ]
    refine wpAnyH_ready (rs := [1, 17]) (by kernel_rfl) (by simp) ?_
    refine AllReadyH.cons (o := _) rfl (fun K hK => ?_) (AllReadyH.cons (o := _) rfl (fun K hK => ?_) AllReadyH.nil)
    · go_simp
      refine hK.out _ _ ⟨q0, q1⟩ (fun hHeld => ?_)
      clear hK K
      try simp only [Act.put, List.getElem_toArray, List.getElem_cons_succ, List.getElem_cons_zero, List.setIfInBounds_toArray, List.set_cons_zero, List.set_cons_succ]
      refine wpAnyH_ready (rs := [17]) (by kernel_rfl) (by simp) ?_
      refine AllReadyH.cons (o := _) rfl (fun K hK => ?_) AllReadyH.nil
      go_simp
      refine hK.out _ _ ⟨r0, r1⟩ (fun hHeld => ?_)
      clear hK K
      try simp only [Act.put, List.getElem_toArray, List.getElem_cons_succ, List.getElem_cons_zero, List.setIfInBounds_toArray, List.set_cons_zero, List.set_cons_succ]
      refine wpAnyH_ready (rs := [18]) (by kernel_rfl) (by simp) ?_
      refine AllReadyH.cons (o := _) rfl (fun K hK => ?_) AllReadyH.nil
      go_simp
      go_at_call 29
      refine C1.out.mono ?_
      rintro e w5 ⟨v5, rfl, hr5, ho5, hn5⟩; have HM5 := Lib.hid (HM.out.olds ho5); have g0 : w5.cell? ⟨g, 0, none⟩ = some (.slice A1 st.ts.length k1) := HM5.out.blk.cell 0; have g1 : w5.cell? ⟨g, 1, none⟩ = some (.slice A2 st.ns.length k2) := HM5.out.blk.cell 1; have HT5 := Lib.hid (tail_any HM.out hr5 ho5 (by simp [opening]) (by simp [opening, le4s, le4_length]) HS1.out HS2.out); clear hr5 ho5 hn5
      go_wp2_with fail
      refine hK.out _ _ ⟨g0, g1⟩ (fun hHeld => ?_)
      clear hK K
      try simp only [Act.put, List.getElem_toArray, List.getElem_cons_succ, List.getElem_cons_zero, List.setIfInBounds_toArray, List.set_cons_zero, List.set_cons_succ]
      refine wpAnyH_take (i := 19) (oi := _) (v := ?_) rfl (by kernel_rfl) (by kernel_rfl) (by kernel_rfl) (fun _ _ _ h => h) (Or.inl ⟨by kernel_rfl, ?_⟩) (by assumption) ?_
      rotate_left 1
      · intro w hSw; obtain ⟨hs0, hs1⟩ := hSw; go_simp; (try with_reducible rfl)
      try simp only [Act.put, List.getElem_toArray, List.getElem_cons_succ, List.getElem_cons_zero, List.setIfInBounds_toArray, List.set_cons_zero, List.set_cons_succ]
      refine wpAnyH_done (by kernel_rfl) ?_ _
      refine NoPanic.normal ?_
      obtain ⟨v6, w6, v7, w7, p6, p7, p8, ho6, ho7⟩ := HT5.out
      have HR1 := Lib.hid p6
      have HR2 := Lib.hid p7
      have HO7 := Lib.hid ho7
      have l0 : w6.cell? ⟨g, 0, none⟩ = some (.slice A1 st.ts.length k1) := (HM.out.olds ho6).blk.cell 0
      have l1 : w6.cell? ⟨g, 1, none⟩ = some (.slice A2 st.ns.length k2) := (HM.out.olds ho6).blk.cell 1
      have m0 : w7.cell? ⟨g, 0, none⟩ = some (.slice A1 st.ts.length k1) := (HM.out.olds ho7).blk.cell 0
      have m1 : w7.cell? ⟨g, 1, none⟩ = some (.slice A2 st.ns.length k2) := (HM.out.olds ho7).blk.cell 1
      have h0 : w5.drew.cell? ⟨g, 0, none⟩ = some (.slice A1 st.ts.length k1) := g0
      have h1 : w5.drew.cell? ⟨g, 1, none⟩ = some (.slice A2 st.ns.length k2) := g1
      clear p6 p7 ho6 ho7
      go_wp2_with fail
      refine wp_region_noPanic ?_
      refine wp_region_held_drew (S := (fun W => W.cell? ⟨g, 0, none⟩ = some (.slice A1 st.ts.length k1) ∧ W.cell? ⟨g, 1, none⟩ = some (.slice A2 st.ns.length k2))) (by kernel_rfl) ⟨h0, h1⟩ (fun hHeld => ?_)
      refine wpAnyH_take (i := 0) (oi := _) (v := ?_) rfl (by kernel_rfl) (by kernel_rfl) (by kernel_rfl) (fun _ _ _ h => h) (Or.inl ⟨by kernel_rfl, ?_⟩) (by assumption) ?_
      rotate_left 1
      · intro w hSw; obtain ⟨hs0, hs1⟩ := hSw; go_simp; (try with_reducible rfl)
      try simp only [Act.put, List.getElem_toArray, List.getElem_cons_succ, List.getElem_cons_zero, List.setIfInBounds_toArray, List.set_cons_zero, List.set_cons_succ]
      refine wpAnyH_take (i := 1) (oi := _) (v := ?_) rfl (by kernel_rfl) (by kernel_rfl) (by kernel_rfl) (fun _ _ _ h => h) (Or.inl ⟨by kernel_rfl, ?_⟩) (by assumption) ?_
      rotate_left 1
      · intro w hSw; obtain ⟨hs0, hs1⟩ := hSw; go_simp; (try with_reducible rfl)
      try simp only [Act.put, List.getElem_toArray, List.getElem_cons_succ, List.getElem_cons_zero, List.setIfInBounds_toArray, List.set_cons_zero, List.set_cons_succ]
      refine wpAnyH_take (i := 2) (oi := _) (v := ?_) rfl (by kernel_rfl) (by kernel_rfl) (by kernel_rfl) (fun _ _ _ h => h) (Or.inl ⟨by kernel_rfl, ?_⟩) (by assumption) ?_
      rotate_left 1
      · intro w hSw; obtain ⟨hs0, hs1⟩ := hSw; go_simp; (try with_reducible rfl)
      try simp only [Act.put, List.getElem_toArray, List.getElem_cons_succ, List.getElem_cons_zero, List.setIfInBounds_toArray, List.set_cons_zero, List.set_cons_succ]
      refine wpAnyH_take (i := 3) (oi := _) (v := ?_) rfl (by kernel_rfl) (by kernel_rfl) (by kernel_rfl) (fun _ _ _ h => h) (Or.inl ⟨by kernel_rfl, ?_⟩) (by assumption) ?_
      rotate_left 1
      · intro w hSw; obtain ⟨hs0, hs1⟩ := hSw; go_simp; (try with_reducible rfl)
      try simp only [Act.put, List.getElem_toArray, List.getElem_cons_succ, List.getElem_cons_zero, List.setIfInBounds_toArray, List.set_cons_zero, List.set_cons_succ]
      refine wpAnyH_take (i := 4) (oi := _) (v := ?_) rfl (by kernel_rfl) (by kernel_rfl) (by kernel_rfl) (fun _ _ _ h => h) (Or.inl ⟨by kernel_rfl, ?_⟩) (by assumption) ?_
      rotate_left 1
      · intro w hSw; obtain ⟨hs0, hs1⟩ := hSw; go_simp; (try with_reducible rfl)
      try simp only [Act.put, List.getElem_toArray, List.getElem_cons_succ, List.getElem_cons_zero, List.setIfInBounds_toArray, List.set_cons_zero, List.set_cons_succ]
      refine wpAnyH_take (i := 6) (oi := _) (v := ?_) rfl (by kernel_rfl) (by kernel_rfl) (by kernel_rfl) (fun _ _ _ h => h) (Or.inl ⟨by kernel_rfl, ?_⟩) (by assumption) ?_
      rotate_left 1
      · intro w hSw; obtain ⟨hs0, hs1⟩ := hSw; go_simp; (try with_reducible rfl)
      try simp only [Act.put, List.getElem_toArray, List.getElem_cons_succ, List.getElem_cons_zero, List.setIfInBounds_toArray, List.set_cons_zero, List.set_cons_succ]
      refine wpAnyH_take (i := 7) (oi := _) (v := ?_) rfl (by kernel_rfl) (by kernel_rfl) (by kernel_rfl) (fun _ _ _ h => h) (Or.inl ⟨by kernel_rfl, ?_⟩) (by assumption) ?_
      rotate_left 1
      · intro w hSw; obtain ⟨hs0, hs1⟩ := hSw; go_simp; (try with_reducible rfl)
      try simp only [Act.put, List.getElem_toArray, List.getElem_cons_succ, List.getElem_cons_zero, List.setIfInBounds_toArray, List.set_cons_zero, List.set_cons_succ]
      refine wpAnyH_take (i := 8) (oi := _) (v := ?_) rfl (by kernel_rfl) (by kernel_rfl) (by kernel_rfl) (fun _ _ _ h => h) (Or.inl ⟨by kernel_rfl, ?_⟩) (by assumption) ?_
      rotate_left 1
      · intro w hSw; obtain ⟨hs0, hs1⟩ := hSw; go_simp; (try with_reducible rfl)
      try simp only [Act.put, List.getElem_toArray, List.getElem_cons_succ, List.getElem_cons_zero, List.setIfInBounds_toArray, List.set_cons_zero, List.set_cons_succ]
      refine wpAnyH_take (i := 9) (oi := _) (v := ?_) rfl (by kernel_rfl) (by kernel_rfl) (by kernel_rfl) (fun _ _ _ h => h) (Or.inl ⟨by kernel_rfl, ?_⟩) (by assumption) ?_
      rotate_left 1
      · intro w hSw; obtain ⟨hs0, hs1⟩ := hSw; go_simp; (try with_reducible rfl)
      try simp only [Act.put, List.getElem_toArray, List.getElem_cons_succ, List.getElem_cons_zero, List.setIfInBounds_toArray, List.set_cons_zero, List.set_cons_succ]
      refine wpAnyH_ready (rs := [5]) (by kernel_rfl) (by simp) ?_
      refine AllReadyH.cons (o := _) rfl (fun K hK => ?_) AllReadyH.nil
      refine step_append_runT (by rfl) (.tmp 23) (.tmp 27) 45 45 (by rfl) v5 (.slice A1 st.ts.length k1) v6 w6 (by rfl) (by rfl) 45 (by rfl) HR1.out ?_
      refine hK.out _ _ ⟨l0, l1⟩ (fun hHeld => ?_)
      clear hK K
      try simp only [Act.put, List.getElem_toArray, List.getElem_cons_succ, List.getElem_cons_zero, List.setIfInBounds_toArray, List.set_cons_zero, List.set_cons_succ]
      refine wpAnyH_ready (rs := [10]) (by kernel_rfl) (by simp) ?_
      refine AllReadyH.cons (o := _) rfl (fun K hK => ?_) AllReadyH.nil
      refine step_append_runT (by rfl) (.tmp 28) (.tmp 32) 45 45 (by rfl) v6 (.slice A2 st.ns.length k2) v7 w7 (by rfl) (by rfl) 45 (by rfl) HR2.out ?_
      refine hK.out _ _ ⟨m0, m1⟩ (fun hHeld => ?_)
      clear hK K
      try simp only [Act.put, List.getElem_toArray, List.getElem_cons_succ, List.getElem_cons_zero, List.setIfInBounds_toArray, List.set_cons_zero, List.set_cons_succ]
      refine wpAnyH_ready (rs := [11]) (by kernel_rfl) (by simp) ?_
      refine AllReadyH.cons (o := _) rfl (fun K hK => ?_) AllReadyH.nil
      go_simp
      refine hK.out _ _ ⟨m0, m1⟩ (fun hHeld => ?_)
      clear hK K
      try simp only [Act.put, List.getElem_toArray, List.getElem_cons_succ, List.getElem_cons_zero, List.setIfInBounds_toArray, List.set_cons_zero, List.set_cons_succ]
      refine wpAnyH_take (i := 12) (oi := _) (v := ?_) rfl (by kernel_rfl) (by kernel_rfl) (by kernel_rfl) (fun _ _ _ h => h) (Or.inl ⟨by kernel_rfl, ?_⟩) (by assumption) ?_
      rotate_left 1
      · intro w hSw; obtain ⟨hs0, hs1⟩ := hSw; go_simp; (try with_reducible rfl)
      try simp only [Act.put, List.getElem_toArray, List.getElem_cons_succ, List.getElem_cons_zero, List.setIfInBounds_toArray, List.set_cons_zero, List.set_cons_succ]
      refine wpAnyH_done (by kernel_rfl) ?_ _
      refine NoPanic.normal ?_
      go_wp2_with fail
      go_ret
      refine ⟨?_, H.out.below.trans (HO7.out.below H.out.below.size)⟩
      rfl
    · go_simp
      refine hK.out _ _ ⟨y0, y1⟩ (fun hHeld => ?_)
      clear hK K
      try simp only [Act.put, List.getElem_toArray, List.getElem_cons_succ, List.getElem_cons_zero, List.setIfInBounds_toArray, List.set_cons_zero, List.set_cons_succ]
      refine wpAnyH_ready (rs := [1]) (by kernel_rfl) (by simp) ?_
      refine AllReadyH.cons (o := _) rfl (fun K hK => ?_) AllReadyH.nil
      go_simp
      refine hK.out _ _ ⟨a0, a1⟩ (fun hHeld => ?_)
      clear hK K
      try simp only [Act.put, List.getElem_toArray, List.getElem_cons_succ, List.getElem_cons_zero, List.setIfInBounds_toArray, List.set_cons_zero, List.set_cons_succ]
      refine wpAnyH_ready (rs := [18]) (by kernel_rfl) (by simp) ?_
      refine AllReadyH.cons (o := _) rfl (fun K hK => ?_) AllReadyH.nil
      go_simp
      go_at_call 29
      refine C2.out.mono ?_
      rintro e w5 ⟨v5, rfl, hr5, ho5, hn5⟩; have HM5 := Lib.hid (HM.out.olds ho5); have g0 : w5.cell? ⟨g, 0, none⟩ = some (.slice A1 st.ts.length k1) := HM5.out.blk.cell 0; have g1 : w5.cell? ⟨g, 1, none⟩ = some (.slice A2 st.ns.length k2) := HM5.out.blk.cell 1; have HT5 := Lib.hid (tail_any HM.out hr5 ho5 (by simp [opening]) (by simp [opening, le4s, le4_length]) HS1.out HS2.out); clear hr5 ho5 hn5
      go_wp2_with fail
      refine hK.out _ _ ⟨g0, g1⟩ (fun hHeld => ?_)
      clear hK K
      try simp only [Act.put, List.getElem_toArray, List.getElem_cons_succ, List.getElem_cons_zero, List.setIfInBounds_toArray, List.set_cons_zero, List.set_cons_succ]
      refine wpAnyH_take (i := 19) (oi := _) (v := ?_) rfl (by kernel_rfl) (by kernel_rfl) (by kernel_rfl) (fun _ _ _ h => h) (Or.inl ⟨by kernel_rfl, ?_⟩) (by assumption) ?_
      rotate_left 1
      · intro w hSw; obtain ⟨hs0, hs1⟩ := hSw; go_simp; (try with_reducible rfl)
      try simp only [Act.put, List.getElem_toArray, List.getElem_cons_succ, List.getElem_cons_zero, List.setIfInBounds_toArray, List.set_cons_zero, List.set_cons_succ]
      refine wpAnyH_done (by kernel_rfl) ?_ _
      refine NoPanic.normal ?_
      obtain ⟨v6, w6, v7, w7, p6, p7, p8, ho6, ho7⟩ := HT5.out
      have HR1 := Lib.hid p6
      have HR2 := Lib.hid p7
      have HO7 := Lib.hid ho7
      have l0 : w6.cell? ⟨g, 0, none⟩ = some (.slice A1 st.ts.length k1) := (HM.out.olds ho6).blk.cell 0
      have l1 : w6.cell? ⟨g, 1, none⟩ = some (.slice A2 st.ns.length k2) := (HM.out.olds ho6).blk.cell 1
      have m0 : w7.cell? ⟨g, 0, none⟩ = some (.slice A1 st.ts.length k1) := (HM.out.olds ho7).blk.cell 0
      have m1 : w7.cell? ⟨g, 1, none⟩ = some (.slice A2 st.ns.length k2) := (HM.out.olds ho7).blk.cell 1
      have h0 : w5.drew.cell? ⟨g, 0, none⟩ = some (.slice A1 st.ts.length k1) := g0
      have h1 : w5.drew.cell? ⟨g, 1, none⟩ = some (.slice A2 st.ns.length k2) := g1
      clear p6 p7 ho6 ho7
      go_wp2_with fail
      refine wp_region_noPanic ?_
      refine wp_region_held_drew (S := (fun W => W.cell? ⟨g, 0, none⟩ = some (.slice A1 st.ts.length k1) ∧ W.cell? ⟨g, 1, none⟩ = some (.slice A2 st.ns.length k2))) (by kernel_rfl) ⟨h0, h1⟩ (fun hHeld => ?_)
      refine wpAnyH_take (i := 0) (oi := _) (v := ?_) rfl (by kernel_rfl) (by kernel_rfl) (by kernel_rfl) (fun _ _ _ h => h) (Or.inl ⟨by kernel_rfl, ?_⟩) (by assumption) ?_
      rotate_left 1
      · intro w hSw; obtain ⟨hs0, hs1⟩ := hSw; go_simp; (try with_reducible rfl)
      try simp only [Act.put, List.getElem_toArray, List.getElem_cons_succ, List.getElem_cons_zero, List.setIfInBounds_toArray, List.set_cons_zero, List.set_cons_succ]
      refine wpAnyH_take (i := 1) (oi := _) (v := ?_) rfl (by kernel_rfl) (by kernel_rfl) (by kernel_rfl) (fun _ _ _ h => h) (Or.inl ⟨by kernel_rfl, ?_⟩) (by assumption) ?_
      rotate_left 1
      · intro w hSw; obtain ⟨hs0, hs1⟩ := hSw; go_simp; (try with_reducible rfl)
      try simp only [Act.put, List.getElem_toArray, List.getElem_cons_succ, List.getElem_cons_zero, List.setIfInBounds_toArray, List.set_cons_zero, List.set_cons_succ]
      refine wpAnyH_take (i := 2) (oi := _) (v := ?_) rfl (by kernel_rfl) (by kernel_rfl) (by kernel_rfl) (fun _ _ _ h => h) (Or.inl ⟨by kernel_rfl, ?_⟩) (by assumption) ?_
      rotate_left 1
      · intro w hSw; obtain ⟨hs0, hs1⟩ := hSw; go_simp; (try with_reducible rfl)
      try simp only [Act.put, List.getElem_toArray, List.getElem_cons_succ, List.getElem_cons_zero, List.setIfInBounds_toArray, List.set_cons_zero, List.set_cons_succ]
      refine wpAnyH_take (i := 3) (oi := _) (v := ?_) rfl (by kernel_rfl) (by kernel_rfl) (by kernel_rfl) (fun _ _ _ h => h) (Or.inl ⟨by kernel_rfl, ?_⟩) (by assumption) ?_
      rotate_left 1
      · intro w hSw; obtain ⟨hs0, hs1⟩ := hSw; go_simp; (try with_reducible rfl)
      try simp only [Act.put, List.getElem_toArray, List.getElem_cons_succ, List.getElem_cons_zero, List.setIfInBounds_toArray, List.set_cons_zero, List.set_cons_succ]
      refine wpAnyH_take (i := 4) (oi := _) (v := ?_) rfl (by kernel_rfl) (by kernel_rfl) (by kernel_rfl) (fun _ _ _ h => h) (Or.inl ⟨by kernel_rfl, ?_⟩) (by assumption) ?_
      rotate_left 1
      · intro w hSw; obtain ⟨hs0, hs1⟩ := hSw; go_simp; (try with_reducible rfl)
      try simp only [Act.put, List.getElem_toArray, List.getElem_cons_succ, List.getElem_cons_zero, List.setIfInBounds_toArray, List.set_cons_zero, List.set_cons_succ]
      refine wpAnyH_take (i := 6) (oi := _) (v := ?_) rfl (by kernel_rfl) (by kernel_rfl) (by kernel_rfl) (fun _ _ _ h => h) (Or.inl ⟨by kernel_rfl, ?_⟩) (by assumption) ?_
      rotate_left 1
      · intro w hSw; obtain ⟨hs0, hs1⟩ := hSw; go_simp; (try with_reducible rfl)
      try simp only [Act.put, List.getElem_toArray, List.getElem_cons_succ, List.getElem_cons_zero, List.setIfInBounds_toArray, List.set_cons_zero, List.set_cons_succ]
      refine wpAnyH_take (i := 7) (oi := _) (v := ?_) rfl (by kernel_rfl) (by kernel_rfl) (by kernel_rfl) (fun _ _ _ h => h) (Or.inl ⟨by kernel_rfl, ?_⟩) (by assumption) ?_
      rotate_left 1
      · intro w hSw; obtain ⟨hs0, hs1⟩ := hSw; go_simp; (try with_reducible rfl)
      try simp only [Act.put, List.getElem_toArray, List.getElem_cons_succ, List.getElem_cons_zero, List.setIfInBounds_toArray, List.set_cons_zero, List.set_cons_succ]
      refine wpAnyH_take (i := 8) (oi := _) (v := ?_) rfl (by kernel_rfl) (by kernel_rfl) (by kernel_rfl) (fun _ _ _ h => h) (Or.inl ⟨by kernel_rfl, ?_⟩) (by assumption) ?_
      rotate_left 1
      · intro w hSw; obtain ⟨hs0, hs1⟩ := hSw; go_simp; (try with_reducible rfl)
      try simp only [Act.put, List.getElem_toArray, List.getElem_cons_succ, List.getElem_cons_zero, List.setIfInBounds_toArray, List.set_cons_zero, List.set_cons_succ]
      refine wpAnyH_take (i := 9) (oi := _) (v := ?_) rfl (by kernel_rfl) (by kernel_rfl) (by kernel_rfl) (fun _ _ _ h => h) (Or.inl ⟨by kernel_rfl, ?_⟩) (by assumption) ?_
      rotate_left 1
      · intro w hSw; obtain ⟨hs0, hs1⟩ := hSw; go_simp; (try with_reducible rfl)
      try simp only [Act.put, List.getElem_toArray, List.getElem_cons_succ, List.getElem_cons_zero, List.setIfInBounds_toArray, List.set_cons_zero, List.set_cons_succ]
      refine wpAnyH_ready (rs := [5]) (by kernel_rfl) (by simp) ?_
      refine AllReadyH.cons (o := _) rfl (fun K hK => ?_) AllReadyH.nil
      refine step_append_runT (by rfl) (.tmp 23) (.tmp 27) 45 45 (by rfl) v5 (.slice A1 st.ts.length k1) v6 w6 (by rfl) (by rfl) 45 (by rfl) HR1.out ?_
      refine hK.out _ _ ⟨l0, l1⟩ (fun hHeld => ?_)
      clear hK K
      try simp only [Act.put, List.getElem_toArray, List.getElem_cons_succ, List.getElem_cons_zero, List.setIfInBounds_toArray, List.set_cons_zero, List.set_cons_succ]
      refine wpAnyH_ready (rs := [10]) (by kernel_rfl) (by simp) ?_
      refine AllReadyH.cons (o := _) rfl (fun K hK => ?_) AllReadyH.nil
      refine step_append_runT (by rfl) (.tmp 28) (.tmp 32) 45 45 (by rfl) v6 (.slice A2 st.ns.length k2) v7 w7 (by rfl) (by rfl) 45 (by rfl) HR2.out ?_
      refine hK.out _ _ ⟨m0, m1⟩ (fun hHeld => ?_)
      clear hK K
      try simp only [Act.put, List.getElem_toArray, List.getElem_cons_succ, List.getElem_cons_zero, List.setIfInBounds_toArray, List.set_cons_zero, List.set_cons_succ]
      refine wpAnyH_ready (rs := [11]) (by kernel_rfl) (by simp) ?_
      refine AllReadyH.cons (o := _) rfl (fun K hK => ?_) AllReadyH.nil
      go_simp
      refine hK.out _ _ ⟨m0, m1⟩ (fun hHeld => ?_)
      clear hK K
      try simp only [Act.put, List.getElem_toArray, List.getElem_cons_succ, List.getElem_cons_zero, List.setIfInBounds_toArray, List.set_cons_zero, List.set_cons_succ]
      refine wpAnyH_take (i := 12) (oi := _) (v := ?_) rfl (by kernel_rfl) (by kernel_rfl) (by kernel_rfl) (fun _ _ _ h => h) (Or.inl ⟨by kernel_rfl, ?_⟩) (by assumption) ?_
      rotate_left 1
      · intro w hSw; obtain ⟨hs0, hs1⟩ := hSw; go_simp; (try with_reducible rfl)
      try simp only [Act.put, List.getElem_toArray, List.getElem_cons_succ, List.getElem_cons_zero, List.setIfInBounds_toArray, List.set_cons_zero, List.set_cons_succ]
      refine wpAnyH_done (by kernel_rfl) ?_ _
      refine NoPanic.normal ?_
      go_wp2_with fail
      go_ret
      refine ⟨?_, H.out.below.trans (HO7.out.below H.out.below.size)⟩
      rfl
  · go_simp
    refine hK.out _ _ ⟨e0, e1⟩ (fun hHeld => ?_)
    clear hK K
    try simp only [Act.put, List.getElem_toArray, List.getElem_cons_succ, List.getElem_cons_zero, List.setIfInBounds_toArray, List.set_cons_zero, List.set_cons_succ]
    refine wpAnyH_ready (rs := [0]) (by kernel_rfl) (by simp) ?_
    refine AllReadyH.cons (o := _) rfl (fun K hK => ?_) AllReadyH.nil
    go_simp
    refine hK.out _ _ ⟨z0, z1⟩ (fun hHeld => ?_)
    clear hK K
    try simp only [Act.put, List.getElem_toArray, List.getElem_cons_succ, List.getElem_cons_zero, List.setIfInBounds_toArray, List.set_cons_zero, List.set_cons_succ]
    refine wpAnyH_ready (rs := [1]) (by kernel_rfl) (by simp) ?_
    refine AllReadyH.cons (o := _) rfl (fun K hK => ?_) AllReadyH.nil
    go_simp
    refine hK.out _ _ ⟨b0, b1⟩ (fun hHeld => ?_)
    clear hK K
    try simp only [Act.put, List.getElem_toArray, List.getElem_cons_succ, List.getElem_cons_zero, List.setIfInBounds_toArray, List.set_cons_zero, List.set_cons_succ]
    refine wpAnyH_ready (rs := [18]) (by kernel_rfl) (by simp) ?_
    refine AllReadyH.cons (o := _) rfl (fun K hK => ?_) AllReadyH.nil
    go_simp
    go_at_call 29
    refine C3.out.mono ?_
    rintro e w5 ⟨v5, rfl, hr5, ho5, hn5⟩; have HM5 := Lib.hid (HM.out.olds ho5); have g0 : w5.cell? ⟨g, 0, none⟩ = some (.slice A1 st.ts.length k1) := HM5.out.blk.cell 0; have g1 : w5.cell? ⟨g, 1, none⟩ = some (.slice A2 st.ns.length k2) := HM5.out.blk.cell 1; have HT5 := Lib.hid (tail_any HM.out hr5 ho5 (by simp [opening]) (by simp [opening, le4s, le4_length]) HS1.out HS2.out); clear hr5 ho5 hn5
    go_wp2_with fail
    refine hK.out _ _ ⟨g0, g1⟩ (fun hHeld => ?_)
    clear hK K
    try simp only [Act.put, List.getElem_toArray, List.getElem_cons_succ, List.getElem_cons_zero, List.setIfInBounds_toArray, List.set_cons_zero, List.set_cons_succ]
    refine wpAnyH_take (i := 19) (oi := _) (v := ?_) rfl (by kernel_rfl) (by kernel_rfl) (by kernel_rfl) (fun _ _ _ h => h) (Or.inl ⟨by kernel_rfl, ?_⟩) (by assumption) ?_
    rotate_left 1
    · intro w hSw; obtain ⟨hs0, hs1⟩ := hSw; go_simp; (try with_reducible rfl)
    try simp only [Act.put, List.getElem_toArray, List.getElem_cons_succ, List.getElem_cons_zero, List.setIfInBounds_toArray, List.set_cons_zero, List.set_cons_succ]
    refine wpAnyH_done (by kernel_rfl) ?_ _
    refine NoPanic.normal ?_
    obtain ⟨v6, w6, v7, w7, p6, p7, p8, ho6, ho7⟩ := HT5.out
    have HR1 := Lib.hid p6
    have HR2 := Lib.hid p7
    have HO7 := Lib.hid ho7
    have l0 : w6.cell? ⟨g, 0, none⟩ = some (.slice A1 st.ts.length k1) := (HM.out.olds ho6).blk.cell 0
    have l1 : w6.cell? ⟨g, 1, none⟩ = some (.slice A2 st.ns.length k2) := (HM.out.olds ho6).blk.cell 1
    have m0 : w7.cell? ⟨g, 0, none⟩ = some (.slice A1 st.ts.length k1) := (HM.out.olds ho7).blk.cell 0
    have m1 : w7.cell? ⟨g, 1, none⟩ = some (.slice A2 st.ns.length k2) := (HM.out.olds ho7).blk.cell 1
    have h0 : w5.drew.cell? ⟨g, 0, none⟩ = some (.slice A1 st.ts.length k1) := g0
    have h1 : w5.drew.cell? ⟨g, 1, none⟩ = some (.slice A2 st.ns.length k2) := g1
    clear p6 p7 ho6 ho7
    go_wp2_with fail
    refine wp_region_noPanic ?_
    refine wp_region_held_drew (S := (fun W => W.cell? ⟨g, 0, none⟩ = some (.slice A1 st.ts.length k1) ∧ W.cell? ⟨g, 1, none⟩ = some (.slice A2 st.ns.length k2))) (by kernel_rfl) ⟨h0, h1⟩ (fun hHeld => ?_)
    refine wpAnyH_take (i := 0) (oi := _) (v := ?_) rfl (by kernel_rfl) (by kernel_rfl) (by kernel_rfl) (fun _ _ _ h => h) (Or.inl ⟨by kernel_rfl, ?_⟩) (by assumption) ?_
    rotate_left 1
    · intro w hSw; obtain ⟨hs0, hs1⟩ := hSw; go_simp; (try with_reducible rfl)
    try simp only [Act.put, List.getElem_toArray, List.getElem_cons_succ, List.getElem_cons_zero, List.setIfInBounds_toArray, List.set_cons_zero, List.set_cons_succ]
    refine wpAnyH_take (i := 1) (oi := _) (v := ?_) rfl (by kernel_rfl) (by kernel_rfl) (by kernel_rfl) (fun _ _ _ h => h) (Or.inl ⟨by kernel_rfl, ?_⟩) (by assumption) ?_
    rotate_left 1
    · intro w hSw; obtain ⟨hs0, hs1⟩ := hSw; go_simp; (try with_reducible rfl)
    try simp only [Act.put, List.getElem_toArray, List.getElem_cons_succ, List.getElem_cons_zero, List.setIfInBounds_toArray, List.set_cons_zero, List.set_cons_succ]
    refine wpAnyH_take (i := 2) (oi := _) (v := ?_) rfl (by kernel_rfl) (by kernel_rfl) (by kernel_rfl) (fun _ _ _ h => h) (Or.inl ⟨by kernel_rfl, ?_⟩) (by assumption) ?_
    rotate_left 1
    · intro w hSw; obtain ⟨hs0, hs1⟩ := hSw; go_simp; (try with_reducible rfl)
    try simp only [Act.put, List.getElem_toArray, List.getElem_cons_succ, List.getElem_cons_zero, List.setIfInBounds_toArray, List.set_cons_zero, List.set_cons_succ]
    refine wpAnyH_take (i := 3) (oi := _) (v := ?_) rfl (by kernel_rfl) (by kernel_rfl) (by kernel_rfl) (fun _ _ _ h => h) (Or.inl ⟨by kernel_rfl, ?_⟩) (by assumption) ?_
    rotate_left 1
    · intro w hSw; obtain ⟨hs0, hs1⟩ := hSw; go_simp; (try with_reducible rfl)
    try simp only [Act.put, List.getElem_toArray, List.getElem_cons_succ, List.getElem_cons_zero, List.setIfInBounds_toArray, List.set_cons_zero, List.set_cons_succ]
    refine wpAnyH_take (i := 4) (oi := _) (v := ?_) rfl (by kernel_rfl) (by kernel_rfl) (by kernel_rfl) (fun _ _ _ h => h) (Or.inl ⟨by kernel_rfl, ?_⟩) (by assumption) ?_
    rotate_left 1
    · intro w hSw; obtain ⟨hs0, hs1⟩ := hSw; go_simp; (try with_reducible rfl)
    try simp only [Act.put, List.getElem_toArray, List.getElem_cons_succ, List.getElem_cons_zero, List.setIfInBounds_toArray, List.set_cons_zero, List.set_cons_succ]
    refine wpAnyH_take (i := 6) (oi := _) (v := ?_) rfl (by kernel_rfl) (by kernel_rfl) (by kernel_rfl) (fun _ _ _ h => h) (Or.inl ⟨by kernel_rfl, ?_⟩) (by assumption) ?_
    rotate_left 1
    · intro w hSw; obtain ⟨hs0, hs1⟩ := hSw; go_simp; (try with_reducible rfl)
    try simp only [Act.put, List.getElem_toArray, List.getElem_cons_succ, List.getElem_cons_zero, List.setIfInBounds_toArray, List.set_cons_zero, List.set_cons_succ]
    refine wpAnyH_take (i := 7) (oi := _) (v := ?_) rfl (by kernel_rfl) (by kernel_rfl) (by kernel_rfl) (fun _ _ _ h => h) (Or.inl ⟨by kernel_rfl, ?_⟩) (by assumption) ?_
    rotate_left 1
    · intro w hSw; obtain ⟨hs0, hs1⟩ := hSw; go_simp; (try with_reducible rfl)
    try simp only [Act.put, List.getElem_toArray, List.getElem_cons_succ, List.getElem_cons_zero, List.setIfInBounds_toArray, List.set_cons_zero, List.set_cons_succ]
    refine wpAnyH_take (i := 8) (oi := _) (v := ?_) rfl (by kernel_rfl) (by kernel_rfl) (by kernel_rfl) (fun _ _ _ h => h) (Or.inl ⟨by kernel_rfl, ?_⟩) (by assumption) ?_
    rotate_left 1
    · intro w hSw; obtain ⟨hs0, hs1⟩ := hSw; go_simp; (try with_reducible rfl)
    try simp only [Act.put, List.getElem_toArray, List.getElem_cons_succ, List.getElem_cons_zero, List.setIfInBounds_toArray, List.set_cons_zero, List.set_cons_succ]
    refine wpAnyH_take (i := 9) (oi := _) (v := ?_) rfl (by kernel_rfl) (by kernel_rfl) (by kernel_rfl) (fun _ _ _ h => h) (Or.inl ⟨by kernel_rfl, ?_⟩) (by assumption) ?_
    rotate_left 1
    · intro w hSw; obtain ⟨hs0, hs1⟩ := hSw; go_simp; (try with_reducible rfl)
    try simp only [Act.put, List.getElem_toArray, List.getElem_cons_succ, List.getElem_cons_zero, List.setIfInBounds_toArray, List.set_cons_zero, List.set_cons_succ]
    refine wpAnyH_ready (rs := [5]) (by kernel_rfl) (by simp) ?_
    refine AllReadyH.cons (o := _) rfl (fun K hK => ?_) AllReadyH.nil
    refine step_append_runT (by rfl) (.tmp 23) (.tmp 27) 45 45 (by rfl) v5 (.slice A1 st.ts.length k1) v6 w6 (by rfl) (by rfl) 45 (by rfl) HR1.out ?_
    refine hK.out _ _ ⟨l0, l1⟩ (fun hHeld => ?_)
    clear hK K
    try simp only [Act.put, List.getElem_toArray, List.getElem_cons_succ, List.getElem_cons_zero, List.setIfInBounds_toArray, List.set_cons_zero, List.set_cons_succ]
    refine wpAnyH_ready (rs := [10]) (by kernel_rfl) (by simp) ?_
    refine AllReadyH.cons (o := _) rfl (fun K hK => ?_) AllReadyH.nil
    refine step_append_runT (by rfl) (.tmp 28) (.tmp 32) 45 45 (by rfl) v6 (.slice A2 st.ns.length k2) v7 w7 (by rfl) (by rfl) 45 (by rfl) HR2.out ?_
    refine hK.out _ _ ⟨m0, m1⟩ (fun hHeld => ?_)
    clear hK K
    try simp only [Act.put, List.getElem_toArray, List.getElem_cons_succ, List.getElem_cons_zero, List.setIfInBounds_toArray, List.set_cons_zero, List.set_cons_succ]
    refine wpAnyH_ready (rs := [11]) (by kernel_rfl) (by simp) ?_
    refine AllReadyH.cons (o := _) rfl (fun K hK => ?_) AllReadyH.nil
    go_simp
    refine hK.out _ _ ⟨m0, m1⟩ (fun hHeld => ?_)
    clear hK K
    try simp only [Act.put, List.getElem_toArray, List.getElem_cons_succ, List.getElem_cons_zero, List.setIfInBounds_toArray, List.set_cons_zero, List.set_cons_succ]
    refine wpAnyH_take (i := 12) (oi := _) (v := ?_) rfl (by kernel_rfl) (by kernel_rfl) (by kernel_rfl) (fun _ _ _ h => h) (Or.inl ⟨by kernel_rfl, ?_⟩) (by assumption) ?_
    rotate_left 1
    · intro w hSw; obtain ⟨hs0, hs1⟩ := hSw; go_simp; (try with_reducible rfl)
    try simp only [Act.put, List.getElem_toArray, List.getElem_cons_succ, List.getElem_cons_zero, List.setIfInBounds_toArray, List.set_cons_zero, List.set_cons_succ]
    refine wpAnyH_done (by kernel_rfl) ?_ _
    refine NoPanic.normal ?_
    go_wp2_with fail
    go_ret
    refine ⟨?_, H.out.below.trans (HO7.out.below H.out.below.size)⟩
    rfl
end Go.Proofs.Ytmfdojmecpdikaa
