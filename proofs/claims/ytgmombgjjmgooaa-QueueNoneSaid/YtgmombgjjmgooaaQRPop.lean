/-
  The reference's queue: Pop.
-/
import Derived.Test.YtgmombgjjmgooaaQRPush
import Derived.Deep.RegionLaw
namespace Go.Proofs.Ytgmombgjjmgooaa
open Go Go.RowKit Go.Maps
set_option linter.unusedVariables false
set_option linter.unusedSimpArgs false
set_option maxRecDepth 100000
theorem step_append_run {P : Program} {ops : Array Oper} {o : Oper} {a : Act} {w : World} {K : Act → World → Prop} {Q : Exit → Act → World → Prop} {E : Prop} (hg : o.guard = none) (s x : Operand) (t : TypeId)
    (hop : o.op = Op.call { callee := Callee.builtin Builtin.append, args := #[s, x], argTypes := #[t, t] }) (v xv v' : Value) (w' : World) (hs : a.eval s = v) (hx : a.eval x = xv) (hrun : ∀ ty, (Builtin.append_ #[t, t] ty #[v, xv]).run P w = .ok v' w') (hK : K (a.put o.dst v') w') :
    if Region.wanted o (yielded ops a.tmps) = true then Oper.wp P o a w K Q else E := by
  have hw : Region.wanted o (yielded ops a.tmps) = true := by simp [Region.wanted, hg]
  rw [if_pos hw]
  unfold Oper.wp
  simp [execOp, hop, resolve, invoke, builtin, hs, hx, hrun, Result.andThen]
  exact hK
/-- The two appends of Pop. -/
theorem pop_runs {w : World} {A A' : Option Addr} {c c' : Nat} {M N : List ByteArray} (h1 : StrsAt w A M) (n1 : A = none → M = [] ∧ c = 0) (p1 : ∀ a, A = some a → ∃ b o, a = ⟨b, o, none⟩) (h2 : StrsAt w A' N) (n2 : A' = none → N = [] ∧ c' = 0) (p2 : ∀ a, A' = some a → ∃ b o, a = ⟨b, o, none⟩) (hm : M.length + N.length ≤ 4096) :
    ∃ A1 c1 w2 A2 c2 w4, (∀ ty, (Builtin.append_ #[strsT, strsT] ty #[.slice none 0 0, .slice A M.length c]).run Try.prog w = .ok (.slice A1 M.length c1) w2) ∧
      (∀ ty, (Builtin.append_ #[strsT, strsT] ty #[.slice A1 M.length c1, .slice A' N.length c']).run Try.prog w2 = .ok (.slice A2 (M.length + N.length) c2) w4) ∧
      Strs w4 w.heap.size (.slice A2 (M.length + N.length) c2) (M ++ N) ∧ Below w.heap.size w w2 ∧ Below w.heap.size w w4 := by
  obtain ⟨V1, w2, r1, o1, b1⟩ := append_strs (N := []) (V := .slice none 0 0) (Below.refl _ w) (World.ownsRow_nil _ _ _ _) h1 n1 p1 (by simp only [List.length_nil]; omega)
  rw [List.nil_append] at o1
  obtain ⟨V2, w4, r2, o2, b2⟩ := append_strs b1 o1 (h2.below b1) n2 p2 (by omega)
  obtain ⟨A1, c1, rfl⟩ := strs_shape o1
  obtain ⟨A2, c2, rfl⟩ := strs_shape o2
  have hl : (M ++ N).length = M.length + N.length := by simp
  rw [hl] at r2 o2
  exact ⟨A1, c1, w2, A2, c2, w4, r1, r2, o2, b1, b2⟩
section
variable {w : World} {base y v mx : Nat} {k : Int} {L : List ByteArray}
theorem xpop_none {A : Option Addr} {c : Nat} (h : Blk w y refT (refC k v mx (.slice A 0 c))) : Calls Try.prog 12 #[rp y] w fun e w' => e = .returned (.tuple #[.string ⟨#[]⟩, .int .i64 4]) ∧ ∃ m, w' = w.drewN m := by
  have CP := Lib.hid (xpeek_none h)
  clear h
  go_enter Try.func12, Try.ntmps12
  go_wp2_with (go_at_call 14; refine CP.out.mono ?_; rintro e w1 ⟨rfl, m, rfl⟩)
  go_ret2
  exact ⟨rfl, _, rfl⟩
set_option maxHeartbeats 1000000 in
theorem xpop_some {A A' : Option Addr} {n c c' q q1 : Nat} {M N : List ByteArray} {s : ByteArray} (h : Blk w y refT (refC k v mx (.slice A n c)))
    (hp : Calls Try.prog 14 #[rp y] w fun e w' => e = .returned (.tuple #[.string s, .int .i64 0]) ∧ ∃ m, w' = w.drewN m)
    (hf : ∀ w', Blk w' y refT (refC k v mx (.slice A n c)) → Calls Try.prog 27 #[rp y] w' fun e w'' => e = .returned (.int .i64 q) ∧ w' = w'')
    (hs1 : ∀ w', (Instr.slice strsT (.slice A n c) none (some (.int .i64 (q : Int))) none).run Try.prog w' = .ok (.slice A M.length c) w') (e1 : IntKind.i64.wrap ((q : Int) + 1) = (q1 : Int))
    (hs2 : ∀ w', (Instr.slice strsT (.slice A n c) (some (.int .i64 (q1 : Int))) none none).run Try.prog w' = .ok (.slice A' N.length c') w')
    (h1 : StrsAt w A M) (n1 : A = none → M = [] ∧ c = 0) (p1 : ∀ a, A = some a → ∃ b o, a = ⟨b, o, none⟩) (h2 : StrsAt w A' N) (n2 : A' = none → N = [] ∧ c' = 0) (p2 : ∀ a, A' = some a → ∃ b o, a = ⟨b, o, none⟩) (hm : M.length + N.length ≤ 4096) :
    Calls Try.prog 12 #[rp y] w fun e w' => e = .returned (.tuple #[.string s, .int .i64 0]) ∧ (∃ V, Blk w' y refT (refC k v mx V) ∧ Strs w' w.heap.size V (M ++ N)) ∧ Keeps (isY y) w w' := by
  have CP := Lib.hid hp
  have CF := Lib.hid hf
  have H := Lib.hid h
  have HR := Lib.hid (fun w1 (hb : Below w.heap.size w w1) => pop_runs (h1.below hb) n1 p1 (h2.below hb) n2 p2 hm)
  clear h hp hf h1 n1 p1 h2 n2 p2 hm
  generalize M.length = ml at *
  generalize N.length = nl at *
  go_enter Try.func12, Try.ntmps12
  go_upto_region 4 with (first
    | (go_at_call 14; refine CP.out.mono ?_; rintro e w1 ⟨rfl, m, hm⟩; have B1 : Hid (Below w.heap.size w w1) := hm ▸ below_drewN w m; have H1 := Lib.hid (blk_below H.out B1.out); clear hm)
    | (go_at_call 27; refine (CF.out _ H1.out).mono ?_; rintro e w2 ⟨rfl, rfl⟩))
  obtain ⟨A1, c1, w2, A2, c2, w4, hr1, hr2, ho, hb2, hb4⟩ := HR.out w1.drew (B1.out.drew)
  have R1 := Lib.hid hr1; have R2 := Lib.hid hr2; have HO := Lib.hid ho
  have B2 := Lib.hid (below_undrew hb2); have B4 := Lib.hid (below_undrew hb4)
  have HB2 := Lib.hid (blk_below H1.out (below_undrew hb2))
  have HB4 := Lib.hid (blk_below H1.out (below_undrew hb4))
  have d1 : w1.cell? ⟨y, 4, none⟩ = some (.slice A n c) := H1.out.cell 4
  have d2 : w2.cell? ⟨y, 4, none⟩ = some (.slice A n c) := HB2.out.cell 4
  have d4 : w4.cell? ⟨y, 4, none⟩ = some (.slice A n c) := HB4.out.cell 4
  have d6 : w4.frozen? ⟨y, 4, none⟩ = false := HB4.out.frozen 4
  clear hr1 hr2 ho hb2 hb4 HR CP CF
  have HY := Lib.hid H.out.lt
  have HK : Hid (Keeps (isY y) w4 (w4.setCell ⟨y, 4, none⟩ (.slice A2 (ml + nl) c2))) := (Keeps.refl (isY y) w4).setCell (p := ⟨y, 4, none⟩) (.inl (show isY y y from rfl)) _
  go_region_law ((first
    | (refine step_append_run (by rfl) (.const (.slice none 0 0)) (.tmp 22) strsT (by rfl) (.slice none 0 0) (.slice A ml c) (.slice A1 ml c1) w2 (by rfl) (by rfl) R1.out ?_)
    | (refine step_append_run (by rfl) (.tmp 23) (.tmp 30) strsT (by rfl) (.slice A1 ml c1) (.slice A' nl c') (.slice A2 (ml + nl) c2) w4 (by rfl) (by rfl) R2.out ?_)))
  all_goals go_wp2_with fail
  all_goals go_ret2
  all_goals exact ⟨rfl, ⟨_, HB4.out.set_ 4 _, ownsRow_keeps (ownsRow_base HO.out B1.out.size) HK.out (fun b hb => by have e : b = y := hb; have := HY.out; omega)⟩, ((keeps_grow (below_then B1.out B4.out)).mono fun _ h => h.elim).trans (HK.out.mono fun _ h => .inl h)⟩
theorem sizeS (w : World) : (sizeOf (Try.prog.elem strsT)).run Try.prog w = .ok 1 w := by kernel_rfl
theorem elemS : Try.prog.underlying strsT = some (.slice (Try.prog.elem strsT)) := by kernel_rfl
theorem slice_head (g n c q : Nat) (hq : q ≤ c) (w : World) : (Instr.slice strsT (.slice (some ⟨g, 0, none⟩) n c) none (some (.int .i64 (q : Int))) none).run Try.prog w = .ok (.slice (some ⟨g, 0, none⟩) q c) w := by
  rw [run_slice_h (ht := elemS) (h0 := by omega) (h2 := by omega), sizeS]
  simp [Result.andThen, sliced, Addr.add]
theorem slice_tail (g n c q : Nat) (hq : q ≤ n) (w : World) : (Instr.slice strsT (.slice (some ⟨g, 0, none⟩) n c) (some (.int .i64 (q : Int))) none none).run Try.prog w = .ok (.slice (some ⟨g, if c = q then 0 else q, none⟩) (n - q) (c - q)) w := by
  rw [run_slice_l (ht := elemS) (h0 := by omega) (h1 := by omega), sizeS]
  by_cases h : c = q
  · simp [Result.andThen, sliced, Addr.add, h]
  · simp [Result.andThen, sliced, Addr.add, h]
    exact fun e => e.symm
end
end Go.Proofs.Ytgmombgjjmgooaa
