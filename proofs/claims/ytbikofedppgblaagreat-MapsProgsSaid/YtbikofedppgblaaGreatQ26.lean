/-
  Package maps: the calls, on nil, on programs and on a table. Package maps: the calls on programs and on a table; New.
-/
import Derived.Test.YtbikofedppgblaaGreatQ25
namespace Go.Proofs.YtbikofedppgblaaGreat
open Go Go.RowKit Go.Maps
set_option linter.unusedVariables false
set_option linter.unusedSimpArgs false
set_option maxRecDepth 100000
/-! ### on nil -/
theorem Lookup_nil (key : ByteArray) (cpu : Int) (w : World) : Calls Tryz.prog 16 #[.pointer none, .string key, .int .i64 cpu] w fun e w' => e = .returned (.int .u64 0) ∧ w = w' := by
  go_enter Tryz.func16, Tryz.ntmps16
  go_wp2_with (first
    | (go_at_call 26; refine (layer_nil _).mono ?_; rintro e w1 ⟨rfl, rfl⟩)
    | (go_at_call 36; refine (lookup_nil _ _ _).mono ?_; rintro e w2 ⟨rfl, rfl⟩))
  go_ret
  exact ⟨rfl, rfl⟩
theorem Update_nil (key value : ByteArray) (fl cpu : Int) (w : World) : Calls Tryz.prog 7 #[.pointer none, .string key, .string value, .int .i64 fl, .int .i64 cpu] w fun e w' => e = .returned (.int .i64 1) ∧ w = w' := by
  go_enter Tryz.func7, Tryz.ntmps7
  go_wp2_with (first
    | (go_at_call 26; refine (layer_nil _).mono ?_; rintro e w1 ⟨rfl, rfl⟩)
    | (go_at_call 25; refine (update_nil _ _ _ _ _).mono ?_; rintro e w2 ⟨rfl, rfl⟩))
  go_ret
  exact ⟨rfl, rfl⟩
theorem Delete_nil (key : ByteArray) (w : World) : Calls Tryz.prog 9 #[.pointer none, .string key] w fun e w' => e = .returned (.int .i64 1) ∧ w = w' := by
  go_enter Tryz.func9, Tryz.ntmps9
  go_wp2_with (first
    | (go_at_call 26; refine (layer_nil _).mono ?_; rintro e w1 ⟨rfl, rfl⟩)
    | (go_at_call 27; refine (remove_nil _ _).mono ?_; rintro e w2 ⟨rfl, rfl⟩))
  go_ret
  exact ⟨rfl, rfl⟩
theorem Next_nil (key : ByteArray) (w : World) : Calls Tryz.prog 11 #[.pointer none, .string key] w fun e w' => e = .returned (.tuple #[.string ⟨#[]⟩, .int .i64 1]) ∧ w = w' := by
  go_enter Tryz.func11, Tryz.ntmps11
  go_wp2_with (first
    | (go_at_call 26; refine (layer_nil _).mono ?_; rintro e w1 ⟨rfl, rfl⟩)
    | (go_at_call 30; refine (mnext_nil _ _).mono ?_; rintro e w2 ⟨rfl, rfl⟩))
  go_ret2
  exact ⟨rfl, rfl⟩
theorem Push_nil (value : ByteArray) (fl : Int) (w : World) : Calls Tryz.prog 17 #[.pointer none, .string value, .int .i64 fl] w fun e w' => e = .returned (.int .i64 1) ∧ w = w' := by
  go_enter Tryz.func17, Tryz.ntmps17
  go_wp2_with (first
    | (go_at_call 26; refine (layer_nil _).mono ?_; rintro e w1 ⟨rfl, rfl⟩)
    | (go_at_call 31; refine (queueOf_nil _).mono ?_; rintro e w2 ⟨rfl, rfl⟩)
    | (go_at_call 37; refine (qpush_nil _ _ _).mono ?_; rintro e w2 ⟨rfl, rfl⟩))
  go_ret
  exact ⟨rfl, rfl⟩
theorem Pop_nil (w : World) : Calls Tryz.prog 13 #[.pointer none] w fun e w' => e = .returned (.tuple #[.string ⟨#[]⟩, .int .i64 1]) ∧ w = w' := by
  go_enter Tryz.func13, Tryz.ntmps13
  go_wp2_with (first
    | (go_at_call 26; refine (layer_nil _).mono ?_; rintro e w1 ⟨rfl, rfl⟩)
    | (go_at_call 31; refine (queueOf_nil _).mono ?_; rintro e w2 ⟨rfl, rfl⟩)
    | (go_at_call 32; refine (qpop_nil _).mono ?_; rintro e w2 ⟨rfl, rfl⟩))
  go_ret2
  exact ⟨rfl, rfl⟩
theorem Peek_nil (w : World) : Calls Tryz.prog 14 #[.pointer none] w fun e w' => e = .returned (.tuple #[.string ⟨#[]⟩, .int .i64 1]) ∧ w = w' := by
  go_enter Tryz.func14, Tryz.ntmps14
  go_wp2_with (first
    | (go_at_call 26; refine (layer_nil _).mono ?_; rintro e w1 ⟨rfl, rfl⟩)
    | (go_at_call 31; refine (queueOf_nil _).mono ?_; rintro e w2 ⟨rfl, rfl⟩)
    | (go_at_call 33; refine (qpeek_nil _).mono ?_; rintro e w2 ⟨rfl, rfl⟩))
  go_ret2
  exact ⟨rfl, rfl⟩
theorem Reserve_nil (z : Int) (w : World) : Calls Tryz.prog 15 #[.pointer none, .int .i64 z] w fun e w' => e = .returned (.tuple #[.int .u64 0, .int .i64 1]) ∧ w = w' := by
  go_enter Tryz.func15, Tryz.ntmps15
  go_wp2_with (first
    | (go_at_call 26; refine (layer_nil _).mono ?_; rintro e w1 ⟨rfl, rfl⟩)
    | (go_at_call 34; refine (ringOf_nil _).mono ?_; rintro e w2 ⟨rfl, rfl⟩)
    | (go_at_call 35; refine (rreserve_nil _ _).mono ?_; rintro e w2 ⟨rfl, rfl⟩))
  go_ret2
  exact ⟨rfl, rfl⟩
theorem Output_nil (s : ByteArray) (w : World) : Calls Tryz.prog 19 #[.pointer none, .string s] w fun e w' => e = .returned (.int .i64 1) ∧ w = w' := by
  go_enter Tryz.func19, Tryz.ntmps19
  go_wp2_with (first
    | (go_at_call 26; refine (layer_nil _).mono ?_; rintro e w1 ⟨rfl, rfl⟩)
    | (go_at_call 34; refine (ringOf_nil _).mono ?_; rintro e w2 ⟨rfl, rfl⟩)
    | (go_at_call 40; refine (routput_nil _ _).mono ?_; rintro e w2 ⟨rfl, rfl⟩))
  go_ret
  exact ⟨rfl, rfl⟩
theorem Drain_nil (w : World) : Calls Tryz.prog 20 #[.pointer none] w fun e w' => e = .returned (.slice none 0 0) ∧ w = w' := by
  go_enter Tryz.func20, Tryz.ntmps20
  go_wp2_with (first
    | (go_at_call 26; refine (layer_nil _).mono ?_; rintro e w1 ⟨rfl, rfl⟩)
    | (go_at_call 34; refine (ringOf_nil _).mono ?_; rintro e w2 ⟨rfl, rfl⟩)
    | (go_at_call 41; refine (rdrain_nil _).mono ?_; rintro e w2 ⟨rfl, rfl⟩))
  go_ret
  exact ⟨rfl, rfl⟩
theorem Prog_nil (n : Int) (hn : (Lit.int .i64 n).wf = true) (w : World) : Calls Tryz.prog 10 #[.pointer none, .int .i64 n] w fun e w' => e = .returned (.tuple #[.int .i64 0, .bool false]) ∧ w = w' := by
  go_enter Tryz.func10, Tryz.ntmps10
  go_wp2_with (first
    | (go_at_call 26; refine (layer_nil _).mono ?_; rintro e w1 ⟨rfl, rfl⟩)
    | (go_at_call 28; refine (progsOf_nil _).mono ?_; rintro e w2 ⟨rfl, rfl⟩)
    | (go_at_call 29; refine (prog_nil _ hn _).mono ?_; rintro e w2 ⟨rfl, rfl⟩))
  go_ret2
  exact ⟨rfl, rfl⟩
theorem End_nil (a : Int) (keep : Bool) (w : World) : Calls Tryz.prog 18 #[.pointer none, .int .u64 a, .bool keep] w fun e w' => e = .returned (.int .i64 1) ∧ w = w' := by
  cases keep
  all_goals
    go_enter Tryz.func18, Tryz.ntmps18
    go_wp2_with (first
      | (go_at_call 26; refine (layer_nil _).mono ?_; rintro e w1 ⟨rfl, rfl⟩)
      | (go_at_call 34; refine (ringOf_nil _).mono ?_; rintro e w2 ⟨rfl, rfl⟩)
      | (go_at_call 38; refine (rsubmit_nil _ _).mono ?_; rintro e w2 ⟨rfl, rfl⟩)
      | (go_at_call 39; refine (rdiscard_nil _ _).mono ?_; rintro e w2 ⟨rfl, rfl⟩))
    go_ret
    exact ⟨rfl, rfl⟩
theorem mfree_nil (w : World) : Calls Tryz.prog 42 #[.pointer none] w fun e w' => e = .returned (.int .i64 1) ∧ w = w' := by
  have xf := tn_f
  have xh := tn_h
  have xt := tn_t
  have xr := tn_r
  have xq := tn_q
  have xp := tn_p
  go_enter Tryz.func42, Tryz.ntmps42
  go_wp2_with (go_at_call 26; refine (layer_nil _).mono ?_; rintro e w1 ⟨rfl, rfl⟩)
  go_ret
  exact ⟨rfl, rfl⟩
theorem Free_nil (w : World) : Calls Tryz.prog 21 #[.pointer none] w fun e w' => e = .returned (.int .i64 1) ∧ w = w' := by
  go_enter Tryz.func21, Tryz.ntmps21
  go_wp2_with (go_at_call 42; refine (mfree_nil _).mono ?_; rintro e w1 ⟨rfl, rfl⟩)
  go_ret
  exact ⟨rfl, rfl⟩
theorem Spec_nil (w : World) : Calls Tryz.prog 22 #[.pointer none] w fun e w' => e = .returned (specV 0 0 0 0) ∧ Below w.heap.size w w' := by
  have K := Lib.hid (Blk.new w 30 (spC 0 0 0 0))
  have B := Lib.hid (below_alloc w (.cells (spC 0 0 0 0) 30))
  go_enter Tryz.func22, Tryz.ntmps22
  go_wp2_with fail
  refine bodyPost_ret (results_cell_row rfl _ _ w.heap.size _ _ (0, 0) _ rfl K.out Tryz.underlying30 rfl (by kernel_rfl)) rfl ?_
  exact ⟨rfl, B.out⟩
theorem Spec_at {w : World} {x : Nat} {k key v mx : Int} {V : Value} (h : Blk w x xmT (xmC k key v mx V)) : Calls Tryz.prog 22 #[tp x] w fun e w' => e = .returned (specV k key v mx) ∧ Below w.heap.size w w' := by
  have c0 : w.cell? ⟨x, 0, none⟩ = some (.int .i64 k) := h.cell 0
  have c1 : w.cell? ⟨x, 1, none⟩ = some (.int .i64 key) := h.cell 1
  have c2 : w.cell? ⟨x, 2, none⟩ = some (.int .i64 v) := h.cell 2
  have c3 : w.cell? ⟨x, 3, none⟩ = some (.int .i64 mx) := h.cell 3
  have hk := h.alloc (.cells (spC 0 0 0 0) 30)
  have d0 : (w.alloc (.cells #[.int .i64 0, .int .i64 0, .int .i64 0, .int .i64 0] 30)).cell? ⟨x, 0, none⟩ = some (.int .i64 k) := hk.cell 0
  have d1 : (w.alloc (.cells #[.int .i64 0, .int .i64 0, .int .i64 0, .int .i64 0] 30)).cell? ⟨x, 1, none⟩ = some (.int .i64 key) := hk.cell 1
  have d2 : (w.alloc (.cells #[.int .i64 0, .int .i64 0, .int .i64 0, .int .i64 0] 30)).cell? ⟨x, 2, none⟩ = some (.int .i64 v) := hk.cell 2
  have d3 : (w.alloc (.cells #[.int .i64 0, .int .i64 0, .int .i64 0, .int .i64 0] 30)).cell? ⟨x, 3, none⟩ = some (.int .i64 mx) := hk.cell 3
  clear hk
  have K := Lib.hid (Blk.new w 30 (spC k key v mx))
  have B := Lib.hid (below_alloc w (.cells (spC k key v mx) 30))
  clear h
  go_enter Tryz.func22, Tryz.ntmps22
  go_wp2_with fail

  refine bodyPost_ret (results_cell_row rfl _ _ w.heap.size _ _ (0, 0) _ rfl K.out Tryz.underlying30 rfl (by kernel_rfl)) rfl ?_
  exact ⟨rfl, B.out⟩
end Go.Proofs.YtbikofedppgblaaGreat
namespace Go.Proofs.YtbikofedppgblaaGreat
open Go Go.RowKit Go.Maps
set_option linter.unusedVariables false
set_option linter.unusedSimpArgs false
set_option maxRecDepth 100000
section
variable {w : World} {x g N : Nat} {h : Pr}
theorem premove_any (hb : Blk w g plT (plC N h)) (hN : N ≤ 4096) {n : Nat} (hn : n < N) : Calls Tryz.prog 56 #[plV g N, .string (bstr (wb n 4))] w fun e w' => e = .returned (.int .i64 (if (h n).isSome = true then 0 else 4)) ∧ Turned w g N (h.put n none) w' := by
  cases hh : h n with
  | none =>
    refine (premove_none hb hN hn hh).mono ?_
    rintro e w' ⟨rfl, rfl⟩
    have e1 : h.put n none = h := by
      funext i
      unfold Pr.put
      split
      · rename_i e; rw [e, hh]
      · rfl
    exact ⟨rfl, by rw [e1]; exact hb, Keeps.refl _ _⟩
  | some v =>
    refine (premove_some hb hN hn hh).mono ?_
    rintro e w' ⟨rfl, ht⟩
    exact ⟨rfl, ht⟩
theorem mupdate_progs (hb : Blk w g plT (plC N h)) (hN : N ≤ 4096) {n : Nat} (hn : n < N) {v : Nat} (hv : v ≤ 4294967295) (cpu : Int) : Calls Tryz.prog 25 #[.iface progsT (plV g N), .string (bstr (wb n 4)), .string (bstr (wb v 4)), .int .i64 0, .int .i64 cpu] w fun e w' => e = .returned (.int .i64 0) ∧ Turned w g N (h.put n (some v)) w' := by
  have CU := Lib.hid (pupdate_ok hb hN hn hv)
  have xf := tp_f
  have xh := tp_h
  have xt := tp_t
  have xp := tp_p
  generalize bstr (wb n 4) = ks at *
  generalize bstr (wb v 4) = vs at *
  clear hb hv
  go_enter Tryz.func25, Tryz.ntmps25
  go_wp2_with (go_at_call 52; refine CU.out.mono ?_; rintro e w1 ⟨rfl, ht⟩; have T := Lib.hid ht; clear ht)
  go_ret
  exact ⟨rfl, T.out⟩
theorem mremove_progs (hb : Blk w g plT (plC N h)) (hN : N ≤ 4096) {n : Nat} (hn : n < N) : Calls Tryz.prog 27 #[.iface progsT (plV g N), .string (bstr (wb n 4))] w fun e w' => e = .returned (.int .i64 (if (h n).isSome = true then 0 else 4)) ∧ Turned w g N (h.put n none) w' := by
  have CU := Lib.hid (premove_any hb hN hn)
  have xf := tp_f
  have xh := tp_h
  have xt := tp_t
  have xp := tp_p
  generalize bstr (wb n 4) = ks at *
  generalize (if (h n).isSome = true then (0 : Int) else 4) = an at *
  clear hb
  go_enter Tryz.func27, Tryz.ntmps27
  go_wp2_with (go_at_call 56; refine CU.out.mono ?_; rintro e w1 ⟨rfl, ht⟩; have T := Lib.hid ht; clear ht)
  go_ret
  exact ⟨rfl, T.out⟩
def nextS : Option Nat → ByteArray
  | none => ⟨#[]⟩
  | some k => bstr (wb k 4)
def nextN : Option Nat → Int
  | none => 4
  | some _ => 0
theorem pnextA_eq (o : Option Nat) : pnextA o = .returned (.tuple #[.string (nextS o), .int .i64 (nextN o)]) := by cases o <;> rfl
theorem mnext_progs (hb : Blk w g plT (plC N h)) (hN : N ≤ 4096) {s : ByteArray} {f : Nat} (hk : KeyFrom s f) {o : Option Nat} (ho : NextIs h N f o) : Calls Tryz.prog 30 #[.iface progsT (plV g N), .string s] w fun e w' => e = .returned (.tuple #[.string (nextS o), .int .i64 (nextN o)]) ∧ Below w.heap.size w w' := by
  have cu := pnext_any hb hN hk ho
  rw [pnextA_eq] at cu
  have CU := Lib.hid cu
  clear cu
  have xf := tp_f
  have xh := tp_h
  have xt := tp_t
  have xp := tp_p
  generalize nextS o = ks at *
  generalize nextN o = an at *
  clear hb hk ho
  go_enter Tryz.func30, Tryz.ntmps30
  go_wp2_with (go_at_call 61; refine CU.out.mono ?_; rintro e w1 ⟨rfl, ht⟩; have T := Lib.hid ht; clear ht)
  go_ret2
  exact ⟨rfl, T.out⟩
/-- A map of programs: at x, its places at g. -/
structure PM (x g N : Nat) (h : Pr) (w : World) : Prop where
  map : Blk w x xmT (xmC 3 4 4 N (.iface progsT (plV g N)))
  row : Blk w g plT (plC N h)
  small : N ≤ 4096
theorem PM.ne (p : PM x g N h w) : x ≠ g := p.map.ne_ p.row (by decide)
theorem PM.keeps {U : Nat → Prop} {w' : World} (p : PM x g N h w) (k : Keeps U w w') (hx : ¬ U x) (hg : ¬ U g) : PM x g N h w' := ⟨p.map.keeps k hx, p.row.keeps k hg, p.small⟩
theorem PM.below {w' : World} (p : PM x g N h w) (k : Below w.heap.size w w') : PM x g N h w' := ⟨blk_below p.map k, blk_below p.row k, p.small⟩
theorem PM.turn {w' : World} {h' : Pr} (p : PM x g N h w) (t : Turned w g N h' w') : PM x g N h' w' := ⟨p.map.keeps t.2 p.ne, t.1, p.small⟩
theorem Update_progs (p : PM x g N h w) {n : Nat} (hn : n < N) {v : Nat} (hv : v ≤ 4294967295) (cpu : Int) : Calls Tryz.prog 7 #[tp x, .string (bstr (wb n 4)), .string (bstr (wb v 4)), .int .i64 0, .int .i64 cpu] w fun e w' => e = .returned (.int .i64 0) ∧ Turned w g N (h.put n (some v)) w' := by
  have CL := Lib.hid (layer_at p.map)
  have CU := Lib.hid (mupdate_progs p.row p.small hn hv cpu)
  generalize bstr (wb n 4) = ks at *
  generalize bstr (wb v 4) = vs at *
  clear p hv
  go_enter Tryz.func7, Tryz.ntmps7
  go_wp2_with (first
    | (go_at_call 26; refine CL.out.mono ?_; rintro e w1 ⟨rfl, rfl⟩)
    | (go_at_call 25; refine CU.out.mono ?_; rintro e w1 ⟨rfl, ht⟩; have T := Lib.hid ht; clear ht))
  go_ret
  exact ⟨rfl, T.out⟩
theorem Delete_progs (p : PM x g N h w) {n : Nat} (hn : n < N) : Calls Tryz.prog 9 #[tp x, .string (bstr (wb n 4))] w fun e w' => e = .returned (.int .i64 (if (h n).isSome = true then 0 else 4)) ∧ Turned w g N (h.put n none) w' := by
  have CL := Lib.hid (layer_at p.map)
  have CU := Lib.hid (mremove_progs p.row p.small hn)
  generalize bstr (wb n 4) = ks at *
  generalize (if (h n).isSome = true then (0 : Int) else 4) = an at *
  clear p
  go_enter Tryz.func9, Tryz.ntmps9
  go_wp2_with (first
    | (go_at_call 26; refine CL.out.mono ?_; rintro e w1 ⟨rfl, rfl⟩)
    | (go_at_call 27; refine CU.out.mono ?_; rintro e w1 ⟨rfl, ht⟩; have T := Lib.hid ht; clear ht))
  go_ret
  exact ⟨rfl, T.out⟩
theorem Next_progs (p : PM x g N h w) {s : ByteArray} {f : Nat} (hk : KeyFrom s f) {o : Option Nat} (ho : NextIs h N f o) : Calls Tryz.prog 11 #[tp x, .string s] w fun e w' => e = .returned (.tuple #[.string (nextS o), .int .i64 (nextN o)]) ∧ Below w.heap.size w w' := by
  have CL := Lib.hid (layer_at p.map)
  have CU := Lib.hid (mnext_progs p.row p.small hk ho)
  generalize nextS o = ks at *
  generalize nextN o = an at *
  clear p hk ho
  go_enter Tryz.func11, Tryz.ntmps11
  go_wp2_with (first
    | (go_at_call 26; refine CL.out.mono ?_; rintro e w1 ⟨rfl, rfl⟩)
    | (go_at_call 30; refine CU.out.mono ?_; rintro e w1 ⟨rfl, ht⟩; have T := Lib.hid ht; clear ht))
  go_ret2
  exact ⟨rfl, T.out⟩
theorem Prog_progs (p : PM x g N h w) {n : Nat} (hn : n < N) : Calls Tryz.prog 10 #[tp x, .int .i64 n] w fun e w' => e = .returned (.tuple #[.int .i64 (((h n).getD 0 : Nat) : Int), .bool (h n).isSome]) ∧ ∃ m, w' = w.drewN m := by
  have CL := Lib.hid (layer_at p.map)
  have CU := Lib.hid (prog_any p.row p.small hn)
  generalize (h n).isSome = ks at *
  generalize (((h n).getD 0 : Nat) : Int) = an at *
  clear p
  go_enter Tryz.func10, Tryz.ntmps10
  go_wp2_with (first
    | (go_at_call 26; refine CL.out.mono ?_; rintro e w1 ⟨rfl, rfl⟩)
    | (go_at_call 28; refine (progsOf_progs _ _).mono ?_; rintro e w1 ⟨rfl, rfl⟩)
    | (go_at_call 29; refine CU.out.mono ?_; rintro e w1 ⟨rfl, hw⟩; have T := Lib.hid hw; clear hw))
  go_ret2
  exact ⟨rfl, T.out⟩
/-! ### New -/
theorem new_gen (k key v mx : Int) (t : TypeId) (bm : Nat) (R : World → Prop) (Q : World → Value → World → Prop)
    (hC : ∀ W, Calls Tryz.prog 23 #[specV k key v mx] W fun e w' => e = .returned (.int .i64 0) ∧ Below W.heap.size W w')
    (hB : ∀ W, R W → Calls Tryz.prog 24 #[tp bm, specV k key v mx, .int .i64 1] W fun e w' => ∃ u, e = .returned (.tuple #[.iface t u, .int .i64 0]) ∧ Below W.heap.size W w' ∧ Q W u w')
    (w : World) (hR : ∀ W, Below w.heap.size w W → R W) :
    Calls Tryz.prog 6 #[tp bm, specV k key v mx, .int .i64 1] w fun e w' => ∃ x u W1 W2, e = .returned (.tuple #[tp x, .int .i64 0]) ∧ Blk w' x xmT (xmC k key v mx (.iface t u)) ∧ Below w.heap.size w w' ∧ Below w.heap.size w W1 ∧ Q W1 u W2 ∧ Below W1.heap.size W1 W2 ∧ Below W2.heap.size W2 w' ∧ W2.heap.size ≤ x := by
  have CC := Lib.hid hC
  have CB := Lib.hid hB
  have HR := Lib.hid hR
  have HB := Lib.hid (Blk.new w 30 (spC k key v mx))
  have B0 := Lib.hid (below_alloc w (.cells (spC k key v mx) 30))
  clear hC hB hR
  have c0 : (w.alloc (.cells #[.int .i64 k, .int .i64 key, .int .i64 v, .int .i64 mx] 30)).cell? ⟨w.heap.size, 0, none⟩ = some (.int .i64 k) := HB.out.cell 0
  have c1 : (w.alloc (.cells #[.int .i64 k, .int .i64 key, .int .i64 v, .int .i64 mx] 30)).cell? ⟨w.heap.size, 1, none⟩ = some (.int .i64 key) := HB.out.cell 1
  have c2 : (w.alloc (.cells #[.int .i64 k, .int .i64 key, .int .i64 v, .int .i64 mx] 30)).cell? ⟨w.heap.size, 2, none⟩ = some (.int .i64 v) := HB.out.cell 2
  have c3 : (w.alloc (.cells #[.int .i64 k, .int .i64 key, .int .i64 v, .int .i64 mx] 30)).cell? ⟨w.heap.size, 3, none⟩ = some (.int .i64 mx) := HB.out.cell 3
  go_enter Tryz.func6, Tryz.ntmps6
  go_upto_region 2 with (go_at_call 23; refine (CC.out _).mono ?_; rintro e w1 ⟨rfl, hb⟩; have B1 := Lib.hid (below_then B0.out hb); have HB1 := Lib.hid (blk_below HB.out hb); clear hb)
  clear c0 c1 c2 c3
  have d0 : w1.cell? ⟨w.heap.size, 0, none⟩ = some (.int .i64 k) := HB1.out.cell 0
  have d1 : w1.cell? ⟨w.heap.size, 1, none⟩ = some (.int .i64 key) := HB1.out.cell 1
  have d2 : w1.cell? ⟨w.heap.size, 2, none⟩ = some (.int .i64 v) := HB1.out.cell 2
  have d3 : w1.cell? ⟨w.heap.size, 3, none⟩ = some (.int .i64 mx) := HB1.out.cell 3
  go_upto_region 7 with (go_at_call 24; refine (CB.out _ (HR.out _ B1.out)).mono ?_; rintro e w2 ⟨u, rfl, hb, hq⟩; have B2 := Lib.hid hb; have QQ := Lib.hid hq; have HB2 := Lib.hid (blk_below HB1.out hb); clear hb hq)
  clear d0 d1 d2 d3
  have d0 : w2.cell? ⟨w.heap.size, 0, none⟩ = some (.int .i64 k) := HB2.out.cell 0
  have d1 : w2.cell? ⟨w.heap.size, 1, none⟩ = some (.int .i64 key) := HB2.out.cell 1
  have d2 : w2.cell? ⟨w.heap.size, 2, none⟩ = some (.int .i64 v) := HB2.out.cell 2
  have d3 : w2.cell? ⟨w.heap.size, 3, none⟩ = some (.int .i64 mx) := HB2.out.cell 3
  have K := Lib.hid (Blk.new w2 xmT (xmC k key v mx (.iface t u)))
  have B3 := Lib.hid (below_alloc w2 (.cells (xmC k key v mx (.iface t u)) xmT))
  go_wp2_with fail
  go_ret2
  exact ⟨w2.heap.size, u, w1, w2, rfl, K.out, below_then (below_then B1.out B2.out) B3.out, B1.out, QQ.out, B2.out, B3.out, Nat.le_refl _⟩
end
end Go.Proofs.YtbikofedppgblaaGreat
