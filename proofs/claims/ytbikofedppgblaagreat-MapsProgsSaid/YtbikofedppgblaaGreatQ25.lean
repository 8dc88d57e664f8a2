/-
  Package maps: Check and New, of programs and of a table. Package maps: which map it is; the calls, on nil and on programs.
-/
import Derived.Test.YtbikofedppgblaaGreatQ24
namespace Go.Proofs.YtbikofedppgblaaGreat
open Go Go.RowKit Go.Maps
set_option linter.unusedVariables false
set_option linter.unusedSimpArgs false
set_option maxRecDepth 100000
abbrev anyT : TypeId := 20
abbrev progsT : TypeId := 71
abbrev xmT : TypeId := 64
abbrev hpT : TypeId := 85
abbrev ps0 : PS := ⟨0, 0, fun _ => none⟩
theorem below_undrew {w w1 : World} (h : Below w.drew.heap.size w.drew w1) : Below w.heap.size w w1 := ⟨h.os, h.tape, h.output, h.size, h.block⟩
/-- A memory that is as it was made. -/
def Mem0 (w : World) (bm : Nat) : Prop := ∃ S, KSide w S bm ps0 ∧ ∀ b, S b → b = bm
theorem Mem0.below {w w' : World} {bm : Nat} (h : Mem0 w bm) (k : Below w.heap.size w w') : Mem0 w' bm := by
  obtain ⟨S, h1, h2⟩ := h
  have hl := h1.lt'
  exact ⟨S, h1.keeps' (keeps_grow k) (fun _ _ h => h), h2⟩
theorem knew_any (w : World) : Calls Tryz.prog 5 #[] w fun e w' => e = .returned (tp w.heap.size) ∧ Below w.heap.size w w' ∧ Mem0 w' w.heap.size ∧ w.heap.size < w'.heap.size := by
  refine (new_any w).mono ?_
  rintro e w' ⟨rfl, rfl⟩
  obtain ⟨hb, hB, S, mv, rv, hk, hS⟩ := KF.start w
  refine ⟨rfl, below_alloc _ _, ⟨S, ⟨_, _, _, _, hk, fun _ => rfl⟩, fun b hb' => ?_⟩, by simp⟩
  have h1 := hS b hb'
  have h2 := hk.lt b hb'
  simp at h2
  omega
theorem knew_ex (w : World) : Calls Tryz.prog 5 #[] w fun e w' => ∃ bm, e = .returned (tp bm) ∧ Below w.heap.size w w' ∧ Mem0 w' bm := (knew_any w).mono fun e w' h => ⟨_, h.1, h.2.1, h.2.2.1⟩
def MK (N : Nat) : Prop := N ≤ 4096 ∧ 1 ≤ N ∧ ∀ W : World, (Instr.makeSlice progsT (.int .i64 (N : Int)) (.int .i64 (N : Int))).run Tryz.prog W = .ok (plV W.heap.size N) (W.alloc (.cells (plC N noP) plT))
theorem mk2 : MK 2 := ⟨by decide, by decide, fun W => by kernel_rfl⟩
theorem mk16 : MK 16 := ⟨by decide, by decide, fun W => by kernel_rfl⟩
theorem newProgs_ok (N : Nat) (hm : MK N) (w : World) : Calls Tryz.prog 48 #[specV 3 4 4 N] w fun e w' => ∃ g, e = .returned (.tuple #[plV g N, .int .i64 0]) ∧ Blk w' g plT (plC N noP) ∧ w.heap.size ≤ g ∧ Below w.heap.size w w' := by
  obtain ⟨h1, h2, h3⟩ := hm
  have mk := h3 (w.alloc (.cells #[.int .i64 3, .int .i64 4, .int .i64 4, .int .i64 (N : Int)] 30))
  have B := Lib.hid (below_then (below_alloc w (.cells #[.int .i64 3, .int .i64 4, .int .i64 4, .int .i64 (N : Int)] 30)) (below_alloc _ (.cells (plC N noP) plT)))
  have K := Lib.hid (Blk.new (w.alloc (.cells #[.int .i64 3, .int .i64 4, .int .i64 4, .int .i64 (N : Int)] 30)) plT (plC N noP))
  have g1 : decide ((N : Int) < 1) = false := decide_eq_false (by omega)
  have g2 : decide ((4096 : Int) < (N : Int)) = false := decide_eq_false (by omega)
  generalize plC N noP = cs at *
  clear h3
  go_enter Tryz.func48, Tryz.ntmps48
  go_wp2_with fail
  go_ret2
  exact ⟨_, rfl, by simpa using K.out, by omega, B.out⟩
theorem build_progs (p : Value) (N : Nat) (hm : MK N) (w : World) : Calls Tryz.prog 24 #[p, specV 3 4 4 N, .int .i64 1] w fun e w' => ∃ g, e = .returned (.tuple #[.iface progsT (plV g N), .int .i64 0]) ∧ Below w.heap.size w w' ∧ Blk w' g plT (plC N noP) ∧ w.heap.size ≤ g := by
  have B := Lib.hid (below_alloc w (.cells #[.int .i64 3, .int .i64 4, .int .i64 4, .int .i64 (N : Int)] 30))
  have CN := Lib.hid (newProgs_ok N hm)
  go_enter Tryz.func24, Tryz.ntmps24
  go_wp2_with (go_at_call 48; refine (CN.out _).mono ?_; rintro e w1 ⟨g, rfl, hk, hg, hb⟩; have K := Lib.hid hk; have G := Lib.hid hg; have B1 := Lib.hid hb; clear hk hg hb)
  go_ret2
  exact ⟨g, rfl, below_then B.out B1.out, K.out, Nat.le_trans B.out.size G.out⟩
theorem build_hash (bm : Nat) (w : World) (hm : Mem0 w bm) : Calls Tryz.prog 24 #[tp bm, specV 1 1 1 2, .int .i64 1] w fun e w' => ∃ y, e = .returned (.tuple #[.iface hpT (tp y), .int .i64 0]) ∧ Below w.heap.size w w' ∧ ∃ P, PH ⟨bm, 0, y, 0, 1, 1, 1, 2⟩ ⟨ps0, [], 0, false⟩ P w' ∧ ∀ b, P b → b = bm ∨ w.heap.size ≤ b := by
  have B := Lib.hid (below_alloc w (.cells #[.int .i64 1, .int .i64 1, .int .i64 1, .int .i64 2] 30))
  have M0 := Lib.hid (hm.below B.out)
  have CN := Lib.hid (new_ok bm 1 1 1 2 (by decide))
  clear hm
  go_enter Tryz.func24, Tryz.ntmps24
  go_wp2_with (go_at_call 45; refine (CN.out _).mono ?_; rintro e w1 ⟨x, mb, rfl, h1, h2, h3, h4, h5⟩; have H1 := Lib.hid h1; have H2 := Lib.hid h2; have H3 := Lib.hid h3; have H4 := Lib.hid h4; have H5 := Lib.hid h5; clear h1 h2 h3 h4 h5)
  go_ret2
  obtain ⟨S, hs, hS⟩ := M0.out
  refine ⟨x, rfl, below_then B.out H5.out, _, PH.made hs H1.out H2.out H3.out H4.out H5.out, ?_⟩
  rintro b (hb | ⟨hb, _⟩)
  · exact .inl (hS b hb)
  · exact .inr (Nat.le_trans B.out.size hb)
theorem build_none (p : Value) (w : World) : Calls Tryz.prog 24 #[p, specV 0 0 0 0, .int .i64 1] w fun e w' => e = .returned (.tuple #[.nilIface, .int .i64 1]) ∧ Below w.heap.size w w' := by
  have B := Lib.hid (below_alloc w (.cells #[.int .i64 0, .int .i64 0, .int .i64 0, .int .i64 0] 30))
  go_enter Tryz.func24, Tryz.ntmps24
  go_wp2_with fail
  go_ret2
  exact ⟨rfl, B.out⟩
abbrev spC (k key v mx : Int) : Array Value := #[.int .i64 k, .int .i64 key, .int .i64 v, .int .i64 mx]
theorem check_gen (k key v mx c : Int) (hB : ∀ W bm, Mem0 W bm → Calls Tryz.prog 24 #[tp bm, specV k key v mx, .int .i64 1] W fun e w' => ∃ u, e = .returned (.tuple #[u, .int .i64 c]) ∧ Below W.heap.size W w') (w : World) :
    Calls Tryz.prog 23 #[specV k key v mx] w fun e w' => e = .returned (.int .i64 c) ∧ Below w.heap.size w w' := by
  have CB := Lib.hid hB
  have HB := Lib.hid (Blk.new w 30 (spC k key v mx))
  have B0 := Lib.hid (below_alloc w (.cells (spC k key v mx) 30))
  clear hB
  go_enter Tryz.func23, Tryz.ntmps23
  go_wp2_with fail
  have K0 : Hid ((w.alloc (.cells #[.int .i64 k, .int .i64 key, .int .i64 v, .int .i64 mx] 30)).drew.cell? ⟨w.heap.size, 0, none⟩ = some (.int .i64 k) ∧ (w.alloc (.cells #[.int .i64 k, .int .i64 key, .int .i64 v, .int .i64 mx] 30)).drew.cell? ⟨w.heap.size, 1, none⟩ = some (.int .i64 key) ∧ (w.alloc (.cells #[.int .i64 k, .int .i64 key, .int .i64 v, .int .i64 mx] 30)).drew.cell? ⟨w.heap.size, 2, none⟩ = some (.int .i64 v) ∧ (w.alloc (.cells #[.int .i64 k, .int .i64 key, .int .i64 v, .int .i64 mx] 30)).drew.cell? ⟨w.heap.size, 3, none⟩ = some (.int .i64 mx)) := ⟨HB.out.cell 0, HB.out.cell 1, HB.out.cell 2, HB.out.cell 3⟩
  go_region_held3 (fun W' => W'.cell? ⟨w.heap.size, 0, none⟩ = some (.int .i64 k) ∧ W'.cell? ⟨w.heap.size, 1, none⟩ = some (.int .i64 key) ∧ W'.cell? ⟨w.heap.size, 2, none⟩ = some (.int .i64 v) ∧ W'.cell? ⟨w.heap.size, 3, none⟩ = some (.int .i64 mx))
    (first | with_reducible exact K0.out | with_reducible exact K1.out | with_reducible exact K2.out)
    (first
      | (go_at_call 5; refine (knew_ex _).mono ?_; rintro e' w1 ⟨bm, rfl, hb1, hm1⟩; have B1 := Lib.hid (below_then B0.out (below_undrew hb1)); have M1 := Lib.hid hm1; have HB1 := Lib.hid (blk_below HB.out (below_undrew hb1)); clear hb1 hm1; have K1 : Hid (w1.cell? ⟨w.heap.size, 0, none⟩ = some (.int .i64 k) ∧ w1.cell? ⟨w.heap.size, 1, none⟩ = some (.int .i64 key) ∧ w1.cell? ⟨w.heap.size, 2, none⟩ = some (.int .i64 v) ∧ w1.cell? ⟨w.heap.size, 3, none⟩ = some (.int .i64 mx)) := ⟨HB1.out.cell 0, HB1.out.cell 1, HB1.out.cell 2, HB1.out.cell 3⟩)
      | (go_at_call 24; refine (CB.out _ _ M1.out).mono ?_; rintro e' w2 ⟨u, rfl, hb2⟩; have B2 := Lib.hid (below_then B1.out hb2); have HB2 := Lib.hid (blk_below HB1.out hb2); clear hb2; have K2 : Hid (w2.cell? ⟨w.heap.size, 0, none⟩ = some (.int .i64 k) ∧ w2.cell? ⟨w.heap.size, 1, none⟩ = some (.int .i64 key) ∧ w2.cell? ⟨w.heap.size, 2, none⟩ = some (.int .i64 v) ∧ w2.cell? ⟨w.heap.size, 3, none⟩ = some (.int .i64 mx)) := ⟨HB2.out.cell 0, HB2.out.cell 1, HB2.out.cell 2, HB2.out.cell 3⟩))
  go_wp2_with fail
  go_ret
  exact ⟨rfl, B2.out⟩
end Go.Proofs.YtbikofedppgblaaGreat
namespace Go.Proofs.YtbikofedppgblaaGreat
open Go Go.RowKit Go.Maps
set_option linter.unusedVariables false
set_option linter.unusedSimpArgs false
set_option maxRecDepth 100000
abbrev xmC (k key v mx : Int) (V : Value) : Array Value := #[.int .i64 k, .int .i64 key, .int .i64 v, .int .i64 mx, V]
theorem layer_nil (w : World) : Calls Tryz.prog 26 #[.pointer none] w fun e w' => e = .returned .nilIface ∧ w = w' := by
  go_enter Tryz.func26, Tryz.ntmps26
  go_wp2_with fail
  go_ret
  exact ⟨rfl, rfl⟩
theorem layer_at {w : World} {x : Nat} {k key v mx : Int} {t : TypeId} {u : Value} (h : Blk w x xmT (xmC k key v mx (.iface t u))) : Calls Tryz.prog 26 #[tp x] w fun e w' => e = .returned (.iface t u) ∧ w = w' := by
  have c4 : w.cell? ⟨x, 4, none⟩ = some (.iface t u) := h.cell 4
  clear h
  go_enter Tryz.func26, Tryz.ntmps26
  go_wp2_with fail
  go_ret
  exact ⟨rfl, rfl⟩
/-! ### what a type switch sees -/
theorem tn_f (w : World) : (Instr.typeAssert .nilIface anyT 80 true).run Tryz.prog w = .ok (.tuple #[.pointer none, .bool false]) w := by kernel_rfl
theorem tn_h (w : World) : (Instr.typeAssert .nilIface anyT 85 true).run Tryz.prog w = .ok (.tuple #[.pointer none, .bool false]) w := by kernel_rfl
theorem tn_t (w : World) : (Instr.typeAssert .nilIface anyT 88 true).run Tryz.prog w = .ok (.tuple #[.pointer none, .bool false]) w := by kernel_rfl
theorem tn_q (w : World) : (Instr.typeAssert .nilIface anyT 74 true).run Tryz.prog w = .ok (.tuple #[.pointer none, .bool false]) w := by kernel_rfl
theorem tn_r (w : World) : (Instr.typeAssert .nilIface anyT 76 true).run Tryz.prog w = .ok (.tuple #[.pointer none, .bool false]) w := by kernel_rfl
theorem tn_p (w : World) : (Instr.typeAssert .nilIface anyT 71 true).run Tryz.prog w = .ok (.tuple #[.slice none 0 0, .bool false]) w := by kernel_rfl
theorem th_f (V : Value) (w : World) : (Instr.typeAssert (.iface hpT V) anyT 80 true).run Tryz.prog w = .ok (.tuple #[.pointer none, .bool false]) w := by kernel_rfl
theorem th_t (V : Value) (w : World) : (Instr.typeAssert (.iface hpT V) anyT 88 true).run Tryz.prog w = .ok (.tuple #[.pointer none, .bool false]) w := by kernel_rfl
theorem th_h (V : Value) (w : World) : (Instr.typeAssert (.iface hpT V) anyT 85 true).run Tryz.prog w = .ok (.tuple #[V, .bool true]) w := by kernel_rfl
theorem th_q (V : Value) (w : World) : (Instr.typeAssert (.iface hpT V) anyT 74 true).run Tryz.prog w = .ok (.tuple #[.pointer none, .bool false]) w := by kernel_rfl
theorem th_r (V : Value) (w : World) : (Instr.typeAssert (.iface hpT V) anyT 76 true).run Tryz.prog w = .ok (.tuple #[.pointer none, .bool false]) w := by kernel_rfl
theorem th_p (V : Value) (w : World) : (Instr.typeAssert (.iface hpT V) anyT 71 true).run Tryz.prog w = .ok (.tuple #[.slice none 0 0, .bool false]) w := by kernel_rfl
theorem tp_f (V : Value) (w : World) : (Instr.typeAssert (.iface progsT V) anyT 80 true).run Tryz.prog w = .ok (.tuple #[.pointer none, .bool false]) w := by kernel_rfl
theorem tp_t (V : Value) (w : World) : (Instr.typeAssert (.iface progsT V) anyT 88 true).run Tryz.prog w = .ok (.tuple #[.pointer none, .bool false]) w := by kernel_rfl
theorem tp_h (V : Value) (w : World) : (Instr.typeAssert (.iface progsT V) anyT 85 true).run Tryz.prog w = .ok (.tuple #[.pointer none, .bool false]) w := by kernel_rfl
theorem tp_q (V : Value) (w : World) : (Instr.typeAssert (.iface progsT V) anyT 74 true).run Tryz.prog w = .ok (.tuple #[.pointer none, .bool false]) w := by kernel_rfl
theorem tp_r (V : Value) (w : World) : (Instr.typeAssert (.iface progsT V) anyT 76 true).run Tryz.prog w = .ok (.tuple #[.pointer none, .bool false]) w := by kernel_rfl
theorem tp_p (V : Value) (w : World) : (Instr.typeAssert (.iface progsT V) anyT 71 true).run Tryz.prog w = .ok (.tuple #[V, .bool true]) w := by kernel_rfl
/-! ### on nil -/
theorem lookup_nil (key : ByteArray) (cpu : Int) (w : World) : Calls Tryz.prog 36 #[.nilIface, .string key, .int .i64 cpu] w fun e w' => e = .returned (.int .u64 0) ∧ w = w' := by
  have xf := tn_f
  have xh := tn_h
  have xt := tn_t
  go_enter Tryz.func36, Tryz.ntmps36
  go_wp2_with fail
  go_ret
  exact ⟨rfl, rfl⟩
theorem update_nil (key value : ByteArray) (fl cpu : Int) (w : World) : Calls Tryz.prog 25 #[.nilIface, .string key, .string value, .int .i64 fl, .int .i64 cpu] w fun e w' => e = .returned (.int .i64 1) ∧ w = w' := by
  have xf := tn_f
  have xh := tn_h
  have xt := tn_t
  have xp := tn_p
  go_enter Tryz.func25, Tryz.ntmps25
  go_wp2_with fail
  go_ret
  exact ⟨rfl, rfl⟩
theorem remove_nil (key : ByteArray) (w : World) : Calls Tryz.prog 27 #[.nilIface, .string key] w fun e w' => e = .returned (.int .i64 1) ∧ w = w' := by
  have xf := tn_f
  have xh := tn_h
  have xt := tn_t
  have xp := tn_p
  go_enter Tryz.func27, Tryz.ntmps27
  go_wp2_with fail
  go_ret
  exact ⟨rfl, rfl⟩
theorem mnext_nil (key : ByteArray) (w : World) : Calls Tryz.prog 30 #[.nilIface, .string key] w fun e w' => e = .returned (.tuple #[.string ⟨#[]⟩, .int .i64 1]) ∧ w = w' := by
  have xf := tn_f
  have xh := tn_h
  have xt := tn_t
  have xp := tn_p
  go_enter Tryz.func30, Tryz.ntmps30
  go_wp2_with fail
  go_ret2
  exact ⟨rfl, rfl⟩
theorem queueOf_nil (w : World) : Calls Tryz.prog 31 #[.nilIface] w fun e w' => e = .returned (.pointer none) ∧ w = w' := by
  have xq := tn_q
  go_enter Tryz.func31, Tryz.ntmps31
  go_wp2_with fail
  go_ret
  exact ⟨rfl, rfl⟩
theorem queueOf_hash (V : Value) (w : World) : Calls Tryz.prog 31 #[.iface hpT V] w fun e w' => e = .returned (.pointer none) ∧ w = w' := by
  have xq := th_q V
  go_enter Tryz.func31, Tryz.ntmps31
  go_wp2_with fail
  go_ret
  exact ⟨rfl, rfl⟩
theorem ringOf_nil (w : World) : Calls Tryz.prog 34 #[.nilIface] w fun e w' => e = .returned (.pointer none) ∧ w = w' := by
  have xr := tn_r
  go_enter Tryz.func34, Tryz.ntmps34
  go_wp2_with fail
  go_ret
  exact ⟨rfl, rfl⟩
theorem progsOf_nil (w : World) : Calls Tryz.prog 28 #[.nilIface] w fun e w' => e = .returned (.slice none 0 0) ∧ w = w' := by
  have xp := tn_p
  go_enter Tryz.func28, Tryz.ntmps28
  go_wp2_with fail
  go_ret
  exact ⟨rfl, rfl⟩
theorem progsOf_progs (V : Value) (w : World) : Calls Tryz.prog 28 #[.iface progsT V] w fun e w' => e = .returned V ∧ w = w' := by
  have xp := tp_p V
  go_enter Tryz.func28, Tryz.ntmps28
  go_wp2_with fail
  go_ret
  exact ⟨rfl, rfl⟩
theorem has_nil (n : Nat) (w : World) : Calls Tryz.prog 57 #[.slice none 0 0, .int .u64 n] w fun e w' => e = .returned (.bool false) ∧ w = w' := by
  have g1 : decide ((n : Int) < 0) = false := decide_eq_false (by omega)
  go_enter Tryz.func57, Tryz.ntmps57
  go_wp2_with fail
  go_ret
  exact ⟨rfl, rfl⟩
theorem prog_nil (n : Int) (hn : (Lit.int .i64 n).wf = true) (w : World) : Calls Tryz.prog 29 #[.slice none 0 0, .int .i64 n] w fun e w' => e = .returned (.tuple #[.int .i64 0, .bool false]) ∧ w = w' := by
  have hh : -9223372036854775808 ≤ n ∧ n ≤ 9223372036854775807 := by
    simp [Lit.wf, IntKind.min, IntKind.max, IntKind.bits, IntKind.signed] at hn; omega
  by_cases h0 : n < 0
  · have g1 : decide (n < 0) = true := decide_eq_true h0
    go_enter Tryz.func29, Tryz.ntmps29
    go_wp2_with fail
    go_ret2
    exact ⟨rfl, rfl⟩
  · have g1 : decide (n < 0) = false := decide_eq_false h0
    obtain ⟨m, rfl⟩ : ∃ m : Nat, n = (m : Int) := ⟨n.toNat, by omega⟩
    have e1 : IntKind.u64.wrap (m : Int) = (m : Int) := wraps_u64 _ (by omega) (by omega)
    have CH := Lib.hid (has_nil m w)
    go_enter Tryz.func29, Tryz.ntmps29
    go_wp2_with (go_at_call 57; refine CH.out.mono ?_; rintro e w1 ⟨rfl, rfl⟩)
    go_ret2
    exact ⟨rfl, rfl⟩
end Go.Proofs.YtbikofedppgblaaGreat
