/-
  Package ring: New.
-/
import Derived.Test.YtdihlmhipkcedaaGDrain2
import Derived.Carry
namespace Go.Proofs.Ytdihlmhipkcedaa
open Go Go.RowKit Go.Maps
set_option linter.unusedVariables false
set_option linter.unusedSimpArgs false
set_option maxRecDepth 100000
abbrev specT : TypeId := 30
abbrev specC (mx : Int) : Array Value := #[.int .i64 27, .int .i64 0, .int .i64 0, .int .i64 mx]
abbrev specV (mx : Int) : Value := .agg (specC mx)
theorem ones64_64 (w : World) : Calls Try.prog 44 #[.int .u64 64] w fun e w' => e = .returned (.int .i64 1) ∧ w = w' := by
  have b0 : bits .and .u64 32 6148914691236517205 = 0 := by decide
  have b1 : bits .and .u64 64 6148914691236517205 = 64 := by decide
  have b2 : bits .and .u64 16 3689348814741910323 = 16 := by decide
  have b3 : bits .and .u64 64 3689348814741910323 = 0 := by decide
  have b4 : bits .and .u64 17 1085102592571150095 = 1 := by decide
  have b5 : bits .and .i64 1 127 = 1 := by decide
  go_enter Try.func44, Try.ntmps44
  go_wp2_with fail
  go_ret
  exact ⟨rfl, rfl⟩
theorem ones_64 (w : World) : Calls Try.prog 32 #[.int .u64 64] w fun e w' => e = .returned (.int .i64 1) ∧ w = w' := by
  have C := Lib.hid (ones64_64 w)
  go_enter Try.func32, Try.ntmps32
  go_wp2_with (go_at_call 44; refine C.out.mono ?_; rintro e w1 ⟨rfl, rfl⟩)
  go_ret
  exact ⟨rfl, rfl⟩
theorem ones64_1024 (w : World) : Calls Try.prog 44 #[.int .u64 1024] w fun e w' => e = .returned (.int .i64 1) ∧ w = w' := by
  have b0 : bits .and .u64 512 6148914691236517205 = 0 := by decide
  have b1 : bits .and .u64 1024 6148914691236517205 = 1024 := by decide
  have b2 : bits .and .u64 256 3689348814741910323 = 256 := by decide
  have b3 : bits .and .u64 1024 3689348814741910323 = 0 := by decide
  have b4 : bits .and .u64 272 1085102592571150095 = 256 := by decide
  have b5 : bits .and .i64 257 127 = 1 := by decide
  go_enter Try.func44, Try.ntmps44
  go_wp2_with fail
  go_ret
  exact ⟨rfl, rfl⟩
theorem ones_1024 (w : World) : Calls Try.prog 32 #[.int .u64 1024] w fun e w' => e = .returned (.int .i64 1) ∧ w = w' := by
  have C := Lib.hid (ones64_1024 w)
  go_enter Try.func32, Try.ntmps32
  go_wp2_with (go_at_call 44; refine C.out.mono ?_; rintro e w1 ⟨rfl, rfl⟩)
  go_ret
  exact ⟨rfl, rfl⟩
theorem ones64_4096 (w : World) : Calls Try.prog 44 #[.int .u64 4096] w fun e w' => e = .returned (.int .i64 1) ∧ w = w' := by
  have b0 : bits .and .u64 2048 6148914691236517205 = 0 := by decide
  have b1 : bits .and .u64 4096 6148914691236517205 = 4096 := by decide
  have b2 : bits .and .u64 1024 3689348814741910323 = 0 := by decide
  have b3 : bits .and .u64 4096 3689348814741910323 = 4096 := by decide
  have b4 : bits .and .u64 4352 1085102592571150095 = 256 := by decide
  have b5 : bits .and .i64 257 127 = 1 := by decide
  go_enter Try.func44, Try.ntmps44
  go_wp2_with fail
  go_ret
  exact ⟨rfl, rfl⟩
theorem ones_4096 (w : World) : Calls Try.prog 32 #[.int .u64 4096] w fun e w' => e = .returned (.int .i64 1) ∧ w = w' := by
  have C := Lib.hid (ones64_4096 w)
  go_enter Try.func32, Try.ntmps32
  go_wp2_with (go_at_call 44; refine C.out.mono ?_; rintro e w1 ⟨rfl, rfl⟩)
  go_ret
  exact ⟨rfl, rfl⟩
/-- The sizes that the laws ask. -/
def Sz (mx : Nat) : Prop := mx = 64 ∨ mx = 1024 ∨ mx = 4096
theorem ones_any (mx : Nat) (h : Sz mx) (w : World) : Calls Try.prog 32 #[.int .u64 mx] w fun e w' => e = .returned (.int .i64 1) ∧ w = w' := by
  rcases h with rfl | rfl | rfl
  · exact ones_64 w
  · exact ones_1024 w
  · exact ones_4096 w
theorem fits_yes (mx : Nat) (h : Sz mx) (w : World) : Calls Try.prog 18 #[specV mx] w fun e w' => e = .returned (.bool true) ∧ Below w.heap.size w w' := by
  have C := Lib.hid (fun w => ones_any mx h w)
  have h1 : decide ((64 : Int) ≤ (mx : Int)) = true := by rcases h with rfl | rfl | rfl <;> decide
  have h2 : decide ((mx : Int) ≤ 65536) = true := by rcases h with rfl | rfl | rfl <;> decide
  have h3 : IntKind.u64.wrap (mx : Int) = (mx : Int) := by rcases h with rfl | rfl | rfl <;> decide
  have B := Lib.hid (below_alloc w (.cells (specC mx) specT))
  clear h
  go_enter Try.func18, Try.ntmps18
  go_wp2_with (go_at_call 32; refine (C.out _).mono ?_; rintro e w1 ⟨rfl, rfl⟩)
  go_ret
  exact ⟨rfl, B.out⟩
theorem new_nil (mx : Int) (w : World) : Calls Try.prog 7 #[.pointer none, specV mx] w fun e w' => e = .returned (.tuple #[.pointer none, .int .i64 1]) ∧ Below w.heap.size w w' := by
  have B := Lib.hid (below_alloc w (.cells (specC mx) specT))
  go_enter Try.func7, Try.ntmps7
  go_wp2_with fail
  go_ret2
  exact ⟨rfl, B.out⟩
theorem make_store (n : Nat) (hn : n ≤ 1048576) (w : World) :
    (Instr.makeSlice 54 (.int .i64 (n : Int)) (.int .i64 (n : Int))).run Try.prog w = .ok (.slice (some ⟨w.heap.size, 0, none⟩) n n) (w.alloc (.cells (Array.replicate n (Value.int .u8 0)) 5)) := by
  obtain ⟨i, hi, hz, hsz, hby⟩ := info_parts info8
  have h := run_make (P := Try.prog) w 54 5 i (.int .u8 0) Try.underlying54 hi hz .i64 .i64 n n (by omega) (Int.le_refl _) (by rw [hby]; omega) (by omega)
  have e : (madeCells (Value.int .u8 0).cells n) = (Array.replicate n (Value.int .u8 0)) := by
    rw [← Array.toList_inj]
    have := toList_madeCells_one (.int .u8 0) n
    simpa [Value.cells] using this
  simpa [hsz, e] using h
/-- What New leaves. -/
theorem new_ok (bm mx : Nat) (h : Sz mx) (w : World) : Calls Try.prog 7 #[.pointer (some ⟨bm, 0, none⟩), specV mx] w fun e w' => ∃ x g mb, e = .returned (.tuple #[rp x, .int .i64 0]) ∧ Blk w' x mapT (liveC ⟨bm, x, g, mb, mx⟩ 0 0) ∧ Blk w' g u8T ((List.replicate mx (0 : UInt8)).map byteV).toArray ∧ w'.ownsMap Try.prog u64T heldV mb 0 (.map []) ∧ w.heap.size ≤ x ∧ w.heap.size ≤ g ∧ w.heap.size ≤ mb ∧ Below w.heap.size w w' := by
  have CF := Lib.hid (fun w => fits_yes mx h w)
  have hmm := @run_makeMap Try.prog
  have hmk := make_store mx (by rcases h with rfl | rfl | rfl <;> decide)
  rw [replicate_bytes] at hmk
  generalize hZ : ((List.replicate mx (0 : UInt8)).map byteV).toArray = Z at *
  have B := Lib.hid (below_alloc w (.cells (specC mx) specT))
  have HB := Lib.hid (Blk.new w specT (specC mx))
  clear h hZ
  go_enter Try.func7, Try.ntmps7
  have c0 : (w.alloc (.cells (specC mx) specT)).cell? ⟨w.heap.size, 0, none⟩ = some (.int .i64 27) := HB.out.cell 0
  have c1 : (w.alloc (.cells (specC mx) specT)).cell? ⟨w.heap.size, 1, none⟩ = some (.int .i64 0) := HB.out.cell 1
  have c2 : (w.alloc (.cells (specC mx) specT)).cell? ⟨w.heap.size, 2, none⟩ = some (.int .i64 0) := HB.out.cell 2
  have c3 : (w.alloc (.cells (specC mx) specT)).cell? ⟨w.heap.size, 3, none⟩ = some (.int .i64 mx) := HB.out.cell 3
  go_upto_region 3 with (go_at_call 18; refine (CF.out _).mono ?_; rintro e w1 ⟨rfl, hb⟩; have B1 := Lib.hid (below_then B.out hb); have HB1 := Lib.hid (blk_below HB.out hb); clear hb)
  clear c0 c1 c2 c3
  have c3 : w1.cell? ⟨w.heap.size, 3, none⟩ = some (.int .i64 mx) := HB1.out.cell 3
  go_wp2_with fail
  go_ret2
  have hm := World.ownsMap_made (H := Value) (w1.alloc (.cells Z u8T)) Try.prog u64T heldV
  rw [show (w1.alloc (.cells Z u8T)).heap.size = w1.heap.size + 1 by simp] at hm
  have hbx := Blk.new ((w1.alloc (.cells Z u8T)).alloc (.map #[] 0)) mapT (liveC ⟨bm, w1.heap.size + 1 + 1, w1.heap.size, w1.heap.size + 1, mx⟩ 0 0)
  rw [show ((w1.alloc (.cells Z u8T)).alloc (.map #[] 0)).heap.size = w1.heap.size + 1 + 1 by simp] at hbx
  have hz := B1.out.size
  exact ⟨_, w1.heap.size, w1.heap.size + 1, rfl, hbx, ((Blk.new w1 u8T Z).alloc _).alloc _, hm.alloc _, by omega, by omega, by omega, below_then (below_then (below_then B1.out (below_alloc _ _)) (below_alloc _ _)) (below_alloc _ _)⟩
/-- A ring of a law's own, in blocks from B on. -/
structure GB (B : Nat) (w0 : World) (p : RPar) (s : RSt) (T : Nat → Prop) (w : World) : Prop where
  ring : RS p s T w
  ok : Ok p s
  base : ∀ b, ownB p T b → B ≤ b
  below : Below B w0 w
  sz : B ≤ w.heap.size
section
variable {B : Nat} {w0 w w' : World} {p : RPar} {s s' : RSt} {T : Nat → Prop}
theorem RS.lt (h : RS p s T w) : ∀ b, ownB p T b → b < w.heap.size := by
  obtain ⟨bs, N, D, hr⟩ := h
  exact hr.lt
theorem GB.step (h : GB B w0 p s T w) (hs : Step p T w s' w') (ho : Ok p s') : ∃ T', GB B w0 p s' T' w' ∧ Keeps (ownB p T) w w' ∧ ∀ b, ownB p T' b → ownB p T b ∨ w.heap.size ≤ b := by
  obtain ⟨T', h1, k1, e1⟩ := hs
  have he : ∀ b, ownB p T' b → ownB p T b ∨ w.heap.size ≤ b := by
    rintro b (hb | hb)
    · exact (e1 b hb).imp .inl id
    · exact .inl (.inr hb)
  refine ⟨T', ⟨h1, ho, fun b hb => ?_, h.below.trans (k1.below h.base h.sz), Nat.le_trans h.sz k1.size⟩, k1, he⟩
  rcases he b hb with h2 | h2
  · exact h.base b h2
  · have := h.sz; omega
theorem GB.quiet (h : GB B w0 p s T w) (hb : Below w.heap.size w w') : GB B w0 p s T w' := by
  obtain ⟨bs, N, D, hr⟩ := h.ring
  exact ⟨⟨bs, N, D, hr.below hb⟩, h.ok, h.base, h.below.trans (hb.mono h.sz), Nat.le_trans h.sz hb.size⟩
theorem GB.map (h : GB B w0 p s T w) : Blk w p.x mapT (liveC p s.first (sumU s.rs)) := by
  obtain ⟨bs, N, D, hr⟩ := h.ring
  exact hr.map
end
theorem sz_facts {mx : Nat} (h : Sz mx) : 64 ≤ mx ∧ mx ≤ 65536 ∧ mx % 8 = 0 ∧ 0 < mx := by
  rcases h with rfl | rfl | rfl <;> decide
/-- A memory of the call's own, and a ring in it. -/
theorem gb_new (W : World) (mx : Nat) (h : Sz mx) :
    Calls Try.prog 7 #[.pointer (some ⟨W.heap.size, 0, none⟩), specV mx] (W.alloc (.cells #[.map none, .int .u32 0, .slice none 0 0, .int .i64 0] 51)) fun e w' => ∃ x g mb, e = .returned (.tuple #[rp x, .int .i64 0]) ∧ GB W.heap.size W ⟨W.heap.size, x, g, mb, mx⟩ ⟨⟨0, 0, fun _ => none⟩, 0, []⟩ (fun b => b = W.heap.size) w' := by
  have hks := kside_new W
  have hz : (W.alloc (.cells #[.map none, .int .u32 0, .slice none 0 0, .int .i64 0] 51)).heap.size = W.heap.size + 1 := by simp
  refine (new_ok W.heap.size mx h _).mono ?_
  rintro e w' ⟨x, g, mb, rfl, h1, h2, h3, h4, h5, h6, h7⟩
  rw [hz] at h4 h5 h6
  refine ⟨x, g, mb, rfl, ⟨⟨_, _, _, ⟨hks.keeps' (keeps_grow h7) (fun _ _ h => h), fun e => by have e : x = W.heap.size := e; omega, fun e => by have e : g = W.heap.size := e; omega, fun e => by have e : mb = W.heap.size := e; omega, h1, h2, by simp, trivial, h3, HeldOf.empty (fun n => rfl), Nat.le_refl _⟩⟩, ?_, ?_, ?_, ?_⟩⟩
  · obtain ⟨g1, g2, g3, g4⟩ := sz_facts h
    exact ⟨g1, g2, g3, g4, rfl, Nat.zero_le _, (fun r hr => by cases hr), List.nodup_nil, (fun r hr => by cases hr), Nat.zero_le _⟩
  · rintro b (hb | hb | hb | hb)
    · have hb : b = W.heap.size := hb; omega
    · have hb : b = x := hb; omega
    · have hb : b = g := hb; omega
    · have hb : b = mb := hb; omega
  · exact (below_alloc W _).trans (h7.mono (by omega))
  · have := h7.size; omega
end Go.Proofs.Ytdihlmhipkcedaa
