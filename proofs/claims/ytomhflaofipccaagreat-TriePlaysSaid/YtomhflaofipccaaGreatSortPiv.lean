/-
  The library's sort: order2Ordered, medianOrdered, medianAdjacentOrdered, choosePivotOrdered.
-/
import Derived.Test.YtomhflaofipccaaGreatP4
namespace Go.Proofs.YtomhflaofipccaaGreat
open Go Go.RowKit Go.Maps
set_option linter.unusedVariables false

section
variable {w0 w : World} {g s c : Nat} {sp : List Value} {d : Array Nat}
theorem SRow.far (h : SRow w0 w g sp d) {p : Addr} (hp : g ≠ p.block) (h0 : w0.heap.size ≤ p.block) (v : Value) : SRow w0 (w.setCell p v) g sp d :=
  ⟨h.keep.setCell (.inr h0) v, h.row.far hp v⟩
theorem SRow.alloc (h : SRow w0 w g sp d) (o : Obj) : SRow w0 (w.alloc o) g sp d := ⟨h.keep.alloc o, h.row.alloc o⟩
end
/-- The row holds d; the counter of swaps, in a block of its own that w0 has not, holds c. -/
structure SW2 (w0 w : World) (g : Nat) (sp : List Value) (d : Array Nat) (s c : Nat) : Prop where
  row : SRow w0 w g sp d
  cnt : Blk w s 3 #[.int .i64 (c : Int)]
  new : w0.heap.size ≤ s
theorem SW2.ne {w0 w : World} {g s c : Nat} {sp : List Value} {d : Array Nat} (h : SW2 w0 w g sp d s c) : g ≠ s := Blk.ne_ h.row.row h.cnt (by decide)
theorem rt2_ii {a b a' b' : Int} (h : a = a') (h' : b = b') : Ending.returned (.tuple #[.int .i64 a, .int .i64 b]) = .returned (.tuple #[.int .i64 a', .int .i64 b']) := by rw [h, h']
def O2Post (w0 : World) (g : Nat) (sp : List Value) (d : Array Nat) (s : Nat) (r : Nat × Nat × Nat) (e : Ending) (w' : World) : Prop :=
  e = .returned (.tuple #[.int .i64 (r.1 : Int), .int .i64 (r.2.1 : Int)]) ∧ SW2 w0 w' g sp d s r.2.2
set_option maxRecDepth 100000 in
set_option maxHeartbeats 1000000 in
theorem order2_any (w0 w : World) (g : Nat) (sp : List Value) (d : Array Nat) (cap a b s c : Nat) (ha : a < d.size) (hb : b < d.size) (hs : d.size ≤ cap) (hc : d.size ≤ 1048576) (hc2 : c ≤ 1000) (h : SW2 w0 w g sp d s c) :
    Calls Tryz.prog 105 #[.slice (some ⟨g, 0, none⟩) d.size cap, .int .i64 (a : Int), .int .i64 (b : Int), .pointer (some ⟨s, 0, none⟩)] w (O2Post w0 g sp d s (Sort.order2 ltN d a b c)) := by
  have ca := h.row.cell ha
  have cb := h.row.cell hb
  have cs : w.cell? ⟨s, 0, none⟩ = some (.int .i64 (c : Int)) := h.cnt.cell 0
  have fs : w.frozen? ⟨s, 0, none⟩ = false := h.cnt.frozen 0
  obtain ⟨x, hx⟩ : ∃ x, d[a]! = x := ⟨_, rfl⟩
  obtain ⟨y, hy⟩ : ∃ y, d[b]! = y := ⟨_, rfl⟩
  rw [hx] at ca
  rw [hy] at cb
  have HX := Lib.hid hx; clear hx
  have HY := Lib.hid hy; clear hy
  have H0 := Lib.hid h; clear h
  have a1 : (0 : Int) ≤ (a : Int) := by omega
  have a2 : (a : Int) < (d.size : Int) := by omega
  have b1 : (0 : Int) ≤ (b : Int) := by omega
  have b2 : (b : Int) < (d.size : Int) := by omega
  have CL := Lib.hid (fun w => less_any y x w)
  by_cases hlt : y < x
  · have hl : decide (y < x) = true := by simpa using hlt
    have HR := Lib.hid (show Sort.order2 ltN d a b c = (b, a, c + 1) by rw [Sort.order2, HX.out, HY.out, if_pos (show ltN y x = true from decide_eq_true hlt)])
    go_enter Tryz.func105, Tryz.ntmps105
    go_wp2
    go_quiet ((go_at_call 91; exact quiet_left (CL.out _)))
    go_wp2
    go_ret2
    refine ⟨?_, ?_⟩
    · rw [HR.out]; rfl
    · rw [HR.out]
      have hne := H0.out.ne
      have := ((H0.out.row.drewN nq).far (p := ⟨s, 0, none⟩) hne H0.out.new (.int .i64 ((c : Int) + 1)))
      refine ⟨by simpa using this, ?_, H0.out.new⟩
      have := (show Blk (w.drewN nq) s _ _ from H0.out.cnt).set_ 0 (.int .i64 ((c : Int) + 1))
      simpa using this
  · have hl : decide (y < x) = false := by simpa using hlt
    have HR := Lib.hid (show Sort.order2 ltN d a b c = (a, b, c) by rw [Sort.order2, HX.out, HY.out, if_neg (by simpa [ltN] using hlt)])
    go_enter Tryz.func105, Tryz.ntmps105
    go_wp2
    go_quiet ((go_at_call 91; exact quiet_left (CL.out _)))
    go_wp2
    go_ret2
    refine ⟨?_, ?_⟩
    · rw [HR.out]; rfl
    · rw [HR.out]
      exact ⟨H0.out.row.drewN nq, H0.out.cnt, H0.out.new⟩
theorem order2_bd (d : Array Nat) (a b c : Nat) {n : Nat} (ha : a < n) (hb : b < n) : (Sort.order2 ltN d a b c).1 < n ∧ (Sort.order2 ltN d a b c).2.1 < n ∧ (Sort.order2 ltN d a b c).2.2 ≤ c + 1 := by
  unfold Sort.order2
  split
  · exact ⟨hb, ha, Nat.le_refl _⟩
  · exact ⟨ha, hb, Nat.le_succ _⟩
def MedPost (w0 : World) (g : Nat) (sp : List Value) (d : Array Nat) (s : Nat) (r : Nat × Nat) (e : Ending) (w' : World) : Prop :=
  e = .returned (.int .i64 (r.1 : Int)) ∧ SW2 w0 w' g sp d s r.2
theorem median_bd (d : Array Nat) (a b c k : Nat) {n : Nat} (ha : a < n) (hb : b < n) (hc : c < n) : (Sort.median ltN d a b c k).1 < n ∧ (Sort.median ltN d a b c k).2 ≤ k + 3 := by
  unfold Sort.median
  have h1 := order2_bd d a b k ha hb
  have h2 := order2_bd d (Sort.order2 ltN d a b k).2.1 c (Sort.order2 ltN d a b k).2.2 h1.2.1 hc
  have h3 := order2_bd d (Sort.order2 ltN d a b k).1 (Sort.order2 ltN d (Sort.order2 ltN d a b k).2.1 c (Sort.order2 ltN d a b k).2.2).1 (Sort.order2 ltN d (Sort.order2 ltN d a b k).2.1 c (Sort.order2 ltN d a b k).2.2).2.2 h1.1 h2.1
  exact ⟨h3.2.1, Nat.le_trans h3.2.2 (by omega)⟩
set_option maxRecDepth 100000 in
set_option maxHeartbeats 1000000 in
theorem median_any (w0 w : World) (g : Nat) (sp : List Value) (d : Array Nat) (cap a b c s k : Nat) (ha : a < d.size) (hb : b < d.size) (hcd : c < d.size) (hs : d.size ≤ cap) (hc : d.size ≤ 1048576) (hc2 : k ≤ 900) (h : SW2 w0 w g sp d s k) :
    Calls Tryz.prog 103 #[.slice (some ⟨g, 0, none⟩) d.size cap, .int .i64 (a : Int), .int .i64 (b : Int), .int .i64 (c : Int), .pointer (some ⟨s, 0, none⟩)] w (MedPost w0 g sp d s (Sort.median ltN d a b c k)) := by
  obtain ⟨r1, h1⟩ : ∃ r, Sort.order2 ltN d a b k = r := ⟨_, rfl⟩
  obtain ⟨r2, h2⟩ : ∃ r, Sort.order2 ltN d r1.2.1 c r1.2.2 = r := ⟨_, rfl⟩
  obtain ⟨r3, h3⟩ : ∃ r, Sort.order2 ltN d r1.1 r2.1 r2.2.2 = r := ⟨_, rfl⟩
  have b1 := order2_bd d a b k ha hb
  rw [h1] at b1
  have b2 := order2_bd d r1.2.1 c r1.2.2 b1.2.1 hcd
  rw [h2] at b2
  have b3 := order2_bd d r1.1 r2.1 r2.2.2 b1.1 b2.1
  rw [h3] at b3
  have hm : Sort.median ltN d a b c k = (r3.2.1, r3.2.2) := by subst h1; subst h2; subst h3; rfl
  rw [hm]
  have c1 : ∀ w, SW2 w0 w g sp d s k → Calls Tryz.prog 105 #[.slice (some ⟨g, 0, none⟩) d.size cap, .int .i64 (a : Int), .int .i64 (b : Int), .pointer (some ⟨s, 0, none⟩)] w (O2Post w0 g sp d s r1) := fun w hw => h1 ▸ order2_any w0 w g sp d cap a b s k ha hb hs hc (by omega) hw
  have c2 : ∀ w, SW2 w0 w g sp d s r1.2.2 → Calls Tryz.prog 105 #[.slice (some ⟨g, 0, none⟩) d.size cap, .int .i64 (r1.2.1 : Int), .int .i64 (c : Int), .pointer (some ⟨s, 0, none⟩)] w (O2Post w0 g sp d s r2) := fun w hw => h2 ▸ order2_any w0 w g sp d cap r1.2.1 c s r1.2.2 b1.2.1 hcd hs hc (by omega) hw
  have c3 : ∀ w, SW2 w0 w g sp d s r2.2.2 → Calls Tryz.prog 105 #[.slice (some ⟨g, 0, none⟩) d.size cap, .int .i64 (r1.1 : Int), .int .i64 (r2.1 : Int), .pointer (some ⟨s, 0, none⟩)] w (O2Post w0 g sp d s r3) := fun w hw => h3 ▸ order2_any w0 w g sp d cap r1.1 r2.1 s r2.2.2 b1.1 b2.1 hs hc (by omega) hw
  have H1 := Lib.hid c1; have H2 := Lib.hid c2; have H3 := Lib.hid c3; have H0 := Lib.hid h
  clear c1 c2 c3 h h1 h2 h3 hm b1 b2 b3 ha hb hcd
  obtain ⟨x1, y1, z1⟩ := r1
  obtain ⟨x2, y2, z2⟩ := r2
  obtain ⟨x3, y3, z3⟩ := r3
  generalize d.size = n at *
  go_enter Tryz.func103, Tryz.ntmps103
  go_wp2_with fail
  refine (H1.out _ H0.out).mono ?_
  rintro e w1 ⟨rfl, hw1⟩
  have HW1 := Lib.hid hw1; clear hw1
  go_wp2_with fail
  refine (H2.out _ HW1.out).mono ?_
  rintro e w2 ⟨rfl, hw2⟩
  have HW2 := Lib.hid hw2; clear hw2
  go_wp2_with fail
  refine (H3.out _ HW2.out).mono ?_
  rintro e w3 ⟨rfl, hw3⟩
  have HW3 := Lib.hid hw3; clear hw3
  go_wp2_with fail
  go_ret
  exact ⟨rfl, HW3.out⟩
set_option maxRecDepth 100000 in
theorem medianAdj_any (w0 w : World) (g : Nat) (sp : List Value) (d : Array Nat) (cap a s k : Nat) (h1 : 1 ≤ a) (ha : a + 1 < d.size) (hs : d.size ≤ cap) (hc : d.size ≤ 1048576) (hc2 : k ≤ 900) (h : SW2 w0 w g sp d s k) :
    Calls Tryz.prog 102 #[.slice (some ⟨g, 0, none⟩) d.size cap, .int .i64 (a : Int), .pointer (some ⟨s, 0, none⟩)] w (MedPost w0 g sp d s (Sort.medianAdjacent ltN d a k)) := by
  have c := median_any w0 w g sp d cap (a - 1) a (a + 1) s k (by omega) (by omega) ha hs hc hc2 h
  rw [show ((a - 1 : Nat) : Int) = (a : Int) - 1 from by omega, show ((a + 1 : Nat) : Int) = (a : Int) + 1 from by omega] at c
  have hb := median_bd d (a - 1) a (a + 1) k (n := d.size) (by omega) (by omega) ha
  unfold Sort.medianAdjacent
  clear h
  generalize Sort.median ltN d (a - 1) a (a + 1) k = r at c hb ⊢
  obtain ⟨x, y⟩ := r
  have hb1 : x < d.size := hb.1
  clear hb
  generalize d.size = n at *
  go_enter Tryz.func102, Tryz.ntmps102
  go_wp2_with (go_at_call 103; refine c.mono ?_; rintro e w' ⟨rfl, hw⟩; have HW := Lib.hid hw; clear hw)
  go_ret
  exact ⟨rfl, HW.out⟩
/-- choosePivotOrdered's hint, as Go numbers it. -/
def hintI : Sort.Hint → Int
  | .unknown => 0
  | .increasing => 1
  | .decreasing => 2
def PivPost (w0 : World) (g : Nat) (sp : List Value) (d : Array Nat) (r : Nat × Sort.Hint) (e : Ending) (w' : World) : Prop :=
  e = .returned (.tuple #[.int .i64 (r.1 : Int), .int .i64 (hintI r.2)]) ∧ SRow w0 w' g sp d
theorem choosePivot_eq (d : Array Nat) (a b : Nat) (r : Nat × Nat) (hr : r = (if b - a ≥ 8 then (if b - a ≥ 50 then
      Sort.median ltN d (Sort.medianAdjacent ltN d (a + (b - a) / 4 * 1) 0).1 (Sort.medianAdjacent ltN d (a + (b - a) / 4 * 2) (Sort.medianAdjacent ltN d (a + (b - a) / 4 * 1) 0).2).1 (Sort.medianAdjacent ltN d (a + (b - a) / 4 * 3) (Sort.medianAdjacent ltN d (a + (b - a) / 4 * 2) (Sort.medianAdjacent ltN d (a + (b - a) / 4 * 1) 0).2).2).1 (Sort.medianAdjacent ltN d (a + (b - a) / 4 * 3) (Sort.medianAdjacent ltN d (a + (b - a) / 4 * 2) (Sort.medianAdjacent ltN d (a + (b - a) / 4 * 1) 0).2).2).2
    else Sort.median ltN d (a + (b - a) / 4 * 1) (a + (b - a) / 4 * 2) (a + (b - a) / 4 * 3) 0) else (a + (b - a) / 4 * 2, 0))) :
    Sort.choosePivot ltN d a b = (r.1, if r.2 = 0 then .increasing else if r.2 = 12 then .decreasing else .unknown) := by
  subst hr; rfl
set_option maxRecDepth 100000 in
set_option maxHeartbeats 1000000 in
theorem choosePivot_any (w0 w : World) (g : Nat) (sp : List Value) (d : Array Nat) (cap a b : Nat) (hab : a + 12 < b) (hb : b ≤ d.size) (hs : d.size ≤ cap) (hc : d.size ≤ 1048576) (h : SRow w0 w g sp d) :
    Calls Tryz.prog 88 #[.slice (some ⟨g, 0, none⟩) d.size cap, .int .i64 (a : Int), .int .i64 (b : Int)] w (PivPost w0 g sp d (Sort.choosePivot ltN d a b)) := by
  have hs2 : SW2 w0 (w.alloc (.cells #[.int .i64 0] 3)) g sp d w.heap.size 0 := ⟨h.alloc _, Blk.new w _ _, h.keep.size⟩
  obtain ⟨l, hl⟩ : ∃ l, l = b - a := ⟨_, rfl⟩
  have e8 : l ≥ 8 := by omega
  have hq : l / 4 * 1 + 1 < l ∧ l / 4 * 2 + 1 < l ∧ l / 4 * 3 + 1 < l ∧ 1 ≤ l / 4 := by omega
  have w1 : (b : Int) - (a : Int) = (l : Int) := by omega
  have g8 : decide ((8 : Int) ≤ (l : Int)) = true := by simp; omega
  by_cases h50 : l ≥ 50
  · have g50 : decide ((50 : Int) ≤ (l : Int)) = true := by simp; omega
    have hp := choosePivot_eq d a b _ rfl
    rw [← hl, if_pos e8, if_pos h50] at hp
    have hq2 : l / 4 ≥ 12 := by omega
    have a1 : ∀ w, SW2 w0 w g sp d w.heap.size 0 → True := fun _ _ => trivial
    have m1 := medianAdj_any w0 (w.alloc (.cells #[.int .i64 0] 3)) g sp d cap (a + l / 4 * 1) w.heap.size 0 (by omega) (by omega) hs hc (by omega) hs2
    have b1 := median_bd d (a + l / 4 * 1 - 1) (a + l / 4 * 1) (a + l / 4 * 1 + 1) 0 (n := d.size) (by omega) (by omega) (by omega)
    change (Sort.medianAdjacent ltN d (a + l / 4 * 1) 0).1 < d.size ∧ (Sort.medianAdjacent ltN d (a + l / 4 * 1) 0).2 ≤ 0 + 3 at b1
    generalize Sort.medianAdjacent ltN d (a + l / 4 * 1) 0 = r1 at hp m1 b1
    obtain ⟨x1, y1⟩ := r1
    have b1a : x1 < d.size := b1.1
    have b1b : y1 ≤ 3 := by have := b1.2; simpa using this
    have m2 := fun w' (hw : SW2 w0 w' g sp d w.heap.size y1) => medianAdj_any w0 w' g sp d cap (a + l / 4 * 2) w.heap.size y1 (by omega) (by omega) hs hc (by omega) hw
    have b2 := median_bd d (a + l / 4 * 2 - 1) (a + l / 4 * 2) (a + l / 4 * 2 + 1) y1 (n := d.size) (by omega) (by omega) (by omega)
    change (Sort.medianAdjacent ltN d (a + l / 4 * 2) y1).1 < d.size ∧ (Sort.medianAdjacent ltN d (a + l / 4 * 2) y1).2 ≤ y1 + 3 at b2
    generalize Sort.medianAdjacent ltN d (a + l / 4 * 2) y1 = r2 at hp m2 b2
    obtain ⟨x2, y2⟩ := r2
    have b2a : x2 < d.size := b2.1
    have b2b : y2 ≤ y1 + 3 := b2.2
    have m3 := fun w' (hw : SW2 w0 w' g sp d w.heap.size y2) => medianAdj_any w0 w' g sp d cap (a + l / 4 * 3) w.heap.size y2 (by omega) (by omega) hs hc (by omega) hw
    have b3 := median_bd d (a + l / 4 * 3 - 1) (a + l / 4 * 3) (a + l / 4 * 3 + 1) y2 (n := d.size) (by omega) (by omega) (by omega)
    change (Sort.medianAdjacent ltN d (a + l / 4 * 3) y2).1 < d.size ∧ (Sort.medianAdjacent ltN d (a + l / 4 * 3) y2).2 ≤ y2 + 3 at b3
    generalize Sort.medianAdjacent ltN d (a + l / 4 * 3) y2 = r3 at hp m3 b3
    obtain ⟨x3, y3⟩ := r3
    have b3a : x3 < d.size := b3.1
    have b3b : y3 ≤ y2 + 3 := b3.2
    have m4 := fun w' (hw : SW2 w0 w' g sp d w.heap.size y3) => median_any w0 w' g sp d cap x1 x2 x3 w.heap.size y3 b1a b2a b3a hs hc (by omega) hw
    have b4 := median_bd d x1 x2 x3 y3 (n := d.size) b1a b2a b3a
    generalize Sort.median ltN d x1 x2 x3 y3 = r4 at hp m4 b4
    obtain ⟨x, y⟩ := r4
    have hx : x < d.size := b4.1
    have hy : y ≤ y3 + 3 := b4.2
    rw [hp]
    rw [show ((a + l / 4 * 1 : Nat) : Int) = (a : Int) + (l : Int) / 4 from by omega] at m1
    rw [show ((a + l / 4 * 2 : Nat) : Int) = (a : Int) + (l : Int) / 4 * 2 from by omega] at m2
    rw [show ((a + l / 4 * 3 : Nat) : Int) = (a : Int) + (l : Int) / 4 * 3 from by omega] at m3
    have M1 := Lib.hid m1; have M2 := Lib.hid m2; have M3 := Lib.hid m3; have M4 := Lib.hid m4
    clear m1 m2 m3 m4 hp h hs2 a1 b1 b2 b3 b4 e8 hq hq2 h50
    generalize d.size = n at *
    have HL := Lib.hid hl; clear hl
    rcases (show y = 0 ∨ y = 12 ∨ ((((y : Int) == 0) = false ∧ ((y : Int) == 12) = false) ∧ y ≠ 0 ∧ y ≠ 12) from by by_cases h0 : y = 0 <;> by_cases h12 : y = 12 <;> simp [h0, h12] <;> omega) with rfl | rfl | ⟨⟨k0, k12⟩, k0', k12'⟩
    all_goals
      go_enter Tryz.func88, Tryz.ntmps88
      go_wp2_with fail
      refine M1.out.mono ?_
      rintro e w3 ⟨rfl, hw3⟩
      have HW3 := Lib.hid hw3; clear hw3
      go_wp2_with fail
      refine (M2.out _ HW3.out).mono ?_
      rintro e w4 ⟨rfl, hw4⟩
      have HW4 := Lib.hid hw4; clear hw4
      go_wp2_with fail
      refine (M3.out _ HW4.out).mono ?_
      rintro e w5 ⟨rfl, hw5⟩
      have HW5 := Lib.hid hw5; clear hw5
      go_wp2_with fail
      refine (M4.out _ HW5.out).mono ?_
      rintro e w6 ⟨rfl, hw6⟩
      have cc := hw6.cnt.cell 0
      have HW6 := Lib.hid hw6; clear hw6
      go_wp2_with fail
      go_ret2
      exact ⟨by simp_all [hintI], HW6.out.row⟩
  · have g50 : decide ((50 : Int) ≤ (l : Int)) = false := by simp; omega
    have c := median_any w0 _ g sp d cap (a + l / 4 * 1) (a + l / 4 * 2) (a + l / 4 * 3) w.heap.size 0 (by omega) (by omega) (by omega) hs hc (by omega) hs2
    have hm := median_bd d (a + l / 4 * 1) (a + l / 4 * 2) (a + l / 4 * 3) 0 (n := d.size) (by omega) (by omega) (by omega)
    have hp := choosePivot_eq d a b _ rfl
    rw [← hl, if_pos e8, if_neg h50] at hp
    generalize Sort.median ltN d (a + l / 4 * 1) (a + l / 4 * 2) (a + l / 4 * 3) 0 = r at c hp hm
    obtain ⟨x, y⟩ := r
    have hy : y ≤ 3 := by have := hm.2; simpa using this
    have hx : x < d.size := hm.1
    rw [hp]
    rw [show ((a + l / 4 * 1 : Nat) : Int) = (a : Int) + (l : Int) / 4 from by omega, show ((a + l / 4 * 2 : Nat) : Int) = (a : Int) + (l : Int) / 4 * 2 from by omega, show ((a + l / 4 * 3 : Nat) : Int) = (a : Int) + (l : Int) / 4 * 3 from by omega] at c
    have HC := Lib.hid c; clear c
    clear hp hm h hs2 e8 hq h50
    generalize d.size = n at *
    have HL := Lib.hid hl; clear hl
    rcases (show y = 0 ∨ ((((y : Int) == 0) = false ∧ ((y : Int) == 12) = false) ∧ y ≠ 0 ∧ y ≠ 12) from by by_cases h0 : y = 0 <;> simp [h0] <;> omega) with rfl | ⟨⟨k0, k12⟩, k0', k12'⟩
    all_goals
      go_enter Tryz.func88, Tryz.ntmps88
      go_wp2_with fail
      refine HC.out.mono ?_
      rintro e w6 ⟨rfl, hw6⟩
      have cc := hw6.cnt.cell 0
      have HW6 := Lib.hid hw6; clear hw6
      go_wp2_with fail
      go_ret2
      exact ⟨by simp_all [hintI], HW6.out.row⟩
end Go.Proofs.YtomhflaofipccaaGreat
