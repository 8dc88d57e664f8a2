/-
  The small functions of package shape, further.
-/
import Derived.Test.YticklgoegmobbaaDoorSLeaf1
import Derived.Deep.QuietTactic
import Derived.BigQuiet
namespace Go.Proofs.YticklgoegmobbaaDoor
open Go Go.RowKit
set_option linter.unusedVariables false
set_option maxRecDepth 100000
def aluImmB (o m : Int) : Bool := if (bits .and .i64 o 240 == 48) || (bits .and .i64 o 240 == 144) then !(m == 0) else if (bits .and .i64 o 240 == 96) || ((bits .and .i64 o 240 == 112) || (bits .and .i64 o 240 == 192)) then decide (0 ≤ m) && decide (m < bitsN o) else true
def turnB (o s f m : Int) : Bool := ((o == 212) || ((o == 220) || (o == 215))) && ((s == 0) && ((f == 0) && ((m == 16) || ((m == 32) || (m == 64)))))
def secondKs (k : Int) : Bool := (k == 0) || ((k == 16) || ((k == 32) || ((k == 48) || ((k == 64) || ((k == 80) || ((k == 96) || ((k == 112) || ((k == 144) || ((k == 160) || ((k == 176) || (k == 192)))))))))))
def aluB (o d s f m : Int) : Bool := !(d == 10) && (if bits .and .i64 o 240 == 128 then (o == bits .or .i64 128 (o % 8)) && ((s == 0) && ((f == 0) && (m == 0))) else if bits .and .i64 o 240 == 208 then turnB o s f m else secondKs (bits .and .i64 o 240) && (secondB o s m && (aluOffB o f && (!(bits .and .i64 o 8 == 0) || aluImmB o m))))
def jumpKs (k : Int) : Bool := (k == 16) || ((k == 32) || ((k == 48) || ((k == 64) || ((k == 80) || ((k == 96) || ((k == 112) || ((k == 160) || ((k == 176) || ((k == 192) || (k == 208))))))))))
def jumpB (o d s f m : Int) : Bool := if o == 5 then (d == 0) && ((s == 0) && (m == 0)) else if o == 133 then (d == 0) && ((s == 0) && (f == 0)) else if o == 149 then (d == 0) && ((s == 0) && ((f == 0) && (m == 0))) else jumpKs (bits .and .i64 o 240) && secondB o s m
def lockM (m : Int) : Bool := (m == 0) || ((m == 64) || ((m == 80) || ((m == 160) || (m == 241))))
def lockF (m : Int) : Bool := (m == 1) || ((m == 65) || ((m == 81) || ((m == 161) || (m == 225))))
def lockB (o s m : Int) : Bool := ((sizeV o == 4) || (sizeV o == 8)) && (lockM m || (lockF m && !(s == 10)))
def loadB (o d m : Int) : Bool := (m == 0) && (!(d == 10) && ((bits .and .i64 o 224 == 96) || ((bits .and .i64 o 224 == 128) && decide (sizeV o < 8))))
def storeB (o s : Int) : Bool := (bits .and .i64 o 224 == 96) && (s == 0)
def storeSrcB (o s m : Int) : Bool := if bits .and .i64 o 224 == 96 then m == 0 else (bits .and .i64 o 224 == 192) && lockB o s m
def wideOkB (o d s f m : Int) : Bool := (o == 24) && ((f == 0) && (!(d == 10) && ((s == 0) || ((s == 1) && decide (0 ≤ m)))))
def oneB (o d s f m : Int) : Bool := decide (FitsR o d s f m) && (if o % 8 == 0 then wideOkB o d s f m else if o % 8 == 1 then loadB o d m else if o % 8 == 2 then storeB o s else if o % 8 == 3 then storeSrcB o s m else if (o % 8 == 5) || (o % 8 == 6) then jumpB o d s f m else aluB o d s f m)
def CB (b : Nat) (o d s f m : Int) (w : World) : Prop := w.cell? ⟨b, 0, none⟩ = some (.int .i64 o) ∧ w.cell? ⟨b, 1, none⟩ = some (.int .i64 d) ∧ w.cell? ⟨b, 2, none⟩ = some (.int .i64 s) ∧ w.cell? ⟨b, 3, none⟩ = some (.int .i64 f) ∧ w.cell? ⟨b, 4, none⟩ = some (.int .i64 m)
theorem CB.below {w w' : World} {b : Nat} {o d s f m : Int} (h : CB b o d s f m w) (hb : Below w.heap.size w w') (hlt : b < w.heap.size) : CB b o d s f m w' := by
  obtain ⟨h0, h1, h2, h3, h4⟩ := h
  exact ⟨by rw [hb.cell (by simpa using hlt)]; exact h0, by rw [hb.cell (by simpa using hlt)]; exact h1, by rw [hb.cell (by simpa using hlt)]; exact h2, by rw [hb.cell (by simpa using hlt)]; exact h3, by rw [hb.cell (by simpa using hlt)]; exact h4⟩

set_option maxHeartbeats 4000000 in
theorem aluImm_shift (o d s f m k : Int) (w : World) (hk : bits .and .i64 o 240 = k) (hk' : k = 96 ∨ k = 112 ∨ k = 192) :
    Calls Tryd.prog 44 #[insV o d s f m] w fun e w' => e = .returned (.bool (decide (0 ≤ m) && decide (m < bitsN o))) ∧ Below w.heap.size w w' := by
  have n5 := Cells5.new w ⟨o, d, s, f, m⟩ 39
  have S0 := Lib.hid (show CB w.heap.size o d s f m (w.alloc (.cells #[.int .i64 o, .int .i64 d, .int .i64 s, .int .i64 f, .int .i64 m] 39)).drew from n5)
  clear n5
  have LT := Lib.hid (lt_box w (.cells #[.int .i64 o, .int .i64 d, .int .i64 s, .int .i64 f, .int .i64 m] 39))
  have B0 : Hid (Below w.heap.size w (w.alloc (.cells #[.int .i64 o, .int .i64 d, .int .i64 s, .int .i64 f, .int .i64 m] 39)).drew) := ((Below.refl _ w).alloc (Nat.le_refl _) _).drew
  have C0 := Lib.hid (bits_any o d s f m)
  unfold insV at C0 ⊢
  rcases hk' with rfl | rfl | rfl
  all_goals
    cases h1 : (decide (0 ≤ m))
    · go_enter Tryd.func44, Tryd.ntmps44
      go_wp2_with fail
      clear hk
      go_quiet (fail)
      go_wp2_with fail
      go_ret
      exact ⟨rfl, (let h := (Below.refl _ w).alloc (Nat.le_refl _) _; ⟨h.os, h.tape, h.output, h.size, h.block⟩)⟩
    · cases h2 : (decide (m < bitsN o))
      all_goals
        go_enter Tryd.func44, Tryd.ntmps44
        go_wp2_with fail
        clear hk
        go_region_held3 (fun W => W.cell? ⟨w.heap.size, 0, none⟩ = some (.int .i64 o) ∧ W.cell? ⟨w.heap.size, 1, none⟩ = some (.int .i64 d) ∧ W.cell? ⟨w.heap.size, 2, none⟩ = some (.int .i64 s) ∧ W.cell? ⟨w.heap.size, 3, none⟩ = some (.int .i64 f) ∧ W.cell? ⟨w.heap.size, 4, none⟩ = some (.int .i64 m))
          (first | exact S1.out | exact S0.out)
          ((go_at_call 54; refine (C0.out _).mono ?_; rintro e w1 ⟨rfl, hb⟩; have S1 := Lib.hid (CB.below S0.out hb LT.out); have B1 : Hid (Below w.heap.size w w1) := B0.out.trans (hb.mono B0.out.size); clear hb))
        all_goals go_wp2_with fail
        all_goals go_ret
        all_goals exact ⟨rfl, B1.out⟩

set_option maxHeartbeats 2000000 in
theorem aluImm_plain (o d s f m : Int) (w : World) (h96 : (bits .and .i64 o 240 == 96) = false) (h112 : (bits .and .i64 o 240 == 112) = false) (h192 : (bits .and .i64 o 240 == 192) = false) :
    Calls Tryd.prog 44 #[insV o d s f m] w fun e w' => e = .returned (.bool (aluImmB o m)) ∧ Below w.heap.size w w' := by
  unfold aluImmB
  rw [h96, h112, h192]
  unfold insV
  cases h1 : (bits .and .i64 o 240 == 48)
  · have g1 : (bits .and .i64 o 240 != 48) = true := by simp only [bne, h1]; rfl
    cases h2 : (bits .and .i64 o 240 == 144)
    · have g2 : (bits .and .i64 o 240 != 144) = true := by simp only [bne, h2]; rfl
      go_enter Tryd.func44, Tryd.ntmps44
      go_wp2_with fail
      go_ret
      exact ⟨rfl, (Below.refl _ w).alloc (Nat.le_refl _) _⟩
    · have g2 : (bits .and .i64 o 240 != 144) = false := by simp only [bne, h2]; rfl
      cases h3 : (m == 0)
      · have g3 : (m != 0) = true := by simp only [bne, h3]; rfl
        go_enter Tryd.func44, Tryd.ntmps44
        go_wp2_with fail
        go_ret
        exact ⟨rfl, (Below.refl _ w).alloc (Nat.le_refl _) _⟩
      · have g3 : (m != 0) = false := by simp only [bne, h3]; rfl
        go_enter Tryd.func44, Tryd.ntmps44
        go_wp2_with fail
        go_ret
        exact ⟨rfl, (Below.refl _ w).alloc (Nat.le_refl _) _⟩
  · have g1 : (bits .and .i64 o 240 != 48) = false := by simp only [bne, h1]; rfl
    cases h2 : (m == 0)
    · have g2 : (m != 0) = true := by simp only [bne, h2]; rfl
      go_enter Tryd.func44, Tryd.ntmps44
      go_wp2_with fail
      go_ret
      exact ⟨rfl, (Below.refl _ w).alloc (Nat.le_refl _) _⟩
    · have g2 : (m != 0) = false := by simp only [bne, h2]; rfl
      go_enter Tryd.func44, Tryd.ntmps44
      go_wp2_with fail
      go_ret
      exact ⟨rfl, (Below.refl _ w).alloc (Nat.le_refl _) _⟩
theorem aluImm_any (o d s f m : Int) (w : World) :
    Calls Tryd.prog 44 #[insV o d s f m] w fun e w' => e = .returned (.bool (aluImmB o m)) ∧ Below w.heap.size w w' := by
  cases h1 : (bits .and .i64 o 240 == 96)
  · cases h2 : (bits .and .i64 o 240 == 112)
    · cases h3 : (bits .and .i64 o 240 == 192)
      · exact aluImm_plain o d s f m w h1 h2 h3
      · have h := eq_of_beq h3
        have := aluImm_shift o d s f m _ w h (.inr (.inr rfl))
        rwa [show (decide (0 ≤ m) && decide (m < bitsN o)) = aluImmB o m by simp [aluImmB, h]] at this
    · have h := eq_of_beq h2
      have := aluImm_shift o d s f m _ w h (.inr (.inl rfl))
      rwa [show (decide (0 ≤ m) && decide (m < bitsN o)) = aluImmB o m by simp [aluImmB, h]] at this
  · have h := eq_of_beq h1
    have := aluImm_shift o d s f m _ w h (.inl rfl)
    rwa [show (decide (0 ≤ m) && decide (m < bitsN o)) = aluImmB o m by simp [aluImmB, h]] at this
set_option maxHeartbeats 2000000 in
theorem turn_any (o d s f m : Int) (w : World) :
    Calls Tryd.prog 42 #[insV o d s f m] w fun e w' => e = .returned (.bool (turnB o s f m)) ∧ Below w.heap.size w w' := by
  unfold turnB
  unfold insV
  cases h1 : (o == 212)
  · have g1 : (o != 212) = true := by simp only [bne, h1]; rfl
    cases h2 : (o == 220)
    · have g2 : (o != 220) = true := by simp only [bne, h2]; rfl
      cases h3 : (o == 215)
      · have g3 : (o != 215) = true := by simp only [bne, h3]; rfl
        go_enter Tryd.func42, Tryd.ntmps42
        go_wp2_with fail
        go_ret
        exact ⟨rfl, (Below.refl _ w).alloc (Nat.le_refl _) _⟩
      · have g3 : (o != 215) = false := by simp only [bne, h3]; rfl
        cases h4 : (s == 0)
        · have g4 : (s != 0) = true := by simp only [bne, h4]; rfl
          go_enter Tryd.func42, Tryd.ntmps42
          go_wp2_with fail
          go_ret
          exact ⟨rfl, (Below.refl _ w).alloc (Nat.le_refl _) _⟩
        · have g4 : (s != 0) = false := by simp only [bne, h4]; rfl
          cases h5 : (f == 0)
          · have g5 : (f != 0) = true := by simp only [bne, h5]; rfl
            go_enter Tryd.func42, Tryd.ntmps42
            go_wp2_with fail
            go_ret
            exact ⟨rfl, (Below.refl _ w).alloc (Nat.le_refl _) _⟩
          · have g5 : (f != 0) = false := by simp only [bne, h5]; rfl
            cases h6 : (m == 16)
            · have g6 : (m != 16) = true := by simp only [bne, h6]; rfl
              cases h7 : (m == 32)
              · have g7 : (m != 32) = true := by simp only [bne, h7]; rfl
                cases h8 : (m == 64)
                · have g8 : (m != 64) = true := by simp only [bne, h8]; rfl
                  go_enter Tryd.func42, Tryd.ntmps42
                  go_wp2_with fail
                  go_ret
                  exact ⟨rfl, (Below.refl _ w).alloc (Nat.le_refl _) _⟩
                · have g8 : (m != 64) = false := by simp only [bne, h8]; rfl
                  go_enter Tryd.func42, Tryd.ntmps42
                  go_wp2_with fail
                  go_ret
                  exact ⟨rfl, (Below.refl _ w).alloc (Nat.le_refl _) _⟩
              · have g7 : (m != 32) = false := by simp only [bne, h7]; rfl
                go_enter Tryd.func42, Tryd.ntmps42
                go_wp2_with fail
                go_ret
                exact ⟨rfl, (Below.refl _ w).alloc (Nat.le_refl _) _⟩
            · have g6 : (m != 16) = false := by simp only [bne, h6]; rfl
              go_enter Tryd.func42, Tryd.ntmps42
              go_wp2_with fail
              go_ret
              exact ⟨rfl, (Below.refl _ w).alloc (Nat.le_refl _) _⟩
    · have g2 : (o != 220) = false := by simp only [bne, h2]; rfl
      cases h3 : (s == 0)
      · have g3 : (s != 0) = true := by simp only [bne, h3]; rfl
        go_enter Tryd.func42, Tryd.ntmps42
        go_wp2_with fail
        go_ret
        exact ⟨rfl, (Below.refl _ w).alloc (Nat.le_refl _) _⟩
      · have g3 : (s != 0) = false := by simp only [bne, h3]; rfl
        cases h4 : (f == 0)
        · have g4 : (f != 0) = true := by simp only [bne, h4]; rfl
          go_enter Tryd.func42, Tryd.ntmps42
          go_wp2_with fail
          go_ret
          exact ⟨rfl, (Below.refl _ w).alloc (Nat.le_refl _) _⟩
        · have g4 : (f != 0) = false := by simp only [bne, h4]; rfl
          cases h5 : (m == 16)
          · have g5 : (m != 16) = true := by simp only [bne, h5]; rfl
            cases h6 : (m == 32)
            · have g6 : (m != 32) = true := by simp only [bne, h6]; rfl
              cases h7 : (m == 64)
              · have g7 : (m != 64) = true := by simp only [bne, h7]; rfl
                go_enter Tryd.func42, Tryd.ntmps42
                go_wp2_with fail
                go_ret
                exact ⟨rfl, (Below.refl _ w).alloc (Nat.le_refl _) _⟩
              · have g7 : (m != 64) = false := by simp only [bne, h7]; rfl
                go_enter Tryd.func42, Tryd.ntmps42
                go_wp2_with fail
                go_ret
                exact ⟨rfl, (Below.refl _ w).alloc (Nat.le_refl _) _⟩
            · have g6 : (m != 32) = false := by simp only [bne, h6]; rfl
              go_enter Tryd.func42, Tryd.ntmps42
              go_wp2_with fail
              go_ret
              exact ⟨rfl, (Below.refl _ w).alloc (Nat.le_refl _) _⟩
          · have g5 : (m != 16) = false := by simp only [bne, h5]; rfl
            go_enter Tryd.func42, Tryd.ntmps42
            go_wp2_with fail
            go_ret
            exact ⟨rfl, (Below.refl _ w).alloc (Nat.le_refl _) _⟩
  · have g1 : (o != 212) = false := by simp only [bne, h1]; rfl
    cases h2 : (s == 0)
    · have g2 : (s != 0) = true := by simp only [bne, h2]; rfl
      go_enter Tryd.func42, Tryd.ntmps42
      go_wp2_with fail
      go_ret
      exact ⟨rfl, (Below.refl _ w).alloc (Nat.le_refl _) _⟩
    · have g2 : (s != 0) = false := by simp only [bne, h2]; rfl
      cases h3 : (f == 0)
      · have g3 : (f != 0) = true := by simp only [bne, h3]; rfl
        go_enter Tryd.func42, Tryd.ntmps42
        go_wp2_with fail
        go_ret
        exact ⟨rfl, (Below.refl _ w).alloc (Nat.le_refl _) _⟩
      · have g3 : (f != 0) = false := by simp only [bne, h3]; rfl
        cases h4 : (m == 16)
        · have g4 : (m != 16) = true := by simp only [bne, h4]; rfl
          cases h5 : (m == 32)
          · have g5 : (m != 32) = true := by simp only [bne, h5]; rfl
            cases h6 : (m == 64)
            · have g6 : (m != 64) = true := by simp only [bne, h6]; rfl
              go_enter Tryd.func42, Tryd.ntmps42
              go_wp2_with fail
              go_ret
              exact ⟨rfl, (Below.refl _ w).alloc (Nat.le_refl _) _⟩
            · have g6 : (m != 64) = false := by simp only [bne, h6]; rfl
              go_enter Tryd.func42, Tryd.ntmps42
              go_wp2_with fail
              go_ret
              exact ⟨rfl, (Below.refl _ w).alloc (Nat.le_refl _) _⟩
          · have g5 : (m != 32) = false := by simp only [bne, h5]; rfl
            go_enter Tryd.func42, Tryd.ntmps42
            go_wp2_with fail
            go_ret
            exact ⟨rfl, (Below.refl _ w).alloc (Nat.le_refl _) _⟩
        · have g4 : (m != 16) = false := by simp only [bne, h4]; rfl
          go_enter Tryd.func42, Tryd.ntmps42
          go_wp2_with fail
          go_ret
          exact ⟨rfl, (Below.refl _ w).alloc (Nat.le_refl _) _⟩
set_option maxHeartbeats 2000000 in
theorem lock_any (o d s f m : Int) (w : World) (hS : Sizes w) :
    Calls Tryd.prog 40 #[insV o d s f m] w fun e w' => e = .returned (.bool (lockB o s m)) ∧ Below w.heap.size w w' := by
  unfold lockB lockM lockF
  have n5 := Cells5.new w ⟨o, d, s, f, m⟩ 39
  have N5 := Lib.hid n5
  clear n5
  have LT := Lib.hid (lt_box w (.cells #[.int .i64 o, .int .i64 d, .int .i64 s, .int .i64 f, .int .i64 m] 39))
  have B0 : Hid (Below w.heap.size w (w.alloc (.cells #[.int .i64 o, .int .i64 d, .int .i64 s, .int .i64 f, .int .i64 m] 39))) := (Below.refl _ w).alloc (Nat.le_refl _) _
  have HS := Lib.hid hS
  clear hS
  have C0 := Lib.hid (size_any o d s f m)
  unfold insV at C0
  unfold insV
  cases h1 : (sizeV o == 4)
  · have g1 : (sizeV o != 4) = true := by simp only [bne, h1]; rfl
    cases h2 : (sizeV o == 8)
    · have g2 : (sizeV o != 8) = true := by simp only [bne, h2]; rfl
      go_enter Tryd.func40, Tryd.ntmps40
      go_wp2_with (first | (go_at_call 39; first | (refine (C0.out _ (HS.out.below (B0.out))).mono ?_; rintro e w1 ⟨rfl, hb⟩; obtain ⟨d0, d1, d2, d3, d4⟩ := N5.out.below hb LT.out; have E1 := Lib.hid hb; have F1 : Hid (Below w.heap.size w w1) := B0.out.trans (hb.mono B0.out.size); clear hb)))
      go_ret
      first | exact ⟨rfl, F1.out⟩ | exact ⟨rfl, B0.out⟩
    · have g2 : (sizeV o != 8) = false := by simp only [bne, h2]; rfl
      cases h3 : (m == 0)
      · have g3 : (m != 0) = true := by simp only [bne, h3]; rfl
        cases h4 : (m == 64)
        · have g4 : (m != 64) = true := by simp only [bne, h4]; rfl
          cases h5 : (m == 80)
          · have g5 : (m != 80) = true := by simp only [bne, h5]; rfl
            cases h6 : (m == 160)
            · have g6 : (m != 160) = true := by simp only [bne, h6]; rfl
              cases h7 : (m == 241)
              · have g7 : (m != 241) = true := by simp only [bne, h7]; rfl
                cases h8 : (m == 1)
                · have g8 : (m != 1) = true := by simp only [bne, h8]; rfl
                  cases h9 : (m == 65)
                  · have g9 : (m != 65) = true := by simp only [bne, h9]; rfl
                    cases h10 : (m == 81)
                    · have g10 : (m != 81) = true := by simp only [bne, h10]; rfl
                      cases h11 : (m == 161)
                      · have g11 : (m != 161) = true := by simp only [bne, h11]; rfl
                        cases h12 : (m == 225)
                        · have g12 : (m != 225) = true := by simp only [bne, h12]; rfl
                          go_enter Tryd.func40, Tryd.ntmps40
                          go_wp2_with (first | (go_at_call 39; first | (refine (C0.out _ (HS.out.below (B0.out))).mono ?_; rintro e w1 ⟨rfl, hb⟩; obtain ⟨d0, d1, d2, d3, d4⟩ := N5.out.below hb LT.out; have E1 := Lib.hid hb; have F1 : Hid (Below w.heap.size w w1) := B0.out.trans (hb.mono B0.out.size); clear hb)))
                          go_ret
                          first | exact ⟨rfl, F1.out⟩ | exact ⟨rfl, B0.out⟩
                        · have g12 : (m != 225) = false := by simp only [bne, h12]; rfl
                          cases h13 : (s == 10)
                          · have g13 : (s != 10) = true := by simp only [bne, h13]; rfl
                            go_enter Tryd.func40, Tryd.ntmps40
                            go_wp2_with (first | (go_at_call 39; first | (refine (C0.out _ (HS.out.below (B0.out))).mono ?_; rintro e w1 ⟨rfl, hb⟩; obtain ⟨d0, d1, d2, d3, d4⟩ := N5.out.below hb LT.out; have E1 := Lib.hid hb; have F1 : Hid (Below w.heap.size w w1) := B0.out.trans (hb.mono B0.out.size); clear hb)))
                            go_ret
                            first | exact ⟨rfl, F1.out⟩ | exact ⟨rfl, B0.out⟩
                          · have g13 : (s != 10) = false := by simp only [bne, h13]; rfl
                            go_enter Tryd.func40, Tryd.ntmps40
                            go_wp2_with (first | (go_at_call 39; first | (refine (C0.out _ (HS.out.below (B0.out))).mono ?_; rintro e w1 ⟨rfl, hb⟩; obtain ⟨d0, d1, d2, d3, d4⟩ := N5.out.below hb LT.out; have E1 := Lib.hid hb; have F1 : Hid (Below w.heap.size w w1) := B0.out.trans (hb.mono B0.out.size); clear hb)))
                            go_ret
                            first | exact ⟨rfl, F1.out⟩ | exact ⟨rfl, B0.out⟩
                      · have g11 : (m != 161) = false := by simp only [bne, h11]; rfl
                        cases h12 : (s == 10)
                        · have g12 : (s != 10) = true := by simp only [bne, h12]; rfl
                          go_enter Tryd.func40, Tryd.ntmps40
                          go_wp2_with (first | (go_at_call 39; first | (refine (C0.out _ (HS.out.below (B0.out))).mono ?_; rintro e w1 ⟨rfl, hb⟩; obtain ⟨d0, d1, d2, d3, d4⟩ := N5.out.below hb LT.out; have E1 := Lib.hid hb; have F1 : Hid (Below w.heap.size w w1) := B0.out.trans (hb.mono B0.out.size); clear hb)))
                          go_ret
                          first | exact ⟨rfl, F1.out⟩ | exact ⟨rfl, B0.out⟩
                        · have g12 : (s != 10) = false := by simp only [bne, h12]; rfl
                          go_enter Tryd.func40, Tryd.ntmps40
                          go_wp2_with (first | (go_at_call 39; first | (refine (C0.out _ (HS.out.below (B0.out))).mono ?_; rintro e w1 ⟨rfl, hb⟩; obtain ⟨d0, d1, d2, d3, d4⟩ := N5.out.below hb LT.out; have E1 := Lib.hid hb; have F1 : Hid (Below w.heap.size w w1) := B0.out.trans (hb.mono B0.out.size); clear hb)))
                          go_ret
                          first | exact ⟨rfl, F1.out⟩ | exact ⟨rfl, B0.out⟩
                    · have g10 : (m != 81) = false := by simp only [bne, h10]; rfl
                      cases h11 : (s == 10)
                      · have g11 : (s != 10) = true := by simp only [bne, h11]; rfl
                        go_enter Tryd.func40, Tryd.ntmps40
                        go_wp2_with (first | (go_at_call 39; first | (refine (C0.out _ (HS.out.below (B0.out))).mono ?_; rintro e w1 ⟨rfl, hb⟩; obtain ⟨d0, d1, d2, d3, d4⟩ := N5.out.below hb LT.out; have E1 := Lib.hid hb; have F1 : Hid (Below w.heap.size w w1) := B0.out.trans (hb.mono B0.out.size); clear hb)))
                        go_ret
                        first | exact ⟨rfl, F1.out⟩ | exact ⟨rfl, B0.out⟩
                      · have g11 : (s != 10) = false := by simp only [bne, h11]; rfl
                        go_enter Tryd.func40, Tryd.ntmps40
                        go_wp2_with (first | (go_at_call 39; first | (refine (C0.out _ (HS.out.below (B0.out))).mono ?_; rintro e w1 ⟨rfl, hb⟩; obtain ⟨d0, d1, d2, d3, d4⟩ := N5.out.below hb LT.out; have E1 := Lib.hid hb; have F1 : Hid (Below w.heap.size w w1) := B0.out.trans (hb.mono B0.out.size); clear hb)))
                        go_ret
                        first | exact ⟨rfl, F1.out⟩ | exact ⟨rfl, B0.out⟩
                  · have g9 : (m != 65) = false := by simp only [bne, h9]; rfl
                    cases h10 : (s == 10)
                    · have g10 : (s != 10) = true := by simp only [bne, h10]; rfl
                      go_enter Tryd.func40, Tryd.ntmps40
                      go_wp2_with (first | (go_at_call 39; first | (refine (C0.out _ (HS.out.below (B0.out))).mono ?_; rintro e w1 ⟨rfl, hb⟩; obtain ⟨d0, d1, d2, d3, d4⟩ := N5.out.below hb LT.out; have E1 := Lib.hid hb; have F1 : Hid (Below w.heap.size w w1) := B0.out.trans (hb.mono B0.out.size); clear hb)))
                      go_ret
                      first | exact ⟨rfl, F1.out⟩ | exact ⟨rfl, B0.out⟩
                    · have g10 : (s != 10) = false := by simp only [bne, h10]; rfl
                      go_enter Tryd.func40, Tryd.ntmps40
                      go_wp2_with (first | (go_at_call 39; first | (refine (C0.out _ (HS.out.below (B0.out))).mono ?_; rintro e w1 ⟨rfl, hb⟩; obtain ⟨d0, d1, d2, d3, d4⟩ := N5.out.below hb LT.out; have E1 := Lib.hid hb; have F1 : Hid (Below w.heap.size w w1) := B0.out.trans (hb.mono B0.out.size); clear hb)))
                      go_ret
                      first | exact ⟨rfl, F1.out⟩ | exact ⟨rfl, B0.out⟩
                · have g8 : (m != 1) = false := by simp only [bne, h8]; rfl
                  cases h9 : (s == 10)
                  · have g9 : (s != 10) = true := by simp only [bne, h9]; rfl
                    go_enter Tryd.func40, Tryd.ntmps40
                    go_wp2_with (first | (go_at_call 39; first | (refine (C0.out _ (HS.out.below (B0.out))).mono ?_; rintro e w1 ⟨rfl, hb⟩; obtain ⟨d0, d1, d2, d3, d4⟩ := N5.out.below hb LT.out; have E1 := Lib.hid hb; have F1 : Hid (Below w.heap.size w w1) := B0.out.trans (hb.mono B0.out.size); clear hb)))
                    go_ret
                    first | exact ⟨rfl, F1.out⟩ | exact ⟨rfl, B0.out⟩
                  · have g9 : (s != 10) = false := by simp only [bne, h9]; rfl
                    go_enter Tryd.func40, Tryd.ntmps40
                    go_wp2_with (first | (go_at_call 39; first | (refine (C0.out _ (HS.out.below (B0.out))).mono ?_; rintro e w1 ⟨rfl, hb⟩; obtain ⟨d0, d1, d2, d3, d4⟩ := N5.out.below hb LT.out; have E1 := Lib.hid hb; have F1 : Hid (Below w.heap.size w w1) := B0.out.trans (hb.mono B0.out.size); clear hb)))
                    go_ret
                    first | exact ⟨rfl, F1.out⟩ | exact ⟨rfl, B0.out⟩
              · have g7 : (m != 241) = false := by simp only [bne, h7]; rfl
                go_enter Tryd.func40, Tryd.ntmps40
                go_wp2_with (first | (go_at_call 39; first | (refine (C0.out _ (HS.out.below (B0.out))).mono ?_; rintro e w1 ⟨rfl, hb⟩; obtain ⟨d0, d1, d2, d3, d4⟩ := N5.out.below hb LT.out; have E1 := Lib.hid hb; have F1 : Hid (Below w.heap.size w w1) := B0.out.trans (hb.mono B0.out.size); clear hb)))
                go_ret
                first | exact ⟨rfl, F1.out⟩ | exact ⟨rfl, B0.out⟩
            · have g6 : (m != 160) = false := by simp only [bne, h6]; rfl
              go_enter Tryd.func40, Tryd.ntmps40
              go_wp2_with (first | (go_at_call 39; first | (refine (C0.out _ (HS.out.below (B0.out))).mono ?_; rintro e w1 ⟨rfl, hb⟩; obtain ⟨d0, d1, d2, d3, d4⟩ := N5.out.below hb LT.out; have E1 := Lib.hid hb; have F1 : Hid (Below w.heap.size w w1) := B0.out.trans (hb.mono B0.out.size); clear hb)))
              go_ret
              first | exact ⟨rfl, F1.out⟩ | exact ⟨rfl, B0.out⟩
          · have g5 : (m != 80) = false := by simp only [bne, h5]; rfl
            go_enter Tryd.func40, Tryd.ntmps40
            go_wp2_with (first | (go_at_call 39; first | (refine (C0.out _ (HS.out.below (B0.out))).mono ?_; rintro e w1 ⟨rfl, hb⟩; obtain ⟨d0, d1, d2, d3, d4⟩ := N5.out.below hb LT.out; have E1 := Lib.hid hb; have F1 : Hid (Below w.heap.size w w1) := B0.out.trans (hb.mono B0.out.size); clear hb)))
            go_ret
            first | exact ⟨rfl, F1.out⟩ | exact ⟨rfl, B0.out⟩
        · have g4 : (m != 64) = false := by simp only [bne, h4]; rfl
          go_enter Tryd.func40, Tryd.ntmps40
          go_wp2_with (first | (go_at_call 39; first | (refine (C0.out _ (HS.out.below (B0.out))).mono ?_; rintro e w1 ⟨rfl, hb⟩; obtain ⟨d0, d1, d2, d3, d4⟩ := N5.out.below hb LT.out; have E1 := Lib.hid hb; have F1 : Hid (Below w.heap.size w w1) := B0.out.trans (hb.mono B0.out.size); clear hb)))
          go_ret
          first | exact ⟨rfl, F1.out⟩ | exact ⟨rfl, B0.out⟩
      · have g3 : (m != 0) = false := by simp only [bne, h3]; rfl
        go_enter Tryd.func40, Tryd.ntmps40
        go_wp2_with (first | (go_at_call 39; first | (refine (C0.out _ (HS.out.below (B0.out))).mono ?_; rintro e w1 ⟨rfl, hb⟩; obtain ⟨d0, d1, d2, d3, d4⟩ := N5.out.below hb LT.out; have E1 := Lib.hid hb; have F1 : Hid (Below w.heap.size w w1) := B0.out.trans (hb.mono B0.out.size); clear hb)))
        go_ret
        first | exact ⟨rfl, F1.out⟩ | exact ⟨rfl, B0.out⟩
  · have g1 : (sizeV o != 4) = false := by simp only [bne, h1]; rfl
    cases h2 : (m == 0)
    · have g2 : (m != 0) = true := by simp only [bne, h2]; rfl
      cases h3 : (m == 64)
      · have g3 : (m != 64) = true := by simp only [bne, h3]; rfl
        cases h4 : (m == 80)
        · have g4 : (m != 80) = true := by simp only [bne, h4]; rfl
          cases h5 : (m == 160)
          · have g5 : (m != 160) = true := by simp only [bne, h5]; rfl
            cases h6 : (m == 241)
            · have g6 : (m != 241) = true := by simp only [bne, h6]; rfl
              cases h7 : (m == 1)
              · have g7 : (m != 1) = true := by simp only [bne, h7]; rfl
                cases h8 : (m == 65)
                · have g8 : (m != 65) = true := by simp only [bne, h8]; rfl
                  cases h9 : (m == 81)
                  · have g9 : (m != 81) = true := by simp only [bne, h9]; rfl
                    cases h10 : (m == 161)
                    · have g10 : (m != 161) = true := by simp only [bne, h10]; rfl
                      cases h11 : (m == 225)
                      · have g11 : (m != 225) = true := by simp only [bne, h11]; rfl
                        go_enter Tryd.func40, Tryd.ntmps40
                        go_wp2_with (first | (go_at_call 39; first | (refine (C0.out _ (HS.out.below (B0.out))).mono ?_; rintro e w1 ⟨rfl, hb⟩; obtain ⟨d0, d1, d2, d3, d4⟩ := N5.out.below hb LT.out; have E1 := Lib.hid hb; have F1 : Hid (Below w.heap.size w w1) := B0.out.trans (hb.mono B0.out.size); clear hb)))
                        go_ret
                        first | exact ⟨rfl, F1.out⟩ | exact ⟨rfl, B0.out⟩
                      · have g11 : (m != 225) = false := by simp only [bne, h11]; rfl
                        cases h12 : (s == 10)
                        · have g12 : (s != 10) = true := by simp only [bne, h12]; rfl
                          go_enter Tryd.func40, Tryd.ntmps40
                          go_wp2_with (first | (go_at_call 39; first | (refine (C0.out _ (HS.out.below (B0.out))).mono ?_; rintro e w1 ⟨rfl, hb⟩; obtain ⟨d0, d1, d2, d3, d4⟩ := N5.out.below hb LT.out; have E1 := Lib.hid hb; have F1 : Hid (Below w.heap.size w w1) := B0.out.trans (hb.mono B0.out.size); clear hb)))
                          go_ret
                          first | exact ⟨rfl, F1.out⟩ | exact ⟨rfl, B0.out⟩
                        · have g12 : (s != 10) = false := by simp only [bne, h12]; rfl
                          go_enter Tryd.func40, Tryd.ntmps40
                          go_wp2_with (first | (go_at_call 39; first | (refine (C0.out _ (HS.out.below (B0.out))).mono ?_; rintro e w1 ⟨rfl, hb⟩; obtain ⟨d0, d1, d2, d3, d4⟩ := N5.out.below hb LT.out; have E1 := Lib.hid hb; have F1 : Hid (Below w.heap.size w w1) := B0.out.trans (hb.mono B0.out.size); clear hb)))
                          go_ret
                          first | exact ⟨rfl, F1.out⟩ | exact ⟨rfl, B0.out⟩
                    · have g10 : (m != 161) = false := by simp only [bne, h10]; rfl
                      cases h11 : (s == 10)
                      · have g11 : (s != 10) = true := by simp only [bne, h11]; rfl
                        go_enter Tryd.func40, Tryd.ntmps40
                        go_wp2_with (first | (go_at_call 39; first | (refine (C0.out _ (HS.out.below (B0.out))).mono ?_; rintro e w1 ⟨rfl, hb⟩; obtain ⟨d0, d1, d2, d3, d4⟩ := N5.out.below hb LT.out; have E1 := Lib.hid hb; have F1 : Hid (Below w.heap.size w w1) := B0.out.trans (hb.mono B0.out.size); clear hb)))
                        go_ret
                        first | exact ⟨rfl, F1.out⟩ | exact ⟨rfl, B0.out⟩
                      · have g11 : (s != 10) = false := by simp only [bne, h11]; rfl
                        go_enter Tryd.func40, Tryd.ntmps40
                        go_wp2_with (first | (go_at_call 39; first | (refine (C0.out _ (HS.out.below (B0.out))).mono ?_; rintro e w1 ⟨rfl, hb⟩; obtain ⟨d0, d1, d2, d3, d4⟩ := N5.out.below hb LT.out; have E1 := Lib.hid hb; have F1 : Hid (Below w.heap.size w w1) := B0.out.trans (hb.mono B0.out.size); clear hb)))
                        go_ret
                        first | exact ⟨rfl, F1.out⟩ | exact ⟨rfl, B0.out⟩
                  · have g9 : (m != 81) = false := by simp only [bne, h9]; rfl
                    cases h10 : (s == 10)
                    · have g10 : (s != 10) = true := by simp only [bne, h10]; rfl
                      go_enter Tryd.func40, Tryd.ntmps40
                      go_wp2_with (first | (go_at_call 39; first | (refine (C0.out _ (HS.out.below (B0.out))).mono ?_; rintro e w1 ⟨rfl, hb⟩; obtain ⟨d0, d1, d2, d3, d4⟩ := N5.out.below hb LT.out; have E1 := Lib.hid hb; have F1 : Hid (Below w.heap.size w w1) := B0.out.trans (hb.mono B0.out.size); clear hb)))
                      go_ret
                      first | exact ⟨rfl, F1.out⟩ | exact ⟨rfl, B0.out⟩
                    · have g10 : (s != 10) = false := by simp only [bne, h10]; rfl
                      go_enter Tryd.func40, Tryd.ntmps40
                      go_wp2_with (first | (go_at_call 39; first | (refine (C0.out _ (HS.out.below (B0.out))).mono ?_; rintro e w1 ⟨rfl, hb⟩; obtain ⟨d0, d1, d2, d3, d4⟩ := N5.out.below hb LT.out; have E1 := Lib.hid hb; have F1 : Hid (Below w.heap.size w w1) := B0.out.trans (hb.mono B0.out.size); clear hb)))
                      go_ret
                      first | exact ⟨rfl, F1.out⟩ | exact ⟨rfl, B0.out⟩
                · have g8 : (m != 65) = false := by simp only [bne, h8]; rfl
                  cases h9 : (s == 10)
                  · have g9 : (s != 10) = true := by simp only [bne, h9]; rfl
                    go_enter Tryd.func40, Tryd.ntmps40
                    go_wp2_with (first | (go_at_call 39; first | (refine (C0.out _ (HS.out.below (B0.out))).mono ?_; rintro e w1 ⟨rfl, hb⟩; obtain ⟨d0, d1, d2, d3, d4⟩ := N5.out.below hb LT.out; have E1 := Lib.hid hb; have F1 : Hid (Below w.heap.size w w1) := B0.out.trans (hb.mono B0.out.size); clear hb)))
                    go_ret
                    first | exact ⟨rfl, F1.out⟩ | exact ⟨rfl, B0.out⟩
                  · have g9 : (s != 10) = false := by simp only [bne, h9]; rfl
                    go_enter Tryd.func40, Tryd.ntmps40
                    go_wp2_with (first | (go_at_call 39; first | (refine (C0.out _ (HS.out.below (B0.out))).mono ?_; rintro e w1 ⟨rfl, hb⟩; obtain ⟨d0, d1, d2, d3, d4⟩ := N5.out.below hb LT.out; have E1 := Lib.hid hb; have F1 : Hid (Below w.heap.size w w1) := B0.out.trans (hb.mono B0.out.size); clear hb)))
                    go_ret
                    first | exact ⟨rfl, F1.out⟩ | exact ⟨rfl, B0.out⟩
              · have g7 : (m != 1) = false := by simp only [bne, h7]; rfl
                cases h8 : (s == 10)
                · have g8 : (s != 10) = true := by simp only [bne, h8]; rfl
                  go_enter Tryd.func40, Tryd.ntmps40
                  go_wp2_with (first | (go_at_call 39; first | (refine (C0.out _ (HS.out.below (B0.out))).mono ?_; rintro e w1 ⟨rfl, hb⟩; obtain ⟨d0, d1, d2, d3, d4⟩ := N5.out.below hb LT.out; have E1 := Lib.hid hb; have F1 : Hid (Below w.heap.size w w1) := B0.out.trans (hb.mono B0.out.size); clear hb)))
                  go_ret
                  first | exact ⟨rfl, F1.out⟩ | exact ⟨rfl, B0.out⟩
                · have g8 : (s != 10) = false := by simp only [bne, h8]; rfl
                  go_enter Tryd.func40, Tryd.ntmps40
                  go_wp2_with (first | (go_at_call 39; first | (refine (C0.out _ (HS.out.below (B0.out))).mono ?_; rintro e w1 ⟨rfl, hb⟩; obtain ⟨d0, d1, d2, d3, d4⟩ := N5.out.below hb LT.out; have E1 := Lib.hid hb; have F1 : Hid (Below w.heap.size w w1) := B0.out.trans (hb.mono B0.out.size); clear hb)))
                  go_ret
                  first | exact ⟨rfl, F1.out⟩ | exact ⟨rfl, B0.out⟩
            · have g6 : (m != 241) = false := by simp only [bne, h6]; rfl
              go_enter Tryd.func40, Tryd.ntmps40
              go_wp2_with (first | (go_at_call 39; first | (refine (C0.out _ (HS.out.below (B0.out))).mono ?_; rintro e w1 ⟨rfl, hb⟩; obtain ⟨d0, d1, d2, d3, d4⟩ := N5.out.below hb LT.out; have E1 := Lib.hid hb; have F1 : Hid (Below w.heap.size w w1) := B0.out.trans (hb.mono B0.out.size); clear hb)))
              go_ret
              first | exact ⟨rfl, F1.out⟩ | exact ⟨rfl, B0.out⟩
          · have g5 : (m != 160) = false := by simp only [bne, h5]; rfl
            go_enter Tryd.func40, Tryd.ntmps40
            go_wp2_with (first | (go_at_call 39; first | (refine (C0.out _ (HS.out.below (B0.out))).mono ?_; rintro e w1 ⟨rfl, hb⟩; obtain ⟨d0, d1, d2, d3, d4⟩ := N5.out.below hb LT.out; have E1 := Lib.hid hb; have F1 : Hid (Below w.heap.size w w1) := B0.out.trans (hb.mono B0.out.size); clear hb)))
            go_ret
            first | exact ⟨rfl, F1.out⟩ | exact ⟨rfl, B0.out⟩
        · have g4 : (m != 80) = false := by simp only [bne, h4]; rfl
          go_enter Tryd.func40, Tryd.ntmps40
          go_wp2_with (first | (go_at_call 39; first | (refine (C0.out _ (HS.out.below (B0.out))).mono ?_; rintro e w1 ⟨rfl, hb⟩; obtain ⟨d0, d1, d2, d3, d4⟩ := N5.out.below hb LT.out; have E1 := Lib.hid hb; have F1 : Hid (Below w.heap.size w w1) := B0.out.trans (hb.mono B0.out.size); clear hb)))
          go_ret
          first | exact ⟨rfl, F1.out⟩ | exact ⟨rfl, B0.out⟩
      · have g3 : (m != 64) = false := by simp only [bne, h3]; rfl
        go_enter Tryd.func40, Tryd.ntmps40
        go_wp2_with (first | (go_at_call 39; first | (refine (C0.out _ (HS.out.below (B0.out))).mono ?_; rintro e w1 ⟨rfl, hb⟩; obtain ⟨d0, d1, d2, d3, d4⟩ := N5.out.below hb LT.out; have E1 := Lib.hid hb; have F1 : Hid (Below w.heap.size w w1) := B0.out.trans (hb.mono B0.out.size); clear hb)))
        go_ret
        first | exact ⟨rfl, F1.out⟩ | exact ⟨rfl, B0.out⟩
    · have g2 : (m != 0) = false := by simp only [bne, h2]; rfl
      go_enter Tryd.func40, Tryd.ntmps40
      go_wp2_with (first | (go_at_call 39; first | (refine (C0.out _ (HS.out.below (B0.out))).mono ?_; rintro e w1 ⟨rfl, hb⟩; obtain ⟨d0, d1, d2, d3, d4⟩ := N5.out.below hb LT.out; have E1 := Lib.hid hb; have F1 : Hid (Below w.heap.size w w1) := B0.out.trans (hb.mono B0.out.size); clear hb)))
      go_ret
      first | exact ⟨rfl, F1.out⟩ | exact ⟨rfl, B0.out⟩
set_option maxHeartbeats 2000000 in
theorem load_any (o d s f m : Int) (w : World) (hS : Sizes w) :
    Calls Tryd.prog 29 #[insV o d s f m] w fun e w' => e = .returned (.bool (loadB o d m)) ∧ Below w.heap.size w w' := by
  unfold loadB
  have n5 := Cells5.new w ⟨o, d, s, f, m⟩ 39
  have N5 := Lib.hid n5
  clear n5
  have LT := Lib.hid (lt_box w (.cells #[.int .i64 o, .int .i64 d, .int .i64 s, .int .i64 f, .int .i64 m] 39))
  have B0 : Hid (Below w.heap.size w (w.alloc (.cells #[.int .i64 o, .int .i64 d, .int .i64 s, .int .i64 f, .int .i64 m] 39))) := (Below.refl _ w).alloc (Nat.le_refl _) _
  have HS := Lib.hid hS
  clear hS
  have C0 := Lib.hid (size_any o d s f m)
  unfold insV at C0
  unfold insV
  cases h1 : (m == 0)
  · have g1 : (m != 0) = true := by simp only [bne, h1]; rfl
    go_enter Tryd.func29, Tryd.ntmps29
    go_wp2_with (first | (go_at_call 39; first | (refine (C0.out _ (HS.out.below (B0.out))).mono ?_; rintro e w1 ⟨rfl, hb⟩; obtain ⟨d0, d1, d2, d3, d4⟩ := N5.out.below hb LT.out; have E1 := Lib.hid hb; have F1 : Hid (Below w.heap.size w w1) := B0.out.trans (hb.mono B0.out.size); clear hb)))
    go_ret
    first | exact ⟨rfl, F1.out⟩ | exact ⟨rfl, B0.out⟩
  · have g1 : (m != 0) = false := by simp only [bne, h1]; rfl
    cases h2 : (d == 10)
    · have g2 : (d != 10) = true := by simp only [bne, h2]; rfl
      cases h3 : (bits .and .i64 o 224 == 96)
      · have g3 : (bits .and .i64 o 224 != 96) = true := by simp only [bne, h3]; rfl
        cases h4 : (bits .and .i64 o 224 == 128)
        · have g4 : (bits .and .i64 o 224 != 128) = true := by simp only [bne, h4]; rfl
          go_enter Tryd.func29, Tryd.ntmps29
          go_wp2_with (first | (go_at_call 39; first | (refine (C0.out _ (HS.out.below (B0.out))).mono ?_; rintro e w1 ⟨rfl, hb⟩; obtain ⟨d0, d1, d2, d3, d4⟩ := N5.out.below hb LT.out; have E1 := Lib.hid hb; have F1 : Hid (Below w.heap.size w w1) := B0.out.trans (hb.mono B0.out.size); clear hb)))
          go_ret
          first | exact ⟨rfl, F1.out⟩ | exact ⟨rfl, B0.out⟩
        · have g4 : (bits .and .i64 o 224 != 128) = false := by simp only [bne, h4]; rfl
          cases h5 : (decide (sizeV o < 8))
          · go_enter Tryd.func29, Tryd.ntmps29
            go_wp2_with (first | (go_at_call 39; first | (refine (C0.out _ (HS.out.below (B0.out))).mono ?_; rintro e w1 ⟨rfl, hb⟩; obtain ⟨d0, d1, d2, d3, d4⟩ := N5.out.below hb LT.out; have E1 := Lib.hid hb; have F1 : Hid (Below w.heap.size w w1) := B0.out.trans (hb.mono B0.out.size); clear hb)))
            go_ret
            first | exact ⟨rfl, F1.out⟩ | exact ⟨rfl, B0.out⟩
          · go_enter Tryd.func29, Tryd.ntmps29
            go_wp2_with (first | (go_at_call 39; first | (refine (C0.out _ (HS.out.below (B0.out))).mono ?_; rintro e w1 ⟨rfl, hb⟩; obtain ⟨d0, d1, d2, d3, d4⟩ := N5.out.below hb LT.out; have E1 := Lib.hid hb; have F1 : Hid (Below w.heap.size w w1) := B0.out.trans (hb.mono B0.out.size); clear hb)))
            go_ret
            first | exact ⟨rfl, F1.out⟩ | exact ⟨rfl, B0.out⟩
      · have g3 : (bits .and .i64 o 224 != 96) = false := by simp only [bne, h3]; rfl
        go_enter Tryd.func29, Tryd.ntmps29
        go_wp2_with (first | (go_at_call 39; first | (refine (C0.out _ (HS.out.below (B0.out))).mono ?_; rintro e w1 ⟨rfl, hb⟩; obtain ⟨d0, d1, d2, d3, d4⟩ := N5.out.below hb LT.out; have E1 := Lib.hid hb; have F1 : Hid (Below w.heap.size w w1) := B0.out.trans (hb.mono B0.out.size); clear hb)))
        go_ret
        first | exact ⟨rfl, F1.out⟩ | exact ⟨rfl, B0.out⟩
    · have g2 : (d != 10) = false := by simp only [bne, h2]; rfl
      go_enter Tryd.func29, Tryd.ntmps29
      go_wp2_with (first | (go_at_call 39; first | (refine (C0.out _ (HS.out.below (B0.out))).mono ?_; rintro e w1 ⟨rfl, hb⟩; obtain ⟨d0, d1, d2, d3, d4⟩ := N5.out.below hb LT.out; have E1 := Lib.hid hb; have F1 : Hid (Below w.heap.size w w1) := B0.out.trans (hb.mono B0.out.size); clear hb)))
      go_ret
      first | exact ⟨rfl, F1.out⟩ | exact ⟨rfl, B0.out⟩
set_option maxHeartbeats 2000000 in
theorem store_any (o d s f m : Int) (w : World) :
    Calls Tryd.prog 30 #[insV o d s f m] w fun e w' => e = .returned (.bool (storeB o s)) ∧ Below w.heap.size w w' := by
  unfold storeB
  unfold insV
  cases h1 : (bits .and .i64 o 224 == 96)
  · have g1 : (bits .and .i64 o 224 != 96) = true := by simp only [bne, h1]; rfl
    go_enter Tryd.func30, Tryd.ntmps30
    go_wp2_with fail
    go_ret
    exact ⟨rfl, (Below.refl _ w).alloc (Nat.le_refl _) _⟩
  · have g1 : (bits .and .i64 o 224 != 96) = false := by simp only [bne, h1]; rfl
    cases h2 : (s == 0)
    · have g2 : (s != 0) = true := by simp only [bne, h2]; rfl
      go_enter Tryd.func30, Tryd.ntmps30
      go_wp2_with fail
      go_ret
      exact ⟨rfl, (Below.refl _ w).alloc (Nat.le_refl _) _⟩
    · have g2 : (s != 0) = false := by simp only [bne, h2]; rfl
      go_enter Tryd.func30, Tryd.ntmps30
      go_wp2_with fail
      go_ret
      exact ⟨rfl, (Below.refl _ w).alloc (Nat.le_refl _) _⟩
set_option maxHeartbeats 2000000 in
theorem storeSrc_any (o d s f m : Int) (w : World) (hS : Sizes w) :
    Calls Tryd.prog 31 #[insV o d s f m] w fun e w' => e = .returned (.bool (storeSrcB o s m)) ∧ Below w.heap.size w w' := by
  unfold storeSrcB
  have n5 := Cells5.new w ⟨o, d, s, f, m⟩ 39
  have N5 := Lib.hid n5
  clear n5
  have LT := Lib.hid (lt_box w (.cells #[.int .i64 o, .int .i64 d, .int .i64 s, .int .i64 f, .int .i64 m] 39))
  have B0 : Hid (Below w.heap.size w (w.alloc (.cells #[.int .i64 o, .int .i64 d, .int .i64 s, .int .i64 f, .int .i64 m] 39))) := (Below.refl _ w).alloc (Nat.le_refl _) _
  have HS := Lib.hid hS
  clear hS
  have C0 := Lib.hid (lock_any o d s f m)
  unfold insV at C0
  unfold insV
  cases h1 : (bits .and .i64 o 224 == 96)
  · have g1 : (bits .and .i64 o 224 != 96) = true := by simp only [bne, h1]; rfl
    cases h2 : (bits .and .i64 o 224 == 192)
    · have g2 : (bits .and .i64 o 224 != 192) = true := by simp only [bne, h2]; rfl
      go_enter Tryd.func31, Tryd.ntmps31
      go_wp2_with (first | (go_at_call 40; first | (refine (C0.out _ (HS.out.below (B0.out))).mono ?_; rintro e w1 ⟨rfl, hb⟩; obtain ⟨d0, d1, d2, d3, d4⟩ := N5.out.below hb LT.out; have E1 := Lib.hid hb; have F1 : Hid (Below w.heap.size w w1) := B0.out.trans (hb.mono B0.out.size); clear hb)))
      go_ret
      first | exact ⟨rfl, F1.out⟩ | exact ⟨rfl, B0.out⟩
    · have g2 : (bits .and .i64 o 224 != 192) = false := by simp only [bne, h2]; rfl
      cases h3 : (lockB o s m)
      · go_enter Tryd.func31, Tryd.ntmps31
        go_wp2_with (first | (go_at_call 40; first | (refine (C0.out _ (HS.out.below (B0.out))).mono ?_; rintro e w1 ⟨rfl, hb⟩; obtain ⟨d0, d1, d2, d3, d4⟩ := N5.out.below hb LT.out; have E1 := Lib.hid hb; have F1 : Hid (Below w.heap.size w w1) := B0.out.trans (hb.mono B0.out.size); clear hb)))
        go_ret
        first | exact ⟨rfl, F1.out⟩ | exact ⟨rfl, B0.out⟩
      · go_enter Tryd.func31, Tryd.ntmps31
        go_wp2_with (first | (go_at_call 40; first | (refine (C0.out _ (HS.out.below (B0.out))).mono ?_; rintro e w1 ⟨rfl, hb⟩; obtain ⟨d0, d1, d2, d3, d4⟩ := N5.out.below hb LT.out; have E1 := Lib.hid hb; have F1 : Hid (Below w.heap.size w w1) := B0.out.trans (hb.mono B0.out.size); clear hb)))
        go_ret
        first | exact ⟨rfl, F1.out⟩ | exact ⟨rfl, B0.out⟩
  · have g1 : (bits .and .i64 o 224 != 96) = false := by simp only [bne, h1]; rfl
    cases h2 : (m == 0)
    · have g2 : (m != 0) = true := by simp only [bne, h2]; rfl
      go_enter Tryd.func31, Tryd.ntmps31
      go_wp2_with (first | (go_at_call 40; first | (refine (C0.out _ (HS.out.below (B0.out))).mono ?_; rintro e w1 ⟨rfl, hb⟩; obtain ⟨d0, d1, d2, d3, d4⟩ := N5.out.below hb LT.out; have E1 := Lib.hid hb; have F1 : Hid (Below w.heap.size w w1) := B0.out.trans (hb.mono B0.out.size); clear hb)))
      go_ret
      first | exact ⟨rfl, F1.out⟩ | exact ⟨rfl, B0.out⟩
    · have g2 : (m != 0) = false := by simp only [bne, h2]; rfl
      go_enter Tryd.func31, Tryd.ntmps31
      go_wp2_with (first | (go_at_call 40; first | (refine (C0.out _ (HS.out.below (B0.out))).mono ?_; rintro e w1 ⟨rfl, hb⟩; obtain ⟨d0, d1, d2, d3, d4⟩ := N5.out.below hb LT.out; have E1 := Lib.hid hb; have F1 : Hid (Below w.heap.size w w1) := B0.out.trans (hb.mono B0.out.size); clear hb)))
      go_ret
      first | exact ⟨rfl, F1.out⟩ | exact ⟨rfl, B0.out⟩
set_option maxHeartbeats 2000000 in
theorem wideOk_any (o d s f m : Int) (w : World) :
    Calls Tryd.prog 28 #[insV o d s f m] w fun e w' => e = .returned (.bool (wideOkB o d s f m)) ∧ Below w.heap.size w w' := by
  unfold wideOkB
  have n5 := Cells5.new w ⟨o, d, s, f, m⟩ 39
  have N5 := Lib.hid n5
  clear n5
  have LT := Lib.hid (lt_box w (.cells #[.int .i64 o, .int .i64 d, .int .i64 s, .int .i64 f, .int .i64 m] 39))
  have B0 : Hid (Below w.heap.size w (w.alloc (.cells #[.int .i64 o, .int .i64 d, .int .i64 s, .int .i64 f, .int .i64 m] 39))) := (Below.refl _ w).alloc (Nat.le_refl _) _
  have C0 := Lib.hid (wide_any o d s f m)
  unfold insV at C0
  unfold insV
  cases h1 : (o == 24)
  · have g1 : (o != 24) = true := by simp only [bne, h1]; rfl
    go_enter Tryd.func28, Tryd.ntmps28
    go_wp2_with (first | (go_at_call 22; first | (refine (C0.out _).mono ?_; rintro e w1 ⟨rfl, hb⟩; obtain ⟨d0, d1, d2, d3, d4⟩ := N5.out.below hb LT.out; have E1 := Lib.hid hb; have F1 : Hid (Below w.heap.size w w1) := B0.out.trans (hb.mono B0.out.size); clear hb)))
    go_ret
    first | exact ⟨rfl, F1.out⟩ | exact ⟨rfl, B0.out⟩
  · have g1 : (o != 24) = false := by simp only [bne, h1]; rfl
    cases h2 : (f == 0)
    · have g2 : (f != 0) = true := by simp only [bne, h2]; rfl
      go_enter Tryd.func28, Tryd.ntmps28
      go_wp2_with (first | (go_at_call 22; first | (refine (C0.out _).mono ?_; rintro e w1 ⟨rfl, hb⟩; obtain ⟨d0, d1, d2, d3, d4⟩ := N5.out.below hb LT.out; have E1 := Lib.hid hb; have F1 : Hid (Below w.heap.size w w1) := B0.out.trans (hb.mono B0.out.size); clear hb)))
      go_ret
      first | exact ⟨rfl, F1.out⟩ | exact ⟨rfl, B0.out⟩
    · have g2 : (f != 0) = false := by simp only [bne, h2]; rfl
      cases h3 : (d == 10)
      · have g3 : (d != 10) = true := by simp only [bne, h3]; rfl
        cases h4 : (s == 0)
        · have g4 : (s != 0) = true := by simp only [bne, h4]; rfl
          cases h5 : (s == 1)
          · have g5 : (s != 1) = true := by simp only [bne, h5]; rfl
            go_enter Tryd.func28, Tryd.ntmps28
            go_wp2_with (first | (go_at_call 22; first | (refine (C0.out _).mono ?_; rintro e w1 ⟨rfl, hb⟩; obtain ⟨d0, d1, d2, d3, d4⟩ := N5.out.below hb LT.out; have E1 := Lib.hid hb; have F1 : Hid (Below w.heap.size w w1) := B0.out.trans (hb.mono B0.out.size); clear hb)))
            go_ret
            first | exact ⟨rfl, F1.out⟩ | exact ⟨rfl, B0.out⟩
          · have g5 : (s != 1) = false := by simp only [bne, h5]; rfl
            cases h6 : (decide (0 ≤ m))
            · go_enter Tryd.func28, Tryd.ntmps28
              go_wp2_with (first | (go_at_call 22; first | (refine (C0.out _).mono ?_; rintro e w1 ⟨rfl, hb⟩; obtain ⟨d0, d1, d2, d3, d4⟩ := N5.out.below hb LT.out; have E1 := Lib.hid hb; have F1 : Hid (Below w.heap.size w w1) := B0.out.trans (hb.mono B0.out.size); clear hb)))
              go_ret
              first | exact ⟨rfl, F1.out⟩ | exact ⟨rfl, B0.out⟩
            · go_enter Tryd.func28, Tryd.ntmps28
              go_wp2_with (first | (go_at_call 22; first | (refine (C0.out _).mono ?_; rintro e w1 ⟨rfl, hb⟩; obtain ⟨d0, d1, d2, d3, d4⟩ := N5.out.below hb LT.out; have E1 := Lib.hid hb; have F1 : Hid (Below w.heap.size w w1) := B0.out.trans (hb.mono B0.out.size); clear hb)))
              go_ret
              first | exact ⟨rfl, F1.out⟩ | exact ⟨rfl, B0.out⟩
        · have g4 : (s != 0) = false := by simp only [bne, h4]; rfl
          go_enter Tryd.func28, Tryd.ntmps28
          go_wp2_with (first | (go_at_call 22; first | (refine (C0.out _).mono ?_; rintro e w1 ⟨rfl, hb⟩; obtain ⟨d0, d1, d2, d3, d4⟩ := N5.out.below hb LT.out; have E1 := Lib.hid hb; have F1 : Hid (Below w.heap.size w w1) := B0.out.trans (hb.mono B0.out.size); clear hb)))
          go_ret
          first | exact ⟨rfl, F1.out⟩ | exact ⟨rfl, B0.out⟩
      · have g3 : (d != 10) = false := by simp only [bne, h3]; rfl
        go_enter Tryd.func28, Tryd.ntmps28
        go_wp2_with (first | (go_at_call 22; first | (refine (C0.out _).mono ?_; rintro e w1 ⟨rfl, hb⟩; obtain ⟨d0, d1, d2, d3, d4⟩ := N5.out.below hb LT.out; have E1 := Lib.hid hb; have F1 : Hid (Below w.heap.size w w1) := B0.out.trans (hb.mono B0.out.size); clear hb)))
        go_ret
        first | exact ⟨rfl, F1.out⟩ | exact ⟨rfl, B0.out⟩
end Go.Proofs.YticklgoegmobbaaDoor
