/-
  The library's sort of a row that rises already and has fewer than 50 elements: it stays as it is.
-/
import Derived.Test.YtmbkagjdhpfngaaSortPiv
import Derived.Outline
namespace Go.Proofs.Ytmbkagjdhpfngaa
open Go Go.RowKit Go.Maps
set_option linter.unusedVariables false

/-- d rises. -/
def Rises (d : Array Nat) : Prop := ∀ i j, i ≤ j → j < d.size → ¬ d[j]! < d[i]!
theorem insInner_asc {d : Array Nat} (h : Rises d) (a k : Nat) (hk : k < d.size) : Sort.insInner ltN a k d = d :=
  insInner_stop a k d (.inr (.inr (h (k - 1) k (by omega) hk)))
theorem insOuter_asc {d : Array Nat} (h : Rises d) (a b : Nat) (hb : b ≤ d.size) : ∀ (m i : Nat), b - i ≤ m → Sort.insOuter ltN a b i d = d
  | 0, i, hm => by rw [Sort.insOuter, if_neg (by omega)]
  | m + 1, i, hm => by
    rw [Sort.insOuter]
    split
    · rw [insInner_asc h a i (by omega)]; exact insOuter_asc h a b hb m (i + 1) (by omega)
    · rfl
theorem order2_asc {d : Array Nat} (h : Rises d) (a b c : Nat) (hab : a ≤ b) (hb : b < d.size) : Sort.order2 ltN d a b c = (a, b, c) := by
  rw [Sort.order2, if_neg (by simpa [ltN] using h a b hab hb)]
theorem choosePivot_asc {d : Array Nat} (h : Rises d) (a b : Nat) (hab : a + 12 < b) (hb : b ≤ d.size) (h50 : b - a < 50) : (Sort.choosePivot ltN d a b).2 = .increasing := by
  have hp := choosePivot_eq d a b _ rfl
  rw [if_pos (by omega), if_neg (by omega)] at hp
  have hm : (Sort.median ltN d (a + (b - a) / 4 * 1) (a + (b - a) / 4 * 2) (a + (b - a) / 4 * 3) 0).2 = 0 := by
    unfold Sort.median
    have o1 := order2_asc h (a + (b - a) / 4 * 1) (a + (b - a) / 4 * 2) 0 (by omega) (by omega)
    have o2 := order2_asc h (a + (b - a) / 4 * 2) (a + (b - a) / 4 * 3) 0 (by omega) (by omega)
    simp only [o1, o2]
  rw [hp, hm]
  rfl
set_option maxRecDepth 100000 in
set_option maxHeartbeats 2000000 in
theorem partialIns_asc (w0 w : World) (g : Nat) (sp : List Value) (d : Array Nat) (cap a b : Nat) (hab : a < b) (hb : b ≤ d.size) (hs : d.size ≤ cap) (hc : d.size ≤ 1048576) (hasc : Rises d) (h : SRow w0 w g sp d) :
    Calls Try.prog 57 #[.slice (some ⟨g, 0, none⟩) d.size cap, .int .i64 (a : Int), .int .i64 (b : Int)] w fun e w' => e = .returned (.bool true) ∧ SRow w0 w' g sp d := by
  obtain ⟨n, hn⟩ : ∃ n, n = d.size := ⟨_, rfl⟩
  have HA := Lib.hid hasc; clear hasc
  rw [← hn] at hb hs hc ⊢
  have HN := Lib.hid hn; clear hn
  have H0 := Lib.hid h; clear h
  go_enter Try.func57, Try.ntmps57
  go_wp2
  refine wp_loop_rounds 1 ?_
  rw [rounds_succ]
  go_wp2
  go_loopw [7] (fun i wr => ∃ k : Nat, a + 1 ≤ k ∧ k ≤ b ∧ i = .int .i64 k ∧ SRow w0 wr g sp d) (fun i _ => b - (intOf i).toNat)
  case atStart => exact ⟨a + 1, by omega, by omega, by go_num, H0.out⟩
  case round =>
    obtain ⟨k, hk1, hk2, rfl, hr⟩ := hrel
    have HR := Lib.hid hr; clear hr
    by_cases hkb : k < b
    · have hkd : k < d.size := by rw [← HN.out]; omega
      have c1 := HR.out.cell hkd
      have c0 := HR.out.cell (show k - 1 < d.size by omega)
      have hnl := HA.out (k - 1) k (by omega) hkd
      obtain ⟨x, hx⟩ : ∃ x, d[k]! = x := ⟨_, rfl⟩
      obtain ⟨y, hy⟩ : ∃ y, d[k - 1]! = y := ⟨_, rfl⟩
      rw [hx] at c1 hnl
      rw [hy] at c0 hnl
      clear hx hy
      have g1 : decide (k < b) = true := by simpa using hkb
      have hl : decide (x < y) = false := by simpa using hnl
      have CL := Lib.hid (fun w => less_any x y w)
      have i1 : (0 : Int) ≤ (k : Int) - 1 := by omega
      have i2 : (k : Int) < (n : Int) := by omega
      have i3 : (k : Int) - 1 < (n : Int) := by omega
      have e1 : IntKind.i64.wrap ((k : Int) - 1) = (k : Int) - 1 := IntWalk.i64_in _ (by omega)
      have e2 : ((k : Int) - 1).toNat = k - 1 := by omega
      go_wp2
      go_quiet ((go_at_call 58; exact quiet_left (CL.out _)))
      clear e1 e2
      go_wp2
      go_roundw
      case rel => exact ⟨k + 1, by omega, by omega, by go_num, HR.out.drewN _⟩
      case measure => simp [intOf]; omega
    · have : k = b := by omega
      subst this
      have g1 : decide (k < k) = false := by simp
      go_wp2
      go_quiet (fail)
      go_wp2
      go_ret
      exact ⟨rfl, HR.out.drewN _⟩
set_option maxRecDepth 100000 in
set_option maxHeartbeats 2000000 in
theorem pdq_asc (w0 w : World) (g : Nat) (sp : List Value) (d : Array Nat) (cap : Nat) (l : Nat) (hl : 0 < l) (hl2 : l ≤ 64) (hs : d.size ≤ cap) (hc : d.size < 50) (hasc : Rises d) (h : SRow w0 w g sp d) :
    Calls Try.prog 49 #[.slice (some ⟨g, 0, none⟩) d.size cap, .int .i64 0, .int .i64 (d.size : Int), .int .i64 (l : Int)] w (SPost w0 g sp d) := by
  by_cases h12 : d.size ≤ 12
  · have c := insSort_any w0 w g sp d cap 0 d.size (Nat.le_refl _) hs (by omega) (by omega) h
    unfold Sort.insertionSort at c
    rw [insOuter_asc hasc 0 d.size (Nat.le_refl _) _ _ (Nat.le_refl _)] at c
    have C := Lib.hid c; clear c h hasc
    have HP : Hid (∀ e w', SPost w0 g sp d e w' → e = .returned (.tuple #[]) ∧ SPost w0 g sp d (.returned (.tuple #[])) w') := fun e w' h => ⟨h.1, rfl, h.2⟩
    generalize d.size = n at *
    go_enter Try.func49, Try.ntmps49
    go_wp2
    refine wp_loop_rounds 1 ?_
    rw [rounds_succ]
    go_wp2_with (go_at_call 52; refine C.out.mono ?_; rintro e w' h'; obtain ⟨rfl, h2⟩ := HP.out e w' h'; have H2 := Lib.hid h2; clear h2 h')
    exact bodyPost_ret (results_none rfl _ _ _) rfl H2.out
  · have cp := choosePivot_any w0 w g sp d cap 0 d.size (by omega) (Nat.le_refl _) hs (by omega) h
    have hh := choosePivot_asc hasc 0 d.size (by omega) (Nat.le_refl _) (by omega)
    generalize Sort.choosePivot ltN d 0 d.size = r at cp hh
    obtain ⟨p, q⟩ := r
    have hq : q = .increasing := hh
    subst hq
    have ci := fun w' (hw : SRow w0 w' g sp d) => partialIns_asc w0 w' g sp d cap 0 d.size (by omega) (Nat.le_refl _) hs (by omega) hasc hw
    have C := Lib.hid cp; have CI := Lib.hid ci
    clear cp ci h hasc hh
    have hn : 12 < d.size := by omega
    generalize d.size = n at *
    go_enter Try.func49, Try.ntmps49
    go_wp2
    refine wp_loop_rounds 1 ?_
    rw [rounds_succ]
    go_wp2_with (first
      | (go_at_call 55; refine C.out.mono ?_; rintro e w1 ⟨rfl, h1⟩; have H1 := Lib.hid h1; clear h1)
      | (go_at_call 57; refine (CI.out _ H1.out).mono ?_; rintro e w2 ⟨rfl, h2⟩; have H2 := Lib.hid h2; clear h2))
    exact bodyPost_ret (results_none rfl _ _ _) rfl ⟨rfl, H2.out⟩
theorem bitLen_bd (n : Nat) (h0 : 0 < n) (h : n < 50) : 0 < Lib.bitLen n ∧ Lib.bitLen n ≤ 64 := by
  have : ∀ k : Fin 50, 0 < k.val → 0 < Lib.bitLen k.val ∧ Lib.bitLen k.val ≤ 64 := by decide
  exact this ⟨n, h⟩ h0
theorem sort_asc (w0 w : World) (g : Nat) (sp : List Value) (d : Array Nat) (cap : Nat) (hp : 0 < d.size) (hs : d.size ≤ cap) (hc : d.size < 50) (hasc : Rises d) (h : SRow w0 w g sp d) :
    Calls Try.prog 40 #[.slice (some ⟨g, 0, none⟩) d.size cap] w (SPost w0 g sp d) := by
  have cl := fun w => len_any d.size (by omega) w
  have hb := bitLen_bd d.size hp hc
  have C := Lib.hid (pdq_asc w0 w g sp d cap (Lib.bitLen d.size) hb.1 hb.2 hs hc hasc h)
  have CLN := Lib.hid cl
  clear h hasc hb cl
  have HP : Hid (∀ e w', SPost w0 g sp d e w' → e = .returned (.tuple #[]) ∧ SPost w0 g sp d (.returned (.tuple #[])) w') := fun e w' h => ⟨h.1, rfl, h.2⟩
  generalize Lib.bitLen d.size = k at *
  generalize d.size = n at *
  go_enter Try.func40, Try.ntmps40
  go_wp2_with (first
    | (go_at_call 50; refine (CLN.out _).mono ?_; rintro e w' ⟨rfl, rfl⟩)
    | (go_at_call 49; refine C.out.mono ?_; rintro e w' h'; obtain ⟨rfl, h2⟩ := HP.out e w' h'; have H2 := Lib.hid h2; clear h2 h'))
  go_end0
  exact H2.out
end Go.Proofs.Ytmbkagjdhpfngaa
