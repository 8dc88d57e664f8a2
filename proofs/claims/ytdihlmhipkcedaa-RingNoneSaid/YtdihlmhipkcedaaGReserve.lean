/-
  Package ring: Reserve.
-/
import Derived.Test.YtdihlmhipkcedaaGState
namespace Go.Proofs.Ytdihlmhipkcedaa
open Go Go.RowKit Go.Maps
set_option linter.unusedVariables false
set_option linter.unusedSimpArgs false
set_option maxRecDepth 100000
theorem reserve_nil (z : Int) (w : World) : Calls Try.prog 13 #[.pointer none, .int .i64 z] w fun e w' => e = .returned (.tuple #[.int .u64 0, .int .i64 1]) ∧ w = w' := by
  have CG := Lib.hid gone_nil
  go_enter Try.func13, Try.ntmps13
  go_wp2_with (go_at_call 19; refine (CG.out _).mono ?_; rintro e w1 ⟨rfl, rfl⟩)
  go_ret2
  exact ⟨rfl, rfl⟩
section
variable {p : RPar} {s : RSt} {T : Nat → Prop} {w : World}
theorem half (mx : Nat) (h : mx ≤ 65536) : Int.tdiv (mx : Int) 2 = ((mx / 2 : Nat) : Int) := by rw [Int.tdiv_eq_ediv_of_nonneg (by omega)]; omega
theorem reserve_arg {f u : Nat} (h : Blk w p.x mapT (liveC p f u)) (hm : p.mx ≤ 65536) (z : Int) (hz : z < 1 ∨ ((p.mx / 2 : Nat) : Int) < z) : Calls Try.prog 13 #[rp p.x, .int .i64 z] w fun e w' => e = .returned (.tuple #[.int .u64 0, .int .i64 1]) ∧ w = w' := by
  have CG := Lib.hid (gone_no h)
  have c1 : w.cell? ⟨p.x, 1, none⟩ = some (rowV p.g p.mx) := h.cell 1
  have e1 := half p.mx hm
  have e2 : wrap64 ((p.mx / 2 : Nat) : Int) = ((p.mx / 2 : Nat) : Int) := by unfold wrap64; omega
  clear h
  by_cases h1 : z < 1
  · have b1 : decide (z < 1) = true := by simpa using h1
    clear hz
    go_enter Try.func13, Try.ntmps13
    go_wp2_with (go_at_call 19; refine CG.out.mono ?_; rintro e w1 ⟨rfl, rfl⟩)
    go_ret2
    exact ⟨rfl, rfl⟩
  · have b1 : decide (z < 1) = false := by simpa using h1
    have b2 : decide (((p.mx / 2 : Nat) : Int) < z) = true := by simp; omega
    generalize p.mx / 2 = hf at *
    clear hz h1
    go_enter Try.func13, Try.ntmps13
    go_wp2_with (go_at_call 19; refine CG.out.mono ?_; rintro e w1 ⟨rfl, rfl⟩)
    go_ret2
    exact ⟨rfl, rfl⟩
theorem reserve_full {f u : Nat} (h : Blk w p.x mapT (liveC p f u)) (hm : p.mx ≤ 65536) (n : Nat) (h1 : 1 ≤ n) (h2 : n ≤ p.mx / 2) (hu : u ≤ p.mx) (hf : p.mx < u + uses n) : Calls Try.prog 13 #[rp p.x, .int .i64 n] w fun e w' => e = .returned (.tuple #[.int .u64 0, .int .i64 3]) ∧ ∃ m, w' = w.drewN m := by
  have CG := Lib.hid (gone_no h)
  have CU := Lib.hid (fun w => uses_any n (by omega) w)
  have c1 : w.cell? ⟨p.x, 1, none⟩ = some (rowV p.g p.mx) := h.cell 1
  have c3 : w.cell? ⟨p.x, 3, none⟩ = some (.int .i64 u) := h.cell 3
  have e1 := half p.mx hm
  have e2 : wrap64 ((p.mx / 2 : Nat) : Int) = ((p.mx / 2 : Nat) : Int) := by unfold wrap64; omega
  have b1 : decide ((n : Int) < 1) = false := by simp; omega
  have b2 : decide (((p.mx / 2 : Nat) : Int) < (n : Int)) = false := by simp; omega
  have b3 : decide ((p.mx : Int) < (u : Int) + (uses n : Nat)) = true := by simp; omega
  have hun : uses n ≤ 65536 + 16 := by unfold uses; omega
  clear h
  generalize uses n = un at *
  generalize p.mx / 2 = hh at *
  go_enter Try.func13, Try.ntmps13
  go_upto_region 3 with (go_at_call 19; refine CG.out.mono ?_; rintro e w1 ⟨rfl, rfl⟩)
  go_quiet ((go_at_call 23; exact Calls.quiet_of_same (CU.out _)))
  go_wp2_with fail
  go_ret2
  exact ⟨rfl, _, rfl⟩
end
/-! ### where there is room, plainly -/
theorem hp_snoc {mx n : Nat} {r : Rec} (h : r.n ≠ n) : ∀ (l : List Rec) (a : Nat), hp mx a (l ++ [r]) n = hp mx a l n
  | [], a => by
    show (if r.state = 0 ∧ r.n = n then some (a % mx) else none) = none
    rw [if_neg (fun e => h e.2)]
  | y :: l, a => by
    show (if y.state = 0 ∧ y.n = n then some (a % mx) else hp mx (a + uses y.size) (l ++ [r]) n) = (if y.state = 0 ∧ y.n = n then some (a % mx) else hp mx (a + uses y.size) l n)
    rw [hp_snoc h l]
def RSt.reserved (s : RSt) (n : Nat) : RSt := ⟨s.m.grown n, s.first, s.rs ++ [⟨s.m.made + 1, n, 0, []⟩]⟩
/-- Where the next record begins. -/
def RSt.next (s : RSt) (mx : Nat) : Nat := (s.first + sumU s.rs) % mx
section
variable {p : RPar} {s : RSt}
theorem Ok.place (h : Ok p s) (k : Nat) (hk : k % 8 = 0) : (s.first + k) % p.mx + 8 ≤ p.mx := by
  have h1 : (s.first + k) % p.mx < p.mx := Nat.mod_lt _ (by have := h.m64; omega)
  have h2 : ((s.first + k) % p.mx) % 8 = (s.first + k) % 8 := Nat.mod_mod_of_dvd _ (Nat.dvd_of_mod_eq_zero h.dv)
  have := h.f8; have := h.dv
  omega
theorem Ok.next8 (h : Ok p s) : s.next p.mx + 8 ≤ p.mx := h.place _ (sumU_dvd _)
theorem lies_reserve (h : Ok p s) {bs : List UInt8} (hl : bs.length = p.mx) (hL : Lies bs s.first s.rs) (n : Nat) (hn : sumU s.rs + uses n ≤ p.mx) : Lies (setAt bs (s.next p.mx) (hb n 0)) s.first (s.rs ++ [⟨s.m.made + 1, n, 0, []⟩]) := by
  have hp8 := h.next8
  unfold RSt.next at hp8 ⊢
  have hw : Wrote bs (setAt bs ((s.first + sumU s.rs) % p.mx) (hb n 0)) (s.first + sumU s.rs) (hb n 0) := by
    have := wrote_set (bs := bs) (l := hb n 0) (a := s.first + sumU s.rs) (by rw [hl]; have := h.m64; omega) (by rw [hl, hb_length]; exact hp8)
    rwa [hl] at this
  have hu := uses_ge n
  rw [lies_append]
  refine ⟨lies_frame hw _ _ hL (.inr ⟨Nat.le_refl _, by rw [hb_length, hl]; omega⟩), ⟨?_, fun e => by cases e⟩, trivial⟩
  have := cyc_wrote hw
  rwa [hb_length] at this
theorem hp_reserve (h : Ok p s) (n k : Nat) : hp p.mx s.first (s.rs ++ [⟨s.m.made + 1, n, 0, []⟩]) k = if k = s.m.made + 1 then some (s.next p.mx) else hp p.mx s.first s.rs k := by
  by_cases e : k = s.m.made + 1
  · subst e
    rw [if_pos rfl, hp_append _ _ _ (fun r hr _ => by have := (h.recs r hr).2.2.2.2; omega)]
    show (if (0 : Nat) = 0 ∧ s.m.made + 1 = s.m.made + 1 then _ else _) = _
    rw [if_pos ⟨rfl, rfl⟩]; rfl
  · rw [if_neg e, hp_snoc (fun x => e x.symm)]
theorem Ok.reserved (h : Ok p s) (n : Nat) (h1 : 1 ≤ n) (h2 : n ≤ p.mx / 2) (hn : sumU s.rs + uses n ≤ p.mx) (hm : s.m.made < 4095) : Ok p (s.reserved n) where
  m64 := h.m64
  mle := h.mle
  dv := h.dv
  first := h.first
  f8 := h.f8
  sum := by show sumU (s.rs ++ [_]) ≤ _; rw [sumU_append]; simpa [sumU] using hn
  recs r hr := by
    rcases List.mem_append.1 hr with hr | hr
    · have := h.recs r hr
      exact ⟨this.1, this.2.1, this.2.2.1, this.2.2.2.1, by show r.n ≤ s.m.made + 1; omega⟩
    · obtain rfl : r = ⟨s.m.made + 1, n, 0, []⟩ := by simpa using hr
      exact ⟨h1, h2, Nat.zero_le _, by show 1 ≤ s.m.made + 1; omega, Nat.le_refl _⟩
  nums := by
    show ((s.rs ++ [(⟨s.m.made + 1, n, 0, []⟩ : Rec)]).map (·.n)).Nodup
    rw [List.map_append, List.nodup_append]
    refine ⟨h.nums, by simp, fun a ha b hb e => ?_⟩
    obtain ⟨r, hr, rfl⟩ := List.mem_map.1 ha
    have := (h.recs r hr).2.2.2.2
    have hb' : b = s.m.made + 1 := by simpa using hb
    omega
  held r hr hs := by
    rcases List.mem_append.1 hr with hr | hr
    · obtain ⟨b, hb, hl⟩ := h.held r hr hs
      refine ⟨b, ?_, hl⟩
      show updv s.m.vs (s.m.made + 1) _ r.n = _
      rw [updv_other _ _ (by have := (h.recs r hr).2.2.2.2; omega)]
      exact hb
    · obtain rfl : r = ⟨s.m.made + 1, n, 0, []⟩ := by simpa using hr
      refine ⟨List.replicate n 0, ?_, by simp⟩
      show updv s.m.vs (s.m.made + 1) _ (s.m.made + 1) = _
      rw [updv_same]
  made := by show s.m.made + 1 ≤ 4095; omega
end
end Go.Proofs.Ytdihlmhipkcedaa
