/-
  Layer 12: awake; calls on nil; the law RingNone, walked.
-/
import Derived.Test.YtdihlmhipkcedaaGNew
namespace Go.Proofs.Ytdihlmhipkcedaa
open Go Go.RowKit Go.Maps
set_option linter.unusedVariables false
set_option linter.unusedSimpArgs false
set_option maxRecDepth 100000
section
variable {B : Nat} {w0 w w' : World} {p : RPar} {s : RSt} {T : Nat → Prop} {V : Value}
theorem Ok.turn (h : Ok p s) {f : Nat} (h1 : f < p.mx) (h2 : f % 8 = 0) : Ok p ⟨s.m, f, s.rs⟩ := ⟨h.m64, h.mle, h.dv, h1, h2, h.sum, h.recs, h.nums, h.held, h.made⟩
theorem Ok.bare (h : Ok p s) {f : Nat} (h1 : f < p.mx) (h2 : f % 8 = 0) : Ok p ⟨s.m, f, []⟩ := ⟨h.m64, h.mle, h.dv, h1, h2, Nat.zero_le _, (fun r hr => by cases hr), List.nodup_nil, (fun r hr => by cases hr), h.made⟩
theorem GB.after {s' : RSt} (h : GB B w0 p s T w) (hr : RS p s' T w') (ho : Ok p s') (k : Keeps (fun b => b = p.x ∨ w.heap.size ≤ b) w w') : GB B w0 p s' T w' :=
  ⟨hr, ho, h.base, h.below.trans (k.below (fun b hb => by
    rcases hb with rfl | hb
    · exact h.base _ (.inr (.inl rfl))
    · exact Nat.le_trans h.sz hb) h.sz), Nat.le_trans h.sz k.size⟩
/-- The oldest one is held: nothing is told. -/
theorem GB.drained_held (h : GB B w0 p s T w) (hd : Drained p s T w V w') {r : Rec} {q : List Rec} (hr : s.rs = r :: q) (hs : r.state = 0) : (∃ A c, V = .slice A 0 c) ∧ Keeps (fun b => b = p.x ∨ w.heap.size ≤ b) w w' ∧ ∃ f, GB B w0 p ⟨s.m, f, s.rs⟩ T w' := by
  obtain ⟨done, rest, f, e, h1, h2, h3, h4, h5, h6, h7⟩ := hd
  rcases done with _ | ⟨a, done⟩
  · rw [List.nil_append] at e
    subst e
    refine ⟨?_, h7, f, h.after h5 (h.ok.turn h3 h4) h7⟩
    exact strs_shape h6
  · rw [hr] at e
    injection e with e1 e2
    subst e1
    exact absurd hs (h1 r (by simp))
/-- None is held: all that was submitted is told. -/
theorem GB.drained_all (h : GB B w0 p s T w) (hd : Drained p s T w V w') (ha : ∀ r, r ∈ s.rs → r.state ≠ 0) : Strs w' w.heap.size V (told s.rs) ∧ Keeps (fun b => b = p.x ∨ w.heap.size ≤ b) w w' ∧ ∃ f, GB B w0 p ⟨s.m, f, []⟩ T w' := by
  obtain ⟨done, rest, f, e, h1, h2, h3, h4, h5, h6, h7⟩ := hd
  rcases rest with _ | ⟨r, q⟩
  · rw [List.append_nil] at e
    subst e
    exact ⟨h6, h7, f, h.after h5 (h.ok.bare h3 h4) h7⟩
  · exact absurd (h2 r q rfl) (ha r (by rw [e]; simp))
/-- What a call that leads to s' leaves. -/
def To (B : Nat) (w0 : World) (p : RPar) (T : Nat → Prop) (w : World) (s' : RSt) (w' : World) : Prop := ∃ T', GB B w0 p s' T' w' ∧ Keeps (ownB p T) w w' ∧ ∀ b, ownB p T' b → ownB p T b ∨ w.heap.size ≤ b
theorem GB.reserve (h : GB B w0 p s T w) (hf : s.m.fail ≠ 1) (hm : s.m.made < 4095) (n : Nat) (h1 : 1 ≤ n) (h2 : n ≤ p.mx / 2) (hn : sumU s.rs + uses n ≤ p.mx) :
    Calls Try.prog 13 #[rp p.x, .int .i64 n] w fun e w' => e = .returned (.tuple #[.int .u64 (addr (s.m.made + 1) 0), .int .i64 0]) ∧ To B w0 p T w (s.reserved n) w' :=
  (reserve_ok h.ring h.ok hf hm n h1 h2 hn).mono fun _ _ hh => ⟨hh.1, h.step hh.2 (h.ok.reserved n h1 h2 hn hm)⟩
theorem GB.output (h : GB B w0 p s T w) (hf : s.m.fail ≠ 1) (hm : s.m.made < 4095) (l : List UInt8) (h1 : 1 ≤ l.length) (h2 : l.length ≤ p.mx / 2) (hn : sumU s.rs + uses l.length ≤ p.mx) :
    Calls Try.prog 8 #[rp p.x, .string (bstr l)] w fun e w' => e = .returned (.int .i64 0) ∧ To B w0 p T w (s.put l) w' :=
  (output_ok h.ring h.ok hf hm l h1 h2 hn).mono fun _ _ hh => ⟨hh.1, h.step hh.2 (h.ok.put l h1 h2 hn hm).1⟩
theorem GB.full (h : GB B w0 p s T w) (v : ByteArray) (h1 : 1 ≤ v.size) (h2 : v.size ≤ p.mx / 2) (hf : p.mx < sumU s.rs + uses v.size) :
    Calls Try.prog 8 #[rp p.x, .string v] w fun e w' => e = .returned (.int .i64 3) ∧ GB B w0 p s T w' ∧ Keeps (fun _ => False) w w' :=
  (output_full h.map h.ok.mle v h1 h2 h.ok.sum hf).mono fun _ w' hh => by
    obtain ⟨rfl, m, rfl⟩ := hh
    exact ⟨rfl, h.quiet (below_drewN w m), keeps_grow (below_drewN w m)⟩
theorem GB.badArg (h : GB B w0 p s T w) (v : ByteArray) (hz : v.size < 1 ∨ p.mx / 2 < v.size) :
    Calls Try.prog 8 #[rp p.x, .string v] w fun e w' => e = .returned (.int .i64 1) ∧ GB B w0 p s T w' ∧ Keeps (fun _ => False) w w' :=
  (output_arg h.map h.ok.mle v hz).mono fun _ w' hh => by
    obtain ⟨rfl, m, rfl⟩ := hh
    exact ⟨rfl, h.quiet (below_drewN w m), keeps_grow (below_drewN w m)⟩
theorem GB.poke (h : GB B w0 p s T w) {n : Nat} {b l : List UInt8} (hn : 1 ≤ n ∧ n ≤ s.m.made) (hb : s.m.vs n = some (3, b, false)) (hl : l.length ≤ b.length) (hbl : b.length ≤ 65536) :
    Calls Try.prog 14 #[.pointer (some ⟨p.bm, 0, none⟩), .int .u64 (addr n 0), .string (bstr l)] w fun e w' => e = .returned (.int .i64 0) ∧ To B w0 p T w (s.poked n (setAt b 0 l)) w' :=
  (poke_any h.ring h.ok hn hb hl hbl).mono fun _ _ hh => ⟨hh.1, h.step hh.2 (h.ok.poked hb (setAt_length _ _ _ (by omega)))⟩
theorem GB.submit (h : GB B w0 p s T w) {pre post : List Rec} {r : Rec} {b : List UInt8} (hh : Here p s pre r post b) :
    Calls Try.prog 15 #[rp p.x, .int .u64 (addr r.n 0)] w fun e w' => e = .returned (.int .i64 0) ∧ To B w0 p T w (s.ended pre r post 1 b b) w' :=
  (submit_ok h.ring h.ok hh).mono fun _ _ k => ⟨k.1, h.step k.2 (hh.okEnded h.ok 1 (by decide) (by decide) b)⟩
theorem GB.discard (h : GB B w0 p s T w) {pre post : List Rec} {r : Rec} {b : List UInt8} (hh : Here p s pre r post b) :
    Calls Try.prog 16 #[rp p.x, .int .u64 (addr r.n 0)] w fun e w' => e = .returned (.int .i64 0) ∧ To B w0 p T w (s.ended pre r post 2 [] b) w' :=
  (discard_ok h.ring h.ok hh).mono fun _ _ k => ⟨k.1, h.step k.2 (hh.okEnded h.ok 2 (by decide) (by decide) [])⟩
end
/-! ### the example -/
abbrev l9 : List UInt8 := [49, 50, 51, 52, 53, 54, 55, 56, 57]
abbrev r20 : Rec := ⟨1, 20, 0, []⟩
abbrev b20 : List UInt8 := setAt (List.replicate 20 0) 0 [120]
abbrev A0 : RSt := ⟨⟨0, 0, fun _ => none⟩, 0, []⟩
abbrev A1 : RSt := A0.reserved 20
abbrev A2 : RSt := A1.put l9
/-- .. with another first place. -/
abbrev A3 (f : Nat) : RSt := ⟨A2.m, f, A2.rs⟩
abbrev A4 (f : Nat) : RSt := (A3 f).poked 1 b20
abbrev A5 (f : Nat) : RSt := (A4 f).ended [] r20 [⟨2, 9, 1, l9⟩] 1 b20 b20
theorem a_here (p : RPar) (f : Nat) : Here p (A4 f) [] r20 [⟨2, 9, 1, l9⟩] b20 := ⟨rfl, rfl, rfl, by decide⟩
theorem a_told (f : Nat) : told (A5 f).rs = [bstr b20, bstr l9] := rfl
theorem a_vs (f : Nat) : (A3 f).m.vs 1 = some (3, List.replicate 20 0, false) := rfl
section
variable {B : Nat} {w0 w3 : World} {p : RPar} {T : Nat → Prop} (hm : p.mx = 64)
include hm
theorem a_reserve (h : GB B w0 p A0 T w3) : Calls Try.prog 13 #[rp p.x, .int .i64 20] w3 fun e w' => e = .returned (.tuple #[.int .u64 (addr 1 0), .int .i64 0]) ∧ To B w0 p T w3 A1 w' :=
  h.reserve (by decide) (by decide) 20 (by decide) (by rw [hm]; decide) (by rw [hm]; decide)
theorem a_output (h : GB B w0 p A1 T w3) : Calls Try.prog 8 #[rp p.x, .string ⟨#[49, 50, 51, 52, 53, 54, 55, 56, 57]⟩] w3 fun e w' => e = .returned (.int .i64 0) ∧ To B w0 p T w3 A2 w' :=
  h.output (by decide) (by decide) l9 (by decide) (by rw [hm]; decide) (by rw [hm]; decide)
theorem a_full (h : GB B w0 p A2 T w3) : Calls Try.prog 8 #[rp p.x, .string ⟨#[49]⟩] w3 fun e w' => e = .returned (.int .i64 3) ∧ GB B w0 p A2 T w' ∧ Keeps (fun _ => False) w3 w' :=
  h.full ⟨#[49]⟩ (by decide) (by rw [hm]; decide) (by rw [hm]; decide)
omit hm in
theorem a_drain1 (h : GB B w0 p A2 T w3) : Calls Try.prog 11 #[rp p.x] w3 fun e w' => ∃ A c f, e = .returned (.slice A 0 c) ∧ GB B w0 p (A3 f) T w' := by
  refine (drain_any h.ring h.ok).mono ?_
  rintro e w' ⟨V, rfl, hd⟩
  obtain ⟨⟨A, c, rfl⟩, _, f, hg⟩ := h.drained_held hd (r := r20) (q := [⟨2, 9, 1, l9⟩]) rfl rfl
  exact ⟨A, c, f, rfl, hg⟩
omit hm in
theorem a_put (f : Nat) (h : GB B w0 p (A3 f) T w3) : Calls Try.prog 14 #[.pointer (some ⟨p.bm, 0, none⟩), .int .u64 (addr 1 0), .string ⟨#[120]⟩] w3 fun e w' => e = .returned (.int .i64 0) ∧ To B w0 p T w3 (A4 f) w' := by
  have hn : 1 ≤ 1 ∧ 1 ≤ (A3 f).m.made := ⟨Nat.le_refl _, by show 1 ≤ 2; decide⟩
  have e := GB.poke (n := 1) (b := List.replicate 20 0) (l := [120]) h hn (a_vs f) (by rw [List.length_replicate]; decide) (by rw [List.length_replicate]; decide)
  exact e
omit hm in
theorem a_submit (f : Nat) (h : GB B w0 p (A4 f) T w3) : Calls Try.prog 15 #[rp p.x, .int .u64 (addr 1 0)] w3 fun e w' => e = .returned (.int .i64 0) ∧ To B w0 p T w3 (A5 f) w' := by
  have e := GB.submit h (a_here _ f)
  exact e
omit hm in
theorem a_drain2 (f : Nat) (h : GB B w0 p (A5 f) T w3) : Calls Try.prog 11 #[rp p.x] w3 fun e w' => ∃ h c f', e = .returned (.slice (some ⟨h, 0, none⟩) 2 c) ∧ 2 ≤ c ∧ w'.cell? ⟨h, 0, none⟩ = some (.string (bstr b20)) ∧ w'.cell? ⟨h, 1, none⟩ = some (.string (bstr l9)) ∧ GB B w0 p ⟨(A5 f).m, f', []⟩ T w' := by
  refine (drain_any h.ring h.ok).mono ?_
  rintro e w' ⟨V, rfl, hd⟩
  have ha : ∀ r, r ∈ (A5 f).rs → r.state ≠ 0 := fun r hr => by
    have hr : r ∈ ([{ r20 with state := 1, text := b20 }, ⟨2, 9, 1, l9⟩] : List Rec) := hr
    rcases List.mem_cons.1 hr with rfl | hr
    · exact Nat.one_ne_zero
    · rcases List.mem_cons.1 hr with rfl | hr
      · exact Nat.one_ne_zero
      · cases hr
  obtain ⟨hs, _, f', hg⟩ := h.drained_all hd ha
  rw [a_told] at hs
  generalize hb1 : bstr b20 = s1 at *
  generalize hb2 : bstr l9 = s2 at *
  rcases strs_form hs with ⟨_, h0⟩ | ⟨g', c, hV, _, h2, _, _, h3⟩
  · cases h0
  · exact ⟨g', c, f', by rw [hV]; rfl, h2, h3 0 _ rfl, h3 1 _ rfl, hg⟩
omit hm in
theorem a_used (m : PS) (f : Nat) (h : GB B w0 p ⟨m, f, []⟩ T w3) : Calls Try.prog 9 #[rp p.x] w3 fun e w' => e = .returned (.int .i64 0) ∧ w' = w3 := used_any h.map
omit hm in
theorem a_again (m : PS) (f : Nat) (h : GB B w0 p ⟨m, f, []⟩ T w3) : Calls Try.prog 15 #[rp p.x, .int .u64 (addr 1 0)] w3 fun e w' => e = .returned (.int .i64 1) ∧ w3 = w' := submit_no h.ring (n := 1) (by decide) (fun y hy => by cases hy)
end
set_option maxHeartbeats 2000000 in
theorem awake_any (w : World) : Calls Try.prog 12 #[] w fun e w' => e = .returned (.bool true) ∧ Below w.heap.size w w' := by
  have C0 := Lib.hid (new_any w)
  have CN := Lib.hid (gb_new w 64 (.inl rfl))
  have hsz : ((bstr b20).size : Int) = 20 := by rw [bstr_size]; decide
  go_enter Try.func12, Try.ntmps12
  go_upto_region 5 with (first
    | (go_at_call 6; refine C0.out.mono ?_; rintro e w1 ⟨rfl, rfl⟩)
    | (go_at_call 7; refine CN.out.mono ?_; rintro e w2 ⟨x, g, mb, rfl, hf⟩; have F := Lib.hid hf; clear hf))
  clear C0 CN
  generalize hp : (⟨w.heap.size, x, g, mb, 64⟩ : RPar) = p at F
  have hm : p.mx = 64 := by rw [← hp]
  have hx : x = p.x := by rw [← hp]
  have hbm : p.bm = w.heap.size := by rw [← hp]
  have HM := Lib.hid hm
  have HBM := Lib.hid hbm
  clear hm hp hbm
  subst hx
  go_upto_region 6 with (go_at_call 13; refine (a_reserve HM.out F.out).mono ?_; rintro e w3 ⟨rfl, T1, g1, _, _⟩; have G1 := Lib.hid g1; clear g1)
  go_upto_region 7 with (first
    | (go_at_call 8; refine (a_full HM.out G2.out).mono ?_; rintro e w5 ⟨rfl, g3, _⟩; have G3 := Lib.hid g3; clear g3)
    | (go_at_call 8; refine (a_output HM.out G1.out).mono ?_; rintro e w4 ⟨rfl, T2, g2, _, _⟩; have G2 := Lib.hid g2; clear g2))
  go_upto_region 8 with (go_at_call 11; refine (a_drain1 G3.out).mono ?_; rintro e w6 ⟨A, c, f, rfl, g4⟩; have G4 := Lib.hid g4; clear g4)
  have cp := a_put f G4.out
  rw [HBM.out] at cp
  have CP := Lib.hid cp
  clear cp
  go_upto_region 9 with (go_at_call 14; refine CP.out.mono ?_; rintro e w7 ⟨rfl, T3, g5, _, _⟩; have G5 := Lib.hid g5; clear g5)
  go_upto_region 10 with (go_at_call 15; refine (a_submit f G5.out).mono ?_; rintro e w8 ⟨rfl, T4, g6, _, _⟩; have G6 := Lib.hid g6; clear g6)
  go_upto_region 11 with (go_at_call 11; refine (a_drain2 f G6.out).mono ?_; rintro e w9 ⟨h, c2, f2, rfl, hc2, k0, k1, g7⟩; have G7 := Lib.hid g7; clear g7)
  clear G1 G2 G3 G4 G5 G6 CP
  have eb : bstr b20 = ⟨#[120, 0, 0, 0, 0, 0, 0, 0, 0, 0, 0, 0, 0, 0, 0, 0, 0, 0, 0, 0]⟩ := rfl
  have el : bstr l9 = ⟨#[49, 50, 51, 52, 53, 54, 55, 56, 57]⟩ := rfl
  rw [eb] at k0
  rw [el] at k1
  clear hsz eb el
  have BE := Lib.hid G7.out.below
  go_wp2_with (first
    | (go_at_call 9; refine (a_used _ f2 G7.out).mono ?_; rintro e w10 ⟨rfl, hw⟩; obtain rfl := hw.symm)
    | (go_at_call 15; refine (a_again _ f2 G7.out).mono ?_; rintro e w11 ⟨rfl, rfl⟩))
  go_ret
  exact ⟨rfl, BE.out⟩
end Go.Proofs.Ytdihlmhipkcedaa
