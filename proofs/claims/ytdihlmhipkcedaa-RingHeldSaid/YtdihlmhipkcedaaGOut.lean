/-
  Package ring: Output; a held record's bytes are written.
-/
import Derived.Test.YtdihlmhipkcedaaGSubmit
namespace Go.Proofs.Ytdihlmhipkcedaa
open Go Go.RowKit Go.Maps
set_option linter.unusedVariables false
set_option linter.unusedSimpArgs false
set_option maxRecDepth 100000
/-- Region n's bytes are b' from now on. -/
def RSt.poked (s : RSt) (n : Nat) (b' : List UInt8) : RSt := { s with m := s.m.set n (some (3, b', false)) }
/-- A record of l is put out. -/
def RSt.put (s : RSt) (l : List UInt8) : RSt := ⟨((s.m.grown l.length).set (s.m.made + 1) (some (3, l, false))).set (s.m.made + 1) (some (3, l, true)), s.first, s.rs ++ [⟨s.m.made + 1, l.length, 1, l⟩]⟩
section
variable {p : RPar} {s : RSt} {T : Nat → Prop} {w : World}
theorem Ok.poked (h : Ok p s) {n : Nat} {b b' : List UInt8} (hb : s.m.vs n = some (3, b, false)) (hl : b'.length = b.length) : Ok p (s.poked n b') where
  m64 := h.m64
  mle := h.mle
  dv := h.dv
  first := h.first
  f8 := h.f8
  sum := h.sum
  recs := h.recs
  nums := h.nums
  held r hr hs := by
    obtain ⟨c, hc, hcl⟩ := h.held r hr hs
    show ∃ b, updv s.m.vs n _ r.n = some (3, b, false) ∧ _
    by_cases e : r.n = n
    · rw [e, updv_same]
      rw [e, hb] at hc
      injection hc with hc
      injection hc with _ hc
      injection hc with hc _
      exact ⟨b', rfl, by rw [hl, hc]; exact hcl⟩
    · rw [updv_other _ _ e]
      exact ⟨c, hc, hcl⟩
  made := h.made
theorem put_whole {b l : List UInt8} (h : b.length = l.length) : setAt b 0 l = l := by
  unfold setAt
  rw [List.take_zero, List.nil_append, List.drop_of_length_le (by omega), List.append_nil]
theorem poke_any (h : RS p s T w) (ho : Ok p s) {n : Nat} {b l : List UInt8} (hn : 1 ≤ n ∧ n ≤ s.m.made) (hb : s.m.vs n = some (3, b, false)) (hl : l.length ≤ b.length) (hbl : b.length ≤ 65536) :
    Calls Try.prog 14 #[.pointer (some ⟨p.bm, 0, none⟩), .int .u64 (addr n 0), .string (bstr l)] w fun e w' => e = .returned (.int .i64 0) ∧ Step p T w (s.poked n (setAt b 0 l)) w' := by
  obtain ⟨bs, N, D, hr⟩ := h
  have hmd := ho.made
  refine (hr.call (k_put p.bm s.m n (by omega) _ hb l (by omega) hl) (Nat.le_refl _)).mono ?_
  rintro e w' ⟨rfl, h', k'⟩
  exact ⟨rfl, _, ⟨bs, N, D, h'⟩, k'.mono fun b hb => .inl hb, fun b hb => hb.imp id fun h => h.1⟩
theorem Ok.put (h : Ok p s) (l : List UInt8) (h1 : 1 ≤ l.length) (h2 : l.length ≤ p.mx / 2) (hn : sumU s.rs + uses l.length ≤ p.mx) (hm : s.m.made < 4095) : Ok p (s.put l) ∧ Ok p ((s.reserved l.length).poked (s.m.made + 1) l) ∧ Here p ((s.reserved l.length).poked (s.m.made + 1) l) s.rs ⟨s.m.made + 1, l.length, 0, []⟩ [] l := by
  have h3 := h.reserved l.length h1 h2 hn hm
  have hv : (s.reserved l.length).m.vs (s.m.made + 1) = some (3, List.replicate l.length 0, false) := updv_same _ _ _
  have h4 := h3.poked (b' := l) hv (by simp)
  have hh : Here p ((s.reserved l.length).poked (s.m.made + 1) l) s.rs ⟨s.m.made + 1, l.length, 0, []⟩ [] l := ⟨rfl, rfl, updv_same _ _ _, rfl⟩
  exact ⟨hh.okEnded h4 1 (by decide) (by decide) l, h4, hh⟩
theorem output_nil (v : ByteArray) (w : World) : Calls Try.prog 8 #[.pointer none, .string v] w fun e w' => e = .returned (.int .i64 1) ∧ w = w' := by
  have CG := Lib.hid reserve_nil
  go_enter Try.func8, Try.ntmps8
  go_wp2_with (go_at_call 13; refine (CG.out _ _).mono ?_; rintro e w1 ⟨rfl, rfl⟩)
  go_ret
  exact ⟨rfl, rfl⟩
theorem output_arg {f u : Nat} (h : Blk w p.x mapT (liveC p f u)) (hm : p.mx ≤ 65536) (v : ByteArray) (hz : v.size < 1 ∨ p.mx / 2 < v.size) : Calls Try.prog 8 #[rp p.x, .string v] w fun e w' => e = .returned (.int .i64 1) ∧ ∃ m, w' = w.drewN m := by
  have CG := Lib.hid (reserve_arg h hm (v.size : Int) (by omega))
  clear h hm hz
  go_enter Try.func8, Try.ntmps8
  go_wp2_with (go_at_call 13; refine CG.out.mono ?_; rintro e w1 ⟨rfl, rfl⟩)
  go_ret
  exact ⟨rfl, 0, rfl⟩
theorem output_full {f u : Nat} (h : Blk w p.x mapT (liveC p f u)) (hm : p.mx ≤ 65536) (v : ByteArray) (h1 : 1 ≤ v.size) (h2 : v.size ≤ p.mx / 2) (hu : u ≤ p.mx) (hf : p.mx < u + uses v.size) : Calls Try.prog 8 #[rp p.x, .string v] w fun e w' => e = .returned (.int .i64 3) ∧ ∃ m, w' = w.drewN m := by
  have CG := Lib.hid (reserve_full h hm v.size h1 h2 hu hf)
  clear h hm h1 h2 hu hf
  go_enter Try.func8, Try.ntmps8
  go_wp2_with (go_at_call 13; refine CG.out.mono ?_; rintro e w1 ⟨rfl, m, rfl⟩)
  go_ret
  exact ⟨rfl, _, rfl⟩
set_option maxHeartbeats 1000000 in
theorem output_ok (h : RS p s T w) (ho : Ok p s) (hf : s.m.fail ≠ 1) (hm : s.m.made < 4095) (l : List UInt8) (h1 : 1 ≤ l.length) (h2 : l.length ≤ p.mx / 2) (hn : sumU s.rs + uses l.length ≤ p.mx) :
    Calls Try.prog 8 #[rp p.x, .string (bstr l)] w fun e w' => e = .returned (.int .i64 0) ∧ Step p T w (s.put l) w' := by
  have hmle := ho.mle
  obtain ⟨o1, o2, hh⟩ := ho.put l h1 h2 hn hm
  have o3 := ho.reserved l.length h1 h2 hn hm
  have hv : (s.reserved l.length).m.vs (s.m.made + 1) = some (3, List.replicate l.length 0, false) := updv_same _ _ _
  have CR := Lib.hid (reserve_ok h ho hf hm l.length h1 h2 hn)
  have CP := Lib.hid (fun (w1 : World) (T1 : Nat → Prop) (g1 : RS p (s.reserved l.length) T1 w1) => poke_any (n := s.m.made + 1) (l := l) g1 o3 ⟨by omega, Nat.le_refl _⟩ hv (by simp) (by simp; omega))
  rw [put_whole (by simp)] at CP
  have CS := Lib.hid (fun (w1 : World) (T1 : Nat → Prop) (g1 : RS p ((s.reserved l.length).poked (s.m.made + 1) l) T1 w1) => submit_ok g1 o2 hh)
  have hsz : ((bstr l).size : Int) = (l.length : Int) := by rw [bstr_size]
  have c0 : Hid (∀ T1 w1, RS p (s.reserved l.length) T1 w1 → w1.cell? ⟨p.x, 0, none⟩ = some (.pointer (some ⟨p.bm, 0, none⟩))) := by
    rintro T1 w1 ⟨bs, N, D, g⟩
    exact g.map.cell 0
  have LT : Hid (∀ s1 T1 w1, RS p s1 T1 w1 → ∀ b, T1 b → b < w1.heap.size) := by
    rintro s1 T1 w1 ⟨bs, N, D, g⟩ b hb
    exact g.lt b (.inl hb)
  have e : ((s.reserved l.length).poked (s.m.made + 1) l).ended s.rs ⟨s.m.made + 1, l.length, 0, []⟩ [] 1 l l = s.put l := rfl
  rw [e] at CS
  clear h ho hf hm h1 h2 hn o1 o2 o3 hv hh e hmle
  generalize addr (s.m.made + 1) 0 = a at *
  generalize s.put l = s3 at *
  generalize (s.reserved l.length).poked (s.m.made + 1) l = s2 at *
  generalize s.reserved l.length = s1 at *
  generalize bstr l = v at *
  go_enter Try.func8, Try.ntmps8
  go_wp2_with (first
    | (go_at_call 13; refine CR.out.mono ?_; rintro e w1 ⟨rfl, T1, g1, k1, e1⟩; have G1 := Lib.hid g1; have K1 := Lib.hid k1; have E1 := Lib.hid e1; have hc0 := c0.out _ _ g1; clear g1 k1 e1)
    | (go_at_call 14; refine (CP.out _ _ G1.out).mono ?_; rintro e w2 ⟨rfl, T2, g2, k2, e2⟩; have G2 := Lib.hid g2; have K2 := Lib.hid k2; have E2 := Lib.hid e2; clear g2 k2 e2)
    | (go_at_call 15; refine (CS.out _ _ G2.out).mono ?_; rintro e w3 ⟨rfl, hs⟩; have HS := Lib.hid hs; clear hs))
  go_ret
  exact ⟨rfl, Step.join K1.out E1.out (LT.out _ _ _ G1.out) (Step.join K2.out E2.out (LT.out _ _ _ G2.out) HS.out)⟩
end
end Go.Proofs.Ytdihlmhipkcedaa
