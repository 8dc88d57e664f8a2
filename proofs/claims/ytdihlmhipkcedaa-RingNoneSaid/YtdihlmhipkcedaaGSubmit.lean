/-
  Package ring: Submit, Discard.
-/
import Derived.Test.YtdihlmhipkcedaaGEnd
namespace Go.Proofs.Ytdihlmhipkcedaa
open Go Go.RowKit Go.Maps
set_option linter.unusedVariables false
set_option linter.unusedSimpArgs false
set_option maxRecDepth 100000
theorem Step.join {p : RPar} {T T1 : Nat → Prop} {w w1 w2 : World} {s2 : RSt} (k1 : Keeps (ownB p T) w w1) (e1 : ∀ b, T1 b → T b ∨ w.heap.size ≤ b) (hlt : ∀ b, T1 b → b < w1.heap.size) (h2 : Step p T1 w1 s2 w2) : Step p T w s2 w2 := by
  obtain ⟨T2, r2, k2, e2⟩ := h2
  refine ⟨T2, r2, k1.trans (k2.mono ?_), fun b hb => ?_⟩
  · rintro b (hb | hb)
    · rcases e1 b hb with h1 | h1
      · exact .inl (.inl h1)
      · exact .inr ⟨h1, hlt b hb⟩
    · exact .inl (.inr hb)
  · rcases e2 b hb with h1 | h1
    · exact e1 b h1
    · exact .inr (Nat.le_trans k1.size h1)
theorem submit_nil (a : Int) (w : World) : Calls Try.prog 15 #[.pointer none, .int .u64 a] w fun e w' => e = .returned (.int .i64 1) ∧ w = w' := by
  have CG := Lib.hid (heldAt_nil a)
  go_enter Try.func15, Try.ntmps15
  go_wp2_with (go_at_call 27; refine (CG.out _).mono ?_; rintro e w1 ⟨rfl, rfl⟩)
  go_ret
  exact ⟨rfl, rfl⟩
theorem discard_nil (a : Int) (w : World) : Calls Try.prog 16 #[.pointer none, .int .u64 a] w fun e w' => e = .returned (.int .i64 1) ∧ w = w' := by
  have CG := Lib.hid (heldAt_nil a)
  go_enter Try.func16, Try.ntmps16
  go_wp2_with (go_at_call 27; refine (CG.out _).mono ?_; rintro e w1 ⟨rfl, rfl⟩)
  go_ret
  exact ⟨rfl, rfl⟩
section
variable {p : RPar} {s : RSt} {T : Nat → Prop} {w : World} {pre post : List Rec} {r : Rec} {b : List UInt8}
theorem submit_no (h : RS p s T w) {n : Nat} (hn : n ≤ 4294967295) (hno : ∀ x, x ∈ s.rs → x.state = 0 → x.n ≠ n) : Calls Try.prog 15 #[rp p.x, .int .u64 (addr n 0)] w fun e w' => e = .returned (.int .i64 1) ∧ w = w' := by
  obtain ⟨bs, N, D, hr⟩ := h
  have CG := heldAt_any hr hn
  rw [hp_none s.rs s.first hno] at CG
  have CG := Lib.hid CG
  generalize addr n 0 = a at *
  clear hr hno
  go_enter Try.func15, Try.ntmps15
  go_wp2_with (go_at_call 27; refine CG.out.mono ?_; rintro e w1 ⟨rfl, rfl⟩)
  go_ret
  exact ⟨rfl, rfl⟩
theorem discard_ok (h : RS p s T w) (ho : Ok p s) (hh : Here p s pre r post b) : Calls Try.prog 16 #[rp p.x, .int .u64 (addr r.n 0)] w fun e w' => e = .returned (.int .i64 0) ∧ Step p T w (s.ended pre r post 2 [] b) w' := by
  obtain ⟨bs, N, D, hr⟩ := h
  have hn : r.n ≤ 4294967295 := by have := hh.size ho; have := ho.made; omega
  have CG := heldAt_any hr hn
  rw [hh.hp ho] at CG
  have CG := Lib.hid CG
  have CE := Lib.hid (end_any hr ho hh 2 (by decide) (by decide) [] (fun e => by cases e))
  generalize addr r.n 0 = a at *
  clear hr ho hh
  go_enter Try.func16, Try.ntmps16
  go_wp2_with (first
    | (go_at_call 27; refine CG.out.mono ?_; rintro e w1 ⟨rfl, rfl⟩)
    | (go_at_call 30; refine CE.out.mono ?_; rintro e w1 ⟨rfl, hs⟩; have HS := Lib.hid hs; clear hs))
  go_ret
  exact ⟨rfl, HS.out⟩
set_option maxHeartbeats 2000000 in
theorem submit_ok (h : RS p s T w) (ho : Ok p s) (hh : Here p s pre r post b) : Calls Try.prog 15 #[rp p.x, .int .u64 (addr r.n 0)] w fun e w' => e = .returned (.int .i64 0) ∧ Step p T w (s.ended pre r post 1 b b) w' := by
  obtain ⟨bs, N, D, hr⟩ := h
  have hn : r.n ≤ 4294967295 := by have := hh.size ho; have := ho.made; omega
  have hmle := ho.mle
  have hsz := hh.size ho
  have hp8 := hh.place8 ho
  have CG := heldAt_any hr hn
  rw [hh.hp ho] at CG
  simp only [Option.getD_some, Option.isSome_some] at CG
  have CG := Lib.hid CG
  have c1 : w.cell? ⟨p.x, 1, none⟩ = some (rowV p.g p.mx) := hr.map.cell 1
  have c0 : w.cell? ⟨p.x, 0, none⟩ = some (.pointer (some ⟨p.bm, 0, none⟩)) := hr.map.cell 0
  have CH := Lib.hid (fun (w : World) (hb : Blk w p.g u8T (bs.map byteV).toArray) => head_any (state := 0) hb hr.len hp8 hmle (hh.head ho hr.len hr.lies) (by omega) (by omega))
  have kb := k_bytes p.bm s.m r.n hn (3, b, false) hh.bytes (by show b.length ≤ _; rw [hh.len]; omega)
  have kb' : KCall 28 #[.pointer (some ⟨p.bm, 0, none⟩), .int .u64 (addr r.n 0), .int .i64 (r.size : Int)] p.bm s.m s.m (.returned (.tuple #[.string (bstr b), .int .i64 0])) := by
    rw [← hh.len]; exact kb
  have CB := Lib.hid (fun (w1 : World) (h1 : RB p s T bs N D w1) => h1.call kb' (Nat.le_refl _))
  obtain ⟨tx1, tx2, tx3⟩ := hh.texted ho hr.len hr.lies
  have CT := Lib.hid (fun (w : World) (hb : Blk w p.g u8T (bs.map byteV).toArray) => setText_any (l := b) hb hr.len (p := s.at pre % p.mx) (by omega) hmle (by have := ho.m64; omega) (by rw [hh.len]; omega) (by rw [hh.len]; omega))
  have CE := Lib.hid (fun (w1 : World) (T1 : Nat → Prop) (h1 : RB p s T1 (put2 bs ((s.at pre % p.mx + 8) % p.mx) b) N D w1) => end_any h1 ho hh 1 (by decide) (by decide) b (fun _ => tx3))
  have HR := Lib.hid hr
  have HTX := Lib.hid (And.intro tx1 tx2)
  have HF := fun w => field_size (.int .i64 r.size) (.int .i64 0) w
  unfold headV at CH
  generalize put2 bs ((s.at pre % p.mx + 8) % p.mx) b = bs' at *
  generalize hq : s.at pre % p.mx = q at *
  generalize addr r.n 0 = a at *
  clear hr ho hh hsz hp8 hq kb kb' tx1 tx2 tx3 hn hmle
  go_enter Try.func15, Try.ntmps15
  go_upto_region 4 with (go_at_call 27; refine CG.out.mono ?_; rintro e w1 ⟨rfl, rfl⟩)
  have S0 : Hid (w.cell? ⟨p.x, 0, none⟩ = some (.pointer (some ⟨p.bm, 0, none⟩)) ∧ w.cell? ⟨p.x, 1, none⟩ = some (rowV p.g p.mx)) := ⟨c0, c1⟩
  clear c0 c1 CG
  go_region_held3 (fun W => W.cell? ⟨p.x, 0, none⟩ = some (.pointer (some ⟨p.bm, 0, none⟩)) ∧ W.cell? ⟨p.x, 1, none⟩ = some (rowV p.g p.mx))
    (first | exact S0.out | exact S1.out | exact S2.out)
    (first
      | (go_at_call 20; refine (CH.out _ HR.out.row.drew).mono ?_; rintro e w1 ⟨rfl, hb1⟩; have B1 := Lib.hid (below_undrew hb1); have R1 := Lib.hid (HR.out.below (below_undrew hb1)); have S1 : Hid (w1.cell? ⟨p.x, 0, none⟩ = some (.pointer (some ⟨p.bm, 0, none⟩)) ∧ w1.cell? ⟨p.x, 1, none⟩ = some (rowV p.g p.mx)) := ⟨R1.out.map.cell 0, R1.out.map.cell 1⟩; clear hb1)
      | (go_at_call 28; refine (CB.out _ R1.out).mono ?_; rintro e w2 ⟨rfl, hr2, hk2⟩; have R2 := Lib.hid hr2; have K2 := Lib.hid hk2; have S2 : Hid (w2.cell? ⟨p.x, 0, none⟩ = some (.pointer (some ⟨p.bm, 0, none⟩)) ∧ w2.cell? ⟨p.x, 1, none⟩ = some (rowV p.g p.mx)) := ⟨hr2.map.cell 0, hr2.map.cell 1⟩; clear hr2 hk2))
  have hd1 : w2.cell? ⟨p.x, 1, none⟩ = some (rowV p.g p.mx) := S2.out.2
  clear S0 S1 S2
  go_wp2_with (first
    | (go_at_call 29; refine (CT.out _ R2.out.row).mono ?_; rintro e w3 ⟨rfl, hr3, hk3⟩; have K3 := Lib.hid hk3; have R3 := Lib.hid (R2.out.wrote hk3 hr3 HTX.out.2 HTX.out.1); clear hr3 hk3)
    | (go_at_call 30; refine (CE.out _ _ R3.out).mono ?_; rintro e w4 ⟨rfl, hs⟩; have HS := Lib.hid hs; clear hs))
  go_ret
  refine ⟨rfl, Step.join (w1 := w3) ?_ ?_ (fun x hx => R3.out.lt x (.inl hx)) HS.out⟩
  · have k1 : Keeps (ownB p T) w w1 := (keeps_grow B1.out).mono fun _ h => h.elim
    have k2 : Keeps (ownB p T) w w2 := k1.trans (K2.out.mono fun x hx => .inl (.inl hx))
    exact k2.trans (K3.out.mono fun x hx => .inl (.inr (.inr (.inl hx))))
  · rintro x (hx | ⟨hx, _⟩)
    · exact .inl hx
    · have := B1.out.size; exact .inr (by omega)
end
end Go.Proofs.Ytdihlmhipkcedaa
