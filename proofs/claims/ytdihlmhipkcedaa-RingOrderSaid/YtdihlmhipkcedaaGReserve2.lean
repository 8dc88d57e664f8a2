/-
  Package ring: Reserve where there is room.
-/
import Derived.Test.YtdihlmhipkcedaaGReserve
namespace Go.Proofs.Ytdihlmhipkcedaa
open Go Go.RowKit Go.Maps
set_option linter.unusedVariables false
set_option linter.unusedSimpArgs false
set_option maxRecDepth 100000
section
variable {p : RPar} {s : RSt} {T : Nat → Prop} {w : World}
set_option maxHeartbeats 2000000 in
theorem reserve_ok (h : RS p s T w) (ho : Ok p s) (hf : s.m.fail ≠ 1) (hm : s.m.made < 4095) (n : Nat) (h1 : 1 ≤ n) (h2 : n ≤ p.mx / 2) (hn : sumU s.rs + uses n ≤ p.mx) :
    Calls Try.prog 13 #[rp p.x, .int .i64 n] w fun e w' => e = .returned (.tuple #[.int .u64 (addr (s.m.made + 1) 0), .int .i64 0]) ∧ Step p T w (s.reserved n) w' := by
  obtain ⟨bs, N, D, hr⟩ := h
  have hmle := ho.mle
  have hm64 := ho.m64
  have CG := Lib.hid (gone_no hr.map)
  have CU := Lib.hid (fun w => uses_any n (by omega) w)
  have CA := Lib.hid (fun k => (hr.drewN k).call (k_alloc p.bm s.m hf hm n h1 (by omega)) (by show s.m.made ≤ s.m.made + 1; omega))
  have c1 : w.cell? ⟨p.x, 1, none⟩ = some (rowV p.g p.mx) := hr.map.cell 1
  have c3 : w.cell? ⟨p.x, 3, none⟩ = some (.int .i64 (sumU s.rs : Nat)) := hr.map.cell 3
  have e1 := half p.mx hmle
  have e2 : wrap64 ((p.mx / 2 : Nat) : Int) = ((p.mx / 2 : Nat) : Int) := by unfold wrap64; omega
  have b1 : decide ((n : Int) < 1) = false := by simp; omega
  have b2 : decide (((p.mx / 2 : Nat) : Int) < (n : Int)) = false := by simp; omega
  have b3 : decide ((p.mx : Int) < (sumU s.rs : Nat) + (uses n : Nat)) = false := by simp; omega
  have CB := Lib.hid (fun w => behind_any p.g s.first (sumU s.rs) p.mx (by have := ho.first; omega) (by have := ho.sum; omega) (by omega) hmle w)
  have hq8 := ho.next8
  have hsum := ho.sum
  have hfst := ho.first
  have CS := Lib.hid (fun (w : World) (b : Blk w p.g u8T (bs.map byteV).toArray) => setHead_any (size := n) (state := 0) b hr.len hq8 hmle (by omega) (by omega))
  have HL := Lib.hid (lies_reserve ho hr.len hr.lies n hn)
  have HLEN := Lib.hid (show (setAt bs (s.next p.mx) (hb n 0)).length = bs.length from setAt_length _ _ _ (by rw [hb_length, hr.len]; exact hq8))
  have HP := Lib.hid (fun k => hp_reserve ho n k)
  have HSU := Lib.hid (show sumU (s.reserved n).rs = sumU s.rs + uses n by show sumU (s.rs ++ [_]) = _; rw [sumU_append]; simp [sumU])
  have hun : uses n ≤ 65536 + 16 := by unfold uses; omega
  have HRR := Lib.hid hr
  have HO := Lib.hid ho
  have d0 : w.cell? ⟨p.x, 0, none⟩ = some (.pointer (some ⟨p.bm, 0, none⟩)) := hr.map.cell 0
  have c0 : w.cell? ⟨p.x, 0, none⟩ = some (.pointer (some ⟨p.bm, 0, none⟩)) := d0
  have e5 : IntKind.i64.wrap ((sumU s.rs : Nat) + (uses n : Nat) : Int) = ((sumU s.rs + uses n : Nat) : Int) := by rw [IntWalk.i64_in _ (by omega)]; omega
  have hx : RSt.next s p.mx = (s.first + sumU s.rs) % p.mx := rfl
  rw [← hx] at CB
  clear hr ho hn d0 hx
  generalize hsu : sumU s.rs = su at *
  generalize hnx : RSt.next s p.mx = q at *
  generalize hus : uses n = un at *
  generalize p.mx / 2 = hh at *
  have HSU0 := Lib.hid hsu; have HNX := Lib.hid hnx; have HUS := Lib.hid hus
  clear hsu hnx hus hf hq8 hfst hm64
  go_enter Try.func13, Try.ntmps13
  go_upto_region 3 with (go_at_call 19; refine CG.out.mono ?_; rintro e w1 ⟨rfl, rfl⟩)
  go_quiet ((go_at_call 23; exact Calls.quiet_of_same (CU.out _)))
  rename Nat => k0
  go_upto_region 8 with (go_at_call 24; refine (CA.out _).mono ?_; rintro e w1 ⟨rfl, h1, k1⟩; have R1 := Lib.hid h1; have K1 := Lib.hid k1; clear h1 k1)
  have hx1 : w1.cell? ⟨p.x, 1, none⟩ = some (rowV p.g p.mx) := R1.out.map.cell 1
  have hx2 : w1.cell? ⟨p.x, 2, none⟩ = some (.int .i64 s.first) := R1.out.map.cell 2
  have hx3 : w1.cell? ⟨p.x, 3, none⟩ = some (.int .i64 su) := by have := R1.out.map.cell 3; rw [← HSU0.out]; exact this
  go_quiet ((go_at_call 22; exact Calls.quiet_of_same (CB.out _)))
  have R2 := Lib.hid (R1.out.drewN nq)
  go_upto_region 10 with (go_at_call 25; refine (CS.out _ R2.out.row).mono ?_; rintro e w2 ⟨rfl, r2, k2⟩; have R3 := Lib.hid r2; have K3 := Lib.hid k2; clear r2 k2)
  have KA : Hid (Keeps T w (w1.drewN nq)) := ⟨K1.out.os, K1.out.tape, K1.out.output, K1.out.size, K1.out.block⟩
  have EA : Hid (∀ b, more T (w.drewN k0) w1 b → T b ∨ w.heap.size ≤ b) := fun b hb => hb.imp id fun h => h.1
  have R4 := Lib.hid (R2.out.wrote K3.out R3.out HLEN.out ((lies_append _ _ _).1 HL.out).1)
  clear R1 K1 hx1 hx2 hx3 CB CS
  generalize more T (w.drewN k0) w1 = T1 at *
  obtain ⟨w3, hrun3, hown3, hgrow3⟩ := R4.out.own.update law64 Try.underlying55 (by have := HRR.out.nle; unfold maxLen; omega) (key64 (n := s.m.made + 1) (by omega)) (val := .int .i64 (q : Int)) (d := .held (.int .i64 (q : Int))) (ps := []) rfl
  have hd4 : w2.cell? ⟨p.x, 4, none⟩ = some (.map (some p.mb)) := R4.out.map.cell 4
  have X3 : Hid (Blk w3 p.x mapT (liveC p s.first su)) := by
    have := R4.out.map
    rw [HSU0.out] at this
    exact (hgrow3.block p.x this.lt (by simpa using R4.out.nxm)).trans this
  have hd3 : w3.cell? ⟨p.x, 3, none⟩ = some (.int .i64 su) := X3.out.cell 3
  have hf3 : w3.frozen? ⟨p.x, 3, none⟩ = false := X3.out.frozen 3
  have HW3 := Lib.hid hown3; have HG3 := Lib.hid hgrow3
  clear hown3 hgrow3
  have HFIN : Hid (Step p T w (s.reserved n) (w3.setCell ⟨p.x, 3, none⟩ (.int .i64 ((su : Int) + un))).drew) := by
    have R4' := R4.out
    have ks : Keeps (fun b => b = p.x) w3 (w3.setCell ⟨p.x, 3, none⟩ (.int .i64 ((su : Int) + un))).drew := (Keeps.setCell (S := fun b => b = p.x) (Keeps.refl _ w3) (p := ⟨p.x, 3, none⟩) (.inl rfl) _).drew
    have kg : Keeps (fun b => b = p.mb) w2 w3 := (Keeps.refl _ w2).grown HG3.out (fun k e => .inl (by simpa using e.symm))
    have hside : KSide (w3.setCell ⟨p.x, 3, none⟩ (.int .i64 ((su : Int) + un))).drew T1 p.bm (s.m.grown n) := (R4'.side.keeps' kg (fun b hb e => R4'.tm (e ▸ hb))).keeps' ks (fun b hb e => R4'.tx (e ▸ hb))
    have hrow : Blk (w3.setCell ⟨p.x, 3, none⟩ (.int .i64 ((su : Int) + un))).drew p.g u8T ((setAt bs q (hb n 0)).map byteV).toArray := (R4'.row.keeps kg R4'.ngm).keeps ks (fun e => R4'.ngx e.symm)
    have hmap : Blk (w3.setCell ⟨p.x, 3, none⟩ (.int .i64 ((su : Int) + un))).drew p.x mapT (liveC p s.first (sumU (s.reserved n).rs)) := by
      have := X3.out.set_ 3 (.int .i64 ((su : Int) + un))
      rw [HSU.out]
      have e : ((su + un : Nat) : Int) = (su : Int) + un := by omega
      have this2 : Blk (w3.setCell ⟨p.x, 3, none⟩ (.int .i64 ((su : Int) + un))) p.x mapT #[.pointer (some ⟨p.bm, 0, none⟩), rowV p.g p.mx, .int .i64 s.first, .int .i64 ((su : Int) + un), .map (some p.mb)] := by simpa using this
      rw [← e] at this2 ⊢
      exact this2
    refine ⟨T1, ⟨setAt bs q (hb n 0), N + 1, _, ⟨hside, R4'.tx, R4'.tg, R4'.tm, hmap, hrow, R4'.len, HL.out, ownsMap_block HW3.out (ks.block p.mb HW3.out.lt (fun e => R4'.nxm e.symm)), ?_, ?_⟩⟩, ?_, EA.out⟩
    · exact HeldOf.put R4'.dat (s.m.made + 1) q HP.out
    · have := HRR.out.nle; show N + 1 ≤ s.m.made + 1; omega
    · have k1 : Keeps (ownB p T) w (w1.drewN nq) := KA.out.mono fun b hb => .inl hb
      have k2 : Keeps (ownB p T) w w2 := k1.trans (K3.out.mono fun b hb => .inl (.inr (.inr (.inl hb))))
      have k3 : Keeps (ownB p T) w w3 := k2.trans (kg.mono fun b hb => .inl (.inr (.inr (.inr hb))))
      exact k3.trans (ks.mono fun b hb => .inl (.inr (.inl hb)))
  go_upto_region 11 with fail
  go_region_with (refine (CU.out _).mono ?_; rintro e w4 ⟨rfl, rfl⟩)
  all_goals go_wp2_with fail
  all_goals go_ret2
  all_goals exact ⟨rfl, HFIN.out⟩
end
end Go.Proofs.Ytdihlmhipkcedaa
