/-
  Package ring: heldAt, end.
-/
import Derived.Test.YtdihlmhipkcedaaGEndP
namespace Go.Proofs.Ytdihlmhipkcedaa
open Go Go.RowKit Go.Maps
set_option linter.unusedVariables false
set_option linter.unusedSimpArgs false
set_option maxRecDepth 100000
theorem below_undrew {w w1 : World} (h : Below w.drew.heap.size w.drew w1) : Below w.heap.size w w1 := ⟨h.os, h.tape, h.output, h.size, h.block⟩
theorem heldAt_nil (a : Int) (w : World) : Calls Try.prog 27 #[.pointer none, .int .u64 a] w fun e w' => e = .returned (.tuple #[.int .i64 0, .bool false]) ∧ w = w' := by
  have CG := Lib.hid gone_nil
  go_enter Try.func27, Try.ntmps27
  go_wp2_with (go_at_call 19; refine (CG.out _).mono ?_; rintro e w1 ⟨rfl, rfl⟩)
  go_ret2
  exact ⟨rfl, rfl⟩
section
variable {p : RPar} {s : RSt} {T : Nat → Prop} {bs : List UInt8} {N : Nat} {D : DataW Value} {w : World} {pre post : List Rec} {r : Rec} {b : List UInt8}
theorem heldAt_any (h : RB p s T bs N D w) {n : Nat} (hn : n ≤ 4294967295) : Calls Try.prog 27 #[rp p.x, .int .u64 (addr n 0)] w fun e w' => e = .returned (.tuple #[.int .i64 (((hp p.mx s.first s.rs n).getD 0 : Nat) : Int), .bool (hp p.mx s.first s.rs n).isSome]) ∧ w = w' := by
  have CG := Lib.hid (gone_no h.map)
  have hl := h.look hn true
  have c4 : w.cell? ⟨p.x, 4, none⟩ = some (.map (some p.mb)) := h.map.cell 4
  rw [if_pos rfl] at hl
  generalize (hp p.mx s.first s.rs n).isSome = bb at *
  generalize (hp p.mx s.first s.rs n).getD 0 = q at *
  generalize addr n 0 = a at *
  clear h
  go_enter Try.func27, Try.ntmps27
  go_wp2_with (go_at_call 19; refine CG.out.mono ?_; rintro e w1 ⟨rfl, rfl⟩)
  go_ret2
  exact ⟨rfl, rfl⟩
set_option maxHeartbeats 2000000 in
theorem end_any (h : RB p s T bs N D w) (ho : Ok p s) (hh : Here p s pre r post b) (st : Nat) (hst : st ≠ 0) (hst2 : st ≤ 2) (txt : List UInt8) (ht : st = 1 → cyc bs (s.at pre + 8) r.size = txt) :
    Calls Try.prog 30 #[rp p.x, .int .u64 (addr r.n 0), .int .i64 st] w fun e w' => e = .returned (.tuple #[]) ∧ Step p T w (s.ended pre r post st txt b) w' := by
  have hmle := ho.mle
  have hsz := hh.size ho
  have hmade := ho.made
  have hn : r.n ≤ 4294967295 := by omega
  have hl := h.look hn false
  rw [hh.hp ho] at hl
  simp only [Option.getD_some, Bool.false_eq_true, if_false] at hl
  have c4 : w.cell? ⟨p.x, 4, none⟩ = some (.map (some p.mb)) := h.map.cell 4
  have c1 : w.cell? ⟨p.x, 1, none⟩ = some (rowV p.g p.mx) := h.map.cell 1
  have hp8 := hh.place8 ho
  have CH := Lib.hid (fun (w : World) (hb : Blk w p.g u8T (bs.map byteV).toArray) => head_any (state := 0) hb h.len hp8 hmle (hh.head ho h.len h.lies) (by omega) (by omega))
  have CS := Lib.hid (fun (w : World) (hb : Blk w p.g u8T (bs.map byteV).toArray) => setHead_any (size := r.size) (state := st) hb h.len hp8 hmle (by omega) (by omega))
  have HN := Lib.hid (hh.headed ho h.len h.lies st txt ht)
  have HP := Lib.hid (fun k => hh.hpEnded ho st hst txt k)
  have CR := Lib.hid (k_retire p.bm s.m r.n (3, b, false) hh.bytes rfl)
  have HKEY := Lib.hid (key64 hn)
  have HSU : Hid (sumU (s.ended pre r post st txt b).rs = sumU s.rs) := by
    show sumU (pre ++ _ :: post) = _
    rw [hh.rs, sumU_append, sumU_append]; simp only [sumU]
  have HR := Lib.hid h
  have HF := fun w => field_size (.int .i64 r.size) (.int .i64 0) w
  unfold headV at CH CS
  generalize hq : s.at pre % p.mx = q at *
  generalize ha : addr r.n 0 = a at *
  have HA := Lib.hid ha
  clear h ho hh hsz hmade hn hst hst2 ht hp8 hq hmle ha
  go_enter Try.func30, Try.ntmps30
  go_upto_region 1 with fail
  have S0 := Lib.hid c1
  clear c1 c4 hl
  go_region_held3 (fun W => W.cell? ⟨p.x, 1, none⟩ = some (rowV p.g p.mx))
    (first | exact S0.out | exact S1.out | exact S2.out)
    (first
      | (go_at_call 20; refine (CH.out _ HR.out.row.drew).mono ?_; rintro e w1 ⟨rfl, hb1⟩; have B1 := Lib.hid (below_undrew hb1); have R1 := Lib.hid (HR.out.below (below_undrew hb1)); have S1 : Hid (w1.cell? ⟨p.x, 1, none⟩ = some (rowV p.g p.mx)) := R1.out.map.cell 1; clear hb1)
      | (go_at_call 25; refine (CS.out _ R1.out.row).mono ?_; rintro e w2 ⟨rfl, hr2, hk2⟩; have RW := Lib.hid hr2; have K2 := Lib.hid hk2; have S2 : Hid (w2.cell? ⟨p.x, 1, none⟩ = some (rowV p.g p.mx)) := (R1.out.map.keeps hk2 R1.out.ngx).cell 1; clear hr2 hk2))
  have hd0 : w2.cell? ⟨p.x, 0, none⟩ = some (.pointer (some ⟨p.bm, 0, none⟩)) := (R1.out.map.keeps K2.out R1.out.ngx).cell 0
  have SD := Lib.hid (R1.out.side.keeps' K2.out (fun x hx e => R1.out.tg (e ▸ hx)))
  have MP := Lib.hid (R1.out.map.keeps K2.out R1.out.ngx)
  have OW := Lib.hid (ownsMap_block R1.out.own (K2.out.block p.mb R1.out.own.lt (fun e => R1.out.ngm e.symm)))
  go_upto_region 3 with (go_at_call 39; refine (CR.out _ _ SD.out).mono ?_; rintro e w3 ⟨rfl, hs3, hk3⟩; have SD3 := Lib.hid hs3; have K3 := Lib.hid hk3; clear hs3 hk3)
  have MP3 := Lib.hid (MP.out.keeps K3.out HR.out.tx)
  have hd4 : w3.cell? ⟨p.x, 4, none⟩ = some (.map (some p.mb)) := MP3.out.cell 4
  obtain ⟨w4, hrun4, hown4, hturn4⟩ := (ownsMap_block OW.out (K3.out.block p.mb OW.out.lt HR.out.tm)).drop law64 Try.underlying55 HKEY.out 0
  have hdel : ∀ ty, (Builtin.delete_ #[heldT, u64T] ty #[.map (some p.mb), .int .u64 a]).run Try.prog w3 = .ok (.tuple #[]) w4 := fun ty => hrun4
  have HW4 := Lib.hid hown4; have HG4 := Lib.hid hturn4.grown
  clear hown4 hturn4 hrun4 hd0
  go_wp2_with fail
  go_end0
  have kg : Keeps (fun b => b = p.mb) w3 w4 := (Keeps.refl _ w3).grown HG4.out (fun k e => .inl (by simpa using e.symm))
  have R := HR.out
  have R1' := R1.out
  have nt : ∀ x, x < w2.heap.size → ¬ T x → ¬ more T w2 w3 x := by
    rintro x hx ht (g1 | ⟨g1, _⟩)
    · exact ht g1
    · omega
  have hw4 := HW4.out
  rw [← HA.out] at hw4
  refine ⟨rfl, more T w2 w3, ⟨setAt bs q (hb r.size st), N, _, ⟨SD3.out.keeps' kg (fun x hx e => nt p.mb OW.out.lt R.tm (e ▸ hx)), nt _ MP.out.lt R.tx, nt _ RW.out.lt R.tg, nt _ OW.out.lt R.tm, ?_, (RW.out.keeps K3.out R.tg).keeps kg R.ngm, HN.out.2.trans R.len, HN.out.1, hw4, HeldOf.del R.dat r.n HP.out, R.nle⟩⟩, ?_, ?_⟩
  · rw [HSU.out]
    exact MP3.out.keeps kg R.nxm
  · have k1 : Keeps (ownB p T) w w1 := (keeps_grow B1.out).mono fun _ h => h.elim
    have k2 : Keeps (ownB p T) w w2 := k1.trans (K2.out.mono fun b hb => .inl (.inr (.inr (.inl hb))))
    have k3 : Keeps (ownB p T) w w3 := k2.trans (K3.out.mono fun b hb => .inl (.inl hb))
    exact k3.trans (kg.mono fun b hb => .inl (.inr (.inr (.inr hb))))
  · rintro x (hx | ⟨hx, _⟩)
    · exact .inl hx
    · have := B1.out.size; have := K2.out.size; exact .inr (by omega)
end
end Go.Proofs.Ytdihlmhipkcedaa
