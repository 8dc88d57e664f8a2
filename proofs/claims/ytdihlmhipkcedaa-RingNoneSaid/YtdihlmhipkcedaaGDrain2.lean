/-
  Package ring: Drain of a ring that is there.
-/
import Derived.Test.YtdihlmhipkcedaaGDrain
import Derived.Test.YtdihlmhipkcedaaTail
namespace Go.Proofs.Ytdihlmhipkcedaa
open Go Go.RowKit Go.Maps
set_option linter.unusedVariables false
set_option linter.unusedSimpArgs false
set_option maxRecDepth 100000
section
variable {p : RPar} {s : RSt} {T : Nat → Prop} {w : World}
/-- What Drain leaves. -/
def Drained (p : RPar) (s : RSt) (T : Nat → Prop) (w : World) (V : Value) (w' : World) : Prop :=
  ∃ done rest f, s.rs = done ++ rest ∧ (∀ r, r ∈ done → r.state ≠ 0) ∧ (∀ r q, rest = r :: q → r.state = 0) ∧ f < p.mx ∧ f % 8 = 0 ∧ RS p ⟨s.m, f, rest⟩ T w' ∧ Strs w' w.heap.size V (told done) ∧ Keeps (fun b => b = p.x ∨ w.heap.size ≤ b) w w'
set_option maxHeartbeats 4000000 in
theorem drain_any (h : RS p s T w) (ho : Ok p s) : Calls Try.prog 11 #[rp p.x] w fun e w' => ∃ V, e = .returned V ∧ Drained p s T w V w' := by
  obtain ⟨bs, N, D, hr⟩ := h
  have CG := Lib.hid (gone_no hr.map)
  have HX := Lib.hid hr.map.lt
  have HB := Lib.hid (fun b hb => hr.lt b hb)
  have HO := Lib.hid ho
  have HS : Hid (DR p s T bs N D w (.slice none 0 0) [] s.rs s.first w) := ⟨rfl, (fun r hr => by cases hr), hr, ho.first, ho.f8, World.ownsRow_nil _ _ _ _, Keeps.refl _ _⟩
  have HEND : Hid (∀ V done rest f wr, DR p s T bs N D w V done rest f wr → (∀ r q, rest = r :: q → r.state = 0) → Drained p s T w V wr) := fun V done rest f wr h hrest => ⟨done, rest, f, h.rs, h.gone, hrest, h.flt, h.f8, ⟨bs, N, D, h.ring⟩, h.row, h.keeps⟩
  clear hr ho
  go_enter Try.func11, Try.ntmps11
  go_wp2_with (go_at_call 19; refine CG.out.mono ?_; rintro e w1 ⟨rfl, rfl⟩)
  clear CG
  go_loopw [3] (fun V wr => ∃ done rest f, DR p s T bs N D w V done rest f wr) (fun V wr => intOf ((wr.cell? ⟨p.x, 3, none⟩).getD (.int .i64 0)) |>.toNat)
  case atStart => exact ⟨_, _, _, HS.out⟩
  case round =>
    clear HS
    obtain ⟨done, rest, f, hd⟩ := hrel
    have HD := Lib.hid hd
    clear hd
    have c3 : wr.cell? ⟨p.x, 3, none⟩ = some (.int .i64 (sumU rest : Nat)) := HD.out.ring.map.cell 3
    rcases rest with _ | ⟨r, q⟩
    · have c3' : wr.cell? ⟨p.x, 3, none⟩ = some (.int .i64 0) := c3
      clear c3
      obtain ⟨A, c, hA⟩ := strs_shape HD.out.row
      go_wp2_with fail
      go_ret
      exact ⟨_, rfl, HEND.out _ _ _ _ _ HD.out (fun r q h => by cases h)⟩
    · have hmem : r ∈ s.rs := by rw [HD.out.rs]; simp
      have hrc := HO.out.recs r hmem
      have hm64 := HO.out.m64
      have hmle := HO.out.mle
      have hff := HD.out.flt
      have hp8 : f + 8 ≤ p.mx := by have := HD.out.f8; have := HO.out.dv; omega
      have hlen := HD.out.ring.len
      have hrec : RecAt bs f r := HD.out.ring.lies.1
      have hhd : (bs.drop f).take 8 = hb r.size r.state := by
        rw [← hrec.head]
        have := cyc_drop (bs := bs) (a := f) (n := 8) (by rw [hlen]; omega) (by rw [hlen, Nat.mod_eq_of_lt hff]; exact hp8)
        rwa [hlen, Nat.mod_eq_of_lt hff] at this
      have CH := Lib.hid (fun (w : World) (hb : Blk w p.g u8T (bs.map byteV).toArray) => head_any hb hlen hp8 hmle hhd (by omega) (by omega))
      have CT := Lib.hid (fun (w : World) (hb : Blk w p.g u8T (bs.map byteV).toArray) => text_any hb hlen hp8 hmle hhd hrc.1 (by omega) (by omega))
      have HTX := Lib.hid hrec.text
      have CU := Lib.hid (fun w => uses_any r.size (by omega) w)
      have CB := Lib.hid (fun w => behind_any p.g f (uses r.size) p.mx (by omega) (by unfold uses; omega) (by omega) hmle w)
      have c1 : wr.cell? ⟨p.x, 1, none⟩ = some (rowV p.g p.mx) := HD.out.ring.map.cell 1
      have c2 : wr.cell? ⟨p.x, 2, none⟩ = some (.int .i64 f) := HD.out.ring.map.cell 2
      have S0 : Hid (wr.cell? ⟨p.x, 1, none⟩ = some (rowV p.g p.mx) ∧ wr.cell? ⟨p.x, 2, none⟩ = some (.int .i64 f)) := ⟨c1, c2⟩
      have hsu : 0 < sumU (r :: q) := by have := uses_ge r.size; simp only [sumU]; omega
      have hsl : sumU (r :: q) ≤ 65536 := by
        have := HO.out.sum
        rw [HD.out.rs, sumU_append] at this
        omega
      have HSU : Hid (sumU (r :: q) = uses r.size + sumU q) := rfl
      have hun : uses r.size ≤ 65536 + 16 := by unfold uses; omega
      have hst := hrc.2.2.1
      have HRC := Lib.hid hrc
      unfold headV at CH
      clear hrec hhd hmem hrc hm64 hff hp8 hlen c1 c2 hmle
      generalize hsu' : sumU (r :: q) = su at *
      generalize hus : uses r.size = un at *
      have HSU' := Lib.hid hsu'; have HUS := Lib.hid hus
      clear hsu' hus
      have S0' : Hid (∀ cs, (wr.alloc (.cells cs headT)).cell? ⟨p.x, 1, none⟩ = some (rowV p.g p.mx) ∧ (wr.alloc (.cells cs headT)).cell? ⟨p.x, 2, none⟩ = some (.int .i64 f)) := fun cs => ⟨(HD.out.ring.map.alloc _).cell 1, (HD.out.ring.map.alloc _).cell 2⟩
      obtain ⟨A, c, rfl⟩ := strs_shape HD.out.row
      have b0 : decide (0 < (su : Int)) = true := by simp; omega
      go_upto_region 5 with fail
      have HWR : Hid (w.heap.size ≤ wr.heap.size) := HD.out.keeps.size
      go_region_held3 (fun W => W.cell? ⟨p.x, 1, none⟩ = some (rowV p.g p.mx) ∧ W.cell? ⟨p.x, 2, none⟩ = some (.int .i64 f))
        (first | exact S0.out | exact S1.out | exact S2.out _ | exact S0'.out _ | exact S3.out | exact S4.out _ _)
        (first
          | (go_at_call 20; refine (CH.out _ HD.out.ring.row.drew).mono ?_; rintro e w1 ⟨rfl, hb1⟩; have R1 := Lib.hid (HD.out.ring.below (below_undrew hb1)); have S1 : Hid (w1.cell? ⟨p.x, 1, none⟩ = some (rowV p.g p.mx) ∧ w1.cell? ⟨p.x, 2, none⟩ = some (.int .i64 f)) := ⟨R1.out.map.cell 1, R1.out.map.cell 2⟩; have S2 : Hid (∀ cs, (w1.alloc (.cells cs headT)).cell? ⟨p.x, 1, none⟩ = some (rowV p.g p.mx) ∧ (w1.alloc (.cells cs headT)).cell? ⟨p.x, 2, none⟩ = some (.int .i64 f)) := fun cs => ⟨(R1.out.map.alloc _).cell 1, (R1.out.map.alloc _).cell 2⟩; have HY := Lib.hid (ny1 HD.out HWR.out (below_undrew hb1)); clear hb1)
          | (go_at_call 20; refine (CH.out _ (HD.out.ring.row.alloc _).drew).mono ?_; rintro e w1 ⟨rfl, hb1⟩; have HY := Lib.hid (ny2 HD.out HWR.out hb1); have hk : Blk w1 wr.heap.size headT #[.int .i64 0, .int .i64 0] := blk_below (Blk.new wr _ _).drew hb1; have hk0 : w1.cell? ⟨wr.heap.size, 0, none⟩ = some (.int .i64 0) := hk.cell 0; have hk1 : w1.cell? ⟨wr.heap.size, 1, none⟩ = some (.int .i64 0) := hk.cell 1; have hkf : ∀ i, w1.frozen? ⟨wr.heap.size, i, none⟩ = false := fun i => hk.frozen i; have hm1 : Blk w1 p.x mapT _ := blk_below (HD.out.ring.map.alloc _).drew hb1; have S3 : Hid (w1.cell? ⟨p.x, 1, none⟩ = some (rowV p.g p.mx) ∧ w1.cell? ⟨p.x, 2, none⟩ = some (.int .i64 f)) := ⟨hm1.cell 1, hm1.cell 2⟩; have hxne : p.x ≠ wr.heap.size := (fun e => by have h1 := HX.out; have h2 := HWR.out; omega); have S4 : Hid (∀ u v, ((w1.setCell ⟨wr.heap.size, 0, none⟩ u).setCell ⟨wr.heap.size, 1, none⟩ v).cell? ⟨p.x, 1, none⟩ = some (rowV p.g p.mx) ∧ ((w1.setCell ⟨wr.heap.size, 0, none⟩ u).setCell ⟨wr.heap.size, 1, none⟩ v).cell? ⟨p.x, 2, none⟩ = some (.int .i64 f)) := (fun u v => ⟨((hm1.far hxne _).far hxne _).cell 1, ((hm1.far hxne _).far hxne _).cell 2⟩); clear hb1 hk hm1))
      · -- way 1
        generalize (w1.alloc (.cells #[.int .i64 r.size, .int .i64 r.state] headT)) = W at HY ⊢
        clear S0 S0' S1 S2 R1
        generalize w1.heap.size = h at HY ⊢
        rename_i hHeld
        clear hHeld
        have y0 : W.cell? ⟨h, 0, none⟩ = some (.int .i64 r.size) := HY.out.blk.cell 0
        have y1 : W.cell? ⟨h, 1, none⟩ = some (.int .i64 r.state) := HY.out.blk.cell 1
        rcases (show r.state = 0 ∨ r.state = 1 ∨ r.state = 2 by omega) with h0 | h0 | h0
        · have H0 := Lib.hid h0
          rw [h0] at y1
          clear h0 hst
          go_wp2_with fail
          go_ret
          exact ⟨_, rfl, HEND.out _ _ _ _ _ HY.out.dr (fun r' q' e => by cases e; exact H0.out)⟩
        · have H0 := Lib.hid h0
          rw [h0] at y1
          clear h0 hst
          have c1 : W.cell? ⟨p.x, 1, none⟩ = some (rowV p.g p.mx) := HY.out.dr.ring.map.cell 1
          have c2 : W.cell? ⟨p.x, 2, none⟩ = some (.int .i64 f) := HY.out.dr.ring.map.cell 2
          have CT1 : Hid (∀ (w : World), Blk w p.g u8T (bs.map byteV).toArray → Calls Try.prog 21 #[rowV p.g p.mx, .int .i64 f] w fun e w' => e = .returned (.string (bstr r.text)) ∧ Below w.heap.size w w') := by
            intro w hb
            have := CT.out w hb
            rwa [HTX.out H0.out] at this
          have HDL : Hid (done.length ≤ 65536) := by
            have h1 := HO.out.sum
            rw [HD.out.rs, sumU_append] at h1
            have h2 := len_sumU done
            have h3 := HO.out.mle
            show done.length ≤ 65536
            omega
          have HNA := Lib.hid (fun (W1 : World) (hb : Below W.heap.size W W1) => HY.out.told_ H0.out hb HB.out HDL.out)
          have HRW := Lib.hid HY.out.dr.ring.row
          clear CT HTX CH
          go_upto_region 8 with fail
          have HS8 := Lib.hid (show (fun W : World => W.cell? ⟨p.x, 1, none⟩ = some (rowV p.g p.mx) ∧ W.cell? ⟨p.x, 2, none⟩ = some (.int .i64 f)) W.drew from ⟨c1, c2⟩)
          refine wp_region_noPanic ?_
          refine wp_region_tail [11, 12] (S := (fun W => W.cell? ⟨p.x, 1, none⟩ = some (rowV p.g p.mx) ∧ W.cell? ⟨p.x, 2, none⟩ = some (.int .i64 f))) (by kernel_rfl) ?_
          have hHeld := HS8.out
          refine wpAnyT_take (i := 0) (oi := _) (v := ?_) rfl (by kernel_rfl) (by kernel_rfl) (by kernel_rfl) (by kernel_rfl) (by kernel_rfl) (fun _ _ _ h => h) (Or.inl ⟨by kernel_rfl, ?_⟩) hHeld ?_
          rotate_left 1
          · intro w hSw; obtain ⟨hs0, hs1⟩ := hSw; go_simp; (try with_reducible rfl)
          try simp only [Act.put, List.getElem_toArray, List.getElem_cons_succ, List.getElem_cons_zero, List.setIfInBounds_toArray, List.set_cons_zero, List.set_cons_succ]
          refine wpAnyT_take (i := 1) (oi := _) (v := ?_) rfl (by kernel_rfl) (by kernel_rfl) (by kernel_rfl) (by kernel_rfl) (by kernel_rfl) (fun _ _ _ h => h) (Or.inl ⟨by kernel_rfl, ?_⟩) hHeld ?_
          rotate_left 1
          · intro w hSw; obtain ⟨hs0, hs1⟩ := hSw; go_simp; (try with_reducible rfl)
          try simp only [Act.put, List.getElem_toArray, List.getElem_cons_succ, List.getElem_cons_zero, List.setIfInBounds_toArray, List.set_cons_zero, List.set_cons_succ]
          refine wpAnyT_take (i := 2) (oi := _) (v := ?_) rfl (by kernel_rfl) (by kernel_rfl) (by kernel_rfl) (by kernel_rfl) (by kernel_rfl) (fun _ _ _ h => h) (Or.inl ⟨by kernel_rfl, ?_⟩) hHeld ?_
          rotate_left 1
          · intro w hSw; obtain ⟨hs0, hs1⟩ := hSw; go_simp; (try with_reducible rfl)
          try simp only [Act.put, List.getElem_toArray, List.getElem_cons_succ, List.getElem_cons_zero, List.setIfInBounds_toArray, List.set_cons_zero, List.set_cons_succ]
          refine wpAnyT_take (i := 3) (oi := _) (v := ?_) rfl (by kernel_rfl) (by kernel_rfl) (by kernel_rfl) (by kernel_rfl) (by kernel_rfl) (fun _ _ _ h => h) (Or.inl ⟨by kernel_rfl, ?_⟩) hHeld ?_
          rotate_left 1
          · intro w hSw; obtain ⟨hs0, hs1⟩ := hSw; go_simp; (try with_reducible rfl)
          try simp only [Act.put, List.getElem_toArray, List.getElem_cons_succ, List.getElem_cons_zero, List.setIfInBounds_toArray, List.set_cons_zero, List.set_cons_succ]
          refine wpAnyT_take (i := 4) (oi := _) (v := ?_) rfl (by kernel_rfl) (by kernel_rfl) (by kernel_rfl) (by kernel_rfl) (by kernel_rfl) (fun _ _ _ h => h) (Or.inl ⟨by kernel_rfl, ?_⟩) hHeld ?_
          rotate_left 1
          · intro w hSw; obtain ⟨hs0, hs1⟩ := hSw; go_simp; (try with_reducible rfl)
          try simp only [Act.put, List.getElem_toArray, List.getElem_cons_succ, List.getElem_cons_zero, List.setIfInBounds_toArray, List.set_cons_zero, List.set_cons_succ]
          refine wpAnyT_take (i := 5) (oi := _) (v := ?_) rfl (by kernel_rfl) (by kernel_rfl) (by kernel_rfl) (by kernel_rfl) (by kernel_rfl) (fun _ _ _ h => h) (Or.inl ⟨by kernel_rfl, ?_⟩) hHeld ?_
          rotate_left 1
          · intro w hSw; obtain ⟨hs0, hs1⟩ := hSw; go_simp; (try with_reducible rfl)
          try simp only [Act.put, List.getElem_toArray, List.getElem_cons_succ, List.getElem_cons_zero, List.setIfInBounds_toArray, List.set_cons_zero, List.set_cons_succ]
          refine wpAnyT_take (i := 6) (oi := _) (v := ?_) rfl (by kernel_rfl) (by kernel_rfl) (by kernel_rfl) (by kernel_rfl) (by kernel_rfl) (fun _ _ _ h => h) (Or.inl ⟨by kernel_rfl, ?_⟩) hHeld ?_
          rotate_left 1
          · intro w hSw; obtain ⟨hs0, hs1⟩ := hSw; go_simp; (try with_reducible rfl)
          try simp only [Act.put, List.getElem_toArray, List.getElem_cons_succ, List.getElem_cons_zero, List.setIfInBounds_toArray, List.set_cons_zero, List.set_cons_succ]
          refine wpAnyT_take (i := 7) (oi := _) (v := ?_) rfl (by kernel_rfl) (by kernel_rfl) (by kernel_rfl) (by kernel_rfl) (by kernel_rfl) (fun _ _ _ h => h) (Or.inl ⟨by kernel_rfl, ?_⟩) hHeld ?_
          rotate_left 1
          · intro w hSw; obtain ⟨hs0, hs1⟩ := hSw; go_simp; (try with_reducible rfl)
          try simp only [Act.put, List.getElem_toArray, List.getElem_cons_succ, List.getElem_cons_zero, List.setIfInBounds_toArray, List.set_cons_zero, List.set_cons_succ]
          refine wpAnyT_take (i := 8) (oi := _) (v := ?_) rfl (by kernel_rfl) (by kernel_rfl) (by kernel_rfl) (by kernel_rfl) (by kernel_rfl) (fun _ _ _ h => h) (Or.inl ⟨by kernel_rfl, ?_⟩) hHeld ?_
          rotate_left 1
          · intro w hSw; obtain ⟨hs0, hs1⟩ := hSw; go_simp; (try with_reducible rfl)
          try simp only [Act.put, List.getElem_toArray, List.getElem_cons_succ, List.getElem_cons_zero, List.setIfInBounds_toArray, List.set_cons_zero, List.set_cons_succ]
          refine wpAnyT_ready (rs := [9]) (by kernel_rfl) (by simp) ?_
          refine AllReadyT.cons (o := _) rfl (fun K hK => ?_) AllReadyT.nil
          go_simp
          go_at_call 21; refine (CT1.out _ HRW.out.drew).mono ?_; rintro e W1 ⟨rfl, hb1⟩; obtain ⟨V', W2, hrun, hnz⟩ := HNA.out W1 (below_undrew hb1); obtain ⟨A', c', rfl⟩ := strs_shape hnz.row; have HZ := Lib.hid hnz; have HM1 := Lib.hid (blk_below HY.out.dr.ring.map (below_undrew hb1)); clear hnz hb1
          go_wp2_with fail
          refine hK.out _ _ (fun _ => ⟨HM1.out.cell 1, HM1.out.cell 2⟩) ?_
          clear hK K
          try simp only [Act.put, List.getElem_toArray, List.getElem_cons_succ, List.getElem_cons_zero, List.setIfInBounds_toArray, List.set_cons_zero, List.set_cons_succ]
          refine wpAnyT_ready (rs := [10]) (by kernel_rfl) (by simp) ?_
          refine AllReadyT.cons (o := _) rfl (fun K hK => ?_) AllReadyT.nil
          go_simp
          refine hK.out _ _ (fun _ => ⟨(HM1.out.alloc _).cell 1, (HM1.out.alloc _).cell 2⟩) ?_
          clear hK K
          try simp only [Act.put, List.getElem_toArray, List.getElem_cons_succ, List.getElem_cons_zero, List.setIfInBounds_toArray, List.set_cons_zero, List.set_cons_succ]
          refine wpAnyT_ready (rs := [11]) (by kernel_rfl) (by simp) ?_
          refine AllReadyT.cons (o := _) rfl (fun K hK => ?_) AllReadyT.nil
          refine step_append_run (by rfl) (.tmp 27) (.tmp 37) strsT (by rfl) _ _ _ W2 (by rfl) (by rfl) hrun ?_
          refine hK.out _ _ (fun h => by cases h) ?_
          clear hK K
          try simp only [Act.put, List.getElem_toArray, List.getElem_cons_succ, List.getElem_cons_zero, List.setIfInBounds_toArray, List.set_cons_zero, List.set_cons_succ]
          refine wpAnyT_take0 (i := 12) (oi := _) (v := ?_) rfl (by kernel_rfl) (by kernel_rfl) (by kernel_rfl) (by kernel_rfl) (fun _ _ _ h => h) (Or.inl ⟨by kernel_rfl, ?_⟩) ?_
          rotate_left 1
          · intro w hSw; go_simp; (try with_reducible rfl)
          try simp only [Act.put, List.getElem_toArray, List.getElem_cons_succ, List.getElem_cons_zero, List.setIfInBounds_toArray, List.set_cons_zero, List.set_cons_succ]
          refine wpAnyT_done (by kernel_rfl) ?_ _
          refine NoPanic.normal ?_
          clear hHeld c1 c2 HS8 y0 y1 hrun
          have d1 : W2.cell? ⟨p.x, 1, none⟩ = some (rowV p.g p.mx) := HZ.out.ring.map.cell 1
          have d2 : W2.cell? ⟨p.x, 2, none⟩ = some (.int .i64 f) := HZ.out.ring.map.cell 2
          have d2f : W2.frozen? ⟨p.x, 2, none⟩ = false := HZ.out.ring.map.frozen 2
          have z0 : W2.cell? ⟨h, 0, none⟩ = some (.int .i64 r.size) := HZ.out.blk.cell 0
          have hxh : p.x ≠ h := fun e => by have h1 := HX.out; have h2 := HZ.out.ge; omega
          obtain ⟨f', hf'⟩ : ∃ f', (f + un) % p.mx = f' := ⟨_, rfl⟩
          rw [hf'] at CB
          have HF' := Lib.hid hf'
          clear hf'
          have X3 : Hid (Blk (W2.setCell ⟨p.x, 2, none⟩ (.int .i64 f')).drew p.x mapT #[.pointer (some ⟨p.bm, 0, none⟩), rowV p.g p.mx, .int .i64 f', .int .i64 su, .map (some p.mb)]) := by
            have e := HZ.out.ring.map.set_ 2 (.int .i64 f')
            have e2 : Blk (W2.setCell ⟨p.x, 2, none⟩ (.int .i64 f')) p.x mapT #[.pointer (some ⟨p.bm, 0, none⟩), rowV p.g p.mx, .int .i64 f', .int .i64 (sumU (r :: q) : Nat), .map (some p.mb)] := by simpa using e
            rw [HSU'.out] at e2
            exact e2
          have Z3 : Hid (Blk (W2.setCell ⟨p.x, 2, none⟩ (.int .i64 f')).drew h headT #[.int .i64 r.size, .int .i64 r.state]) := (HZ.out.blk.far hxh.symm _).drew
          have K3 : Hid (Keeps (fun b => b = p.x) W2 (W2.setCell ⟨p.x, 2, none⟩ (.int .i64 f')).drew) := (Keeps.setCell (S := fun b => b = p.x) (Keeps.refl _ W2) (p := ⟨p.x, 2, none⟩) (.inl rfl) _).drew
          have HS9 := Lib.hid (show (fun W : World => W.cell? ⟨p.x, 1, none⟩ = some (rowV p.g p.mx) ∧ W.cell? ⟨p.x, 2, none⟩ = some (.int .i64 f) ∧ W.cell? ⟨h, 0, none⟩ = some (.int .i64 r.size)) W2.drew from ⟨d1, d2, z0⟩)
          go_upto_region 9 with fail
          refine wp_region_noPanic ?_
          refine wp_region_tail [15] (S := (fun W => W.cell? ⟨p.x, 1, none⟩ = some (rowV p.g p.mx) ∧ W.cell? ⟨p.x, 2, none⟩ = some (.int .i64 f) ∧ W.cell? ⟨h, 0, none⟩ = some (.int .i64 r.size))) (by kernel_rfl) ?_
          have hHeld := HS9.out
          refine wpAnyT_take (i := 0) (oi := _) (v := ?_) rfl (by kernel_rfl) (by kernel_rfl) (by kernel_rfl) (by kernel_rfl) (by kernel_rfl) (fun _ _ _ h => h) (Or.inl ⟨by kernel_rfl, ?_⟩) hHeld ?_
          rotate_left 1
          · intro w hSw; obtain ⟨hs0, hs1, hs2⟩ := hSw; go_simp; (try with_reducible rfl)
          try simp only [Act.put, List.getElem_toArray, List.getElem_cons_succ, List.getElem_cons_zero, List.setIfInBounds_toArray, List.set_cons_zero, List.set_cons_succ]
          refine wpAnyT_take (i := 1) (oi := _) (v := ?_) rfl (by kernel_rfl) (by kernel_rfl) (by kernel_rfl) (by kernel_rfl) (by kernel_rfl) (fun _ _ _ h => h) (Or.inl ⟨by kernel_rfl, ?_⟩) hHeld ?_
          rotate_left 1
          · intro w hSw; obtain ⟨hs0, hs1, hs2⟩ := hSw; go_simp; (try with_reducible rfl)
          try simp only [Act.put, List.getElem_toArray, List.getElem_cons_succ, List.getElem_cons_zero, List.setIfInBounds_toArray, List.set_cons_zero, List.set_cons_succ]
          refine wpAnyT_take (i := 2) (oi := _) (v := ?_) rfl (by kernel_rfl) (by kernel_rfl) (by kernel_rfl) (by kernel_rfl) (by kernel_rfl) (fun _ _ _ h => h) (Or.inl ⟨by kernel_rfl, ?_⟩) hHeld ?_
          rotate_left 1
          · intro w hSw; obtain ⟨hs0, hs1, hs2⟩ := hSw; go_simp; (try with_reducible rfl)
          try simp only [Act.put, List.getElem_toArray, List.getElem_cons_succ, List.getElem_cons_zero, List.setIfInBounds_toArray, List.set_cons_zero, List.set_cons_succ]
          refine wpAnyT_take (i := 3) (oi := _) (v := ?_) rfl (by kernel_rfl) (by kernel_rfl) (by kernel_rfl) (by kernel_rfl) (by kernel_rfl) (fun _ _ _ h => h) (Or.inl ⟨by kernel_rfl, ?_⟩) hHeld ?_
          rotate_left 1
          · intro w hSw; obtain ⟨hs0, hs1, hs2⟩ := hSw; go_simp; (try with_reducible rfl)
          try simp only [Act.put, List.getElem_toArray, List.getElem_cons_succ, List.getElem_cons_zero, List.setIfInBounds_toArray, List.set_cons_zero, List.set_cons_succ]
          refine wpAnyT_take (i := 4) (oi := _) (v := ?_) rfl (by kernel_rfl) (by kernel_rfl) (by kernel_rfl) (by kernel_rfl) (by kernel_rfl) (fun _ _ _ h => h) (Or.inl ⟨by kernel_rfl, ?_⟩) hHeld ?_
          rotate_left 1
          · intro w hSw; obtain ⟨hs0, hs1, hs2⟩ := hSw; go_simp; (try with_reducible rfl)
          try simp only [Act.put, List.getElem_toArray, List.getElem_cons_succ, List.getElem_cons_zero, List.setIfInBounds_toArray, List.set_cons_zero, List.set_cons_succ]
          refine wpAnyT_take (i := 5) (oi := _) (v := ?_) rfl (by kernel_rfl) (by kernel_rfl) (by kernel_rfl) (by kernel_rfl) (by kernel_rfl) (fun _ _ _ h => h) (Or.inl ⟨by kernel_rfl, ?_⟩) hHeld ?_
          rotate_left 1
          · intro w hSw; obtain ⟨hs0, hs1, hs2⟩ := hSw; go_simp; (try with_reducible rfl)
          try simp only [Act.put, List.getElem_toArray, List.getElem_cons_succ, List.getElem_cons_zero, List.setIfInBounds_toArray, List.set_cons_zero, List.set_cons_succ]
          refine wpAnyT_take (i := 6) (oi := _) (v := ?_) rfl (by kernel_rfl) (by kernel_rfl) (by kernel_rfl) (by kernel_rfl) (by kernel_rfl) (fun _ _ _ h => h) (Or.inl ⟨by kernel_rfl, ?_⟩) hHeld ?_
          rotate_left 1
          · intro w hSw; obtain ⟨hs0, hs1, hs2⟩ := hSw; go_simp; (try with_reducible rfl)
          try simp only [Act.put, List.getElem_toArray, List.getElem_cons_succ, List.getElem_cons_zero, List.setIfInBounds_toArray, List.set_cons_zero, List.set_cons_succ]
          refine wpAnyT_take (i := 7) (oi := _) (v := ?_) rfl (by kernel_rfl) (by kernel_rfl) (by kernel_rfl) (by kernel_rfl) (by kernel_rfl) (fun _ _ _ h => h) (Or.inl ⟨by kernel_rfl, ?_⟩) hHeld ?_
          rotate_left 1
          · intro w hSw; obtain ⟨hs0, hs1, hs2⟩ := hSw; go_simp; (try with_reducible rfl)
          try simp only [Act.put, List.getElem_toArray, List.getElem_cons_succ, List.getElem_cons_zero, List.setIfInBounds_toArray, List.set_cons_zero, List.set_cons_succ]
          refine wpAnyT_take (i := 8) (oi := _) (v := ?_) rfl (by kernel_rfl) (by kernel_rfl) (by kernel_rfl) (by kernel_rfl) (by kernel_rfl) (fun _ _ _ h => h) (Or.inl ⟨by kernel_rfl, ?_⟩) hHeld ?_
          rotate_left 1
          · intro w hSw; obtain ⟨hs0, hs1, hs2⟩ := hSw; go_simp; (try with_reducible rfl)
          try simp only [Act.put, List.getElem_toArray, List.getElem_cons_succ, List.getElem_cons_zero, List.setIfInBounds_toArray, List.set_cons_zero, List.set_cons_succ]
          refine wpAnyT_take (i := 9) (oi := _) (v := ?_) rfl (by kernel_rfl) (by kernel_rfl) (by kernel_rfl) (by kernel_rfl) (by kernel_rfl) (fun _ _ _ h => h) (Or.inl ⟨by kernel_rfl, ?_⟩) hHeld ?_
          rotate_left 1
          · intro w hSw; obtain ⟨hs0, hs1, hs2⟩ := hSw; go_simp; (try with_reducible rfl)
          try simp only [Act.put, List.getElem_toArray, List.getElem_cons_succ, List.getElem_cons_zero, List.setIfInBounds_toArray, List.set_cons_zero, List.set_cons_succ]
          refine wpAnyT_take (i := 10) (oi := _) (v := ?_) rfl (by kernel_rfl) (by kernel_rfl) (by kernel_rfl) (by kernel_rfl) (by kernel_rfl) (fun _ _ _ h => h) (Or.inl ⟨by kernel_rfl, ?_⟩) hHeld ?_
          rotate_left 1
          · intro w hSw; obtain ⟨hs0, hs1, hs2⟩ := hSw; go_simp; (try with_reducible rfl)
          try simp only [Act.put, List.getElem_toArray, List.getElem_cons_succ, List.getElem_cons_zero, List.setIfInBounds_toArray, List.set_cons_zero, List.set_cons_succ]
          refine wpAnyT_ready (rs := [11]) (by kernel_rfl) (by simp) ?_
          refine AllReadyT.cons (o := _) rfl (fun K hK => ?_) AllReadyT.nil
          go_simp
          go_at_call 23; refine (CU.out _).mono ?_; rintro e w4 ⟨rfl, rfl⟩
          go_wp2_with fail
          refine hK.out _ _ (fun _ => hHeld) ?_
          clear hK K
          try simp only [Act.put, List.getElem_toArray, List.getElem_cons_succ, List.getElem_cons_zero, List.setIfInBounds_toArray, List.set_cons_zero, List.set_cons_succ]
          refine wpAnyT_ready (rs := [12]) (by kernel_rfl) (by simp) ?_
          refine AllReadyT.cons (o := _) rfl (fun K hK => ?_) AllReadyT.nil
          go_simp
          go_at_call 22; refine (CB.out _).mono ?_; rintro e w4 ⟨rfl, rfl⟩
          go_wp2_with fail
          refine hK.out _ _ (fun _ => hHeld) ?_
          clear hK K
          try simp only [Act.put, List.getElem_toArray, List.getElem_cons_succ, List.getElem_cons_zero, List.setIfInBounds_toArray, List.set_cons_zero, List.set_cons_succ]
          refine wpAnyT_take (i := 13) (oi := _) (v := ?_) rfl (by kernel_rfl) (by kernel_rfl) (by kernel_rfl) (by kernel_rfl) (by kernel_rfl) (fun _ _ _ h => h) (Or.inl ⟨by kernel_rfl, ?_⟩) hHeld ?_
          rotate_left 1
          · intro w hSw; obtain ⟨hs0, hs1, hs2⟩ := hSw; go_simp; (try with_reducible rfl)
          try simp only [Act.put, List.getElem_toArray, List.getElem_cons_succ, List.getElem_cons_zero, List.setIfInBounds_toArray, List.set_cons_zero, List.set_cons_succ]
          refine wpAnyT_take (i := 14) (oi := _) (v := ?_) rfl (by kernel_rfl) (by kernel_rfl) (by kernel_rfl) (by kernel_rfl) (by kernel_rfl) (fun _ _ _ h => h) (Or.inl ⟨by kernel_rfl, ?_⟩) hHeld ?_
          rotate_left 1
          · intro w hSw; obtain ⟨hs0, hs1, hs2⟩ := hSw; go_simp; (try with_reducible rfl)
          try simp only [Act.put, List.getElem_toArray, List.getElem_cons_succ, List.getElem_cons_zero, List.setIfInBounds_toArray, List.set_cons_zero, List.set_cons_succ]
          refine wpAnyT_ready (rs := [15]) (by kernel_rfl) (by simp) ?_
          refine AllReadyT.cons (o := _) rfl (fun K hK => ?_) AllReadyT.nil
          go_simp
          refine hK.out _ _ (fun h => by cases h) ?_
          clear hK K
          try simp only [Act.put, List.getElem_toArray, List.getElem_cons_succ, List.getElem_cons_zero, List.setIfInBounds_toArray, List.set_cons_zero, List.set_cons_succ]
          refine wpAnyT_done (by kernel_rfl) ?_ _
          refine NoPanic.normal ?_
          clear hHeld d1 d2 d2f z0 HS9
          go_upto_region 10 with fail
          generalize (W2.setCell ⟨p.x, 2, none⟩ (.int .i64 f')).drew = W3 at X3 Z3 K3 ⊢
          have q3 : W3.cell? ⟨p.x, 3, none⟩ = some (.int .i64 su) := X3.out.cell 3
          have q3f : W3.frozen? ⟨p.x, 3, none⟩ = false := X3.out.frozen 3
          have z3 : W3.cell? ⟨h, 0, none⟩ = some (.int .i64 r.size) := Z3.out.cell 0
          obtain ⟨sq, hsq⟩ : ∃ sq, sumU q = sq := ⟨_, rfl⟩
          have HSQ := Lib.hid hsq
          have e7 : (su : Int) - (un : Int) = (sq : Int) := by have h1 := HSU.out; rw [hsq] at h1; omega
          have e8 : IntKind.i64.wrap (sq : Int) = (sq : Int) := IntWalk.i64_in _ (by omega)
          have HS10 := Lib.hid (show (fun W : World => W.cell? ⟨p.x, 3, none⟩ = some (.int .i64 su) ∧ W.cell? ⟨h, 0, none⟩ = some (.int .i64 r.size)) W3.drew from ⟨q3, z3⟩)
          clear hsq
          refine wp_region_noPanic ?_
          refine wp_region_tail [10] (S := (fun W => W.cell? ⟨p.x, 3, none⟩ = some (.int .i64 su) ∧ W.cell? ⟨h, 0, none⟩ = some (.int .i64 r.size))) (by kernel_rfl) ?_
          have hHeld := HS10.out
          refine wpAnyT_take (i := 0) (oi := _) (v := ?_) rfl (by kernel_rfl) (by kernel_rfl) (by kernel_rfl) (by kernel_rfl) (by kernel_rfl) (fun _ _ _ h => h) (Or.inl ⟨by kernel_rfl, ?_⟩) hHeld ?_
          rotate_left 1
          · intro w hSw; obtain ⟨hs0, hs1⟩ := hSw; go_simp; (try with_reducible rfl)
          try simp only [Act.put, List.getElem_toArray, List.getElem_cons_succ, List.getElem_cons_zero, List.setIfInBounds_toArray, List.set_cons_zero, List.set_cons_succ]
          refine wpAnyT_take (i := 1) (oi := _) (v := ?_) rfl (by kernel_rfl) (by kernel_rfl) (by kernel_rfl) (by kernel_rfl) (by kernel_rfl) (fun _ _ _ h => h) (Or.inl ⟨by kernel_rfl, ?_⟩) hHeld ?_
          rotate_left 1
          · intro w hSw; obtain ⟨hs0, hs1⟩ := hSw; go_simp; (try with_reducible rfl)
          try simp only [Act.put, List.getElem_toArray, List.getElem_cons_succ, List.getElem_cons_zero, List.setIfInBounds_toArray, List.set_cons_zero, List.set_cons_succ]
          refine wpAnyT_take (i := 2) (oi := _) (v := ?_) rfl (by kernel_rfl) (by kernel_rfl) (by kernel_rfl) (by kernel_rfl) (by kernel_rfl) (fun _ _ _ h => h) (Or.inl ⟨by kernel_rfl, ?_⟩) hHeld ?_
          rotate_left 1
          · intro w hSw; obtain ⟨hs0, hs1⟩ := hSw; go_simp; (try with_reducible rfl)
          try simp only [Act.put, List.getElem_toArray, List.getElem_cons_succ, List.getElem_cons_zero, List.setIfInBounds_toArray, List.set_cons_zero, List.set_cons_succ]
          refine wpAnyT_take (i := 3) (oi := _) (v := ?_) rfl (by kernel_rfl) (by kernel_rfl) (by kernel_rfl) (by kernel_rfl) (by kernel_rfl) (fun _ _ _ h => h) (Or.inl ⟨by kernel_rfl, ?_⟩) hHeld ?_
          rotate_left 1
          · intro w hSw; obtain ⟨hs0, hs1⟩ := hSw; go_simp; (try with_reducible rfl)
          try simp only [Act.put, List.getElem_toArray, List.getElem_cons_succ, List.getElem_cons_zero, List.setIfInBounds_toArray, List.set_cons_zero, List.set_cons_succ]
          refine wpAnyT_take (i := 4) (oi := _) (v := ?_) rfl (by kernel_rfl) (by kernel_rfl) (by kernel_rfl) (by kernel_rfl) (by kernel_rfl) (fun _ _ _ h => h) (Or.inl ⟨by kernel_rfl, ?_⟩) hHeld ?_
          rotate_left 1
          · intro w hSw; obtain ⟨hs0, hs1⟩ := hSw; go_simp; (try with_reducible rfl)
          try simp only [Act.put, List.getElem_toArray, List.getElem_cons_succ, List.getElem_cons_zero, List.setIfInBounds_toArray, List.set_cons_zero, List.set_cons_succ]
          refine wpAnyT_take (i := 5) (oi := _) (v := ?_) rfl (by kernel_rfl) (by kernel_rfl) (by kernel_rfl) (by kernel_rfl) (by kernel_rfl) (fun _ _ _ h => h) (Or.inl ⟨by kernel_rfl, ?_⟩) hHeld ?_
          rotate_left 1
          · intro w hSw; obtain ⟨hs0, hs1⟩ := hSw; go_simp; (try with_reducible rfl)
          try simp only [Act.put, List.getElem_toArray, List.getElem_cons_succ, List.getElem_cons_zero, List.setIfInBounds_toArray, List.set_cons_zero, List.set_cons_succ]
          refine wpAnyT_ready (rs := [6]) (by kernel_rfl) (by simp) ?_
          refine AllReadyT.cons (o := _) rfl (fun K hK => ?_) AllReadyT.nil
          go_simp
          go_at_call 23; refine (CU.out _).mono ?_; rintro e w4 ⟨rfl, rfl⟩
          go_wp2_with fail
          refine hK.out _ _ (fun _ => hHeld) ?_
          clear hK K
          try simp only [Act.put, List.getElem_toArray, List.getElem_cons_succ, List.getElem_cons_zero, List.setIfInBounds_toArray, List.set_cons_zero, List.set_cons_succ]
          refine wpAnyT_take (i := 7) (oi := _) (v := ?_) rfl (by kernel_rfl) (by kernel_rfl) (by kernel_rfl) (by kernel_rfl) (by kernel_rfl) (fun _ _ _ h => h) (Or.inl ⟨by kernel_rfl, ?_⟩) hHeld ?_
          rotate_left 1
          · intro w hSw; obtain ⟨hs0, hs1⟩ := hSw; go_simp; (try with_reducible rfl)
          try simp only [Act.put, List.getElem_toArray, List.getElem_cons_succ, List.getElem_cons_zero, List.setIfInBounds_toArray, List.set_cons_zero, List.set_cons_succ]
          refine wpAnyT_take (i := 8) (oi := _) (v := ?_) rfl (by kernel_rfl) (by kernel_rfl) (by kernel_rfl) (by kernel_rfl) (by kernel_rfl) (fun _ _ _ h => h) (Or.inl ⟨by kernel_rfl, ?_⟩) hHeld ?_
          rotate_left 1
          · intro w hSw; obtain ⟨hs0, hs1⟩ := hSw; go_simp; (try with_reducible rfl)
          try simp only [Act.put, List.getElem_toArray, List.getElem_cons_succ, List.getElem_cons_zero, List.setIfInBounds_toArray, List.set_cons_zero, List.set_cons_succ]
          refine wpAnyT_take (i := 9) (oi := _) (v := ?_) rfl (by kernel_rfl) (by kernel_rfl) (by kernel_rfl) (by kernel_rfl) (by kernel_rfl) (fun _ _ _ h => h) (Or.inl ⟨by kernel_rfl, ?_⟩) hHeld ?_
          rotate_left 1
          · intro w hSw; obtain ⟨hs0, hs1⟩ := hSw; go_simp; (try with_reducible rfl)
          try simp only [Act.put, List.getElem_toArray, List.getElem_cons_succ, List.getElem_cons_zero, List.setIfInBounds_toArray, List.set_cons_zero, List.set_cons_succ]
          refine wpAnyT_ready (rs := [10]) (by kernel_rfl) (by simp) ?_
          refine AllReadyT.cons (o := _) rfl (fun K hK => ?_) AllReadyT.nil
          go_simp
          refine hK.out _ _ (fun h => by cases h) ?_
          clear hK K
          try simp only [Act.put, List.getElem_toArray, List.getElem_cons_succ, List.getElem_cons_zero, List.setIfInBounds_toArray, List.set_cons_zero, List.set_cons_succ]
          refine wpAnyT_done (by kernel_rfl) ?_ _
          refine NoPanic.normal ?_
          clear hHeld q3 q3f z3 HS10
          have X4 : Hid (Blk (W3.setCell ⟨p.x, 3, none⟩ (.int .i64 sq)).drew p.x mapT (liveC p f' sq)) := by
            have e := X3.out.set_ 3 (.int .i64 (sq : Int))
            have e2 : Blk (W3.setCell ⟨p.x, 3, none⟩ (.int .i64 sq)) p.x mapT (liveC p f' sq) := by simpa using e
            exact e2.drew
          have K4 : Hid (Keeps (fun b => b = p.x) W2 (W3.setCell ⟨p.x, 3, none⟩ (.int .i64 sq)).drew) := (Keeps.setCell (S := fun b => b = p.x) K3.out (p := ⟨p.x, 3, none⟩) (.inl rfl) _).drew
          generalize (W3.setCell ⟨p.x, 3, none⟩ (.int .i64 (sq : Int))).drew = W4 at X4 K4 ⊢
          have HN := Lib.hid (DR.next HD.out HO.out (by rw [H0.out]; decide) W2 W4 HZ.out.ring HZ.out.keeps HZ.out.row K4.out HX.out (by rw [HUS.out, HF'.out, HSQ.out]; exact X4.out))
          have hm4 : W4.cell? ⟨p.x, 3, none⟩ = some (.int .i64 sq) := X4.out.cell 3
          have HLT : Hid (sq < su) := by
            have h1 := HSU.out
            have h2 := uses_ge r.size
            rw [HUS.out] at h2
            rw [HSQ.out] at h1
            show sq < su
            omega
          go_wp2_with fail
          go_roundw
          case rel => exact ⟨_, _, _, HN.out⟩
          case measure =>
            have := HLT.out
            rw [hm4, c3]
            simp [intOf]
            omega
        · have H0 := Lib.hid h0
          rw [h0] at y1
          clear h0 hst
          have HZ := Lib.hid (HY.out.silent (by rw [H0.out]; decide))
          have d1 : W.cell? ⟨p.x, 1, none⟩ = some (rowV p.g p.mx) := HZ.out.ring.map.cell 1
          have d2 : W.cell? ⟨p.x, 2, none⟩ = some (.int .i64 f) := HZ.out.ring.map.cell 2
          have d2f : W.frozen? ⟨p.x, 2, none⟩ = false := HZ.out.ring.map.frozen 2
          have z0 : W.cell? ⟨h, 0, none⟩ = some (.int .i64 r.size) := HZ.out.blk.cell 0
          have hxh : p.x ≠ h := fun e => by have h1 := HX.out; have h2 := HZ.out.ge; omega
          obtain ⟨f', hf'⟩ : ∃ f', (f + un) % p.mx = f' := ⟨_, rfl⟩
          rw [hf'] at CB
          have HF' := Lib.hid hf'
          clear hf'
          have X3 : Hid (Blk (W.setCell ⟨p.x, 2, none⟩ (.int .i64 f')).drew p.x mapT #[.pointer (some ⟨p.bm, 0, none⟩), rowV p.g p.mx, .int .i64 f', .int .i64 su, .map (some p.mb)]) := by
            have e := HZ.out.ring.map.set_ 2 (.int .i64 f')
            have e2 : Blk (W.setCell ⟨p.x, 2, none⟩ (.int .i64 f')) p.x mapT #[.pointer (some ⟨p.bm, 0, none⟩), rowV p.g p.mx, .int .i64 f', .int .i64 (sumU (r :: q) : Nat), .map (some p.mb)] := by simpa using e
            rw [HSU'.out] at e2
            exact e2
          have Z3 : Hid (Blk (W.setCell ⟨p.x, 2, none⟩ (.int .i64 f')).drew h headT #[.int .i64 r.size, .int .i64 r.state]) := (HZ.out.blk.far hxh.symm _).drew
          have K3 : Hid (Keeps (fun b => b = p.x) W (W.setCell ⟨p.x, 2, none⟩ (.int .i64 f')).drew) := (Keeps.setCell (S := fun b => b = p.x) (Keeps.refl _ W) (p := ⟨p.x, 2, none⟩) (.inl rfl) _).drew
          have HS9 := Lib.hid (show (fun W : World => W.cell? ⟨p.x, 1, none⟩ = some (rowV p.g p.mx) ∧ W.cell? ⟨p.x, 2, none⟩ = some (.int .i64 f) ∧ W.cell? ⟨h, 0, none⟩ = some (.int .i64 r.size)) W.drew from ⟨d1, d2, z0⟩)
          go_upto_region 9 with fail
          refine wp_region_noPanic ?_
          refine wp_region_tail [15] (S := (fun W => W.cell? ⟨p.x, 1, none⟩ = some (rowV p.g p.mx) ∧ W.cell? ⟨p.x, 2, none⟩ = some (.int .i64 f) ∧ W.cell? ⟨h, 0, none⟩ = some (.int .i64 r.size))) (by kernel_rfl) ?_
          have hHeld := HS9.out
          refine wpAnyT_take (i := 0) (oi := _) (v := ?_) rfl (by kernel_rfl) (by kernel_rfl) (by kernel_rfl) (by kernel_rfl) (by kernel_rfl) (fun _ _ _ h => h) (Or.inl ⟨by kernel_rfl, ?_⟩) hHeld ?_
          rotate_left 1
          · intro w hSw; obtain ⟨hs0, hs1, hs2⟩ := hSw; go_simp; (try with_reducible rfl)
          try simp only [Act.put, List.getElem_toArray, List.getElem_cons_succ, List.getElem_cons_zero, List.setIfInBounds_toArray, List.set_cons_zero, List.set_cons_succ]
          refine wpAnyT_take (i := 1) (oi := _) (v := ?_) rfl (by kernel_rfl) (by kernel_rfl) (by kernel_rfl) (by kernel_rfl) (by kernel_rfl) (fun _ _ _ h => h) (Or.inl ⟨by kernel_rfl, ?_⟩) hHeld ?_
          rotate_left 1
          · intro w hSw; obtain ⟨hs0, hs1, hs2⟩ := hSw; go_simp; (try with_reducible rfl)
          try simp only [Act.put, List.getElem_toArray, List.getElem_cons_succ, List.getElem_cons_zero, List.setIfInBounds_toArray, List.set_cons_zero, List.set_cons_succ]
          refine wpAnyT_take (i := 2) (oi := _) (v := ?_) rfl (by kernel_rfl) (by kernel_rfl) (by kernel_rfl) (by kernel_rfl) (by kernel_rfl) (fun _ _ _ h => h) (Or.inl ⟨by kernel_rfl, ?_⟩) hHeld ?_
          rotate_left 1
          · intro w hSw; obtain ⟨hs0, hs1, hs2⟩ := hSw; go_simp; (try with_reducible rfl)
          try simp only [Act.put, List.getElem_toArray, List.getElem_cons_succ, List.getElem_cons_zero, List.setIfInBounds_toArray, List.set_cons_zero, List.set_cons_succ]
          refine wpAnyT_take (i := 3) (oi := _) (v := ?_) rfl (by kernel_rfl) (by kernel_rfl) (by kernel_rfl) (by kernel_rfl) (by kernel_rfl) (fun _ _ _ h => h) (Or.inl ⟨by kernel_rfl, ?_⟩) hHeld ?_
          rotate_left 1
          · intro w hSw; obtain ⟨hs0, hs1, hs2⟩ := hSw; go_simp; (try with_reducible rfl)
          try simp only [Act.put, List.getElem_toArray, List.getElem_cons_succ, List.getElem_cons_zero, List.setIfInBounds_toArray, List.set_cons_zero, List.set_cons_succ]
          refine wpAnyT_take (i := 4) (oi := _) (v := ?_) rfl (by kernel_rfl) (by kernel_rfl) (by kernel_rfl) (by kernel_rfl) (by kernel_rfl) (fun _ _ _ h => h) (Or.inl ⟨by kernel_rfl, ?_⟩) hHeld ?_
          rotate_left 1
          · intro w hSw; obtain ⟨hs0, hs1, hs2⟩ := hSw; go_simp; (try with_reducible rfl)
          try simp only [Act.put, List.getElem_toArray, List.getElem_cons_succ, List.getElem_cons_zero, List.setIfInBounds_toArray, List.set_cons_zero, List.set_cons_succ]
          refine wpAnyT_take (i := 5) (oi := _) (v := ?_) rfl (by kernel_rfl) (by kernel_rfl) (by kernel_rfl) (by kernel_rfl) (by kernel_rfl) (fun _ _ _ h => h) (Or.inl ⟨by kernel_rfl, ?_⟩) hHeld ?_
          rotate_left 1
          · intro w hSw; obtain ⟨hs0, hs1, hs2⟩ := hSw; go_simp; (try with_reducible rfl)
          try simp only [Act.put, List.getElem_toArray, List.getElem_cons_succ, List.getElem_cons_zero, List.setIfInBounds_toArray, List.set_cons_zero, List.set_cons_succ]
          refine wpAnyT_take (i := 6) (oi := _) (v := ?_) rfl (by kernel_rfl) (by kernel_rfl) (by kernel_rfl) (by kernel_rfl) (by kernel_rfl) (fun _ _ _ h => h) (Or.inl ⟨by kernel_rfl, ?_⟩) hHeld ?_
          rotate_left 1
          · intro w hSw; obtain ⟨hs0, hs1, hs2⟩ := hSw; go_simp; (try with_reducible rfl)
          try simp only [Act.put, List.getElem_toArray, List.getElem_cons_succ, List.getElem_cons_zero, List.setIfInBounds_toArray, List.set_cons_zero, List.set_cons_succ]
          refine wpAnyT_take (i := 7) (oi := _) (v := ?_) rfl (by kernel_rfl) (by kernel_rfl) (by kernel_rfl) (by kernel_rfl) (by kernel_rfl) (fun _ _ _ h => h) (Or.inl ⟨by kernel_rfl, ?_⟩) hHeld ?_
          rotate_left 1
          · intro w hSw; obtain ⟨hs0, hs1, hs2⟩ := hSw; go_simp; (try with_reducible rfl)
          try simp only [Act.put, List.getElem_toArray, List.getElem_cons_succ, List.getElem_cons_zero, List.setIfInBounds_toArray, List.set_cons_zero, List.set_cons_succ]
          refine wpAnyT_take (i := 8) (oi := _) (v := ?_) rfl (by kernel_rfl) (by kernel_rfl) (by kernel_rfl) (by kernel_rfl) (by kernel_rfl) (fun _ _ _ h => h) (Or.inl ⟨by kernel_rfl, ?_⟩) hHeld ?_
          rotate_left 1
          · intro w hSw; obtain ⟨hs0, hs1, hs2⟩ := hSw; go_simp; (try with_reducible rfl)
          try simp only [Act.put, List.getElem_toArray, List.getElem_cons_succ, List.getElem_cons_zero, List.setIfInBounds_toArray, List.set_cons_zero, List.set_cons_succ]
          refine wpAnyT_take (i := 9) (oi := _) (v := ?_) rfl (by kernel_rfl) (by kernel_rfl) (by kernel_rfl) (by kernel_rfl) (by kernel_rfl) (fun _ _ _ h => h) (Or.inl ⟨by kernel_rfl, ?_⟩) hHeld ?_
          rotate_left 1
          · intro w hSw; obtain ⟨hs0, hs1, hs2⟩ := hSw; go_simp; (try with_reducible rfl)
          try simp only [Act.put, List.getElem_toArray, List.getElem_cons_succ, List.getElem_cons_zero, List.setIfInBounds_toArray, List.set_cons_zero, List.set_cons_succ]
          refine wpAnyT_take (i := 10) (oi := _) (v := ?_) rfl (by kernel_rfl) (by kernel_rfl) (by kernel_rfl) (by kernel_rfl) (by kernel_rfl) (fun _ _ _ h => h) (Or.inl ⟨by kernel_rfl, ?_⟩) hHeld ?_
          rotate_left 1
          · intro w hSw; obtain ⟨hs0, hs1, hs2⟩ := hSw; go_simp; (try with_reducible rfl)
          try simp only [Act.put, List.getElem_toArray, List.getElem_cons_succ, List.getElem_cons_zero, List.setIfInBounds_toArray, List.set_cons_zero, List.set_cons_succ]
          refine wpAnyT_ready (rs := [11]) (by kernel_rfl) (by simp) ?_
          refine AllReadyT.cons (o := _) rfl (fun K hK => ?_) AllReadyT.nil
          go_simp
          go_at_call 23; refine (CU.out _).mono ?_; rintro e w4 ⟨rfl, rfl⟩
          go_wp2_with fail
          refine hK.out _ _ (fun _ => hHeld) ?_
          clear hK K
          try simp only [Act.put, List.getElem_toArray, List.getElem_cons_succ, List.getElem_cons_zero, List.setIfInBounds_toArray, List.set_cons_zero, List.set_cons_succ]
          refine wpAnyT_ready (rs := [12]) (by kernel_rfl) (by simp) ?_
          refine AllReadyT.cons (o := _) rfl (fun K hK => ?_) AllReadyT.nil
          go_simp
          go_at_call 22; refine (CB.out _).mono ?_; rintro e w4 ⟨rfl, rfl⟩
          go_wp2_with fail
          refine hK.out _ _ (fun _ => hHeld) ?_
          clear hK K
          try simp only [Act.put, List.getElem_toArray, List.getElem_cons_succ, List.getElem_cons_zero, List.setIfInBounds_toArray, List.set_cons_zero, List.set_cons_succ]
          refine wpAnyT_take (i := 13) (oi := _) (v := ?_) rfl (by kernel_rfl) (by kernel_rfl) (by kernel_rfl) (by kernel_rfl) (by kernel_rfl) (fun _ _ _ h => h) (Or.inl ⟨by kernel_rfl, ?_⟩) hHeld ?_
          rotate_left 1
          · intro w hSw; obtain ⟨hs0, hs1, hs2⟩ := hSw; go_simp; (try with_reducible rfl)
          try simp only [Act.put, List.getElem_toArray, List.getElem_cons_succ, List.getElem_cons_zero, List.setIfInBounds_toArray, List.set_cons_zero, List.set_cons_succ]
          refine wpAnyT_take (i := 14) (oi := _) (v := ?_) rfl (by kernel_rfl) (by kernel_rfl) (by kernel_rfl) (by kernel_rfl) (by kernel_rfl) (fun _ _ _ h => h) (Or.inl ⟨by kernel_rfl, ?_⟩) hHeld ?_
          rotate_left 1
          · intro w hSw; obtain ⟨hs0, hs1, hs2⟩ := hSw; go_simp; (try with_reducible rfl)
          try simp only [Act.put, List.getElem_toArray, List.getElem_cons_succ, List.getElem_cons_zero, List.setIfInBounds_toArray, List.set_cons_zero, List.set_cons_succ]
          refine wpAnyT_ready (rs := [15]) (by kernel_rfl) (by simp) ?_
          refine AllReadyT.cons (o := _) rfl (fun K hK => ?_) AllReadyT.nil
          go_simp
          refine hK.out _ _ (fun h => by cases h) ?_
          clear hK K
          try simp only [Act.put, List.getElem_toArray, List.getElem_cons_succ, List.getElem_cons_zero, List.setIfInBounds_toArray, List.set_cons_zero, List.set_cons_succ]
          refine wpAnyT_done (by kernel_rfl) ?_ _
          refine NoPanic.normal ?_
          clear hHeld d1 d2 d2f z0 HS9
          go_upto_region 10 with fail
          generalize (W.setCell ⟨p.x, 2, none⟩ (.int .i64 f')).drew = W3 at X3 Z3 K3 ⊢
          have q3 : W3.cell? ⟨p.x, 3, none⟩ = some (.int .i64 su) := X3.out.cell 3
          have q3f : W3.frozen? ⟨p.x, 3, none⟩ = false := X3.out.frozen 3
          have z3 : W3.cell? ⟨h, 0, none⟩ = some (.int .i64 r.size) := Z3.out.cell 0
          obtain ⟨sq, hsq⟩ : ∃ sq, sumU q = sq := ⟨_, rfl⟩
          have HSQ := Lib.hid hsq
          have e7 : (su : Int) - (un : Int) = (sq : Int) := by have h1 := HSU.out; rw [hsq] at h1; omega
          have e8 : IntKind.i64.wrap (sq : Int) = (sq : Int) := IntWalk.i64_in _ (by omega)
          have HS10 := Lib.hid (show (fun W : World => W.cell? ⟨p.x, 3, none⟩ = some (.int .i64 su) ∧ W.cell? ⟨h, 0, none⟩ = some (.int .i64 r.size)) W3.drew from ⟨q3, z3⟩)
          clear hsq
          refine wp_region_noPanic ?_
          refine wp_region_tail [10] (S := (fun W => W.cell? ⟨p.x, 3, none⟩ = some (.int .i64 su) ∧ W.cell? ⟨h, 0, none⟩ = some (.int .i64 r.size))) (by kernel_rfl) ?_
          have hHeld := HS10.out
          refine wpAnyT_take (i := 0) (oi := _) (v := ?_) rfl (by kernel_rfl) (by kernel_rfl) (by kernel_rfl) (by kernel_rfl) (by kernel_rfl) (fun _ _ _ h => h) (Or.inl ⟨by kernel_rfl, ?_⟩) hHeld ?_
          rotate_left 1
          · intro w hSw; obtain ⟨hs0, hs1⟩ := hSw; go_simp; (try with_reducible rfl)
          try simp only [Act.put, List.getElem_toArray, List.getElem_cons_succ, List.getElem_cons_zero, List.setIfInBounds_toArray, List.set_cons_zero, List.set_cons_succ]
          refine wpAnyT_take (i := 1) (oi := _) (v := ?_) rfl (by kernel_rfl) (by kernel_rfl) (by kernel_rfl) (by kernel_rfl) (by kernel_rfl) (fun _ _ _ h => h) (Or.inl ⟨by kernel_rfl, ?_⟩) hHeld ?_
          rotate_left 1
          · intro w hSw; obtain ⟨hs0, hs1⟩ := hSw; go_simp; (try with_reducible rfl)
          try simp only [Act.put, List.getElem_toArray, List.getElem_cons_succ, List.getElem_cons_zero, List.setIfInBounds_toArray, List.set_cons_zero, List.set_cons_succ]
          refine wpAnyT_take (i := 2) (oi := _) (v := ?_) rfl (by kernel_rfl) (by kernel_rfl) (by kernel_rfl) (by kernel_rfl) (by kernel_rfl) (fun _ _ _ h => h) (Or.inl ⟨by kernel_rfl, ?_⟩) hHeld ?_
          rotate_left 1
          · intro w hSw; obtain ⟨hs0, hs1⟩ := hSw; go_simp; (try with_reducible rfl)
          try simp only [Act.put, List.getElem_toArray, List.getElem_cons_succ, List.getElem_cons_zero, List.setIfInBounds_toArray, List.set_cons_zero, List.set_cons_succ]
          refine wpAnyT_take (i := 3) (oi := _) (v := ?_) rfl (by kernel_rfl) (by kernel_rfl) (by kernel_rfl) (by kernel_rfl) (by kernel_rfl) (fun _ _ _ h => h) (Or.inl ⟨by kernel_rfl, ?_⟩) hHeld ?_
          rotate_left 1
          · intro w hSw; obtain ⟨hs0, hs1⟩ := hSw; go_simp; (try with_reducible rfl)
          try simp only [Act.put, List.getElem_toArray, List.getElem_cons_succ, List.getElem_cons_zero, List.setIfInBounds_toArray, List.set_cons_zero, List.set_cons_succ]
          refine wpAnyT_take (i := 4) (oi := _) (v := ?_) rfl (by kernel_rfl) (by kernel_rfl) (by kernel_rfl) (by kernel_rfl) (by kernel_rfl) (fun _ _ _ h => h) (Or.inl ⟨by kernel_rfl, ?_⟩) hHeld ?_
          rotate_left 1
          · intro w hSw; obtain ⟨hs0, hs1⟩ := hSw; go_simp; (try with_reducible rfl)
          try simp only [Act.put, List.getElem_toArray, List.getElem_cons_succ, List.getElem_cons_zero, List.setIfInBounds_toArray, List.set_cons_zero, List.set_cons_succ]
          refine wpAnyT_take (i := 5) (oi := _) (v := ?_) rfl (by kernel_rfl) (by kernel_rfl) (by kernel_rfl) (by kernel_rfl) (by kernel_rfl) (fun _ _ _ h => h) (Or.inl ⟨by kernel_rfl, ?_⟩) hHeld ?_
          rotate_left 1
          · intro w hSw; obtain ⟨hs0, hs1⟩ := hSw; go_simp; (try with_reducible rfl)
          try simp only [Act.put, List.getElem_toArray, List.getElem_cons_succ, List.getElem_cons_zero, List.setIfInBounds_toArray, List.set_cons_zero, List.set_cons_succ]
          refine wpAnyT_ready (rs := [6]) (by kernel_rfl) (by simp) ?_
          refine AllReadyT.cons (o := _) rfl (fun K hK => ?_) AllReadyT.nil
          go_simp
          go_at_call 23; refine (CU.out _).mono ?_; rintro e w4 ⟨rfl, rfl⟩
          go_wp2_with fail
          refine hK.out _ _ (fun _ => hHeld) ?_
          clear hK K
          try simp only [Act.put, List.getElem_toArray, List.getElem_cons_succ, List.getElem_cons_zero, List.setIfInBounds_toArray, List.set_cons_zero, List.set_cons_succ]
          refine wpAnyT_take (i := 7) (oi := _) (v := ?_) rfl (by kernel_rfl) (by kernel_rfl) (by kernel_rfl) (by kernel_rfl) (by kernel_rfl) (fun _ _ _ h => h) (Or.inl ⟨by kernel_rfl, ?_⟩) hHeld ?_
          rotate_left 1
          · intro w hSw; obtain ⟨hs0, hs1⟩ := hSw; go_simp; (try with_reducible rfl)
          try simp only [Act.put, List.getElem_toArray, List.getElem_cons_succ, List.getElem_cons_zero, List.setIfInBounds_toArray, List.set_cons_zero, List.set_cons_succ]
          refine wpAnyT_take (i := 8) (oi := _) (v := ?_) rfl (by kernel_rfl) (by kernel_rfl) (by kernel_rfl) (by kernel_rfl) (by kernel_rfl) (fun _ _ _ h => h) (Or.inl ⟨by kernel_rfl, ?_⟩) hHeld ?_
          rotate_left 1
          · intro w hSw; obtain ⟨hs0, hs1⟩ := hSw; go_simp; (try with_reducible rfl)
          try simp only [Act.put, List.getElem_toArray, List.getElem_cons_succ, List.getElem_cons_zero, List.setIfInBounds_toArray, List.set_cons_zero, List.set_cons_succ]
          refine wpAnyT_take (i := 9) (oi := _) (v := ?_) rfl (by kernel_rfl) (by kernel_rfl) (by kernel_rfl) (by kernel_rfl) (by kernel_rfl) (fun _ _ _ h => h) (Or.inl ⟨by kernel_rfl, ?_⟩) hHeld ?_
          rotate_left 1
          · intro w hSw; obtain ⟨hs0, hs1⟩ := hSw; go_simp; (try with_reducible rfl)
          try simp only [Act.put, List.getElem_toArray, List.getElem_cons_succ, List.getElem_cons_zero, List.setIfInBounds_toArray, List.set_cons_zero, List.set_cons_succ]
          refine wpAnyT_ready (rs := [10]) (by kernel_rfl) (by simp) ?_
          refine AllReadyT.cons (o := _) rfl (fun K hK => ?_) AllReadyT.nil
          go_simp
          refine hK.out _ _ (fun h => by cases h) ?_
          clear hK K
          try simp only [Act.put, List.getElem_toArray, List.getElem_cons_succ, List.getElem_cons_zero, List.setIfInBounds_toArray, List.set_cons_zero, List.set_cons_succ]
          refine wpAnyT_done (by kernel_rfl) ?_ _
          refine NoPanic.normal ?_
          clear hHeld q3 q3f z3 HS10
          have X4 : Hid (Blk (W3.setCell ⟨p.x, 3, none⟩ (.int .i64 sq)).drew p.x mapT (liveC p f' sq)) := by
            have e := X3.out.set_ 3 (.int .i64 (sq : Int))
            have e2 : Blk (W3.setCell ⟨p.x, 3, none⟩ (.int .i64 sq)) p.x mapT (liveC p f' sq) := by simpa using e
            exact e2.drew
          have K4 : Hid (Keeps (fun b => b = p.x) W (W3.setCell ⟨p.x, 3, none⟩ (.int .i64 sq)).drew) := (Keeps.setCell (S := fun b => b = p.x) K3.out (p := ⟨p.x, 3, none⟩) (.inl rfl) _).drew
          generalize (W3.setCell ⟨p.x, 3, none⟩ (.int .i64 (sq : Int))).drew = W4 at X4 K4 ⊢
          have HN := Lib.hid (DR.next HD.out HO.out (by rw [H0.out]; decide) W W4 HZ.out.ring HZ.out.keeps HZ.out.row K4.out HX.out (by rw [HUS.out, HF'.out, HSQ.out]; exact X4.out))
          have hm4 : W4.cell? ⟨p.x, 3, none⟩ = some (.int .i64 sq) := X4.out.cell 3
          have HLT : Hid (sq < su) := by
            have h1 := HSU.out
            have h2 := uses_ge r.size
            rw [HUS.out] at h2
            rw [HSQ.out] at h1
            show sq < su
            omega
          go_wp2_with fail
          go_roundw
          case rel => exact ⟨_, _, _, HN.out⟩
          case measure =>
            have := HLT.out
            rw [hm4, c3]
            simp [intOf]
            omega
      · -- way 2
        generalize ((w1.setCell ⟨wr.heap.size, 0, none⟩ (.int .i64 r.size)).setCell ⟨wr.heap.size, 1, none⟩ (.int .i64 r.state)) = W at HY ⊢
        clear S0 S0' S3 S4 hk0 hk1 hkf hxne
        generalize wr.heap.size = h at HY ⊢
        rename_i hHeld
        clear hHeld
        have y0 : W.cell? ⟨h, 0, none⟩ = some (.int .i64 r.size) := HY.out.blk.cell 0
        have y1 : W.cell? ⟨h, 1, none⟩ = some (.int .i64 r.state) := HY.out.blk.cell 1
        rcases (show r.state = 0 ∨ r.state = 1 ∨ r.state = 2 by omega) with h0 | h0 | h0
        · have H0 := Lib.hid h0
          rw [h0] at y1
          clear h0 hst
          go_wp2_with fail
          go_ret
          exact ⟨_, rfl, HEND.out _ _ _ _ _ HY.out.dr (fun r' q' e => by cases e; exact H0.out)⟩
        · have H0 := Lib.hid h0
          rw [h0] at y1
          clear h0 hst
          have c1 : W.cell? ⟨p.x, 1, none⟩ = some (rowV p.g p.mx) := HY.out.dr.ring.map.cell 1
          have c2 : W.cell? ⟨p.x, 2, none⟩ = some (.int .i64 f) := HY.out.dr.ring.map.cell 2
          have CT1 : Hid (∀ (w : World), Blk w p.g u8T (bs.map byteV).toArray → Calls Try.prog 21 #[rowV p.g p.mx, .int .i64 f] w fun e w' => e = .returned (.string (bstr r.text)) ∧ Below w.heap.size w w') := by
            intro w hb
            have := CT.out w hb
            rwa [HTX.out H0.out] at this
          have HDL : Hid (done.length ≤ 65536) := by
            have h1 := HO.out.sum
            rw [HD.out.rs, sumU_append] at h1
            have h2 := len_sumU done
            have h3 := HO.out.mle
            show done.length ≤ 65536
            omega
          have HNA := Lib.hid (fun (W1 : World) (hb : Below W.heap.size W W1) => HY.out.told_ H0.out hb HB.out HDL.out)
          have HRW := Lib.hid HY.out.dr.ring.row
          clear CT HTX CH
          go_upto_region 8 with fail
          have HS8 := Lib.hid (show (fun W : World => W.cell? ⟨p.x, 1, none⟩ = some (rowV p.g p.mx) ∧ W.cell? ⟨p.x, 2, none⟩ = some (.int .i64 f)) W.drew from ⟨c1, c2⟩)
          refine wp_region_noPanic ?_
          refine wp_region_tail [11, 12] (S := (fun W => W.cell? ⟨p.x, 1, none⟩ = some (rowV p.g p.mx) ∧ W.cell? ⟨p.x, 2, none⟩ = some (.int .i64 f))) (by kernel_rfl) ?_
          have hHeld := HS8.out
          refine wpAnyT_take (i := 0) (oi := _) (v := ?_) rfl (by kernel_rfl) (by kernel_rfl) (by kernel_rfl) (by kernel_rfl) (by kernel_rfl) (fun _ _ _ h => h) (Or.inl ⟨by kernel_rfl, ?_⟩) hHeld ?_
          rotate_left 1
          · intro w hSw; obtain ⟨hs0, hs1⟩ := hSw; go_simp; (try with_reducible rfl)
          try simp only [Act.put, List.getElem_toArray, List.getElem_cons_succ, List.getElem_cons_zero, List.setIfInBounds_toArray, List.set_cons_zero, List.set_cons_succ]
          refine wpAnyT_take (i := 1) (oi := _) (v := ?_) rfl (by kernel_rfl) (by kernel_rfl) (by kernel_rfl) (by kernel_rfl) (by kernel_rfl) (fun _ _ _ h => h) (Or.inl ⟨by kernel_rfl, ?_⟩) hHeld ?_
          rotate_left 1
          · intro w hSw; obtain ⟨hs0, hs1⟩ := hSw; go_simp; (try with_reducible rfl)
          try simp only [Act.put, List.getElem_toArray, List.getElem_cons_succ, List.getElem_cons_zero, List.setIfInBounds_toArray, List.set_cons_zero, List.set_cons_succ]
          refine wpAnyT_take (i := 2) (oi := _) (v := ?_) rfl (by kernel_rfl) (by kernel_rfl) (by kernel_rfl) (by kernel_rfl) (by kernel_rfl) (fun _ _ _ h => h) (Or.inl ⟨by kernel_rfl, ?_⟩) hHeld ?_
          rotate_left 1
          · intro w hSw; obtain ⟨hs0, hs1⟩ := hSw; go_simp; (try with_reducible rfl)
          try simp only [Act.put, List.getElem_toArray, List.getElem_cons_succ, List.getElem_cons_zero, List.setIfInBounds_toArray, List.set_cons_zero, List.set_cons_succ]
          refine wpAnyT_take (i := 3) (oi := _) (v := ?_) rfl (by kernel_rfl) (by kernel_rfl) (by kernel_rfl) (by kernel_rfl) (by kernel_rfl) (fun _ _ _ h => h) (Or.inl ⟨by kernel_rfl, ?_⟩) hHeld ?_
          rotate_left 1
          · intro w hSw; obtain ⟨hs0, hs1⟩ := hSw; go_simp; (try with_reducible rfl)
          try simp only [Act.put, List.getElem_toArray, List.getElem_cons_succ, List.getElem_cons_zero, List.setIfInBounds_toArray, List.set_cons_zero, List.set_cons_succ]
          refine wpAnyT_take (i := 4) (oi := _) (v := ?_) rfl (by kernel_rfl) (by kernel_rfl) (by kernel_rfl) (by kernel_rfl) (by kernel_rfl) (fun _ _ _ h => h) (Or.inl ⟨by kernel_rfl, ?_⟩) hHeld ?_
          rotate_left 1
          · intro w hSw; obtain ⟨hs0, hs1⟩ := hSw; go_simp; (try with_reducible rfl)
          try simp only [Act.put, List.getElem_toArray, List.getElem_cons_succ, List.getElem_cons_zero, List.setIfInBounds_toArray, List.set_cons_zero, List.set_cons_succ]
          refine wpAnyT_take (i := 5) (oi := _) (v := ?_) rfl (by kernel_rfl) (by kernel_rfl) (by kernel_rfl) (by kernel_rfl) (by kernel_rfl) (fun _ _ _ h => h) (Or.inl ⟨by kernel_rfl, ?_⟩) hHeld ?_
          rotate_left 1
          · intro w hSw; obtain ⟨hs0, hs1⟩ := hSw; go_simp; (try with_reducible rfl)
          try simp only [Act.put, List.getElem_toArray, List.getElem_cons_succ, List.getElem_cons_zero, List.setIfInBounds_toArray, List.set_cons_zero, List.set_cons_succ]
          refine wpAnyT_take (i := 6) (oi := _) (v := ?_) rfl (by kernel_rfl) (by kernel_rfl) (by kernel_rfl) (by kernel_rfl) (by kernel_rfl) (fun _ _ _ h => h) (Or.inl ⟨by kernel_rfl, ?_⟩) hHeld ?_
          rotate_left 1
          · intro w hSw; obtain ⟨hs0, hs1⟩ := hSw; go_simp; (try with_reducible rfl)
          try simp only [Act.put, List.getElem_toArray, List.getElem_cons_succ, List.getElem_cons_zero, List.setIfInBounds_toArray, List.set_cons_zero, List.set_cons_succ]
          refine wpAnyT_take (i := 7) (oi := _) (v := ?_) rfl (by kernel_rfl) (by kernel_rfl) (by kernel_rfl) (by kernel_rfl) (by kernel_rfl) (fun _ _ _ h => h) (Or.inl ⟨by kernel_rfl, ?_⟩) hHeld ?_
          rotate_left 1
          · intro w hSw; obtain ⟨hs0, hs1⟩ := hSw; go_simp; (try with_reducible rfl)
          try simp only [Act.put, List.getElem_toArray, List.getElem_cons_succ, List.getElem_cons_zero, List.setIfInBounds_toArray, List.set_cons_zero, List.set_cons_succ]
          refine wpAnyT_take (i := 8) (oi := _) (v := ?_) rfl (by kernel_rfl) (by kernel_rfl) (by kernel_rfl) (by kernel_rfl) (by kernel_rfl) (fun _ _ _ h => h) (Or.inl ⟨by kernel_rfl, ?_⟩) hHeld ?_
          rotate_left 1
          · intro w hSw; obtain ⟨hs0, hs1⟩ := hSw; go_simp; (try with_reducible rfl)
          try simp only [Act.put, List.getElem_toArray, List.getElem_cons_succ, List.getElem_cons_zero, List.setIfInBounds_toArray, List.set_cons_zero, List.set_cons_succ]
          refine wpAnyT_ready (rs := [9]) (by kernel_rfl) (by simp) ?_
          refine AllReadyT.cons (o := _) rfl (fun K hK => ?_) AllReadyT.nil
          go_simp
          go_at_call 21; refine (CT1.out _ HRW.out.drew).mono ?_; rintro e W1 ⟨rfl, hb1⟩; obtain ⟨V', W2, hrun, hnz⟩ := HNA.out W1 (below_undrew hb1); obtain ⟨A', c', rfl⟩ := strs_shape hnz.row; have HZ := Lib.hid hnz; have HM1 := Lib.hid (blk_below HY.out.dr.ring.map (below_undrew hb1)); clear hnz hb1
          go_wp2_with fail
          refine hK.out _ _ (fun _ => ⟨HM1.out.cell 1, HM1.out.cell 2⟩) ?_
          clear hK K
          try simp only [Act.put, List.getElem_toArray, List.getElem_cons_succ, List.getElem_cons_zero, List.setIfInBounds_toArray, List.set_cons_zero, List.set_cons_succ]
          refine wpAnyT_ready (rs := [10]) (by kernel_rfl) (by simp) ?_
          refine AllReadyT.cons (o := _) rfl (fun K hK => ?_) AllReadyT.nil
          go_simp
          refine hK.out _ _ (fun _ => ⟨(HM1.out.alloc _).cell 1, (HM1.out.alloc _).cell 2⟩) ?_
          clear hK K
          try simp only [Act.put, List.getElem_toArray, List.getElem_cons_succ, List.getElem_cons_zero, List.setIfInBounds_toArray, List.set_cons_zero, List.set_cons_succ]
          refine wpAnyT_ready (rs := [11]) (by kernel_rfl) (by simp) ?_
          refine AllReadyT.cons (o := _) rfl (fun K hK => ?_) AllReadyT.nil
          refine step_append_run (by rfl) (.tmp 27) (.tmp 37) strsT (by rfl) _ _ _ W2 (by rfl) (by rfl) hrun ?_
          refine hK.out _ _ (fun h => by cases h) ?_
          clear hK K
          try simp only [Act.put, List.getElem_toArray, List.getElem_cons_succ, List.getElem_cons_zero, List.setIfInBounds_toArray, List.set_cons_zero, List.set_cons_succ]
          refine wpAnyT_take0 (i := 12) (oi := _) (v := ?_) rfl (by kernel_rfl) (by kernel_rfl) (by kernel_rfl) (by kernel_rfl) (fun _ _ _ h => h) (Or.inl ⟨by kernel_rfl, ?_⟩) ?_
          rotate_left 1
          · intro w hSw; go_simp; (try with_reducible rfl)
          try simp only [Act.put, List.getElem_toArray, List.getElem_cons_succ, List.getElem_cons_zero, List.setIfInBounds_toArray, List.set_cons_zero, List.set_cons_succ]
          refine wpAnyT_done (by kernel_rfl) ?_ _
          refine NoPanic.normal ?_
          clear hHeld c1 c2 HS8 y0 y1 hrun
          have d1 : W2.cell? ⟨p.x, 1, none⟩ = some (rowV p.g p.mx) := HZ.out.ring.map.cell 1
          have d2 : W2.cell? ⟨p.x, 2, none⟩ = some (.int .i64 f) := HZ.out.ring.map.cell 2
          have d2f : W2.frozen? ⟨p.x, 2, none⟩ = false := HZ.out.ring.map.frozen 2
          have z0 : W2.cell? ⟨h, 0, none⟩ = some (.int .i64 r.size) := HZ.out.blk.cell 0
          have hxh : p.x ≠ h := fun e => by have h1 := HX.out; have h2 := HZ.out.ge; omega
          obtain ⟨f', hf'⟩ : ∃ f', (f + un) % p.mx = f' := ⟨_, rfl⟩
          rw [hf'] at CB
          have HF' := Lib.hid hf'
          clear hf'
          have X3 : Hid (Blk (W2.setCell ⟨p.x, 2, none⟩ (.int .i64 f')).drew p.x mapT #[.pointer (some ⟨p.bm, 0, none⟩), rowV p.g p.mx, .int .i64 f', .int .i64 su, .map (some p.mb)]) := by
            have e := HZ.out.ring.map.set_ 2 (.int .i64 f')
            have e2 : Blk (W2.setCell ⟨p.x, 2, none⟩ (.int .i64 f')) p.x mapT #[.pointer (some ⟨p.bm, 0, none⟩), rowV p.g p.mx, .int .i64 f', .int .i64 (sumU (r :: q) : Nat), .map (some p.mb)] := by simpa using e
            rw [HSU'.out] at e2
            exact e2
          have Z3 : Hid (Blk (W2.setCell ⟨p.x, 2, none⟩ (.int .i64 f')).drew h headT #[.int .i64 r.size, .int .i64 r.state]) := (HZ.out.blk.far hxh.symm _).drew
          have K3 : Hid (Keeps (fun b => b = p.x) W2 (W2.setCell ⟨p.x, 2, none⟩ (.int .i64 f')).drew) := (Keeps.setCell (S := fun b => b = p.x) (Keeps.refl _ W2) (p := ⟨p.x, 2, none⟩) (.inl rfl) _).drew
          have HS9 := Lib.hid (show (fun W : World => W.cell? ⟨p.x, 1, none⟩ = some (rowV p.g p.mx) ∧ W.cell? ⟨p.x, 2, none⟩ = some (.int .i64 f) ∧ W.cell? ⟨h, 0, none⟩ = some (.int .i64 r.size)) W2.drew from ⟨d1, d2, z0⟩)
          go_upto_region 9 with fail
          refine wp_region_noPanic ?_
          refine wp_region_tail [15] (S := (fun W => W.cell? ⟨p.x, 1, none⟩ = some (rowV p.g p.mx) ∧ W.cell? ⟨p.x, 2, none⟩ = some (.int .i64 f) ∧ W.cell? ⟨h, 0, none⟩ = some (.int .i64 r.size))) (by kernel_rfl) ?_
          have hHeld := HS9.out
          refine wpAnyT_take (i := 0) (oi := _) (v := ?_) rfl (by kernel_rfl) (by kernel_rfl) (by kernel_rfl) (by kernel_rfl) (by kernel_rfl) (fun _ _ _ h => h) (Or.inl ⟨by kernel_rfl, ?_⟩) hHeld ?_
          rotate_left 1
          · intro w hSw; obtain ⟨hs0, hs1, hs2⟩ := hSw; go_simp; (try with_reducible rfl)
          try simp only [Act.put, List.getElem_toArray, List.getElem_cons_succ, List.getElem_cons_zero, List.setIfInBounds_toArray, List.set_cons_zero, List.set_cons_succ]
          refine wpAnyT_take (i := 1) (oi := _) (v := ?_) rfl (by kernel_rfl) (by kernel_rfl) (by kernel_rfl) (by kernel_rfl) (by kernel_rfl) (fun _ _ _ h => h) (Or.inl ⟨by kernel_rfl, ?_⟩) hHeld ?_
          rotate_left 1
          · intro w hSw; obtain ⟨hs0, hs1, hs2⟩ := hSw; go_simp; (try with_reducible rfl)
          try simp only [Act.put, List.getElem_toArray, List.getElem_cons_succ, List.getElem_cons_zero, List.setIfInBounds_toArray, List.set_cons_zero, List.set_cons_succ]
          refine wpAnyT_take (i := 2) (oi := _) (v := ?_) rfl (by kernel_rfl) (by kernel_rfl) (by kernel_rfl) (by kernel_rfl) (by kernel_rfl) (fun _ _ _ h => h) (Or.inl ⟨by kernel_rfl, ?_⟩) hHeld ?_
          rotate_left 1
          · intro w hSw; obtain ⟨hs0, hs1, hs2⟩ := hSw; go_simp; (try with_reducible rfl)
          try simp only [Act.put, List.getElem_toArray, List.getElem_cons_succ, List.getElem_cons_zero, List.setIfInBounds_toArray, List.set_cons_zero, List.set_cons_succ]
          refine wpAnyT_take (i := 3) (oi := _) (v := ?_) rfl (by kernel_rfl) (by kernel_rfl) (by kernel_rfl) (by kernel_rfl) (by kernel_rfl) (fun _ _ _ h => h) (Or.inl ⟨by kernel_rfl, ?_⟩) hHeld ?_
          rotate_left 1
          · intro w hSw; obtain ⟨hs0, hs1, hs2⟩ := hSw; go_simp; (try with_reducible rfl)
          try simp only [Act.put, List.getElem_toArray, List.getElem_cons_succ, List.getElem_cons_zero, List.setIfInBounds_toArray, List.set_cons_zero, List.set_cons_succ]
          refine wpAnyT_take (i := 4) (oi := _) (v := ?_) rfl (by kernel_rfl) (by kernel_rfl) (by kernel_rfl) (by kernel_rfl) (by kernel_rfl) (fun _ _ _ h => h) (Or.inl ⟨by kernel_rfl, ?_⟩) hHeld ?_
          rotate_left 1
          · intro w hSw; obtain ⟨hs0, hs1, hs2⟩ := hSw; go_simp; (try with_reducible rfl)
          try simp only [Act.put, List.getElem_toArray, List.getElem_cons_succ, List.getElem_cons_zero, List.setIfInBounds_toArray, List.set_cons_zero, List.set_cons_succ]
          refine wpAnyT_take (i := 5) (oi := _) (v := ?_) rfl (by kernel_rfl) (by kernel_rfl) (by kernel_rfl) (by kernel_rfl) (by kernel_rfl) (fun _ _ _ h => h) (Or.inl ⟨by kernel_rfl, ?_⟩) hHeld ?_
          rotate_left 1
          · intro w hSw; obtain ⟨hs0, hs1, hs2⟩ := hSw; go_simp; (try with_reducible rfl)
          try simp only [Act.put, List.getElem_toArray, List.getElem_cons_succ, List.getElem_cons_zero, List.setIfInBounds_toArray, List.set_cons_zero, List.set_cons_succ]
          refine wpAnyT_take (i := 6) (oi := _) (v := ?_) rfl (by kernel_rfl) (by kernel_rfl) (by kernel_rfl) (by kernel_rfl) (by kernel_rfl) (fun _ _ _ h => h) (Or.inl ⟨by kernel_rfl, ?_⟩) hHeld ?_
          rotate_left 1
          · intro w hSw; obtain ⟨hs0, hs1, hs2⟩ := hSw; go_simp; (try with_reducible rfl)
          try simp only [Act.put, List.getElem_toArray, List.getElem_cons_succ, List.getElem_cons_zero, List.setIfInBounds_toArray, List.set_cons_zero, List.set_cons_succ]
          refine wpAnyT_take (i := 7) (oi := _) (v := ?_) rfl (by kernel_rfl) (by kernel_rfl) (by kernel_rfl) (by kernel_rfl) (by kernel_rfl) (fun _ _ _ h => h) (Or.inl ⟨by kernel_rfl, ?_⟩) hHeld ?_
          rotate_left 1
          · intro w hSw; obtain ⟨hs0, hs1, hs2⟩ := hSw; go_simp; (try with_reducible rfl)
          try simp only [Act.put, List.getElem_toArray, List.getElem_cons_succ, List.getElem_cons_zero, List.setIfInBounds_toArray, List.set_cons_zero, List.set_cons_succ]
          refine wpAnyT_take (i := 8) (oi := _) (v := ?_) rfl (by kernel_rfl) (by kernel_rfl) (by kernel_rfl) (by kernel_rfl) (by kernel_rfl) (fun _ _ _ h => h) (Or.inl ⟨by kernel_rfl, ?_⟩) hHeld ?_
          rotate_left 1
          · intro w hSw; obtain ⟨hs0, hs1, hs2⟩ := hSw; go_simp; (try with_reducible rfl)
          try simp only [Act.put, List.getElem_toArray, List.getElem_cons_succ, List.getElem_cons_zero, List.setIfInBounds_toArray, List.set_cons_zero, List.set_cons_succ]
          refine wpAnyT_take (i := 9) (oi := _) (v := ?_) rfl (by kernel_rfl) (by kernel_rfl) (by kernel_rfl) (by kernel_rfl) (by kernel_rfl) (fun _ _ _ h => h) (Or.inl ⟨by kernel_rfl, ?_⟩) hHeld ?_
          rotate_left 1
          · intro w hSw; obtain ⟨hs0, hs1, hs2⟩ := hSw; go_simp; (try with_reducible rfl)
          try simp only [Act.put, List.getElem_toArray, List.getElem_cons_succ, List.getElem_cons_zero, List.setIfInBounds_toArray, List.set_cons_zero, List.set_cons_succ]
          refine wpAnyT_take (i := 10) (oi := _) (v := ?_) rfl (by kernel_rfl) (by kernel_rfl) (by kernel_rfl) (by kernel_rfl) (by kernel_rfl) (fun _ _ _ h => h) (Or.inl ⟨by kernel_rfl, ?_⟩) hHeld ?_
          rotate_left 1
          · intro w hSw; obtain ⟨hs0, hs1, hs2⟩ := hSw; go_simp; (try with_reducible rfl)
          try simp only [Act.put, List.getElem_toArray, List.getElem_cons_succ, List.getElem_cons_zero, List.setIfInBounds_toArray, List.set_cons_zero, List.set_cons_succ]
          refine wpAnyT_ready (rs := [11]) (by kernel_rfl) (by simp) ?_
          refine AllReadyT.cons (o := _) rfl (fun K hK => ?_) AllReadyT.nil
          go_simp
          go_at_call 23; refine (CU.out _).mono ?_; rintro e w4 ⟨rfl, rfl⟩
          go_wp2_with fail
          refine hK.out _ _ (fun _ => hHeld) ?_
          clear hK K
          try simp only [Act.put, List.getElem_toArray, List.getElem_cons_succ, List.getElem_cons_zero, List.setIfInBounds_toArray, List.set_cons_zero, List.set_cons_succ]
          refine wpAnyT_ready (rs := [12]) (by kernel_rfl) (by simp) ?_
          refine AllReadyT.cons (o := _) rfl (fun K hK => ?_) AllReadyT.nil
          go_simp
          go_at_call 22; refine (CB.out _).mono ?_; rintro e w4 ⟨rfl, rfl⟩
          go_wp2_with fail
          refine hK.out _ _ (fun _ => hHeld) ?_
          clear hK K
          try simp only [Act.put, List.getElem_toArray, List.getElem_cons_succ, List.getElem_cons_zero, List.setIfInBounds_toArray, List.set_cons_zero, List.set_cons_succ]
          refine wpAnyT_take (i := 13) (oi := _) (v := ?_) rfl (by kernel_rfl) (by kernel_rfl) (by kernel_rfl) (by kernel_rfl) (by kernel_rfl) (fun _ _ _ h => h) (Or.inl ⟨by kernel_rfl, ?_⟩) hHeld ?_
          rotate_left 1
          · intro w hSw; obtain ⟨hs0, hs1, hs2⟩ := hSw; go_simp; (try with_reducible rfl)
          try simp only [Act.put, List.getElem_toArray, List.getElem_cons_succ, List.getElem_cons_zero, List.setIfInBounds_toArray, List.set_cons_zero, List.set_cons_succ]
          refine wpAnyT_take (i := 14) (oi := _) (v := ?_) rfl (by kernel_rfl) (by kernel_rfl) (by kernel_rfl) (by kernel_rfl) (by kernel_rfl) (fun _ _ _ h => h) (Or.inl ⟨by kernel_rfl, ?_⟩) hHeld ?_
          rotate_left 1
          · intro w hSw; obtain ⟨hs0, hs1, hs2⟩ := hSw; go_simp; (try with_reducible rfl)
          try simp only [Act.put, List.getElem_toArray, List.getElem_cons_succ, List.getElem_cons_zero, List.setIfInBounds_toArray, List.set_cons_zero, List.set_cons_succ]
          refine wpAnyT_ready (rs := [15]) (by kernel_rfl) (by simp) ?_
          refine AllReadyT.cons (o := _) rfl (fun K hK => ?_) AllReadyT.nil
          go_simp
          refine hK.out _ _ (fun h => by cases h) ?_
          clear hK K
          try simp only [Act.put, List.getElem_toArray, List.getElem_cons_succ, List.getElem_cons_zero, List.setIfInBounds_toArray, List.set_cons_zero, List.set_cons_succ]
          refine wpAnyT_done (by kernel_rfl) ?_ _
          refine NoPanic.normal ?_
          clear hHeld d1 d2 d2f z0 HS9
          go_upto_region 10 with fail
          generalize (W2.setCell ⟨p.x, 2, none⟩ (.int .i64 f')).drew = W3 at X3 Z3 K3 ⊢
          have q3 : W3.cell? ⟨p.x, 3, none⟩ = some (.int .i64 su) := X3.out.cell 3
          have q3f : W3.frozen? ⟨p.x, 3, none⟩ = false := X3.out.frozen 3
          have z3 : W3.cell? ⟨h, 0, none⟩ = some (.int .i64 r.size) := Z3.out.cell 0
          obtain ⟨sq, hsq⟩ : ∃ sq, sumU q = sq := ⟨_, rfl⟩
          have HSQ := Lib.hid hsq
          have e7 : (su : Int) - (un : Int) = (sq : Int) := by have h1 := HSU.out; rw [hsq] at h1; omega
          have e8 : IntKind.i64.wrap (sq : Int) = (sq : Int) := IntWalk.i64_in _ (by omega)
          have HS10 := Lib.hid (show (fun W : World => W.cell? ⟨p.x, 3, none⟩ = some (.int .i64 su) ∧ W.cell? ⟨h, 0, none⟩ = some (.int .i64 r.size)) W3.drew from ⟨q3, z3⟩)
          clear hsq
          refine wp_region_noPanic ?_
          refine wp_region_tail [10] (S := (fun W => W.cell? ⟨p.x, 3, none⟩ = some (.int .i64 su) ∧ W.cell? ⟨h, 0, none⟩ = some (.int .i64 r.size))) (by kernel_rfl) ?_
          have hHeld := HS10.out
          refine wpAnyT_take (i := 0) (oi := _) (v := ?_) rfl (by kernel_rfl) (by kernel_rfl) (by kernel_rfl) (by kernel_rfl) (by kernel_rfl) (fun _ _ _ h => h) (Or.inl ⟨by kernel_rfl, ?_⟩) hHeld ?_
          rotate_left 1
          · intro w hSw; obtain ⟨hs0, hs1⟩ := hSw; go_simp; (try with_reducible rfl)
          try simp only [Act.put, List.getElem_toArray, List.getElem_cons_succ, List.getElem_cons_zero, List.setIfInBounds_toArray, List.set_cons_zero, List.set_cons_succ]
          refine wpAnyT_take (i := 1) (oi := _) (v := ?_) rfl (by kernel_rfl) (by kernel_rfl) (by kernel_rfl) (by kernel_rfl) (by kernel_rfl) (fun _ _ _ h => h) (Or.inl ⟨by kernel_rfl, ?_⟩) hHeld ?_
          rotate_left 1
          · intro w hSw; obtain ⟨hs0, hs1⟩ := hSw; go_simp; (try with_reducible rfl)
          try simp only [Act.put, List.getElem_toArray, List.getElem_cons_succ, List.getElem_cons_zero, List.setIfInBounds_toArray, List.set_cons_zero, List.set_cons_succ]
          refine wpAnyT_take (i := 2) (oi := _) (v := ?_) rfl (by kernel_rfl) (by kernel_rfl) (by kernel_rfl) (by kernel_rfl) (by kernel_rfl) (fun _ _ _ h => h) (Or.inl ⟨by kernel_rfl, ?_⟩) hHeld ?_
          rotate_left 1
          · intro w hSw; obtain ⟨hs0, hs1⟩ := hSw; go_simp; (try with_reducible rfl)
          try simp only [Act.put, List.getElem_toArray, List.getElem_cons_succ, List.getElem_cons_zero, List.setIfInBounds_toArray, List.set_cons_zero, List.set_cons_succ]
          refine wpAnyT_take (i := 3) (oi := _) (v := ?_) rfl (by kernel_rfl) (by kernel_rfl) (by kernel_rfl) (by kernel_rfl) (by kernel_rfl) (fun _ _ _ h => h) (Or.inl ⟨by kernel_rfl, ?_⟩) hHeld ?_
          rotate_left 1
          · intro w hSw; obtain ⟨hs0, hs1⟩ := hSw; go_simp; (try with_reducible rfl)
          try simp only [Act.put, List.getElem_toArray, List.getElem_cons_succ, List.getElem_cons_zero, List.setIfInBounds_toArray, List.set_cons_zero, List.set_cons_succ]
          refine wpAnyT_take (i := 4) (oi := _) (v := ?_) rfl (by kernel_rfl) (by kernel_rfl) (by kernel_rfl) (by kernel_rfl) (by kernel_rfl) (fun _ _ _ h => h) (Or.inl ⟨by kernel_rfl, ?_⟩) hHeld ?_
          rotate_left 1
          · intro w hSw; obtain ⟨hs0, hs1⟩ := hSw; go_simp; (try with_reducible rfl)
          try simp only [Act.put, List.getElem_toArray, List.getElem_cons_succ, List.getElem_cons_zero, List.setIfInBounds_toArray, List.set_cons_zero, List.set_cons_succ]
          refine wpAnyT_take (i := 5) (oi := _) (v := ?_) rfl (by kernel_rfl) (by kernel_rfl) (by kernel_rfl) (by kernel_rfl) (by kernel_rfl) (fun _ _ _ h => h) (Or.inl ⟨by kernel_rfl, ?_⟩) hHeld ?_
          rotate_left 1
          · intro w hSw; obtain ⟨hs0, hs1⟩ := hSw; go_simp; (try with_reducible rfl)
          try simp only [Act.put, List.getElem_toArray, List.getElem_cons_succ, List.getElem_cons_zero, List.setIfInBounds_toArray, List.set_cons_zero, List.set_cons_succ]
          refine wpAnyT_ready (rs := [6]) (by kernel_rfl) (by simp) ?_
          refine AllReadyT.cons (o := _) rfl (fun K hK => ?_) AllReadyT.nil
          go_simp
          go_at_call 23; refine (CU.out _).mono ?_; rintro e w4 ⟨rfl, rfl⟩
          go_wp2_with fail
          refine hK.out _ _ (fun _ => hHeld) ?_
          clear hK K
          try simp only [Act.put, List.getElem_toArray, List.getElem_cons_succ, List.getElem_cons_zero, List.setIfInBounds_toArray, List.set_cons_zero, List.set_cons_succ]
          refine wpAnyT_take (i := 7) (oi := _) (v := ?_) rfl (by kernel_rfl) (by kernel_rfl) (by kernel_rfl) (by kernel_rfl) (by kernel_rfl) (fun _ _ _ h => h) (Or.inl ⟨by kernel_rfl, ?_⟩) hHeld ?_
          rotate_left 1
          · intro w hSw; obtain ⟨hs0, hs1⟩ := hSw; go_simp; (try with_reducible rfl)
          try simp only [Act.put, List.getElem_toArray, List.getElem_cons_succ, List.getElem_cons_zero, List.setIfInBounds_toArray, List.set_cons_zero, List.set_cons_succ]
          refine wpAnyT_take (i := 8) (oi := _) (v := ?_) rfl (by kernel_rfl) (by kernel_rfl) (by kernel_rfl) (by kernel_rfl) (by kernel_rfl) (fun _ _ _ h => h) (Or.inl ⟨by kernel_rfl, ?_⟩) hHeld ?_
          rotate_left 1
          · intro w hSw; obtain ⟨hs0, hs1⟩ := hSw; go_simp; (try with_reducible rfl)
          try simp only [Act.put, List.getElem_toArray, List.getElem_cons_succ, List.getElem_cons_zero, List.setIfInBounds_toArray, List.set_cons_zero, List.set_cons_succ]
          refine wpAnyT_take (i := 9) (oi := _) (v := ?_) rfl (by kernel_rfl) (by kernel_rfl) (by kernel_rfl) (by kernel_rfl) (by kernel_rfl) (fun _ _ _ h => h) (Or.inl ⟨by kernel_rfl, ?_⟩) hHeld ?_
          rotate_left 1
          · intro w hSw; obtain ⟨hs0, hs1⟩ := hSw; go_simp; (try with_reducible rfl)
          try simp only [Act.put, List.getElem_toArray, List.getElem_cons_succ, List.getElem_cons_zero, List.setIfInBounds_toArray, List.set_cons_zero, List.set_cons_succ]
          refine wpAnyT_ready (rs := [10]) (by kernel_rfl) (by simp) ?_
          refine AllReadyT.cons (o := _) rfl (fun K hK => ?_) AllReadyT.nil
          go_simp
          refine hK.out _ _ (fun h => by cases h) ?_
          clear hK K
          try simp only [Act.put, List.getElem_toArray, List.getElem_cons_succ, List.getElem_cons_zero, List.setIfInBounds_toArray, List.set_cons_zero, List.set_cons_succ]
          refine wpAnyT_done (by kernel_rfl) ?_ _
          refine NoPanic.normal ?_
          clear hHeld q3 q3f z3 HS10
          have X4 : Hid (Blk (W3.setCell ⟨p.x, 3, none⟩ (.int .i64 sq)).drew p.x mapT (liveC p f' sq)) := by
            have e := X3.out.set_ 3 (.int .i64 (sq : Int))
            have e2 : Blk (W3.setCell ⟨p.x, 3, none⟩ (.int .i64 sq)) p.x mapT (liveC p f' sq) := by simpa using e
            exact e2.drew
          have K4 : Hid (Keeps (fun b => b = p.x) W2 (W3.setCell ⟨p.x, 3, none⟩ (.int .i64 sq)).drew) := (Keeps.setCell (S := fun b => b = p.x) K3.out (p := ⟨p.x, 3, none⟩) (.inl rfl) _).drew
          generalize (W3.setCell ⟨p.x, 3, none⟩ (.int .i64 (sq : Int))).drew = W4 at X4 K4 ⊢
          have HN := Lib.hid (DR.next HD.out HO.out (by rw [H0.out]; decide) W2 W4 HZ.out.ring HZ.out.keeps HZ.out.row K4.out HX.out (by rw [HUS.out, HF'.out, HSQ.out]; exact X4.out))
          have hm4 : W4.cell? ⟨p.x, 3, none⟩ = some (.int .i64 sq) := X4.out.cell 3
          have HLT : Hid (sq < su) := by
            have h1 := HSU.out
            have h2 := uses_ge r.size
            rw [HUS.out] at h2
            rw [HSQ.out] at h1
            show sq < su
            omega
          go_wp2_with fail
          go_roundw
          case rel => exact ⟨_, _, _, HN.out⟩
          case measure =>
            have := HLT.out
            rw [hm4, c3]
            simp [intOf]
            omega
        · have H0 := Lib.hid h0
          rw [h0] at y1
          clear h0 hst
          have HZ := Lib.hid (HY.out.silent (by rw [H0.out]; decide))
          have d1 : W.cell? ⟨p.x, 1, none⟩ = some (rowV p.g p.mx) := HZ.out.ring.map.cell 1
          have d2 : W.cell? ⟨p.x, 2, none⟩ = some (.int .i64 f) := HZ.out.ring.map.cell 2
          have d2f : W.frozen? ⟨p.x, 2, none⟩ = false := HZ.out.ring.map.frozen 2
          have z0 : W.cell? ⟨h, 0, none⟩ = some (.int .i64 r.size) := HZ.out.blk.cell 0
          have hxh : p.x ≠ h := fun e => by have h1 := HX.out; have h2 := HZ.out.ge; omega
          obtain ⟨f', hf'⟩ : ∃ f', (f + un) % p.mx = f' := ⟨_, rfl⟩
          rw [hf'] at CB
          have HF' := Lib.hid hf'
          clear hf'
          have X3 : Hid (Blk (W.setCell ⟨p.x, 2, none⟩ (.int .i64 f')).drew p.x mapT #[.pointer (some ⟨p.bm, 0, none⟩), rowV p.g p.mx, .int .i64 f', .int .i64 su, .map (some p.mb)]) := by
            have e := HZ.out.ring.map.set_ 2 (.int .i64 f')
            have e2 : Blk (W.setCell ⟨p.x, 2, none⟩ (.int .i64 f')) p.x mapT #[.pointer (some ⟨p.bm, 0, none⟩), rowV p.g p.mx, .int .i64 f', .int .i64 (sumU (r :: q) : Nat), .map (some p.mb)] := by simpa using e
            rw [HSU'.out] at e2
            exact e2
          have Z3 : Hid (Blk (W.setCell ⟨p.x, 2, none⟩ (.int .i64 f')).drew h headT #[.int .i64 r.size, .int .i64 r.state]) := (HZ.out.blk.far hxh.symm _).drew
          have K3 : Hid (Keeps (fun b => b = p.x) W (W.setCell ⟨p.x, 2, none⟩ (.int .i64 f')).drew) := (Keeps.setCell (S := fun b => b = p.x) (Keeps.refl _ W) (p := ⟨p.x, 2, none⟩) (.inl rfl) _).drew
          have HS9 := Lib.hid (show (fun W : World => W.cell? ⟨p.x, 1, none⟩ = some (rowV p.g p.mx) ∧ W.cell? ⟨p.x, 2, none⟩ = some (.int .i64 f) ∧ W.cell? ⟨h, 0, none⟩ = some (.int .i64 r.size)) W.drew from ⟨d1, d2, z0⟩)
          go_upto_region 9 with fail
          refine wp_region_noPanic ?_
          refine wp_region_tail [15] (S := (fun W => W.cell? ⟨p.x, 1, none⟩ = some (rowV p.g p.mx) ∧ W.cell? ⟨p.x, 2, none⟩ = some (.int .i64 f) ∧ W.cell? ⟨h, 0, none⟩ = some (.int .i64 r.size))) (by kernel_rfl) ?_
          have hHeld := HS9.out
          refine wpAnyT_take (i := 0) (oi := _) (v := ?_) rfl (by kernel_rfl) (by kernel_rfl) (by kernel_rfl) (by kernel_rfl) (by kernel_rfl) (fun _ _ _ h => h) (Or.inl ⟨by kernel_rfl, ?_⟩) hHeld ?_
          rotate_left 1
          · intro w hSw; obtain ⟨hs0, hs1, hs2⟩ := hSw; go_simp; (try with_reducible rfl)
          try simp only [Act.put, List.getElem_toArray, List.getElem_cons_succ, List.getElem_cons_zero, List.setIfInBounds_toArray, List.set_cons_zero, List.set_cons_succ]
          refine wpAnyT_take (i := 1) (oi := _) (v := ?_) rfl (by kernel_rfl) (by kernel_rfl) (by kernel_rfl) (by kernel_rfl) (by kernel_rfl) (fun _ _ _ h => h) (Or.inl ⟨by kernel_rfl, ?_⟩) hHeld ?_
          rotate_left 1
          · intro w hSw; obtain ⟨hs0, hs1, hs2⟩ := hSw; go_simp; (try with_reducible rfl)
          try simp only [Act.put, List.getElem_toArray, List.getElem_cons_succ, List.getElem_cons_zero, List.setIfInBounds_toArray, List.set_cons_zero, List.set_cons_succ]
          refine wpAnyT_take (i := 2) (oi := _) (v := ?_) rfl (by kernel_rfl) (by kernel_rfl) (by kernel_rfl) (by kernel_rfl) (by kernel_rfl) (fun _ _ _ h => h) (Or.inl ⟨by kernel_rfl, ?_⟩) hHeld ?_
          rotate_left 1
          · intro w hSw; obtain ⟨hs0, hs1, hs2⟩ := hSw; go_simp; (try with_reducible rfl)
          try simp only [Act.put, List.getElem_toArray, List.getElem_cons_succ, List.getElem_cons_zero, List.setIfInBounds_toArray, List.set_cons_zero, List.set_cons_succ]
          refine wpAnyT_take (i := 3) (oi := _) (v := ?_) rfl (by kernel_rfl) (by kernel_rfl) (by kernel_rfl) (by kernel_rfl) (by kernel_rfl) (fun _ _ _ h => h) (Or.inl ⟨by kernel_rfl, ?_⟩) hHeld ?_
          rotate_left 1
          · intro w hSw; obtain ⟨hs0, hs1, hs2⟩ := hSw; go_simp; (try with_reducible rfl)
          try simp only [Act.put, List.getElem_toArray, List.getElem_cons_succ, List.getElem_cons_zero, List.setIfInBounds_toArray, List.set_cons_zero, List.set_cons_succ]
          refine wpAnyT_take (i := 4) (oi := _) (v := ?_) rfl (by kernel_rfl) (by kernel_rfl) (by kernel_rfl) (by kernel_rfl) (by kernel_rfl) (fun _ _ _ h => h) (Or.inl ⟨by kernel_rfl, ?_⟩) hHeld ?_
          rotate_left 1
          · intro w hSw; obtain ⟨hs0, hs1, hs2⟩ := hSw; go_simp; (try with_reducible rfl)
          try simp only [Act.put, List.getElem_toArray, List.getElem_cons_succ, List.getElem_cons_zero, List.setIfInBounds_toArray, List.set_cons_zero, List.set_cons_succ]
          refine wpAnyT_take (i := 5) (oi := _) (v := ?_) rfl (by kernel_rfl) (by kernel_rfl) (by kernel_rfl) (by kernel_rfl) (by kernel_rfl) (fun _ _ _ h => h) (Or.inl ⟨by kernel_rfl, ?_⟩) hHeld ?_
          rotate_left 1
          · intro w hSw; obtain ⟨hs0, hs1, hs2⟩ := hSw; go_simp; (try with_reducible rfl)
          try simp only [Act.put, List.getElem_toArray, List.getElem_cons_succ, List.getElem_cons_zero, List.setIfInBounds_toArray, List.set_cons_zero, List.set_cons_succ]
          refine wpAnyT_take (i := 6) (oi := _) (v := ?_) rfl (by kernel_rfl) (by kernel_rfl) (by kernel_rfl) (by kernel_rfl) (by kernel_rfl) (fun _ _ _ h => h) (Or.inl ⟨by kernel_rfl, ?_⟩) hHeld ?_
          rotate_left 1
          · intro w hSw; obtain ⟨hs0, hs1, hs2⟩ := hSw; go_simp; (try with_reducible rfl)
          try simp only [Act.put, List.getElem_toArray, List.getElem_cons_succ, List.getElem_cons_zero, List.setIfInBounds_toArray, List.set_cons_zero, List.set_cons_succ]
          refine wpAnyT_take (i := 7) (oi := _) (v := ?_) rfl (by kernel_rfl) (by kernel_rfl) (by kernel_rfl) (by kernel_rfl) (by kernel_rfl) (fun _ _ _ h => h) (Or.inl ⟨by kernel_rfl, ?_⟩) hHeld ?_
          rotate_left 1
          · intro w hSw; obtain ⟨hs0, hs1, hs2⟩ := hSw; go_simp; (try with_reducible rfl)
          try simp only [Act.put, List.getElem_toArray, List.getElem_cons_succ, List.getElem_cons_zero, List.setIfInBounds_toArray, List.set_cons_zero, List.set_cons_succ]
          refine wpAnyT_take (i := 8) (oi := _) (v := ?_) rfl (by kernel_rfl) (by kernel_rfl) (by kernel_rfl) (by kernel_rfl) (by kernel_rfl) (fun _ _ _ h => h) (Or.inl ⟨by kernel_rfl, ?_⟩) hHeld ?_
          rotate_left 1
          · intro w hSw; obtain ⟨hs0, hs1, hs2⟩ := hSw; go_simp; (try with_reducible rfl)
          try simp only [Act.put, List.getElem_toArray, List.getElem_cons_succ, List.getElem_cons_zero, List.setIfInBounds_toArray, List.set_cons_zero, List.set_cons_succ]
          refine wpAnyT_take (i := 9) (oi := _) (v := ?_) rfl (by kernel_rfl) (by kernel_rfl) (by kernel_rfl) (by kernel_rfl) (by kernel_rfl) (fun _ _ _ h => h) (Or.inl ⟨by kernel_rfl, ?_⟩) hHeld ?_
          rotate_left 1
          · intro w hSw; obtain ⟨hs0, hs1, hs2⟩ := hSw; go_simp; (try with_reducible rfl)
          try simp only [Act.put, List.getElem_toArray, List.getElem_cons_succ, List.getElem_cons_zero, List.setIfInBounds_toArray, List.set_cons_zero, List.set_cons_succ]
          refine wpAnyT_take (i := 10) (oi := _) (v := ?_) rfl (by kernel_rfl) (by kernel_rfl) (by kernel_rfl) (by kernel_rfl) (by kernel_rfl) (fun _ _ _ h => h) (Or.inl ⟨by kernel_rfl, ?_⟩) hHeld ?_
          rotate_left 1
          · intro w hSw; obtain ⟨hs0, hs1, hs2⟩ := hSw; go_simp; (try with_reducible rfl)
          try simp only [Act.put, List.getElem_toArray, List.getElem_cons_succ, List.getElem_cons_zero, List.setIfInBounds_toArray, List.set_cons_zero, List.set_cons_succ]
          refine wpAnyT_ready (rs := [11]) (by kernel_rfl) (by simp) ?_
          refine AllReadyT.cons (o := _) rfl (fun K hK => ?_) AllReadyT.nil
          go_simp
          go_at_call 23; refine (CU.out _).mono ?_; rintro e w4 ⟨rfl, rfl⟩
          go_wp2_with fail
          refine hK.out _ _ (fun _ => hHeld) ?_
          clear hK K
          try simp only [Act.put, List.getElem_toArray, List.getElem_cons_succ, List.getElem_cons_zero, List.setIfInBounds_toArray, List.set_cons_zero, List.set_cons_succ]
          refine wpAnyT_ready (rs := [12]) (by kernel_rfl) (by simp) ?_
          refine AllReadyT.cons (o := _) rfl (fun K hK => ?_) AllReadyT.nil
          go_simp
          go_at_call 22; refine (CB.out _).mono ?_; rintro e w4 ⟨rfl, rfl⟩
          go_wp2_with fail
          refine hK.out _ _ (fun _ => hHeld) ?_
          clear hK K
          try simp only [Act.put, List.getElem_toArray, List.getElem_cons_succ, List.getElem_cons_zero, List.setIfInBounds_toArray, List.set_cons_zero, List.set_cons_succ]
          refine wpAnyT_take (i := 13) (oi := _) (v := ?_) rfl (by kernel_rfl) (by kernel_rfl) (by kernel_rfl) (by kernel_rfl) (by kernel_rfl) (fun _ _ _ h => h) (Or.inl ⟨by kernel_rfl, ?_⟩) hHeld ?_
          rotate_left 1
          · intro w hSw; obtain ⟨hs0, hs1, hs2⟩ := hSw; go_simp; (try with_reducible rfl)
          try simp only [Act.put, List.getElem_toArray, List.getElem_cons_succ, List.getElem_cons_zero, List.setIfInBounds_toArray, List.set_cons_zero, List.set_cons_succ]
          refine wpAnyT_take (i := 14) (oi := _) (v := ?_) rfl (by kernel_rfl) (by kernel_rfl) (by kernel_rfl) (by kernel_rfl) (by kernel_rfl) (fun _ _ _ h => h) (Or.inl ⟨by kernel_rfl, ?_⟩) hHeld ?_
          rotate_left 1
          · intro w hSw; obtain ⟨hs0, hs1, hs2⟩ := hSw; go_simp; (try with_reducible rfl)
          try simp only [Act.put, List.getElem_toArray, List.getElem_cons_succ, List.getElem_cons_zero, List.setIfInBounds_toArray, List.set_cons_zero, List.set_cons_succ]
          refine wpAnyT_ready (rs := [15]) (by kernel_rfl) (by simp) ?_
          refine AllReadyT.cons (o := _) rfl (fun K hK => ?_) AllReadyT.nil
          go_simp
          refine hK.out _ _ (fun h => by cases h) ?_
          clear hK K
          try simp only [Act.put, List.getElem_toArray, List.getElem_cons_succ, List.getElem_cons_zero, List.setIfInBounds_toArray, List.set_cons_zero, List.set_cons_succ]
          refine wpAnyT_done (by kernel_rfl) ?_ _
          refine NoPanic.normal ?_
          clear hHeld d1 d2 d2f z0 HS9
          go_upto_region 10 with fail
          generalize (W.setCell ⟨p.x, 2, none⟩ (.int .i64 f')).drew = W3 at X3 Z3 K3 ⊢
          have q3 : W3.cell? ⟨p.x, 3, none⟩ = some (.int .i64 su) := X3.out.cell 3
          have q3f : W3.frozen? ⟨p.x, 3, none⟩ = false := X3.out.frozen 3
          have z3 : W3.cell? ⟨h, 0, none⟩ = some (.int .i64 r.size) := Z3.out.cell 0
          obtain ⟨sq, hsq⟩ : ∃ sq, sumU q = sq := ⟨_, rfl⟩
          have HSQ := Lib.hid hsq
          have e7 : (su : Int) - (un : Int) = (sq : Int) := by have h1 := HSU.out; rw [hsq] at h1; omega
          have e8 : IntKind.i64.wrap (sq : Int) = (sq : Int) := IntWalk.i64_in _ (by omega)
          have HS10 := Lib.hid (show (fun W : World => W.cell? ⟨p.x, 3, none⟩ = some (.int .i64 su) ∧ W.cell? ⟨h, 0, none⟩ = some (.int .i64 r.size)) W3.drew from ⟨q3, z3⟩)
          clear hsq
          refine wp_region_noPanic ?_
          refine wp_region_tail [10] (S := (fun W => W.cell? ⟨p.x, 3, none⟩ = some (.int .i64 su) ∧ W.cell? ⟨h, 0, none⟩ = some (.int .i64 r.size))) (by kernel_rfl) ?_
          have hHeld := HS10.out
          refine wpAnyT_take (i := 0) (oi := _) (v := ?_) rfl (by kernel_rfl) (by kernel_rfl) (by kernel_rfl) (by kernel_rfl) (by kernel_rfl) (fun _ _ _ h => h) (Or.inl ⟨by kernel_rfl, ?_⟩) hHeld ?_
          rotate_left 1
          · intro w hSw; obtain ⟨hs0, hs1⟩ := hSw; go_simp; (try with_reducible rfl)
          try simp only [Act.put, List.getElem_toArray, List.getElem_cons_succ, List.getElem_cons_zero, List.setIfInBounds_toArray, List.set_cons_zero, List.set_cons_succ]
          refine wpAnyT_take (i := 1) (oi := _) (v := ?_) rfl (by kernel_rfl) (by kernel_rfl) (by kernel_rfl) (by kernel_rfl) (by kernel_rfl) (fun _ _ _ h => h) (Or.inl ⟨by kernel_rfl, ?_⟩) hHeld ?_
          rotate_left 1
          · intro w hSw; obtain ⟨hs0, hs1⟩ := hSw; go_simp; (try with_reducible rfl)
          try simp only [Act.put, List.getElem_toArray, List.getElem_cons_succ, List.getElem_cons_zero, List.setIfInBounds_toArray, List.set_cons_zero, List.set_cons_succ]
          refine wpAnyT_take (i := 2) (oi := _) (v := ?_) rfl (by kernel_rfl) (by kernel_rfl) (by kernel_rfl) (by kernel_rfl) (by kernel_rfl) (fun _ _ _ h => h) (Or.inl ⟨by kernel_rfl, ?_⟩) hHeld ?_
          rotate_left 1
          · intro w hSw; obtain ⟨hs0, hs1⟩ := hSw; go_simp; (try with_reducible rfl)
          try simp only [Act.put, List.getElem_toArray, List.getElem_cons_succ, List.getElem_cons_zero, List.setIfInBounds_toArray, List.set_cons_zero, List.set_cons_succ]
          refine wpAnyT_take (i := 3) (oi := _) (v := ?_) rfl (by kernel_rfl) (by kernel_rfl) (by kernel_rfl) (by kernel_rfl) (by kernel_rfl) (fun _ _ _ h => h) (Or.inl ⟨by kernel_rfl, ?_⟩) hHeld ?_
          rotate_left 1
          · intro w hSw; obtain ⟨hs0, hs1⟩ := hSw; go_simp; (try with_reducible rfl)
          try simp only [Act.put, List.getElem_toArray, List.getElem_cons_succ, List.getElem_cons_zero, List.setIfInBounds_toArray, List.set_cons_zero, List.set_cons_succ]
          refine wpAnyT_take (i := 4) (oi := _) (v := ?_) rfl (by kernel_rfl) (by kernel_rfl) (by kernel_rfl) (by kernel_rfl) (by kernel_rfl) (fun _ _ _ h => h) (Or.inl ⟨by kernel_rfl, ?_⟩) hHeld ?_
          rotate_left 1
          · intro w hSw; obtain ⟨hs0, hs1⟩ := hSw; go_simp; (try with_reducible rfl)
          try simp only [Act.put, List.getElem_toArray, List.getElem_cons_succ, List.getElem_cons_zero, List.setIfInBounds_toArray, List.set_cons_zero, List.set_cons_succ]
          refine wpAnyT_take (i := 5) (oi := _) (v := ?_) rfl (by kernel_rfl) (by kernel_rfl) (by kernel_rfl) (by kernel_rfl) (by kernel_rfl) (fun _ _ _ h => h) (Or.inl ⟨by kernel_rfl, ?_⟩) hHeld ?_
          rotate_left 1
          · intro w hSw; obtain ⟨hs0, hs1⟩ := hSw; go_simp; (try with_reducible rfl)
          try simp only [Act.put, List.getElem_toArray, List.getElem_cons_succ, List.getElem_cons_zero, List.setIfInBounds_toArray, List.set_cons_zero, List.set_cons_succ]
          refine wpAnyT_ready (rs := [6]) (by kernel_rfl) (by simp) ?_
          refine AllReadyT.cons (o := _) rfl (fun K hK => ?_) AllReadyT.nil
          go_simp
          go_at_call 23; refine (CU.out _).mono ?_; rintro e w4 ⟨rfl, rfl⟩
          go_wp2_with fail
          refine hK.out _ _ (fun _ => hHeld) ?_
          clear hK K
          try simp only [Act.put, List.getElem_toArray, List.getElem_cons_succ, List.getElem_cons_zero, List.setIfInBounds_toArray, List.set_cons_zero, List.set_cons_succ]
          refine wpAnyT_take (i := 7) (oi := _) (v := ?_) rfl (by kernel_rfl) (by kernel_rfl) (by kernel_rfl) (by kernel_rfl) (by kernel_rfl) (fun _ _ _ h => h) (Or.inl ⟨by kernel_rfl, ?_⟩) hHeld ?_
          rotate_left 1
          · intro w hSw; obtain ⟨hs0, hs1⟩ := hSw; go_simp; (try with_reducible rfl)
          try simp only [Act.put, List.getElem_toArray, List.getElem_cons_succ, List.getElem_cons_zero, List.setIfInBounds_toArray, List.set_cons_zero, List.set_cons_succ]
          refine wpAnyT_take (i := 8) (oi := _) (v := ?_) rfl (by kernel_rfl) (by kernel_rfl) (by kernel_rfl) (by kernel_rfl) (by kernel_rfl) (fun _ _ _ h => h) (Or.inl ⟨by kernel_rfl, ?_⟩) hHeld ?_
          rotate_left 1
          · intro w hSw; obtain ⟨hs0, hs1⟩ := hSw; go_simp; (try with_reducible rfl)
          try simp only [Act.put, List.getElem_toArray, List.getElem_cons_succ, List.getElem_cons_zero, List.setIfInBounds_toArray, List.set_cons_zero, List.set_cons_succ]
          refine wpAnyT_take (i := 9) (oi := _) (v := ?_) rfl (by kernel_rfl) (by kernel_rfl) (by kernel_rfl) (by kernel_rfl) (by kernel_rfl) (fun _ _ _ h => h) (Or.inl ⟨by kernel_rfl, ?_⟩) hHeld ?_
          rotate_left 1
          · intro w hSw; obtain ⟨hs0, hs1⟩ := hSw; go_simp; (try with_reducible rfl)
          try simp only [Act.put, List.getElem_toArray, List.getElem_cons_succ, List.getElem_cons_zero, List.setIfInBounds_toArray, List.set_cons_zero, List.set_cons_succ]
          refine wpAnyT_ready (rs := [10]) (by kernel_rfl) (by simp) ?_
          refine AllReadyT.cons (o := _) rfl (fun K hK => ?_) AllReadyT.nil
          go_simp
          refine hK.out _ _ (fun h => by cases h) ?_
          clear hK K
          try simp only [Act.put, List.getElem_toArray, List.getElem_cons_succ, List.getElem_cons_zero, List.setIfInBounds_toArray, List.set_cons_zero, List.set_cons_succ]
          refine wpAnyT_done (by kernel_rfl) ?_ _
          refine NoPanic.normal ?_
          clear hHeld q3 q3f z3 HS10
          have X4 : Hid (Blk (W3.setCell ⟨p.x, 3, none⟩ (.int .i64 sq)).drew p.x mapT (liveC p f' sq)) := by
            have e := X3.out.set_ 3 (.int .i64 (sq : Int))
            have e2 : Blk (W3.setCell ⟨p.x, 3, none⟩ (.int .i64 sq)) p.x mapT (liveC p f' sq) := by simpa using e
            exact e2.drew
          have K4 : Hid (Keeps (fun b => b = p.x) W (W3.setCell ⟨p.x, 3, none⟩ (.int .i64 sq)).drew) := (Keeps.setCell (S := fun b => b = p.x) K3.out (p := ⟨p.x, 3, none⟩) (.inl rfl) _).drew
          generalize (W3.setCell ⟨p.x, 3, none⟩ (.int .i64 (sq : Int))).drew = W4 at X4 K4 ⊢
          have HN := Lib.hid (DR.next HD.out HO.out (by rw [H0.out]; decide) W W4 HZ.out.ring HZ.out.keeps HZ.out.row K4.out HX.out (by rw [HUS.out, HF'.out, HSQ.out]; exact X4.out))
          have hm4 : W4.cell? ⟨p.x, 3, none⟩ = some (.int .i64 sq) := X4.out.cell 3
          have HLT : Hid (sq < su) := by
            have h1 := HSU.out
            have h2 := uses_ge r.size
            rw [HUS.out] at h2
            rw [HSQ.out] at h1
            show sq < su
            omega
          go_wp2_with fail
          go_roundw
          case rel => exact ⟨_, _, _, HN.out⟩
          case measure =>
            have := HLT.out
            rw [hm4, c3]
            simp [intOf]
            omega
end
end Go.Proofs.Ytdihlmhipkcedaa
