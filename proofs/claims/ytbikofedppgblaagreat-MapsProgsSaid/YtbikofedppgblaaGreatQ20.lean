/-
  Package hash: add: Alloc refused; a new entry with room; a new entry for which the oldest one goes.
-/
import Derived.Test.YtbikofedppgblaaGreatQ19
namespace Go.Proofs.YtbikofedppgblaaGreat
open Go Go.RowKit Go.Maps
set_option linter.unusedVariables false
set_option linter.unusedSimpArgs false
set_option maxRecDepth 100000
theorem below_box {W w2 : World} {t : TypeId} {cs : Array Value} (hb : Below (W.alloc (.cells cs t)).drew.heap.size (W.alloc (.cells cs t)).drew w2) : Below (W.heap.size + 1) (W.alloc (.cells cs t)) w2 := by
  have h : (W.alloc (.cells cs t)).drew.heap.size = W.heap.size + 1 := by simp [World.drew]
  rw [h] at hb
  exact ⟨hb.os, hb.tape, hb.output, hb.size, hb.block⟩
section
variable {p : HPar} {w0 w w1 w2 w' : World} {P0 P U T T' : Nat → Prop} {s s' : HSt} {mb N N' : Nat} {D D' : DataW Value} {bl bl' : Nat → Nat}
set_option maxHeartbeats 2000000 in
theorem PG.add_mem1 (h : PG p w0 P0 s T mb N D bl w) (key value : ByteArray) (hn : s.es.length ≠ p.mx) (hf : s.m.fail = 1) (hv1 : 1 ≤ p.v) (hv2 : p.v ≤ 4096) :
    Calls Tryz.prog 107 #[tp p.x, .string key, .string value] w fun e w' => e = .returned (.int .i64 2) ∧ ∃ T', PG p w0 P0 { s with m := { s.m with fail := 0 } } T' mb N D bl w' := by
  have c0 : w.cell? ⟨p.x, 0, none⟩ = some (tp p.bm) := h.map.cell 0
  have c1 : w.cell? ⟨p.x, 1, none⟩ = some (.int .i64 p.k) := h.map.cell 1
  have c3 : w.cell? ⟨p.x, 3, none⟩ = some (.int .i64 p.v) := h.map.cell 3
  have c4 : w.cell? ⟨p.x, 4, none⟩ = some (.int .i64 p.mx) := h.map.cell 4
  have c5 : w.cell? ⟨p.x, 5, none⟩ = some (.map (some mb)) := h.map.cell 5
  have hl : ∀ n ty, (Builtin.len_ #[entriesT] ty #[.map (some mb)]).run Tryz.prog (w.drewN n) = .ok (.int .i64 (s.es.length : Int)) (w.drewN n) := fun n ty => (h.drewN n).lenRun ty
  have g1 : ((s.es.length : Int) == (p.mx : Int)) = false := by simp; omega
  have CA := Lib.hid (fun n => (h.drewN n).drew.call (k_alloc_no p.bm s.m hf p.v hv1 (by omega)))
  clear h hn hf
  go_enter Tryz.func107, Tryz.ntmps107
  go_upto_region 1 with fail
  go_quiet (fail)
  go_upto_region 4 with fail
  generalize hW : w.drewN _ = wd
  obtain ⟨nd, rfl⟩ : ∃ nd, wd = w.drewN nd := ⟨_, hW.symm⟩
  clear hW
  have S0 : Hid (w.cell? ⟨p.x, 0, none⟩ = some (tp p.bm) ∧ w.cell? ⟨p.x, 3, none⟩ = some (.int .i64 p.v)) := ⟨c0, c3⟩
  go_region_held3 (fun W => W.cell? ⟨p.x, 0, none⟩ = some (tp p.bm) ∧ W.cell? ⟨p.x, 3, none⟩ = some (.int .i64 p.v))
    (first | exact S0.out | exact S1.out)
    (first
      | (go_at_call 70; refine (CA.out _).mono ?_; rintro e w1 ⟨rfl, T1, h1, _⟩; have H1 := Lib.hid h1; have S1 : Hid (w1.cell? ⟨p.x, 0, none⟩ = some (tp p.bm) ∧ w1.cell? ⟨p.x, 3, none⟩ = some (.int .i64 p.v)) := ⟨h1.map.cell 0, h1.map.cell 3⟩; clear h1))
  go_wp2_with fail
  go_ret
  exact ⟨rfl, T1, H1.out⟩
set_option maxHeartbeats 2000000 in
theorem PG.add_mem2 (h : PG p w0 P0 s T mb N D bl w) (key value : ByteArray) (hn : s.es.length = p.mx) (hk1 : p.k ≠ 1) (hf : s.m.fail = 1) (hv1 : 1 ≤ p.v) (hv2 : p.v ≤ 4096) :
    Calls Tryz.prog 107 #[tp p.x, .string key, .string value] w fun e w' => e = .returned (.int .i64 2) ∧ ∃ T', PG p w0 P0 { s with m := { s.m with fail := 0 } } T' mb N D bl w' := by
  have c0 : w.cell? ⟨p.x, 0, none⟩ = some (tp p.bm) := h.map.cell 0
  have c1 : w.cell? ⟨p.x, 1, none⟩ = some (.int .i64 p.k) := h.map.cell 1
  have c3 : w.cell? ⟨p.x, 3, none⟩ = some (.int .i64 p.v) := h.map.cell 3
  have c4 : w.cell? ⟨p.x, 4, none⟩ = some (.int .i64 p.mx) := h.map.cell 4
  have c5 : w.cell? ⟨p.x, 5, none⟩ = some (.map (some mb)) := h.map.cell 5
  have hl : ∀ n ty, (Builtin.len_ #[entriesT] ty #[.map (some mb)]).run Tryz.prog (w.drewN n) = .ok (.int .i64 (s.es.length : Int)) (w.drewN n) := fun n ty => (h.drewN n).lenRun ty
  have g1 : ((s.es.length : Int) == (p.mx : Int)) = true := by simp; omega
  have g2 : (p.k == 1) = false := by simp; exact hk1
  have CA := Lib.hid (fun n => (h.drewN n).drew.call (k_alloc_no p.bm s.m hf p.v hv1 (by omega)))
  clear h hn hf hk1
  go_enter Tryz.func107, Tryz.ntmps107
  go_upto_region 1 with fail
  go_quiet (fail)
  go_upto_region 4 with fail
  generalize hW : w.drewN _ = wd
  obtain ⟨nd, rfl⟩ : ∃ nd, wd = w.drewN nd := ⟨_, hW.symm⟩
  clear hW
  have S0 : Hid (w.cell? ⟨p.x, 0, none⟩ = some (tp p.bm) ∧ w.cell? ⟨p.x, 3, none⟩ = some (.int .i64 p.v)) := ⟨c0, c3⟩
  go_region_held3 (fun W => W.cell? ⟨p.x, 0, none⟩ = some (tp p.bm) ∧ W.cell? ⟨p.x, 3, none⟩ = some (.int .i64 p.v))
    (first | exact S0.out | exact S1.out)
    (first
      | (go_at_call 70; refine (CA.out _).mono ?_; rintro e w1 ⟨rfl, T1, h1, _⟩; have H1 := Lib.hid h1; have S1 : Hid (w1.cell? ⟨p.x, 0, none⟩ = some (tp p.bm) ∧ w1.cell? ⟨p.x, 3, none⟩ = some (.int .i64 p.v)) := ⟨h1.map.cell 0, h1.map.cell 3⟩; clear h1))
  go_wp2_with fail
  go_ret
  exact ⟨rfl, T1, H1.out⟩
set_option maxHeartbeats 4000000 in
theorem PG.add_new (h : PG p w0 P0 s T mb N D bl w) (ho : HOk p s) (key : ByteArray) (l : List UInt8) (hn : s.es.length ≠ p.mx) (hf : s.m.fail ≠ 1) (hmd : s.m.made < 4095) (hks : key.size = p.key) (hl' : l.length = p.v) (hfd : findE s.es key = none) (hc : s.clock < 1000000) (hN : N ≤ s.clock) :
    Calls Tryz.prog 107 #[tp p.x, .string key, .string (bstr l)] w fun e w' => e = .returned (.int .i64 0) ∧ ∃ T' N' D' bl', N' ≤ s.clock + 1 ∧ PG p w0 P0 (((s.alloc p.v).fresh (s.m.made + 1) key l p.v).use (s.es.length)) T' mb N' D' bl' w' := by
  have v1 := ho.par.v1
  have v2 := ho.par.v2
  have hkm : key.size ≤ 4096 := by rw [hks]; have := ho.par.k2; omega
  have hkl : key.size ≤ maxLen := by unfold maxLen; omega
  have c0 : w.cell? ⟨p.x, 0, none⟩ = some (tp p.bm) := h.map.cell 0
  have c1 : w.cell? ⟨p.x, 1, none⟩ = some (.int .i64 p.k) := h.map.cell 1
  have c3 : w.cell? ⟨p.x, 3, none⟩ = some (.int .i64 p.v) := h.map.cell 3
  have c4 : w.cell? ⟨p.x, 4, none⟩ = some (.int .i64 p.mx) := h.map.cell 4
  have c5 : w.cell? ⟨p.x, 5, none⟩ = some (.map (some mb)) := h.map.cell 5
  have hl : ∀ n ty, (Builtin.len_ #[entriesT] ty #[.map (some mb)]).run Tryz.prog (w.drewN n) = .ok (.int .i64 (s.es.length : Int)) (w.drewN n) := fun n ty => (h.drewN n).lenRun ty
  have g1 : ((s.es.length : Int) == (p.mx : Int)) = false := by simp; omega
  have CA := Lib.hid (fun n => (h.drewN n).drew.call (k_alloc p.bm s.m hf hmd p.v v1 (by omega)))
  have CC := Lib.hid (fun w1 => clone_any key hkm w1)
  have HK := Lib.hid (keyS hkl)
  have hnew : ∀ e, e ∈ s.es → e.n ≠ s.m.made + 1 := fun e he => by have := (ho.of_mem he).1; omega
  have hkey := find_all hfd
  have hoA := ho.alloc p.v
  have hlen : (s.alloc p.v).es.length = s.es.length := rfl
  have hsub : ∀ e, e ∈ (s.alloc p.v).es → e ∈ s.es := fun e he => he
  have HV : (s.alloc p.v).m.vs (s.m.made + 1) = some (3, List.replicate p.v 0, false) := grown_new s.m p.v
  have HPUSH : Hid (∀ w1 w2 w3 T1 N2, PG p w0 P0 (s.alloc p.v) T1 mb N D bl w1 → Below (w1.heap.size + 1) (w1.alloc (.cells (enC (s.m.made + 1) 0) entryT)) w2 → OwnsE w3 mb N2 (D.put (litS key) (held w1.heap.size)) → w2.grownBy w3 (some mb) → Blk w2 w1.heap.size entryT (enC (s.m.made + 1) 0) →
      PG p w0 P0 { (s.alloc p.v) with es := (s.alloc p.v).es ++ [⟨key, s.m.made + 1, 0⟩] } T1 mb N2 (D.put (litS key) (held w1.heap.size)) (upb bl (s.m.made + 1) w1.heap.size) w3) :=
    fun w1 w2 w3 T1 N2 h1 h2 h3 h4 h5 => h1.came hoA key (s.m.made + 1) (fun e he => hkey e (hsub e he)) (fun e he => hnew e (hsub e he)) (.inr h2) h3 h4 h5
  have CW : Hid (∀ w3 T3 N2 D3 b, PG p w0 P0 { (s.alloc p.v) with es := (s.alloc p.v).es ++ [⟨key, s.m.made + 1, 0⟩] } T3 mb N2 D3 (upb bl (s.m.made + 1) b) w3 →
      Calls Tryz.prog 106 #[tp p.x, tp b, .string (bstr l)] w3 fun e' w' => e' = .returned (.int .i64 0) ∧ ∃ T', PG p w0 P0 (((s.alloc p.v).fresh (s.m.made + 1) key l p.v).use (s.es.length)) T' mb N2 D3 (upb bl (s.m.made + 1) b) w') := by
    intro w3 T3 N2 D3 b h3
    have hap := hoA.aparts.push key (s.m.made + 1) (fun e he => hkey e (hsub e he)) (fun e he => hnew e (hsub e he)) (fun e he => by have := (hoA.of_mem he).2.2.1.1; omega)
    have hat : ((s.alloc p.v).es ++ [(⟨key, s.m.made + 1, 0⟩ : Ent)])[(s.alloc p.v).es.length]? = some ⟨key, s.m.made + 1, 0⟩ := by simp
    have := h3.write (s := { (s.alloc p.v) with es := (s.alloc p.v).es ++ [⟨key, s.m.made + 1, 0⟩] }) hap (s.alloc p.v).es.length ⟨key, s.m.made + 1, 0⟩ hat hc (3, List.replicate p.v 0, false) HV (by show s.m.made + 1 ≤ _; omega) l (by omega) (by show _ ≤ (List.replicate _ _).length; rw [List.length_replicate]; omega)
    rw [hlen] at this
    have e1 : upb bl (s.m.made + 1) b (s.m.made + 1) = b := upb_same _ _ _
    simp only [e1] at this
    exact this
  have HNX : Hid (N < maxLen) := by unfold Hid maxLen; omega
  have HN := Lib.hid hN
  clear h ho hn hf hks hl' hfd hc hN hkm hkl hnew hkey hoA hlen hsub HV v1 v2
  go_enter Tryz.func107, Tryz.ntmps107
  go_upto_region 1 with fail
  go_quiet (fail)
  go_upto_region 4 with fail
  generalize hW : w.drewN _ = wd
  obtain ⟨nd, rfl⟩ : ∃ nd, wd = w.drewN nd := ⟨_, hW.symm⟩
  clear hW
  have S0 : Hid (w.cell? ⟨p.x, 0, none⟩ = some (tp p.bm) ∧ w.cell? ⟨p.x, 3, none⟩ = some (.int .i64 p.v)) := ⟨c0, c3⟩
  go_region_held3 (fun W => W.cell? ⟨p.x, 0, none⟩ = some (tp p.bm) ∧ W.cell? ⟨p.x, 3, none⟩ = some (.int .i64 p.v))
    (first | exact S0.out | exact S1.out)
    (first
      | (go_at_call 70; refine (CA.out _).mono ?_; rintro e w1 ⟨rfl, T1, h1, _⟩; have H1 : Hid (PG p w0 P0 (s.alloc p.v) T1 mb N D bl w1) := h1; have S1 : Hid (w1.cell? ⟨p.x, 0, none⟩ = some (tp p.bm) ∧ w1.cell? ⟨p.x, 3, none⟩ = some (.int .i64 p.v)) := ⟨h1.map.cell 0, h1.map.cell 3⟩; clear h1))
  clear S0 S1 CA c0 c1 c3 c4 c5 hl
  go_upto_region 9 with fail
  have y5 : (w1.alloc (.cells (enC (s.m.made + 1) 0) entryT)).cell? ⟨p.x, 5, none⟩ = some (.map (some mb)) := (H1.out.quiet ((Keeps.refl _ w1).alloc _)).map.cell 5
  have YB : Hid (Blk (w1.alloc (.cells (enC (s.m.made + 1) 0) entryT)) w1.heap.size entryT (enC (s.m.made + 1) 0)) := Blk.new _ _ _
  have YO : Hid (OwnsE (w1.alloc (.cells (enC (s.m.made + 1) 0) entryT)) mb N D) := H1.out.own.alloc _
  go_upto_region 10 with fail
  have S0 : Hid ((w1.alloc (.cells (enC (s.m.made + 1) 0) entryT)).cell? ⟨p.x, 5, none⟩ = some (.map (some mb))) := y5
  go_region_held3 (fun W => W.cell? ⟨p.x, 5, none⟩ = some (.map (some mb)))
    (first | exact S0.out | exact S2.out | exact S3.out)
    (first
      | (go_at_call 78; refine (CC.out _).mono ?_; rintro e w2 ⟨rfl, hb⟩; obtain ⟨w3, hrun, hown, hg⟩ := World.ownsMap.update (OwnsE.keeps (show OwnsE (w1.alloc (.cells (enC (s.m.made + 1) 0) entryT)).drew mb N D from YO.out) (keeps_grow hb) (fun h => h)) lawS Tryz.underlying138 HNX.out HK.out (val := tp w1.heap.size) rfl; have HB2 : Hid (Below (w1.heap.size + 1) (w1.alloc (.cells (enC (s.m.made + 1) 0) entryT)) w2) := below_box hb; have S2 : Hid (w2.cell? ⟨p.x, 5, none⟩ = some (.map (some mb))) := ((H1.out.quiet ((Keeps.refl _ w1).alloc _)).drew.quiet (keeps_grow hb)).map.cell 5; have YB2 := Lib.hid (blk_below (Blk.drew YB.out) hb); have H3 := Lib.hid (HPUSH.out _ _ _ _ _ H1.out HB2.out hown hg YB2.out); have S3 : Hid (w3.cell? ⟨p.x, 5, none⟩ = some (.map (some mb))) := H3.out.map.cell 5; clear hb hown hg))
  go_wp2_with (go_at_call 106; refine (CW.out _ _ _ _ _ H3.out).mono ?_; rintro e w4 ⟨rfl, T4, h4⟩; have H4 := Lib.hid h4; clear h4)
  go_ret
  exact ⟨rfl, T4, _, _, _, Nat.succ_le_succ HN.out, H4.out⟩
set_option maxHeartbeats 4000000 in
theorem PG.add_lru (h : PG p w0 P0 s T mb N D bl w) (ho : HOk p s) (key : ByteArray) (l : List UInt8) (hn : s.es.length = p.mx) (hk1 : p.k ≠ 1) (eo : Ent) (heo : s.es[oldTo s.es s.es.length]? = some eo) (bo : List UInt8) (hqo : (s.alloc p.v).m.vs eo.n = some (3, bo, false)) (hf : s.m.fail ≠ 1) (hmd : s.m.made < 4095) (hks : key.size = p.key) (hl' : l.length = p.v) (hfd : findE s.es key = none) (hc : s.clock < 1000000) (hN : N ≤ s.clock) :
    Calls Tryz.prog 107 #[tp p.x, .string key, .string (bstr l)] w fun e w' => e = .returned (.int .i64 0) ∧ ∃ T' N' D' bl', N' ≤ s.clock + 1 ∧ PG p w0 P0 ((((s.alloc p.v).cut (oldTo s.es s.es.length) eo (3, bo, false)).fresh (s.m.made + 1) key l p.v).use (s.es.length - 1)) T' mb N' D' bl' w' := by
  have v1 := ho.par.v1
  have v2 := ho.par.v2
  have hkm : key.size ≤ 4096 := by rw [hks]; have := ho.par.k2; omega
  have hkl : key.size ≤ maxLen := by unfold maxLen; omega
  have c0 : w.cell? ⟨p.x, 0, none⟩ = some (tp p.bm) := h.map.cell 0
  have c1 : w.cell? ⟨p.x, 1, none⟩ = some (.int .i64 p.k) := h.map.cell 1
  have c3 : w.cell? ⟨p.x, 3, none⟩ = some (.int .i64 p.v) := h.map.cell 3
  have c4 : w.cell? ⟨p.x, 4, none⟩ = some (.int .i64 p.mx) := h.map.cell 4
  have c5 : w.cell? ⟨p.x, 5, none⟩ = some (.map (some mb)) := h.map.cell 5
  have hl : ∀ n ty, (Builtin.len_ #[entriesT] ty #[.map (some mb)]).run Tryz.prog (w.drewN n) = .ok (.int .i64 (s.es.length : Int)) (w.drewN n) := fun n ty => (h.drewN n).lenRun ty
  have g1 : ((s.es.length : Int) == (p.mx : Int)) = true := by simp; omega
  have g2 : (p.k == 1) = false := by simp; exact hk1
  have CA := Lib.hid (fun n => (h.drewN n).drew.call (k_alloc p.bm s.m hf hmd p.v v1 (by omega)))
  have CC := Lib.hid (fun w1 => clone_any key hkm w1)
  have HK := Lib.hid (keyS hkl)
  have hnew : ∀ e, e ∈ s.es → e.n ≠ s.m.made + 1 := fun e he => by have := (ho.of_mem he).1; omega
  have hkey := find_all hfd
  have hoA := ho.alloc p.v
  have h0 : 0 < s.es.length := by have := ho.par.m1; omega
  have hoC := hoA.cut (i := oldTo s.es s.es.length) heo (3, bo, false)
  have hlen : ((s.alloc p.v).cut (oldTo s.es s.es.length) eo (3, bo, false)).es.length = s.es.length - 1 := by
    show (s.es.eraseIdx _).length = _
    rw [List.length_eraseIdx, if_pos (oldTo_lt s.es s.es.length h0)]
  have hsub : ∀ e, e ∈ ((s.alloc p.v).cut (oldTo s.es s.es.length) eo (3, bo, false)).es → e ∈ s.es := fun e he => ((mem_erase heo ho.aparts).1 he).1
  have HV : ((s.alloc p.v).cut (oldTo s.es s.es.length) eo (3, bo, false)).m.vs (s.m.made + 1) = some (3, List.replicate p.v 0, false) := by
    have hne : s.m.made + 1 ≠ eo.n := fun e => hnew eo (List.mem_of_getElem? heo) e.symm
    exact (updv_other _ _ hne).trans (grown_new s.m p.v)
  have CL := Lib.hid (fun w1 T1 (h1 : PG p w0 P0 (s.alloc p.v) T1 mb N D bl w1) => h1.leastUsed hoA h0 eo heo)
  have CD := Lib.hid (fun w1 T1 (h1 : PG p w0 P0 (s.alloc p.v) T1 mb N D bl w1) => h1.drop hoA.aparts (oldTo s.es s.es.length) eo heo (by rw [(ho.of_mem (List.mem_of_getElem? heo)).2.1]; have := ho.par.k2; unfold maxLen; omega) _ hqo rfl)
  have HPUSH : Hid (∀ w1 w2 w3 T1 N2, PG p w0 P0 ((s.alloc p.v).cut (oldTo s.es s.es.length) eo (3, bo, false)) T1 mb N (D.del (litS eo.key)) bl w1 → Below (w1.heap.size + 1) (w1.alloc (.cells (enC (s.m.made + 1) 0) entryT)) w2 → OwnsE w3 mb N2 ((D.del (litS eo.key)).put (litS key) (held w1.heap.size)) → w2.grownBy w3 (some mb) → Blk w2 w1.heap.size entryT (enC (s.m.made + 1) 0) →
      PG p w0 P0 { ((s.alloc p.v).cut (oldTo s.es s.es.length) eo (3, bo, false)) with es := ((s.alloc p.v).cut (oldTo s.es s.es.length) eo (3, bo, false)).es ++ [⟨key, s.m.made + 1, 0⟩] } T1 mb N2 ((D.del (litS eo.key)).put (litS key) (held w1.heap.size)) (upb bl (s.m.made + 1) w1.heap.size) w3) :=
    fun w1 w2 w3 T1 N2 h1 h2 h3 h4 h5 => h1.came hoC key (s.m.made + 1) (fun e he => hkey e (hsub e he)) (fun e he => hnew e (hsub e he)) (.inr h2) h3 h4 h5
  have CW : Hid (∀ w3 T3 N2 D3 b, PG p w0 P0 { ((s.alloc p.v).cut (oldTo s.es s.es.length) eo (3, bo, false)) with es := ((s.alloc p.v).cut (oldTo s.es s.es.length) eo (3, bo, false)).es ++ [⟨key, s.m.made + 1, 0⟩] } T3 mb N2 D3 (upb bl (s.m.made + 1) b) w3 →
      Calls Tryz.prog 106 #[tp p.x, tp b, .string (bstr l)] w3 fun e' w' => e' = .returned (.int .i64 0) ∧ ∃ T', PG p w0 P0 ((((s.alloc p.v).cut (oldTo s.es s.es.length) eo (3, bo, false)).fresh (s.m.made + 1) key l p.v).use (s.es.length - 1)) T' mb N2 D3 (upb bl (s.m.made + 1) b) w') := by
    intro w3 T3 N2 D3 b h3
    have hap := hoC.aparts.push key (s.m.made + 1) (fun e he => hkey e (hsub e he)) (fun e he => hnew e (hsub e he)) (fun e he => by have := (hoC.of_mem he).2.2.1.1; omega)
    have hat : (((s.alloc p.v).cut (oldTo s.es s.es.length) eo (3, bo, false)).es ++ [(⟨key, s.m.made + 1, 0⟩ : Ent)])[((s.alloc p.v).cut (oldTo s.es s.es.length) eo (3, bo, false)).es.length]? = some ⟨key, s.m.made + 1, 0⟩ := by simp
    have := h3.write (s := { ((s.alloc p.v).cut (oldTo s.es s.es.length) eo (3, bo, false)) with es := ((s.alloc p.v).cut (oldTo s.es s.es.length) eo (3, bo, false)).es ++ [⟨key, s.m.made + 1, 0⟩] }) hap ((s.alloc p.v).cut (oldTo s.es s.es.length) eo (3, bo, false)).es.length ⟨key, s.m.made + 1, 0⟩ hat hc (3, List.replicate p.v 0, false) HV (by show s.m.made + 1 ≤ _; omega) l (by omega) (by show _ ≤ (List.replicate _ _).length; rw [List.length_replicate]; omega)
    rw [hlen] at this
    have e1 : upb bl (s.m.made + 1) b (s.m.made + 1) = b := upb_same _ _ _
    simp only [e1] at this
    exact this
  have HNX : Hid (N < maxLen) := by unfold Hid maxLen; omega
  have HN := Lib.hid hN
  clear h ho hn hf hks hl' hfd hc hN hkm hkl hnew hkey hoA hlen hsub HV v1 v2 hk1 heo hqo hoC h0
  go_enter Tryz.func107, Tryz.ntmps107
  go_upto_region 1 with fail
  go_quiet (fail)
  go_upto_region 4 with fail
  generalize hW : w.drewN _ = wd
  obtain ⟨nd, rfl⟩ : ∃ nd, wd = w.drewN nd := ⟨_, hW.symm⟩
  clear hW
  have S0 : Hid (w.cell? ⟨p.x, 0, none⟩ = some (tp p.bm) ∧ w.cell? ⟨p.x, 3, none⟩ = some (.int .i64 p.v)) := ⟨c0, c3⟩
  go_region_held3 (fun W => W.cell? ⟨p.x, 0, none⟩ = some (tp p.bm) ∧ W.cell? ⟨p.x, 3, none⟩ = some (.int .i64 p.v))
    (first | exact S0.out | exact S1.out)
    (first
      | (go_at_call 70; refine (CA.out _).mono ?_; rintro e w1 ⟨rfl, T1, h1, _⟩; have H1 : Hid (PG p w0 P0 (s.alloc p.v) T1 mb N D bl w1) := h1; have S1 : Hid (w1.cell? ⟨p.x, 0, none⟩ = some (tp p.bm) ∧ w1.cell? ⟨p.x, 3, none⟩ = some (.int .i64 p.v)) := ⟨h1.map.cell 0, h1.map.cell 3⟩; clear h1))
  clear S0 S1 CA c0 c1 c3 c4 c5 hl
  have x5 : w1.cell? ⟨p.x, 5, none⟩ = some (.map (some mb)) := H1.out.map.cell 5
  go_upto_region 9 with (first
    | (go_at_call 135; refine (CL.out _ _ H1.out).mono ?_; rintro e wa ⟨rfl, ka⟩; have HA := Lib.hid (H1.out.quiet ka); clear ka)
    | (go_at_call 112; refine (CD.out _ _ HA.out).mono ?_; rintro e wb ⟨rfl, TB, hb⟩; have HB := Lib.hid hb; clear hb))
  have y5 : (wb.alloc (.cells (enC (s.m.made + 1) 0) entryT)).cell? ⟨p.x, 5, none⟩ = some (.map (some mb)) := (HB.out.quiet ((Keeps.refl _ wb).alloc _)).map.cell 5
  have YB : Hid (Blk (wb.alloc (.cells (enC (s.m.made + 1) 0) entryT)) wb.heap.size entryT (enC (s.m.made + 1) 0)) := Blk.new _ _ _
  have YO : Hid (OwnsE (wb.alloc (.cells (enC (s.m.made + 1) 0) entryT)) mb N (D.del (litS eo.key))) := HB.out.own.alloc _
  go_upto_region 10 with fail
  have S0 : Hid ((wb.alloc (.cells (enC (s.m.made + 1) 0) entryT)).cell? ⟨p.x, 5, none⟩ = some (.map (some mb))) := y5
  go_region_held3 (fun W => W.cell? ⟨p.x, 5, none⟩ = some (.map (some mb)))
    (first | exact S0.out | exact S2.out | exact S3.out)
    (first
      | (go_at_call 78; refine (CC.out _).mono ?_; rintro e w2 ⟨rfl, hb⟩; obtain ⟨w3, hrun, hown, hg⟩ := World.ownsMap.update (OwnsE.keeps (show OwnsE (wb.alloc (.cells (enC (s.m.made + 1) 0) entryT)).drew mb N (D.del (litS eo.key)) from YO.out) (keeps_grow hb) (fun h => h)) lawS Tryz.underlying138 HNX.out HK.out (val := tp wb.heap.size) rfl; have HB2 : Hid (Below (wb.heap.size + 1) (wb.alloc (.cells (enC (s.m.made + 1) 0) entryT)) w2) := below_box hb; have S2 : Hid (w2.cell? ⟨p.x, 5, none⟩ = some (.map (some mb))) := ((HB.out.quiet ((Keeps.refl _ wb).alloc _)).drew.quiet (keeps_grow hb)).map.cell 5; have YB2 := Lib.hid (blk_below (Blk.drew YB.out) hb); have H3 := Lib.hid (HPUSH.out _ _ _ _ _ HB.out HB2.out hown hg YB2.out); have S3 : Hid (w3.cell? ⟨p.x, 5, none⟩ = some (.map (some mb))) := H3.out.map.cell 5; clear hb hown hg))
  go_wp2_with (go_at_call 106; refine (CW.out _ _ _ _ _ H3.out).mono ?_; rintro e w4 ⟨rfl, T4, h4⟩; have H4 := Lib.hid h4; clear h4)
  go_ret
  exact ⟨rfl, T4, _, _, _, Nat.succ_le_succ HN.out, H4.out⟩
end
end Go.Proofs.YtbikofedppgblaaGreat
