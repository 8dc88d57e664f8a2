/-
  Package objs: begin.
-/
import Derived.Test.YtmohbdbofehamaaOCounts2
import Derived.WideMake
namespace Go.Proofs.Ytmohbdbofehamaa
open Go Go.RowKit Go.Maps OSt
set_option linter.unusedVariables false
set_option linter.unusedSimpArgs false
set_option maxRecDepth 100000
theorem eqNilO (b : Nat) (w : World) : (binOp .eql mapOT (.map (some b)) (.map none)).run Try.prog w = .ok (.bool false) w := by kernel_rfl
theorem eqNilO' (w : World) : (binOp .eql mapOT (.map none) (.map none)).run Try.prog w = .ok (.bool true) w := by kernel_rfl
section
variable {x : Nat} {w0 w w' : World} {P0 P U : Nat → Prop} {s s' : OSt} {ld ld' : Nat → Nat} {mo mp mo' mp' : Option Nat} {D E D' E' : DataW Value} {bl bl' : Nat → Nat} {id : Nat}
set_option maxHeartbeats 1000000 in
theorem begin_any (h : PG x w0 P0 s ld w) (hn : s.os.length ≤ 1000000) (kd : Int) :
    Calls Try.prog 33 #[tp x, .int .i64 kd] w fun e w' => e = .returned (.int .i64 ((s.os.length + 1 : Nat) : Int)) ∧ PG x w0 P0 { s with os := s.os ++ [⟨kd, 0, true⟩] } (bump ld (s.os.length + 1) 1) w' := by
  obtain ⟨mo, mp, D, E, bl, h⟩ := h
  have c0 : w.cell? ⟨x, 0, none⟩ = some (.map mo) := h.tab.cell 0
  have c1 : w.cell? ⟨x, 1, none⟩ = some (.int .i64 (s.os.length : Int)) := h.tab.cell 1
  have f0 : w.frozen? ⟨x, 0, none⟩ = false := h.tab.frozen 0
  have f1 : w.frozen? ⟨x, 1, none⟩ = false := h.tab.frozen 1
  have e1 : IntKind.i64.wrap ((s.os.length : Int) + 1) = ((s.os.length + 1 : Nat) : Int) := by rw [IntWalk.i64_in _ (by omega)]; omega
  have H := Lib.hid h
  have HKEY := Lib.hid (keyI (n := ((s.os.length + 1 : Nat) : Int)) (by omega))
  have HL : Hid (s.os.length < maxLen) := by unfold Hid maxLen; omega
  have HFIN : Hid (∀ (w1 W2 w3 : World) (b : Nat), Keeps (fun c => c = x) w w1 → (mo = some b ∨ w.heap.size ≤ b) → b < w1.heap.size → Blk w1 x tabT (tabC (some b) (s.os.length + 1) s.fds mp) → IsMap D →
      Keeps (fun _ => False) (w1.alloc (.cells (obC kd 1 0) objT)) W2 → w3.ownsMap Try.prog intT heldV b (s.os.length + 1) (D.put (litI ((s.os.length + 1 : Nat) : Int)) (heldD (tp w1.heap.size))) → W2.grownBy w3 (some b) →
      PG x w0 P0 { s with os := s.os ++ [⟨kd, 0, true⟩] } (bump ld (s.os.length + 1) 1) w3) := fun w1 W2 w3 b k hb hlt tab hm kq own tr => by
    have k1 : Keeps (fun c => c = x ∨ mo = some c) w W2 := ((k.mono fun c hc => .inl hc).alloc _).trans (kq.mono fun _ hf => hf.elim)
    have k2 : Keeps (fun c => c = x ∨ mo = some c) w w3 := k1.grown tr fun c hc => by
      cases hc
      rcases hb with h1 | h1
      · exact .inl (.inr h1)
      · exact .inr h1
    have kb : Keeps (fun c => c = b) W2 w3 := (Keeps.refl _ _).grown tr fun c hc => by cases hc; exact .inl rfl
    have t2 : Blk W2 x tabT (tabC (some b) (s.os.length + 1) s.fds mp) := (tab.alloc _).keeps kq (fun hf => hf)
    have o2 : Blk W2 w1.heap.size objT (obC kd 1 0) := (Blk.new _ _ _).keeps kq (fun hf => hf)
    have hxb : x ≠ b := fun e => by
      rcases hb with h1 | h1
      · exact h.obs.ne_ h.tab h1 e
      · have := h.tab.lt; omega
    refine h.came (D1 := D) kd k2 (fun c hc => hc) (k.size) hb (fun c hc e => ?_) (t2.keeps kb hxb) own hm (o2.keeps kb (by omega))
    subst e
    rcases hb with h1 | h1
    · exact h.two _ h1 hc
    · have := h.pth.lt hc; omega
  have hmm := @run_makeMap Try.prog
  have HM1 : Hid (Keeps (fun c => c = x) w (w.setCell ⟨x, 1, none⟩ (.int .i64 ((s.os.length + 1 : Nat) : Int)))) := (Keeps.refl (fun c => c = x) w).setCell (p := ⟨x, 1, none⟩) (.inl rfl) _
  have HM2 : Hid (Keeps (fun c => c = x) w (((w.alloc (.map #[] 0)).setCell ⟨x, 0, none⟩ (.map (some w.heap.size))).setCell ⟨x, 1, none⟩ (.int .i64 ((s.os.length + 1 : Nat) : Int)))) :=
    ((((Keeps.refl (fun c => c = x) w).alloc _).setCell (p := ⟨x, 0, none⟩) (.inl rfl) _).setCell (p := ⟨x, 1, none⟩) (.inl rfl) _)
  have T1 : Hid (Blk (w.setCell ⟨x, 1, none⟩ (.int .i64 ((s.os.length + 1 : Nat) : Int))) x tabT (tabC mo (s.os.length + 1) s.fds mp)) := by
    have := h.tab.set_ 1 (.int .i64 ((s.os.length + 1 : Nat) : Int))
    rw [tabC_set_made] at this
    exact this
  have T2 : Hid (Blk (((w.alloc (.map #[] 0)).setCell ⟨x, 0, none⟩ (.map (some w.heap.size))).setCell ⟨x, 1, none⟩ (.int .i64 ((s.os.length + 1 : Nat) : Int))) x tabT (tabC (some w.heap.size) (s.os.length + 1) s.fds mp)) := by
    have := ((h.tab.alloc (.map #[] 0)).set_ 0 (.map (some w.heap.size))).set_ 1 (.int .i64 ((s.os.length + 1 : Nat) : Int))
    rw [tabC_set_objs, tabC_set_made] at this
    exact this
  have HX := Lib.hid h.tab.lt
  obtain ⟨n1, hn1⟩ : ∃ n1, s.os.length + 1 = n1 := ⟨_, rfl⟩
  rw [hn1] at e1 HKEY HM1 HM2 T1 T2 ⊢
  have HN1 := Lib.hid hn1
  rcases h.obs with ⟨rfl, rfl⟩ | ⟨b, rfl, hown⟩
  · have q0 := eqNilO' w
    have OW : Hid ((((w.alloc (.map #[] 0)).setCell ⟨x, 0, none⟩ (.map (some w.heap.size))).setCell ⟨x, 1, none⟩ (.int .i64 (n1 : Int))).ownsMap Try.prog intT heldV w.heap.size s.os.length (.map [])) := by
      have h0 := World.ownsMap_made w Try.prog intT heldV
      have k : Keeps (fun c => c = x) (w.alloc (.map #[] 0)) (((w.alloc (.map #[] 0)).setCell ⟨x, 0, none⟩ (.map (some w.heap.size))).setCell ⟨x, 1, none⟩ (.int .i64 (n1 : Int))) := (((Keeps.refl (fun c => c = x) _).setCell (p := ⟨x, 0, none⟩) (.inl rfl) _).setCell (p := ⟨x, 1, none⟩) (.inl rfl) _)
      obtain ⟨es, clock, g1, g2, g3, g4⟩ := ownsMap_block h0 (k.block w.heap.size h0.lt (by have := HX.out; omega))
      exact ⟨es, clock, g1, g2, Nat.le_trans g3 (Nat.zero_le _), g4⟩
    have AT := Lib.hid (h.tab.alloc (.map #[] 0))
    have HXB : Hid (x ≠ w.heap.size) := Nat.ne_of_lt HX.out
    clear HM1 T1
    have HM1 := HM2
    have T1 := T2
    clear h hn hn1 HM2 T2
    have a0 : (w.alloc (.map #[] 0)).cell? ⟨x, 0, none⟩ = some (.map none) := AT.out.cell 0
    have a1 : (w.alloc (.map #[] 0)).frozen? ⟨x, 0, none⟩ = false := AT.out.frozen 0
    have a2 : ((w.alloc (.map #[] 0)).setCell ⟨x, 0, none⟩ (.map (some w.heap.size))).cell? ⟨x, 1, none⟩ = some (.int .i64 (s.os.length : Int)) := (AT.out.set_ 0 _).cell 1
    have a3 : ((w.alloc (.map #[] 0)).setCell ⟨x, 0, none⟩ (.map (some w.heap.size))).frozen? ⟨x, 1, none⟩ = false := (AT.out.set_ 0 _).frozen 1
    clear AT
    go_enter Try.func33, Try.ntmps33
    go_upto_region 4 with fail
    generalize ((w.alloc (.map #[] 0)).setCell ⟨x, 0, none⟩ (.map (some w.heap.size))).setCell ⟨x, 1, none⟩ (.int .i64 (n1 : Int)) = w1 at HM1 T1 OW ⊢
    generalize hb : w.heap.size = b at T1 OW HXB ⊢
    have d0 : (w1.alloc (.cells #[.int .i64 kd, .int .i64 1, .int .i64 0] objT)).cell? ⟨x, 0, none⟩ = some (.map (some b)) := (T1.out.alloc _).cell 0
    have d1 : (w1.alloc (.cells #[.int .i64 kd, .int .i64 1, .int .i64 0] objT)).cell? ⟨x, 1, none⟩ = some (.int .i64 (n1 : Int)) := (T1.out.alloc _).cell 1
    have t0 : w1.cell? ⟨x, 0, none⟩ = some (.map (some b)) := T1.out.cell 0
    have t1 : w1.cell? ⟨x, 1, none⟩ = some (.int .i64 (n1 : Int)) := T1.out.cell 1
    obtain ⟨w3, hrun, hown3, hg⟩ := World.ownsMap.update (ownsMap_block OW.out (show (w1.alloc (.cells (obC kd 1 0) objT)).drew.heap[b]? = w1.heap[b]? from Below.heap_alloc w1 _ b OW.out.lt)) lawI Try.underlying55 HL.out HKEY.out (val := tp w1.heap.size) rfl
    have HG := Lib.hid (HFIN.out w1 _ w3 b HM1.out (.inr (Nat.le_of_eq hb)) OW.out.lt (by rw [HN1.out]; exact T1.out) OW.out.isMap (keeps_drew _) (by rw [HN1.out]; exact HN1.out ▸ hown3) hg)
    have hrun' : (Instr.mapUpdate mapOT (.map (some b)) (.int .i64 (n1 : Int)) (tp w1.heap.size)).run Try.prog (w1.alloc (.cells #[.int .i64 kd, .int .i64 1, .int .i64 0] objT)).drew = .ok () w3 := hrun
    clear hown3 hrun
    have S0 : Hid (w1.cell? ⟨x, 0, none⟩ = some (.map (some b)) ∧ w1.cell? ⟨x, 1, none⟩ = some (.int .i64 (n1 : Int))) := ⟨t0, t1⟩
    have HX3 : Hid (w3.heap[x]? = w1.heap[x]?) := (hg.block x (by have := T1.out.lt; simp [World.drew]; omega) (fun e => HXB.out (by cases e; rfl))).trans (Below.heap_alloc w1 _ x T1.out.lt)
    have T3 : Hid (Blk w3 x tabT (tabC (some b) n1 s.fds mp)) := HX3.out.trans T1.out
    have S3 : Hid (w3.cell? ⟨x, 0, none⟩ = some (.map (some b)) ∧ w3.cell? ⟨x, 1, none⟩ = some (.int .i64 (n1 : Int))) := ⟨T3.out.cell 0, T3.out.cell 1⟩
    have S1 : Hid ((w1.alloc (.cells #[.int .i64 kd, .int .i64 1, .int .i64 0] objT)).cell? ⟨x, 0, none⟩ = some (.map (some b)) ∧ (w1.alloc (.cells #[.int .i64 kd, .int .i64 1, .int .i64 0] objT)).cell? ⟨x, 1, none⟩ = some (.int .i64 (n1 : Int))) := ⟨d0, d1⟩
    go_region_held3 (fun W => W.cell? ⟨x, 0, none⟩ = some (.map (some b)) ∧ W.cell? ⟨x, 1, none⟩ = some (.int .i64 (n1 : Int)))
      (first | exact S0.out | exact S1.out | exact S3.out)
      (first | fail)
    go_wp2_with fail
    go_ret
    rw [← HN1.out]
    exact ⟨rfl, HG.out⟩
  · have q0 := eqNilO b w
    have OW := Lib.hid (ownsMap_block hown (HM1.out.block b hown.lt (fun e => h.obs.ne_ h.tab rfl e.symm)))
    have HXB : Hid (x ≠ b) := h.obs.ne_ h.tab rfl
    clear h hn hn1 hown HM2 T2
    go_enter Try.func33, Try.ntmps33
    go_upto_region 4 with fail
    generalize w.setCell ⟨x, 1, none⟩ (.int .i64 (n1 : Int)) = w1 at HM1 T1 OW ⊢
    have d0 : (w1.alloc (.cells #[.int .i64 kd, .int .i64 1, .int .i64 0] objT)).cell? ⟨x, 0, none⟩ = some (.map (some b)) := (T1.out.alloc _).cell 0
    have d1 : (w1.alloc (.cells #[.int .i64 kd, .int .i64 1, .int .i64 0] objT)).cell? ⟨x, 1, none⟩ = some (.int .i64 (n1 : Int)) := (T1.out.alloc _).cell 1
    have t0 : w1.cell? ⟨x, 0, none⟩ = some (.map (some b)) := T1.out.cell 0
    have t1 : w1.cell? ⟨x, 1, none⟩ = some (.int .i64 (n1 : Int)) := T1.out.cell 1
    obtain ⟨w3, hrun, hown3, hg⟩ := World.ownsMap.update (ownsMap_block OW.out (show (w1.alloc (.cells (obC kd 1 0) objT)).drew.heap[b]? = w1.heap[b]? from Below.heap_alloc w1 _ b OW.out.lt)) lawI Try.underlying55 HL.out HKEY.out (val := tp w1.heap.size) rfl
    have HG := Lib.hid (HFIN.out w1 _ w3 b HM1.out (.inl rfl) OW.out.lt (by rw [HN1.out]; exact T1.out) OW.out.isMap (keeps_drew _) (by rw [HN1.out]; exact HN1.out ▸ hown3) hg)
    have hrun' : (Instr.mapUpdate mapOT (.map (some b)) (.int .i64 (n1 : Int)) (tp w1.heap.size)).run Try.prog (w1.alloc (.cells #[.int .i64 kd, .int .i64 1, .int .i64 0] objT)).drew = .ok () w3 := hrun
    clear hown3 hrun
    have S0 : Hid (w1.cell? ⟨x, 0, none⟩ = some (.map (some b)) ∧ w1.cell? ⟨x, 1, none⟩ = some (.int .i64 (n1 : Int))) := ⟨t0, t1⟩
    have HX3 : Hid (w3.heap[x]? = w1.heap[x]?) := (hg.block x (by have := T1.out.lt; simp [World.drew]; omega) (fun e => HXB.out (by cases e; rfl))).trans (Below.heap_alloc w1 _ x T1.out.lt)
    have T3 : Hid (Blk w3 x tabT (tabC (some b) n1 s.fds mp)) := HX3.out.trans T1.out
    have S3 : Hid (w3.cell? ⟨x, 0, none⟩ = some (.map (some b)) ∧ w3.cell? ⟨x, 1, none⟩ = some (.int .i64 (n1 : Int))) := ⟨T3.out.cell 0, T3.out.cell 1⟩
    have S1 : Hid ((w1.alloc (.cells #[.int .i64 kd, .int .i64 1, .int .i64 0] objT)).cell? ⟨x, 0, none⟩ = some (.map (some b)) ∧ (w1.alloc (.cells #[.int .i64 kd, .int .i64 1, .int .i64 0] objT)).cell? ⟨x, 1, none⟩ = some (.int .i64 (n1 : Int))) := ⟨d0, d1⟩
    go_region_held3 (fun W => W.cell? ⟨x, 0, none⟩ = some (.map (some b)) ∧ W.cell? ⟨x, 1, none⟩ = some (.int .i64 (n1 : Int)))
      (first | exact S0.out | exact S1.out | exact S3.out)
      (first | fail)
    go_wp2_with fail
    go_ret
    rw [← HN1.out]
    exact ⟨rfl, HG.out⟩
end
end Go.Proofs.Ytmohbdbofehamaa
