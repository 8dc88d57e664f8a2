/-
  Layer 6: Parse, walked.
-/
import Derived.Test.YtmfdojmecpdikaaBParse
namespace Go.Proofs.Ytmfdojmecpdikaa
open Go Go.RowKit Go.Maps
set_option linter.unusedVariables false
set_option linter.unusedSimpArgs false
set_option maxRecDepth 100000
def sizeAt (w : World) (g : Nat) : Nat := match w.cell? ⟨g, 0, none⟩ with | some (.string x) => x.size | _ => 0
theorem sizeAt_rm {w : World} {g : Nat} {r : RS} (h : RM w g r) : sizeAt w g = r.ts.length := by
  have c := h.blk.cell 0
  unfold sizeAt
  rw [c]
  exact bstr_size _
/-- Where a round stands. -/
def Rnd (w wr : World) (s : List UInt8) (g : Nat) (v : Value) : Prop := ∃ (rk : RS) (ps : List (Ty × Value)), RM wr g rk ∧ Row6 wr w.heap.size v ps ∧ PG s rk (ps.map Prod.fst) ∧ Below w.heap.size w wr
theorem rm_below {w w' : World} {g : Nat} {r : RS} (h : RM w g r) (hb : Below w.heap.size w w') : RM w' g r := ⟨h.blk.below_ hb, h.ts, h.ns⟩
theorem rm_alloc {w : World} {g : Nat} {r : RS} (h : RM w g r) (o : Obj) : RM (w.alloc o) g r := ⟨h.blk.alloc o, h.ts, h.ns⟩
theorem below_keeps {w wr w1 : World} {g : Nat} (h : Below w.heap.size w wr) (hk : Keeps (· = g) wr w1) (hg : w.heap.size ≤ g) : Below w.heap.size w w1 :=
  ⟨hk.os.trans h.os, hk.tape.trans h.tape, hk.output.trans h.output, Nat.le_trans h.size hk.size, fun k hlt => (hk.block k (by have := h.size; omega) (by omega)).trans (h.block k hlt)⟩
theorem own_alloc6 {w : World} {base : Nat} {v : Value} {ps : List (Ty × Value)} (h : Row6 w base v ps) (o : Obj) : Row6 (w.alloc o) base v ps := h.below ((Below.refl _ w).alloc (Nat.le_refl _) o)
theorem ownsRow_base {w : World} {base base' : Nat} {e : TypeId} {s : Nat} {v : Value} {n : Nat} {xs : List Value} (h : w.ownsRow base e s v n xs) (hb : base' ≤ base) : w.ownsRow base' e s v n xs :=
  ⟨h.1, h.2.imp id fun ⟨g, cap, cur, e1, h1, h2⟩ => ⟨g, cap, cur, e1, Nat.le_trans hb h1, h2⟩⟩
theorem tyCells_one (t : Ty) (A : Option Addr) (n c : Nat) (u : Value) (h : u ∈ tyCells t (.slice A n c)) : u.oneCell' = true := by
  simp only [tyCells, List.mem_cons, List.not_mem_nil, or_false] at h
  rcases h with rfl | rfl | rfl | rfl | rfl | rfl <;> rfl
set_option maxHeartbeats 4000000 in
theorem parse_any (s : List UInt8) (hs : s.length ≤ 4611686018427387904) (w : World) :
    Calls Try.prog 9 #[.string (bstr s)] w (PostParse w s) := by
  have CO0 := open_any s hs w
  cases ho : openB s
  · have CO : Hid (Calls Try.prog 22 #[.string (bstr s)] w fun e w' => e = .returned (.tuple #[.pointer none, .bool false]) ∧ Below w.heap.size w w') := CO0.mono fun e w' h => by
      rcases h with ⟨h, _⟩ | ⟨_, h⟩
      · rw [ho] at h; cases h
      · exact h
    have hpf : parseF s = none := by unfold parseF; rw [ho]; rfl
    have HPF := Lib.hid hpf
    clear CO0 ho hpf
    go_enter Try.func9, Try.ntmps9
    go_wp2_with (go_at_call 22; refine CO.out.mono ?_; rintro e w1 ⟨rfl, hb⟩; have HB := Lib.hid hb; clear hb)
    go_ret2
    exact ⟨HB.out, .inr ⟨HPF.out, rfl⟩⟩
  · have CO : Hid (Calls Try.prog 22 #[.string (bstr s)] w fun e w' => ∃ g, e = .returned (.tuple #[.pointer (some ⟨g, 0, none⟩), .bool true]) ∧ w.heap.size ≤ g ∧ RM w' g (openV s) ∧ Below w.heap.size w w') := CO0.mono fun e w' h => by
      rcases h with ⟨_, h⟩ | ⟨h, _⟩
      · exact h
      · rw [ho] at h; cases h
    have HOB := Lib.hid ho
    clear CO0 ho
    obtain ⟨i0, hi, hz0, hz1, hz2⟩ := info_parts infoT
    have HI := Lib.hid (And.intro hi (And.intro hz0 (And.intro hz1 hz2))); clear hi hz0 hz1 hz2
    go_enter Try.func9, Try.ntmps9
    go_wp2_with (go_at_call 22; refine CO.out.mono ?_; rintro e w1 ⟨g, rfl, hg, hrm, hb⟩; have HR1 : Hid (Rnd w w1 s g (.slice none 0 0)) := ⟨openV s, [], hrm, ⟨World.ownsRow_nil _ _ _ _, (fun p hp => (by cases hp)), (fun p hp => (by cases hp))⟩, PG.start HOB.out, hb⟩; have HG := Lib.hid hg; clear hg hrm hb)
    go_loopw [6, 7] (fun v a wr => Rnd w wr s g v) (fun v a wr => sizeAt wr g)
    case atStart => exact HR1.out
    case round =>
      clear HR1
      obtain ⟨rk, ps, hrm, hrow, hpg, hb⟩ := hrel
      obtain ⟨A, c, hv, _⟩ := own_form_any hrow.own
      subst hv
      have HRM := Lib.hid hrm
      have HROW := Lib.hid hrow
      have HPG := Lib.hid hpg
      have HB := Lib.hid hb
      have c0 : wr.cell? ⟨g, 0, none⟩ = some (.string (bstr rk.ts)) := hrm.blk.cell 0
      have hps : ps.length ≤ 1024 := by have := hpg.2.1; simpa using this
      have i0' : (ps.length : Int) ≤ 1024 := by omega
      have hms := sizeAt_rm hrm
      have HMS := Lib.hid hms
      have HPS := Lib.hid hps
      clear hrm hrow hpg hb hms hps
      by_cases h0 : 0 < rk.ts.length
      · have g1 : (0 : Int) < ((bstr rk.ts).size : Int) := by rw [bstr_size]; omega
        have g2 : ((bstr rk.ts).size : Int) ≤ 4294967296 := by have := HRM.out.ts; rw [bstr_size]; omega
        have H0 := Lib.hid h0
        obtain ⟨t, ht⟩ : ∃ t, nextV rk = t := ⟨_, rfl⟩
        obtain ⟨r1, hr1⟩ : ∃ r1, nextR rk = r1 := ⟨_, rfl⟩
        have CN := next_any HRM.out
        unfold PostX tyV at CN
        have hsm := nextV_small rk
        have hstop : stopB rk ps.length = ((nextR rk).bad || !mayB (nextV rk) || decide (ps.length = 1024)) := rfl
        have hgo := fun h => HPG.out.go H0.out (by rw [List.length_map]; exact h)
        have hno := fun h => HPG.out.stop H0.out (by rw [List.length_map]; exact h)
        rw [ht, hr1] at CN hstop hgo
        rw [ht] at hsm
        have HCN := Lib.hid CN
        have HSM := Lib.hid hsm
        have HSM3 : Hid (t.mems.length ≤ 9223372036854775807) := Nat.le_trans hsm.2.2 (by decide)
        have HGO := Lib.hid hgo
        have HNO := Lib.hid hno
        have i3 : (t.mems.length : Int) ≤ 1024 := by have := hsm.2.2; omega
        obtain ⟨mb, hmb⟩ : ∃ mb, mayB t = mb := ⟨_, rfl⟩
        rw [hmb] at hstop
        have HMB := Lib.hid hmb
        have HST := Lib.hid hstop
        have HWR := Lib.hid HB.out.size
        clear CN h0 ht hr1 hsm hgo hno hmb hstop
        obtain ⟨ts1, ns1, bad1⟩ := r1
        cases bad1
        · cases mb
          · go_wp2_with (first | (go_at_call 23; refine HCN.out.mono ?_; rintro e w1 ⟨mv, rfl, hm, hk, ho⟩; have HO := Lib.hid ho; have HM := Lib.hid hm; have HROW1 := Lib.hid (HROW.out.keeps hk HRM.out.blk); have HB1 := Lib.hid (below_keeps HB.out hk HG.out); have HWW := Lib.hid hk.size; obtain ⟨A', c', hmv, _⟩ := own_form_any ho; subst hmv; have q2 : (w1.alloc (.cells #[.int .i64 t.kind, .string t.name, .int .i64 t.size, .int .i64 t.ty, .int .i64 t.count, .slice A' t.mems.length c'] 36)).cell? ⟨g, 2, none⟩ = some (.bool false) := (rm_alloc HM.out _).blk.cell 2; have hlt2 : g < w1.heap.size := HM.out.blk.lt; clear hm hk ho) | (go_at_call 11; refine (may_any A' c' t HSM3.out HSM.out.1 _ ((mems_of_own (ownsRow_base HO.out HWR.out) HSM.out.2.1).below ((Below.refl _ w1).alloc (Nat.le_refl _) _))).mono ?_; rw [HMB.out]; rintro e w2 ⟨rfl, hb2⟩; have HB2 := Lib.hid hb2; clear hb2))
            go_ret2
            refine ⟨(HB1.out.alloc HB1.out.size _).trans (HB2.out.mono (by have := HB1.out.size; simp; omega)), .inr ⟨HNO.out (by rw [HST.out]; rfl), rfl⟩⟩
          · by_cases hl : ps.length = 1024
            · have g3 : ((ps.length : Int) == 1024) = true := by simp; omega
              have HF := Lib.hid (HNO.out (by rw [HST.out, hl]; rfl))
              clear hl
              go_wp2_with (first | (go_at_call 23; refine HCN.out.mono ?_; rintro e w1 ⟨mv, rfl, hm, hk, ho⟩; have HO := Lib.hid ho; have HM := Lib.hid hm; have HROW1 := Lib.hid (HROW.out.keeps hk HRM.out.blk); have HB1 := Lib.hid (below_keeps HB.out hk HG.out); have HWW := Lib.hid hk.size; obtain ⟨A', c', hmv, _⟩ := own_form_any ho; subst hmv; have q2 : (w1.alloc (.cells #[.int .i64 t.kind, .string t.name, .int .i64 t.size, .int .i64 t.ty, .int .i64 t.count, .slice A' t.mems.length c'] 36)).cell? ⟨g, 2, none⟩ = some (.bool false) := (rm_alloc HM.out _).blk.cell 2; have hlt2 : g < w1.heap.size := HM.out.blk.lt; clear hm hk ho) | (go_at_call 11; refine (may_any A' c' t HSM3.out HSM.out.1 _ ((mems_of_own (ownsRow_base HO.out HWR.out) HSM.out.2.1).below ((Below.refl _ w1).alloc (Nat.le_refl _) _))).mono ?_; rw [HMB.out]; rintro e w2 ⟨rfl, hb2⟩; have HB2 := Lib.hid hb2; clear hb2))
              go_ret2
              refine ⟨(HB1.out.alloc HB1.out.size _).trans (HB2.out.mono (by have := HB1.out.size; simp; omega)), .inr ⟨HF.out, rfl⟩⟩
            · have g3 : ((ps.length : Int) == 1024) = false := by simp; omega
              have HF := Lib.hid (HGO.out (by rw [HST.out]; simp [hl]))
              clear hl
              go_wp2_with (first | (go_at_call 23; refine HCN.out.mono ?_; rintro e w1 ⟨mv, rfl, hm, hk, ho⟩; have HO := Lib.hid ho; have HM := Lib.hid hm; have HROW1 := Lib.hid (HROW.out.keeps hk HRM.out.blk); have HB1 := Lib.hid (below_keeps HB.out hk HG.out); have HWW := Lib.hid hk.size; obtain ⟨A', c', hmv, _⟩ := own_form_any ho; subst hmv; have q2 : (w1.alloc (.cells #[.int .i64 t.kind, .string t.name, .int .i64 t.size, .int .i64 t.ty, .int .i64 t.count, .slice A' t.mems.length c'] 36)).cell? ⟨g, 2, none⟩ = some (.bool false) := (rm_alloc HM.out _).blk.cell 2; have hlt2 : g < w1.heap.size := HM.out.blk.lt; clear hm hk ho) | (go_at_call 11; refine (may_any A' c' t HSM3.out HSM.out.1 _ ((mems_of_own (ownsRow_base HO.out HWR.out) HSM.out.2.1).below ((Below.refl _ w1).alloc (Nat.le_refl _) _))).mono ?_; rw [HMB.out]; rintro e w2 ⟨rfl, hb2⟩; have HBK := Lib.hid ((Blk.new w1 36 #[.int .i64 t.kind, .string t.name, .int .i64 t.size, .int .i64 t.ty, .int .i64 t.count, .slice A' t.mems.length c']).below_ hb2); have p0 : w2.cell? ⟨w1.heap.size, 0, none⟩ = some (.int .i64 t.kind) := HBK.out.cell 0; have p1 : w2.cell? ⟨w1.heap.size, 1, none⟩ = some (.string t.name) := HBK.out.cell 1; have p2 : w2.cell? ⟨w1.heap.size, 2, none⟩ = some (.int .i64 t.size) := HBK.out.cell 2; have p3 : w2.cell? ⟨w1.heap.size, 3, none⟩ = some (.int .i64 t.ty) := HBK.out.cell 3; have p4 : w2.cell? ⟨w1.heap.size, 4, none⟩ = some (.int .i64 t.count) := HBK.out.cell 4; have p5 : w2.cell? ⟨w1.heap.size, 5, none⟩ = some (.slice A' t.mems.length c') := HBK.out.cell 5; have ROW2 := Lib.hid ((own_alloc6 HROW1.out (.cells #[.int .i64 t.kind, .string t.name, .int .i64 t.size, .int .i64 t.ty, .int .i64 t.count, .slice A' t.mems.length c'] 36)).below hb2); have RM2 := Lib.hid (rm_below (rm_alloc HM.out (.cells #[.int .i64 t.kind, .string t.name, .int .i64 t.size, .int .i64 t.ty, .int .i64 t.count, .slice A' t.mems.length c'] 36)) hb2); have MO2 := Lib.hid (ownsRow_below (World.ownsRow.alloc (ownsRow_base HO.out HWR.out) (.cells #[.int .i64 t.kind, .string t.name, .int .i64 t.size, .int .i64 t.ty, .int .i64 t.count, .slice A' t.mems.length c'] 36)) hb2); have B2 := Lib.hid ((HB1.out.alloc HB1.out.size (.cells #[.int .i64 t.kind, .string t.name, .int .i64 t.size, .int .i64 t.ty, .int .i64 t.count, .slice A' t.mems.length c'] 36)).trans (hb2.mono (by have := HB1.out.size; simp; omega))); clear hb2) | (at_builtin; refine wpList_append_own_at _ rfl (.tmp 37) (.tmp 39) 22 rfl w.heap.size 36 i0 _ 6 72 Try.underlying22 HI.out.1 HI.out.2.1 HI.out.2.2.1 HI.out.2.2.2 rfl (by decide) (.slice A ps.length c) ps.length (tyC ps) rfl (ROW2.out.own.alloc _) ⟨w2.heap.size, 0, none⟩ 1 1 (tyCells t (.slice A' t.mems.length c')) rfl rfl (new_cells w2 #[.int .i64 t.kind, .string t.name, .int .i64 t.size, .int .i64 t.ty, .int .i64 t.count, .slice A' t.mems.length c'] 36) (tyCells_one t A' t.mems.length c') (by unfold maxLen; omega) (by omega) (by have := B2.out.size; simp; omega) ?_; intro v' w5 hown5 hgrow5 _ hat5; have HO5 := Lib.hid hown5; have HG5 := Lib.hid hgrow5; clear hown5 hgrow5 hat5))
              have HR5 : Hid (Rnd w w5 s g v') := ⟨⟨ts1, ns1, false⟩, ps ++ [(t, .slice A' t.mems.length c')], ⟨blk_grown (RM2.out.blk.alloc _) HG5.out (fun b hb => (row_tag (ROW2.out.own.alloc _) b hb).2) (by decide), RM2.out.ts, RM2.out.ns⟩, (own_alloc6 ROW2.out _).snoc (World.ownsRow.alloc MO2.out _) HSM.out HO5.out HG5.out, by rw [List.map_append]; exact HF.out.1, (B2.out.alloc B2.out.size _).grown HG5.out (by have := B2.out.size; simp; omega) (fun b hb => (row_tag ROW2.out.own b hb).1)⟩
              have HS5 : Hid (sizeAt w5 g < sizeAt wr g) := by
                rw [HMS.out, sizeAt_rm (r := ⟨ts1, ns1, false⟩) ⟨blk_grown (RM2.out.blk.alloc _) HG5.out (fun b hb => (row_tag (ROW2.out.own.alloc _) b hb).2) (by decide), RM2.out.ts, RM2.out.ns⟩]
                exact HF.out.2
              go_roundw
              case rel => exact HR5.out
              case measure => exact HS5.out
        · go_wp2_with (first | (go_at_call 23; refine HCN.out.mono ?_; rintro e w1 ⟨mv, rfl, hm, hk, ho⟩; have HO := Lib.hid ho; have HM := Lib.hid hm; have HROW1 := Lib.hid (HROW.out.keeps hk HRM.out.blk); have HB1 := Lib.hid (below_keeps HB.out hk HG.out); have HWW := Lib.hid hk.size; obtain ⟨A', c', hmv, _⟩ := own_form_any ho; subst hmv; have q2 : (w1.alloc (.cells #[.int .i64 t.kind, .string t.name, .int .i64 t.size, .int .i64 t.ty, .int .i64 t.count, .slice A' t.mems.length c'] 36)).cell? ⟨g, 2, none⟩ = some (.bool true) := (rm_alloc HM.out _).blk.cell 2; have hlt2 : g < w1.heap.size := HM.out.blk.lt; clear hm hk ho) | (go_at_call 11; refine (may_any A' c' t HSM3.out HSM.out.1 _ ((mems_of_own (ownsRow_base HO.out HWR.out) HSM.out.2.1).below ((Below.refl _ w1).alloc (Nat.le_refl _) _))).mono ?_; rw [HMB.out]; rintro e w2 ⟨rfl, hb2⟩; have HB2 := Lib.hid hb2; clear hb2))
          go_ret2
          exact ⟨HB1.out.alloc HB1.out.size _, .inr ⟨HNO.out (by rw [HST.out]; rfl), rfl⟩⟩
      · have g1 : decide (0 < (bstr rk.ts).size) = false := by rw [bstr_size]; simpa using h0
        have hpf := HPG.out.done (by omega)
        have HPF := Lib.hid hpf
        clear hpf h0
        go_wp2_with fail
        go_ret2
        obtain ⟨A2, c2, e, ht⟩ := HROW.out.tys
        refine ⟨HB.out, .inl ⟨_, A2, c2, HPF.out, ?_, ht⟩⟩
        rw [← e]
        rfl
end Go.Proofs.Ytmfdojmecpdikaa
