/-
  Package asm, writing: the line of an ALU. Numbers from 0 on as texts: strconv.FormatUint at base 10.
-/
import Derived.Test.YtemiklbkfogjeaaGreatDoorQ06
import Derived.Test.YtemiklbkfogjeaaGreatDoorQ03
import Derived.Lib.Walk
import Derived.Lib.ItoaMem
import Derived.WalkKit
import Derived.BigCall
import Derived.BigGuard
namespace Go.Proofs.YtemiklbkfogjeaaGreatDoor
open Go Go.RowKit Go.Maps
set_option linter.unusedVariables false
set_option linter.unusedSimpArgs false
set_option maxRecDepth 100000
abbrev minusW : ByteArray := ⟨#[45]⟩
def operG (z f : Int) (g : ByteArray → ByteArray) (e : ByteArray) : List (ByteArray × Int × Int) → ByteArray
 | [] => e
 | (nm, k, x) :: l => if k = z ∧ x = f then g nm else operG z f g e l
def operLine (o d s m : Int) (nm : ByteArray) : ByteArray := saidT [regT (letterS (o % 8)) d, nm, secT s m (bits .and .i64 o 8 != 0) (letterS (o % 8))]
def aluT (o d s f m : Int) : ByteArray :=
 if same5 o d s f m (bits .or .i64 128 (o % 8)) d 0 0 0 = true then saidT [regT (letterS (o % 8)) d, eqT, minusW ++ regT (letterS (o % 8)) d]
 else if o = bits .or .i64 184 (o % 8) ∧ m = 0 ∧ extendsS (o % 8) f = true then saidT [regT (letterS (o % 8)) d, eqT, signT f ++ regT (letterS (o % 8)) s]
 else operG (bits .and .i64 o 240) f (operLine o d s m) (turnT o d s f m) operL
set_option maxHeartbeats 12000000 in
theorem aluW_any (o d s f m : Int) (h : Fits o d s f m) (w : World) (hT : Tabs w) :
  Calls Tryz.prog 71 #[insV o d s f m] w (SaysT w (aluT o d s f m)) := by
 have hI := In.start hT o d s f m
 have HI := Lib.hid hI
 have CS := Lib.hid (fun w (hT : Tabs w) => secW_any o d s f m (bits .and .i64 o 8 != 0) (letterS (o % 8)) (Nat.le_trans (letterS_size _) (by decide)) h w hT)
 have CC := Lib.hid (fun w => class_any o d s f m w)
 have CL := Lib.hid (fun w => letterOf_any (o % 8) w)
 have CX := Lib.hid (fun w => extends_any (o % 8) f w)
 have CT := Lib.hid (fun w (hT : Tabs w) => turnW_any o d s f m h w hT)
 have CR := Lib.hid (fun w (hT : Tabs w) => regW_any (letterS (o % 8)) (Nat.le_trans (letterS_size _) (by decide)) d (by have := h.2.1; omega) (by have := h.2.1; omega) w hT.pow)
 have CR2 := Lib.hid (fun w (hT : Tabs w) => regW_any (letterS (o % 8)) (Nat.le_trans (letterS_size _) (by decide)) s (by have := h.2.2.1; omega) (by have := h.2.2.1; omega) w hT.pow)
 have CG := Lib.hid (fun w (hT : Tabs w) => signOf_any f (by have := h.2.2.2.1; omega) (by have := h.2.2.2.1; omega) w hT.pow)
 have hfs := signT_size f (by have := h.2.2.2.1; omega) (by have := h.2.2.2.1; omega)
 have hrs := regT_size (letterS (o % 8)) d (by have := h.2.1; omega) (by have := h.2.1; omega)
 have hrs2 := regT_size (letterS (o % 8)) s (by have := h.2.2.1; omega) (by have := h.2.2.1; omega)
 have hss := secT_size s m (bits .and .i64 o 8 != 0) (letterS (o % 8)) h.2.2.1 h.2.2.2.2
 have hls := letterS_size (o % 8)
 have hg4 : eqT.size = 1 := rfl
 have hc4 : minusW.size = 1 := rfl
 have a1 : (minusW ++ regT (letterS (o % 8)) d).size = minusW.size + (regT (letterS (o % 8)) d).size := size_app _ _
 have a2 : (signT f ++ regT (letterS (o % 8)) s).size = (signT f).size + (regT (letterS (o % 8)) s).size := size_app _ _
 have n1 : ¬ 9223372036854775807 < 1 + (regT (letterS (o % 8)) d).size := by omega
 have n2 : ¬ 9223372036854775807 < (signT f).size + (regT (letterS (o % 8)) s).size := by omega
 have Z1 : Hid (∀ x ∈ ([regT (letterS (o % 8)) d, eqT, minusW ++ regT (letterS (o % 8)) d] : List ByteArray), x.size ≤ 100) := by
  intro x hx
  simp only [List.mem_cons, List.not_mem_nil, or_false] at hx
  rcases hx with rfl | rfl | rfl <;> omega
 have Z2 : Hid (∀ x ∈ ([regT (letterS (o % 8)) d, eqT, signT f ++ regT (letterS (o % 8)) s] : List ByteArray), x.size ≤ 100) := by
  intro x hx
  simp only [List.mem_cons, List.not_mem_nil, or_false] at hx
  rcases hx with rfl | rfl | rfl <;> omega
 have Z3 : Hid (∀ nm : ByteArray, nm.size ≤ 4 → ∀ x ∈ ([regT (letterS (o % 8)) d, nm, secT s m (bits .and .i64 o 8 != 0) (letterS (o % 8))] : List ByteArray), x.size ≤ 100) := by
  intro nm hn x hx
  simp only [List.mem_cons, List.not_mem_nil, or_false] at hx
  rcases hx with rfl | rfl | rfl <;> omega
 unfold aluT
 have HU : Hid (∀ nm, operLine o d s m nm = saidT [regT (letterS (o % 8)) d, nm, secT s m (bits .and .i64 o 8 != 0) (letterS (o % 8))]) := fun nm => rfl
 unfold insV at *
 clear h hT hfs hrs hrs2 hss hls hg4 hc4 a1 a2
 obtain ⟨k0, k1, k2, k3, k4⟩ := hI.five
 clear hI
 obtain ⟨x8, e8⟩ : ∃ x, bits .and .i64 o 8 = x := ⟨_, rfl⟩
 rw [e8] at CS Z3 HU
 obtain ⟨b8, eb⟩ : ∃ b, (x8 != 0) = b := ⟨_, rfl⟩
 rw [eb] at CS Z3 HU
 obtain ⟨q, eq⟩ : ∃ q, o % 8 = q := ⟨_, rfl⟩
 rw [eq] at CS Z1 Z2 Z3 HU CC CL CR CR2 CX n1 n2
 simp only [eq]
 clear eq
 generalize letterS q = lt at *
 generalize secT s m b8 lt = sc at *
 generalize regT lt d = rd at *
 generalize regT lt s = rs at *
 generalize signT f = sg at *
 generalize turnT o d s f m = tt at *
 have j1 : ∀ w, (binOp .eql inT (.agg (inC o d s f m)) (.agg (inC (bits .or .i64 128 q) d 0 0 0))).run Tryz.prog w = .ok (.bool (same5 o d s f m (bits .or .i64 128 q) d 0 0 0)) w := fun w => eq5 ..
 obtain ⟨p1, ep⟩ : ∃ x, bits .or .i64 128 q = x := ⟨_, rfl⟩
 rw [ep] at j1 ⊢
 obtain ⟨p2, ep2⟩ : ∃ x, bits .or .i64 184 q = x := ⟨_, rfl⟩
 rw [ep2]
 generalize same5 o d s f m p1 d 0 0 0 = c1 at *
 generalize extendsS q f = c2 at *
 cases c1
 case true =>
  rw [if_pos rfl]
  clear HU Z3 Z2 CS CX CT CR2 CG e8 eb ep2 n2
  go_enter Tryz.func71, Tryz.ntmps71
  go_upto_region 2 with (go_at_call 67; refine (CC.out _).mono ?_; rintro e w1 ⟨rfl, hb⟩; have H1 := Lib.hid (HI.out.on hb); clear hb)
  have G0 := Lib.hid (H1.out.on (below_drew _))
  go_region_held3 (fun W => W.cell? ⟨w.heap.size, 0, none⟩ = some (.int .i64 o) ∧ W.cell? ⟨w.heap.size, 1, none⟩ = some (.int .i64 d) ∧ W.cell? ⟨w.heap.size, 2, none⟩ = some (.int .i64 s) ∧ W.cell? ⟨w.heap.size, 3, none⟩ = some (.int .i64 f) ∧ W.cell? ⟨w.heap.size, 4, none⟩ = some (.int .i64 m))
   (first | exact G0.out.five | exact G1.out.five)
   (first
    | (go_at_call 81; refine (CL.out _).mono ?_; rintro e w2 ⟨rfl, rfl⟩)
    | (go_at_call 96; refine (CR.out _ G0.out.tabs).mono ?_; rintro e w2 ⟨rfl, hb⟩; have G1 := Lib.hid (G0.out.on hb); clear hb))
  clear H1 G0 k0 k1 k2 k3 k4
  obtain ⟨k0, k1, k2, k3, k4⟩ := G1.out.five
  go_wp2_with (first
   | (go_at_call 97; refine (said_any _ _ _ [rd, eqT, minusW ++ rd] (Blk.new _ _ _) (Nat.le_of_ble_eq_true rfl) 100 (by decide) Z1.out).mono ?_; rintro e w5 ⟨rfl, hb⟩; have J3 := Lib.hid ((G1.out.on (below_alloc _ _)).on hb); clear hb))
  go_ret
  exact ⟨rfl, J3.out.below⟩
 rw [if_neg (by decide)]
 by_cases hx : o = p2 ∧ m = 0 ∧ c2 = true
 ·rw [if_pos hx]
  obtain ⟨hx1, rfl, rfl⟩ := hx
  have b1 : (o == p2) = true := by simpa using hx1
  clear HU Z1 Z3 CS CT e8 eb hx1
  go_enter Tryz.func71, Tryz.ntmps71
  go_upto_region 2 with (go_at_call 67; refine (CC.out _).mono ?_; rintro e w1 ⟨rfl, hb⟩; have H1 := Lib.hid (HI.out.on hb); clear hb)
  have G0 := Lib.hid (H1.out.on (below_drew _))
  go_region_held3 (fun W => W.cell? ⟨w.heap.size, 0, none⟩ = some (.int .i64 o) ∧ W.cell? ⟨w.heap.size, 1, none⟩ = some (.int .i64 d) ∧ W.cell? ⟨w.heap.size, 2, none⟩ = some (.int .i64 s) ∧ W.cell? ⟨w.heap.size, 3, none⟩ = some (.int .i64 f) ∧ W.cell? ⟨w.heap.size, 4, none⟩ = some (.int .i64 0))
   (first | exact G0.out.five | exact G1.out.five)
   (first
    | (go_at_call 81; refine (CL.out _).mono ?_; rintro e w2 ⟨rfl, rfl⟩)
    | (go_at_call 96; refine (CR.out _ G0.out.tabs).mono ?_; rintro e w2 ⟨rfl, hb⟩; have G1 := Lib.hid (G0.out.on hb); clear hb))
  clear H1 G0 k0 k1 k2 k3 k4
  obtain ⟨k0, k1, k2, k3, k4⟩ := G1.out.five
  go_upto_region 6 with (first
   | (go_at_call 103; refine (CX.out _).mono ?_; rintro e w2 ⟨rfl, rfl⟩))
  have D0 := Lib.hid (G1.out.on (below_drew _))
  go_region_held3 (fun W => W.cell? ⟨w.heap.size, 0, none⟩ = some (.int .i64 o) ∧ W.cell? ⟨w.heap.size, 1, none⟩ = some (.int .i64 d) ∧ W.cell? ⟨w.heap.size, 2, none⟩ = some (.int .i64 s) ∧ W.cell? ⟨w.heap.size, 3, none⟩ = some (.int .i64 f) ∧ W.cell? ⟨w.heap.size, 4, none⟩ = some (.int .i64 0))
   (first | exact D0.out.five | exact D1.out.five | exact D2.out.five | exact (D2.out.on (below_alloc _ _)).five | exact D3.out.five)
   (first
    | (go_at_call 104; refine (CG.out _ D0.out.tabs).mono ?_; rintro e w2 ⟨rfl, hb⟩; have D1 := Lib.hid (D0.out.on hb); clear hb)
    | (go_at_call 81; refine (CL.out _).mono ?_; rintro e w2 ⟨rfl, rfl⟩)
    | (go_at_call 96; refine (CR2.out _ D1.out.tabs).mono ?_; rintro e w2 ⟨rfl, hb⟩; have D2 := Lib.hid (D1.out.on hb); clear hb)
    | (go_at_call 97; refine (said_any _ _ _ [rd, eqT, sg ++ rs] (Blk.new _ _ _) (Nat.le_of_ble_eq_true rfl) 100 (by decide) Z2.out).mono ?_; rintro e w5 ⟨rfl, hb⟩; have D3 := Lib.hid ((D2.out.on (below_alloc _ _)).on hb); clear hb))
  go_wp2_with fail
  go_ret
  exact ⟨rfl, D3.out.below⟩
 rw [if_neg hx]
 clear Z1 Z2 CR2 CG n2
 have next : ∀ (G : Prop), ((o == p2) = false → G) → ((o == p2) = true → (m == 0) = false → G) → ((o == p2) = true → m = 0 → c2 = false → G) → G := by
  intro G g1 g2 g3
  by_cases h1 : o = p2
  ·by_cases h2 : m = 0
   ·refine g3 (by simpa using h1) h2 ?_
    cases c2
    ·rfl
    ·exact absurd ⟨h1, h2, rfl⟩ hx
   ·exact g2 (by simpa using h1) (by simpa using h2)
  ·exact g1 (by simpa using h1)
 clear hx
 refine next _ (fun t1 => ?_) (fun t1 t2 => ?_) (fun t1 t2 t3 => ?_)
 rotate_left 2
 ·subst t2 t3
  clear next
  go_enter Tryz.func71, Tryz.ntmps71
  go_upto_region 2 with (go_at_call 67; refine (CC.out _).mono ?_; rintro e w1 ⟨rfl, hb⟩; have H1 := Lib.hid (HI.out.on hb); clear hb)
  have G0 := Lib.hid (H1.out.on (below_drew _))
  go_region_held3 (fun W => W.cell? ⟨w.heap.size, 0, none⟩ = some (.int .i64 o) ∧ W.cell? ⟨w.heap.size, 1, none⟩ = some (.int .i64 d) ∧ W.cell? ⟨w.heap.size, 2, none⟩ = some (.int .i64 s) ∧ W.cell? ⟨w.heap.size, 3, none⟩ = some (.int .i64 f) ∧ W.cell? ⟨w.heap.size, 4, none⟩ = some (.int .i64 0))
   (first | exact G0.out.five | exact G1.out.five)
   (first
    | (go_at_call 81; refine (CL.out _).mono ?_; rintro e w2 ⟨rfl, rfl⟩)
    | (go_at_call 96; refine (CR.out _ G0.out.tabs).mono ?_; rintro e w2 ⟨rfl, hb⟩; have G1 := Lib.hid (G0.out.on hb); clear hb))
  clear H1 G0 k0 k1 k2 k3 k4
  obtain ⟨k0, k1, k2, k3, k4⟩ := G1.out.five
  go_upto_region 7 with (first
   | (go_at_call 103; refine (CX.out _).mono ?_; rintro e w2 ⟨rfl, rfl⟩))
  obtain ⟨tyq, cs, hB, hi, hat⟩ := G1.out.tabs.operators_any
  have HB := Lib.hid hB
  have HX := Lib.hid hi
  have HA := Lib.hid hat
  clear hB hi hat HI k0 k1 k2 k3 k4 j1
  go_wp2_with (refine wpList_load_row rfl operatorsT _ rfl 5 rfl tyq cs (0, 0) _ HB.out Tryz.underlying124 rfl HX.out ?_)
  clear HB HX
  go_loopw [57] (fun i wr => ∃ k : Nat, i = .int .i64 (k : Int) ∧ k ≤ 14 ∧ In w wr w.heap.size o d s f 0 ∧ operG (bits .and .i64 o 240) f (operLine o d s 0) tt (operL.drop k) = operG (bits .and .i64 o 240) f (operLine o d s 0) tt operL) (fun i _ => 14 - (Lib.intOf i).toNat)
  case atStart => exact ⟨0, rfl, by decide, G1.out, rfl⟩
  case round =>
   obtain ⟨k, rfl, hk, hR, hD⟩ := hrel
   have HR := Lib.hid hR
   have HD := Lib.hid hD
   have HK := Lib.hid hk
   clear hR hD hk G1
   by_cases h7 : k < 14
   ·obtain ⟨nm, md, sz, e1, e2, e3⟩ := HA.out k h7
    have HS := Lib.hid e2
    have i1 : (k : Int) < 14 := by omega
    have HW := Lib.hid h7
    have HD2 : Hid (operG (bits .and .i64 o 240) f (operLine o d s 0) tt ((nm, md, sz) :: operL.drop (k + 1)) = operG (bits .and .i64 o 240) f (operLine o d s 0) tt operL) := by
     have := HD.out
     rwa [drop_at e1] at this
    have HN : Hid (∀ o', In w (wr.alloc o') w.heap.size o d s f 0) := fun o' => HR.out.on (below_alloc _ _)
    have HC : Hid (∀ cs, Blk (wr.alloc (.cells cs 123)) wr.heap.size 123 cs) := fun cs => Blk.new _ _ _
    have c0 : ∀ o', (wr.alloc o').cell? ⟨w.heap.size, 0, none⟩ = some (.int .i64 o) := fun o' => (HN.out o').slot.cell 0
    have c3 : ∀ o', (wr.alloc o').cell? ⟨w.heap.size, 3, none⟩ = some (.int .i64 f) := fun o' => (HN.out o').slot.cell 3
    clear h7 e1 e2 HD
    obtain ⟨z, ez⟩ : ∃ z, bits .and .i64 o 240 = z := ⟨_, rfl⟩
    have HZ := Lib.hid ez
    by_cases hq : md = z ∧ sz = f
    ·have HP : Hid (operG (bits .and .i64 o 240) f (operLine o d s 0) tt operL = saidT [rd, nm, sc]) := by
      rw [← HD2.out, operG, if_pos ⟨hq.1.trans HZ.out.symm, hq.2⟩, HU.out nm]
      exact rfl
     have HSZ := Lib.hid (Z3.out nm HS.out)
     obtain ⟨rfl, hs⟩ := hq
     have hs' := hs.symm
     subst hs'
     clear HD2 HU Z3
     go_upto_region 11 with fail
     have D0 := Lib.hid ((HN.out (.cells #[.string nm, .int .i64 md, .int .i64 f] 123)).on (below_drew _))
     have T0 := Lib.hid (blk_on (HC.out #[.string nm, .int .i64 md, .int .i64 f]) (below_drew _))
     go_region_held3 (fun W => W.cell? ⟨wr.heap.size, 0, none⟩ = some (.string nm) ∧ W.cell? ⟨w.heap.size, 0, none⟩ = some (.int .i64 o) ∧ W.cell? ⟨w.heap.size, 1, none⟩ = some (.int .i64 d) ∧ W.cell? ⟨w.heap.size, 2, none⟩ = some (.int .i64 s) ∧ W.cell? ⟨w.heap.size, 3, none⟩ = some (.int .i64 f) ∧ W.cell? ⟨w.heap.size, 4, none⟩ = some (.int .i64 0))
      (first | exact ⟨T0.out.cell 0, D0.out.five⟩ | exact ⟨T1.out.cell 0, D1.out.five⟩ | exact ⟨(blk_on T1.out (below_alloc _ _)).cell 0, (D1.out.on (below_alloc _ _)).five⟩ | exact ⟨T2.out.cell 0, D2.out.five⟩)
      (first
       | (go_at_call 81; refine (CL.out _).mono ?_; rintro e w2 ⟨rfl, rfl⟩)
       | (go_at_call 102; refine (CS.out _ D0.out.tabs).mono ?_; rintro e w2 ⟨rfl, hb⟩; have D1 := Lib.hid (D0.out.on hb); have T1 := Lib.hid (blk_on T0.out hb); clear hb)
       | (go_at_call 97; refine (said_any _ _ _ [rd, nm, sc] (Blk.new _ _ _) (Nat.le_of_ble_eq_true rfl) 100 (by decide) HSZ.out).mono ?_; rintro e w5 ⟨rfl, hb⟩; have D2 := Lib.hid ((D1.out.on (below_alloc _ _)).on hb); have T2 := Lib.hid (blk_on (blk_on T1.out (below_alloc _ _)) hb); clear hb))
     go_wp2_with fail
     go_ret
     exact ⟨by rw [HP.out]; rfl, D2.out.below⟩
    ·have HD3 : Hid (operG (bits .and .i64 o 240) f (operLine o d s 0) tt (operL.drop (k + 1)) = operG (bits .and .i64 o 240) f (operLine o d s 0) tt operL) := by
      rw [← HD2.out, operG, if_neg (fun h => hq ⟨h.1.trans HZ.out, h.2⟩)]
      exact rfl
     clear HD2
     rcases (by omega : md ≠ z ∨ (md = z ∧ sz ≠ f)) with h | ⟨rfl, h⟩
     ·have b0 : (md == z) = false := by simpa using h
      clear h hq
      go_wp2_with fail
      go_roundw
      case rel => exact ⟨k + 1, rfl, HW.out, HN.out _, HD3.out⟩
      case measure =>
       have := HW.out
       simp only [Lib.intOf]
       omega
     ·have b0 : (sz == f) = false := by simpa using h
      clear h hq
      go_wp2_with fail
      go_roundw
      case rel => exact ⟨k + 1, rfl, HW.out, HN.out _, HD3.out⟩
      case measure =>
       have := HW.out
       simp only [Lib.intOf]
       omega
   ·have hk7 : k = 14 := by have := HK.out; omega
    subst hk7
    have HF : Hid (operG (bits .and .i64 o 240) f (operLine o d s 0) tt operL = tt) := by
     rw [← HD.out]
     exact rfl
    obtain ⟨k0, k1, k2, k3, k4⟩ := HR.out.five
    clear h7 HD HK
    go_wp2_with (go_at_call 105; refine (CT.out _ HR.out.tabs).mono ?_; rintro e w2 ⟨rfl, hb⟩; have D1 := Lib.hid (HR.out.on hb); clear hb)
    go_ret
    exact ⟨by rw [HF.out]; rfl, D1.out.below⟩
 all_goals
  clear next
  go_enter Tryz.func71, Tryz.ntmps71
  go_upto_region 2 with (go_at_call 67; refine (CC.out _).mono ?_; rintro e w1 ⟨rfl, hb⟩; have H1 := Lib.hid (HI.out.on hb); clear hb)
  have G0 := Lib.hid (H1.out.on (below_drew _))
  go_region_held3 (fun W => W.cell? ⟨w.heap.size, 0, none⟩ = some (.int .i64 o) ∧ W.cell? ⟨w.heap.size, 1, none⟩ = some (.int .i64 d) ∧ W.cell? ⟨w.heap.size, 2, none⟩ = some (.int .i64 s) ∧ W.cell? ⟨w.heap.size, 3, none⟩ = some (.int .i64 f) ∧ W.cell? ⟨w.heap.size, 4, none⟩ = some (.int .i64 m))
   (first | exact G0.out.five | exact G1.out.five)
   (first
    | (go_at_call 81; refine (CL.out _).mono ?_; rintro e w2 ⟨rfl, rfl⟩)
    | (go_at_call 96; refine (CR.out _ G0.out.tabs).mono ?_; rintro e w2 ⟨rfl, hb⟩; have G1 := Lib.hid (G0.out.on hb); clear hb))
  clear H1 G0 k0 k1 k2 k3 k4
  obtain ⟨k0, k1, k2, k3, k4⟩ := G1.out.five
  go_upto_region 7 with (first
   | (go_at_call 103; refine (CX.out _).mono ?_; rintro e w2 ⟨rfl, rfl⟩))
  obtain ⟨tyq, cs, hB, hi, hat⟩ := G1.out.tabs.operators_any
  have HB := Lib.hid hB
  have HX := Lib.hid hi
  have HA := Lib.hid hat
  clear hB hi hat HI k0 k1 k2 k3 k4 j1
  go_wp2_with (refine wpList_load_row rfl operatorsT _ rfl 5 rfl tyq cs (0, 0) _ HB.out Tryz.underlying124 rfl HX.out ?_)
  clear HB HX
  go_loopw [57] (fun i wr => ∃ k : Nat, i = .int .i64 (k : Int) ∧ k ≤ 14 ∧ In w wr w.heap.size o d s f m ∧ operG (bits .and .i64 o 240) f (operLine o d s m) tt (operL.drop k) = operG (bits .and .i64 o 240) f (operLine o d s m) tt operL) (fun i _ => 14 - (Lib.intOf i).toNat)
  case atStart => exact ⟨0, rfl, by decide, G1.out, rfl⟩
  case round =>
   obtain ⟨k, rfl, hk, hR, hD⟩ := hrel
   have HR := Lib.hid hR
   have HD := Lib.hid hD
   have HK := Lib.hid hk
   clear hR hD hk G1
   by_cases h7 : k < 14
   ·obtain ⟨nm, md, sz, e1, e2, e3⟩ := HA.out k h7
    have HS := Lib.hid e2
    have i1 : (k : Int) < 14 := by omega
    have HW := Lib.hid h7
    have HD2 : Hid (operG (bits .and .i64 o 240) f (operLine o d s m) tt ((nm, md, sz) :: operL.drop (k + 1)) = operG (bits .and .i64 o 240) f (operLine o d s m) tt operL) := by
     have := HD.out
     rwa [drop_at e1] at this
    have HN : Hid (∀ o', In w (wr.alloc o') w.heap.size o d s f m) := fun o' => HR.out.on (below_alloc _ _)
    have HC : Hid (∀ cs, Blk (wr.alloc (.cells cs 123)) wr.heap.size 123 cs) := fun cs => Blk.new _ _ _
    have c0 : ∀ o', (wr.alloc o').cell? ⟨w.heap.size, 0, none⟩ = some (.int .i64 o) := fun o' => (HN.out o').slot.cell 0
    have c3 : ∀ o', (wr.alloc o').cell? ⟨w.heap.size, 3, none⟩ = some (.int .i64 f) := fun o' => (HN.out o').slot.cell 3
    clear h7 e1 e2 HD
    obtain ⟨z, ez⟩ : ∃ z, bits .and .i64 o 240 = z := ⟨_, rfl⟩
    have HZ := Lib.hid ez
    by_cases hq : md = z ∧ sz = f
    ·have HP : Hid (operG (bits .and .i64 o 240) f (operLine o d s m) tt operL = saidT [rd, nm, sc]) := by
      rw [← HD2.out, operG, if_pos ⟨hq.1.trans HZ.out.symm, hq.2⟩, HU.out nm]
      exact rfl
     have HSZ := Lib.hid (Z3.out nm HS.out)
     obtain ⟨rfl, hs⟩ := hq
     have hs' := hs.symm
     subst hs'
     clear HD2 HU Z3
     go_upto_region 11 with fail
     have D0 := Lib.hid ((HN.out (.cells #[.string nm, .int .i64 md, .int .i64 f] 123)).on (below_drew _))
     have T0 := Lib.hid (blk_on (HC.out #[.string nm, .int .i64 md, .int .i64 f]) (below_drew _))
     go_region_held3 (fun W => W.cell? ⟨wr.heap.size, 0, none⟩ = some (.string nm) ∧ W.cell? ⟨w.heap.size, 0, none⟩ = some (.int .i64 o) ∧ W.cell? ⟨w.heap.size, 1, none⟩ = some (.int .i64 d) ∧ W.cell? ⟨w.heap.size, 2, none⟩ = some (.int .i64 s) ∧ W.cell? ⟨w.heap.size, 3, none⟩ = some (.int .i64 f) ∧ W.cell? ⟨w.heap.size, 4, none⟩ = some (.int .i64 m))
      (first | exact ⟨T0.out.cell 0, D0.out.five⟩ | exact ⟨T1.out.cell 0, D1.out.five⟩ | exact ⟨(blk_on T1.out (below_alloc _ _)).cell 0, (D1.out.on (below_alloc _ _)).five⟩ | exact ⟨T2.out.cell 0, D2.out.five⟩)
      (first
       | (go_at_call 81; refine (CL.out _).mono ?_; rintro e w2 ⟨rfl, rfl⟩)
       | (go_at_call 102; refine (CS.out _ D0.out.tabs).mono ?_; rintro e w2 ⟨rfl, hb⟩; have D1 := Lib.hid (D0.out.on hb); have T1 := Lib.hid (blk_on T0.out hb); clear hb)
       | (go_at_call 97; refine (said_any _ _ _ [rd, nm, sc] (Blk.new _ _ _) (Nat.le_of_ble_eq_true rfl) 100 (by decide) HSZ.out).mono ?_; rintro e w5 ⟨rfl, hb⟩; have D2 := Lib.hid ((D1.out.on (below_alloc _ _)).on hb); have T2 := Lib.hid (blk_on (blk_on T1.out (below_alloc _ _)) hb); clear hb))
     go_wp2_with fail
     go_ret
     exact ⟨by rw [HP.out]; rfl, D2.out.below⟩
    ·have HD3 : Hid (operG (bits .and .i64 o 240) f (operLine o d s m) tt (operL.drop (k + 1)) = operG (bits .and .i64 o 240) f (operLine o d s m) tt operL) := by
      rw [← HD2.out, operG, if_neg (fun h => hq ⟨h.1.trans HZ.out, h.2⟩)]
      exact rfl
     clear HD2
     rcases (by omega : md ≠ z ∨ (md = z ∧ sz ≠ f)) with h | ⟨rfl, h⟩
     ·have b0 : (md == z) = false := by simpa using h
      clear h hq
      go_wp2_with fail
      go_roundw
      case rel => exact ⟨k + 1, rfl, HW.out, HN.out _, HD3.out⟩
      case measure =>
       have := HW.out
       simp only [Lib.intOf]
       omega
     ·have b0 : (sz == f) = false := by simpa using h
      clear h hq
      go_wp2_with fail
      go_roundw
      case rel => exact ⟨k + 1, rfl, HW.out, HN.out _, HD3.out⟩
      case measure =>
       have := HW.out
       simp only [Lib.intOf]
       omega
   ·have hk7 : k = 14 := by have := HK.out; omega
    subst hk7
    have HF : Hid (operG (bits .and .i64 o 240) f (operLine o d s m) tt operL = tt) := by
     rw [← HD.out]
     exact rfl
    obtain ⟨k0, k1, k2, k3, k4⟩ := HR.out.five
    clear h7 HD HK
    go_wp2_with (go_at_call 105; refine (CT.out _ HR.out.tabs).mono ?_; rintro e w2 ⟨rfl, hb⟩; have D1 := Lib.hid (HR.out.on hb); clear hb)
    go_ret
    exact ⟨by rw [HF.out]; rfl, D1.out.below⟩
end Go.Proofs.YtemiklbkfogjeaaGreatDoor
namespace Go.Proofs.YtemiklbkfogjeaaGreatDoor
open Go Go.RowKit Go.Maps Go.Sort Go.Lib
set_option linter.unusedVariables false
set_option linter.unusedSimpArgs false
set_option maxRecDepth 100000
abbrev bufT : TypeId := 149
theorem holds_zero0 (w : World) (T : TypeId) (nd : Nat) (hs : nd ≤ 24) : Holds (fun (b : UInt8) => Value.int .u8 (b.toNat : Int)) (w.alloc (.cells zeros24 T)) w.heap.size 0 (Array.replicate nd (0 : UInt8)) := fun j hj => by
 have hj' : j < nd := by simpa using hj
 refine ⟨?_, World.frozen?_alloc_new _ _ _ _⟩
 rw [World.cell?_alloc_new, zeros24_at _ (by omega), getElem!_pos _ j hj]
 simp
theorem fin_row (w : World) (o : Obj) (dk : Array UInt8) (k : Nat) : ∃ os, (putRow (fun (b : UInt8) => Value.int .u8 (b.toNat : Int)) (w.alloc o) w.heap.size 0 dk).drewN k = Sort.grow (w.drewN k) os := by
 rw [alloc_eq_grow]
 obtain ⟨os', _, e⟩ := putRow_grow_new (fun (b : UInt8) => Value.int .u8 (b.toNat : Int)) w #[o] w.heap.size 0 dk (Nat.le_refl _)
 exact ⟨os', by rw [e]; rfl⟩
set_option maxHeartbeats 6400000 in
theorem uintL_any (u : Nat) (hu64 : u < 18446744073709551616) (w : World) (htab : Pow w) :
  Calls Tryz.prog 118 #[.int .u64 u, .int .i64 10] w (SaysT w (bstr (Lib.decDigits u))) := by
 by_cases hs : u < 100
 ·have C := Lib.hid (Tryz.internal_strconv_small u hs)
  have e1 : IntKind.i64.wrap (u : Int) = (u : Int) := IntWalk.i64_in _ (by omega)
  have i1 : (u : Int) < 100 := by omega
  have b1 : decide ((u : Int) < 100) = true := decide_eq_true i1
  clear htab
  go_enter Tryz.func118, Tryz.ntmps118
  go_wp2_with (go_at_call 125; refine (C.out _).mono ?_; rintro e w' ⟨rfl, rfl⟩)
  go_ret
  exact ⟨rfl, Below.refl _ _⟩
 ·have hu1 : 1 ≤ u := by omega
  have i1 : ¬ (u : Int) < 100 := by omega
  have b1 : decide ((u : Int) < 100) = false := decide_eq_false i1
  have hnd20 : Lib.nDigits u ≤ 20 := by have := Lib.numDigits_eq u hu1 hu64; split at this <;> omega
  have hal : Tryz.prog.arrayLen bufT = 24 := by simp [Program.arrayLen, Tryz.underlying149]
  have hsl1 : ∀ W, (Instr.sliceAt bufT (.pointer (some ⟨w.heap.size, 0, none⟩)) none (some (.int .i64 (Lib.nDigits u : Int))) none).run Tryz.prog W = .ok (.slice (some ⟨w.heap.size, 0, none⟩) (Lib.nDigits u) 24) W := fun W => by
   rw [run_sliceAt_array_h W bufT ⟨w.heap.size, 0, none⟩ (by simp [Program.arrayLen, Program.elem, Tryz.underlying149]) .i64 (Lib.nDigits u : Int) (by omega) (by rw [hal]; omega)]
   go_simp
  have hH0 := holds_zero0 w bufT (Lib.nDigits u) (by omega)
  have hfmt := Tryz.internal_strconv_formatBase10 w.heap.size 0 24 u (Array.replicate (Lib.nDigits u) 0) (w.alloc (.cells Lib.zeros24 bufT)) hH0 (by rw [Array.size_replicate]; exact Lib.lt_pow_nDigits u) hu64 (by rw [Array.size_replicate]; omega)
  rw [Array.size_replicate] at hfmt
  have HH0 := Lib.hid hH0
  have CN := Lib.hid (Tryz.internal_strconv_numDigits u hu1 hu64 _ (Lib.tabIs_alloc htab (.cells Lib.zeros24 bufT)))
  have CF := Lib.hid hfmt
  clear hH0 hal hfmt htab
  go_enter Tryz.func118, Tryz.ntmps118
  go_wp2_with (go_at_call 126; refine CN.out.mono ?_; rintro e w' ⟨rfl, rfl⟩)
  go_at_call 127
  refine CF.out.mono ?_
  rintro e w' ⟨rfl, k, v', dk, rfl, hF⟩
  have hcv : (convert 53 9 (.slice (some ⟨w.heap.size, 0, none⟩) (Lib.nDigits u) 24)).run Tryz.prog ((putRow (fun (b : UInt8) => Value.int .u8 (b.toNat : Int)) (w.alloc (.cells Lib.zeros24 bufT)) w.heap.size 0 dk).drewN k) = .ok (.string (bstr (Lib.decDigits u))) ((putRow (fun (b : UInt8) => Value.int .u8 (b.toNat : Int)) (w.alloc (.cells Lib.zeros24 bufT)) w.heap.size 0 dk).drewN k) := by
   have h := run_convert_bytes_back (P := Tryz.prog) ((putRow (fun (b : UInt8) => Value.int .u8 (b.toNat : Int)) (w.alloc (.cells Lib.zeros24 bufT)) w.heap.size 0 dk).drewN k) 53 9 5 ⟨w.heap.size, 0, none⟩ 24 (Lib.decDigits u) Tryz.underlying53 Tryz.underlying5 Tryz.underlying9 (fun j hj => by
    rw [Lib.row_is_numeral hF j hj, Lib.add_plain, World.cell?_drewN]
    exact cell?_putRow (fun (b : UInt8) => Value.int .u8 (b.toNat : Int)) _ w.heap.size 0 _ dk HH0.out (by rw [hF.size, Array.size_replicate]) j (by rw [hF.size]; rw [Lib.decDigits_length] at hj; exact hj))
   rw [Lib.decDigits_length] at h
   exact h
  have HF := Lib.hid hF
  clear hF CN CF HH0
  go_wp2
  go_ret
  obtain ⟨os, eo⟩ := fin_row w (.cells Lib.zeros24 bufT) dk k
  exact ⟨rfl, by rw [eo]; exact below_grow w k os⟩
theorem uint_any (u : Nat) (hu64 : u < 18446744073709551616) (w : World) (htab : Pow w) :
  Calls Tryz.prog 98 #[.int .u64 u, .int .i64 10] w (SaysT w (bstr (Lib.decDigits u))) := by
 have C := Lib.hid (uintL_any u hu64 w htab)
 clear htab
 go_enter Tryz.func98, Tryz.ntmps98
 go_wp2_with (go_at_call 118; refine C.out.mono ?_; rintro e w' ⟨rfl, hb⟩; have HB := Lib.hid hb; clear hb)
 go_ret
 exact ⟨rfl, HB.out⟩
end Go.Proofs.YtemiklbkfogjeaaGreatDoor
