/-
  Package asm, writing: the second of the two, a place. Package asm, writing: the lines of loads and stores. Package asm, writing: what stands behind the place of an instruction that reads and writes in one go. Package asm, writing: the line of an ST or an STX.
-/
import Derived.Test.YtemiklbkfogjeaaGreatDoorQ04
import Derived.Test.YtemiklbkfogjeaaGreatDoorQ00
namespace Go.Proofs.YtemiklbkfogjeaaGreatDoor
open Go Go.RowKit Go.Maps
set_option linter.unusedVariables false
set_option linter.unusedSimpArgs false
set_option maxRecDepth 100000
/-- The second of the two that an instruction works on; none, if the other one isn't 0. -/
def secT (s m : Int) (src : Bool) (p : ByteArray) : ByteArray := if src = true then (if m = 0 then regT p s else emptyT) else (if s = 0 then dec m else emptyT)
theorem secT_size (s m : Int) (src : Bool) (p : ByteArray) (hs : 0 ≤ s ∧ s ≤ 15) (hm : -2147483648 ≤ m ∧ m ≤ 2147483647) : (secT s m src p).size ≤ p.size + 21 := by
 unfold secT
 have h1 := regT_size p s (by omega) (by omega)
 have h2 := dec_size m (by omega) (by omega)
 have h3 : emptyT.size = 0 := rfl
 split <;> split <;> omega
theorem secW_any (o d s f m : Int) (src : Bool) (p : ByteArray) (hp : p.size ≤ 100) (h : Fits o d s f m) (w : World) (hT : Tabs w) :
  Calls Tryz.prog 102 #[insV o d s f m, .bool src, .string p] w (SaysT w (secT s m src p)) := by
 unfold insV secT
 obtain ⟨h1, h2, h3, h4, h5⟩ := h
 have C0 := Lib.hid (fun w (h : Tabs w) => regW_any p hp s (by omega) (by omega) w h.pow)
 have C1 := Lib.hid (fun w (h : Tabs w) => itoa_any m (by omega) (by omega) w h.pow)
 have HT : Hid (∀ o, Tabs (w.alloc o)) := fun o => hT.below ((Below.refl _ w).alloc (Nat.le_refl _) _)
 have HB : Hid (∀ o s e w', SaysT (w.alloc o) s e w' → SaysT w s e w') := fun o s e w' h => ⟨h.1, ((Below.refl _ w).alloc (Nat.le_refl _) o).trans (h.2.mono (by simp))⟩
 have HE : Hid (∀ o, Below w.heap.size w (w.alloc o)) := fun o => (Below.refl _ w).alloc (Nat.le_refl _) o
 clear hT h1 h2 h3 h4 h5 hp
 cases src
 ·by_cases hs : s = 0
  ·subst hs
   go_enter Tryz.func102, Tryz.ntmps102
   go_wp2_with (go_at_call 86; refine (C1.out _ (HT.out _)).mono ?_; rintro e w1 hs; obtain ⟨rfl, hb⟩ := HB.out _ _ _ _ hs; have HR := Lib.hid hb; clear hb hs)
   go_ret
   exact ⟨rfl, HR.out⟩
  ·have b0 : (s == 0) = false := by simpa using hs
   rw [if_neg (by decide), if_neg hs]
   clear hs
   go_enter Tryz.func102, Tryz.ntmps102
   go_wp2_with fail
   go_ret
   exact ⟨rfl, HE.out _⟩
 ·by_cases hm : m = 0
  ·subst hm
   go_enter Tryz.func102, Tryz.ntmps102
   go_wp2_with (go_at_call 96; refine (C0.out _ (HT.out _)).mono ?_; rintro e w1 hs; obtain ⟨rfl, hb⟩ := HB.out _ _ _ _ hs; have HR := Lib.hid hb; clear hb hs)
   go_ret
   exact ⟨rfl, HR.out⟩
  ·have b0 : (m == 0) = false := by simpa using hm
   rw [if_pos rfl, if_neg hm]
   clear hm
   go_enter Tryz.func102, Tryz.ntmps102
   go_wp2_with fail
   go_ret
   exact ⟨rfl, HE.out _⟩
/-- All that was there is as it was, the tables lie, a slot lies in z. -/
structure In (w W : World) (z : Nat) (o d s f m : Int) : Prop where
 below : Below w.heap.size w W
 tabs : Tabs W
 slot : Blk W z inT (inC o d s f m)
theorem _root_.Go.RowKit.Below.on {w W W' : World} (h : Below w.heap.size w W) (hb : Below W.heap.size W W') : Below w.heap.size w W' := h.trans (hb.mono h.size)
theorem blk_on {W W' : World} {y : Nat} {t : TypeId} {cs : Array Value} (h : Blk W y t cs) (hb : Below W.heap.size W W') : Blk W' y t cs := (hb.block _ h.lt).trans h
theorem In.on {w W W' : World} {z : Nat} {o d s f m : Int} (h : In w W z o d s f m) (hb : Below W.heap.size W W') : In w W' z o d s f m := ⟨h.below.on hb, h.tabs.below hb, blk_on h.slot hb⟩
theorem below_alloc (W : World) (o : Obj) : Below W.heap.size W (W.alloc o) := (Below.refl _ W).alloc (Nat.le_refl _) o
theorem below_drew (W : World) : Below W.heap.size W W.drew := (Below.refl _ W).drew
theorem In.start {w : World} (h : Tabs w) (o d s f m : Int) : In w (w.alloc (.cells (inC o d s f m) inT)) w.heap.size o d s f m := ⟨below_alloc w _, h.below (below_alloc w _), Blk.new w _ _⟩
def moveOf (l : List (ByteArray × Int × Int)) (md sz : Int) : Option ByteArray := (l.find? fun x => decide (x.2.1 = md ∧ x.2.2 = sz)).map (·.1)
theorem moveOf_yes {nm : ByteArray} {md sz : Int} {l : List (ByteArray × Int × Int)} : moveOf ((nm, md, sz) :: l) md sz = some nm := by simp [moveOf]
theorem moveOf_no {nm : ByteArray} {md sz md' sz' : Int} {l : List (ByteArray × Int × Int)} (h : ¬ (md = md' ∧ sz = sz')) : moveOf ((nm, md, sz) :: l) md' sz' = moveOf l md' sz' := by simp [moveOf, List.find?_cons, h]
theorem moveOf_size {md sz : Int} {l : List (ByteArray × Int × Int)} {nm : ByteArray} (hl : ∀ x ∈ l, x.1.size ≤ 3) (h : moveOf l md sz = some nm) : nm.size ≤ 3 := by
 unfold moveOf at h
 rw [Option.map_eq_some_iff] at h
 obtain ⟨x, hx, rfl⟩ := h
 exact hl x (List.mem_of_find?_eq_some hx)
def placeOf (nm : ByteArray) (f b : Int) : ByteArray := saidT [⟨#[42, 40]⟩ ++ nm, ⟨#[42, 41, 40]⟩ ++ regT ⟨#[114]⟩ b, (partsT f).1, (partsT f).2 ++ ⟨#[41]⟩]
/-- The bytes that are moved in this mode, f from register b on; none, if there is no such mode of its size. -/
def placeT (mode o f b : Int) : ByteArray := ((moveOf moveL mode (bits .and .i64 o 24)).map fun nm => placeOf nm f b).getD emptyT
theorem drop_at {α : Type} {l : List α} {k : Nat} {x : α} (h : l[k]? = some x) : l.drop k = x :: l.drop (k + 1) := by
 obtain ⟨hk, rfl⟩ := List.getElem?_eq_some_iff.1 h
 exact List.drop_eq_getElem_cons hk
set_option maxHeartbeats 2000000 in
theorem placeW_any (mode o d s f m b : Int) (hb : 0 ≤ b ∧ b ≤ 15) (h : Fits o d s f m) (w : World) (hT : Tabs w) :
  Calls Tryz.prog 100 #[.int .i64 mode, insV o d s f m, .int .i64 b] w (SaysT w (placeT mode o f b)) := by
 unfold insV
 have hI := In.start hT o d s f m
 obtain ⟨h1, h2, h3, h4, h5⟩ := h
 have C0 := Lib.hid (fun w (h : Tabs w) => parts_any f (by omega) (by omega) w h.pow)
 have C1 := Lib.hid (fun w (h : Tabs w) => regW_any ⟨#[114]⟩ (by decide) b (by omega) (by omega) w h.pow)
 obtain ⟨tyq, cs, hB, hi, hat⟩ := hI.tabs.moves_any
 have HI := Lib.hid hI
 have HB := Lib.hid hB
 have HX := Lib.hid hi
 have HA := Lib.hid hat
 have HPS := Lib.hid (partsT_size f (by omega) (by omega))
 have HRS : Hid ((regT ⟨#[114]⟩ b).size ≤ 22) := regT_size ⟨#[114]⟩ b (by omega) (by omega)
 clear hI hT h1 h2 h3 h4 h5 hb hB hi hat
 go_enter Tryz.func100, Tryz.ntmps100
 go_wp2_with (refine wpList_load_row rfl movesT _ rfl 8 rfl tyq cs (0, 0) _ HB.out Tryz.underlying141 rfl HX.out ?_)
 clear HB HX
 go_loopw [8, 9, 10, 12] (fun _ _ _ i wr => ∃ k : Nat, i = .int .i64 (k : Int) ∧ k ≤ 7 ∧ In w wr w.heap.size o d s f m ∧ moveOf (moveL.drop k) mode (bits .and .i64 o 24) = moveOf moveL mode (bits .and .i64 o 24)) (fun _ _ _ i _ => 7 - (Lib.intOf i).toNat)
 case atStart => exact ⟨0, rfl, by decide, HI.out, rfl⟩
 case round =>
  obtain ⟨k, rfl, hk, hR, hD⟩ := hrel
  have HR := Lib.hid hR
  have HD := Lib.hid hD
  have HK := Lib.hid hk
  clear hR hD hk
  by_cases h7 : k < 7
  ·obtain ⟨nm, md, sz, e1, e2, e3⟩ := HA.out k h7
   have HE := Lib.hid e1
   have HS := Lib.hid e2
   have i1 : (k : Int) < 7 := by omega
   have HW := Lib.hid h7
   clear h7 e1 e2
   have HD2 : Hid (moveOf ((nm, md, sz) :: moveL.drop (k + 1)) mode (bits .and .i64 o 24) = moveOf moveL mode (bits .and .i64 o 24)) := by
    have := HD.out
    rwa [drop_at HE.out] at this
   have HC : Hid (∀ cs, Blk (wr.alloc (.cells cs 115)) wr.heap.size 115 cs) := fun cs => Blk.new _ _ _
   have HN : Hid (∀ o', In w (wr.alloc o') w.heap.size o d s f m) := fun o' => HR.out.on (below_alloc _ _)
   have c0 : ∀ o', (wr.alloc o').cell? ⟨w.heap.size, 0, none⟩ = some (.int .i64 o) := fun o' => (HN.out o').slot.cell 0
   have c3 : ∀ o', (wr.alloc o').cell? ⟨w.heap.size, 3, none⟩ = some (.int .i64 f) := fun o' => (HN.out o').slot.cell 3
   clear HD
   by_cases hq : md = mode ∧ sz = bits .and .i64 o 24
   ·obtain ⟨rfl, hz⟩ := hq
    have HP : Hid (placeT md o f b = placeOf nm f b) := by
     unfold placeT
     rw [← HD2.out, ← hz, moveOf_yes]
     rfl
    clear HD2
    obtain ⟨z, ez⟩ : ∃ z, bits .and .i64 o 24 = z := ⟨_, rfl⟩
    obtain rfl : sz = z := hz.trans ez
    clear hz
    have hps := HPS.out
    have hrs := HRS.out
    have b1 : ¬ 9223372036854775807 < 2 + nm.size := by have := HS.out; omega
    have b2 : ¬ 9223372036854775807 < 3 + (regT ⟨#[114]⟩ b).size := by omega
    have b3 : ¬ 9223372036854775807 < (partsT f).2.size + 1 := by omega
    have HSZ : Hid (∀ x ∈ ([⟨#[42, 40]⟩ ++ nm, ⟨#[42, 41, 40]⟩ ++ regT ⟨#[114]⟩ b, (partsT f).1, (partsT f).2 ++ ⟨#[41]⟩] : List ByteArray), x.size ≤ 100) := by
     intro x hx
     have h1 := HS.out
     have e1 : ((⟨#[42, 40]⟩ : ByteArray) ++ nm).size = 2 + nm.size := by rw [size_app]; rfl
     have e2 : ((⟨#[42, 41, 40]⟩ : ByteArray) ++ regT ⟨#[114]⟩ b).size = 3 + (regT ⟨#[114]⟩ b).size := by rw [size_app]; rfl
     have e3 : ((partsT f).2 ++ (⟨#[41]⟩ : ByteArray)).size = (partsT f).2.size + 1 := by rw [size_app]; rfl
     simp only [List.mem_cons, List.not_mem_nil, or_false] at hx
     rcases hx with rfl | rfl | rfl | rfl <;> omega
    unfold placeOf at HP
    clear hps hrs
    generalize (partsT f).1 = pa at *
    generalize (partsT f).2 = pb at *
    generalize regT ⟨#[114]⟩ b = rb at *
    go_upto_region 6 with (go_at_call 119; refine (C0.out _ (HN.out _).tabs).mono ?_; rintro e w1 ⟨rfl, hb⟩; have HN1 := Lib.hid ((HN.out _).on hb); have HC1 := Lib.hid (blk_on (HC.out _) hb); clear hb)
    have HN2 := Lib.hid (HN1.out.on (below_drew w1))
    have HC2 := Lib.hid (blk_on HC1.out (below_drew w1))
    have S2 := HC2.out.cell 0
    go_region_held3 (fun W => W.cell? ⟨wr.heap.size, 0, none⟩ = some (.string nm))
     (first | exact HC2.out.cell 0 | exact HC3.out.cell 0 | exact (blk_on HC3.out (below_alloc _ _)).cell 0 | exact HC4.out.cell 0)
     (first
      | (go_at_call 96; refine (C1.out _ HN2.out.tabs).mono ?_; rintro e w2 ⟨rfl, hb⟩; have HN3 := Lib.hid (HN2.out.on hb); have HC3 := Lib.hid (blk_on HC2.out hb); clear hb)
      | (go_at_call 97; refine (said_any _ _ _ [⟨#[42, 40]⟩ ++ nm, ⟨#[42, 41, 40]⟩ ++ rb, pa, pb ++ ⟨#[41]⟩] (Blk.new _ _ _) (Nat.le_of_ble_eq_true rfl) 100 (by decide) HSZ.out).mono ?_; rintro e w3 ⟨rfl, hb⟩; have HN4 := Lib.hid ((HN3.out.on (below_alloc _ _)).on hb); have HC4 := Lib.hid (blk_on (blk_on HC3.out (below_alloc _ _)) hb); clear hb))
    go_wp2_with fail
    go_ret
    exact ⟨by rw [HP.out]; rfl, HN4.out.below⟩
   ·have HD3 : Hid (moveOf (moveL.drop (k + 1)) mode (bits .and .i64 o 24) = moveOf moveL mode (bits .and .i64 o 24)) := (moveOf_no hq).symm.trans HD2.out
    clear HD2
    obtain ⟨z, ez⟩ : ∃ z, bits .and .i64 o 24 = z := ⟨_, rfl⟩
    have HZ := Lib.hid ez
    rw [ez] at hq
    rcases (by omega : md ≠ mode ∨ (md = mode ∧ sz ≠ z)) with h | ⟨rfl, h⟩
    ·have b0 : (md == mode) = false := by simpa using h
     clear h hq
     go_wp2_with fail
     go_roundw
     case rel => exact ⟨k + 1, rfl, HW.out, HN.out _, HD3.out⟩
     case measure =>
      have := HW.out
      simp only [Lib.intOf]
      omega
    ·have b0 : (sz == z) = false := by simpa using h
     clear h hq
     go_wp2_with fail
     go_roundw
     case rel => exact ⟨k + 1, rfl, HW.out, HN.out _, HD3.out⟩
     case measure =>
      have := HW.out
      simp only [Lib.intOf]
      omega
  ·have hk7 : k = 7 := by have := HK.out; omega
   subst hk7
   have HF : Hid (placeT mode o f b = emptyT) := by
    unfold placeT
    rw [← HD.out]
    rfl
   clear h7 HD HK
   go_wp2_with fail
   go_ret
   exact ⟨by rw [HF.out]; rfl, HR.out.below⟩
theorem placeT_size (mode o f b : Int) (hb : 0 ≤ b ∧ b ≤ 15) (hf : -32768 ≤ f ∧ f ≤ 32767) : (placeT mode o f b).size ≤ 404 := by
 unfold placeT
 rcases h : moveOf moveL mode (bits .and .i64 o 24) with _ | nm
 ·exact Nat.zero_le _
 ·have h1 : nm.size ≤ 3 := moveOf_size (by decide) h
  have h2 := partsT_size f (by omega) (by omega)
  have h3 : (regT ⟨#[114]⟩ b).size ≤ 22 := regT_size ⟨#[114]⟩ b (by omega) (by omega)
  refine Nat.le_trans (saidT_size _ 100 ?_) (Nat.le_of_ble_eq_true rfl)
  intro x hx
  have e1 : ((⟨#[42, 40]⟩ : ByteArray) ++ nm).size = 2 + nm.size := by rw [size_app]; rfl
  have e2 : ((⟨#[42, 41, 40]⟩ : ByteArray) ++ regT ⟨#[114]⟩ b).size = 3 + (regT ⟨#[114]⟩ b).size := by rw [size_app]; rfl
  have e3 : ((partsT f).2 ++ (⟨#[41]⟩ : ByteArray)).size = (partsT f).2.size + 1 := by rw [size_app]; rfl
  simp only [List.mem_cons, List.not_mem_nil, or_false] at hx
  rcases hx with rfl | rfl | rfl | rfl <;> omega
def Cell5 (W : World) (z : Nat) (o d s f m : Int) : Prop := W.cell? ⟨z, 0, none⟩ = some (.int .i64 o) ∧ W.cell? ⟨z, 1, none⟩ = some (.int .i64 d) ∧ W.cell? ⟨z, 2, none⟩ = some (.int .i64 s) ∧ W.cell? ⟨z, 3, none⟩ = some (.int .i64 f) ∧ W.cell? ⟨z, 4, none⟩ = some (.int .i64 m)
theorem In.five {w W : World} {z : Nat} {o d s f m : Int} (h : In w W z o d s f m) : Cell5 W z o d s f m := ⟨h.slot.cell 0, h.slot.cell 1, h.slot.cell 2, h.slot.cell 3, h.slot.cell 4⟩
def loadT (o d s f m : Int) : ByteArray := if m = 0 then saidT [regT ⟨#[114]⟩ d, ⟨#[61]⟩, placeT (bits .and .i64 o 224) o f s] else emptyT
set_option maxHeartbeats 1000000 in
theorem loadW_any (o d s f m : Int) (h : Fits o d s f m) (w : World) (hT : Tabs w) :
  Calls Tryz.prog 69 #[insV o d s f m] w (SaysT w (loadT o d s f m)) := by
 have CP := Lib.hid (fun w (hT : Tabs w) => placeW_any (bits .and .i64 o 224) o d s f m s h.2.2.1 h w hT)
 have hps := placeT_size (bits .and .i64 o 224) o f s h.2.2.1 h.2.2.2.1
 unfold insV at *
 have hI := In.start hT o d s f m
 obtain ⟨h1, h2, h3, h4, h5⟩ := h
 have CR := Lib.hid (fun w (h : Tabs w) => regW_any ⟨#[114]⟩ (by decide) d (by omega) (by omega) w h.pow)
 have hrs : (regT ⟨#[114]⟩ d).size ≤ 22 := regT_size ⟨#[114]⟩ d (by omega) (by omega)
 have HI := Lib.hid hI
 unfold loadT
 by_cases hm : m = 0
 ·subst hm
  rw [if_pos rfl]
  have HSZ : Hid (∀ x ∈ ([regT ⟨#[114]⟩ d, ⟨#[61]⟩, placeT (bits .and .i64 o 224) o f s] : List ByteArray), x.size ≤ 1000) := by
   intro x hx
   simp only [List.mem_cons, List.not_mem_nil, or_false] at hx
   have h61 : (⟨#[61]⟩ : ByteArray).size = 1 := rfl
   rcases hx with rfl | rfl | rfl <;> omega
  clear hI hT h1 h2 h3 h4 h5 hps hrs
  generalize placeT (bits .and .i64 o 224) o f s = pl at *
  generalize regT ⟨#[114]⟩ d = rd at *
  obtain ⟨z, ez⟩ : ∃ z, bits .and .i64 o 224 = z := ⟨_, rfl⟩
  have CP' : Hid (∀ w, Tabs w → Calls Tryz.prog 100 #[.int .i64 z, .agg #[.int .i64 o, .int .i64 d, .int .i64 s, .int .i64 f, .int .i64 0], .int .i64 s] w (SaysT w pl)) := by
   have := CP.out
   rwa [ez] at this
  clear CP
  go_enter Tryz.func69, Tryz.ntmps69
  go_upto_region 3 with fail
  have H0 := Lib.hid (HI.out.on (below_drew _))
  go_region_held3 (fun W => W.cell? ⟨w.heap.size, 0, none⟩ = some (.int .i64 o) ∧ W.cell? ⟨w.heap.size, 1, none⟩ = some (.int .i64 d) ∧ W.cell? ⟨w.heap.size, 2, none⟩ = some (.int .i64 s) ∧ W.cell? ⟨w.heap.size, 3, none⟩ = some (.int .i64 f) ∧ W.cell? ⟨w.heap.size, 4, none⟩ = some (.int .i64 0))
   (first | exact H0.out.five | exact H1.out.five | exact H2.out.five | exact (H2.out.on (below_alloc _ _)).five | exact H3.out.five)
   (first
    | (go_at_call 96; refine (CR.out _ H0.out.tabs).mono ?_; rintro e w2 ⟨rfl, hb⟩; have H1 := Lib.hid (H0.out.on hb); clear hb)
    | (go_at_call 100; refine (CP'.out _ H1.out.tabs).mono ?_; rintro e w2 ⟨rfl, hb⟩; have H2 := Lib.hid (H1.out.on hb); clear hb)
    | (go_at_call 97; refine (said_any _ _ _ [rd, ⟨#[61]⟩, pl] (Blk.new _ _ _) (Nat.le_of_ble_eq_true rfl) 1000 (by decide) HSZ.out).mono ?_; rintro e w3 ⟨rfl, hb⟩; have H3 := Lib.hid ((H2.out.on (below_alloc _ _)).on hb); clear hb))
  go_wp2_with fail
  go_ret
  exact ⟨rfl, H3.out.below⟩
 ·have b0 : (m == 0) = false := by simpa using hm
  have b1 : (m != 0) = true := by simpa using hm
  rw [if_neg hm]
  clear hI hT h1 h2 h3 h4 h5 hps hrs hm CP CR
  go_enter Tryz.func69, Tryz.ntmps69
  go_wp2_with fail
  go_ret
  exact ⟨rfl, HI.out.below⟩
abbrev fetchT : ByteArray := ⟨#[102, 101, 116, 99, 104]⟩
def lockG (r : ByteArray) (m : Int) : List (ByteArray × Int × Bool) → ByteArray
 | [] => emptyT
 | (nm, i, fe) :: l => if m = i then saidT [nm, r] else if m = i + 1 ∧ fe = true then saidT [nm, r, fetchT] else lockG r m l
def lockT (s m : Int) : ByteArray := lockG (regT ⟨#[114]⟩ s) m lockL
set_option maxHeartbeats 2000000 in
theorem lockW_any (o d s f m : Int) (h : Fits o d s f m) (w : World) (hT : Tabs w) :
  Calls Tryz.prog 101 #[insV o d s f m] w (SaysT w (lockT s m)) := by
 unfold insV lockT
 have hI := In.start hT o d s f m
 obtain ⟨h1, h2, h3, h4, h5⟩ := h
 have C1 := Lib.hid (fun w (h : Tabs w) => regW_any ⟨#[114]⟩ (by decide) s (by omega) (by omega) w h.pow)
 have HRS : Hid ((regT ⟨#[114]⟩ s).size ≤ 22) := regT_size ⟨#[114]⟩ s (by omega) (by omega)
 have HI := Lib.hid hI
 have c2 := hI.slot.cell 2
 clear hI hT h1 h2 h3 h4 h5
 generalize regT ⟨#[114]⟩ s = rs at *
 go_enter Tryz.func101, Tryz.ntmps101
 go_upto_region 2 with (go_at_call 96; refine (C1.out _ HI.out.tabs).mono ?_; rintro e w1 ⟨rfl, hb⟩; have H1 := Lib.hid (HI.out.on hb); clear hb)
 obtain ⟨tyq, cs, hB, hi, hat⟩ := H1.out.tabs.locks_any
 have HB := Lib.hid hB
 have HX := Lib.hid hi
 have HA := Lib.hid hat
 clear hB hi hat HI c2
 go_wp2_with (refine wpList_load_row rfl locksT _ rfl 4 rfl tyq cs (0, 0) _ HB.out Tryz.underlying120 rfl HX.out ?_)
 clear HB HX
 go_loopw [10] (fun i wr => ∃ k : Nat, i = .int .i64 (k : Int) ∧ k ≤ 6 ∧ In w wr w.heap.size o d s f m ∧ lockG rs m (lockL.drop k) = lockG rs m lockL) (fun i _ => 6 - (Lib.intOf i).toNat)
 case atStart => exact ⟨0, rfl, by decide, H1.out, rfl⟩
 case round =>
  obtain ⟨k, rfl, hk, hR, hD⟩ := hrel
  have HR := Lib.hid hR
  have HD := Lib.hid hD
  have HK := Lib.hid hk
  clear hR hD hk
  by_cases h7 : k < 6
  ·obtain ⟨nm, md, fe, e1, e2, e3⟩ := HA.out k h7
   have HS := Lib.hid e2
   have i1 : (k : Int) < 6 := by omega
   have HW := Lib.hid h7
   have HD2 : Hid (lockG rs m ((nm, md, fe) :: lockL.drop (k + 1)) = lockG rs m lockL) := by
    have := HD.out
    rwa [drop_at e1] at this
   clear h7 e1 e2
   have HN : Hid (∀ o', In w (wr.alloc o') w.heap.size o d s f m) := fun o' => HR.out.on (below_alloc _ _)
   have c4 : ∀ o', (wr.alloc o').cell? ⟨w.heap.size, 4, none⟩ = some (.int .i64 m) := fun o' => (HN.out o').slot.cell 4
   have HQ : Hid (∀ tb row, Blk ((wr.alloc tb).alloc (.cells row 9)) (wr.heap.size + 1) 9 row) := fun tb row => heap_alloc2_new wr _ _
   have w1 : IntKind.i64.wrap (md + 1) = md + 1 := IntWalk.i64_in _ (by have := HS.out; omega)
   have hsz : ∀ x ∈ ([nm, rs, fetchT] : List ByteArray), x.size ≤ 100 := by
    intro x hx
    have h1 := HS.out
    have h2 := HRS.out
    have h5 : fetchT.size = 5 := rfl
    simp only [List.mem_cons, List.not_mem_nil, or_false] at hx
    rcases hx with rfl | rfl | rfl <;> omega
   have HSZ := Lib.hid hsz
   have HSZ2 : Hid (∀ x ∈ ([nm, rs] : List ByteArray), x.size ≤ 100) := fun x hx => hsz x (by simp only [List.mem_cons, List.not_mem_nil, or_false] at hx ⊢; rcases hx with h | h <;> simp [h])
   clear HD hsz
   by_cases hq : m = md
   ·have HP : Hid (lockG rs m lockL = saidT [nm, rs]) := by
     rw [← HD2.out]
     unfold lockG
     rw [if_pos hq]
     exact rfl
    subst hq
    clear HD2
    go_wp2_with (go_at_call 97; go_loud (refine (said_any _ (wr.heap.size + 1) 9 [nm, rs] (HQ.out _ _) (Nat.le_of_ble_eq_true rfl) 100 (by decide) HSZ2.out).mono ?_); rintro e w3 ⟨rfl, hb⟩; have H3 := Lib.hid (((HN.out _).on (below_alloc _ _)).on hb); clear hb)
    go_ret
    exact ⟨by rw [HP.out]; rfl, H3.out.below⟩
   ·have b0 : (m == md) = false := by simpa using hq
    by_cases hq2 : m = md + 1 ∧ fe = true
    ·have HP : Hid (lockG rs m lockL = saidT [nm, rs, fetchT]) := by
      rw [← HD2.out]
      unfold lockG
      rw [if_neg hq, if_pos hq2]
      exact rfl
     obtain ⟨rfl, rfl⟩ := hq2
     clear HD2 hq
     go_wp2_with (go_at_call 97; refine (said_any _ (wr.heap.size + 1) 9 [nm, rs, fetchT] (HQ.out _ _) (Nat.le_of_ble_eq_true rfl) 100 (by decide) HSZ.out).mono ?_; rintro e w3 ⟨rfl, hb⟩; have H3 := Lib.hid (((HN.out _).on (below_alloc _ _)).on hb); clear hb)
     go_ret
     exact ⟨by rw [HP.out]; rfl, H3.out.below⟩
    ·have HD3 : Hid (lockG rs m (lockL.drop (k + 1)) = lockG rs m lockL) := by
      rw [← HD2.out, lockG, if_neg hq, if_neg hq2]
      exact rfl
     clear HD2 hq
     by_cases hm1 : m = md + 1
     ·have hf : fe = false := by
       cases fe
       ·rfl
       ·exact absurd ⟨hm1, rfl⟩ hq2
      subst hf
      subst hm1
      clear hq2
      go_wp2_with fail
      go_roundw
      case rel => exact ⟨k + 1, rfl, HW.out, HN.out _, HD3.out⟩
      case measure =>
       have := HW.out
       simp only [Lib.intOf]
       omega
     ·have b1 : (m == md + 1) = false := by simpa using hm1
      clear hq2 hm1
      go_wp2_with fail
      go_roundw
      case rel => exact ⟨k + 1, rfl, HW.out, HN.out _, HD3.out⟩
      case measure =>
       have := HW.out
       simp only [Lib.intOf]
       omega
  ·have hk7 : k = 6 := by have := HK.out; omega
   subst hk7
   have HF : Hid (lockG rs m lockL = emptyT) := by
    rw [← HD.out]
    exact rfl
   clear h7 HD HK
   go_wp2_with fail
   go_ret
   exact ⟨by rw [HF.out]; rfl, HR.out.below⟩
theorem lockG_size (r : ByteArray) (m : Int) (hr : r.size ≤ 100) : ∀ l : List (ByteArray × Int × Bool), (∀ x ∈ l, x.1.size ≤ 100) → (lockG r m l).size ≤ 303
 | [], _ => by unfold lockG; exact Nat.zero_le _
 | (nm, i, fe) :: l, h => by
  have h1 : nm.size ≤ 100 := h (nm, i, fe) (List.mem_cons_self ..)
  have h5 : fetchT.size ≤ 100 := by decide
  unfold lockG
  split
  ·refine Nat.le_trans (saidT_size _ 100 ?_) (Nat.le_of_ble_eq_true rfl)
   intro x hx
   simp only [List.mem_cons, List.not_mem_nil, or_false] at hx
   rcases hx with rfl | rfl <;> assumption
  ·split
   ·refine Nat.le_trans (saidT_size _ 100 ?_) (Nat.le_of_ble_eq_true rfl)
    intro x hx
    simp only [List.mem_cons, List.not_mem_nil, or_false] at hx
    rcases hx with rfl | rfl | rfl <;> assumption
   ·exact lockG_size r m hr l fun x hx => h x (List.mem_cons_of_mem _ hx)
theorem lockT_size (s m : Int) (hs : 0 ≤ s ∧ s ≤ 15) : (lockT s m).size ≤ 303 :=
 lockG_size _ _ (Nat.le_trans (regT_size _ _ (by omega) (by omega)) (by decide)) _ (by decide)
abbrev lockW : ByteArray := ⟨#[108, 111, 99, 107]⟩
abbrev eqT : ByteArray := ⟨#[61]⟩
def storeT (o d s f m : Int) : ByteArray :=
 if bits .and .i64 o 224 = 192 ∧ o % 8 = 3 ∧ lockedS (bits .and .i64 o 24) = true then saidT [lockW, placeT 96 o f d, lockT s m]
 else if bits .and .i64 o 224 = 96 then saidT [placeT 96 o f d, eqT, secT s m (o % 8 == 3) wholeT] else emptyT
set_option maxHeartbeats 2000000 in
theorem storeW_any (o d s f m : Int) (h : Fits o d s f m) (w : World) (hT : Tabs w) :
  Calls Tryz.prog 70 #[insV o d s f m] w (SaysT w (storeT o d s f m)) := by
 have CP := Lib.hid (fun w (hT : Tabs w) => placeW_any 96 o d s f m d h.2.1 h w hT)
 have CL := Lib.hid (fun w (hT : Tabs w) => lockW_any o d s f m h w hT)
 have CS := Lib.hid (fun w (hT : Tabs w) => secW_any o d s f m (o % 8 == 3) wholeT (by decide) h w hT)
 have CC := Lib.hid (fun w => class_any o d s f m w)
 have CK := Lib.hid (fun w => locked_any (bits .and .i64 o 24) w)
 have hps := placeT_size 96 o f d h.2.1 h.2.2.2.1
 have hls := lockT_size s m h.2.2.1
 have hss := secT_size s m (o % 8 == 3) wholeT h.2.2.1 h.2.2.2.2
 have hw1 : wholeT.size = 1 := rfl
 have hI := In.start hT o d s f m
 have HI := Lib.hid hI
 have HSZ1 : Hid (∀ x ∈ ([lockW, placeT 96 o f d, lockT s m] : List ByteArray), x.size ≤ 1000) := by
  intro x hx
  have h4 : lockW.size = 4 := rfl
  simp only [List.mem_cons, List.not_mem_nil, or_false] at hx
  rcases hx with rfl | rfl | rfl <;> omega
 have HSZ2 : Hid (∀ x ∈ ([placeT 96 o f d, eqT, secT s m (o % 8 == 3) wholeT] : List ByteArray), x.size ≤ 1000) := by
  intro x hx
  have h4 : eqT.size = 1 := rfl
  simp only [List.mem_cons, List.not_mem_nil, or_false] at hx
  rcases hx with rfl | rfl | rfl <;> omega
 have c0 := hI.slot.cell 0
 have c1 := hI.slot.cell 1
 unfold storeT
 unfold insV at *
 clear hI hT h hps hls hss hw1
 generalize placeT 96 o f d = pl at *
 generalize lockT s m = lk at *
 obtain ⟨q, eq⟩ : ∃ q, o % 8 = q := ⟨_, rfl⟩
 obtain ⟨z, ez⟩ : ∃ z, bits .and .i64 o 224 = z := ⟨_, rfl⟩
 obtain ⟨y, ey⟩ : ∃ y, bits .and .i64 o 24 = y := ⟨_, rfl⟩
 rw [eq] at CC CS HSZ2
 rw [ey] at CK
 rw [eq, ez, ey]
 clear eq
 obtain ⟨b3, e3⟩ : ∃ b, (q == 3) = b := ⟨_, rfl⟩
 rw [e3] at CS HSZ2
 rw [e3]
 generalize secT s m b3 wholeT = sc at *
 by_cases h192 : z = 192
 ·subst h192
  have e192 : bits .and .i64 o 224 = 192 := ez
  by_cases hq : q = 3 ∧ lockedS y = true
  ·obtain ⟨rfl, hk⟩ := hq
   rw [if_pos ⟨rfl, rfl, hk⟩]
   rw [hk] at CK
   clear CS HSZ2 hk e3
   go_enter Tryz.func70, Tryz.ntmps70
   go_upto_region 2 with (go_at_call 100; refine (CP.out _ HI.out.tabs).mono ?_; rintro e w1 ⟨rfl, hb⟩; have H1 := Lib.hid (HI.out.on hb); clear hb)
   obtain ⟨k0, k1, k2, k3, k4⟩ := H1.out.five
   go_wp2_with (first
    | (go_at_call 67; refine (CC.out _).mono ?_; rintro e w2 ⟨rfl, hb⟩; have H2 := Lib.hid (H1.out.on hb); clear hb; obtain ⟨l0, l1, l2, l3, l4⟩ := H2.out.five)
    | (go_at_call 84; refine (CK.out _).mono ?_; rintro e w3 ⟨rfl, rfl⟩)
    | (go_at_call 101; refine (CL.out _ H2.out.tabs).mono ?_; rintro e w4 ⟨rfl, hb⟩; have H4 := Lib.hid (H2.out.on hb); clear hb)
    | (go_at_call 97; refine (said_any _ _ _ [lockW, pl, lk] (Blk.new _ _ _) (Nat.le_of_ble_eq_true rfl) 1000 (by decide) HSZ1.out).mono ?_; rintro e w5 ⟨rfl, hb⟩; have H5 := Lib.hid ((H4.out.on (below_alloc _ _)).on hb); clear hb))
   go_ret
   exact ⟨rfl, H5.out.below⟩
  ·rw [if_neg (fun h => hq h.2), if_neg (by decide)]
   by_cases hq3 : q = 3
   ·subst hq3
    have hk : lockedS y = false := by
     cases h : lockedS y
     ·rfl
     ·exact absurd ⟨rfl, h⟩ hq
    rw [hk] at CK
    clear CS HSZ2 hk e3 hq
    go_enter Tryz.func70, Tryz.ntmps70
    go_upto_region 2 with (go_at_call 100; refine (CP.out _ HI.out.tabs).mono ?_; rintro e w1 ⟨rfl, hb⟩; have H1 := Lib.hid (HI.out.on hb); clear hb)
    obtain ⟨k0, k1, k2, k3, k4⟩ := H1.out.five
    go_wp2_with (first
     | (go_at_call 67; refine (CC.out _).mono ?_; rintro e w2 ⟨rfl, hb⟩; have H2 := Lib.hid (H1.out.on hb); clear hb; obtain ⟨l0, l1, l2, l3, l4⟩ := H2.out.five)
     | (go_at_call 84; refine (CK.out _).mono ?_; rintro e w3 ⟨rfl, rfl⟩))
    go_ret
    exact ⟨rfl, H2.out.below⟩
   ·have b0 : (q == 3) = false := by simpa using hq3
    clear CS HSZ2 e3 hq hq3
    go_enter Tryz.func70, Tryz.ntmps70
    go_upto_region 2 with (go_at_call 100; refine (CP.out _ HI.out.tabs).mono ?_; rintro e w1 ⟨rfl, hb⟩; have H1 := Lib.hid (HI.out.on hb); clear hb)
    obtain ⟨k0, k1, k2, k3, k4⟩ := H1.out.five
    go_wp2_with (first
     | (go_at_call 67; refine (CC.out _).mono ?_; rintro e w2 ⟨rfl, hb⟩; have H2 := Lib.hid (H1.out.on hb); clear hb; obtain ⟨l0, l1, l2, l3, l4⟩ := H2.out.five))
    go_ret
    exact ⟨rfl, H2.out.below⟩
 ·have b192 : (z == 192) = false := by simpa using h192
  rw [if_neg (fun h => h192 h.1)]
  by_cases h96 : z = 96
  ·subst h96
   rw [if_pos rfl]
   clear h192 HSZ1
   go_enter Tryz.func70, Tryz.ntmps70
   go_upto_region 2 with (go_at_call 100; refine (CP.out _ HI.out.tabs).mono ?_; rintro e w1 ⟨rfl, hb⟩; have H1 := Lib.hid (HI.out.on hb); clear hb)
   obtain ⟨k0, k1, k2, k3, k4⟩ := H1.out.five
   go_upto_region 6 with fail
   have J0 := Lib.hid (H1.out.on (below_drew _))
   go_region_held3 (fun W => W.cell? ⟨w.heap.size, 0, none⟩ = some (.int .i64 o) ∧ W.cell? ⟨w.heap.size, 1, none⟩ = some (.int .i64 d) ∧ W.cell? ⟨w.heap.size, 2, none⟩ = some (.int .i64 s) ∧ W.cell? ⟨w.heap.size, 3, none⟩ = some (.int .i64 f) ∧ W.cell? ⟨w.heap.size, 4, none⟩ = some (.int .i64 m))
    (first | exact J0.out.five | exact J1.out.five | exact J2.out.five | exact (J2.out.on (below_alloc _ _)).five | exact J3.out.five)
    (first
     | (go_at_call 67; refine (CC.out _).mono ?_; rintro e w2 ⟨rfl, hb⟩; have J1 := Lib.hid (J0.out.on hb); clear hb)
     | (go_at_call 102; refine (CS.out _ J1.out.tabs).mono ?_; rintro e w2 ⟨rfl, hb⟩; have J2 := Lib.hid (J1.out.on hb); clear hb)
     | (go_at_call 97; refine (said_any _ _ _ [pl, eqT, sc] (Blk.new _ _ _) (Nat.le_of_ble_eq_true rfl) 1000 (by decide) HSZ2.out).mono ?_; rintro e w5 ⟨rfl, hb⟩; have J3 := Lib.hid ((J2.out.on (below_alloc _ _)).on hb); clear hb))
   go_wp2_with fail
   go_ret
   exact ⟨rfl, J3.out.below⟩
  ·have b96 : (z != 96) = true := by simpa using h96
   rw [if_neg h96]
   clear h192 h96
   go_enter Tryz.func70, Tryz.ntmps70
   go_upto_region 2 with (go_at_call 100; refine (CP.out _ HI.out.tabs).mono ?_; rintro e w1 ⟨rfl, hb⟩; have H1 := Lib.hid (HI.out.on hb); clear hb)
   obtain ⟨k0, k1, k2, k3, k4⟩ := H1.out.five
   go_wp2_with fail
   go_ret
   exact ⟨rfl, H1.out.below⟩
end Go.Proofs.YtemiklbkfogjeaaGreatDoor
