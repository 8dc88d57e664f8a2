/-
  The library's sort of a []uint32: the row that it turns ('SRow'), and insertionSortOrdered.
-/
import Derived.Test.YtmbkagjdhpfngaaSort0
import Derived.Sort.Defs
import Derived.WalkSmall
import Derived.Deep.QuietTactic
import Derived.BigQuiet
import Derived.BigRegion
import Derived.RegionTactic
import Derived.LoopTactic
import Derived.ChangeAlike
namespace Go.Proofs.Ytmbkagjdhpfngaa
open Go Go.RowKit Go.Maps
set_option linter.unusedVariables false

def ltN (x y : Nat) : Bool := decide (x < y)
theorem quiet_left {P : Program} {f : FuncId} {args : Array Value} {w : World} {n : Nat} {v : Value}
    (h : Calls P f args (w.drewN n) fun e w' => e = .returned v ∧ w.drewN n = w') : Calls P f args (w.drewN n) fun e w'' => e = .returned v ∧ ∃ m, w'' = w.drewN m :=
  h.mono fun _ _ ⟨he, hm⟩ => ⟨he, n, hm.symm⟩
theorem Keeps.drewN {S : Nat → Prop} {a w : World} (h : Keeps S a w) (n : Nat) : Keeps S a (w.drewN n) := ⟨h.os, h.tape, h.output, h.size, h.block⟩
/-- From w0 on block g alone has turned: it holds d, and behind it what it held there. -/
structure SRow (w0 w : World) (g : Nat) (sp : List Value) (d : Array Nat) : Prop where
  keep : Keeps (fun b => b = g) w0 w
  row : Blk w g 39 ((d.toList.map encU) ++ sp).toArray
section
variable {w0 w : World} {g : Nat} {sp : List Value} {d : Array Nat}
theorem SRow.cell (h : SRow w0 w g sp d) {i : Nat} (hi : i < d.size) : w.cell? ⟨g, i, none⟩ = some (.int .u32 (d[i]! : Int)) := by
  rw [h.row.cell, List.getElem?_toArray, List.getElem?_append_left (by simpa using hi), List.getElem?_map]
  simp [hi]
theorem SRow.frozen (h : SRow w0 w g sp d) (i : Nat) : w.frozen? ⟨g, i, none⟩ = false := h.row.frozen i
theorem SRow.drewN (h : SRow w0 w g sp d) (n : Nat) : SRow w0 (w.drewN n) g sp d := ⟨h.keep.drewN n, h.row⟩
theorem SRow.drew (h : SRow w0 w g sp d) : SRow w0 w.drew g sp d := ⟨h.keep.drew, h.row⟩
theorem SRow.set_ (h : SRow w0 w g sp d) {i : Nat} (hi : i < d.size) (x : Nat) : SRow w0 (w.setCell ⟨g, i, none⟩ (.int .u32 (x : Int))) g sp (d.setIfInBounds i x) := by
  refine ⟨h.keep.setCell (p := ⟨g, i, none⟩) (.inl rfl) _, ?_⟩
  have := h.row.set_ i (.int .u32 (x : Int))
  have e : (((d.toList.map encU) ++ sp).toArray.setIfInBounds i (.int .u32 (x : Int))) = (((d.setIfInBounds i x).toList.map encU) ++ sp).toArray := by
    rw [List.setIfInBounds_toArray, List.set_append_left _ _ (by simpa using hi)]
    simp [List.map_set, encU]
  rw [e] at this
  exact this
theorem SRow.swp (h : SRow w0 w g sp d) {i j : Nat} (hi : i < d.size) (hj : j < d.size) :
    SRow w0 ((w.setCell ⟨g, i, none⟩ (.int .u32 (d[j]! : Int))).setCell ⟨g, j, none⟩ (.int .u32 (d[i]! : Int))) g sp (Sort.swp d i j) :=
  (h.set_ hi _).set_ (by simpa using hj) _
theorem size_swp (d : Array Nat) (i j : Nat) : (Sort.swp d i j).size = d.size := by simp [Sort.swp]
end
/-- What a function of the sort leaves: the row holds d'. -/
def SPost (w0 : World) (g : Nat) (sp : List Value) (d' : Array Nat) (e : Ending) (w' : World) : Prop := e = .returned (.tuple #[]) ∧ SRow w0 w' g sp d'
theorem insInner_step (a j : Nat) (d : Array Nat) (h1 : a < j) (h2 : d[j]! < d[j - 1]!) : Sort.insInner ltN a j d = Sort.insInner ltN a (j - 1) (Sort.swp d j (j - 1)) := by
  obtain ⟨i, rfl⟩ : ∃ i, j = i + 1 := ⟨j - 1, by omega⟩
  rw [Sort.insInner, if_pos]
  · rfl
  · have h2' : d[i + 1]! < d[i]! := h2
    rw [Bool.and_eq_true]
    exact ⟨by simpa using h1, decide_eq_true h2'⟩
theorem insInner_stop (a j : Nat) (d : Array Nat) (h : j = 0 ∨ j ≤ a ∨ ¬ d[j]! < d[j - 1]!) : Sort.insInner ltN a j d = d := by
  rcases j with _ | j
  · rfl
  · rw [Sort.insInner, if_neg]
    rcases h with h | h | h
    · omega
    · rw [Bool.and_eq_true]; rintro ⟨h1, _⟩; simp at h1; omega
    · rw [Bool.and_eq_true]; rintro ⟨_, h2⟩; exact h (of_decide_eq_true h2)
theorem size_insInner (a : Nat) : ∀ (j : Nat) (d : Array Nat), (Sort.insInner ltN a j d).size = d.size
  | 0, d => rfl
  | j + 1, d => by
    rw [Sort.insInner]
    split
    · rw [size_insInner a j, size_swp]
    · rfl
set_option maxRecDepth 100000 in
set_option maxHeartbeats 2000000 in
theorem insSort_any (w0 w : World) (g : Nat) (sp : List Value) (d : Array Nat) (cap a b : Nat) (hb : b ≤ d.size) (hs : d.size ≤ cap) (hc : d.size ≤ 1048576) (ha : a ≤ b) (h : SRow w0 w g sp d) :
    Calls Try.prog 52 #[.slice (some ⟨g, 0, none⟩) d.size cap, .int .i64 (a : Int), .int .i64 (b : Int)] w (SPost w0 g sp (Sort.insertionSort ltN d a b)) := by
  obtain ⟨T, hT⟩ : ∃ T, T = Sort.insertionSort ltN d a b := ⟨_, rfl⟩
  rw [← hT]
  unfold Sort.insertionSort at hT
  obtain ⟨n, hn⟩ : ∃ n, n = d.size := ⟨_, rfl⟩
  rw [← hn] at hb hs hc ⊢
  have HT := Lib.hid hT; clear hT
  have HN := Lib.hid hn; clear hn
  have H0 := Lib.hid h; clear h
  go_enter Try.func52, Try.ntmps52
  go_wp2
  go_loopw [6] (fun i wr => ∃ (k : Nat) (d : Array Nat), a + 1 ≤ k ∧ k ≤ b + 1 ∧ i = .int .i64 k ∧ SRow w0 wr g sp d ∧ d.size = n ∧ Sort.insOuter ltN a b k d = T) (fun i _ => b + 1 - (intOf i).toNat)
  case atStart => exact ⟨a + 1, d, by omega, by omega, by go_num, H0.out, HN.out.symm, HT.out.symm⟩
  case round =>
    obtain ⟨k, d, hk1, hk2, rfl, hr, hdn, hT⟩ := hrel
    have HR := Lib.hid hr; clear hr
    have HD := Lib.hid hdn; clear hdn
    have HT2 := Lib.hid hT; clear hT
    by_cases hkb : k < b
    · go_wp2
      have e0 := HT2.out
      rw [Sort.insOuter, if_pos hkb] at e0
      have HE := Lib.hid e0; clear e0
      obtain ⟨T', hT'⟩ : ∃ T', T' = Sort.insInner ltN a k d := ⟨_, rfl⟩
      have HT' := Lib.hid hT'; clear hT'
      obtain ⟨wo, hwo⟩ : ∃ wo : World, wo = wr := ⟨_, rfl⟩
      have HWO := Lib.hid hwo; clear hwo
      go_loopw [7] (fun i wr => ∃ (j : Nat) (d : Array Nat), a ≤ j ∧ j ≤ k ∧ i = .int .i64 j ∧ SRow w0 wr g sp d ∧ d.size = n ∧ Sort.insInner ltN a j d = T') (fun i _ => (intOf i).toNat)
      case atStart => exact ⟨k, d, by omega, by omega, rfl, HR.out, HD.out, HT'.out.symm⟩
      case round =>
        obtain ⟨j, d, hj1, hj2, rfl, hr, hdn, hT⟩ := hrel
        have HR := Lib.hid hr; clear hr
        have HD := Lib.hid hdn; clear hdn
        have HT3 := Lib.hid hT; clear hT
        by_cases hja : a < j
        · have hd1 : j < d.size := by rw [HD.out]; omega
          have c1 := HR.out.cell hd1
          have c0 := HR.out.cell (show j - 1 < d.size by omega)
          have f1 := HR.out.frozen j
          have f0 := HR.out.frozen (j - 1)
          have g1 : decide (a < j) = true := by simp; omega
          have i1 : (0 : Int) ≤ (j : Int) - 1 := by omega
          have i2 : (j : Int) < (n : Int) := by omega
          have i3 : (j : Int) - 1 < (n : Int) := by omega
          obtain ⟨x, hx⟩ : ∃ x, d[j]! = x := ⟨_, rfl⟩
          obtain ⟨y, hy⟩ : ∃ y, d[j - 1]! = y := ⟨_, rfl⟩
          rw [hx] at c1
          rw [hy] at c0
          have HX := Lib.hid hx; clear hx
          have HY := Lib.hid hy; clear hy
          by_cases hlt : x < y
          · have hl : decide (x < y) = true := by simpa using hlt
            have CL := Lib.hid (fun w => less_any x y w)
            have e1 : IntKind.i64.wrap ((j : Int) - 1) = (j : Int) - 1 := IntWalk.i64_in _ (by omega)
            have e2 : ((j : Int) - 1).toNat = j - 1 := by omega
            go_wp2
            go_quiet ((go_at_call 58; exact quiet_left (CL.out _)))
            clear e1 e2
            go_wp2
            have HR2 := Lib.hid (HR.out.drewN nq)
            have d1 : (wr.drewN nq).cell? ⟨g, j, none⟩ = some (.int .u32 (x : Int)) := c1
            have d0 : (wr.drewN nq).cell? ⟨g, j - 1, none⟩ = some (.int .u32 (y : Int)) := c0
            have h1 : (wr.drewN nq).frozen? ⟨g, j, none⟩ = false := f1
            have h0 : (wr.drewN nq).frozen? ⟨g, j - 1, none⟩ = false := f0
            clear c1 c0 f1 f0
            generalize wr.drewN nq = wq at HR2 d1 d0 h1 h0 ⊢
            go_region
            go_wp2
            go_roundw
            case rel =>
              refine ⟨j - 1, Sort.swp d j (j - 1), by omega, by omega, by go_num, ?_, by rw [size_swp]; exact HD.out, ?_⟩
              · have := HR2.out.swp hd1 (show j - 1 < d.size by omega)
                rw [HX.out, HY.out] at this
                exact this.drew
              · rw [← insInner_step a j d hja (by rw [HX.out, HY.out]; exact hlt)]
                exact HT3.out
            case measure => simp [intOf]; omega
          · have hl : decide (x < y) = false := by simpa using hlt
            have CL := Lib.hid (fun w => less_any x y w)
            have e1 : IntKind.i64.wrap ((j : Int) - 1) = (j : Int) - 1 := IntWalk.i64_in _ (by omega)
            have e2 : ((j : Int) - 1).toNat = j - 1 := by omega
            have HF := Lib.hid ((insInner_stop a j d (.inr (.inr (by rw [HX.out, HY.out]; exact hlt)))).symm.trans HT3.out)
            go_wp2
            go_quiet ((go_at_call 58; exact quiet_left (CL.out _)))
            clear e1 e2
            go_wp2
            go_roundw
            case rel => exact ⟨k + 1, d, by omega, by omega, by go_num, HR.out.drewN _, HD.out, by rw [HF.out, HT'.out]; exact HE.out⟩
            case measure => simp [intOf]; omega
        · have g1 : decide (a < j) = false := by simp; omega
          have HF := Lib.hid ((insInner_stop a j d (.inr (.inl (by omega)))).symm.trans HT3.out)
          go_wp2
          go_quiet (fail)
          go_wp2
          go_roundw
          case rel => exact ⟨k + 1, d, by omega, by omega, by go_num, HR.out.drewN _, HD.out, by rw [HF.out, HT'.out]; exact HE.out⟩
          case measure => simp [intOf]; omega
    · have e0 := HT2.out
      rw [Sort.insOuter, if_neg hkb] at e0
      have HE := Lib.hid e0; clear e0
      go_wp2
      go_end0
      exact ⟨rfl, by rw [← HE.out]; exact HR.out⟩
end Go.Proofs.Ytmbkagjdhpfngaa
