/-
  The law AsmBack, walked: slots that have a text are read from it as they were.
-/
import Derived.Test.YtpjfnnlopcccaaaDoorQBForm3
import Derived.Test.YtpjfnnlopcccaaaDoorQISame
namespace Go.Proofs.YtpjfnnlopcccaaaDoor
open Go Go.RowKit Go.Maps
set_option linter.unusedVariables false
set_option linter.unusedSimpArgs false
set_option maxRecDepth 100000
theorem slots_congr {w : World} {A : Option Addr} {n : Nat} {X Y : Nat → Slot} (h : Slots w A n X) (e : ∀ i, i < n → X i = Y i) : Slots w A n Y := by
  intro i hi
  obtain ⟨b, off, h1, h2, h3⟩ := h i hi
  exact ⟨b, off, h1, h2, by rw [← e i hi]; exact h3⟩
theorem row_slots {w : World} {base : Nat} {v : Value} {X : Nat → Slot} {n : Nat} (h : rowAt w base v ((List.range' 0 n).map X)) : ∃ A c, v = .slice A n c ∧ Slots w A n X := by
  have hl : ((List.range' 0 n).map X).length = n := by simp
  have h' : w.ownsRow base 44 5 v ((List.range' 0 n).map X).length (cellsAll (nthS ((List.range' 0 n).map X)) ((List.range' 0 n).map X).length) := h
  rw [hl] at h'
  obtain ⟨A, c, e, hs⟩ := slots_of_own h'
  refine ⟨A, c, e, slots_congr hs fun i hi => ?_⟩
  simp [nthS, List.getD, hi]
set_option maxHeartbeats 4000000 in
theorem back_walk (A : Option Addr) (n c : Nat) (X : Nat → Slot) (w : World) (hn : n ≤ 1048576) (hX : Slots w A n X) (hA : A = none → n = 0 ∧ c = 0) (hc : n ≤ c) (hT : Tabs w) :
    Calls Tryd.prog 3 #[.slice A n c] w fun e w' => e = .returned (.bool true) ∧ Below w.heap.size w w' := by
  have C1 := Lib.hid (Text_any A n c X hc (by omega) w hT hX)
  have CA := Lib.hid (fun w1 (hb : Below w.heap.size w w1) => awake_any w1 (hT.below hb))
  rcases h1 : textFrom X n 0 with _ | l
  · have e1 : textE X n = .returned (.tuple #[.string emptyT, .int .i64 31]) := by unfold textE; rw [h1]
    rw [e1] at C1
    have hE : emptyT.toList.isEmpty = true := by kernel_rfl
    have hE2 : (emptyT.toList == []) = true := by kernel_rfl
    clear hX hA hn hT h1 e1 hc
    generalize emptyT = et at *
    go_enter Tryd.func3, Tryd.ntmps3
    go_wp2_with (first
      | (go_at_call 6; refine C1.out.mono ?_; rintro e w1 ⟨rfl, hb⟩; have B1 := Lib.hid hb; clear hb)
      | (go_at_call 7; refine (CA.out _ B1.out).mono ?_; rintro e w3 ⟨rfl, hb⟩; have B3 := Lib.hid (B1.out.on hb); clear hb))
    go_ret
    exact ⟨rfl, B3.out⟩
  · have e1 : textE X n = .returned (.tuple #[.string (bstr l), .int .i64 0]) := by unfold textE; rw [h1]
    rw [e1] at C1
    have z1 := textFrom_len X n n 0 (by omega) l h1
    have hz : (bstr l).size ≤ 274877906944 := by
      rw [bstr_size]
      have : (n - 0) * 6007 ≤ 1048576 * 6007 := Nat.mul_le_mul_right _ (by omega)
      omega
    have hb0 := text_back X n read_nil n 0 (by omega) l h1
    rw [Nat.sub_zero, List.append_nil, List.append_nil] at hb0
    have C2 : Hid (∀ w1, Below w.heap.size w w1 → Calls Tryd.prog 8 #[.string (bstr l)] w1 fun e w2 => Below w1.heap.size w1 w2 ∧ ∃ A' c', e = .returned (.tuple #[.slice A' n c', .int .i64 0, .int .i64 0]) ∧ Slots w2 A' n X) := by
      intro w1 hb
      have h := Read_any (bstr l) hz w1 (hT.below hb)
      unfold ReadG at h
      rw [hb0] at h
      refine h.mono fun e w2 ⟨hb2, v, he, hrow⟩ => ⟨hb2, ?_⟩
      obtain ⟨A', c', rfl, hs⟩ := row_slots hrow
      exact ⟨A', c', he, hs⟩
    have CS := Lib.hid (fun (w2 : World) (A' : Option Addr) (c' : Nat) (hb : Below w.heap.size w w2) (h : Slots w2 A' n X) => same_any n c c' A A' X w2 (by omega) (hX.below hb) h)
    clear hX hA hn hT h1 e1 hc z1 hz hb0
    generalize bstr l = tl at *
    go_enter Tryd.func3, Tryd.ntmps3
    go_wp2_with (first
      | (go_at_call 6; refine C1.out.mono ?_; rintro e w1 ⟨rfl, hb⟩; have B1 := Lib.hid hb; clear hb)
      | (go_at_call 8; refine (C2.out _ B1.out).mono ?_; rintro e w2 ⟨hb, A', c', rfl, hs⟩; have B2 := Lib.hid (B1.out.on hb); have HS := Lib.hid hs; clear hb hs)
      | (go_at_call 9; refine (CS.out _ _ _ B2.out HS.out).mono ?_; rintro e w3 ⟨rfl, hb⟩; have B3 := Lib.hid (B2.out.on hb); clear hb)
      | (go_at_call 7; refine (CA.out _ B3.out).mono ?_; rintro e w4 ⟨rfl, hb⟩; have B4 := Lib.hid (B3.out.on hb); clear hb))
    go_ret
    exact ⟨rfl, B4.out⟩
end Go.Proofs.YtpjfnnlopcccaaaDoor
