/-
  The law ShapeChecks, walked.
-/
import Derived.Test.YticklgoegmobbaaDoorSMaps
import Derived.Test.YticklgoegmobbaaDoorRMaps
import Derived.Test.YticklgoegmobbaaDoorRCheck
import Derived.Test.YticklgoegmobbaaDoorSAwake
namespace Go.Proofs.YticklgoegmobbaaDoor
open Go Go.RowKit
set_option linter.unusedVariables false
set_option linter.unusedSimpArgs false
set_option maxRecDepth 100000
theorem restM_length (X : Nat → Slot) (n : Nat) : ∀ m k acc, n - k ≤ m → (restM X n k acc).length ≤ acc.length + m
  | 0, k, acc, h => by rw [restM_end (by omega)]; omega
  | m + 1, k, acc, h => by
    by_cases hk : k < n
    · rw [restM_step hk]
      have h1 := slN_lt (X k)
      have h2 := restM_length X n m (k + slN (X k)) (stepM acc (X k)) (by omega)
      have h3 := stepM_len acc (X k)
      omega
    · rw [restM_end hk]; omega
theorem row_keeps {w w' : World} {B : Nat} {v : Value} {e : TypeId} {s n : Nat} {xs : List Value} (h : w.ownsRow B e s v n xs) (hb : Below w.heap.size w w') : w'.ownsRow B e s v n xs := h.kept (grown0_of hb) (own_cases h)
set_option maxHeartbeats 1000000 in
theorem ints_rows (B B' : Nat) (v v' : Value) (L : List Int) (w : World) (h : w.ownsRow B 3 1 v L.length (L.map (Value.int .i64))) (h' : w.ownsRow B' 3 1 v' L.length (L.map (Value.int .i64))) (hl : L.length ≤ 4398046511104) :
    Calls Tryd.prog 9 #[v, v'] w fun e w' => e = .returned (.bool true) ∧ Below w.heap.size w w' := by
  obtain ⟨A, c, rfl, hc⟩ := row_form h
  obtain ⟨A', c', rfl, hc'⟩ := row_form h'
  have HC := Lib.hid hc
  have HC' := Lib.hid hc'
  have e0 : ((L.length : Int) != (L.length : Int)) = false := by simp
  clear h h' hc hc'
  go_enter Tryd.func9, Tryd.ntmps9
  go_wp2_with fail
  go_loopw [5] (fun i wr => ∃ k : Nat, k ≤ L.length ∧ i = .int .i64 k ∧ Below w.heap.size w wr ∧ wr.heap = w.heap) (fun i _ => L.length - (intOf i).toNat)
  case atStart => exact ⟨0, by omega, rfl, Below.refl _ _, rfl⟩
  case round =>
    obtain ⟨k, hk, rfl, hb, hh⟩ := hrel
    have HB := Lib.hid hb
    have HH := Lib.hid hh
    clear hb hh
    by_cases hkn : k < L.length
    · have g1 : decide (k < L.length) = true := by simpa using hkn
      obtain ⟨g, rfl, hx⟩ := HC.out k hkn
      obtain ⟨g', rfl, hx'⟩ := HC'.out k hkn
      have c1 : wr.cell? ⟨g, k, none⟩ = some (.int .i64 L[k]) := (World.cell?_of_block (by rw [HH.out])).trans hx
      have c2 : wr.cell? ⟨g', k, none⟩ = some (.int .i64 L[k]) := (World.cell?_of_block (by rw [HH.out])).trans hx'
      have i1 : (0 : Int) ≤ (k : Int) := by omega
      have i2 : (k : Int) < (L.length : Int) := by omega
      clear hx hx'
      generalize L[k] = z at *
      have e1 : (z != z) = false := by simp
      go_wp2_with fail
      go_quiet (fail)
      go_wp2_with fail
      go_roundw
      case rel => exact ⟨k + 1, by omega, by go_num, (let h := HB.out; ⟨h.os, h.tape, h.output, h.size, h.block⟩), HH.out⟩
      case measure => simp [intOf]; omega
    · have g1 : decide (k < L.length) = false := by simpa using hkn
      go_wp2_with fail
      go_ret
      exact ⟨rfl, HB.out⟩
set_option maxHeartbeats 4000000 in
theorem checks_walk (A : Option Addr) (n c : Nat) (X : Nat → Slot) (w : World) (hn : n ≤ 4398046511104) (h : Slots w A n X) (hS : Sizes w) (hwf : ∀ i, i < n → (Lit.int .i64 (X i).m).wf = true) :
    Calls Tryd.prog 3 #[.slice A n c] w fun e w' => e = .returned (.bool true) ∧ Below w.heap.size w w' := by
  have C1 := Lib.hid (check_any A n c X w h hS)
  have C2 := Lib.hid (fun w' h => check05_any A n c X w' h)
  have CM := Lib.hid (fun w' h => maps_any A n c X hn w' h hwf)
  have CR := Lib.hid (fun w' h => maps05_any A n c X hn w' h)
  have CI := Lib.hid ints_rows
  have CA := Lib.hid awake_any
  have hlen : (restM X n 0 []).length ≤ 4398046511104 := by have := restM_length X n n 0 [] (by omega); simp at this; omega
  have LEN := Lib.hid hlen
  clear hlen
  have H := Lib.hid h
  have HS := Lib.hid hS
  clear h hS
  unfold ChkAns at C2
  generalize (chkAt X n : Int) = a at C1 C2
  generalize chkE X n = z at C1 C2
  have ea : (a == a) = true := by simp
  have ez : (z == z) = true := by simp
  go_enter Tryd.func3, Tryd.ntmps3
  go_wp2_with (first
    | (go_at_call 7; refine C1.out.mono ?_; rintro e w1 ⟨rfl, hb⟩; have B1 := Lib.hid hb; clear hb)
    | (go_at_call 8; refine (C2.out w1 (H.out.below B1.out)).mono ?_; rintro e w2 ⟨rfl, hb⟩; have B2 : Hid (Below w.heap.size w w2) := B1.out.trans (hb.mono B1.out.size); clear hb)
    | (go_at_call 10; refine (CM.out w2 (H.out.below B2.out)).mono ?_; rintro e w3 ⟨⟨v3, rfl, hr⟩, hb⟩; have B3 : Hid (Below w.heap.size w w3) := B2.out.trans (hb.mono B2.out.size); have R3 := Lib.hid hr; clear hb hr)
    | (go_at_call 11; refine (CR.out w3 (H.out.below B3.out)).mono ?_; rintro e w4 ⟨⟨v4, rfl, hr⟩, hb⟩; have B4 : Hid (Below w.heap.size w w4) := B3.out.trans (hb.mono B3.out.size); have R4 := Lib.hid hr; have R3' := Lib.hid (row_keeps R3.out hb); clear hb hr)
    | (go_at_call 9; refine (CI.out _ _ _ _ _ w4 R3'.out R4.out LEN.out).mono ?_; rintro e w5 ⟨rfl, hb⟩; have B5 : Hid (Below w.heap.size w w5) := B4.out.trans (hb.mono B4.out.size); clear hb)
    | (go_at_call 12; refine (CA.out w5 (HS.out.below B5.out)).mono ?_; rintro e w6 ⟨rfl, hb⟩; have B6 : Hid (Below w.heap.size w w6) := B5.out.trans (hb.mono B5.out.size); clear hb))
  go_ret
  exact ⟨rfl, B6.out⟩
end Go.Proofs.YticklgoegmobbaaDoor
