/-
  What the law InsnFields says of one slot's bytes, plainly.
-/
import Derived.Test.YtkopbjjpghbkoaaDoorISame
namespace Go.Proofs.YtkopbjjpghbkoaaDoor
open Go Go.RowKit
set_option linter.unusedVariables false
/-- Encode of one slot. -/
noncomputable def encOne (x : Slot) : Ending := encAns (fun _ => x) 1
theorem enc1_any (g : Nat) (w : World) (x : Slot) (hg : g < w.heap.size) (h : Cells5 w g 0 x) :
    Calls Tryd.prog 8 #[.slice (some ⟨g, 0, none⟩) 1 1] w fun e w' => e = encOne x ∧ Below w.heap.size w w' :=
  encode_any (some ⟨g, 0, none⟩) 1 1 (fun _ => x) (by omega) w (fun i hi => ⟨g, 0, rfl, hg, by rw [show 0 + i * 5 = 0 by omega]; exact h⟩)
theorem encOne_ok {x : Slot} (h : x.Ok) : encOne x = .returned (.tuple #[.string (bstr x.bytes), .int .i64 0]) := by
  unfold encOne
  rw [encAns_ok (fun _ _ => h)]
  rfl
theorem encOne_bad {x : Slot} (h : ¬ x.Ok) : encOne x = .returned (.tuple #[.string (bstr []), .int .i64 30]) := by
  unfold encOne
  rw [encAns_bad (fun h' => h (h' 0 (by omega)))]
theorem bstr_inj {a b : List UInt8} (h : bstr a = bstr b) : a = b := by
  have := congrArg (fun x : ByteArray => x.data.toList) h
  simpa [bstr] using this
theorem ba_beq (a b : ByteArray) : (a == b) = true ↔ a = b := by
  obtain ⟨a⟩ := a
  obtain ⟨b⟩ := b
  rw [show ((⟨a⟩ : ByteArray) == ⟨b⟩) = (a == b) from rfl, beq_iff_eq]
  constructor
  · rintro rfl; rfl
  · intro h; injection h
theorem same_imm (x : Slot) (imm : Int) (h : x.Ok) (h' : ({ x with m := imm } : Slot).Ok) : (bstr x.bytes == bstr ({ x with m := imm } : Slot).bytes) = (x.m == imm) := by
  rw [Bool.eq_iff_iff]
  rw [ba_beq]
  simp only [beq_iff_eq]
  constructor
  · intro e
    have e := bstr_inj e
    obtain ⟨_, _, _, _, h5⟩ := h
    obtain ⟨_, _, _, _, h5'⟩ := h'
    simp only [Slot.bytes, List.cons.injEq, and_true, true_and] at e
    obtain ⟨e0, e1, e2, e3⟩ := e
    have t0 := congrArg (fun b : UInt8 => (b.toNat : Int)) e0
    have t1 := congrArg (fun b : UInt8 => (b.toNat : Int)) e1
    have t2 := congrArg (fun b : UInt8 => (b.toNat : Int)) e2
    have t3 := congrArg (fun b : UInt8 => (b.toNat : Int)) e3
    simp only [u8_toNat] at t0 t1 t2 t3 h5'
    omega
  · rintro rfl; rfl
theorem same_off (x : Slot) (off : Int) (h : x.Ok) (h' : ({ x with f := off } : Slot).Ok) : (bstr x.bytes == bstr ({ x with f := off } : Slot).bytes) = (x.f == off) := by
  rw [Bool.eq_iff_iff]
  rw [ba_beq]
  simp only [beq_iff_eq]
  constructor
  · intro e
    have e := bstr_inj e
    obtain ⟨_, _, _, h4, _⟩ := h
    obtain ⟨_, _, _, h4', _⟩ := h'
    simp only [Slot.bytes, List.cons.injEq, and_true, true_and] at e
    obtain ⟨e0, e1⟩ := e
    have t0 := congrArg (fun b : UInt8 => (b.toNat : Int)) e0
    have t1 := congrArg (fun b : UInt8 => (b.toNat : Int)) e1
    simp only [u8_toNat] at t0 t1 h4'
    omega
  · rintro rfl; rfl
theorem head_imm (x : Slot) (imm : Int) : ((bstr x.bytes).extract 0 4 == (bstr ({ x with m := imm } : Slot).bytes).extract 0 4) = true := by
  rw [show (bstr x.bytes).extract 0 4 = bstr [u8 x.o, u8 (x.s * 16 + x.d), u8 x.f, u8 (x.f / 256)] from rfl]
  exact (ba_beq _ _).2 rfl
theorem head_off (x : Slot) (off : Int) : ((bstr x.bytes).extract 0 2 == (bstr ({ x with f := off } : Slot).bytes).extract 0 2) = true := by
  rw [show (bstr x.bytes).extract 0 2 = bstr [u8 x.o, u8 (x.s * 16 + x.d)] from rfl]
  exact (ba_beq _ _).2 rfl
theorem tail_off (x : Slot) (off : Int) : ((bstr x.bytes).extract 4 8 == (bstr ({ x with f := off } : Slot).bytes).extract 4 8) = true := by
  rw [show (bstr x.bytes).extract 4 8 = bstr [u8 x.m, u8 (x.m / 256), u8 (x.m / 65536), u8 (x.m / 16777216)] from rfl]
  exact (ba_beq _ _).2 rfl
end Go.Proofs.YtkopbjjpghbkoaaDoor
