/-
  Layer 7: Fits, where the sizes are a map's; the plain words at lists that are given.
-/
import Derived.Test.YthilkgfbaddjpaaDoorLField2
namespace Go.Proofs.YthilkgfbaddjpaaDoor
open Go Go.RowKit
set_option linter.unusedVariables false
set_option linter.unusedSimpArgs false
set_option maxRecDepth 100000
section
variable {w : World} {a : Nat → Addr} {A : Option Addr} {cl : Nat} {l : List Ty} {τ Z : Nat} {zs : List (Int × Nat)}
set_option maxHeartbeats 2000000 in
theorem fit_yes (hG : Good l) (h : TX w a A cl l τ Z (szL l)) (j1 j2 : Nat) (h1 : j1 ≤ l.length) (h2 : j2 ≤ l.length) (n1 n2 k0 k3 : Int) (hz1 : (szL l)[j1]? = some (n1, 0)) (hz2 : (szL l)[j2]? = some (n2, 0)) :
    Calls Tryd.prog 26 #[.pointer (some ⟨τ, 0, none⟩), .int .i64 j1, .int .i64 j2, .agg #[.int .i64 k0, .int .i64 n1, .int .i64 n2, .int .i64 k3]] w fun e w' => e = .returned .nilIface ∧ Below w.heap.size w w' := by
  have b1 : Below w.heap.size w (w.alloc (.cells #[.int .i64 k0, .int .i64 n1, .int .i64 n2, .int .i64 k3] 48)) := (Below.refl _ w).alloc (Nat.le_refl _) _
  have C1 := Lib.hid (bytes_any hG (h.below b1) j1 h1 (n1, 0) hz1 rfl)
  have HT := Lib.hid (Blk.new w 48 #[.int .i64 k0, .int .i64 n1, .int .i64 n2, .int .i64 k3])
  have B1 := Lib.hid b1
  have H := Lib.hid h
  have HG := Lib.hid hG
  have HZ2 := Lib.hid hz2
  have HJ2 := Lib.hid h2
  clear b1 h hG hz1 hz2 h1 h2
  simp only at C1
  go_enter Tryd.func26, Tryd.ntmps26
  go_upto_region 1 with fail
  generalize World.alloc _ _ = w1 at C1 HT B1 ⊢
  go_upto_region 4 with (go_at_call 37; refine C1.out.mono ?_; rintro e w2 ⟨rfl, hb⟩; have B2 := Lib.hid (B1.out.trans (hb.mono B1.out.size)); have HT2 := Lib.hid (HT.out.below_ hb); clear hb)
  have C2 := Lib.hid (bytes_any HG.out (H.out.below B2.out) j2 HJ2.out (n2, 0) HZ2.out rfl)
  simp only at C2
  go_upto_region 7 with (go_at_call 37; refine C2.out.mono ?_; rintro e w3 ⟨rfl, hb⟩; have B3 := Lib.hid (B2.out.trans (hb.mono B2.out.size)); have HT3 := Lib.hid (HT2.out.below_ hb); clear hb)
  have e1 : w3.cell? ⟨w.heap.size, 1, none⟩ = some (.int .i64 n1) := HT3.out.cell 1
  have e2 : w3.cell? ⟨w.heap.size, 2, none⟩ = some (.int .i64 n2) := HT3.out.cell 2
  go_wp2_with fail
  go_ret
  exact ⟨rfl, B3.out⟩
set_option maxHeartbeats 2000000 in
theorem Fits_yes (hE : Env w a) (hT : TysAt w A l) (hH : Held l) (hG : Good l) (j1 j2 : Nat) (h1 : j1 ≤ l.length) (h2 : j2 ≤ l.length) (n1 n2 k0 k3 : Int) (hz1 : (szL l)[j1]? = some (n1, 0)) (hz2 : (szL l)[j2]? = some (n2, 0)) :
    Calls Tryd.prog 14 #[.slice A l.length cl, .int .i64 j1, .int .i64 j2, .agg #[.int .i64 k0, .int .i64 n1, .int .i64 n2, .int .i64 k3]] w fun e w' => e = .returned (.int .i64 0) ∧ Below w.heap.size w w' := by
  have b1 : Below w.heap.size w (w.alloc (.cells #[.int .i64 k0, .int .i64 n1, .int .i64 n2, .int .i64 k3] 48)) := (Below.refl _ w).alloc (Nat.le_refl _) _
  have CO := Lib.hid (open_any (cl := cl) (hE.below b1) (hT.below b1) (by have := hG.few; omega) (fun _ => hH))
  have HT := Lib.hid (Blk.new w 48 #[.int .i64 k0, .int .i64 n1, .int .i64 n2, .int .i64 k3])
  have B1 := Lib.hid b1
  have HE := Lib.hid hE
  have HG := Lib.hid hG
  have HZ := Lib.hid (And.intro hz1 (And.intro hz2 (And.intro h1 h2)))
  clear b1 hE hT hH hG hz1 hz2 h1 h2
  go_enter Tryd.func14, Tryd.ntmps14
  go_upto_region 1 with fail
  generalize World.alloc _ _ = w1 at CO HT B1 ⊢
  go_upto_region 4 with (go_at_call 9; refine CO.out.mono ?_; rintro e w2 ⟨hb, ⟨_, τ, Z, rfl, hx⟩ | ⟨hg, _⟩⟩; rotate_left; (exact absurd HG.out hg); have B2 := Lib.hid (B1.out.trans (hb.mono B1.out.size)); have HT2 := Lib.hid (HT.out.below_ hb); have HX := Lib.hid hx; clear hb hx)
  have CF := Lib.hid (fit_yes HG.out HX.out j1 j2 HZ.out.2.2.1 HZ.out.2.2.2 n1 n2 k0 k3 HZ.out.1 HZ.out.2.1)
  have e0 : w2.cell? ⟨w.heap.size, 0, none⟩ = some (.int .i64 k0) := HT2.out.cell 0
  have e1 : w2.cell? ⟨w.heap.size, 1, none⟩ = some (.int .i64 n1) := HT2.out.cell 1
  have e2 : w2.cell? ⟨w.heap.size, 2, none⟩ = some (.int .i64 n2) := HT2.out.cell 2
  have e3 : w2.cell? ⟨w.heap.size, 3, none⟩ = some (.int .i64 k3) := HT2.out.cell 3
  have CE := Lib.hid (fun (W : World) (hW : Env W a) => errno_any hW (IsErr.nil (w := W) (a := a)))
  go_wp2_with (first
    | (go_at_call 26; refine CF.out.mono ?_; rintro e w3 ⟨rfl, hb⟩; have B3 := Lib.hid (B2.out.trans (hb.mono B2.out.size)); clear hb)
    | (go_at_call 10; refine (CE.out _ (HE.out.below B3.out)).mono ?_; rintro e w4 ⟨rfl, rfl⟩))
  go_ret
  exact ⟨rfl, B3.out⟩
end
end Go.Proofs.YthilkgfbaddjpaaDoor
