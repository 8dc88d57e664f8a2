/-
  Layer 6: the reference's Same, of lists that are the same.
-/
import Derived.Test.YtmfdojmecpdikaaBTypes
import Derived.Deep.RegionHeld3
import Derived.Deep.QuietTactic
import Derived.BigQuiet
namespace Go.Proofs.Ytmfdojmecpdikaa
open Go Go.RowKit Go.Maps
set_option linter.unusedVariables false
set_option linter.unusedSimpArgs false
set_option maxRecDepth 100000
theorem Olds.blk {w w' : World} {g : Nat} {t : TypeId} {cs : Array Value} (h : Olds w w') (hb : Blk w g t cs) : Blk w' g t cs := (h.block g hb.lt).trans hb
theorem Olds.drews {a w : World} (h : Olds a w) (n : Nat) : Olds a (w.drewN n) := ⟨h.os, h.tape, h.output, h.size, h.block⟩
set_option maxHeartbeats 4000000 in
theorem same_any (A1 A2 : Option Addr) (c1 c2 : Nat) (l : List Ty) (hlen : l.length ≤ 9223372036854775807) (w : World) (h1 : TysAt w A1 l) (h2 : TysAt w A2 l) :
    Calls Try.prog 10 #[.slice A1 l.length c1, .slice A2 l.length c2] w fun e w' => e = .returned (.bool true) ∧ Below w.heap.size w w' := by
  have i1 : (l.length : Int) ≤ 9223372036854775807 := by omega
  have H1 := Lib.hid h1
  have H2 := Lib.hid h2
  clear h1 h2
  go_enter Try.func10, Try.ntmps10
  go_wp2_with fail
  go_loopw [5, 6, 7, 8] (fun i a b d wr => ∃ k : Nat, k ≤ l.length ∧ i = .int .i64 k ∧ Below w.heap.size w wr) (fun i _ _ _ _ => l.length - (intOf i).toNat)
  case atStart => exact ⟨0, by omega, rfl, Below.refl _ _⟩
  case round =>
    obtain ⟨k, hk, rfl, hb⟩ := hrel
    have HB := Lib.hid hb
    clear hb
    by_cases hkn : k < l.length
    · obtain ⟨t, ht⟩ : ∃ t, l[k]? = some t := ⟨_, List.getElem?_eq_getElem hkn⟩
      obtain ⟨b1, o1, A1', c1', rfl, hlt1, x0, x1, x2, x3, x4, x5, hm1, hs1, hn1⟩ := (H1.out.below HB.out) k t ht
      obtain ⟨b2, o2, A2', c2', rfl, hlt2, y0, y1, y2, y3, y4, y5, hm2, hs2, hn2⟩ := (H2.out.below HB.out) k t ht
      have g1 : decide (k < l.length) = true := by simpa using hkn
      have i2 : (k : Int) < (l.length : Int) := by omega
      have i3 : (0 : Int) ≤ (k : Int) := by omega
      have HM1 := Lib.hid hm1
      have HM2 := Lib.hid hm2
      have i4 : (t.mems.length : Int) ≤ 9223372036854775807 := by omega
      clear ht hkn hm1 hm2 hs1
      go_wp2_with fail
      go_region_held3 (fun W => W.cell? ⟨b1, o1 + k * 6, none⟩ = some (.int .i64 t.kind) ∧ W.cell? ⟨b1, o1 + k * 6 + 1, none⟩ = some (.string t.name) ∧ W.cell? ⟨b1, o1 + k * 6 + 2, none⟩ = some (.int .i64 t.size) ∧ W.cell? ⟨b1, o1 + k * 6 + 3, none⟩ = some (.int .i64 t.ty) ∧ W.cell? ⟨b1, o1 + k * 6 + 4, none⟩ = some (.int .i64 t.count) ∧ W.cell? ⟨b1, o1 + k * 6 + 5, none⟩ = some (.slice A1' t.mems.length c1') ∧
          W.cell? ⟨b2, o2 + k * 6, none⟩ = some (.int .i64 t.kind) ∧ W.cell? ⟨b2, o2 + k * 6 + 1, none⟩ = some (.string t.name) ∧ W.cell? ⟨b2, o2 + k * 6 + 2, none⟩ = some (.int .i64 t.size) ∧ W.cell? ⟨b2, o2 + k * 6 + 3, none⟩ = some (.int .i64 t.ty) ∧ W.cell? ⟨b2, o2 + k * 6 + 4, none⟩ = some (.int .i64 t.count) ∧ W.cell? ⟨b2, o2 + k * 6 + 5, none⟩ = some (.slice A2' t.mems.length c2'))
        (go_keep) (fail)
      · have hb2 : Below w.heap.size w ((wr.alloc (.cells #[.int .i64 t.kind, .string t.name, .int .i64 t.size, .int .i64 t.ty, .int .i64 t.count, .slice A1' t.mems.length c1'] 36)).alloc (.cells #[.int .i64 t.kind, .string t.name, .int .i64 t.size, .int .i64 t.ty, .int .i64 t.count, .slice A2' t.mems.length c2'] 36)).drew := (((HB.out.alloc HB.out.size _).alloc (by have := HB.out.size; simp; omega) _)).drew
        have hl : Below wr.heap.size wr ((wr.alloc (.cells #[.int .i64 t.kind, .string t.name, .int .i64 t.size, .int .i64 t.ty, .int .i64 t.count, .slice A1' t.mems.length c1'] 36)).alloc (.cells #[.int .i64 t.kind, .string t.name, .int .i64 t.size, .int .i64 t.ty, .int .i64 t.count, .slice A2' t.mems.length c2'] 36)).drew := (((Below.refl _ wr).alloc (Nat.le_refl _) _).alloc (by simp) _).drew
        have z1 : Blk ((wr.alloc (.cells #[.int .i64 t.kind, .string t.name, .int .i64 t.size, .int .i64 t.ty, .int .i64 t.count, .slice A1' t.mems.length c1'] 36)).alloc (.cells #[.int .i64 t.kind, .string t.name, .int .i64 t.size, .int .i64 t.ty, .int .i64 t.count, .slice A2' t.mems.length c2'] 36)).drew wr.heap.size 36 #[.int .i64 t.kind, .string t.name, .int .i64 t.size, .int .i64 t.ty, .int .i64 t.count, .slice A1' t.mems.length c1'] := (Blk.new wr _ _).alloc _
        have z2 : Blk ((wr.alloc (.cells #[.int .i64 t.kind, .string t.name, .int .i64 t.size, .int .i64 t.ty, .int .i64 t.count, .slice A1' t.mems.length c1'] 36)).alloc (.cells #[.int .i64 t.kind, .string t.name, .int .i64 t.size, .int .i64 t.ty, .int .i64 t.count, .slice A2' t.mems.length c2'] 36)).drew (wr.heap.size + 1) 36 #[.int .i64 t.kind, .string t.name, .int .i64 t.size, .int .i64 t.ty, .int .i64 t.count, .slice A2' t.mems.length c2'] := by
          have := Blk.new (wr.alloc (.cells #[.int .i64 t.kind, .string t.name, .int .i64 t.size, .int .i64 t.ty, .int .i64 t.count, .slice A1' t.mems.length c1'] 36)) 36 #[.int .i64 t.kind, .string t.name, .int .i64 t.size, .int .i64 t.ty, .int .i64 t.count, .slice A2' t.mems.length c2']
          rw [show (wr.alloc (.cells #[.int .i64 t.kind, .string t.name, .int .i64 t.size, .int .i64 t.ty, .int .i64 t.count, .slice A1' t.mems.length c1'] 36)).heap.size = wr.heap.size + 1 by simp] at this
          exact this
        have HB2 := Lib.hid hb2
        have HN1 := Lib.hid (HM1.out.below hl)
        have HN2 := Lib.hid (HM2.out.below hl)
        have Z1 := Lib.hid z1
        have Z2 := Lib.hid z2
        clear hb2 hl z1 z2
        generalize ((wr.alloc (.cells #[.int .i64 t.kind, .string t.name, .int .i64 t.size, .int .i64 t.ty, .int .i64 t.count, .slice A1' t.mems.length c1'] 36)).alloc (.cells #[.int .i64 t.kind, .string t.name, .int .i64 t.size, .int .i64 t.ty, .int .i64 t.count, .slice A2' t.mems.length c2'] 36)).drew = W at *
        generalize (wr.heap.size + 1) = X2 at *
        generalize wr.heap.size = X1 at *
        have p0 : W.cell? ⟨X1, 0, none⟩ = some (.int .i64 t.kind) := Z1.out.cell 0
        have p1 : W.cell? ⟨X1, 1, none⟩ = some (.string t.name) := Z1.out.cell 1
        have p2 : W.cell? ⟨X1, 2, none⟩ = some (.int .i64 t.size) := Z1.out.cell 2
        have p3 : W.cell? ⟨X1, 3, none⟩ = some (.int .i64 t.ty) := Z1.out.cell 3
        have p4 : W.cell? ⟨X1, 4, none⟩ = some (.int .i64 t.count) := Z1.out.cell 4
        have p5 : W.cell? ⟨X1, 5, none⟩ = some (.slice A1' t.mems.length c1') := Z1.out.cell 5
        have q0 : W.cell? ⟨X2, 0, none⟩ = some (.int .i64 t.kind) := Z2.out.cell 0
        have q1 : W.cell? ⟨X2, 1, none⟩ = some (.string t.name) := Z2.out.cell 1
        have q2 : W.cell? ⟨X2, 2, none⟩ = some (.int .i64 t.size) := Z2.out.cell 2
        have q3 : W.cell? ⟨X2, 3, none⟩ = some (.int .i64 t.ty) := Z2.out.cell 3
        have q4 : W.cell? ⟨X2, 4, none⟩ = some (.int .i64 t.count) := Z2.out.cell 4
        have q5 : W.cell? ⟨X2, 5, none⟩ = some (.slice A2' t.mems.length c2') := Z2.out.cell 5
        go_wp2_with fail
        go_loopw [8] (fun j wr => ∃ m : Nat, m ≤ t.mems.length ∧ j = .int .i64 m ∧ Olds W wr) (fun j _ => t.mems.length - (intOf j).toNat)
        case atStart => exact ⟨0, by omega, rfl, Olds.refl _⟩
        case round =>
          clear x0 x1 x2 x3 x4 x5 y0 y1 y2 y3 y4 y5 p0 p1 p2 p3 p4 p5 q0 q1 q2 q3 q4 q5
          obtain ⟨m, hm, rfl, ho⟩ := hrel
          have HO := Lib.hid ho
          have r5 : wr.cell? ⟨X1, 5, none⟩ = some (.slice A1' t.mems.length c1') := (ho.blk Z1.out).cell 5
          have s5 : wr.cell? ⟨X2, 5, none⟩ = some (.slice A2' t.mems.length c2') := (ho.blk Z2.out).cell 5
          clear ho
          by_cases hmn : m < t.mems.length
          · obtain ⟨mm, hmm⟩ : ∃ mm, t.mems[m]? = some mm := ⟨_, List.getElem?_eq_getElem hmn⟩
            obtain ⟨b3, o3, rfl, hlt3, u0, u1, u2, hsm⟩ := (HN1.out.below (HO.out.below (Nat.le_refl _))) m mm hmm
            obtain ⟨b4, o4, rfl, hlt4, v0, v1, v2, _⟩ := (HN2.out.below (HO.out.below (Nat.le_refl _))) m mm hmm
            have g2 : decide (m < t.mems.length) = true := by simpa using hmn
            have i6 : (m : Int) < (t.mems.length : Int) := by omega
            have i7 : (0 : Int) ≤ (m : Int) := by omega
            clear hmm hmn
            go_wp2_with fail
            go_quiet (fail)
            go_wp2_with fail
            go_roundw
            case rel => exact ⟨m + 1, by omega, by go_num, HO.out.drews _⟩
            case measure => simp [intOf]; omega
          · have : m = t.mems.length := by omega
            subst this
            have g2 : decide (t.mems.length < t.mems.length) = false := by simp
            go_wp2_with fail
            go_roundw
            case rel => exact ⟨k + 1, by omega, by go_num, HB2.out.trans (HO.out.below HB2.out.size)⟩
            case measure => simp [intOf]; omega
      · have hb2 : Below w.heap.size w ((wr.alloc (.cells #[.int .i64 t.kind, .string t.name, .int .i64 t.size, .int .i64 t.ty, .int .i64 t.count, .slice A2' t.mems.length c2'] 36)).alloc (.cells #[.int .i64 t.kind, .string t.name, .int .i64 t.size, .int .i64 t.ty, .int .i64 t.count, .slice A1' t.mems.length c1'] 36)).drew := (((HB.out.alloc HB.out.size _).alloc (by have := HB.out.size; simp; omega) _)).drew
        have hl : Below wr.heap.size wr ((wr.alloc (.cells #[.int .i64 t.kind, .string t.name, .int .i64 t.size, .int .i64 t.ty, .int .i64 t.count, .slice A2' t.mems.length c2'] 36)).alloc (.cells #[.int .i64 t.kind, .string t.name, .int .i64 t.size, .int .i64 t.ty, .int .i64 t.count, .slice A1' t.mems.length c1'] 36)).drew := (((Below.refl _ wr).alloc (Nat.le_refl _) _).alloc (by simp) _).drew
        have z1 : Blk ((wr.alloc (.cells #[.int .i64 t.kind, .string t.name, .int .i64 t.size, .int .i64 t.ty, .int .i64 t.count, .slice A2' t.mems.length c2'] 36)).alloc (.cells #[.int .i64 t.kind, .string t.name, .int .i64 t.size, .int .i64 t.ty, .int .i64 t.count, .slice A1' t.mems.length c1'] 36)).drew wr.heap.size 36 #[.int .i64 t.kind, .string t.name, .int .i64 t.size, .int .i64 t.ty, .int .i64 t.count, .slice A2' t.mems.length c2'] := (Blk.new wr _ _).alloc _
        have z2 : Blk ((wr.alloc (.cells #[.int .i64 t.kind, .string t.name, .int .i64 t.size, .int .i64 t.ty, .int .i64 t.count, .slice A2' t.mems.length c2'] 36)).alloc (.cells #[.int .i64 t.kind, .string t.name, .int .i64 t.size, .int .i64 t.ty, .int .i64 t.count, .slice A1' t.mems.length c1'] 36)).drew (wr.heap.size + 1) 36 #[.int .i64 t.kind, .string t.name, .int .i64 t.size, .int .i64 t.ty, .int .i64 t.count, .slice A1' t.mems.length c1'] := by
          have := Blk.new (wr.alloc (.cells #[.int .i64 t.kind, .string t.name, .int .i64 t.size, .int .i64 t.ty, .int .i64 t.count, .slice A2' t.mems.length c2'] 36)) 36 #[.int .i64 t.kind, .string t.name, .int .i64 t.size, .int .i64 t.ty, .int .i64 t.count, .slice A1' t.mems.length c1']
          rw [show (wr.alloc (.cells #[.int .i64 t.kind, .string t.name, .int .i64 t.size, .int .i64 t.ty, .int .i64 t.count, .slice A2' t.mems.length c2'] 36)).heap.size = wr.heap.size + 1 by simp] at this
          exact this
        have HB2 := Lib.hid hb2
        have HN1 := Lib.hid (HM1.out.below hl)
        have HN2 := Lib.hid (HM2.out.below hl)
        have Z1 := Lib.hid z2
        have Z2 := Lib.hid z1
        clear hb2 hl z1 z2
        generalize ((wr.alloc (.cells #[.int .i64 t.kind, .string t.name, .int .i64 t.size, .int .i64 t.ty, .int .i64 t.count, .slice A2' t.mems.length c2'] 36)).alloc (.cells #[.int .i64 t.kind, .string t.name, .int .i64 t.size, .int .i64 t.ty, .int .i64 t.count, .slice A1' t.mems.length c1'] 36)).drew = W at *
        generalize (wr.heap.size + 1) = X1 at *
        generalize wr.heap.size = X2 at *
        have p0 : W.cell? ⟨X1, 0, none⟩ = some (.int .i64 t.kind) := Z1.out.cell 0
        have p1 : W.cell? ⟨X1, 1, none⟩ = some (.string t.name) := Z1.out.cell 1
        have p2 : W.cell? ⟨X1, 2, none⟩ = some (.int .i64 t.size) := Z1.out.cell 2
        have p3 : W.cell? ⟨X1, 3, none⟩ = some (.int .i64 t.ty) := Z1.out.cell 3
        have p4 : W.cell? ⟨X1, 4, none⟩ = some (.int .i64 t.count) := Z1.out.cell 4
        have p5 : W.cell? ⟨X1, 5, none⟩ = some (.slice A1' t.mems.length c1') := Z1.out.cell 5
        have q0 : W.cell? ⟨X2, 0, none⟩ = some (.int .i64 t.kind) := Z2.out.cell 0
        have q1 : W.cell? ⟨X2, 1, none⟩ = some (.string t.name) := Z2.out.cell 1
        have q2 : W.cell? ⟨X2, 2, none⟩ = some (.int .i64 t.size) := Z2.out.cell 2
        have q3 : W.cell? ⟨X2, 3, none⟩ = some (.int .i64 t.ty) := Z2.out.cell 3
        have q4 : W.cell? ⟨X2, 4, none⟩ = some (.int .i64 t.count) := Z2.out.cell 4
        have q5 : W.cell? ⟨X2, 5, none⟩ = some (.slice A2' t.mems.length c2') := Z2.out.cell 5
        go_wp2_with fail
        go_loopw [8] (fun j wr => ∃ m : Nat, m ≤ t.mems.length ∧ j = .int .i64 m ∧ Olds W wr) (fun j _ => t.mems.length - (intOf j).toNat)
        case atStart => exact ⟨0, by omega, rfl, Olds.refl _⟩
        case round =>
          clear x0 x1 x2 x3 x4 x5 y0 y1 y2 y3 y4 y5 p0 p1 p2 p3 p4 p5 q0 q1 q2 q3 q4 q5
          obtain ⟨m, hm, rfl, ho⟩ := hrel
          have HO := Lib.hid ho
          have r5 : wr.cell? ⟨X1, 5, none⟩ = some (.slice A1' t.mems.length c1') := (ho.blk Z1.out).cell 5
          have s5 : wr.cell? ⟨X2, 5, none⟩ = some (.slice A2' t.mems.length c2') := (ho.blk Z2.out).cell 5
          clear ho
          by_cases hmn : m < t.mems.length
          · obtain ⟨mm, hmm⟩ : ∃ mm, t.mems[m]? = some mm := ⟨_, List.getElem?_eq_getElem hmn⟩
            obtain ⟨b3, o3, rfl, hlt3, u0, u1, u2, hsm⟩ := (HN1.out.below (HO.out.below (Nat.le_refl _))) m mm hmm
            obtain ⟨b4, o4, rfl, hlt4, v0, v1, v2, _⟩ := (HN2.out.below (HO.out.below (Nat.le_refl _))) m mm hmm
            have g2 : decide (m < t.mems.length) = true := by simpa using hmn
            have i6 : (m : Int) < (t.mems.length : Int) := by omega
            have i7 : (0 : Int) ≤ (m : Int) := by omega
            clear hmm hmn
            go_wp2_with fail
            go_quiet (fail)
            go_wp2_with fail
            go_roundw
            case rel => exact ⟨m + 1, by omega, by go_num, HO.out.drews _⟩
            case measure => simp [intOf]; omega
          · have : m = t.mems.length := by omega
            subst this
            have g2 : decide (t.mems.length < t.mems.length) = false := by simp
            go_wp2_with fail
            go_roundw
            case rel => exact ⟨k + 1, by omega, by go_num, HB2.out.trans (HO.out.below HB2.out.size)⟩
            case measure => simp [intOf]; omega
    · have : k = l.length := by omega
      subst this
      have g1 : decide (l.length < l.length) = false := by simp
      go_wp2_with fail
      go_ret
      exact ⟨rfl, HB.out⟩
end Go.Proofs.Ytmfdojmecpdikaa
