/-
  The reference's first and at where there is a region; wide.
-/
import Derived.Test.YtmbkagjdhpfngaaRm
import Derived.OwnWalk
namespace Go.Proofs.Ytmbkagjdhpfngaa
open Go Go.RowKit Go.Maps
set_option linter.unusedVariables false
section
variable {w : World} {T : Nat → Prop} {bx made fail : Nat} {vs : Nat → Option RV} {rb gb : Nat → Nat} {lv : Value}
set_option maxRecDepth 100000 in
theorem first_dead (h : RM w T bx made fail vs rb gb lv) (n : Nat) (h0 : 1 ≤ n) (hm : n ≤ made) (hs : vs n = none) :
    Calls Try.prog 39 #[.pointer (some ⟨bx, 0, none⟩), .int .u64 (addr n 0)] w fun e w' => e = .returned (.pointer none) ∧ w = w' := by
  have hmd := h.made_le
  have hn : n ≤ 4294967295 := by omega
  obtain ⟨b0, b1, b2, b3⟩ := addr_bd hn (show 0 ≤ 4294967295 by omega)
  have ha := and_off n 0 hn (by omega)
  obtain ⟨A, c, rfl, hc⟩ := h.row_form
  obtain ⟨g, rfl, cn⟩ := hc n h0 hm
  have c0 : w.cell? ⟨bx, 0, none⟩ = some (.slice (some ⟨g, 0, none⟩) made c) := h.head.cell 0
  obtain ⟨p, ret, hb⟩ := h.dead n h0 hm hs
  have d0 : w.cell? ⟨rb n, 0, none⟩ = some (.slice none 0 0) := hb.cell 0
  clear h hc hb hs
  generalize rb n = r at *
  generalize addr n 0 = a at *
  have b3' : a % 4294967296 = 0 := b3
  have ha' : bits .and .u64 a 4294967295 = 0 := ha
  clear b3 ha
  have g1 : decide ((n : Int) < 1) = false := by simp; omega
  have g2 : decide (made < n) = false := by simp; omega
  have hw : IntKind.i64.wrap (n : Int) = (n : Int) := IntWalk.i64_in _ (by omega)
  have i1 : (0 : Int) ≤ (n : Int) - 1 := by omega
  have i2 : (n : Int) - 1 < (made : Int) := by omega
  have i3 : ((n : Int) - 1).toNat = n - 1 := by omega
  have hq := fun (w : World) a n c => Lib.run_eql_slice_nil (P := Try.prog) w 73 5 a n c 0 0 Try.underlying73
  go_enter Try.func39, Try.ntmps39
  go_wp2_with fail
  go_ret
  exact ⟨rfl, rfl⟩
set_option maxRecDepth 100000 in
theorem first_live (h : RM w T bx made fail vs rb gb lv) (n : Nat) {q : RV} (hs : vs n = some q) :
    Calls Try.prog 39 #[.pointer (some ⟨bx, 0, none⟩), .int .u64 (addr n 0)] w fun e w' => e = .returned (.pointer (some ⟨rb n, 0, none⟩)) ∧ w = w' := by
  have hmd := h.made_le
  obtain ⟨h0, hm⟩ := h.range n q hs
  have hn : n ≤ 4294967295 := by omega
  obtain ⟨b0, b1, b2, b3⟩ := addr_bd hn (show 0 ≤ 4294967295 by omega)
  have ha := and_off n 0 hn (by omega)
  obtain ⟨A, c, rfl, hc⟩ := h.row_form
  obtain ⟨g, rfl, cn⟩ := hc n h0 hm
  have c0 : w.cell? ⟨bx, 0, none⟩ = some (.slice (some ⟨g, 0, none⟩) made c) := h.head.cell 0
  have d0 : w.cell? ⟨rb n, 0, none⟩ = some (.slice (some ⟨gb n, 0, none⟩) q.2.1.length q.2.1.length) := (h.live n q hs).cell 0
  clear h hc hs
  generalize rb n = r at *
  generalize gb n = gg at *
  generalize q.2.1.length = l at *
  generalize addr n 0 = a at *
  have b3' : a % 4294967296 = 0 := b3
  have ha' : bits .and .u64 a 4294967295 = 0 := ha
  clear b3 ha
  have g1 : decide ((n : Int) < 1) = false := by simp; omega
  have g2 : decide (made < n) = false := by simp; omega
  have hw : IntKind.i64.wrap (n : Int) = (n : Int) := IntWalk.i64_in _ (by omega)
  have i1 : (0 : Int) ≤ (n : Int) - 1 := by omega
  have i2 : (n : Int) - 1 < (made : Int) := by omega
  have i3 : ((n : Int) - 1).toNat = n - 1 := by omega
  have hq := fun (w : World) a n c => Lib.run_eql_slice_nil (P := Try.prog) w 73 5 a n c 0 0 Try.underlying73
  go_enter Try.func39, Try.ntmps39
  go_wp2_with fail
  go_ret
  exact ⟨rfl, rfl⟩
def AtPost (w : World) (v : Value) (o z : Int) (e : Ending) (w' : World) : Prop := e = .returned (.tuple #[v, .int .i64 o, .int .i64 z]) ∧ w = w'
set_option maxRecDepth 100000 in
theorem at_null (h : RM w T bx made fail vs rb gb lv) (n o : Nat) (hn : n ≤ 4294967295) (ho : o ≤ 4294967295) (k p : Int) (hm : n = 0 ∨ made < n) :
    Calls Try.prog 44 #[.pointer (some ⟨bx, 0, none⟩), .int .u64 (addr n o), .int .i64 k, .int .i64 p] w (AtPost w (.pointer none) 0 20) := by
  obtain ⟨b0, b1, b2, b3⟩ := addr_bd hn ho
  obtain ⟨A, c, rfl, _⟩ := h.row_form
  have c0 : w.cell? ⟨bx, 0, none⟩ = some (.slice A made c) := h.head.cell 0
  have hmd := h.made_le
  clear h b3
  generalize addr n o = a at *
  rcases Nat.eq_zero_or_pos n with h0 | h0
  · subst h0
    have b2' : a / 4294967296 = 0 := b2
    clear b2
    go_enter Try.func44, Try.ntmps44
    go_wp2_with fail
    go_ret3
    exact ⟨rfl, rfl⟩
  · have g1 : decide ((n : Int) < 1) = false := by simp; omega
    have g2 : decide (made < n) = true := by simp; omega
    have hw : IntKind.i64.wrap (n : Int) = (n : Int) := IntWalk.i64_in _ (by omega)
    go_enter Try.func44, Try.ntmps44
    go_wp2_with fail
    go_ret3
    exact ⟨rfl, rfl⟩
set_option maxRecDepth 100000 in
theorem at_freed (h : RM w T bx made fail vs rb gb lv) (n o : Nat) (ho : o ≤ 4294967295) (k p : Int) (h0 : 1 ≤ n) (hm : n ≤ made) (hs : vs n = none) :
    Calls Try.prog 44 #[.pointer (some ⟨bx, 0, none⟩), .int .u64 (addr n o), .int .i64 k, .int .i64 p] w (AtPost w (.pointer none) 0 21) := by
  have hmd := h.made_le
  have hn : n ≤ 4294967295 := by omega
  obtain ⟨b0, b1, b2, b3⟩ := addr_bd hn ho
  have ha := and_off n o hn ho
  obtain ⟨A, c, rfl, hc⟩ := h.row_form
  obtain ⟨g, rfl, cn⟩ := hc n h0 hm
  have c0 : w.cell? ⟨bx, 0, none⟩ = some (.slice (some ⟨g, 0, none⟩) made c) := h.head.cell 0
  obtain ⟨p', ret, hb⟩ := h.dead n h0 hm hs
  have d0 : w.cell? ⟨rb n, 0, none⟩ = some (.slice none 0 0) := hb.cell 0
  clear h hc hb hs
  generalize rb n = r at *
  generalize addr n o = a at *
  clear b3
  have g1 : decide ((n : Int) < 1) = false := by simp; omega
  have g2 : decide (made < n) = false := by simp; omega
  have hw : IntKind.i64.wrap (n : Int) = (n : Int) := IntWalk.i64_in _ (by omega)
  have i1 : (0 : Int) ≤ (n : Int) - 1 := by omega
  have i2 : (n : Int) - 1 < (made : Int) := by omega
  have i3 : ((n : Int) - 1).toNat = n - 1 := by omega
  have hq := fun (w : World) a n c => Lib.run_eql_slice_nil (P := Try.prog) w 73 5 a n c 0 0 Try.underlying73
  go_enter Try.func44, Try.ntmps44
  go_wp2_with fail
  go_ret3
  exact ⟨rfl, rfl⟩
set_option maxRecDepth 100000 in
theorem at_perm (h : RM w T bx made fail vs rb gb lv) (n o : Nat) (ho : o ≤ 4294967295) (k p : Int) {q : RV} (hs : vs n = some q) (hp : (p != 0) = true) (hp2 : (bits .and .i64 q.1 p == 0) = true) :
    Calls Try.prog 44 #[.pointer (some ⟨bx, 0, none⟩), .int .u64 (addr n o), .int .i64 k, .int .i64 p] w (AtPost w (.pointer none) 0 23) := by
  obtain ⟨h0, hm⟩ := h.range n q hs
  have hmd := h.made_le
  have hn : n ≤ 4294967295 := by omega
  obtain ⟨b0, b1, b2, b3⟩ := addr_bd hn ho
  have ha := and_off n o hn ho
  obtain ⟨A, c, rfl, hc⟩ := h.row_form
  obtain ⟨g, rfl, cn⟩ := hc n h0 hm
  have c0 : w.cell? ⟨bx, 0, none⟩ = some (.slice (some ⟨g, 0, none⟩) made c) := h.head.cell 0
  have d0 : w.cell? ⟨rb n, 0, none⟩ = some (.slice (some ⟨gb n, 0, none⟩) q.2.1.length q.2.1.length) := (h.live n q hs).cell 0
  have d1 : w.cell? ⟨rb n, 1, none⟩ = some (.int .i64 q.1) := (h.live n q hs).cell 1
  have hl := (h.sized n q hs).2.1
  clear h hc hs
  generalize rb n = r at *
  generalize gb n = gg at *
  obtain ⟨qp, qb, qr⟩ := q
  simp only at *
  generalize qb.length = l at *
  generalize addr n o = a at *
  clear b3
  have g1 : decide ((n : Int) < 1) = false := by simp; omega
  have g2 : decide (made < n) = false := by simp; omega
  have hw : IntKind.i64.wrap (n : Int) = (n : Int) := IntWalk.i64_in _ (by omega)
  have i1 : (0 : Int) ≤ (n : Int) - 1 := by omega
  have i2 : (n : Int) - 1 < (made : Int) := by omega
  have i3 : ((n : Int) - 1).toNat = n - 1 := by omega
  have hq := fun (w : World) a n c => Lib.run_eql_slice_nil (P := Try.prog) w 73 5 a n c 0 0 Try.underlying73
  go_enter Try.func44, Try.ntmps44
  go_wp2_with fail
  go_ret3
  exact ⟨rfl, rfl⟩
set_option maxRecDepth 100000 in
theorem at_bound (h : RM w T bx made fail vs rb gb lv) (n o : Nat) (ho : o ≤ 4294967295) (k : Nat) (hk : k ≤ 1048576) (p : Int) {q : RV} (hs : vs n = some q) (hp : p = 0 ∨ ((p != 0) = true ∧ (bits .and .i64 q.1 p == 0) = false)) (hb : q.2.1.length < o + k) :
    Calls Try.prog 44 #[.pointer (some ⟨bx, 0, none⟩), .int .u64 (addr n o), .int .i64 (k : Int), .int .i64 p] w (AtPost w (.pointer none) 0 22) := by
  obtain ⟨h0, hm⟩ := h.range n q hs
  have hmd := h.made_le
  have hn : n ≤ 4294967295 := by omega
  obtain ⟨b0, b1, b2, b3⟩ := addr_bd hn ho
  have ha := and_off n o hn ho
  obtain ⟨A, c, rfl, hc⟩ := h.row_form
  obtain ⟨g, rfl, cn⟩ := hc n h0 hm
  have c0 : w.cell? ⟨bx, 0, none⟩ = some (.slice (some ⟨g, 0, none⟩) made c) := h.head.cell 0
  have d0 : w.cell? ⟨rb n, 0, none⟩ = some (.slice (some ⟨gb n, 0, none⟩) q.2.1.length q.2.1.length) := (h.live n q hs).cell 0
  have d1 : w.cell? ⟨rb n, 1, none⟩ = some (.int .i64 q.1) := (h.live n q hs).cell 1
  have hl := (h.sized n q hs).2.1
  clear h hc hs
  generalize rb n = r at *
  generalize gb n = gg at *
  obtain ⟨qp, qb, qr⟩ := q
  simp only at *
  generalize qb.length = l at *
  generalize addr n o = a at *
  clear b3
  have g1 : decide ((n : Int) < 1) = false := by simp; omega
  have g2 : decide (made < n) = false := by simp; omega
  have hw : IntKind.i64.wrap (n : Int) = (n : Int) := IntWalk.i64_in _ (by omega)
  have i1 : (0 : Int) ≤ (n : Int) - 1 := by omega
  have i2 : (n : Int) - 1 < (made : Int) := by omega
  have i3 : ((n : Int) - 1).toNat = n - 1 := by omega
  have hq := fun (w : World) a n c => Lib.run_eql_slice_nil (P := Try.prog) w 73 5 a n c 0 0 Try.underlying73
  have ho' : IntKind.i64.wrap (o : Int) = (o : Int) := IntWalk.i64_in _ (by omega)
  have hok : IntKind.i64.wrap ((o : Int) + (k : Int)) = (o : Int) + (k : Int) := IntWalk.i64_in _ (by omega)
  have g3 : decide ((l : Int) < (o : Int) + (k : Int)) = true := by simp; omega
  rcases hp with rfl | ⟨hp, hp2⟩
  all_goals
    go_enter Try.func44, Try.ntmps44
    go_wp2_with fail
    go_ret3
    exact ⟨rfl, rfl⟩
set_option maxRecDepth 100000 in
theorem at_ok (h : RM w T bx made fail vs rb gb lv) (n o : Nat) (ho : o ≤ 4294967295) (k : Nat) (hk : k ≤ 1048576) (p : Int) {q : RV} (hs : vs n = some q) (hp : p = 0 ∨ ((p != 0) = true ∧ (bits .and .i64 q.1 p == 0) = false)) (hb : o + k ≤ q.2.1.length) :
    Calls Try.prog 44 #[.pointer (some ⟨bx, 0, none⟩), .int .u64 (addr n o), .int .i64 (k : Int), .int .i64 p] w (AtPost w (.pointer (some ⟨rb n, 0, none⟩)) o 0) := by
  obtain ⟨h0, hm⟩ := h.range n q hs
  have hmd := h.made_le
  have hn : n ≤ 4294967295 := by omega
  obtain ⟨b0, b1, b2, b3⟩ := addr_bd hn ho
  have ha := and_off n o hn ho
  obtain ⟨A, c, rfl, hc⟩ := h.row_form
  obtain ⟨g, rfl, cn⟩ := hc n h0 hm
  have c0 : w.cell? ⟨bx, 0, none⟩ = some (.slice (some ⟨g, 0, none⟩) made c) := h.head.cell 0
  have d0 : w.cell? ⟨rb n, 0, none⟩ = some (.slice (some ⟨gb n, 0, none⟩) q.2.1.length q.2.1.length) := (h.live n q hs).cell 0
  have d1 : w.cell? ⟨rb n, 1, none⟩ = some (.int .i64 q.1) := (h.live n q hs).cell 1
  have hl := (h.sized n q hs).2.1
  clear h hc hs
  generalize rb n = r at *
  generalize gb n = gg at *
  obtain ⟨qp, qb, qr⟩ := q
  simp only at *
  generalize qb.length = l at *
  generalize addr n o = a at *
  clear b3
  have g1 : decide ((n : Int) < 1) = false := by simp; omega
  have g2 : decide (made < n) = false := by simp; omega
  have hw : IntKind.i64.wrap (n : Int) = (n : Int) := IntWalk.i64_in _ (by omega)
  have i1 : (0 : Int) ≤ (n : Int) - 1 := by omega
  have i2 : (n : Int) - 1 < (made : Int) := by omega
  have i3 : ((n : Int) - 1).toNat = n - 1 := by omega
  have hq := fun (w : World) a n c => Lib.run_eql_slice_nil (P := Try.prog) w 73 5 a n c 0 0 Try.underlying73
  have ho' : IntKind.i64.wrap (o : Int) = (o : Int) := IntWalk.i64_in _ (by omega)
  have hok : IntKind.i64.wrap ((o : Int) + (k : Int)) = (o : Int) + (k : Int) := IntWalk.i64_in _ (by omega)
  have g3 : decide ((l : Int) < (o : Int) + (k : Int)) = false := by simp; omega
  rcases hp with rfl | ⟨hp, hp2⟩
  all_goals
    go_enter Try.func44, Try.ntmps44
    go_wp2_with fail
    go_ret3
    exact ⟨rfl, rfl⟩
end
theorem wide_yes (n : Int) (hn : n = 1 ∨ n = 2 ∨ n = 4 ∨ n = 8) (w : World) :
    Calls Try.prog 43 #[.int .i64 n] w fun e w' => e = .returned (.bool true) ∧ w = w' := by
  rcases hn with rfl | rfl | rfl | rfl
  all_goals
    go_enter Try.func43, Try.ntmps43
    go_wp2
    go_ret
    exact ⟨rfl, rfl⟩
theorem wide_no (n : Int) (hn : ¬ (n = 1 ∨ n = 2 ∨ n = 4 ∨ n = 8)) (w : World) :
    Calls Try.prog 43 #[.int .i64 n] w fun e w' => e = .returned (.bool false) ∧ w = w' := by
  have h1 : (n == 1) = false := by simp; omega
  have h2 : (n == 2) = false := by simp; omega
  have h4 : (n == 4) = false := by simp; omega
  have h8 : (n == 8) = false := by simp; omega
  go_enter Try.func43, Try.ntmps43
  go_wp2
  go_ret
  exact ⟨rfl, rfl⟩
end Go.Proofs.Ytmbkagjdhpfngaa
