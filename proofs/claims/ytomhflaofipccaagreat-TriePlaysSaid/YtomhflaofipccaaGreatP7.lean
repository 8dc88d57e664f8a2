/-
  The reference's memory as it lies in the heap ('RM'); its first, at, wide. The reference's first and at where there is a region; wide. The reference's Read, Size, SetFail; where Write, Bytes and Put only answer. The reference's Bytes, Put, Write. The reference's Put, Free, Retire. The reference's Grace.
-/
import Derived.Test.YtomhflaofipccaaGreatRegions
import Derived.Laws.Bits64b
import Derived.OwnWalk
import Derived.Laws.Bits64
import Derived.Lib.LazyBuf
namespace Go.Proofs.YtomhflaofipccaaGreat
open Go Go.RowKit Go.Maps
set_option linter.unusedVariables false

/-- How many regions are live. -/
def cnt (vs : Nat → Option RV) (made : Nat) : Nat := ((List.range made).filter fun i => (vs (i + 1)).isSome).length
structure RM (w : World) (T : Nat → Prop) (bx made fail : Nat) (vs : Nat → Option RV) (rb gb : Nat → Nat) (lv : Value) : Prop where
  head : Blk w bx 30 #[lv, .int .i64 (cnt vs made), .int .i64 fail]
  row : w.ownsRow 0 100 1 lv made ((List.range made).map fun i => .pointer (some ⟨rb (i + 1), 0, none⟩))
  range : ∀ n q, vs n = some q → 1 ≤ n ∧ n ≤ made
  live : ∀ n q, vs n = some q → Blk w (rb n) 99 #[.slice (some ⟨gb n, 0, none⟩) q.2.1.length q.2.1.length, .int .i64 q.1, .bool q.2.2]
  bytes : ∀ n q, vs n = some q → Blk w (gb n) 5 (q.2.1.map byteV).toArray
  sized : ∀ n q, vs n = some q → 0 < q.2.1.length ∧ q.2.1.length ≤ 1048576 ∧ 1 ≤ q.1 ∧ q.1 ≤ 3
  dead : ∀ n, 1 ≤ n → n ≤ made → vs n = none → ∃ (p : Int) (ret : Bool), Blk w (rb n) 99 #[.slice none 0 0, .int .i64 p, .bool ret]
  injr : ∀ n m, 1 ≤ n → n ≤ made → 1 ≤ m → m ≤ made → rb n = rb m → n = m
  injg : ∀ n m q q', vs n = some q → vs m = some q' → gb n = gb m → n = m
  tbx : T bx
  trb : ∀ n, 1 ≤ n → n ≤ made → T (rb n)
  tgb : ∀ n q, vs n = some q → T (gb n)
  tlv : ∀ g, lv.ownBlock = some g → T g
  lt : ∀ b, T b → b < w.heap.size
  made_le : made ≤ 4096
  fail_le : fail ≤ 1048576
section
variable {w w' : World} {T U : Nat → Prop} {bx made fail : Nat} {vs : Nat → Option RV} {rb gb : Nat → Nat} {lv : Value}
/-- It stays what it is while other blocks are written and new ones are made. -/
theorem RM.keeps (h : RM w T bx made fail vs rb gb lv) (k : Keeps U w w') (hd : ∀ b, T b → ¬ U b) : RM w' T bx made fail vs rb gb lv where
  head := h.head.keeps k (hd _ h.tbx)
  row := ownsRow_block h.row (fun g hg => k.block g (h.lt g (h.tlv g hg)) (hd g (h.tlv g hg)))
  range := h.range
  live n q hq := (h.live n q hq).keeps k (hd _ (h.trb n (h.range n q hq).1 (h.range n q hq).2))
  bytes n q hq := (h.bytes n q hq).keeps k (hd _ (h.tgb n q hq))
  sized := h.sized
  dead n h1 h2 hn := by
    obtain ⟨p, ret, hb⟩ := h.dead n h1 h2 hn
    exact ⟨p, ret, hb.keeps k (hd _ (h.trb n h1 h2))⟩
  injr := h.injr
  injg := h.injg
  tbx := h.tbx
  trb := h.trb
  tgb := h.tgb
  tlv := h.tlv
  lt b hb := Nat.lt_of_lt_of_le (h.lt b hb) k.size
  made_le := h.made_le
  fail_le := h.fail_le
theorem RM.row_form (h : RM w T bx made fail vs rb gb lv) : ∃ A c, lv = .slice A made c ∧ ∀ n, 1 ≤ n → n ≤ made → ∃ g, A = some ⟨g, 0, none⟩ ∧ w.cell? ⟨g, n - 1, none⟩ = some (.pointer (some ⟨rb n, 0, none⟩)) := by
  obtain ⟨A, c, rfl, hc⟩ := own_form h.row
  refine ⟨A, c, rfl, fun n h1 h2 => ?_⟩
  obtain ⟨g, rfl, hcell⟩ := hc (by omega)
  refine ⟨g, rfl, hcell (n - 1) _ ?_⟩
  simp [show n - 1 < made by omega, show n - 1 + 1 = n by omega]
end
theorem and_off (n o : Nat) (hn : n ≤ 4294967295) (ho : o ≤ 4294967295) : bits .and .u64 (addr n o) 4294967295 = (o : Int) := by
  obtain ⟨h0, h1, h2, h3⟩ := addr_bd hn ho
  obtain ⟨a, ha⟩ := Int.eq_ofNat_of_zero_le h0
  rw [ha] at h1 h3 ⊢
  have := bits_and_u64_nat a 4294967295 (by omega) (by decide)
  rw [show ((4294967295 : Nat) : Int) = 4294967295 from rfl] at this
  rw [this]
  have e : a &&& 4294967295 = a % 4294967296 := Nat.and_two_pow_sub_one_eq_mod a 32
  rw [e]
  omega
section
variable {w : World} {T : Nat → Prop} {bx made fail : Nat} {vs : Nat → Option RV} {rb gb : Nat → Nat} {lv : Value}
theorem first_off (p : Option Addr) (n o : Nat) (hn : n ≤ 4294967295) (ho : o ≤ 4294967295) (h1 : 0 < o) (w : World) :
    Calls Tryz.prog 67 #[.pointer p, .int .u64 (addr n o)] w fun e w' => e = .returned (.pointer none) ∧ w = w' := by
  obtain ⟨b0, b1, b2, b3⟩ := addr_bd hn ho
  have ha := and_off n o hn ho
  have h3 : ((o : Int) != 0) = true := by simp; omega
  generalize addr n o = a at *
  go_enter Tryz.func67, Tryz.ntmps67
  go_wp2_with fail
  go_ret
  exact ⟨rfl, rfl⟩
theorem first_null (h : RM w T bx made fail vs rb gb lv) (n : Nat) (hn : n ≤ 4294967295) (hm : n = 0 ∨ made < n) :
    Calls Tryz.prog 67 #[.pointer (some ⟨bx, 0, none⟩), .int .u64 (addr n 0)] w fun e w' => e = .returned (.pointer none) ∧ w = w' := by
  obtain ⟨b0, b1, b2, b3⟩ := addr_bd hn (show 0 ≤ 4294967295 by omega)
  have ha := and_off n 0 hn (by omega)
  obtain ⟨A, c, rfl, _⟩ := h.row_form
  have c0 : w.cell? ⟨bx, 0, none⟩ = some (.slice A made c) := h.head.cell 0
  have hmd := h.made_le
  clear h
  generalize addr n 0 = a at *
  have b3' : a % 4294967296 = 0 := b3
  have ha' : bits .and .u64 a 4294967295 = 0 := ha
  clear b3 ha
  rcases Nat.eq_zero_or_pos n with h0 | h0
  · subst h0
    have b2' : a / 4294967296 = 0 := b2
    clear b2
    go_enter Tryz.func67, Tryz.ntmps67
    go_wp2_with fail
    go_ret
    exact ⟨rfl, rfl⟩
  · have g1 : decide ((n : Int) < 1) = false := by simp; omega
    have g2 : decide (made < n) = true := by simp; omega
    have hw : IntKind.i64.wrap (n : Int) = (n : Int) := IntWalk.i64_in _ (by omega)
    go_enter Tryz.func67, Tryz.ntmps67
    go_wp2_with fail
    go_ret
    exact ⟨rfl, rfl⟩
end
end Go.Proofs.YtomhflaofipccaaGreat
namespace Go.Proofs.YtomhflaofipccaaGreat
open Go Go.RowKit Go.Maps
set_option linter.unusedVariables false
section
variable {w : World} {T : Nat → Prop} {bx made fail : Nat} {vs : Nat → Option RV} {rb gb : Nat → Nat} {lv : Value}
set_option maxRecDepth 100000 in
theorem first_dead (h : RM w T bx made fail vs rb gb lv) (n : Nat) (h0 : 1 ≤ n) (hm : n ≤ made) (hs : vs n = none) :
    Calls Tryz.prog 67 #[.pointer (some ⟨bx, 0, none⟩), .int .u64 (addr n 0)] w fun e w' => e = .returned (.pointer none) ∧ w = w' := by
  have hmd := h.made_le
  have hn : n ≤ 4294967295 := by omega
  obtain ⟨b0, b1, b2, b3⟩ := addr_bd hn (show 0 ≤ 4294967295 by omega)
  have ha := and_off n 0 hn (by omega)
  obtain ⟨A, c, rfl, hc⟩ := h.row_form
  obtain ⟨g, rfl, cn⟩ := hc n h0 hm
  have c0 : w.cell? ⟨bx, 0, none⟩ = some (.slice (some ⟨g, 0, none⟩) made c) := h.head.cell 0
  obtain ⟨p, ret, hb⟩ := h.dead n h0 hm hs
  have d0 : w.cell? ⟨rb n, 0, none⟩ = some (.slice none 0 0) := hb.cell 0
  clear h hc hb hs
  generalize rb n = r at *
  generalize addr n 0 = a at *
  have b3' : a % 4294967296 = 0 := b3
  have ha' : bits .and .u64 a 4294967295 = 0 := ha
  clear b3 ha
  have g1 : decide ((n : Int) < 1) = false := by simp; omega
  have g2 : decide (made < n) = false := by simp; omega
  have hw : IntKind.i64.wrap (n : Int) = (n : Int) := IntWalk.i64_in _ (by omega)
  have i1 : (0 : Int) ≤ (n : Int) - 1 := by omega
  have i2 : (n : Int) - 1 < (made : Int) := by omega
  have i3 : ((n : Int) - 1).toNat = n - 1 := by omega
  have hq := fun (w : World) a n c => Lib.run_eql_slice_nil (P := Tryz.prog) w 97 5 a n c 0 0 Tryz.underlying97
  go_enter Tryz.func67, Tryz.ntmps67
  go_wp2_with fail
  go_ret
  exact ⟨rfl, rfl⟩
set_option maxRecDepth 100000 in
theorem first_live (h : RM w T bx made fail vs rb gb lv) (n : Nat) {q : RV} (hs : vs n = some q) :
    Calls Tryz.prog 67 #[.pointer (some ⟨bx, 0, none⟩), .int .u64 (addr n 0)] w fun e w' => e = .returned (.pointer (some ⟨rb n, 0, none⟩)) ∧ w = w' := by
  have hmd := h.made_le
  obtain ⟨h0, hm⟩ := h.range n q hs
  have hn : n ≤ 4294967295 := by omega
  obtain ⟨b0, b1, b2, b3⟩ := addr_bd hn (show 0 ≤ 4294967295 by omega)
  have ha := and_off n 0 hn (by omega)
  obtain ⟨A, c, rfl, hc⟩ := h.row_form
  obtain ⟨g, rfl, cn⟩ := hc n h0 hm
  have c0 : w.cell? ⟨bx, 0, none⟩ = some (.slice (some ⟨g, 0, none⟩) made c) := h.head.cell 0
  have d0 : w.cell? ⟨rb n, 0, none⟩ = some (.slice (some ⟨gb n, 0, none⟩) q.2.1.length q.2.1.length) := (h.live n q hs).cell 0
  clear h hc hs
  generalize rb n = r at *
  generalize gb n = gg at *
  generalize q.2.1.length = l at *
  generalize addr n 0 = a at *
  have b3' : a % 4294967296 = 0 := b3
  have ha' : bits .and .u64 a 4294967295 = 0 := ha
  clear b3 ha
  have g1 : decide ((n : Int) < 1) = false := by simp; omega
  have g2 : decide (made < n) = false := by simp; omega
  have hw : IntKind.i64.wrap (n : Int) = (n : Int) := IntWalk.i64_in _ (by omega)
  have i1 : (0 : Int) ≤ (n : Int) - 1 := by omega
  have i2 : (n : Int) - 1 < (made : Int) := by omega
  have i3 : ((n : Int) - 1).toNat = n - 1 := by omega
  have hq := fun (w : World) a n c => Lib.run_eql_slice_nil (P := Tryz.prog) w 97 5 a n c 0 0 Tryz.underlying97
  go_enter Tryz.func67, Tryz.ntmps67
  go_wp2_with fail
  go_ret
  exact ⟨rfl, rfl⟩
def AtPost (w : World) (v : Value) (o z : Int) (e : Ending) (w' : World) : Prop := e = .returned (.tuple #[v, .int .i64 o, .int .i64 z]) ∧ w = w'
set_option maxRecDepth 100000 in
theorem at_null (h : RM w T bx made fail vs rb gb lv) (n o : Nat) (hn : n ≤ 4294967295) (ho : o ≤ 4294967295) (k p : Int) (hm : n = 0 ∨ made < n) :
    Calls Tryz.prog 62 #[.pointer (some ⟨bx, 0, none⟩), .int .u64 (addr n o), .int .i64 k, .int .i64 p] w (AtPost w (.pointer none) 0 20) := by
  obtain ⟨b0, b1, b2, b3⟩ := addr_bd hn ho
  obtain ⟨A, c, rfl, _⟩ := h.row_form
  have c0 : w.cell? ⟨bx, 0, none⟩ = some (.slice A made c) := h.head.cell 0
  have hmd := h.made_le
  clear h b3
  generalize addr n o = a at *
  rcases Nat.eq_zero_or_pos n with h0 | h0
  · subst h0
    have b2' : a / 4294967296 = 0 := b2
    clear b2
    go_enter Tryz.func62, Tryz.ntmps62
    go_wp2_with fail
    go_ret3
    exact ⟨rfl, rfl⟩
  · have g1 : decide ((n : Int) < 1) = false := by simp; omega
    have g2 : decide (made < n) = true := by simp; omega
    have hw : IntKind.i64.wrap (n : Int) = (n : Int) := IntWalk.i64_in _ (by omega)
    go_enter Tryz.func62, Tryz.ntmps62
    go_wp2_with fail
    go_ret3
    exact ⟨rfl, rfl⟩
set_option maxRecDepth 100000 in
theorem at_freed (h : RM w T bx made fail vs rb gb lv) (n o : Nat) (ho : o ≤ 4294967295) (k p : Int) (h0 : 1 ≤ n) (hm : n ≤ made) (hs : vs n = none) :
    Calls Tryz.prog 62 #[.pointer (some ⟨bx, 0, none⟩), .int .u64 (addr n o), .int .i64 k, .int .i64 p] w (AtPost w (.pointer none) 0 21) := by
  have hmd := h.made_le
  have hn : n ≤ 4294967295 := by omega
  obtain ⟨b0, b1, b2, b3⟩ := addr_bd hn ho
  have ha := and_off n o hn ho
  obtain ⟨A, c, rfl, hc⟩ := h.row_form
  obtain ⟨g, rfl, cn⟩ := hc n h0 hm
  have c0 : w.cell? ⟨bx, 0, none⟩ = some (.slice (some ⟨g, 0, none⟩) made c) := h.head.cell 0
  obtain ⟨p', ret, hb⟩ := h.dead n h0 hm hs
  have d0 : w.cell? ⟨rb n, 0, none⟩ = some (.slice none 0 0) := hb.cell 0
  clear h hc hb hs
  generalize rb n = r at *
  generalize addr n o = a at *
  clear b3
  have g1 : decide ((n : Int) < 1) = false := by simp; omega
  have g2 : decide (made < n) = false := by simp; omega
  have hw : IntKind.i64.wrap (n : Int) = (n : Int) := IntWalk.i64_in _ (by omega)
  have i1 : (0 : Int) ≤ (n : Int) - 1 := by omega
  have i2 : (n : Int) - 1 < (made : Int) := by omega
  have i3 : ((n : Int) - 1).toNat = n - 1 := by omega
  have hq := fun (w : World) a n c => Lib.run_eql_slice_nil (P := Tryz.prog) w 97 5 a n c 0 0 Tryz.underlying97
  go_enter Tryz.func62, Tryz.ntmps62
  go_wp2_with fail
  go_ret3
  exact ⟨rfl, rfl⟩
set_option maxRecDepth 100000 in
theorem at_perm (h : RM w T bx made fail vs rb gb lv) (n o : Nat) (ho : o ≤ 4294967295) (k p : Int) {q : RV} (hs : vs n = some q) (hp : (p != 0) = true) (hp2 : (bits .and .i64 q.1 p == 0) = true) :
    Calls Tryz.prog 62 #[.pointer (some ⟨bx, 0, none⟩), .int .u64 (addr n o), .int .i64 k, .int .i64 p] w (AtPost w (.pointer none) 0 23) := by
  obtain ⟨h0, hm⟩ := h.range n q hs
  have hmd := h.made_le
  have hn : n ≤ 4294967295 := by omega
  obtain ⟨b0, b1, b2, b3⟩ := addr_bd hn ho
  have ha := and_off n o hn ho
  obtain ⟨A, c, rfl, hc⟩ := h.row_form
  obtain ⟨g, rfl, cn⟩ := hc n h0 hm
  have c0 : w.cell? ⟨bx, 0, none⟩ = some (.slice (some ⟨g, 0, none⟩) made c) := h.head.cell 0
  have d0 : w.cell? ⟨rb n, 0, none⟩ = some (.slice (some ⟨gb n, 0, none⟩) q.2.1.length q.2.1.length) := (h.live n q hs).cell 0
  have d1 : w.cell? ⟨rb n, 1, none⟩ = some (.int .i64 q.1) := (h.live n q hs).cell 1
  have hl := (h.sized n q hs).2.1
  clear h hc hs
  generalize rb n = r at *
  generalize gb n = gg at *
  obtain ⟨qp, qb, qr⟩ := q
  simp only at *
  generalize qb.length = l at *
  generalize addr n o = a at *
  clear b3
  have g1 : decide ((n : Int) < 1) = false := by simp; omega
  have g2 : decide (made < n) = false := by simp; omega
  have hw : IntKind.i64.wrap (n : Int) = (n : Int) := IntWalk.i64_in _ (by omega)
  have i1 : (0 : Int) ≤ (n : Int) - 1 := by omega
  have i2 : (n : Int) - 1 < (made : Int) := by omega
  have i3 : ((n : Int) - 1).toNat = n - 1 := by omega
  have hq := fun (w : World) a n c => Lib.run_eql_slice_nil (P := Tryz.prog) w 97 5 a n c 0 0 Tryz.underlying97
  go_enter Tryz.func62, Tryz.ntmps62
  go_wp2_with fail
  go_ret3
  exact ⟨rfl, rfl⟩
set_option maxRecDepth 100000 in
theorem at_bound (h : RM w T bx made fail vs rb gb lv) (n o : Nat) (ho : o ≤ 4294967295) (k : Nat) (hk : k ≤ 1048576) (p : Int) {q : RV} (hs : vs n = some q) (hp : p = 0 ∨ ((p != 0) = true ∧ (bits .and .i64 q.1 p == 0) = false)) (hb : q.2.1.length < o + k) :
    Calls Tryz.prog 62 #[.pointer (some ⟨bx, 0, none⟩), .int .u64 (addr n o), .int .i64 (k : Int), .int .i64 p] w (AtPost w (.pointer none) 0 22) := by
  obtain ⟨h0, hm⟩ := h.range n q hs
  have hmd := h.made_le
  have hn : n ≤ 4294967295 := by omega
  obtain ⟨b0, b1, b2, b3⟩ := addr_bd hn ho
  have ha := and_off n o hn ho
  obtain ⟨A, c, rfl, hc⟩ := h.row_form
  obtain ⟨g, rfl, cn⟩ := hc n h0 hm
  have c0 : w.cell? ⟨bx, 0, none⟩ = some (.slice (some ⟨g, 0, none⟩) made c) := h.head.cell 0
  have d0 : w.cell? ⟨rb n, 0, none⟩ = some (.slice (some ⟨gb n, 0, none⟩) q.2.1.length q.2.1.length) := (h.live n q hs).cell 0
  have d1 : w.cell? ⟨rb n, 1, none⟩ = some (.int .i64 q.1) := (h.live n q hs).cell 1
  have hl := (h.sized n q hs).2.1
  clear h hc hs
  generalize rb n = r at *
  generalize gb n = gg at *
  obtain ⟨qp, qb, qr⟩ := q
  simp only at *
  generalize qb.length = l at *
  generalize addr n o = a at *
  clear b3
  have g1 : decide ((n : Int) < 1) = false := by simp; omega
  have g2 : decide (made < n) = false := by simp; omega
  have hw : IntKind.i64.wrap (n : Int) = (n : Int) := IntWalk.i64_in _ (by omega)
  have i1 : (0 : Int) ≤ (n : Int) - 1 := by omega
  have i2 : (n : Int) - 1 < (made : Int) := by omega
  have i3 : ((n : Int) - 1).toNat = n - 1 := by omega
  have hq := fun (w : World) a n c => Lib.run_eql_slice_nil (P := Tryz.prog) w 97 5 a n c 0 0 Tryz.underlying97
  have ho' : IntKind.i64.wrap (o : Int) = (o : Int) := IntWalk.i64_in _ (by omega)
  have hok : IntKind.i64.wrap ((o : Int) + (k : Int)) = (o : Int) + (k : Int) := IntWalk.i64_in _ (by omega)
  have g3 : decide ((l : Int) < (o : Int) + (k : Int)) = true := by simp; omega
  rcases hp with rfl | ⟨hp, hp2⟩
  all_goals
    go_enter Tryz.func62, Tryz.ntmps62
    go_wp2_with fail
    go_ret3
    exact ⟨rfl, rfl⟩
set_option maxRecDepth 100000 in
theorem at_ok (h : RM w T bx made fail vs rb gb lv) (n o : Nat) (ho : o ≤ 4294967295) (k : Nat) (hk : k ≤ 1048576) (p : Int) {q : RV} (hs : vs n = some q) (hp : p = 0 ∨ ((p != 0) = true ∧ (bits .and .i64 q.1 p == 0) = false)) (hb : o + k ≤ q.2.1.length) :
    Calls Tryz.prog 62 #[.pointer (some ⟨bx, 0, none⟩), .int .u64 (addr n o), .int .i64 (k : Int), .int .i64 p] w (AtPost w (.pointer (some ⟨rb n, 0, none⟩)) o 0) := by
  obtain ⟨h0, hm⟩ := h.range n q hs
  have hmd := h.made_le
  have hn : n ≤ 4294967295 := by omega
  obtain ⟨b0, b1, b2, b3⟩ := addr_bd hn ho
  have ha := and_off n o hn ho
  obtain ⟨A, c, rfl, hc⟩ := h.row_form
  obtain ⟨g, rfl, cn⟩ := hc n h0 hm
  have c0 : w.cell? ⟨bx, 0, none⟩ = some (.slice (some ⟨g, 0, none⟩) made c) := h.head.cell 0
  have d0 : w.cell? ⟨rb n, 0, none⟩ = some (.slice (some ⟨gb n, 0, none⟩) q.2.1.length q.2.1.length) := (h.live n q hs).cell 0
  have d1 : w.cell? ⟨rb n, 1, none⟩ = some (.int .i64 q.1) := (h.live n q hs).cell 1
  have hl := (h.sized n q hs).2.1
  clear h hc hs
  generalize rb n = r at *
  generalize gb n = gg at *
  obtain ⟨qp, qb, qr⟩ := q
  simp only at *
  generalize qb.length = l at *
  generalize addr n o = a at *
  clear b3
  have g1 : decide ((n : Int) < 1) = false := by simp; omega
  have g2 : decide (made < n) = false := by simp; omega
  have hw : IntKind.i64.wrap (n : Int) = (n : Int) := IntWalk.i64_in _ (by omega)
  have i1 : (0 : Int) ≤ (n : Int) - 1 := by omega
  have i2 : (n : Int) - 1 < (made : Int) := by omega
  have i3 : ((n : Int) - 1).toNat = n - 1 := by omega
  have hq := fun (w : World) a n c => Lib.run_eql_slice_nil (P := Tryz.prog) w 97 5 a n c 0 0 Tryz.underlying97
  have ho' : IntKind.i64.wrap (o : Int) = (o : Int) := IntWalk.i64_in _ (by omega)
  have hok : IntKind.i64.wrap ((o : Int) + (k : Int)) = (o : Int) + (k : Int) := IntWalk.i64_in _ (by omega)
  have g3 : decide ((l : Int) < (o : Int) + (k : Int)) = false := by simp; omega
  rcases hp with rfl | ⟨hp, hp2⟩
  all_goals
    go_enter Tryz.func62, Tryz.ntmps62
    go_wp2_with fail
    go_ret3
    exact ⟨rfl, rfl⟩
end
end Go.Proofs.YtomhflaofipccaaGreat
namespace Go.Proofs.YtomhflaofipccaaGreat
open Go Go.RowKit Go.Maps
set_option linter.unusedVariables false
section
variable {w : World} {T : Nat → Prop} {bx made fail : Nat} {vs : Nat → Option RV} {rb gb : Nat → Nat} {lv : Value}
theorem or_step (N b : Nat) (hN : N < 72057594037927936) (hb : b < 256) : bits .or .u64 ((N : Int) * 256) (b : Int) = ((b + 256 * N : Nat) : Int) := by
  have h1 : N * 256 < 18446744073709551616 := by omega
  have h2 : b < 18446744073709551616 := by omega
  have h3 := bits_or_u64_nat (N * 256) b h1 h2
  have e : (N * 256) ||| b = N * 256 + b := by
    have := Nat.shiftLeft_add_eq_or_of_lt (show b < 2 ^ 8 from hb) N
    rw [Nat.shiftLeft_eq] at this
    exact this.symm
  rw [e] at h3
  rw [show ((N : Int) * 256) = ((N * 256 : Nat) : Int) from rfl, h3, show N * 256 + b = b + 256 * N by omega]
theorem xfail_arg (p : Addr) (n : Int) (hn : n < 0 ∨ 1048576 < n) (w : World) :
    Calls Tryz.prog 8 #[.pointer (some p), .int .i64 n] w fun e w' => e = .returned (.int .i64 1) ∧ w = w' := by
  by_cases h : n < 0
  · clear hn
    go_enter Tryz.func8, Tryz.ntmps8
    go_wp2
    go_ret
    exact ⟨rfl, rfl⟩
  · have h2 : 1048576 < n := by omega
    clear hn
    go_enter Tryz.func8, Tryz.ntmps8
    go_wp2
    go_ret
    exact ⟨rfl, rfl⟩
theorem xfail_ok (h : RM w T bx made fail vs rb gb lv) (n : Nat) (hn : n ≤ 1048576) :
    Calls Tryz.prog 8 #[.pointer (some ⟨bx, 0, none⟩), .int .i64 (n : Int)] w fun e w' => e = .returned (.int .i64 0) ∧ RM w' T bx made n vs rb gb lv ∧ Keeps T w w' := by
  have K : Keeps (fun b => b = bx) w (w.setCell ⟨bx, 2, none⟩ (.int .i64 (n : Int))) := Keeps.setCell (S := fun b => b = bx) (p := ⟨bx, 2, none⟩) (Keeps.refl _ w) (.inl rfl) _
  have HE := Lib.hid (show RM (w.setCell ⟨bx, 2, none⟩ (.int .i64 (n : Int))) T bx made n vs rb gb lv ∧ Keeps T w (w.setCell ⟨bx, 2, none⟩ (.int .i64 (n : Int))) from
    ⟨{ head := by have := h.head.set_ 2 (.int .i64 (n : Int)); simpa using this
       row := ownsRow_block h.row (fun g hg => Below.heap_setCell w _ _ g (by
         intro e0
         rcases h.row.2 with ⟨e, _⟩ | ⟨g', _, cur, e, _, hb, _⟩
         · rw [e] at hg; cases hg
         · have e' : g' = g := by rw [e] at hg; simpa [Value.ownBlock] using hg
           have e2 : g' = bx := e'.trans e0
           rw [e2] at hb
           exact Blk.ne_ (show Blk w bx _ cur from hb) h.head (by decide) rfl))
       range := h.range
       live := fun m q hq => (h.live m q hq).far (p := ⟨bx, 2, none⟩) (Blk.ne_ (h.live m q hq) h.head (by decide)) _
       bytes := fun m q hq => (h.bytes m q hq).far (p := ⟨bx, 2, none⟩) (Blk.ne_ (h.bytes m q hq) h.head (by decide)) _
       sized := h.sized
       dead := fun m h1 h2 h3 => by
         obtain ⟨p, ret, hb⟩ := h.dead m h1 h2 h3
         exact ⟨p, ret, hb.far (p := ⟨bx, 2, none⟩) (Blk.ne_ hb h.head (by decide)) _⟩
       injr := h.injr
       injg := h.injg
       tbx := h.tbx
       trb := h.trb
       tgb := h.tgb
       tlv := h.tlv
       lt := fun b hb => Nat.lt_of_lt_of_le (h.lt b hb) K.size
       made_le := h.made_le
       fail_le := hn }, K.mono (fun b e => e ▸ h.tbx)⟩)
  have c2 : w.cell? ⟨bx, 2, none⟩ = some (.int .i64 (fail : Int)) := h.head.cell 2
  have f2 : w.frozen? ⟨bx, 2, none⟩ = false := h.head.frozen 2
  clear h K
  go_enter Tryz.func8, Tryz.ntmps8
  go_wp2
  go_ret
  exact ⟨rfl, HE.out⟩
end
end Go.Proofs.YtomhflaofipccaaGreat
namespace Go.Proofs.YtomhflaofipccaaGreat
open Go Go.RowKit Go.Maps
set_option linter.unusedVariables false
def updv (vs : Nat → Option RV) (n : Nat) (r : Option RV) : Nat → Option RV := fun k => if k = n then r else vs k
theorem updv_same (vs : Nat → Option RV) (n : Nat) (r : Option RV) : updv vs n r n = r := by simp [updv]
theorem updv_other (vs : Nat → Option RV) {n k : Nat} (r : Option RV) (h : k ≠ n) : updv vs n r k = vs k := by simp [updv, h]
theorem cnt_congr {vs vs' : Nat → Option RV} {made : Nat} (h : ∀ n, 1 ≤ n → n ≤ made → (vs n).isSome = (vs' n).isSome) : cnt vs made = cnt vs' made := by
  unfold cnt
  congr 1
  apply List.filter_congr
  intro i hi
  exact h (i + 1) (by omega) (by have := List.mem_range.1 hi; omega)
section
variable {w w1 w2 : World} {T : Nat → Prop} {bx made fail : Nat} {vs : Nat → Option RV} {rb gb : Nat → Nat} {lv : Value}
theorem RM.gb_ne (h : RM w T bx made fail vs rb gb lv) {n : Nat} {q : RV} (hs : vs n = some q) {t : TypeId} {x : Nat} {cs : Array Value} (hx : Blk w x t cs) (ht : t ≠ 5) : x ≠ gb n := Blk.ne_ hx (h.bytes n q hs) ht
theorem RM.lv_ne (h : RM w T bx made fail vs rb gb lv) {t : TypeId} {x : Nat} {cs : Array Value} (hx : Blk w x t cs) (ht : t ≠ 100) : lv.ownBlock ≠ some x := by
  intro e
  rcases h.row.2 with ⟨e1, _⟩ | ⟨g', _, cur, e1, _, hb, _⟩
  · rw [e1] at e; cases e
  · have e' : g' = x := by rw [e1] at e; simpa [Value.ownBlock] using e
    subst e'
    exact Blk.ne_ hx (show Blk w g' _ cur from hb) ht rfl
/-- Other bytes in a region. -/
theorem RM.write (h : RM w T bx made fail vs rb gb lv) {n : Nat} {q : RV} (hs : vs n = some q) {ys : List UInt8} (k : Keeps (fun b => b = gb n) w w2) (hb : Blk w2 (gb n) 5 (ys.map byteV).toArray) (hl : ys.length = q.2.1.length) :
    RM w2 T bx made fail (updv vs n (some (q.1, ys, q.2.2))) rb gb lv ∧ Keeps T w w2 := by
  have sub : ∀ m p, updv vs n (some (q.1, ys, q.2.2)) m = some p → m = n ∧ p = (q.1, ys, q.2.2) ∨ m ≠ n ∧ vs m = some p := by
    intro m p hp
    by_cases e : m = n
    · subst e; rw [updv_same] at hp; cases hp; exact .inl ⟨rfl, rfl⟩
    · rw [updv_other _ _ e] at hp; exact .inr ⟨e, hp⟩
  have ec : cnt (updv vs n (some (q.1, ys, q.2.2))) made = cnt vs made := cnt_congr fun m _ _ => by
    by_cases e : m = n
    · subst e; rw [updv_same, hs]; rfl
    · rw [updv_other _ _ e]
  refine ⟨{ head := by rw [ec]; exact h.head.keeps k (h.gb_ne hs h.head (by decide)), row := ownsRow_block h.row (fun g hg => k.block g (h.lt g (h.tlv g hg)) (fun e => h.lv_ne (h.bytes n q hs) (by decide) (by rw [hg, e]))),
            range := ?_, live := ?_, bytes := ?_, sized := ?_, dead := ?_, injr := h.injr, injg := ?_, tbx := h.tbx, trb := h.trb, tgb := ?_, tlv := h.tlv, lt := fun b hb => Nat.lt_of_lt_of_le (h.lt b hb) k.size, made_le := h.made_le, fail_le := h.fail_le }, k.mono (fun b e => e ▸ h.tgb n q hs)⟩
  · intro m p hp
    rcases sub m p hp with ⟨rfl, _⟩ | ⟨_, h1⟩
    · exact h.range m q hs
    · exact h.range m p h1
  · intro m p hp
    rcases sub m p hp with ⟨rfl, rfl⟩ | ⟨_, h1⟩
    · have := (h.live m q hs).keeps k (h.gb_ne hs (h.live m q hs) (by decide))
      simp only [hl]
      exact this
    · exact (h.live m p h1).keeps k (h.gb_ne hs (h.live m p h1) (by decide))
  · intro m p hp
    rcases sub m p hp with ⟨rfl, rfl⟩ | ⟨hne, h1⟩
    · exact hb
    · exact (h.bytes m p h1).keeps k (fun e => hne (h.injg m n p q h1 hs e))
  · intro m p hp
    rcases sub m p hp with ⟨rfl, rfl⟩ | ⟨_, h1⟩
    · have := h.sized m q hs
      simp only [hl]
      exact this
    · exact h.sized m p h1
  · intro m h1 h2 h3
    by_cases e : m = n
    · subst e; rw [updv_same] at h3; cases h3
    · rw [updv_other _ _ e] at h3
      obtain ⟨p, ret, hd⟩ := h.dead m h1 h2 h3
      exact ⟨p, ret, hd.keeps k (h.gb_ne hs hd (by decide))⟩
  · intro m m' p p' hp hp' e
    have f : ∀ m p, updv vs n (some (q.1, ys, q.2.2)) m = some p → ∃ p0, vs m = some p0 := fun m p hp => by
      rcases sub m p hp with ⟨rfl, _⟩ | ⟨_, h1⟩
      · exact ⟨q, hs⟩
      · exact ⟨p, h1⟩
    obtain ⟨p0, e0⟩ := f m p hp
    obtain ⟨p1, e1⟩ := f m' p' hp'
    exact h.injg m m' p0 p1 e0 e1 e
  · intro m p hp
    rcases sub m p hp with ⟨rfl, _⟩ | ⟨_, h1⟩
    · exact h.tgb m q hs
    · exact h.tgb m p h1
theorem conv_win (w' : World) (g o k : Nat) (xs : List UInt8) (hb : o + k ≤ xs.length) (A : Addr) (hA : 0 < k → A = ⟨g, o, none⟩) (hc : ∀ j, w'.cell? ⟨g, j, none⟩ = (xs.map byteV)[j]?) (k' : Nat) (hk' : k' = k) (c : Nat) (hcc : c = xs.length - o) :
      (convert 97 9 (.slice (some A) k' c)).run Tryz.prog w' = .ok (.string (bstr ((xs.drop o).take k))) w' := by
  subst hk'
  subst hcc
  rcases Nat.eq_zero_or_pos k' with h0 | h0
  · subst h0
    have := run_convert_bytes_zero (P := Tryz.prog) w' 97 5 Tryz.underlying97 Tryz.underlying5 (some A) (xs.length - o) 9 Tryz.underlying9
    rw [this]; rfl
  · obtain rfl := hA h0
    have := Lib.run_convert_window (P := Tryz.prog) w' 97 5 9 Tryz.underlying97 Tryz.underlying5 Tryz.underlying9 g 0 (bstr xs) (fun i hi => by
      have hi' : i < xs.length := by rw [← bstr_size]; exact hi
      rw [hc, List.getElem?_map, Nat.zero_add, List.getElem?_eq_getElem hi']
      rfl) o k' (xs.length - o) (by rw [bstr_size]; exact hb)
    rw [Nat.zero_add, bstr_extract] at this
    exact this
theorem xput_arg (p : Addr) (a : Int) (s : ByteArray) (hs : 1048576 < s.size) (hm : s.size ≤ maxLen) (w : World) :
    Calls Tryz.prog 37 #[.pointer (some p), .int .u64 a, .string s] w fun e w' => e = .returned (.int .i64 1) ∧ w = w' := by
  unfold maxLen at hm
  have h1 : decide (1048576 < (s.size : Int)) = true := by simp; omega
  go_enter Tryz.func37, Tryz.ntmps37
  go_wp2_with fail
  go_ret
  exact ⟨rfl, rfl⟩
theorem xput_fault (p : Addr) (a z : Int) (s : ByteArray) (hs : s.size ≤ 1048576) (hz : (z != 0) = true) (w : World)
    (hf : Calls Tryz.prog 62 #[.pointer (some p), .int .u64 a, .int .i64 (s.size : Int), .int .i64 0] w (AtPost w (.pointer none) 0 z)) :
    Calls Tryz.prog 37 #[.pointer (some p), .int .u64 a, .string s] w fun e w' => e = .returned (.int .i64 z) ∧ w = w' := by
  have h1 : decide (1048576 < (s.size : Int)) = false := by simp; omega
  go_enter Tryz.func37, Tryz.ntmps37
  go_wp2_with (go_at_call 62; refine hf.mono ?_; rintro e w' ⟨rfl, rfl⟩)
  go_ret
  exact ⟨rfl, rfl⟩
end
end Go.Proofs.YtomhflaofipccaaGreat
namespace Go.Proofs.YtomhflaofipccaaGreat
open Go Go.RowKit Go.Maps
set_option linter.unusedVariables false
theorem cnt_succ (vs : Nat → Option RV) (m : Nat) : cnt vs (m + 1) = cnt vs m + (if (vs (m + 1)).isSome then 1 else 0) := by
  unfold cnt
  rw [List.range_succ, List.filter_append, List.length_append]
  congr 1
  by_cases h : (vs (m + 1)).isSome <;> simp [h]
theorem cnt_none {vs : Nat → Option RV} {n : Nat} (h1 : 1 ≤ n) (hs : (vs n).isSome = true) : ∀ made, n ≤ made → cnt (updv vs n none) made + 1 = cnt vs made
  | 0, h => by omega
  | m + 1, h => by
    rw [cnt_succ, cnt_succ]
    by_cases e : n = m + 1
    · subst e
      rw [updv_same, hs, cnt_congr (vs := updv vs (m + 1) none) (vs' := vs) (fun k _ hk => by rw [updv_other _ _ (by omega)])]
      rfl
    · rw [updv_other _ _ (fun e' => e e'.symm)]
      have := cnt_none h1 hs m (by omega)
      omega
theorem cnt_le (vs : Nat → Option RV) (made : Nat) : cnt vs made ≤ made := by
  unfold cnt
  exact Nat.le_trans (List.length_filter_le _ _) (by simp)
section
variable {w w1 w2 : World} {T : Nat → Prop} {bx made fail : Nat} {vs : Nat → Option RV} {rb gb : Nat → Nat} {lv : Value}
/-- One region's struct and the head turn. -/
theorem RM.put (h : RM w T bx made fail vs rb gb lv) {n : Nat} {r' : Option RV} (h1 : 1 ≤ n) (hm : n ≤ made) (k : Keeps (fun b => b = rb n ∨ b = bx) w w2) (hh : Blk w2 bx 30 #[lv, .int .i64 (cnt (updv vs n r') made), .int .i64 fail])
    (hsome : ∀ q', r' = some q' → ∃ q, vs n = some q ∧ q'.1 = q.1 ∧ q'.2.1 = q.2.1 ∧ Blk w2 (rb n) 99 #[.slice (some ⟨gb n, 0, none⟩) q.2.1.length q.2.1.length, .int .i64 q.1, .bool q'.2.2])
    (hnone : r' = none → ∃ (p : Int) (ret : Bool), Blk w2 (rb n) 99 #[.slice none 0 0, .int .i64 p, .bool ret]) :
    RM w2 T bx made fail (updv vs n r') rb gb lv ∧ Keeps T w w2 := by
  have hR : ∃ cs, Blk w (rb n) 99 cs := by
    rcases hs : vs n with _ | q
    · obtain ⟨p, ret, hb⟩ := h.dead n h1 hm hs; exact ⟨_, hb⟩
    · exact ⟨_, h.live n q hs⟩
  obtain ⟨cs, hR⟩ := hR
  have notg : ∀ {x : Nat} {t : TypeId} {cs : Array Value}, Blk w x t cs → t ≠ 99 → t ≠ 30 → ¬ (x = rb n ∨ x = bx) := by
    rintro x t cs hx ht1 ht2 (e | e)
    · exact Blk.ne_ hx hR ht1 e
    · exact Blk.ne_ hx h.head ht2 e
  have notr : ∀ {m : Nat} {cs : Array Value}, 1 ≤ m → m ≤ made → m ≠ n → Blk w (rb m) 99 cs → ¬ (rb m = rb n ∨ rb m = bx) := by
    rintro m cs a1 a2 hne hx (e | e)
    · exact hne (h.injr m n a1 a2 h1 hm e)
    · exact Blk.ne_ hx h.head (by decide) e
  have sub : ∀ m p, updv vs n r' m = some p → m = n ∧ r' = some p ∨ m ≠ n ∧ vs m = some p := by
    intro m p hp
    by_cases e : m = n
    · subst e; rw [updv_same] at hp; exact .inl ⟨rfl, hp⟩
    · rw [updv_other _ _ e] at hp; exact .inr ⟨e, hp⟩
  have sub2 : ∀ m p, updv vs n r' m = some p → ∃ p0, vs m = some p0 := fun m p hp => by
    rcases sub m p hp with ⟨rfl, e⟩ | ⟨_, e⟩
    · obtain ⟨q, hq, _⟩ := hsome p e; exact ⟨q, hq⟩
    · exact ⟨p, e⟩
  refine ⟨{ head := hh, row := ownsRow_block h.row (fun g hg => k.block g (h.lt g (h.tlv g hg)) (by
              rintro (e | e)
              · exact h.lv_ne hR (by decide) (by rw [hg, e])
              · exact h.lv_ne h.head (by decide) (by rw [hg, e]))),
            range := fun m p hp => by obtain ⟨p0, e⟩ := sub2 m p hp; exact h.range m p0 e, live := ?_, bytes := ?_, sized := ?_, dead := ?_, injr := h.injr, injg := ?_, tbx := h.tbx, trb := h.trb,
            tgb := fun m p hp => by obtain ⟨p0, e⟩ := sub2 m p hp; exact h.tgb m p0 e, tlv := h.tlv, lt := fun b hb => Nat.lt_of_lt_of_le (h.lt b hb) k.size, made_le := h.made_le, fail_le := h.fail_le }, k.mono ?_⟩
  · intro m p hp
    rcases sub m p hp with ⟨rfl, e⟩ | ⟨hne, e⟩
    · obtain ⟨q, hq, e1, e2, hb⟩ := hsome p e
      rw [e1, e2]; exact hb
    · exact (h.live m p e).keeps k (notr (h.range m p e).1 (h.range m p e).2 hne (h.live m p e))
  · intro m p hp
    rcases sub m p hp with ⟨rfl, e⟩ | ⟨hne, e⟩
    · obtain ⟨q, hq, e1, e2, hb⟩ := hsome p e
      rw [e2]; exact (h.bytes m q hq).keeps k (notg (h.bytes m q hq) (by decide) (by decide))
    · exact (h.bytes m p e).keeps k (notg (h.bytes m p e) (by decide) (by decide))
  · intro m p hp
    rcases sub m p hp with ⟨rfl, e⟩ | ⟨hne, e⟩
    · obtain ⟨q, hq, e1, e2, hb⟩ := hsome p e
      rw [e1, e2]; exact h.sized m q hq
    · exact h.sized m p e
  · intro m a1 a2 a3
    by_cases e : m = n
    · subst e; rw [updv_same] at a3; exact hnone a3
    · rw [updv_other _ _ e] at a3
      obtain ⟨p, ret, hd⟩ := h.dead m a1 a2 a3
      exact ⟨p, ret, hd.keeps k (notr a1 a2 e hd)⟩
  · intro m m' p p' hp hp' e
    obtain ⟨p0, e0⟩ := sub2 m p hp
    obtain ⟨p1, e1⟩ := sub2 m' p' hp'
    exact h.injg m m' p0 p1 e0 e1 e
  · rintro b (e | e)
    · exact e ▸ h.trb n h1 hm
    · exact e ▸ h.tbx
theorem xput_ok (h : RM w T bx made fail vs rb gb lv) (n o : Nat) (ho : o ≤ 4294967295) (l : List UInt8) (hk : l.length ≤ 1048576) {q : RV} (hs : vs n = some q) (hb : o + l.length ≤ q.2.1.length) :
    Calls Tryz.prog 37 #[.pointer (some ⟨bx, 0, none⟩), .int .u64 (addr n o), .string (bstr l)] w fun e w' =>
      e = .returned (.int .i64 0) ∧ RM w' T bx made fail (updv vs n (some (q.1, setAt q.2.1 o l, q.2.2))) rb gb lv ∧ Keeps T w w' := by
  have hsz : (bstr l).size = l.length := bstr_size l
  have ca := at_ok h n o ho (bstr l).size (by omega) 0 hs (.inl rfl) (by omega)
  have d0 : w.cell? ⟨rb n, 0, none⟩ = some (.slice (some ⟨gb n, 0, none⟩) q.2.1.length q.2.1.length) := (h.live n q hs).cell 0
  have hle := (h.sized n q hs).2.1
  have h1 : decide (1048576 < ((bstr l).size : Int)) = false := by simp; omega
  have hblk := h.bytes n q hs
  have copied : ∃ w2, (∀ ty (A : Addr) (m : Nat), (0 < (bstr l).size → A = ⟨gb n, o, none⟩) → m = q.2.1.length - o → (Builtin.copy_ #[97, 9] ty #[.slice (some A) m (q.2.1.length - o), .string (bstr l)]).run Tryz.prog w = .ok (goInt ((bstr l).size : Int)) w2) ∧
      RM w2 T bx made fail (updv vs n (some (q.1, setAt q.2.1 o l, q.2.2))) rb gb lv ∧ Keeps T w w2 := by
    rcases Nat.eq_zero_or_pos l.length with h0 | h0
    · obtain rfl : l = [] := List.eq_nil_of_length_eq_zero h0
      refine ⟨w, fun ty A m _ _ => ?_, h.write hs (Keeps.refl _ _) (by rw [setAt_nil]; exact hblk) (by rw [setAt_nil])⟩
      exact Lib.run_copy_empty_string w _ _ ty _ _ _ _ _ Tryz.underlying97 (by obtain ⟨i, hi, _⟩ := info_parts info8; rw [hi]; rfl) rfl
    · have e : (setAt q.2.1 o l).map byteV = ((q.2.1.map byteV).toArray.toList.take o ++ Lib.byteCells (bstr l).data.toList ++ (q.2.1.map byteV).toArray.toList.drop (o + (bstr l).size)) := by
        rw [hsz]
        simp only [setAt, List.map_append, List.map_take, List.map_drop]
        rfl
      refine ⟨w.setRow (gb n) ((q.2.1.map byteV).toArray.toList.take o ++ Lib.byteCells (bstr l).data.toList ++ (q.2.1.map byteV).toArray.toList.drop (o + (bstr l).size)).toArray, fun ty A m hA hm => ?_, h.write hs (setRow_keeps _ _ _) (by rw [e]; exact setRow_heap w (gb n) _ _ _ _ hblk) (setAt_length _ _ _ hb)⟩
      obtain rfl := hA (by omega)
      subst hm
      exact Lib.run_copy_row_string (P := Tryz.prog) w 97 9 ty 5 (gb n) o (q.2.1.length - o) (q.2.1.length - o) (bstr l) (q.2.1.map byteV).toArray 5 Tryz.underlying97 size8 hblk (by omega) (by rw [hsz]; simpa using hb)
  obtain ⟨w2, hcp, hres⟩ := copied
  have HRES := Lib.hid hres
  have HCP := Lib.hid hcp
  clear hcp hres h hblk
  generalize q.2.1.length = len at *
  generalize rb n = r at *
  generalize gb n = g at *
  generalize addr n o = a at *
  have HC := Lib.hid ca; clear ca
  have hsm : (bstr l).size ≤ 1048576 := by omega
  have hbb : o + (bstr l).size ≤ len := by omega
  generalize hbs : bstr l = sl at HC HCP hsm hbb h1 ⊢
  clear hbs hsz
  have i0 : (0 : Int) ≤ (o : Int) := by omega
  have i2 : (o : Int) ≤ (len : Int) := by omega
  rcases Nat.lt_or_ge o len with hol | hol
  · have hne : ¬ len = o := by omega
    have hne2 : ¬ o = len := by omega
    have hcp := fun ty => HCP.out ty ⟨g, o, none⟩ (len - o) (fun _ => rfl) rfl
    go_enter Tryz.func37, Tryz.ntmps37
    go_wp2_with (go_at_call 62; refine HC.out.mono ?_; rintro e w' ⟨rfl, rfl⟩)
    go_ret
    exact ⟨rfl, HRES.out⟩
  · have e1 : len = o := by omega
    subst e1
    have e2 : sl.size = 0 := by omega
    have hcp := fun ty => HCP.out ty ⟨g, 0, none⟩ 0 (fun h => absurd h (by omega)) (by omega)
    rw [Nat.sub_self, e2] at hcp
    have hz : Calls Tryz.prog 62 #[.pointer (some ⟨bx, 0, none⟩), .int .u64 a, .int .i64 0, .int .i64 0] w (AtPost w (.pointer (some ⟨r, 0, none⟩)) len 0) := by
      have := HC.out
      rw [e2] at this
      exact this
    have HZ := Lib.hid hz
    have hcp' : ∀ ty, (Builtin.copy_ #[97, 9] ty #[.slice (some ⟨g, 0, none⟩) 0 0, .string sl]).run Tryz.prog w = .ok (goInt 0) w2 := hcp
    clear hcp hz HC HCP
    go_enter Tryz.func37, Tryz.ntmps37
    go_wp2_with (go_at_call 62; refine HZ.out.mono ?_; rintro e w' ⟨rfl, rfl⟩)
    go_ret
    exact ⟨rfl, HRES.out⟩
theorem xfree_arg (p : Option Addr) (a : Int) (w : World)
    (hb : Calls Tryz.prog 67 #[.pointer p, .int .u64 a] w fun e w' => e = .returned (.pointer none) ∧ w = w') :
    Calls Tryz.prog 49 #[.pointer p, .int .u64 a] w fun e w' => e = .returned (.int .i64 1) ∧ w = w' := by
  go_enter Tryz.func49, Tryz.ntmps49
  go_wp2_with (go_at_call 67; refine hb.mono ?_; rintro e w' ⟨rfl, rfl⟩)
  go_ret
  exact ⟨rfl, rfl⟩
theorem xretire_arg (p : Option Addr) (a : Int) (w : World)
    (hb : Calls Tryz.prog 67 #[.pointer p, .int .u64 a] w fun e w' => e = .returned (.pointer none) ∧ w = w') :
    Calls Tryz.prog 41 #[.pointer p, .int .u64 a] w fun e w' => e = .returned (.int .i64 1) ∧ w = w' := by
  go_enter Tryz.func41, Tryz.ntmps41
  go_wp2_with (go_at_call 67; refine hb.mono ?_; rintro e w' ⟨rfl, rfl⟩)
  go_ret
  exact ⟨rfl, rfl⟩
theorem xretire_again (h : RM w T bx made fail vs rb gb lv) (n : Nat) {q : RV} (hs : vs n = some q) (hq : q.2.2 = true) :
    Calls Tryz.prog 41 #[.pointer (some ⟨bx, 0, none⟩), .int .u64 (addr n 0)] w fun e w' => e = .returned (.int .i64 1) ∧ w = w' := by
  have c := Lib.hid (first_live h n hs)
  have d2 : w.cell? ⟨rb n, 2, none⟩ = some (.bool q.2.2) := (h.live n q hs).cell 2
  rw [hq] at d2
  clear h hs hq
  generalize rb n = r at *
  generalize addr n 0 = a at *
  go_enter Tryz.func41, Tryz.ntmps41
  go_wp2_with (go_at_call 67; refine c.out.mono ?_; rintro e w' ⟨rfl, rfl⟩)
  go_ret
  exact ⟨rfl, rfl⟩
theorem xretire_ok (h : RM w T bx made fail vs rb gb lv) (n : Nat) {q : RV} (hs : vs n = some q) (hq : q.2.2 = false) :
    Calls Tryz.prog 41 #[.pointer (some ⟨bx, 0, none⟩), .int .u64 (addr n 0)] w fun e w' => e = .returned (.int .i64 0) ∧ RM w' T bx made fail (updv vs n (some (q.1, q.2.1, true))) rb gb lv ∧ Keeps T w w' := by
  have c := Lib.hid (first_live h n hs)
  have d2 : w.cell? ⟨rb n, 2, none⟩ = some (.bool q.2.2) := (h.live n q hs).cell 2
  rw [hq] at d2
  have f2 := (h.live n q hs).frozen 2
  obtain ⟨a1, a2⟩ := h.range n q hs
  have ec : cnt (updv vs n (some (q.1, q.2.1, true))) made = cnt vs made := cnt_congr fun m _ _ => by
    by_cases e : m = n
    · subst e; rw [updv_same, hs]; rfl
    · rw [updv_other _ _ e]
  have hbr : rb n ≠ bx := Blk.ne_ (h.live n q hs) h.head (by decide)
  have HE := Lib.hid (h.put (n := n) (r' := some (q.1, q.2.1, true)) (w2 := w.setCell ⟨rb n, 2, none⟩ (.bool true)) a1 a2 (Keeps.setCell (p := ⟨rb n, 2, none⟩) (Keeps.refl _ w) (.inl (.inl rfl)) _)
    (by rw [ec]; exact h.head.far (p := ⟨rb n, 2, none⟩) (Ne.symm hbr) _) (fun q' e => by cases e; exact ⟨q, hs, rfl, rfl, by have := (h.live n q hs).set_ 2 (.bool true); simpa using this⟩) (fun e => by cases e))
  clear h hs hq ec hbr
  generalize rb n = r at c d2 f2 HE
  generalize addr n 0 = a at *
  go_enter Tryz.func41, Tryz.ntmps41
  go_wp2_with (go_at_call 67; refine c.out.mono ?_; rintro e w' ⟨rfl, rfl⟩)
  go_ret
  exact ⟨rfl, HE.out⟩
theorem xfree_ok (h : RM w T bx made fail vs rb gb lv) (n : Nat) {q : RV} (hs : vs n = some q) :
    Calls Tryz.prog 49 #[.pointer (some ⟨bx, 0, none⟩), .int .u64 (addr n 0)] w fun e w' => e = .returned (.int .i64 0) ∧ RM w' T bx made fail (updv vs n none) rb gb lv ∧ Keeps T w w' := by
  have c := Lib.hid (first_live h n hs)
  have hR := h.live n q hs
  have d0 := hR.cell 0
  have f0 := hR.frozen 0
  obtain ⟨a1, a2⟩ := h.range n q hs
  have ec := cnt_none (vs := vs) a1 (by rw [hs]; rfl) made a2
  have hcl := cnt_le vs made
  have hmd := h.made_le
  have hbr : rb n ≠ bx := Blk.ne_ hR h.head (by decide)
  have H1 : Blk (w.setCell ⟨rb n, 0, none⟩ (.slice none 0 0)) bx 30 #[lv, .int .i64 (cnt vs made), .int .i64 fail] := h.head.far (p := ⟨rb n, 0, none⟩) (Ne.symm hbr) _
  have R1 : Blk (w.setCell ⟨rb n, 0, none⟩ (.slice none 0 0)) (rb n) 99 #[.slice none 0 0, .int .i64 q.1, .bool q.2.2] := by have := hR.set_ 0 (.slice none 0 0); simpa using this
  have HE := Lib.hid (h.put (n := n) (r' := none) (w2 := (w.setCell ⟨rb n, 0, none⟩ (.slice none 0 0)).setCell ⟨bx, 1, none⟩ (.int .i64 (cnt (updv vs n none) made))) a1 a2
    (Keeps.setCell (p := ⟨bx, 1, none⟩) (Keeps.setCell (p := ⟨rb n, 0, none⟩) (Keeps.refl _ w) (.inl (.inl rfl)) _) (.inl (.inr rfl)) _) (by have := H1.set_ 1 (.int .i64 (cnt (updv vs n none) made)); simpa using this) (fun q' e => by cases e) (fun _ => ⟨q.1, q.2.2, R1.far (p := ⟨bx, 1, none⟩) hbr _⟩))
  have c1 : (w.setCell ⟨rb n, 0, none⟩ (.slice none 0 0)).cell? ⟨bx, 1, none⟩ = some (.int .i64 (cnt vs made)) := H1.cell 1
  have f1 : (w.setCell ⟨rb n, 0, none⟩ (.slice none 0 0)).frozen? ⟨bx, 1, none⟩ = false := H1.frozen 1
  have c1' : w.cell? ⟨bx, 1, none⟩ = some (.int .i64 (cnt vs made)) := h.head.cell 1
  have f1' : w.frozen? ⟨bx, 1, none⟩ = false := h.head.frozen 1
  obtain ⟨C, hC⟩ : ∃ C, C = cnt (updv vs n none) made := ⟨_, rfl⟩
  rw [← hC] at ec HE
  have hsub : ((cnt vs made : Nat) : Int) - 1 = (C : Int) := by omega
  generalize cnt vs made = D at *
  clear h hs H1 R1 hR hC
  generalize rb n = r at c d0 f0 HE hbr c1 f1
  generalize addr n 0 = a at *
  go_enter Tryz.func49, Tryz.ntmps49
  go_wp2_with (go_at_call 67; refine c.out.mono ?_; rintro e w' ⟨rfl, rfl⟩)
  go_ret
  exact ⟨rfl, HE.out⟩
end
end Go.Proofs.YtomhflaofipccaaGreat
namespace Go.Proofs.YtomhflaofipccaaGreat
open Go Go.RowKit Go.Maps
set_option linter.unusedVariables false
/-- What Grace leaves of a region. -/
def keepv : Option RV → Option RV
  | some q => if q.2.2 then none else some q
  | none => none
def gracev (vs : Nat → Option RV) (i : Nat) : Nat → Option RV := fun n => if n ≤ i then keepv (vs n) else vs n
theorem gracev_zero {vs : Nat → Option RV} (h : vs 0 = none) : gracev vs 0 = vs := by
  funext n
  unfold gracev
  split
  · have : n = 0 := by omega
    subst this; rw [h]; rfl
  · rfl
theorem gracev_at (vs : Nat → Option RV) (i : Nat) : gracev vs i (i + 1) = vs (i + 1) := by unfold gracev; rw [if_neg (by omega)]
theorem gracev_succ (vs : Nat → Option RV) (i : Nat) : updv (gracev vs i) (i + 1) (keepv (vs (i + 1))) = gracev vs (i + 1) := by
  funext n
  unfold updv gracev
  by_cases h : n = i + 1
  · subst h; rw [if_pos rfl, if_pos (Nat.le_refl _)]
  · rw [if_neg h]
    by_cases h2 : n ≤ i
    · rw [if_pos h2, if_pos (by omega)]
    · rw [if_neg h2, if_neg (by omega)]
theorem gracev_stay {vs : Nat → Option RV} {i : Nat} (h : keepv (vs (i + 1)) = vs (i + 1)) : gracev vs (i + 1) = gracev vs i := by
  rw [← gracev_succ, h]
  funext n
  unfold updv
  split
  · rename_i e; subst e; exact (gracev_at vs i).symm
  · rfl
section
variable {w w1 w2 : World} {T : Nat → Prop} {bx made fail : Nat} {vs : Nat → Option RV} {rb gb : Nat → Nat} {lv : Value}
set_option maxRecDepth 100000 in
set_option maxHeartbeats 2000000 in
theorem xgrace_any (h : RM w T bx made fail vs rb gb lv) :
    Calls Tryz.prog 18 #[.pointer (some ⟨bx, 0, none⟩)] w fun e w' => e = .returned (.tuple #[]) ∧ RM w' T bx made fail (gracev vs made) rb gb lv ∧ Keeps T w w' := by
  have hv0 : vs 0 = none := by
    rcases hs : vs 0 with _ | q
    · rfl
    · have := (h.range 0 q hs).1; omega
  obtain ⟨A, cv, hlv, _⟩ := h.row_form
  subst hlv
  have hmd := h.made_le
  have HST := Lib.hid (show RM w T bx made fail (gracev vs 0) rb gb (.slice A made cv) from by rw [gracev_zero hv0]; exact h)
  clear h hv0
  go_enter Tryz.func18, Tryz.ntmps18
  go_wp2_with fail
  go_loopw [2] (fun i wr => ∃ k : Nat, k ≤ made ∧ i = .int .i64 k ∧ RM wr T bx made fail (gracev vs k) rb gb (.slice A made cv) ∧ Keeps T w wr) (fun i _ => made - (intOf i).toNat)
  case atStart => exact ⟨0, by omega, rfl, HST.out, Keeps.refl _ _⟩
  case round =>
    clear HST
    obtain ⟨k, hk, rfl, hr, hkk⟩ := hrel
    have c0 : wr.cell? ⟨bx, 0, none⟩ = some (.slice A made cv) := hr.head.cell 0
    have KK := Lib.hid hkk; clear hkk
    by_cases hkm : k < made
    · obtain ⟨A', cv', e, hc⟩ := hr.row_form
      cases e
      obtain ⟨g, rfl, cn⟩ := hc (k + 1) (by omega) (by omega)
      rw [Nat.add_sub_cancel] at cn
      clear hc
      have g1 : decide (k < made) = true := by simpa using hkm
      have i2 : (k : Int) < (made : Int) := by omega
      have hq := fun (w : World) a n c => Lib.run_eql_slice_nil (P := Tryz.prog) w 97 5 a n c 0 0 Tryz.underlying97
      rcases hs : vs (k + 1) with _ | q
      · obtain ⟨p, ret, hd⟩ := hr.dead (k + 1) (by omega) (by omega) (by rw [gracev_at]; exact hs)
        have d2 : wr.cell? ⟨rb (k + 1), 2, none⟩ = some (.bool ret) := hd.cell 2
        have d0 : wr.cell? ⟨rb (k + 1), 0, none⟩ = some (.slice none 0 0) := hd.cell 0
        have HR := Lib.hid (show RM wr T bx made fail (gracev vs (k + 1)) rb gb (.slice (some ⟨g, 0, none⟩) made cv) by rw [gracev_stay (by rw [hs]; rfl)]; exact hr)
        clear hd hr hs
        generalize rb (k + 1) = r at cn d2 d0
        rcases ret with _ | _
        · go_wp2_with fail
          go_roundw
          case rel => exact ⟨k + 1, by omega, by go_num, HR.out, KK.out⟩
          case measure => simp [intOf]; omega
        · have hq0 := fun (w : World) => hq w none 0 0
          clear hq hq0
          have hq1 := fun (w : World) => Go.run_neq_slice_nil (P := Tryz.prog) w 97 5 none 0 0 Tryz.underlying97
          simp only [Option.isNone_none, Bool.not_true] at hq1
          go_wp2_with fail
          go_roundw
          case rel => exact ⟨k + 1, by omega, by go_num, HR.out, KK.out⟩
          case measure => simp [intOf]; omega
      · have hs' : gracev vs k (k + 1) = some q := by rw [gracev_at]; exact hs
        have hR := hr.live (k + 1) q hs'
        have d2 : wr.cell? ⟨rb (k + 1), 2, none⟩ = some (.bool q.2.2) := hR.cell 2
        have d0 : wr.cell? ⟨rb (k + 1), 0, none⟩ = some (.slice (some ⟨gb (k + 1), 0, none⟩) q.2.1.length q.2.1.length) := hR.cell 0
        have f0 := hR.frozen 0
        rcases hret : q.2.2 with _ | _
        · rw [hret] at d2
          have HR := Lib.hid (show RM wr T bx made fail (gracev vs (k + 1)) rb gb (.slice (some ⟨g, 0, none⟩) made cv) by rw [gracev_stay (by rw [hs]; show (if q.2.2 then none else some q) = some q; rw [hret]; rfl)]; exact hr)
          clear hR hr hs hs' hret
          generalize rb (k + 1) = r at cn d2 d0 f0
          go_wp2_with fail
          go_roundw
          case rel => exact ⟨k + 1, by omega, by go_num, HR.out, KK.out⟩
          case measure => simp [intOf]; omega
        · rw [hret] at d2
          have ec := cnt_none (vs := gracev vs k) (n := k + 1) (by omega) (by rw [hs']; rfl) made (by omega)
          have hcl := cnt_le (gracev vs k) made
          have hbr : rb (k + 1) ≠ bx := Blk.ne_ hR hr.head (by decide)
          have H1 : Blk (wr.setCell ⟨rb (k + 1), 0, none⟩ (.slice none 0 0)) bx 30 #[.slice (some ⟨g, 0, none⟩) made cv, .int .i64 (cnt (gracev vs k) made), .int .i64 fail] := hr.head.far (p := ⟨rb (k + 1), 0, none⟩) (Ne.symm hbr) _
          have R1 : Blk (wr.setCell ⟨rb (k + 1), 0, none⟩ (.slice none 0 0)) (rb (k + 1)) 99 #[.slice none 0 0, .int .i64 q.1, .bool q.2.2] := by have := hR.set_ 0 (.slice none 0 0); simpa using this
          have hput := hr.put (n := k + 1) (r' := none) (w2 := (wr.setCell ⟨rb (k + 1), 0, none⟩ (.slice none 0 0)).setCell ⟨bx, 1, none⟩ (.int .i64 (cnt (updv (gracev vs k) (k + 1) none) made))) (by omega) (by omega)
            (Keeps.setCell (p := ⟨bx, 1, none⟩) (Keeps.setCell (p := ⟨rb (k + 1), 0, none⟩) (Keeps.refl _ wr) (.inl (.inl rfl)) _) (.inl (.inr rfl)) _) (by have := H1.set_ 1 (.int .i64 (cnt (updv (gracev vs k) (k + 1) none) made)); simpa using this) (fun q' e => by cases e) (fun _ => ⟨q.1, q.2.2, R1.far (p := ⟨bx, 1, none⟩) hbr _⟩)
          have ekv : updv (gracev vs k) (k + 1) none = gracev vs (k + 1) := by
            rw [← gracev_succ, hs]
            show _ = updv (gracev vs k) (k + 1) (if q.2.2 then none else some q)
            rw [hret]; rfl
          rw [ekv] at ec hput
          obtain ⟨C, hC⟩ : ∃ C, C = cnt (gracev vs (k + 1)) made := ⟨_, rfl⟩
          rw [← hC] at ec hput
          have HE := Lib.hid hput
          have hsub : ((cnt (gracev vs k) made : Nat) : Int) - 1 = (C : Int) := by omega
          have c1 : (wr.setCell ⟨rb (k + 1), 0, none⟩ (.slice none 0 0)).cell? ⟨bx, 1, none⟩ = some (.int .i64 (cnt (gracev vs k) made)) := H1.cell 1
          have f1 : (wr.setCell ⟨rb (k + 1), 0, none⟩ (.slice none 0 0)).frozen? ⟨bx, 1, none⟩ = false := H1.frozen 1
          have c1' : wr.cell? ⟨bx, 1, none⟩ = some (.int .i64 (cnt (gracev vs k) made)) := hr.head.cell 1
          have f1' : wr.frozen? ⟨bx, 1, none⟩ = false := hr.head.frozen 1
          generalize cnt (gracev vs k) made = D at *
          clear hR hr hs hs' hret H1 R1 hput ekv hC
          generalize rb (k + 1) = r at cn d2 d0 f0 HE hbr c1 f1
          have hq0 := fun (w : World) => hq w (some ⟨gb (k + 1), 0, none⟩) q.2.1.length q.2.1.length
          clear hq hq0
          have hq0 := fun (w : World) => Go.run_neq_slice_nil (P := Tryz.prog) w 97 5 (some ⟨gb (k + 1), 0, none⟩) q.2.1.length q.2.1.length Tryz.underlying97
          simp only [Option.isNone_some, Bool.not_false] at hq0
          generalize gb (k + 1) = gg at d0 hq0
          generalize q.2.1.length = ln at d0 hq0
          go_wp2_with fail
          go_roundw
          case rel => exact ⟨k + 1, by omega, by go_num, HE.out.1, KK.out.trans (HE.out.2.mono (fun b hb => .inl hb))⟩
          case measure => simp [intOf]; omega
    · have : k = made := by omega
      subst this
      have HR := Lib.hid hr; clear hr
      have g1 : decide (k < k) = false := by simp
      go_wp2_with fail
      go_end0
      exact ⟨rfl, HR.out, KK.out⟩
end
end Go.Proofs.YtomhflaofipccaaGreat
