/-
  The reference's memory as it lies in the heap ('RM'); its first, at, wide.
-/
import Derived.Test.YtmbkagjdhpfngaaRegions
import Derived.Laws.Bits64b
namespace Go.Proofs.Ytmbkagjdhpfngaa
open Go Go.RowKit Go.Maps
set_option linter.unusedVariables false

/-- How many regions are live. -/
def cnt (vs : Nat → Option RV) (made : Nat) : Nat := ((List.range made).filter fun i => (vs (i + 1)).isSome).length
structure RM (w : World) (T : Nat → Prop) (bx made fail : Nat) (vs : Nat → Option RV) (rb gb : Nat → Nat) (lv : Value) : Prop where
  head : Blk w bx 28 #[lv, .int .i64 (cnt vs made), .int .i64 fail]
  row : w.ownsRow 0 79 1 lv made ((List.range made).map fun i => .pointer (some ⟨rb (i + 1), 0, none⟩))
  range : ∀ n q, vs n = some q → 1 ≤ n ∧ n ≤ made
  live : ∀ n q, vs n = some q → Blk w (rb n) 78 #[.slice (some ⟨gb n, 0, none⟩) q.2.1.length q.2.1.length, .int .i64 q.1, .bool q.2.2]
  bytes : ∀ n q, vs n = some q → Blk w (gb n) 5 (q.2.1.map byteV).toArray
  sized : ∀ n q, vs n = some q → 0 < q.2.1.length ∧ q.2.1.length ≤ 1048576 ∧ 1 ≤ q.1 ∧ q.1 ≤ 3
  dead : ∀ n, 1 ≤ n → n ≤ made → vs n = none → ∃ (p : Int) (ret : Bool), Blk w (rb n) 78 #[.slice none 0 0, .int .i64 p, .bool ret]
  injr : ∀ n m, 1 ≤ n → n ≤ made → 1 ≤ m → m ≤ made → rb n = rb m → n = m
  injg : ∀ n m q q', vs n = some q → vs m = some q' → gb n = gb m → n = m
  tbx : T bx
  trb : ∀ n, 1 ≤ n → n ≤ made → T (rb n)
  tgb : ∀ n q, vs n = some q → T (gb n)
  tlv : ∀ g, lv.ownBlock = some g → T g
  lt : ∀ b, T b → b < w.heap.size
  made_le : made ≤ 4096
  fail_le : fail ≤ 1048576
section
variable {w w' : World} {T U : Nat → Prop} {bx made fail : Nat} {vs : Nat → Option RV} {rb gb : Nat → Nat} {lv : Value}
/-- It stays what it is while other blocks are written and new ones are made. -/
theorem RM.keeps (h : RM w T bx made fail vs rb gb lv) (k : Keeps U w w') (hd : ∀ b, T b → ¬ U b) : RM w' T bx made fail vs rb gb lv where
  head := h.head.keeps k (hd _ h.tbx)
  row := ownsRow_block h.row (fun g hg => k.block g (h.lt g (h.tlv g hg)) (hd g (h.tlv g hg)))
  range := h.range
  live n q hq := (h.live n q hq).keeps k (hd _ (h.trb n (h.range n q hq).1 (h.range n q hq).2))
  bytes n q hq := (h.bytes n q hq).keeps k (hd _ (h.tgb n q hq))
  sized := h.sized
  dead n h1 h2 hn := by
    obtain ⟨p, ret, hb⟩ := h.dead n h1 h2 hn
    exact ⟨p, ret, hb.keeps k (hd _ (h.trb n h1 h2))⟩
  injr := h.injr
  injg := h.injg
  tbx := h.tbx
  trb := h.trb
  tgb := h.tgb
  tlv := h.tlv
  lt b hb := Nat.lt_of_lt_of_le (h.lt b hb) k.size
  made_le := h.made_le
  fail_le := h.fail_le
theorem RM.row_form (h : RM w T bx made fail vs rb gb lv) : ∃ A c, lv = .slice A made c ∧ ∀ n, 1 ≤ n → n ≤ made → ∃ g, A = some ⟨g, 0, none⟩ ∧ w.cell? ⟨g, n - 1, none⟩ = some (.pointer (some ⟨rb n, 0, none⟩)) := by
  obtain ⟨A, c, rfl, hc⟩ := own_form h.row
  refine ⟨A, c, rfl, fun n h1 h2 => ?_⟩
  obtain ⟨g, rfl, hcell⟩ := hc (by omega)
  refine ⟨g, rfl, hcell (n - 1) _ ?_⟩
  simp [show n - 1 < made by omega, show n - 1 + 1 = n by omega]
end
theorem and_off (n o : Nat) (hn : n ≤ 4294967295) (ho : o ≤ 4294967295) : bits .and .u64 (addr n o) 4294967295 = (o : Int) := by
  obtain ⟨h0, h1, h2, h3⟩ := addr_bd hn ho
  obtain ⟨a, ha⟩ := Int.eq_ofNat_of_zero_le h0
  rw [ha] at h1 h3 ⊢
  have := bits_and_u64_nat a 4294967295 (by omega) (by decide)
  rw [show ((4294967295 : Nat) : Int) = 4294967295 from rfl] at this
  rw [this]
  have e : a &&& 4294967295 = a % 4294967296 := Nat.and_two_pow_sub_one_eq_mod a 32
  rw [e]
  omega
section
variable {w : World} {T : Nat → Prop} {bx made fail : Nat} {vs : Nat → Option RV} {rb gb : Nat → Nat} {lv : Value}
theorem first_off (p : Option Addr) (n o : Nat) (hn : n ≤ 4294967295) (ho : o ≤ 4294967295) (h1 : 0 < o) (w : World) :
    Calls Try.prog 39 #[.pointer p, .int .u64 (addr n o)] w fun e w' => e = .returned (.pointer none) ∧ w = w' := by
  obtain ⟨b0, b1, b2, b3⟩ := addr_bd hn ho
  have ha := and_off n o hn ho
  have h3 : ((o : Int) != 0) = true := by simp; omega
  generalize addr n o = a at *
  go_enter Try.func39, Try.ntmps39
  go_wp2_with fail
  go_ret
  exact ⟨rfl, rfl⟩
theorem first_null (h : RM w T bx made fail vs rb gb lv) (n : Nat) (hn : n ≤ 4294967295) (hm : n = 0 ∨ made < n) :
    Calls Try.prog 39 #[.pointer (some ⟨bx, 0, none⟩), .int .u64 (addr n 0)] w fun e w' => e = .returned (.pointer none) ∧ w = w' := by
  obtain ⟨b0, b1, b2, b3⟩ := addr_bd hn (show 0 ≤ 4294967295 by omega)
  have ha := and_off n 0 hn (by omega)
  obtain ⟨A, c, rfl, _⟩ := h.row_form
  have c0 : w.cell? ⟨bx, 0, none⟩ = some (.slice A made c) := h.head.cell 0
  have hmd := h.made_le
  clear h
  generalize addr n 0 = a at *
  have b3' : a % 4294967296 = 0 := b3
  have ha' : bits .and .u64 a 4294967295 = 0 := ha
  clear b3 ha
  rcases Nat.eq_zero_or_pos n with h0 | h0
  · subst h0
    have b2' : a / 4294967296 = 0 := b2
    clear b2
    go_enter Try.func39, Try.ntmps39
    go_wp2_with fail
    go_ret
    exact ⟨rfl, rfl⟩
  · have g1 : decide ((n : Int) < 1) = false := by simp; omega
    have g2 : decide (made < n) = true := by simp; omega
    have hw : IntKind.i64.wrap (n : Int) = (n : Int) := IntWalk.i64_in _ (by omega)
    go_enter Try.func39, Try.ntmps39
    go_wp2_with fail
    go_ret
    exact ⟨rfl, rfl⟩
end
end Go.Proofs.Ytmbkagjdhpfngaa
