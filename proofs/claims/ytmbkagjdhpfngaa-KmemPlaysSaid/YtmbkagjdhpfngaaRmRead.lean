/-
  The reference's Read, Size, SetFail; where Write, Bytes and Put only answer.
-/
import Derived.Test.YtmbkagjdhpfngaaRm2
import Derived.Laws.Bits64
namespace Go.Proofs.Ytmbkagjdhpfngaa
open Go Go.RowKit Go.Maps
set_option linter.unusedVariables false
section
variable {w : World} {T : Nat → Prop} {bx made fail : Nat} {vs : Nat → Option RV} {rb gb : Nat → Nat} {lv : Value}
theorem xread_arg (p : Addr) (a size : Int) (hs : ¬ (size = 1 ∨ size = 2 ∨ size = 4 ∨ size = 8)) (w : World) :
    Calls Try.prog 21 #[.pointer (some p), .int .u64 a, .int .i64 size] w fun e w' => e = .returned (.tuple #[.int .u64 0, .int .i64 1]) ∧ w = w' := by
  have c := wide_no size hs w
  clear hs
  go_enter Try.func21, Try.ntmps21
  go_wp2_with (go_at_call 43; refine c.mono ?_; rintro e w' ⟨rfl, rfl⟩)
  go_ret2
  exact ⟨rfl, rfl⟩
theorem xread_fault (p : Addr) (a size z : Int) (hz : (z != 0) = true) (hs : size = 1 ∨ size = 2 ∨ size = 4 ∨ size = 8) (w : World)
    (hf : Calls Try.prog 44 #[.pointer (some p), .int .u64 a, .int .i64 size, .int .i64 1] w (AtPost w (.pointer none) 0 z)) :
    Calls Try.prog 21 #[.pointer (some p), .int .u64 a, .int .i64 size] w fun e w' => e = .returned (.tuple #[.int .u64 0, .int .i64 z]) ∧ w = w' := by
  have c := wide_yes size hs w
  clear hs
  go_enter Try.func21, Try.ntmps21
  go_wp2_with (first
    | (go_at_call 43; refine c.mono ?_; rintro e w' ⟨rfl, rfl⟩)
    | (go_at_call 44; refine hf.mono ?_; rintro e w' ⟨rfl, rfl⟩))
  go_ret2
  exact ⟨rfl, rfl⟩
theorem or_step (N b : Nat) (hN : N < 72057594037927936) (hb : b < 256) : bits .or .u64 ((N : Int) * 256) (b : Int) = ((b + 256 * N : Nat) : Int) := by
  have h1 : N * 256 < 18446744073709551616 := by omega
  have h2 : b < 18446744073709551616 := by omega
  have h3 := bits_or_u64_nat (N * 256) b h1 h2
  have e : (N * 256) ||| b = N * 256 + b := by
    have := Nat.shiftLeft_add_eq_or_of_lt (show b < 2 ^ 8 from hb) N
    rw [Nat.shiftLeft_eq] at this
    exact this.symm
  rw [e] at h3
  rw [show ((N : Int) * 256) = ((N * 256 : Nat) : Int) from rfl, h3, show N * 256 + b = b + 256 * N by omega]
set_option maxRecDepth 100000 in
theorem xread_ok (h : RM w T bx made fail vs rb gb lv) (n o : Nat) (ho : o ≤ 4294967295) (k : Nat) (hk : (k : Int) = 1 ∨ (k : Int) = 2 ∨ (k : Int) = 4 ∨ (k : Int) = 8) {q : RV} (hs : vs n = some q) (hp : (bits .and .i64 q.1 1 == 0) = false) (hb : o + k ≤ q.2.1.length) :
    Calls Try.prog 21 #[.pointer (some ⟨bx, 0, none⟩), .int .u64 (addr n o), .int .i64 (k : Int)] w fun e w' => e = .returned (.tuple #[.int .u64 (le ((q.2.1.drop o).take k)), .int .i64 0]) ∧ w = w' := by
  have c := wide_yes k hk w
  have ca := at_ok h n o ho k (by omega) 1 hs (.inr ⟨rfl, hp⟩) hb
  have hk8 : k ≤ 8 := by omega
  have hk1 : 0 < k := by omega
  have d0 : w.cell? ⟨rb n, 0, none⟩ = some (.slice (some ⟨gb n, 0, none⟩) q.2.1.length q.2.1.length) := (h.live n q hs).cell 0
  have hbc : ∀ j, w.cell? ⟨gb n, j, none⟩ = (q.2.1.map byteV)[j]? := fun j => by have := (h.bytes n q hs).cell j; simpa using this
  have hle := (h.sized n q hs).2.1
  clear h hs hp hk
  generalize rb n = r at *
  generalize gb n = g at *
  obtain ⟨qp, xs, qr⟩ := q
  simp only at *
  generalize addr n o = a at *
  have HB := Lib.hid hbc
  have HC := Lib.hid ca
  have HCW := Lib.hid c
  clear hbc ca c
  go_enter Try.func21, Try.ntmps21
  go_wp2_with (first
    | (go_at_call 43; refine HCW.out.mono ?_; rintro e w' ⟨rfl, rfl⟩)
    | (go_at_call 44; refine HC.out.mono ?_; rintro e w' ⟨rfl, rfl⟩))
  go_loop [11, 12] (fun n i => ∃ j : Nat, j ≤ k ∧ n = .int .u64 (le ((xs.drop (o + j)).take (k - j))) ∧ i = .int .i64 ((j : Int) - 1)) (fun _ i => (intOf i + 1).toNat)
  case atStart => exact ⟨k, by omega, by rw [Nat.sub_self]; rfl, rfl⟩
  case round =>
    obtain ⟨j, hj, rfl, rfl⟩ := hrel
    rcases j with _ | j
    · have e0 : k - 0 = k := rfl
      go_wp2
      go_ret2
      exact ⟨rfl, rfl⟩
    · have ej : ((j + 1 : Nat) : Int) - 1 = (j : Int) := by omega
      rw [ej]
      clear ej
      have hx : o + j < xs.length := by omega
      have hcell := HB.out (o + j)
      rw [List.getElem?_map, List.getElem?_eq_getElem hx] at hcell
      simp only [Option.map_some, byteV] at hcell
      have hlt := le_lt ((xs.drop (o + (j + 1))).take (k - (j + 1)))
      have hN : le ((xs.drop (o + (j + 1))).take (k - (j + 1))) < 72057594037927936 := by
        refine Nat.lt_of_lt_of_le hlt ?_
        have : ((xs.drop (o + (j + 1))).take (k - (j + 1))).length ≤ 7 := by simp; omega
        exact Nat.le_trans (Nat.pow_le_pow_right (by omega) this) (by decide)
      have e3 : (xs.drop (o + j)).take (k - j) = xs[o + j] :: (xs.drop (o + (j + 1))).take (k - (j + 1)) := by
        rw [List.drop_eq_getElem_cons hx, show k - j = (k - (j + 1)) + 1 by omega, List.take_succ_cons]
        rfl
      have hor := or_step _ _ hN xs[o + j].toNat_lt
      have HE := Lib.hid (show le ((xs.drop (o + j)).take (k - j)) = xs[o + j].toNat + 256 * le ((xs.drop (o + (j + 1))).take (k - (j + 1))) by rw [e3]; rfl)
      have hbt : xs[o + j].toNat < 256 := xs[o + j].toNat_lt
      generalize xs[o + j].toNat = bt at *
      generalize le ((xs.drop (o + (j + 1))).take (k - (j + 1))) = N at *
      clear hlt e3
      have hwb : IntKind.u64.wrap (bt : Int) = (bt : Int) := by rw [IntKind.wrap_u64]; omega
      have i1 : (0 : Int) ≤ (o : Int) + (j : Int) := by omega
      have i2 : (o : Int) + (j : Int) < (xs.length : Int) := by omega
      have i3 : IntKind.i64.wrap ((o : Int) + (j : Int)) = (o : Int) + (j : Int) := IntWalk.i64_in _ (by omega)
      go_wp2
      go_round
      case rel => exact ⟨j, by omega, by rw [HE.out]; simp, by go_num⟩
      case measure => simp [intOf]
theorem xsize_fault (p : Addr) (a z : Int) (hz : (z != 0) = true) (w : World)
    (hf : Calls Try.prog 44 #[.pointer (some p), .int .u64 a, .int .i64 1, .int .i64 0] w (AtPost w (.pointer none) 0 z)) :
    Calls Try.prog 29 #[.pointer (some p), .int .u64 a] w fun e w' => e = .returned (.tuple #[.int .i64 0, .int .i64 z]) ∧ w = w' := by
  go_enter Try.func29, Try.ntmps29
  go_wp2_with (go_at_call 44; refine hf.mono ?_; rintro e w' ⟨rfl, rfl⟩)
  go_ret2
  exact ⟨rfl, rfl⟩
theorem xsize_ok (h : RM w T bx made fail vs rb gb lv) (n o : Nat) (ho : o ≤ 4294967295) {q : RV} (hs : vs n = some q) (hb : o + 1 ≤ q.2.1.length) :
    Calls Try.prog 29 #[.pointer (some ⟨bx, 0, none⟩), .int .u64 (addr n o)] w fun e w' => e = .returned (.tuple #[.int .i64 q.2.1.length, .int .i64 0]) ∧ w = w' := by
  have ca := at_ok h n o ho 1 (by omega) 0 hs (.inl rfl) hb
  have d0 : w.cell? ⟨rb n, 0, none⟩ = some (.slice (some ⟨gb n, 0, none⟩) q.2.1.length q.2.1.length) := (h.live n q hs).cell 0
  clear h hs hb
  generalize rb n = r at *
  generalize gb n = g at *
  generalize addr n o = a at *
  have HC := Lib.hid ca; clear ca
  go_enter Try.func29, Try.ntmps29
  go_wp2_with (go_at_call 44; refine HC.out.mono ?_; rintro e w' ⟨rfl, rfl⟩)
  go_ret2
  exact ⟨rfl, rfl⟩
theorem xfail_arg (p : Addr) (n : Int) (hn : n < 0 ∨ 1048576 < n) (w : World) :
    Calls Try.prog 13 #[.pointer (some p), .int .i64 n] w fun e w' => e = .returned (.int .i64 1) ∧ w = w' := by
  by_cases h : n < 0
  · clear hn
    go_enter Try.func13, Try.ntmps13
    go_wp2
    go_ret
    exact ⟨rfl, rfl⟩
  · have h2 : 1048576 < n := by omega
    clear hn
    go_enter Try.func13, Try.ntmps13
    go_wp2
    go_ret
    exact ⟨rfl, rfl⟩
theorem xfail_ok (h : RM w T bx made fail vs rb gb lv) (n : Nat) (hn : n ≤ 1048576) :
    Calls Try.prog 13 #[.pointer (some ⟨bx, 0, none⟩), .int .i64 (n : Int)] w fun e w' => e = .returned (.int .i64 0) ∧ RM w' T bx made n vs rb gb lv ∧ Keeps T w w' := by
  have K : Keeps (fun b => b = bx) w (w.setCell ⟨bx, 2, none⟩ (.int .i64 (n : Int))) := Keeps.setCell (S := fun b => b = bx) (p := ⟨bx, 2, none⟩) (Keeps.refl _ w) (.inl rfl) _
  have HE := Lib.hid (show RM (w.setCell ⟨bx, 2, none⟩ (.int .i64 (n : Int))) T bx made n vs rb gb lv ∧ Keeps T w (w.setCell ⟨bx, 2, none⟩ (.int .i64 (n : Int))) from
    ⟨{ head := by have := h.head.set_ 2 (.int .i64 (n : Int)); simpa using this
       row := ownsRow_block h.row (fun g hg => Below.heap_setCell w _ _ g (by
         intro e0
         rcases h.row.2 with ⟨e, _⟩ | ⟨g', _, cur, e, _, hb, _⟩
         · rw [e] at hg; cases hg
         · have e' : g' = g := by rw [e] at hg; simpa [Value.ownBlock] using hg
           have e2 : g' = bx := e'.trans e0
           rw [e2] at hb
           exact Blk.ne_ (show Blk w bx _ cur from hb) h.head (by decide) rfl))
       range := h.range
       live := fun m q hq => (h.live m q hq).far (p := ⟨bx, 2, none⟩) (Blk.ne_ (h.live m q hq) h.head (by decide)) _
       bytes := fun m q hq => (h.bytes m q hq).far (p := ⟨bx, 2, none⟩) (Blk.ne_ (h.bytes m q hq) h.head (by decide)) _
       sized := h.sized
       dead := fun m h1 h2 h3 => by
         obtain ⟨p, ret, hb⟩ := h.dead m h1 h2 h3
         exact ⟨p, ret, hb.far (p := ⟨bx, 2, none⟩) (Blk.ne_ hb h.head (by decide)) _⟩
       injr := h.injr
       injg := h.injg
       tbx := h.tbx
       trb := h.trb
       tgb := h.tgb
       tlv := h.tlv
       lt := fun b hb => Nat.lt_of_lt_of_le (h.lt b hb) K.size
       made_le := h.made_le
       fail_le := hn }, K.mono (fun b e => e ▸ h.tbx)⟩)
  have c2 : w.cell? ⟨bx, 2, none⟩ = some (.int .i64 (fail : Int)) := h.head.cell 2
  have f2 : w.frozen? ⟨bx, 2, none⟩ = false := h.head.frozen 2
  clear h K
  go_enter Try.func13, Try.ntmps13
  go_wp2
  go_ret
  exact ⟨rfl, HE.out⟩
end
end Go.Proofs.Ytmbkagjdhpfngaa
