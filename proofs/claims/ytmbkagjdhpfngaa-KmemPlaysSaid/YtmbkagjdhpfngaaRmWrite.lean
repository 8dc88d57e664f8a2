/-
  The reference's Bytes, Put, Write.
-/
import Derived.Test.YtmbkagjdhpfngaaRmRead
namespace Go.Proofs.Ytmbkagjdhpfngaa
open Go Go.RowKit Go.Maps
set_option linter.unusedVariables false
def updv (vs : Nat → Option RV) (n : Nat) (r : Option RV) : Nat → Option RV := fun k => if k = n then r else vs k
theorem updv_same (vs : Nat → Option RV) (n : Nat) (r : Option RV) : updv vs n r n = r := by simp [updv]
theorem updv_other (vs : Nat → Option RV) {n k : Nat} (r : Option RV) (h : k ≠ n) : updv vs n r k = vs k := by simp [updv, h]
theorem cnt_congr {vs vs' : Nat → Option RV} {made : Nat} (h : ∀ n, 1 ≤ n → n ≤ made → (vs n).isSome = (vs' n).isSome) : cnt vs made = cnt vs' made := by
  unfold cnt
  congr 1
  apply List.filter_congr
  intro i hi
  exact h (i + 1) (by omega) (by have := List.mem_range.1 hi; omega)
section
variable {w w1 w2 : World} {T : Nat → Prop} {bx made fail : Nat} {vs : Nat → Option RV} {rb gb : Nat → Nat} {lv : Value}
theorem RM.gb_ne (h : RM w T bx made fail vs rb gb lv) {n : Nat} {q : RV} (hs : vs n = some q) {t : TypeId} {x : Nat} {cs : Array Value} (hx : Blk w x t cs) (ht : t ≠ 5) : x ≠ gb n := Blk.ne_ hx (h.bytes n q hs) ht
theorem RM.lv_ne (h : RM w T bx made fail vs rb gb lv) {t : TypeId} {x : Nat} {cs : Array Value} (hx : Blk w x t cs) (ht : t ≠ 79) : lv.ownBlock ≠ some x := by
  intro e
  rcases h.row.2 with ⟨e1, _⟩ | ⟨g', _, cur, e1, _, hb, _⟩
  · rw [e1] at e; cases e
  · have e' : g' = x := by rw [e1] at e; simpa [Value.ownBlock] using e
    subst e'
    exact Blk.ne_ hx (show Blk w g' _ cur from hb) ht rfl
/-- Other bytes in a region. -/
theorem RM.write (h : RM w T bx made fail vs rb gb lv) {n : Nat} {q : RV} (hs : vs n = some q) {ys : List UInt8} (k : Keeps (fun b => b = gb n) w w2) (hb : Blk w2 (gb n) 5 (ys.map byteV).toArray) (hl : ys.length = q.2.1.length) :
    RM w2 T bx made fail (updv vs n (some (q.1, ys, q.2.2))) rb gb lv ∧ Keeps T w w2 := by
  have sub : ∀ m p, updv vs n (some (q.1, ys, q.2.2)) m = some p → m = n ∧ p = (q.1, ys, q.2.2) ∨ m ≠ n ∧ vs m = some p := by
    intro m p hp
    by_cases e : m = n
    · subst e; rw [updv_same] at hp; cases hp; exact .inl ⟨rfl, rfl⟩
    · rw [updv_other _ _ e] at hp; exact .inr ⟨e, hp⟩
  have ec : cnt (updv vs n (some (q.1, ys, q.2.2))) made = cnt vs made := cnt_congr fun m _ _ => by
    by_cases e : m = n
    · subst e; rw [updv_same, hs]; rfl
    · rw [updv_other _ _ e]
  refine ⟨{ head := by rw [ec]; exact h.head.keeps k (h.gb_ne hs h.head (by decide)), row := ownsRow_block h.row (fun g hg => k.block g (h.lt g (h.tlv g hg)) (fun e => h.lv_ne (h.bytes n q hs) (by decide) (by rw [hg, e]))),
            range := ?_, live := ?_, bytes := ?_, sized := ?_, dead := ?_, injr := h.injr, injg := ?_, tbx := h.tbx, trb := h.trb, tgb := ?_, tlv := h.tlv, lt := fun b hb => Nat.lt_of_lt_of_le (h.lt b hb) k.size, made_le := h.made_le, fail_le := h.fail_le }, k.mono (fun b e => e ▸ h.tgb n q hs)⟩
  · intro m p hp
    rcases sub m p hp with ⟨rfl, _⟩ | ⟨_, h1⟩
    · exact h.range m q hs
    · exact h.range m p h1
  · intro m p hp
    rcases sub m p hp with ⟨rfl, rfl⟩ | ⟨_, h1⟩
    · have := (h.live m q hs).keeps k (h.gb_ne hs (h.live m q hs) (by decide))
      simp only [hl]
      exact this
    · exact (h.live m p h1).keeps k (h.gb_ne hs (h.live m p h1) (by decide))
  · intro m p hp
    rcases sub m p hp with ⟨rfl, rfl⟩ | ⟨hne, h1⟩
    · exact hb
    · exact (h.bytes m p h1).keeps k (fun e => hne (h.injg m n p q h1 hs e))
  · intro m p hp
    rcases sub m p hp with ⟨rfl, rfl⟩ | ⟨_, h1⟩
    · have := h.sized m q hs
      simp only [hl]
      exact this
    · exact h.sized m p h1
  · intro m h1 h2 h3
    by_cases e : m = n
    · subst e; rw [updv_same] at h3; cases h3
    · rw [updv_other _ _ e] at h3
      obtain ⟨p, ret, hd⟩ := h.dead m h1 h2 h3
      exact ⟨p, ret, hd.keeps k (h.gb_ne hs hd (by decide))⟩
  · intro m m' p p' hp hp' e
    have f : ∀ m p, updv vs n (some (q.1, ys, q.2.2)) m = some p → ∃ p0, vs m = some p0 := fun m p hp => by
      rcases sub m p hp with ⟨rfl, _⟩ | ⟨_, h1⟩
      · exact ⟨q, hs⟩
      · exact ⟨p, h1⟩
    obtain ⟨p0, e0⟩ := f m p hp
    obtain ⟨p1, e1⟩ := f m' p' hp'
    exact h.injg m m' p0 p1 e0 e1 e
  · intro m p hp
    rcases sub m p hp with ⟨rfl, _⟩ | ⟨_, h1⟩
    · exact h.tgb m q hs
    · exact h.tgb m p h1
theorem xbytes_arg (p : Addr) (a n : Int) (hn : n < 0 ∨ 1048576 < n) (w : World) :
    Calls Try.prog 25 #[.pointer (some p), .int .u64 a, .int .i64 n] w fun e w' => e = .returned (.tuple #[.string (bstr []), .int .i64 1]) ∧ w = w' := by
  by_cases h : n < 0
  · clear hn
    go_enter Try.func25, Try.ntmps25
    go_wp2
    go_ret2
    exact ⟨rfl, rfl⟩
  · have h2 : 1048576 < n := by omega
    clear hn
    go_enter Try.func25, Try.ntmps25
    go_wp2
    go_ret2
    exact ⟨rfl, rfl⟩
theorem xbytes_fault (p : Addr) (a n z : Int) (h0 : 0 ≤ n) (h1 : n ≤ 1048576) (hz : (z != 0) = true) (w : World)
    (hf : Calls Try.prog 44 #[.pointer (some p), .int .u64 a, .int .i64 n, .int .i64 0] w (AtPost w (.pointer none) 0 z)) :
    Calls Try.prog 25 #[.pointer (some p), .int .u64 a, .int .i64 n] w fun e w' => e = .returned (.tuple #[.string (bstr []), .int .i64 z]) ∧ w = w' := by
  go_enter Try.func25, Try.ntmps25
  go_wp2_with (go_at_call 44; refine hf.mono ?_; rintro e w' ⟨rfl, rfl⟩)
  go_ret2
  exact ⟨rfl, rfl⟩
theorem conv_win (w' : World) (g o k : Nat) (xs : List UInt8) (hb : o + k ≤ xs.length) (A : Addr) (hA : 0 < k → A = ⟨g, o, none⟩) (hc : ∀ j, w'.cell? ⟨g, j, none⟩ = (xs.map byteV)[j]?) (k' : Nat) (hk' : k' = k) (c : Nat) (hcc : c = xs.length - o) :
      (convert 73 9 (.slice (some A) k' c)).run Try.prog w' = .ok (.string (bstr ((xs.drop o).take k))) w' := by
  subst hk'
  subst hcc
  rcases Nat.eq_zero_or_pos k' with h0 | h0
  · subst h0
    have := run_convert_bytes_zero (P := Try.prog) w' 73 5 Try.underlying73 Try.underlying5 (some A) (xs.length - o) 9 Try.underlying9
    rw [this]; rfl
  · obtain rfl := hA h0
    have := Lib.run_convert_window (P := Try.prog) w' 73 5 9 Try.underlying73 Try.underlying5 Try.underlying9 g 0 (bstr xs) (fun i hi => by
      have hi' : i < xs.length := by rw [← bstr_size]; exact hi
      rw [hc, List.getElem?_map, Nat.zero_add, List.getElem?_eq_getElem hi']
      rfl) o k' (xs.length - o) (by rw [bstr_size]; exact hb)
    rw [Nat.zero_add, bstr_extract] at this
    exact this
set_option maxRecDepth 100000 in
theorem xbytes_ok (h : RM w T bx made fail vs rb gb lv) (n o : Nat) (ho : o ≤ 4294967295) (k : Nat) (hk : k ≤ 1048576) {q : RV} (hs : vs n = some q) (hb : o + k ≤ q.2.1.length) :
    Calls Try.prog 25 #[.pointer (some ⟨bx, 0, none⟩), .int .u64 (addr n o), .int .i64 (k : Int)] w fun e w' => e = .returned (.tuple #[.string (bstr ((q.2.1.drop o).take k)), .int .i64 0]) ∧ w = w' := by
  have ca := at_ok h n o ho k hk 0 hs (.inl rfl) hb
  have d0 : w.cell? ⟨rb n, 0, none⟩ = some (.slice (some ⟨gb n, 0, none⟩) q.2.1.length q.2.1.length) := (h.live n q hs).cell 0
  have hbc : ∀ j, w.cell? ⟨gb n, j, none⟩ = (q.2.1.map byteV)[j]? := fun j => by have := (h.bytes n q hs).cell j; simpa using this
  have hle := (h.sized n q hs).2.1
  clear h hs
  generalize rb n = r at *
  generalize gb n = g at *
  obtain ⟨qp, xs, qr⟩ := q
  simp only at *
  generalize addr n o = a at *
  have HC := Lib.hid ca; clear ca
  have hok : IntKind.i64.wrap ((o : Int) + (k : Int)) = (o : Int) + (k : Int) := IntWalk.i64_in _ (by omega)
  have i0 : (0 : Int) ≤ (o : Int) := by omega
  have i1 : (o : Int) ≤ (o : Int) + (k : Int) := by omega
  have i2 : (o : Int) + (k : Int) ≤ (xs.length : Int) := by omega
  have hcv := fun A hA k' hk' c hcc => conv_win w g o k xs hb A hA hbc k' hk' c hcc
  have HCV := Lib.hid hcv; clear hcv hbc
  go_enter Try.func25, Try.ntmps25
  rcases Nat.lt_or_ge o xs.length with hol | hol
  · have hne : ¬ xs.length = o := by omega
    have hne2 : ¬ o = xs.length := by omega
    have hcv := HCV.out ⟨g, o, none⟩ (fun _ => rfl) (o + k - o) (by omega) (xs.length - o) rfl
    have hcv2 := HCV.out ⟨g, o, none⟩ (fun _ => rfl) k rfl (xs.length - o) rfl
    go_wp2_with (go_at_call 44; refine HC.out.mono ?_; rintro e w' ⟨rfl, rfl⟩)
    go_ret2
    exact ⟨rfl, rfl⟩
  · have e1 : xs.length = o := by omega
    have e2 : k = 0 := by omega
    subst e2
    have hcv := HCV.out ⟨g, 0, none⟩ (fun h => absurd h (by omega)) 0 rfl (xs.length - o) rfl
    have hcv2 := HCV.out ⟨g, 0, none⟩ (fun h => absurd h (by omega)) 0 rfl 0 (by omega)
    go_wp2_with (go_at_call 44; refine HC.out.mono ?_; rintro e w' ⟨rfl, rfl⟩)
    go_ret2
    exact ⟨rfl, rfl⟩
theorem xwrite_arg (p : Addr) (a size u : Int) (hs : ¬ (size = 1 ∨ size = 2 ∨ size = 4 ∨ size = 8)) (w : World) :
    Calls Try.prog 23 #[.pointer (some p), .int .u64 a, .int .i64 size, .int .u64 u] w fun e w' => e = .returned (.int .i64 1) ∧ w = w' := by
  have c := wide_no size hs w
  clear hs
  go_enter Try.func23, Try.ntmps23
  go_wp2_with (go_at_call 43; refine c.mono ?_; rintro e w' ⟨rfl, rfl⟩)
  go_ret
  exact ⟨rfl, rfl⟩
theorem xwrite_fault (p : Addr) (a size u z : Int) (hz : (z != 0) = true) (hs : size = 1 ∨ size = 2 ∨ size = 4 ∨ size = 8) (w : World)
    (hf : Calls Try.prog 44 #[.pointer (some p), .int .u64 a, .int .i64 size, .int .i64 2] w (AtPost w (.pointer none) 0 z)) :
    Calls Try.prog 23 #[.pointer (some p), .int .u64 a, .int .i64 size, .int .u64 u] w fun e w' => e = .returned (.int .i64 z) ∧ w = w' := by
  have c := wide_yes size hs w
  clear hs
  go_enter Try.func23, Try.ntmps23
  go_wp2_with (first
    | (go_at_call 43; refine c.mono ?_; rintro e w' ⟨rfl, rfl⟩)
    | (go_at_call 44; refine hf.mono ?_; rintro e w' ⟨rfl, rfl⟩))
  go_ret
  exact ⟨rfl, rfl⟩
set_option maxRecDepth 100000 in
theorem xwrite_ok (h : RM w T bx made fail vs rb gb lv) (n o : Nat) (ho : o ≤ 4294967295) (k : Nat) (hk : (k : Int) = 1 ∨ (k : Int) = 2 ∨ (k : Int) = 4 ∨ (k : Int) = 8) (u : Nat) (hu : u ≤ 18446744073709551615) {q : RV} (hs : vs n = some q) (hp : (bits .and .i64 q.1 2 == 0) = false) (hb : o + k ≤ q.2.1.length) :
    Calls Try.prog 23 #[.pointer (some ⟨bx, 0, none⟩), .int .u64 (addr n o), .int .i64 (k : Int), .int .u64 (u : Int)] w fun e w' => e = .returned (.int .i64 0) ∧
      RM w' T bx made fail (updv vs n (some (q.1, setAt q.2.1 o (wb u k), q.2.2))) rb gb lv ∧ Keeps T w w' := by
  have c := wide_yes k hk w
  have ca := at_ok h n o ho k (by omega) 2 hs (.inr ⟨rfl, hp⟩) hb
  have hk8 : k ≤ 8 := by omega
  have hk1 : 0 < k := by omega
  have d0 : Blk w (rb n) _ _ := h.live n q hs
  have hne := h.gb_ne hs d0 (by decide)
  have b0 := h.bytes n q hs
  have hle := (h.sized n q hs).2.1
  have HP := Lib.hid (fun (w2 : World) (ys : List UInt8) (kk : Keeps (fun b => b = gb n) w w2) (hbb : Blk w2 (gb n) 5 (ys.map byteV).toArray) (hl : ys.length = q.2.1.length) => h.write hs kk hbb hl)
  clear h hs hp hk
  generalize rb n = r at *
  generalize gb n = g at *
  generalize addr n o = a at *
  generalize hxs : q.2.1 = xs at *
  have D0 := Lib.hid d0
  have HC := Lib.hid ca
  have HCW := Lib.hid c
  have B0 := Lib.hid b0
  clear d0 ca c b0 hxs
  go_enter Try.func23, Try.ntmps23
  go_wp2_with (first
    | (go_at_call 43; refine HCW.out.mono ?_; rintro e w' ⟨rfl, rfl⟩)
    | (go_at_call 44; refine HC.out.mono ?_; rintro e w' ⟨rfl, rfl⟩))
  go_loopw [12] (fun i wr => ∃ j : Nat, j ≤ k ∧ i = .int .i64 j ∧ Keeps (fun b => b = g) w wr ∧ Blk wr g 5 ((setAt xs o (wb u j)).map byteV).toArray) (fun i _ => k - (intOf i).toNat)
  case atStart => exact ⟨0, by omega, rfl, Keeps.refl _ _, by have := B0.out; simpa [wb, setAt_nil] using this⟩
  case round =>
    obtain ⟨j, hj, rfl, hkw, hbw⟩ := hrel
    have d0 := (D0.out.keeps hkw hne).cell 0
    have HW := Lib.hid hkw; clear hkw
    have HB := Lib.hid hbw; clear hbw
    by_cases hlt : j < k
    · have hx : o + j < (setAt xs o (wb u j)).length := by rw [setAt_length _ _ _ (by rw [wb_length]; omega)]; omega
      have hcell := HB.out.cell (o + j)
      rw [List.getElem?_toArray, List.getElem?_map, List.getElem?_eq_getElem hx] at hcell
      simp only [Option.map_some] at hcell
      have hfr := HB.out.frozen (o + j)
      have hj8 : (8 : Int) * j ≤ 63 := by omega
      have i1 : (0 : Int) ≤ (o : Int) + (j : Int) := by omega
      have i2 : (o : Int) + (j : Int) < (xs.length : Int) := by omega
      have i3 : IntKind.i64.wrap ((o : Int) + (j : Int)) = (o : Int) + (j : Int) := IntWalk.i64_in _ (by omega)
      go_wp2
      go_roundw
      case rel =>
        refine ⟨j + 1, by omega, by go_num, ?_, ?_⟩
        · exact Keeps.setCell (p := ⟨g, o + j, none⟩) HW.out (.inl rfl) _
        · have e0 := HB.out.set_ (o + j) (byteV (UInt8.ofNat (u / 256 ^ j)))
          have e1 : byteV (UInt8.ofNat (u / 256 ^ j)) = .int .u8 ((u : Int) / 2 ^ (8 * j) % 256) := by
            rw [byteV_ofNat, pow_256]
            congr 1
          have e2 : ((setAt xs o (wb u j)).map byteV).toArray.setIfInBounds (o + j) (byteV (UInt8.ofNat (u / 256 ^ j))) = ((setAt xs o (wb u (j + 1))).map byteV).toArray := by
            rw [wb_succ, setAt_snoc _ _ _ _ (by rw [wb_length]; omega), wb_length, List.map_set]
            simp
          rw [e2, e1] at e0
          exact e0
      case measure => simp [intOf]; omega
    · have : j = k := by omega
      subst this
      go_wp2
      go_ret
      exact ⟨rfl, HP.out _ _ HW.out HB.out (setAt_length _ _ _ (by rw [wb_length]; omega))⟩
theorem xput_arg (p : Addr) (a : Int) (s : ByteArray) (hs : 1048576 < s.size) (hm : s.size ≤ maxLen) (w : World) :
    Calls Try.prog 27 #[.pointer (some p), .int .u64 a, .string s] w fun e w' => e = .returned (.int .i64 1) ∧ w = w' := by
  unfold maxLen at hm
  have h1 : decide (1048576 < (s.size : Int)) = true := by simp; omega
  go_enter Try.func27, Try.ntmps27
  go_wp2_with fail
  go_ret
  exact ⟨rfl, rfl⟩
theorem xput_fault (p : Addr) (a z : Int) (s : ByteArray) (hs : s.size ≤ 1048576) (hz : (z != 0) = true) (w : World)
    (hf : Calls Try.prog 44 #[.pointer (some p), .int .u64 a, .int .i64 (s.size : Int), .int .i64 0] w (AtPost w (.pointer none) 0 z)) :
    Calls Try.prog 27 #[.pointer (some p), .int .u64 a, .string s] w fun e w' => e = .returned (.int .i64 z) ∧ w = w' := by
  have h1 : decide (1048576 < (s.size : Int)) = false := by simp; omega
  go_enter Try.func27, Try.ntmps27
  go_wp2_with (go_at_call 44; refine hf.mono ?_; rintro e w' ⟨rfl, rfl⟩)
  go_ret
  exact ⟨rfl, rfl⟩
end
end Go.Proofs.Ytmbkagjdhpfngaa
