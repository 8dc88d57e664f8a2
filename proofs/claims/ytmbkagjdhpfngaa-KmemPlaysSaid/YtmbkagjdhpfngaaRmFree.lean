/-
  The reference's Put, Free, Retire.
-/
import Derived.Test.YtmbkagjdhpfngaaRmWrite
namespace Go.Proofs.Ytmbkagjdhpfngaa
open Go Go.RowKit Go.Maps
set_option linter.unusedVariables false
theorem cnt_succ (vs : Nat → Option RV) (m : Nat) : cnt vs (m + 1) = cnt vs m + (if (vs (m + 1)).isSome then 1 else 0) := by
  unfold cnt
  rw [List.range_succ, List.filter_append, List.length_append]
  congr 1
  by_cases h : (vs (m + 1)).isSome <;> simp [h]
theorem cnt_none {vs : Nat → Option RV} {n : Nat} (h1 : 1 ≤ n) (hs : (vs n).isSome = true) : ∀ made, n ≤ made → cnt (updv vs n none) made + 1 = cnt vs made
  | 0, h => by omega
  | m + 1, h => by
    rw [cnt_succ, cnt_succ]
    by_cases e : n = m + 1
    · subst e
      rw [updv_same, hs, cnt_congr (vs := updv vs (m + 1) none) (vs' := vs) (fun k _ hk => by rw [updv_other _ _ (by omega)])]
      rfl
    · rw [updv_other _ _ (fun e' => e e'.symm)]
      have := cnt_none h1 hs m (by omega)
      omega
theorem cnt_le (vs : Nat → Option RV) (made : Nat) : cnt vs made ≤ made := by
  unfold cnt
  exact Nat.le_trans (List.length_filter_le _ _) (by simp)
section
variable {w w1 w2 : World} {T : Nat → Prop} {bx made fail : Nat} {vs : Nat → Option RV} {rb gb : Nat → Nat} {lv : Value}
/-- One region's struct and the head turn. -/
theorem RM.put (h : RM w T bx made fail vs rb gb lv) {n : Nat} {r' : Option RV} (h1 : 1 ≤ n) (hm : n ≤ made) (k : Keeps (fun b => b = rb n ∨ b = bx) w w2) (hh : Blk w2 bx 28 #[lv, .int .i64 (cnt (updv vs n r') made), .int .i64 fail])
    (hsome : ∀ q', r' = some q' → ∃ q, vs n = some q ∧ q'.1 = q.1 ∧ q'.2.1 = q.2.1 ∧ Blk w2 (rb n) 78 #[.slice (some ⟨gb n, 0, none⟩) q.2.1.length q.2.1.length, .int .i64 q.1, .bool q'.2.2])
    (hnone : r' = none → ∃ (p : Int) (ret : Bool), Blk w2 (rb n) 78 #[.slice none 0 0, .int .i64 p, .bool ret]) :
    RM w2 T bx made fail (updv vs n r') rb gb lv ∧ Keeps T w w2 := by
  have hR : ∃ cs, Blk w (rb n) 78 cs := by
    rcases hs : vs n with _ | q
    · obtain ⟨p, ret, hb⟩ := h.dead n h1 hm hs; exact ⟨_, hb⟩
    · exact ⟨_, h.live n q hs⟩
  obtain ⟨cs, hR⟩ := hR
  have notg : ∀ {x : Nat} {t : TypeId} {cs : Array Value}, Blk w x t cs → t ≠ 78 → t ≠ 28 → ¬ (x = rb n ∨ x = bx) := by
    rintro x t cs hx ht1 ht2 (e | e)
    · exact Blk.ne_ hx hR ht1 e
    · exact Blk.ne_ hx h.head ht2 e
  have notr : ∀ {m : Nat} {cs : Array Value}, 1 ≤ m → m ≤ made → m ≠ n → Blk w (rb m) 78 cs → ¬ (rb m = rb n ∨ rb m = bx) := by
    rintro m cs a1 a2 hne hx (e | e)
    · exact hne (h.injr m n a1 a2 h1 hm e)
    · exact Blk.ne_ hx h.head (by decide) e
  have sub : ∀ m p, updv vs n r' m = some p → m = n ∧ r' = some p ∨ m ≠ n ∧ vs m = some p := by
    intro m p hp
    by_cases e : m = n
    · subst e; rw [updv_same] at hp; exact .inl ⟨rfl, hp⟩
    · rw [updv_other _ _ e] at hp; exact .inr ⟨e, hp⟩
  have sub2 : ∀ m p, updv vs n r' m = some p → ∃ p0, vs m = some p0 := fun m p hp => by
    rcases sub m p hp with ⟨rfl, e⟩ | ⟨_, e⟩
    · obtain ⟨q, hq, _⟩ := hsome p e; exact ⟨q, hq⟩
    · exact ⟨p, e⟩
  refine ⟨{ head := hh, row := ownsRow_block h.row (fun g hg => k.block g (h.lt g (h.tlv g hg)) (by
              rintro (e | e)
              · exact h.lv_ne hR (by decide) (by rw [hg, e])
              · exact h.lv_ne h.head (by decide) (by rw [hg, e]))),
            range := fun m p hp => by obtain ⟨p0, e⟩ := sub2 m p hp; exact h.range m p0 e, live := ?_, bytes := ?_, sized := ?_, dead := ?_, injr := h.injr, injg := ?_, tbx := h.tbx, trb := h.trb,
            tgb := fun m p hp => by obtain ⟨p0, e⟩ := sub2 m p hp; exact h.tgb m p0 e, tlv := h.tlv, lt := fun b hb => Nat.lt_of_lt_of_le (h.lt b hb) k.size, made_le := h.made_le, fail_le := h.fail_le }, k.mono ?_⟩
  · intro m p hp
    rcases sub m p hp with ⟨rfl, e⟩ | ⟨hne, e⟩
    · obtain ⟨q, hq, e1, e2, hb⟩ := hsome p e
      rw [e1, e2]; exact hb
    · exact (h.live m p e).keeps k (notr (h.range m p e).1 (h.range m p e).2 hne (h.live m p e))
  · intro m p hp
    rcases sub m p hp with ⟨rfl, e⟩ | ⟨hne, e⟩
    · obtain ⟨q, hq, e1, e2, hb⟩ := hsome p e
      rw [e2]; exact (h.bytes m q hq).keeps k (notg (h.bytes m q hq) (by decide) (by decide))
    · exact (h.bytes m p e).keeps k (notg (h.bytes m p e) (by decide) (by decide))
  · intro m p hp
    rcases sub m p hp with ⟨rfl, e⟩ | ⟨hne, e⟩
    · obtain ⟨q, hq, e1, e2, hb⟩ := hsome p e
      rw [e1, e2]; exact h.sized m q hq
    · exact h.sized m p e
  · intro m a1 a2 a3
    by_cases e : m = n
    · subst e; rw [updv_same] at a3; exact hnone a3
    · rw [updv_other _ _ e] at a3
      obtain ⟨p, ret, hd⟩ := h.dead m a1 a2 a3
      exact ⟨p, ret, hd.keeps k (notr a1 a2 e hd)⟩
  · intro m m' p p' hp hp' e
    obtain ⟨p0, e0⟩ := sub2 m p hp
    obtain ⟨p1, e1⟩ := sub2 m' p' hp'
    exact h.injg m m' p0 p1 e0 e1 e
  · rintro b (e | e)
    · exact e ▸ h.trb n h1 hm
    · exact e ▸ h.tbx
theorem xput_ok (h : RM w T bx made fail vs rb gb lv) (n o : Nat) (ho : o ≤ 4294967295) (l : List UInt8) (hk : l.length ≤ 1048576) {q : RV} (hs : vs n = some q) (hb : o + l.length ≤ q.2.1.length) :
    Calls Try.prog 27 #[.pointer (some ⟨bx, 0, none⟩), .int .u64 (addr n o), .string (bstr l)] w fun e w' =>
      e = .returned (.int .i64 0) ∧ RM w' T bx made fail (updv vs n (some (q.1, setAt q.2.1 o l, q.2.2))) rb gb lv ∧ Keeps T w w' := by
  have hsz : (bstr l).size = l.length := bstr_size l
  have ca := at_ok h n o ho (bstr l).size (by omega) 0 hs (.inl rfl) (by omega)
  have d0 : w.cell? ⟨rb n, 0, none⟩ = some (.slice (some ⟨gb n, 0, none⟩) q.2.1.length q.2.1.length) := (h.live n q hs).cell 0
  have hle := (h.sized n q hs).2.1
  have h1 : decide (1048576 < ((bstr l).size : Int)) = false := by simp; omega
  have hblk := h.bytes n q hs
  have copied : ∃ w2, (∀ ty (A : Addr) (m : Nat), (0 < (bstr l).size → A = ⟨gb n, o, none⟩) → m = q.2.1.length - o → (Builtin.copy_ #[73, 9] ty #[.slice (some A) m (q.2.1.length - o), .string (bstr l)]).run Try.prog w = .ok (goInt ((bstr l).size : Int)) w2) ∧
      RM w2 T bx made fail (updv vs n (some (q.1, setAt q.2.1 o l, q.2.2))) rb gb lv ∧ Keeps T w w2 := by
    rcases Nat.eq_zero_or_pos l.length with h0 | h0
    · obtain rfl : l = [] := List.eq_nil_of_length_eq_zero h0
      refine ⟨w, fun ty A m _ _ => ?_, h.write hs (Keeps.refl _ _) (by rw [setAt_nil]; exact hblk) (by rw [setAt_nil])⟩
      exact Lib.run_copy_empty_string w _ _ ty _ _ _ _ _ Try.underlying73 (by obtain ⟨i, hi, _⟩ := info_parts info8; rw [hi]; rfl) rfl
    · have e : (setAt q.2.1 o l).map byteV = ((q.2.1.map byteV).toArray.toList.take o ++ Lib.byteCells (bstr l).data.toList ++ (q.2.1.map byteV).toArray.toList.drop (o + (bstr l).size)) := by
        rw [hsz]
        simp only [setAt, List.map_append, List.map_take, List.map_drop]
        rfl
      refine ⟨w.setRow (gb n) ((q.2.1.map byteV).toArray.toList.take o ++ Lib.byteCells (bstr l).data.toList ++ (q.2.1.map byteV).toArray.toList.drop (o + (bstr l).size)).toArray, fun ty A m hA hm => ?_, h.write hs (setRow_keeps _ _ _) (by rw [e]; exact setRow_heap w (gb n) _ _ _ _ hblk) (setAt_length _ _ _ hb)⟩
      obtain rfl := hA (by omega)
      subst hm
      exact Lib.run_copy_row_string (P := Try.prog) w 73 9 ty 5 (gb n) o (q.2.1.length - o) (q.2.1.length - o) (bstr l) (q.2.1.map byteV).toArray 5 Try.underlying73 size8 hblk (by omega) (by rw [hsz]; simpa using hb)
  obtain ⟨w2, hcp, hres⟩ := copied
  have HRES := Lib.hid hres
  have HCP := Lib.hid hcp
  clear hcp hres h hblk
  generalize q.2.1.length = len at *
  generalize rb n = r at *
  generalize gb n = g at *
  generalize addr n o = a at *
  have HC := Lib.hid ca; clear ca
  have hsm : (bstr l).size ≤ 1048576 := by omega
  have hbb : o + (bstr l).size ≤ len := by omega
  generalize hbs : bstr l = sl at HC HCP hsm hbb h1 ⊢
  clear hbs hsz
  have i0 : (0 : Int) ≤ (o : Int) := by omega
  have i2 : (o : Int) ≤ (len : Int) := by omega
  rcases Nat.lt_or_ge o len with hol | hol
  · have hne : ¬ len = o := by omega
    have hne2 : ¬ o = len := by omega
    have hcp := fun ty => HCP.out ty ⟨g, o, none⟩ (len - o) (fun _ => rfl) rfl
    go_enter Try.func27, Try.ntmps27
    go_wp2_with (go_at_call 44; refine HC.out.mono ?_; rintro e w' ⟨rfl, rfl⟩)
    go_ret
    exact ⟨rfl, HRES.out⟩
  · have e1 : len = o := by omega
    subst e1
    have e2 : sl.size = 0 := by omega
    have hcp := fun ty => HCP.out ty ⟨g, 0, none⟩ 0 (fun h => absurd h (by omega)) (by omega)
    rw [Nat.sub_self, e2] at hcp
    have hz : Calls Try.prog 44 #[.pointer (some ⟨bx, 0, none⟩), .int .u64 a, .int .i64 0, .int .i64 0] w (AtPost w (.pointer (some ⟨r, 0, none⟩)) len 0) := by
      have := HC.out
      rw [e2] at this
      exact this
    have HZ := Lib.hid hz
    have hcp' : ∀ ty, (Builtin.copy_ #[73, 9] ty #[.slice (some ⟨g, 0, none⟩) 0 0, .string sl]).run Try.prog w = .ok (goInt 0) w2 := hcp
    clear hcp hz HC HCP
    go_enter Try.func27, Try.ntmps27
    go_wp2_with (go_at_call 44; refine HZ.out.mono ?_; rintro e w' ⟨rfl, rfl⟩)
    go_ret
    exact ⟨rfl, HRES.out⟩
theorem xfree_arg (p : Option Addr) (a : Int) (w : World)
    (hb : Calls Try.prog 39 #[.pointer p, .int .u64 a] w fun e w' => e = .returned (.pointer none) ∧ w = w') :
    Calls Try.prog 15 #[.pointer p, .int .u64 a] w fun e w' => e = .returned (.int .i64 1) ∧ w = w' := by
  go_enter Try.func15, Try.ntmps15
  go_wp2_with (go_at_call 39; refine hb.mono ?_; rintro e w' ⟨rfl, rfl⟩)
  go_ret
  exact ⟨rfl, rfl⟩
theorem xretire_arg (p : Option Addr) (a : Int) (w : World)
    (hb : Calls Try.prog 39 #[.pointer p, .int .u64 a] w fun e w' => e = .returned (.pointer none) ∧ w = w') :
    Calls Try.prog 17 #[.pointer p, .int .u64 a] w fun e w' => e = .returned (.int .i64 1) ∧ w = w' := by
  go_enter Try.func17, Try.ntmps17
  go_wp2_with (go_at_call 39; refine hb.mono ?_; rintro e w' ⟨rfl, rfl⟩)
  go_ret
  exact ⟨rfl, rfl⟩
theorem xretire_again (h : RM w T bx made fail vs rb gb lv) (n : Nat) {q : RV} (hs : vs n = some q) (hq : q.2.2 = true) :
    Calls Try.prog 17 #[.pointer (some ⟨bx, 0, none⟩), .int .u64 (addr n 0)] w fun e w' => e = .returned (.int .i64 1) ∧ w = w' := by
  have c := Lib.hid (first_live h n hs)
  have d2 : w.cell? ⟨rb n, 2, none⟩ = some (.bool q.2.2) := (h.live n q hs).cell 2
  rw [hq] at d2
  clear h hs hq
  generalize rb n = r at *
  generalize addr n 0 = a at *
  go_enter Try.func17, Try.ntmps17
  go_wp2_with (go_at_call 39; refine c.out.mono ?_; rintro e w' ⟨rfl, rfl⟩)
  go_ret
  exact ⟨rfl, rfl⟩
theorem xretire_ok (h : RM w T bx made fail vs rb gb lv) (n : Nat) {q : RV} (hs : vs n = some q) (hq : q.2.2 = false) :
    Calls Try.prog 17 #[.pointer (some ⟨bx, 0, none⟩), .int .u64 (addr n 0)] w fun e w' => e = .returned (.int .i64 0) ∧ RM w' T bx made fail (updv vs n (some (q.1, q.2.1, true))) rb gb lv ∧ Keeps T w w' := by
  have c := Lib.hid (first_live h n hs)
  have d2 : w.cell? ⟨rb n, 2, none⟩ = some (.bool q.2.2) := (h.live n q hs).cell 2
  rw [hq] at d2
  have f2 := (h.live n q hs).frozen 2
  obtain ⟨a1, a2⟩ := h.range n q hs
  have ec : cnt (updv vs n (some (q.1, q.2.1, true))) made = cnt vs made := cnt_congr fun m _ _ => by
    by_cases e : m = n
    · subst e; rw [updv_same, hs]; rfl
    · rw [updv_other _ _ e]
  have hbr : rb n ≠ bx := Blk.ne_ (h.live n q hs) h.head (by decide)
  have HE := Lib.hid (h.put (n := n) (r' := some (q.1, q.2.1, true)) (w2 := w.setCell ⟨rb n, 2, none⟩ (.bool true)) a1 a2 (Keeps.setCell (p := ⟨rb n, 2, none⟩) (Keeps.refl _ w) (.inl (.inl rfl)) _)
    (by rw [ec]; exact h.head.far (p := ⟨rb n, 2, none⟩) (Ne.symm hbr) _) (fun q' e => by cases e; exact ⟨q, hs, rfl, rfl, by have := (h.live n q hs).set_ 2 (.bool true); simpa using this⟩) (fun e => by cases e))
  clear h hs hq ec hbr
  generalize rb n = r at c d2 f2 HE
  generalize addr n 0 = a at *
  go_enter Try.func17, Try.ntmps17
  go_wp2_with (go_at_call 39; refine c.out.mono ?_; rintro e w' ⟨rfl, rfl⟩)
  go_ret
  exact ⟨rfl, HE.out⟩
theorem xfree_ok (h : RM w T bx made fail vs rb gb lv) (n : Nat) {q : RV} (hs : vs n = some q) :
    Calls Try.prog 15 #[.pointer (some ⟨bx, 0, none⟩), .int .u64 (addr n 0)] w fun e w' => e = .returned (.int .i64 0) ∧ RM w' T bx made fail (updv vs n none) rb gb lv ∧ Keeps T w w' := by
  have c := Lib.hid (first_live h n hs)
  have hR := h.live n q hs
  have d0 := hR.cell 0
  have f0 := hR.frozen 0
  obtain ⟨a1, a2⟩ := h.range n q hs
  have ec := cnt_none (vs := vs) a1 (by rw [hs]; rfl) made a2
  have hcl := cnt_le vs made
  have hmd := h.made_le
  have hbr : rb n ≠ bx := Blk.ne_ hR h.head (by decide)
  have H1 : Blk (w.setCell ⟨rb n, 0, none⟩ (.slice none 0 0)) bx 28 #[lv, .int .i64 (cnt vs made), .int .i64 fail] := h.head.far (p := ⟨rb n, 0, none⟩) (Ne.symm hbr) _
  have R1 : Blk (w.setCell ⟨rb n, 0, none⟩ (.slice none 0 0)) (rb n) 78 #[.slice none 0 0, .int .i64 q.1, .bool q.2.2] := by have := hR.set_ 0 (.slice none 0 0); simpa using this
  have HE := Lib.hid (h.put (n := n) (r' := none) (w2 := (w.setCell ⟨rb n, 0, none⟩ (.slice none 0 0)).setCell ⟨bx, 1, none⟩ (.int .i64 (cnt (updv vs n none) made))) a1 a2
    (Keeps.setCell (p := ⟨bx, 1, none⟩) (Keeps.setCell (p := ⟨rb n, 0, none⟩) (Keeps.refl _ w) (.inl (.inl rfl)) _) (.inl (.inr rfl)) _) (by have := H1.set_ 1 (.int .i64 (cnt (updv vs n none) made)); simpa using this) (fun q' e => by cases e) (fun _ => ⟨q.1, q.2.2, R1.far (p := ⟨bx, 1, none⟩) hbr _⟩))
  have c1 : (w.setCell ⟨rb n, 0, none⟩ (.slice none 0 0)).cell? ⟨bx, 1, none⟩ = some (.int .i64 (cnt vs made)) := H1.cell 1
  have f1 : (w.setCell ⟨rb n, 0, none⟩ (.slice none 0 0)).frozen? ⟨bx, 1, none⟩ = false := H1.frozen 1
  have c1' : w.cell? ⟨bx, 1, none⟩ = some (.int .i64 (cnt vs made)) := h.head.cell 1
  have f1' : w.frozen? ⟨bx, 1, none⟩ = false := h.head.frozen 1
  obtain ⟨C, hC⟩ : ∃ C, C = cnt (updv vs n none) made := ⟨_, rfl⟩
  rw [← hC] at ec HE
  have hsub : ((cnt vs made : Nat) : Int) - 1 = (C : Int) := by omega
  generalize cnt vs made = D at *
  clear h hs H1 R1 hR hC
  generalize rb n = r at c d0 f0 HE hbr c1 f1
  generalize addr n 0 = a at *
  go_enter Try.func15, Try.ntmps15
  go_wp2_with (go_at_call 39; refine c.out.mono ?_; rintro e w' ⟨rfl, rfl⟩)
  go_ret
  exact ⟨rfl, HE.out⟩
end
end Go.Proofs.Ytmbkagjdhpfngaa
