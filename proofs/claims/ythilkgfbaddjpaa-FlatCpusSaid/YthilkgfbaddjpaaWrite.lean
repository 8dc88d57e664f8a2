/-
  Write: the lowest bytes of a number into a region, or the fault.
-/
import Derived.Test.YthilkgfbaddjpaaRead
namespace Go.Proofs.Ythilkgfbaddjpaa
open Go Go.RowKit Go.Maps
set_option linter.unusedVariables false

/-- The bytes s put over those from o on. -/
def setAt (l : List UInt8) (o : Nat) (s : List UInt8) : List UInt8 := l.take o ++ s ++ l.drop (o + s.length)
theorem setAt_nil (l : List UInt8) (o : Nat) : setAt l o [] = l := by simp [setAt]
theorem setAt_length (l : List UInt8) (o : Nat) (s : List UInt8) (h : o + s.length ≤ l.length) : (setAt l o s).length = l.length := by simp [setAt]; omega
theorem setAt_get (l : List UInt8) (o : Nat) (s : List UInt8) (h : o + s.length ≤ l.length) (i : Nat) : (setAt l o s)[i]? = if o ≤ i ∧ i < o + s.length then s[i - o]? else l[i]? := by
  unfold setAt
  rw [List.getElem?_append, List.getElem?_append]
  simp only [List.length_append, List.length_take, List.getElem?_take, List.getElem?_drop]
  have e : min o l.length = o := by omega
  rw [e]
  by_cases h1 : i < o
  · rw [if_pos (by omega), if_pos h1, if_pos h1, if_neg (by omega)]
  · by_cases h2 : i < o + s.length
    · rw [if_pos h2, if_neg h1, if_pos ⟨by omega, h2⟩]
    · rw [if_neg h2, if_neg (by omega)]
      congr 1; omega
theorem setAt_snoc (l : List UInt8) (o : Nat) (s : List UInt8) (b : UInt8) (h : o + s.length < l.length) : setAt l o (s ++ [b]) = (setAt l o s).set (o + s.length) b := by
  apply List.ext_getElem?
  intro i
  rw [setAt_get _ _ _ (by simp; omega), List.getElem?_set, setAt_get _ _ _ (by omega), setAt_length _ _ _ (by omega)]
  by_cases h1 : o + s.length = i
  · subst h1; simp [h]
  · rw [if_neg h1]
    by_cases h2 : o ≤ i ∧ i < o + s.length
    · rw [if_pos h2, if_pos (by simp; omega), List.getElem?_append_left (by omega)]
    · rw [if_neg h2, if_neg (by simp; omega)]
/-- The lowest k bytes of n. -/
def wb (n k : Nat) : List UInt8 := (List.range k).map fun i => UInt8.ofNat (n / 256 ^ i)
theorem wb_length (n k : Nat) : (wb n k).length = k := by simp [wb]
theorem wb_succ (n k : Nat) : wb n (k + 1) = wb n k ++ [UInt8.ofNat (n / 256 ^ k)] := by simp [wb, List.range_succ]
theorem byteV_ofNat (m : Nat) : byteV (UInt8.ofNat m) = .int .u8 ((m % 256 : Nat) : Int) := by unfold byteV; rw [UInt8.toNat_ofNat']

section
variable {w w1 w2 : World} {S : Nat → Prop} {bm made fail : Nat} {st : Nat → Option RG} {rl : List Nat} {mv rv : Value}
theorem upd_upd (st : Nat → Option RG) (n : Nat) (a b : Option RG) : upd (upd st n a) n b = upd st n b := by
  funext k
  by_cases h : k = n
  · subst h; simp [upd]
  · simp [upd, h]
/-- Other bytes in a region whose row is there. -/
theorem AllPost.write {n g : Nat} {r : RG} {ys : List UInt8} (h : AllPost w S bm made fail st rl mv rv n r w1 g) (k : Keeps (fun b => b = g) w1 w2) (hb : Blk w2 g 5 (ys.map byteV).toArray) (hl : ys.length = r.bytes.length) :
    KM w2 (more S w w2) bm made fail (upd st n (some { r with row := some g, bytes := ys })) rl mv rv ∧ Keeps S w w2 := by
  obtain ⟨hk, kk, hS⟩ := h
  have hr := hk.regs n _ (upd_same st n _)
  have hd : Blk w2 r.blk _ _ := hr.head.keeps k (fun e => Blk.ne_ hr.head (hr.rows g rfl) (by decide) e)
  have := hk.region (upd_same st n _) (r' := { r with row := some g, bytes := ys }) k rfl rfl (fun b _ e => .inr (by rw [e]))
    ⟨by simpa [RG.sl, hl] using hd, fun g' hg' => by cases hg'; exact hb, (fun e => by cases e), by have := hr.pos; simpa [hl] using this, by have := hr.le; simpa [hl] using this, hr.p1, hr.p3⟩
    (fun g' hg' => .inl hg')
  rw [upd_upd] at this
  exact KM.chain kk (k.mono (fun b e => e ▸ (hk.sreg n _ (upd_same st n _)).2 g rfl)) this

theorem write_nil (a size u : Int) (w : World) :
    Calls Try.prog 37 #[.pointer none, .int .u64 a, .int .i64 size, .int .u64 u] w fun e w' => e = .returned (.int .i64 1) ∧ w = w' := by
  go_enter Try.func37, Try.ntmps37
  go_wp2_with fail
  go_ret
  exact ⟨rfl, rfl⟩
theorem write_arg (p : Addr) (a size u : Int) (hs : ¬ (size = 1 ∨ size = 2 ∨ size = 4 ∨ size = 8)) (w : World) :
    Calls Try.prog 37 #[.pointer (some p), .int .u64 a, .int .i64 size, .int .u64 u] w fun e w' => e = .returned (.int .i64 1) ∧ w = w' := by
  have c := isSize_no size hs w
  clear hs
  go_enter Try.func37, Try.ntmps37
  go_wp2_with (go_at_call 54; refine c.mono ?_; rintro e w' ⟨rfl, rfl⟩)
  go_ret
  exact ⟨rfl, rfl⟩
theorem write_fault (p : Addr) (a size u z : Int) (hs : size = 1 ∨ size = 2 ∨ size = 4 ∨ size = 8) (w : World)
    (hf : Calls Try.prog 47 #[.pointer (some p), .int .u64 a, .int .i64 size, .int .i64 2] w fun e w' => e = .returned (.tuple #[.slice none 0 0, .int .i64 z]) ∧ w = w') :
    Calls Try.prog 37 #[.pointer (some p), .int .u64 a, .int .i64 size, .int .u64 u] w fun e w' => e = .returned (.int .i64 z) ∧ w = w' := by
  have c := isSize_yes size hs w
  clear hs
  go_enter Try.func37, Try.ntmps37
  go_wp2_with (first
    | (go_at_call 54; refine c.mono ?_; rintro e w' ⟨rfl, rfl⟩)
    | (go_at_call 47; refine hf.mono ?_; rintro e w' ⟨rfl, rfl⟩))
  go_loop [28] (fun i => i = .int .i64 0) (fun _ => 0)
  case atStart => rfl
  case round =>
    obtain rfl := hrel
    go_wp2
    go_ret
    exact ⟨rfl, rfl⟩
def WritePost (w : World) (S : Nat → Prop) (bm made fail : Nat) (st : Nat → Option RG) (rl : List Nat) (mv rv : Value) (n : Nat) (r : RG) (ys : List UInt8) (w' : World) : Prop :=
  ∃ g, KM w' (more S w w') bm made fail (upd st n (some { r with row := some g, bytes := ys })) rl mv rv ∧ Keeps S w w'
theorem write_ok (h : KM w S bm made fail st rl mv rv) (n o : Nat) (hn : n ≤ 4294967295) (ho : o ≤ 4294967295) (k : Nat) (hk : (k : Int) = 1 ∨ (k : Int) = 2 ∨ (k : Int) = 4 ∨ (k : Int) = 8) (u : Nat) (hu : u ≤ 18446744073709551615) {r : RG} (hs : st n = some r) (hp : (bits .and .i64 r.perm 2 != 2) = false) (hb : o + k ≤ r.bytes.length) :
    Calls Try.prog 37 #[.pointer (some ⟨bm, 0, none⟩), .int .u64 (addr n o), .int .i64 (k : Int), .int .u64 (u : Int)] w fun e w' =>
      e = .returned (.int .i64 0) ∧ WritePost w S bm made fail st rl mv rv n r (setAt r.bytes o (wb u k)) w' := by
  have c := isSize_yes k hk w
  have cf := find_ok h n o hn ho k (by omega) 2 hs hp hb
  have hk8 : k ≤ 8 := by omega
  have hk1 : 0 < k := by omega
  have hle := (h.regs n r hs).le
  clear h hs hp hk
  generalize addr n o = a at *
  have HP : Hid (∀ w1 g, AllPost w S bm made fail st rl mv rv n r w1 g → Blk w1 g 5 (r.bytes.map byteV).toArray ∧ ∀ w2 ys, Keeps (fun b => b = g) w1 w2 → Blk w2 g 5 (ys.map byteV).toArray → ys.length = r.bytes.length → WritePost w S bm made fail st rl mv rv n r ys w2) :=
    fun w1 g h => ⟨(h.1.regs n _ (upd_same st n _)).rows g rfl, fun w2 ys k hb hl => ⟨g, h.write k hb hl⟩⟩
  generalize WritePost w S bm made fail st rl mv rv n r = post at HP ⊢
  unfold FindPost at cf
  generalize AllPost w S bm made fail st rl mv rv n r = apost at HP cf
  generalize hxs : r.bytes = xs at *
  clear hxs
  go_enter Try.func37, Try.ntmps37
  go_wp2_with (first
    | (go_at_call 54; refine c.mono ?_; rintro e w' ⟨rfl, rfl⟩)
    | (go_at_call 47; refine cf.mono ?_; rintro e w1 ⟨g, A, rfl, hA, ha⟩; obtain rfl := hA hk1; clear hA; have HC := Lib.hid ha; clear ha))
  have HC2 := Lib.hid (HP.out _ _ HC.out)
  clear HC HP c cf
  go_loopw [28] (fun i wr => ∃ j : Nat, j ≤ k ∧ i = .int .i64 j ∧ Keeps (fun b => b = g) w1 wr ∧ Blk wr g 5 ((setAt xs o (wb u j)).map byteV).toArray) (fun i _ => k - (intOf i).toNat)
  case atStart => exact ⟨0, by omega, rfl, Keeps.refl _ _, by have := HC2.out.1; simpa [wb, setAt_nil] using this⟩
  case round =>
    obtain ⟨j, hj, rfl, hkw, hbw⟩ := hrel
    have HW := Lib.hid hkw; clear hkw
    have HB := Lib.hid hbw; clear hbw
    by_cases hlt : j < k
    · have hx : o + j < (setAt xs o (wb u j)).length := by rw [setAt_length _ _ _ (by rw [wb_length]; omega)]; omega
      have hcell := HB.out.cell (o + j)
      rw [List.getElem?_toArray, List.getElem?_map, List.getElem?_eq_getElem hx] at hcell
      simp only [Option.map_some] at hcell
      have hfr := HB.out.frozen (o + j)
      have hj8 : (8 : Int) * j ≤ 63 := by omega
      go_wp2
      go_roundw
      case rel =>
        refine ⟨j + 1, by omega, by go_num, ?_, ?_⟩
        · exact Keeps.setCell (p := ⟨g, o + j, none⟩) HW.out (.inl rfl) _
        · have e0 := HB.out.set_ (o + j) (byteV (UInt8.ofNat (u / 256 ^ j)))
          have e1 : byteV (UInt8.ofNat (u / 256 ^ j)) = .int .u8 ((u : Int) / 2 ^ (8 * j) % 256) := by
            rw [byteV_ofNat, pow_256]
            congr 1
          have e2 : ((setAt xs o (wb u j)).map byteV).toArray.setIfInBounds (o + j) (byteV (UInt8.ofNat (u / 256 ^ j))) = ((setAt xs o (wb u (j + 1))).map byteV).toArray := by
            rw [wb_succ, setAt_snoc _ _ _ _ (by rw [wb_length]; omega), wb_length, List.map_set]
            simp
          rw [e2, e1] at e0
          exact e0
      case measure => simp [intOf]; omega
    · have : j = k := by omega
      subst this
      go_wp2
      go_ret
      exact ⟨rfl, HC2.out.2 _ _ HW.out HB.out (setAt_length _ _ _ (by rw [wb_length]; omega))⟩
end
end Go.Proofs.Ythilkgfbaddjpaa
