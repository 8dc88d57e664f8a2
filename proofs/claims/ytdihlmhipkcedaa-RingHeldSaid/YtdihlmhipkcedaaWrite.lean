/-
  Write: the lowest bytes of a number into a region, or the fault.
-/
import Derived.Test.YtdihlmhipkcedaaRead
namespace Go.Proofs.Ytdihlmhipkcedaa
open Go Go.RowKit Go.Maps
set_option linter.unusedVariables false

/-- The bytes s put over those from o on. -/
def setAt (l : List UInt8) (o : Nat) (s : List UInt8) : List UInt8 := l.take o ++ s ++ l.drop (o + s.length)
theorem setAt_nil (l : List UInt8) (o : Nat) : setAt l o [] = l := by simp [setAt]
theorem setAt_length (l : List UInt8) (o : Nat) (s : List UInt8) (h : o + s.length ≤ l.length) : (setAt l o s).length = l.length := by simp [setAt]; omega
theorem setAt_get (l : List UInt8) (o : Nat) (s : List UInt8) (h : o + s.length ≤ l.length) (i : Nat) : (setAt l o s)[i]? = if o ≤ i ∧ i < o + s.length then s[i - o]? else l[i]? := by
  unfold setAt
  rw [List.getElem?_append, List.getElem?_append]
  simp only [List.length_append, List.length_take, List.getElem?_take, List.getElem?_drop]
  have e : min o l.length = o := by omega
  rw [e]
  by_cases h1 : i < o
  · rw [if_pos (by omega), if_pos h1, if_pos h1, if_neg (by omega)]
  · by_cases h2 : i < o + s.length
    · rw [if_pos h2, if_neg h1, if_pos ⟨by omega, h2⟩]
    · rw [if_neg h2, if_neg (by omega)]
      congr 1; omega
theorem setAt_snoc (l : List UInt8) (o : Nat) (s : List UInt8) (b : UInt8) (h : o + s.length < l.length) : setAt l o (s ++ [b]) = (setAt l o s).set (o + s.length) b := by
  apply List.ext_getElem?
  intro i
  rw [setAt_get _ _ _ (by simp; omega), List.getElem?_set, setAt_get _ _ _ (by omega), setAt_length _ _ _ (by omega)]
  by_cases h1 : o + s.length = i
  · subst h1; simp [h]
  · rw [if_neg h1]
    by_cases h2 : o ≤ i ∧ i < o + s.length
    · rw [if_pos h2, if_pos (by simp; omega), List.getElem?_append_left (by omega)]
    · rw [if_neg h2, if_neg (by simp; omega)]
/-- The lowest k bytes of n. -/
def wb (n k : Nat) : List UInt8 := (List.range k).map fun i => UInt8.ofNat (n / 256 ^ i)
theorem wb_length (n k : Nat) : (wb n k).length = k := by simp [wb]
theorem wb_succ (n k : Nat) : wb n (k + 1) = wb n k ++ [UInt8.ofNat (n / 256 ^ k)] := by simp [wb, List.range_succ]
theorem byteV_ofNat (m : Nat) : byteV (UInt8.ofNat m) = .int .u8 ((m % 256 : Nat) : Int) := by unfold byteV; rw [UInt8.toNat_ofNat']

section
variable {w w1 w2 : World} {S : Nat → Prop} {bm made fail : Nat} {st : Nat → Option RG} {rl : List Nat} {mv rv : Value}
theorem upd_upd (st : Nat → Option RG) (n : Nat) (a b : Option RG) : upd (upd st n a) n b = upd st n b := by
  funext k
  by_cases h : k = n
  · subst h; simp [upd]
  · simp [upd, h]
/-- Other bytes in a region whose row is there. -/
theorem AllPost.write {n g : Nat} {r : RG} {ys : List UInt8} (h : AllPost w S bm made fail st rl mv rv n r w1 g) (k : Keeps (fun b => b = g) w1 w2) (hb : Blk w2 g 5 (ys.map byteV).toArray) (hl : ys.length = r.bytes.length) :
    KM w2 (more S w w2) bm made fail (upd st n (some { r with row := some g, bytes := ys })) rl mv rv ∧ Keeps S w w2 := by
  obtain ⟨hk, kk, hS⟩ := h
  have hr := hk.regs n _ (upd_same st n _)
  have hd : Blk w2 r.blk _ _ := hr.head.keeps k (fun e => Blk.ne_ hr.head (hr.rows g rfl) (by decide) e)
  have := hk.region (upd_same st n _) (r' := { r with row := some g, bytes := ys }) k rfl rfl (fun b _ e => .inr (by rw [e]))
    ⟨by simpa [RG.sl, hl] using hd, fun g' hg' => by cases hg'; exact hb, (fun e => by cases e), by have := hr.pos; simpa [hl] using this, by have := hr.le; simpa [hl] using this, hr.p1, hr.p3⟩
    (fun g' hg' => .inl hg')
  rw [upd_upd] at this
  exact KM.chain kk (k.mono (fun b e => e ▸ (hk.sreg n _ (upd_same st n _)).2 g rfl)) this

def WritePost (w : World) (S : Nat → Prop) (bm made fail : Nat) (st : Nat → Option RG) (rl : List Nat) (mv rv : Value) (n : Nat) (r : RG) (ys : List UInt8) (w' : World) : Prop :=
  ∃ g, KM w' (more S w w') bm made fail (upd st n (some { r with row := some g, bytes := ys })) rl mv rv ∧ Keeps S w w'
end
end Go.Proofs.Ytdihlmhipkcedaa
