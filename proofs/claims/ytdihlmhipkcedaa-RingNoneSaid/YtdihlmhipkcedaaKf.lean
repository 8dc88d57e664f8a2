/-
  The functions once more, for a memory whose blocks all lie from block B on: what the laws want.
-/
import Derived.Test.YtdihlmhipkcedaaFree
namespace Go.Proofs.Ytdihlmhipkcedaa
open Go Go.RowKit Go.Maps
set_option linter.unusedVariables false

/-- What a region holds for whoever asks. -/
def RG.v (r : RG) : Int × List UInt8 × Bool := (r.perm, r.bytes, r.ret)
/-- From w0 on only blocks from B on have turned, and there the memory lies. -/
def KF (B : Nat) (w0 w : World) (bm made fail : Nat) (st : Nat → Option RG) (rl : List Nat) : Prop :=
  Below B w0 w ∧ B ≤ w.heap.size ∧ ∃ S mv rv, KM w S bm made fail st rl mv rv ∧ ∀ b, S b → B ≤ b
/-- .. and region n is what v says. -/
def KFr (B : Nat) (w0 : World) (bm made fail : Nat) (st : Nat → Option RG) (rl : List Nat) (n : Nat) (v : Int × List UInt8 × Bool) (w : World) : Prop :=
  ∃ r, KF B w0 w bm made fail (upd st n (some r)) rl ∧ r.v = v
section
variable {B : Nat} {w0 w w1 : World} {S : Nat → Prop} {bm made fail : Nat} {st : Nat → Option RG} {rl : List Nat} {mv rv : Value}
theorem KF.next {bm' made' fail' : Nat} {st' : Nat → Option RG} {rl' : List Nat} {mv' rv' : Value} (hb : Below B w0 w) (hB : B ≤ w.heap.size) (hS : ∀ b, S b → B ≤ b) (hk : KM w1 (more S w w1) bm' made' fail' st' rl' mv' rv') (k : Keeps S w w1) : KF B w0 w1 bm' made' fail' st' rl' :=
  ⟨hb.trans (k.below hS hB), Nat.le_trans hB k.size, _, _, _, hk, fun b hb => by
    rcases hb with h | ⟨h, _⟩
    · exact hS b h
    · omega⟩
theorem KF.start (w : World) : KF w.heap.size w (w.alloc (.cells #[.map none, .int .u32 0, .slice none 0 0, .int .i64 0] 51)) w.heap.size 0 0 (fun _ => none) [] := by
  refine ⟨(Below.refl _ _).alloc (Nat.le_refl _) _, by simp, (fun b => b = w.heap.size), .map none, .slice none 0 0, ?_, fun b h => by omega⟩
  exact {
    mem := by have := Blk.new w 51 #[.map none, .int .u32 0, .slice none 0 0, .int .i64 0]; simpa using this
    map := .inl ⟨rfl, fun _ => rfl⟩
    range := fun n r h => by cases h
    regs := fun n r h => by cases h
    inj := fun n n' r r' h => by cases h
    injr := fun n n' r r' g h => by cases h
    ret := World.ownsRow_nil _ _ _ _
    retM := fun n => by simp
    retN := List.nodup_nil
    sbm := rfl
    sreg := fun n r h => by cases h
    srv := fun g h => by cases h
    lt := fun b h => by simp; omega
    made_le := by omega
    fail_le := by omega }
theorem kf_alloc (h : KF B w0 w bm made fail st rl) (hf : fail ≠ 1) (hmade : made < 4095) (size perm : Nat) (h1 : 1 ≤ size) (h2 : size ≤ 1048576) (h3 : 1 ≤ perm) (h4 : perm ≤ 3) :
    Calls Try.prog 24 #[.pointer (some ⟨bm, 0, none⟩), .int .i64 size, .int .i64 perm] w fun e w' => e = .returned (.tuple #[.int .u64 (addr (made + 1) 0), .int .i64 0]) ∧ KFr B w0 bm (made + 1) (fail - 1) st rl (made + 1) ((perm : Int), List.replicate size 0, false) w' := by
  obtain ⟨hb, hB, S, mv, rv, hk, hS⟩ := h
  refine (alloc_ok hk hf hmade size perm h1 h2 h3 h4).mono ?_
  rintro e w' ⟨rfl, r, mv', hk', kk, e1, e2, e3, e4⟩
  exact ⟨rfl, r, KF.next hb hB hS hk' kk, by simp [RG.v, e1, e2, e3]⟩
theorem kf_bytes (h : KF B w0 w bm made fail st rl) (n o : Nat) (hn : n ≤ 4294967295) (ho : o ≤ 4294967295) (k : Nat) (hk : k ≤ 1048576) {r : RG} (hs : st n = some r) (hb : o + k ≤ r.bytes.length) :
    Calls Try.prog 28 #[.pointer (some ⟨bm, 0, none⟩), .int .u64 (addr n o), .int .i64 (k : Int)] w fun e w' => e = .returned (.tuple #[.string (bstr ((r.bytes.drop o).take k)), .int .i64 0]) ∧ KFr B w0 bm made fail st rl n r.v w' := by
  obtain ⟨hb', hB, S, mv, rv, hkm, hS⟩ := h
  refine (bytes_ok hkm n o hn ho k hk hs hb).mono ?_
  rintro e w' ⟨rfl, g, hk', kk, _⟩
  exact ⟨rfl, _, KF.next hb' hB hS hk' kk, rfl⟩
theorem kf_free (h : KF B w0 w bm made fail st rl) (n : Nat) {r : RG} (hs : st n = some r) (hret : r.ret = false) :
    Calls Try.prog 31 #[.pointer (some ⟨bm, 0, none⟩), .int .u64 (addr n 0)] w fun e w' => e = .returned (.int .i64 0) ∧ KF B w0 w' bm made fail (upd st n none) rl := by
  obtain ⟨hb', hB, S, mv, rv, hkm, hS⟩ := h
  refine (free_ok hkm n hs hret).mono ?_
  rintro e w' ⟨rfl, hk', kk⟩
  exact ⟨rfl, KF.next hb' hB hS hk' kk⟩
end
end Go.Proofs.Ytdihlmhipkcedaa
