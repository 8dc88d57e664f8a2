/-
  Package asm: numbers with a sign, of 16 and of 32 bits. A rune that is no byte by itself: every byte of it is 128 or more, and lies in its text. The words of a line, byte by byte: where a word begins, how many blanks stand behind the last, and what a rune of several bytes does. A range over a string whose rounds make memory: the place that it stands at lies at its own region, and a step writes that region alone. Rows of texts that a call makes for itself, and an append of one to them; a step of a range over a string keeps them. Package asm: the words of a line, exact.
-/
import Derived.Test.YtemiklbkfogjeaaGreatDoorQ01
import Derived.Test.YtemiklbkfogjeaaGreatDoorQ00
import Derived.Laws.Rows
import Derived.OwnWalk
import Derived.Maps.AppendAt
import Derived.Laws.OwnMore
import Derived.Laws.MakeOwn
import Derived.Deep.AppendLies
namespace Go.Proofs.YtemiklbkfogjeaaGreatDoor
open Go Go.RowKit
set_option linter.unusedVariables false
set_option linter.unusedSimpArgs false
set_option maxRecDepth 100000
def mostOf (below : Bool) (bits : Nat) : Nat := if below then 2 ^ (bits - 1) else 2 ^ (bits - 1) - 1
/-- The number that a word is; none: it is none. -/
def digN (most : Nat) (s : ByteArray) : Option Nat := if s.size = 0 then none else digS most s
def signS (below : Bool) (s : ByteArray) (bits : Nat) : Option Int := (digN (mostOf below bits) s).bind fun n => if below = true ∧ n = 0 then none else some (if below then -(n : Int) else n)
def signA (o : Option Int) : Ending := .returned (.tuple #[.int .i64 (o.getD 0), .bool o.isSome])
theorem digL_le {most : Nat} (h9 : 9 ≤ most) : ∀ {l : List UInt8} {n m : Nat} {first : Bool}, n ≤ most → digL most n first l = some m → m ≤ most
 | [], n, m, _, hn, h => by unfold digL at h; cases h; exact hn
 | b :: r, n, m, first, hn, h => by
  unfold digL at h
  split at h
  ·cases h
  ·rename_i hc
   exact digL_le h9 (by omega) h
theorem digN_le {most m : Nat} {s : ByteArray} (h9 : 9 ≤ most) (h : digN most s = some m) : m ≤ most := by
 unfold digN at h
 split at h
 ·cases h
 ·exact digL_le h9 (Nat.zero_le _) h
theorem isEmpty_size (s : ByteArray) : s.toList.isEmpty = decide (s.size = 0) := by
 rw [Lib.toList_data, Lib.size_eq]
 cases s.data.toList <;> simp
/-- What digits answers, as a number or none. -/
theorem digA_eq (most : Nat) (s : ByteArray) : ∃ n : Nat, digA s (digS most s) = .returned (.tuple #[.int .u64 (n : Int), .bool (digN most s).isSome]) ∧ ∀ m, digN most s = some m → m = n := by
 refine ⟨(digS most s).getD 0, ?_, fun m hm => ?_⟩
 ·unfold digA digN
  rw [isEmpty_size]
  by_cases h : s.size = 0
  ·rw [if_pos h, decide_eq_true h]; simp
  ·rw [if_neg h, decide_eq_false h]; simp
 ·unfold digN at hm
  split at hm
  ·cases hm
  ·rw [hm]; rfl
set_option maxHeartbeats 2000000 in
theorem signed_any (below : Bool) (s : ByteArray) (bits : Nat) (hb : bits = 16 ∨ bits = 32) (w : World) :
  Calls Tryz.prog 110 #[.bool below, .string s, .int .i64 bits] w fun e w' => e = signA (signS below s bits) ∧ ∃ pos, w' = w.iter s pos := by
 have hmost : 9 ≤ mostOf below bits ∧ mostOf below bits ≤ 2147483648 := by
  rcases hb with rfl | rfl <;> cases below <;> decide
 have CD := digits_any s (mostOf below bits) hmost.1 (by omega) w
 obtain ⟨n, en, hn⟩ := digA_eq (mostOf below bits) s
 rw [en] at CD
 have hnle : ∀ m, digN (mostOf below bits) s = some m → n ≤ 2147483648 := fun m hm => by
  have h1 := hn m hm
  have h2 := digN_le hmost.1 hm
  omega
 have HC : Hid (Calls Tryz.prog 51 #[.string s, .int .u64 (mostOf below bits)] w fun e w' => e = .returned (.tuple #[.int .u64 (n : Int), .bool (digN (mostOf below bits) s).isSome]) ∧ ∃ pos, w' = w.iter s pos) := CD
 have HS : Hid (signS below s bits = (digN (mostOf below bits) s).bind fun n => if below = true ∧ n = 0 then none else some (if below then -(n : Int) else n)) := rfl
 clear CD en
 have hways : digN (mostOf below bits) s = none ∨ (digN (mostOf below bits) s = some n ∧ n ≤ 2147483648) := by
  rcases h : digN (mostOf below bits) s with _ | m
  ·exact .inl rfl
  ·exact .inr ⟨by rw [← hn m h], hnle m h⟩
 clear hn hnle hmost
 have e16 : mostOf false 16 = 32767 := by decide
 have e16' : mostOf true 16 = 32768 := by decide
 have e32 : mostOf false 32 = 2147483647 := by decide
 have e32' : mostOf true 32 = 2147483648 := by decide
 rcases hb with rfl | rfl <;> cases below
 all_goals first
  | rw [e16] at HC HS hways
  | rw [e16'] at HC HS hways
  | rw [e32] at HC HS hways
  | rw [e32'] at HC HS hways
 all_goals clear e16 e16' e32 e32'
 all_goals
  rcases hways with hd | ⟨hd, hle⟩
  all_goals rw [hd] at HC HS
  all_goals clear hd
 all_goals try (
  have HX : Hid (signS _ s _ = none) := HS.out
  clear HS
  go_enter Tryz.func110, Tryz.ntmps110
  go_wp2_with (go_at_call 51; refine HC.out.mono ?_; rintro e w1 ⟨rfl, pos, rfl⟩)
  go_ret2
  exact ⟨by rw [HX.out]; rfl, _, rfl⟩)
 all_goals
  have e9 : IntKind.i64.wrap (n : Int) = (n : Int) := IntWalk.i64_in _ (by omega)
  have e8 : IntKind.i64.wrap (-(n : Int)) = -(n : Int) := IntWalk.i64_in _ (by omega)
 all_goals
  go_enter Tryz.func110, Tryz.ntmps110
  go_wp2_with (go_at_call 51; refine HC.out.mono ?_; rintro e w1 ⟨rfl, pos, rfl⟩)
 all_goals go_ret2
 all_goals refine ⟨?_, _, rfl⟩
 all_goals rw [HS.out]
 all_goals unfold signA
 all_goals first
  | rfl
  | (have hz := ‹(((n : Nat) : Int) == 0) = false›
     have h0 : n ≠ 0 := fun h => by rw [h] at hz; cases hz
     simp [h0])
  | (have hz := ‹(((n : Nat) : Int) == 0) = true›
     have h0 : n = 0 := by have := eq_of_beq hz; omega
     simp [h0])
  | simp
end Go.Proofs.YtemiklbkfogjeaaGreatDoor
namespace Go.Proofs.YtemiklbkfogjeaaGreatDoor
open Go Go.RowKit
set_option linter.unusedVariables false
set_option linter.unusedSimpArgs false
theorem get_at' (s : ByteArray) (i : Nat) (h : i < s.size) : s.get! i = s[i]'h := by
 simp [ByteArray.get!, getElem!_pos, h]
 rfl
theorem high_bytes (s : ByteArray) (pos : Nat) (h : pos < s.size) (ha : 128 ≤ (s[pos]'h).toNat) : ∀ j, j < (Utf8.decode s pos).2 → pos + j < s.size ∧ 128 ≤ (s.get! (pos + j)).toNat := by
 have hg : 128 ≤ (s.get! (pos + 0)).toNat := by rw [Nat.add_zero, get_at' s pos h]; exact ha
 have hc : ∀ k, (decide (pos + k < s.size) && (s.get! (pos + k)).toNat / 64 == 2) = true → pos + k < s.size ∧ 128 ≤ (s.get! (pos + k)).toNat := by
  intro k hk
  rw [Bool.and_eq_true, decide_eq_true_eq, beq_iff_eq] at hk
  exact ⟨hk.1, by omega⟩
 have hz : pos + 0 < s.size ∧ 128 ≤ (s.get! (pos + 0)).toNat := ⟨h, hg⟩
 have h1 := hc 1
 have h2 := hc 2
 have h3 := hc 3
 unfold Utf8.decode
 simp only
 intro j
 repeat' split
 all_goals intro hj
 all_goals simp only at hj
 all_goals simp only [Bool.and_eq_true] at *
 all_goals
  first
   | (have : j = 0 := by omega
      subst this; exact hz)
   | (have : j = 0 ∨ j = 1 := by omega
      rcases this with rfl | rfl
      · exact hz
      · exact h1 (by simp_all))
   | (have : j = 0 ∨ j = 1 ∨ j = 2 := by omega
      rcases this with rfl | rfl | rfl
      · exact hz
      · exact h1 (by simp_all)
      · exact h2 (by simp_all))
   | (have : j = 0 ∨ j = 1 ∨ j = 2 ∨ j = 3 := by omega
      rcases this with rfl | rfl | rfl | rfl
      · exact hz
      · exact h1 (by simp_all)
      · exact h2 (by simp_all)
      · exact h3 (by simp_all))
/-- Words that were read, where one begins that is being read, blanks behind the last. -/
def wordsL (s : ByteArray) : List UInt8 → Nat → List ByteArray → Option Nat → Nat → Option (List ByteArray)
 | [], _, ws, none, _ => some ws
 | [], _, ws, some f, _ => some (ws ++ [s.extract f s.size])
 | b :: r, at', ws, some f, gap => if b.toNat = 32 then wordsL s r (at' + 1) (ws ++ [s.extract f at']) none 1 else wordsL s r (at' + 1) ws (some f) gap
 | b :: r, at', ws, none, gap =>
  if b.toNat = 32 then wordsL s r (at' + 1) ws none (gap + 1)
  else if ws.length = 8 ∨ (0 < ws.length ∧ 1 < gap) then none
  else wordsL s r (at' + 1) ws (some at') gap
/-- From a place on. -/
def wordsAt (s : ByteArray) (at' : Nat) (ws : List ByteArray) (from' : Option Nat) (gap : Nat) : Option (List ByteArray) := wordsL s (s.data.toList.drop at') at' ws from' gap
def wordsS (s : ByteArray) : Option (List ByteArray) := wordsAt s 0 [] none 0
theorem wordsAt_end {s : ByteArray} {ws : List ByteArray} {from' : Option Nat} {gap at' : Nat} (h : s.size ≤ at') :
  wordsAt s at' ws from' gap = some (match (from' : Option Nat) with | none => ws | some f => ws ++ [s.extract f s.size]) := by
 unfold wordsAt
 rw [List.drop_eq_nil_of_le (by rw [← Lib.size_eq]; exact h)]
 cases from' <;> rfl
theorem wordsAt_blank_in {s : ByteArray} {ws : List ByteArray} {f gap at' : Nat} (h : at' < s.size) (hb : (s[at']'h).toNat = 32) :
  wordsAt s at' ws (some f) gap = wordsAt s (at' + 1) (ws ++ [s.extract f at']) none 1 := by
 unfold wordsAt
 rw [drop_cons h, wordsL, if_pos hb]
theorem wordsAt_in {s : ByteArray} {ws : List ByteArray} {f gap at' : Nat} (h : at' < s.size) (hb : (s[at']'h).toNat ≠ 32) :
  wordsAt s at' ws (some f) gap = wordsAt s (at' + 1) ws (some f) gap := by
 unfold wordsAt
 rw [drop_cons h, wordsL, if_neg hb]
theorem wordsAt_blank {s : ByteArray} {ws : List ByteArray} {gap at' : Nat} (h : at' < s.size) (hb : (s[at']'h).toNat = 32) :
  wordsAt s at' ws none gap = wordsAt s (at' + 1) ws none (gap + 1) := by
 unfold wordsAt
 rw [drop_cons h, wordsL, if_pos hb]
theorem wordsAt_no {s : ByteArray} {ws : List ByteArray} {gap at' : Nat} (h : at' < s.size) (hb : (s[at']'h).toNat ≠ 32) (hm : ws.length = 8 ∨ (0 < ws.length ∧ 1 < gap)) :
  wordsAt s at' ws none gap = none := by
 unfold wordsAt
 rw [drop_cons h, wordsL, if_neg hb, if_pos hm]
theorem wordsAt_new {s : ByteArray} {ws : List ByteArray} {gap at' : Nat} (h : at' < s.size) (hb : (s[at']'h).toNat ≠ 32) (hm : ¬ (ws.length = 8 ∨ (0 < ws.length ∧ 1 < gap))) :
  wordsAt s at' ws none gap = wordsAt s (at' + 1) ws (some at') gap := by
 unfold wordsAt
 rw [drop_cons h, wordsL, if_neg hb, if_neg hm]
/-- The bytes of a rune that is being read end no word. -/
theorem wordsAt_skip {s : ByteArray} {ws : List ByteArray} {f gap at' : Nat} : ∀ {k : Nat}, (∀ j, j < k → at' + j < s.size ∧ 128 ≤ (s.get! (at' + j)).toNat) →
  wordsAt s at' ws (some f) gap = wordsAt s (at' + k) ws (some f) gap
 | 0, _ => rfl
 | k + 1, h => by
  rw [wordsAt_skip (k := k) fun j hj => h j (by omega)]
  obtain ⟨h1, h2⟩ := h k (by omega)
  rw [get_at' s _ h1] at h2
  exact wordsAt_in h1 (by omega)
theorem wordsAt_rune_in {s : ByteArray} {ws : List ByteArray} {f gap at' : Nat} (h : at' < s.size) (ha : 128 ≤ (s[at']'h).toNat) :
  wordsAt s at' ws (some f) gap = wordsAt s (at' + (Utf8.decode s at').2) ws (some f) gap := wordsAt_skip (high_bytes s at' h ha)
theorem wordsAt_rune_new {s : ByteArray} {ws : List ByteArray} {gap at' : Nat} (h : at' < s.size) (ha : 128 ≤ (s[at']'h).toNat) (hm : ¬ (ws.length = 8 ∨ (0 < ws.length ∧ 1 < gap))) :
  wordsAt s at' ws none gap = wordsAt s (at' + (Utf8.decode s at').2) ws (some at') gap := by
 have h1 := (decode_high s at' h ha).2
 have hs := high_bytes s at' h ha
 rw [wordsAt_new h (by omega) hm]
 have e : at' + (Utf8.decode s at').2 = (at' + 1) + ((Utf8.decode s at').2 - 1) := by omega
 rw [e]
 exact wordsAt_skip fun j hj => by
  have := hs (j + 1) (by omega)
  rw [show at' + 1 + j = at' + (j + 1) by omega]
  exact this
theorem wordsAt_rune_le {s : ByteArray} {at' : Nat} (h : at' < s.size) : at' + (Utf8.decode s at').2 ≤ s.size := by
 by_cases ha : 128 ≤ (s[at']'h).toNat
 ·have h1 := (decode_high s at' h ha).2
  have := (high_bytes s at' h ha ((Utf8.decode s at').2 - 1) (by omega)).1
  omega
 ·rw [decode_ascii s at' h (by omega)]
  exact h
/-- No more than eight words are read. -/
theorem wordsL_le {s : ByteArray} : ∀ {l : List UInt8} {at' gap : Nat} {ws : List ByteArray} {from' : Option Nat} {o : List ByteArray},
  ws.length + (if from'.isSome then 1 else 0) ≤ 8 → wordsL s l at' ws from' gap = some o → o.length ≤ 8
 | [], at', gap, ws, none, o, h, e => by
  rw [wordsL] at e; cases e; simpa using h
 | [], at', gap, ws, some f, o, h, e => by
  rw [wordsL] at e; cases e; simpa using h
 | b :: r, at', gap, ws, some f, o, h, e => by
  rw [wordsL] at e
  split at e
  ·exact wordsL_le (by simpa using h) e
  ·exact wordsL_le h e
 | b :: r, at', gap, ws, none, o, h, e => by
  rw [wordsL] at e
  split at e
  ·exact wordsL_le h e
  ·split at e
   ·cases e
   ·rename_i hm
    refine wordsL_le ?_ e
    have h' : ws.length ≤ 8 := by simpa using h
    show ws.length + 1 ≤ 8
    omega
theorem wordsS_le {s : ByteArray} {o : List ByteArray} (h : wordsS s = some o) : o.length ≤ 8 := wordsL_le (by decide) h
/-- The world with the iterator at a further place. -/
def stepTo (w : World) (k : Nat) (s : ByteArray) (pos : Nat) : World := { w with heap := w.heap.setIfInBounds k (.stringIter s pos) }
theorem stepTo_at {w : World} {k : Nat} {s : ByteArray} {pos : Nat} (h : k < w.heap.size) : (stepTo w k s pos).heap[k]? = some (.stringIter s pos) := by
 unfold stepTo
 simp [Array.getElem?_setIfInBounds, h]
theorem stepTo_other {w : World} {k j : Nat} {s : ByteArray} {pos : Nat} (h : j ≠ k) : (stepTo w k s pos).heap[j]? = w.heap[j]? := by
 unfold stepTo
 rw [Array.getElem?_setIfInBounds, if_neg (Ne.symm h)]
theorem stepTo_size {w : World} {k : Nat} {s : ByteArray} {pos : Nat} : (stepTo w k s pos).heap.size = w.heap.size := by
 unfold stepTo
 simp
theorem run_next_at {P : Program} {w : World} {k : Nat} {s : ByteArray} {pos : Nat} (hk : w.heap[k]? = some (.stringIter s pos)) (ty : TypeId) (h : pos < s.size) :
  (Instr.next (.pointer (some ⟨k, 0, none⟩)) true ty).run P w = .ok (.tuple #[.bool true, .int .i64 pos, .int .i32 (Utf8.decode s pos).1]) (stepTo w k s (pos + (Utf8.decode s pos).2)) := by
 simp only [Instr.next, getObj, setObj, Sem.run_bind, Sem.run, hk, Result.andThen, h, if_true]
 simp [goInt, stepTo]
theorem run_next_over {P : Program} {w : World} {k : Nat} {s : ByteArray} {pos : Nat} (hk : w.heap[k]? = some (.stringIter s pos)) (ty : TypeId) (h : ¬ pos < s.size) :
  (Instr.next (.pointer (some ⟨k, 0, none⟩)) true ty).run P w = .ok (.tuple #[.bool false]) w := by
 simp [Instr.next, getObj, Sem.run, hk, h]
end Go.Proofs.YtemiklbkfogjeaaGreatDoor
namespace Go.Proofs.YtemiklbkfogjeaaGreatDoor
open Go Go.RowKit Go.Maps
set_option linter.unusedVariables false
set_option linter.unusedSimpArgs false
set_option maxRecDepth 100000
theorem infoS : (Tryz.prog.info? 9).map (fun i => (i.zero, i.size, i.bytes)) = some (some (.string ⟨#[]⟩), 1, 16) := by kernel_rfl
abbrev strT : TypeId := 9
abbrev strsT : TypeId := 42
/-- The texts of L lie behind A. -/
def StrsAt (w : World) (A : Option Addr) (L : List ByteArray) : Prop := ∀ i s, L[i]? = some s → ∃ b o, A = some ⟨b, o, none⟩ ∧ b < w.heap.size ∧ w.cell? ⟨b, o + i, none⟩ = some (.string s)
theorem StrsAt.below {w w' : World} {A : Option Addr} {L : List ByteArray} (h : StrsAt w A L) (hb : Below w.heap.size w w') : StrsAt w' A L := by
 intro i s hi
 obtain ⟨b, o, rfl, h1, h2⟩ := h i s hi
 exact ⟨b, o, rfl, Nat.lt_of_lt_of_le h1 hb.size, (hb.cell (p := ⟨b, o + i, none⟩) h1).trans h2⟩
theorem ownsRow_keeps {S : Nat → Prop} {w w' : World} {base : Nat} {e : TypeId} {size : Nat} {v : Value} {n : Nat} {xs : List Value} (h : w.ownsRow base e size v n xs) (hk : Keeps S w w') (hS : ∀ b, S b → b < base) : w'.ownsRow base e size v n xs := by
 refine ⟨h.1, h.2.imp id ?_⟩
 rintro ⟨g, cap, cur, rfl, h1, h2, rest⟩
 have hlt : g < w.heap.size := by
  rcases Nat.lt_or_ge g w.heap.size with hlt | hge
  ·exact hlt
  ·rw [Array.getElem?_eq_none hge] at h2; cases h2
 exact ⟨g, cap, cur, rfl, h1, (hk.block g hlt (fun hs => by have := hS g hs; omega)).trans h2, rest⟩
theorem ownsRow_base {w : World} {base base' : Nat} {e : TypeId} {s : Nat} {v : Value} {n : Nat} {xs : List Value} (h : w.ownsRow base e s v n xs) (hb : base' ≤ base) : w.ownsRow base' e s v n xs :=
 ⟨h.1, h.2.imp id fun ⟨g, cap, cur, e1, h1, h2⟩ => ⟨g, cap, cur, e1, Nat.le_trans hb h1, h2⟩⟩
abbrev Strs (w : World) (base : Nat) (V : Value) (L : List ByteArray) : Prop := w.ownsRow base strT 1 V L.length (L.map Value.string)
/-- A row of the reference's own: where it lies. -/
theorem strs_form {w : World} {base : Nat} {V : Value} {L : List ByteArray} (h : Strs w base V L) :
  (V = .slice none 0 0 ∧ L = []) ∨ ∃ g c, V = .slice (some ⟨g, 0, none⟩) L.length c ∧ base ≤ g ∧ L.length ≤ c ∧ c ≤ maxLen ∧ g < w.heap.size ∧ ∀ i s, L[i]? = some s → w.cell? ⟨g, i, none⟩ = some (.string s) := by
 rcases h.2 with ⟨h1, h2⟩ | ⟨g, cap, cur, rfl, hb, hg, h1, h2, h3, h4⟩
 ·exact .inl ⟨h1, List.length_eq_zero_iff.1 h2⟩
 ·refine .inr ⟨g, cap, rfl, hb, h1, h2, ?_, fun i s hi => ?_⟩
  ·rcases Nat.lt_or_ge g w.heap.size with hlt | hge
   ·exact hlt
   ·rw [Array.getElem?_eq_none hge] at hg; cases hg
  ·have := h.cells (g := g) rfl i (.string s) (by rw [List.getElem?_map, hi]; rfl)
   rwa [show (⟨g, 0, none⟩ : Addr).add i = ⟨g, i, none⟩ by unfold Addr.add; split <;> simp_all] at this
/-- An append of texts, of none too, to a row of the call's own. -/
theorem append_strs {w0 w : World} {V : Value} {c : Nat} {N M : List ByteArray} {A : Option Addr} (hb : Below w0.heap.size w0 w) (ho : Strs w w0.heap.size V N) (hY : StrsAt w A M) (hA : A = none → M = [] ∧ c = 0) (hsp : ∀ a, A = some a → ∃ b o, a = ⟨b, o, none⟩) (hnm : N.length + M.length ≤ 2097152) :
  ∃ V' w', (∀ ty, (Builtin.append_ #[strsT, strsT] ty #[V, .slice A M.length c]).run Tryz.prog w = .ok V' w') ∧ Strs w' w0.heap.size V' (N ++ M) ∧ Below w0.heap.size w0 w' := by
 obtain ⟨i0, hi, hz0, hz1, hz2⟩ := info_parts infoS
 rcases A with _ | ad
 ·obtain ⟨rfl, rfl⟩ := hA rfl
  refine ⟨V, w, fun ty => run_append_owned_none w w0.heap.size _ _ _ i0 1 Tryz.underlying42 hi V _ _ ho, ?_, hb⟩
  rw [List.append_nil]
  exact ho
 ·obtain ⟨b, o, rfl⟩ := hsp ad rfl
  have key : ∀ ty, ∃ V' w', (Builtin.append_ #[strsT, strsT] ty #[V, .slice (some ⟨b, o, none⟩) M.length c]).run Tryz.prog w = .ok V' w' ∧ Strs w' w0.heap.size V' (N ++ M) ∧ Below w0.heap.size w0 w' := fun ty => by
   obtain ⟨V', w', hr, h1, h2, _, _⟩ := run_append_own_at (P := Tryz.prog) w w0.heap.size strsT ty strT i0 (.string ⟨#[]⟩) 1 16 Tryz.underlying42 hi hz0 hz1 hz2 rfl (by decide) V _ _ ho ⟨b, o, none⟩ M.length c (M.map Value.string) (by simp) (fun j u hj => by
    rw [List.getElem?_map, Option.map_eq_some_iff] at hj
    obtain ⟨s, hs, rfl⟩ := hj
    obtain ⟨b', o', e, _, hc⟩ := hY j s hs
    cases e
    rw [Go.WideShapes.add_plain]
    exact hc) (fun u hu => by
    obtain ⟨s, _, rfl⟩ := List.mem_map.1 hu
    rfl) (by unfold maxLen; omega) (by omega) hb.size
   refine ⟨V', w', hr, ?_, hb.grown h2 hb.size (fun k e => (ho.lt k e).1)⟩
   unfold Strs
   rw [List.map_append, List.length_append]
   exact h1
  obtain ⟨V', w', hr, h1, h2⟩ := key strsT
  refine ⟨V', w', fun ty => ?_, h1, h2⟩
  obtain ⟨V2, w2, hr2, _⟩ := key ty
  rw [← hr]
  rfl
theorem wpList_append_run {P : Program} {ops : Array Oper} {rest : List Oper} {o : Oper} {a : Act} {w : World} {Q : Exit → Act → World → Prop} (hgd : o.guard = none) (s x : Operand) (t : TypeId)
  (ho : o.op = .call { callee := .builtin .append, args := #[s, x], argTypes := #[t, t] }) (v xv v' : Value) (w' : World) (hs : a.eval s = v) (hx : a.eval x = xv) (hrun : ∀ ty, (Builtin.append_ #[t, t] ty #[v, xv]).run P w = .ok v' w')
  (h : wpList P ops Q rest (a.put o.dst v') w') : wpList P ops Q (o :: rest) a w := by
 refine wpList_plain hgd fun K hK => ?_
 unfold Oper.wp execOp
 simp only [ho, resolve, invoke, builtin, Sem.run_bind, Sem.run_pure, Result.andThen_ok, List.map_toArray, List.map_cons, List.map_nil, hs, hx, hrun]
 exact hK _ _ h
theorem strs_shape {w : World} {base : Nat} {V : Value} {L : List ByteArray} (h : Strs w base V L) : ∃ A c, V = .slice A L.length c := by
 rcases strs_form h with ⟨rfl, rfl⟩ | ⟨g, c, rfl, _⟩
 ·exact ⟨none, 0, rfl⟩
 ·exact ⟨_, c, rfl⟩
/-- An append of one text, as the dump writes it: a row of one is made for it. -/
theorem append_one {w0 w : World} {V : Value} {N : List ByteArray} (s : ByteArray) (hb : Below w0.heap.size w0 w) (ho : Strs w w0.heap.size V N) (hn : N.length ≤ 4096) :
  ∃ V' w', (∀ ty, (Builtin.append_ #[strsT, strsT] ty #[V, .slice (some ⟨w.heap.size, 0, none⟩) 1 1]).run Tryz.prog (w.alloc (.cells #[.string s] strT)) = .ok V' w') ∧ Strs w' w0.heap.size V' (N ++ [s]) ∧ Below w0.heap.size w0 w' :=
 append_strs (M := [s]) (A := some ⟨w.heap.size, 0, none⟩) (c := 1) (hb.alloc hb.size _) (ownsRow_keeps ho (Keeps.alloc (Keeps.refl (fun _ => False) w) (.cells #[.string s] strT)) (fun _ h => h.elim)) (fun i u hi => by
  obtain ⟨rfl, rfl⟩ : i = 0 ∧ u = s := by
   cases i with
   | zero => simp at hi; exact ⟨rfl, hi.symm⟩
   | succ i => simp at hi
  exact ⟨w.heap.size, 0, rfl, by simp, (Blk.new w strT #[.string u]).cell 0⟩) (fun h => by cases h) (fun a h => by cases h; exact ⟨_, _, rfl⟩) (by simp only [List.length_cons, List.length_nil]; omega)
/-- Between two rounds: the iterator stands at pos, the words so far lie in a row of the call's own. -/
structure Mid (w : World) (s : ByteArray) (pos : Nat) (V : Value) (L : List ByteArray) (w' : World) : Prop where
 below : Below (w.iter s pos).heap.size (w.iter s pos) w'
 row : Strs w' (w.iter s pos).heap.size V L
theorem iter_size (w : World) (s : ByteArray) (pos : Nat) : (w.iter s pos).heap.size = w.heap.size + 1 := by
 unfold World.iter
 simp
theorem Mid.start (w : World) (s : ByteArray) : Mid w s 0 (.slice none 0 0) [] (w.iter s 0) := ⟨Below.refl _ _, World.ownsRow_nil _ _ _ _⟩
theorem Mid.at {w w' : World} {s : ByteArray} {pos : Nat} {V : Value} {L : List ByteArray} (h : Mid w s pos V L w') : w'.heap[w.heap.size]? = some (.stringIter s pos) := by
 rw [h.below.block _ (by rw [iter_size]; omega)]
 exact World.iter_heap w s pos
theorem Mid.step {w w' : World} {s : ByteArray} {pos : Nat} {V : Value} {L : List ByteArray} (h : Mid w s pos V L w') (pos' : Nat) : Mid w s pos' V L (stepTo w' w.heap.size s pos') := by
 have hs := h.below.size
 rw [iter_size] at hs
 refine ⟨⟨h.below.os, h.below.tape, h.below.output, by rw [iter_size, stepTo_size]; exact hs, fun k hk => ?_⟩, ?_⟩
 ·rw [iter_size] at hk
  by_cases e : k = w.heap.size
  ·subst e
   rw [stepTo_at (by omega), World.iter_heap]
  ·rw [stepTo_other e, h.below.block k (by rw [iter_size]; exact hk)]
   unfold World.iter
   rw [Below.heap_alloc _ _ _ (by omega), Below.heap_alloc _ _ _ (by omega)]
 ·rw [iter_size]
  have hr := h.row
  rw [iter_size] at hr
  refine ⟨hr.1, hr.2.imp id ?_⟩
  rintro ⟨g, cap, cur, rfl, h1, h2, rest⟩
  exact ⟨g, cap, cur, rfl, h1, (stepTo_other (by omega)).trans h2, rest⟩
theorem Mid.app {w w' : World} {s : ByteArray} {pos : Nat} {V : Value} {L : List ByteArray} (h : Mid w s pos V L w') (hn : L.length ≤ 4096) (u : ByteArray) :
  ∃ V' w2, (∀ ty, (Builtin.append_ #[strsT, strsT] ty #[V, .slice (some ⟨w'.heap.size, 0, none⟩) 1 1]).run Tryz.prog (w'.alloc (.cells #[.string u] strT)) = .ok V' w2) ∧ Mid w s pos V' (L ++ [u]) w2 := by
 obtain ⟨V', w2, h1, h2, h3⟩ := append_one u h.below h.row hn
 exact ⟨V', w2, h1, h3, h2⟩
theorem Mid.pos {w w' : World} {s : ByteArray} {pos : Nat} {V : Value} {L : List ByteArray} (h : Mid w s pos V L w') : w'.iterPos w.heap.size = pos := by
 unfold World.iterPos
 rw [h.at]
theorem Mid.shape {w w' : World} {s : ByteArray} {pos : Nat} {V : Value} {L : List ByteArray} (h : Mid w s pos V L w') : ∃ A c, V = .slice A L.length c := strs_shape h.row
/-- What a round reads: a blank, or a rune that is none, of one byte or of several. -/
theorem rune_ways {s : ByteArray} {pos : Nat} (h : pos < s.size) :
  ((Utf8.decode s pos).1 = 32 ∧ (Utf8.decode s pos).2 = 1 ∧
   (∀ ws f gap, wordsAt s pos ws (some f) gap = wordsAt s (pos + 1) (ws ++ [s.extract f pos]) none 1) ∧
   (∀ ws gap, wordsAt s pos ws none gap = wordsAt s (pos + 1) ws none (gap + 1))) ∨
  ((Utf8.decode s pos).1 ≠ 32 ∧ 1 ≤ (Utf8.decode s pos).2 ∧ pos + (Utf8.decode s pos).2 ≤ s.size ∧
   (∀ ws f gap, wordsAt s pos ws (some f) gap = wordsAt s (pos + (Utf8.decode s pos).2) ws (some f) gap) ∧
   (∀ ws gap, ¬ (ws.length = 8 ∨ (0 < ws.length ∧ 1 < gap)) → wordsAt s pos ws none gap = wordsAt s (pos + (Utf8.decode s pos).2) ws (some pos) gap) ∧
   (∀ ws gap, (ws.length = 8 ∨ (0 < ws.length ∧ 1 < gap)) → wordsAt s pos ws none gap = none)) := by
 by_cases ha : 128 ≤ (s[pos]'h).toNat
 ·have h1 := decode_high s pos h ha
  exact .inr ⟨by omega, h1.2, wordsAt_rune_le h, fun ws f gap => wordsAt_rune_in h ha, fun ws gap hm => wordsAt_rune_new h ha hm, fun ws gap hm => wordsAt_no h (by omega) hm⟩
 ·rw [decode_ascii s pos h (by omega)]
  by_cases hb : (s[pos]'h).toNat = 32
  ·exact .inl ⟨hb, rfl, fun ws f gap => wordsAt_blank_in h hb, fun ws gap => wordsAt_blank h hb⟩
  ·exact .inr ⟨hb, Nat.le_refl _, h, fun ws f gap => wordsAt_in h hb, fun ws gap hm => wordsAt_new h hb hm, fun ws gap hm => wordsAt_no h hb hm⟩
def fromV (f : Option Nat) : Value := match f with | none => .int .i64 (-1) | some f => .int .i64 f
theorem Mid.all {w w' : World} {s : ByteArray} {pos : Nat} {V : Value} {L : List ByteArray} (h : Mid w s pos V L w') : Below w.heap.size w w' ∧ Strs w' w.heap.size V L := by
 refine ⟨((Below.refl _ w).alloc (Nat.le_refl _) (.stringIter s pos)).trans (h.below.mono (by rw [iter_size]; omega)), ?_⟩
 exact ownsRow_base h.row (by rw [iter_size]; omega)
set_option maxHeartbeats 2000000 in
theorem words_any (s : ByteArray) (hz : s.size < 4611686018427387904) (w : World) :
  Calls Tryz.prog 14 #[.string s] w fun e w' => ∃ V, e = .returned (.tuple #[V, .bool (wordsS s).isSome]) ∧ Below w.heap.size w w' ∧ Strs w' w.heap.size V ((wordsS s).getD []) := by
 go_enter Tryz.func14, Tryz.ntmps14
 go_wp2
 go_loopw [4, 5, 6, 7, 8] (fun l fr gp _ _ wr => ∃ (pos g : Nat) (L : List ByteArray) (f : Option Nat), Mid w s pos l L wr ∧ fr = fromV f ∧ gp = .int .i64 g ∧ pos ≤ s.size ∧ g ≤ pos ∧ (∀ x, f = some x → x < pos) ∧ L.length + (if f.isSome then 1 else 0) ≤ 8 ∧ wordsAt s pos L f g = wordsS s) (fun _ _ _ _ _ wr => s.size - wr.iterPos w.heap.size)
 case atStart => exact ⟨0, 0, [], none, Mid.start w s, rfl, rfl, Nat.zero_le _, Nat.le_refl _, (fun x h => by cases h), by decide, rfl⟩
 case round =>
  obtain ⟨pos, g, L, f, hM, rfl, rfl, hp0, hg, hf, hl, hd⟩ := hrel
  obtain ⟨A, c, rfl⟩ := hM.shape
  have HD := Lib.hid hd
  have HM := Lib.hid hM
  have hat := hM.at
  have hps := hM.pos
  clear hd hM
  by_cases hp : pos < s.size
  ·have hnx : ∀ ty, (Instr.next (.pointer (some ⟨w.heap.size, 0, none⟩)) true ty).run Tryz.prog _ = _ := fun ty => run_next_at hat ty hp
   have HW := rune_ways hp
   have HN := Lib.hid (And.intro hps (And.intro hp0 (And.intro hg (And.intro hf (And.intro hl hp)))))
   clear hat hps hp0 hg hf hl hp
   generalize Utf8.decode s pos = dc at *
   obtain ⟨rn, wd⟩ := dc
   rcases HW with ⟨q1, q2, q3, q4⟩ | ⟨q1, q2, q3, q4, q5, q6⟩
   ·have q1' : rn = 32 := q1
    have q2' : wd = 1 := q2
    clear q1 q2
    subst q1' q2'
    rcases f with _ | f
    ·have e1 : IntKind.i64.wrap ((g : Int) + 1) = ((g + 1 : Nat) : Int) := by
      have := HN.out
      rw [IntWalk.i64_in _ (by omega)]; omega
     have HE := Lib.hid ((q4 L g).symm.trans HD.out)
     clear q3 q4 HD
     simp only [fromV]
     go_wp2_with fail
     go_roundw
     case rel => exact ⟨pos + 1, g + 1, L, none, HM.out.step _, rfl, rfl, HN.out.2.2.2.2.2, by have := HN.out; omega, (fun x h => by cases h), HN.out.2.2.2.2.1, HE.out⟩
     case measure =>
      rw [HN.out.1, (HM.out.step (pos + 1)).pos]
      have := HN.out
      omega
    ·have i1 : (0 : Int) ≤ (f : Int) := by omega
     have b2 : decide ((0 : Int) ≤ (f : Int)) = true := decide_eq_true i1
     have HE := Lib.hid ((q3 L f g).symm.trans HD.out)
     clear q3 q4 HD
     simp only [fromV]
     obtain ⟨V2, w2, hr, hM2⟩ := (HM.out.step (pos + 1)).app (by have := HN.out; omega) (s.extract f pos)
     have HR := Lib.hid hr
     have HM2 := Lib.hid hM2
     have ib : pos ≤ s.size := HN.out.2.1
     have ic : f ≤ pos := by have := HN.out.2.2.2.1 f rfl; omega
     clear hr hM2
     go_wp2_with (at_builtin; refine wpList_append_run rfl (.tmp 22) (.tmp 27) 42 rfl _ (.slice (some ⟨_, 0, none⟩) 1 1) V2 w2 rfl rfl HR.out ?_)
     go_roundw
     case rel => exact ⟨pos + 1, 1, _, none, HM2.out, rfl, rfl, HN.out.2.2.2.2.2, by omega, (fun x h => by cases h), by rw [List.length_append]; exact HN.out.2.2.2.2.1, HE.out⟩
     case measure =>
      rw [HN.out.1, HM2.out.pos]
      have := HN.out
      omega
   ·have c0 : (rn == 32) = false := by simpa using q1
    have c1 : ((rn : Int) == 32) = false := by
     have : rn ≠ 32 := q1
     simp; omega
    have q2' : 1 ≤ wd := q2
    have q3' : pos + wd ≤ s.size := q3
    have HQ := Lib.hid (And.intro q2' q3')
    clear q1 q2 q3 q2' q3'
    have HMS := Lib.hid (HM.out.step (pos + wd))
    rcases f with _ | f
    ·by_cases hm : L.length = 8 ∨ (0 < L.length ∧ 1 < g)
     ·have HE : Hid (wordsS s = none) := HD.out.symm.trans (q6 L g hm)
      clear q4 q5 q6 HD
      have HP : Hid (∃ V, Ending.returned (.tuple #[.slice none 0 0, .bool false]) = .returned (.tuple #[V, .bool (wordsS s).isSome]) ∧ Below w.heap.size w (stepTo wr w.heap.size s (pos + wd)) ∧ Strs (stepTo wr w.heap.size s (pos + wd)) w.heap.size V ((wordsS s).getD [])) := by
       refine ⟨.slice none 0 0, by rw [HE.out]; rfl, HMS.out.all.1, ?_⟩
       rw [HE.out]
       exact World.ownsRow_nil _ _ _ _
      have hw : ((L.length : Int) == 8) = true ∨ (((L.length : Int) == 8) = false ∧ (0 : Int) < (L.length : Int) ∧ (1 : Int) < (g : Int)) := by
       by_cases h8 : L.length = 8
       ·exact .inl (by simp; omega)
       ·exact .inr ⟨by simp; omega, by omega, by omega⟩
      clear hm
      simp only [fromV]
      rcases hw with d1 | ⟨d1, d2, d3⟩
      ·go_wp2_with fail
       go_ret2
       exact HP.out
      ·have d4 : decide ((0 : Int) < (L.length : Int)) = true := decide_eq_true d2
       have d5 : decide ((1 : Int) < (g : Int)) = true := decide_eq_true d3
       go_wp2_with fail
       go_ret2
       exact HP.out
     ·have HE : Hid (wordsAt s (pos + wd) L (some pos) g = wordsS s) := (q5 L g hm).symm.trans HD.out
      clear q4 q5 q6 HD
      have d1 : ((L.length : Int) == 8) = false := by simp; omega
      have hw : ¬ (0 : Int) < (L.length : Int) ∨ ((0 : Int) < (L.length : Int) ∧ ¬ (1 : Int) < (g : Int)) := by omega
      have HL : Hid (L.length ≠ 8) := fun h => hm (.inl h)
      clear hm
      simp only [fromV]
      have HREL : Hid (∃ pos' g' L' f', Mid w s pos' (.slice A L.length c) L' (stepTo wr w.heap.size s (pos + wd)) ∧ Value.int .i64 (pos : Int) = fromV f' ∧ Value.int .i64 (g : Int) = .int .i64 (g' : Nat) ∧ pos' ≤ s.size ∧ g' ≤ pos' ∧ (∀ x, f' = some x → x < pos') ∧ L'.length + (if f'.isSome then 1 else 0) ≤ 8 ∧ wordsAt s pos' L' f' g' = wordsS s) := by
       have h1 := HN.out
       have h2 := HQ.out
       have h3 := HL.out
       refine ⟨pos + wd, g, L, some pos, HMS.out, rfl, rfl, h2.2, by omega, fun x h => by cases h; omega, ?_, HE.out⟩
       have h4 := h1.2.2.2.2.1
       simp at h4 ⊢
       omega
      rcases hw with d2 | ⟨d2, d3⟩
      ·have d4 : decide ((0 : Int) < (L.length : Int)) = false := decide_eq_false d2
       go_wp2_with fail
       go_roundw
       case rel => exact HREL.out
       case measure =>
        rw [HN.out.1, HMS.out.pos]
        have := HN.out; have := HQ.out
        omega
      ·have d4 : decide ((0 : Int) < (L.length : Int)) = true := decide_eq_true d2
       have d5 : decide ((1 : Int) < (g : Int)) = false := decide_eq_false d3
       go_wp2_with fail
       go_roundw
       case rel => exact HREL.out
       case measure =>
        rw [HN.out.1, HMS.out.pos]
        have := HN.out; have := HQ.out
        omega
    ·have HE : Hid (wordsAt s (pos + wd) L (some f) g = wordsS s) := (q4 L f g).symm.trans HD.out
     clear q4 q5 q6 HD
     have d1 : ¬ (f : Int) < 0 := by omega
     have d2 : decide ((f : Int) < 0) = false := decide_eq_false d1
     simp only [fromV]
     go_wp2_with fail
     go_roundw
     case rel =>
      have h1 := HN.out
      have h2 := HQ.out
      exact ⟨pos + wd, g, L, some f, HMS.out, rfl, rfl, h2.2, by omega, fun x h => by have := h1.2.2.2.1 x h; omega, h1.2.2.2.2.1, HE.out⟩
     case measure =>
      rw [HN.out.1, HMS.out.pos]
      have := HN.out; have := HQ.out
      omega
  ·have hnx : ∀ ty, (Instr.next (.pointer (some ⟨w.heap.size, 0, none⟩)) true ty).run Tryz.prog _ = _ := fun ty => run_next_over hat ty hp
   have HE0 := Lib.hid ((wordsAt_end (s := s) (ws := L) (from' := f) (gap := g) (by omega : s.size ≤ pos)).symm.trans HD.out)
   have HN := Lib.hid (And.intro hps (And.intro hp0 (And.intro hg (And.intro hf hl))))
   clear hat hps hp0 hg hf hl hp HD
   rcases f with _ | f
   ·have HE : Hid (wordsS s = some L) := HE0.out.symm
    have HP : Hid (∃ V, Ending.returned (.tuple #[.slice A L.length c, .bool true]) = .returned (.tuple #[V, .bool (wordsS s).isSome]) ∧ Below w.heap.size w wr ∧ Strs wr w.heap.size V ((wordsS s).getD [])) := by
     refine ⟨.slice A L.length c, by rw [HE.out]; rfl, HM.out.all.1, ?_⟩
     rw [HE.out]
     exact HM.out.all.2
    clear HE0
    simp only [fromV]
    go_wp2_with fail
    go_ret2
    exact HP.out
   ·have HE : Hid (wordsS s = some (L ++ [s.extract f s.size])) := HE0.out.symm
    obtain ⟨V2, w2, hr, hM2⟩ := HM.out.app (by have := HN.out; omega) (s.extract f s.size)
    have HR := Lib.hid hr
    have HP : Hid (∃ V, Ending.returned (.tuple #[V2, .bool true]) = .returned (.tuple #[V, .bool (wordsS s).isSome]) ∧ Below w.heap.size w w2 ∧ Strs w2 w.heap.size V ((wordsS s).getD [])) := by
     refine ⟨V2, by rw [HE.out]; rfl, hM2.all.1, ?_⟩
     rw [HE.out]
     exact hM2.all.2
    have i1 : (0 : Int) ≤ (f : Int) := by omega
    have b2 : decide ((0 : Int) ≤ (f : Int)) = true := decide_eq_true i1
    have ic : f ≤ s.size := by have := HN.out.2.2.2.1 f rfl; have := HN.out; omega
    clear HE0 hr hM2
    simp only [fromV]
    go_wp2_with (at_builtin; refine wpList_append_run rfl (.tmp 52) (.tmp 56) 42 rfl _ (.slice (some ⟨_, 0, none⟩) 1 1) V2 w2 rfl rfl HR.out ?_)
    go_ret2
    exact HP.out
end Go.Proofs.YtemiklbkfogjeaaGreatDoor
