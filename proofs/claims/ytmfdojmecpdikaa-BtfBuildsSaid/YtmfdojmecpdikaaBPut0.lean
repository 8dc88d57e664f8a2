/-
  Layer 6: the writer lays a type.
-/
import Derived.Test.YtmfdojmecpdikaaBPlace
import Derived.Test.YtmfdojmecpdikaaBNameFn
import Derived.Deep.RegionHeld3
import Derived.Deep.Cut
namespace Go.Proofs.Ytmfdojmecpdikaa
open Go Go.RowKit Go.Maps
set_option linter.unusedVariables false
set_option linter.unusedSimpArgs false
set_option maxRecDepth 100000
/-- What is always so of what the writer has laid. -/
def Fine (st : WS) : Prop := st.es.length ≤ st.ns.length ∧ findE st.es [] = some 0 ∧ 0 < st.ns.length
theorem Fine.place {st : WS} (h : Fine st) (s : List UInt8) : Fine (placeW st s) := by
  obtain ⟨h1, h2, h3⟩ := h
  refine ⟨?_, (place_ext st s).es _ _ h2, ?_⟩
  · unfold placeW; split
    · exact h1
    · simp only [List.length_cons, List.length_append, List.length_nil]; omega
  · unfold placeW; split
    · exact h3
    · simp only [List.length_cons, List.length_append, List.length_nil]; omega
theorem Fine.nums {st : WS} (h : Fine st) (l : List Int) : Fine (numsW st l) := h
theorem Fine.mem {st : WS} (h : Fine st) (m : Mem) : Fine (memW st m) := (h.place _).nums _
theorem Fine.mems {st : WS} (h : Fine st) (l : List Mem) : Fine (l.foldl memW st) := by
  induction l generalizing st with
  | nil => exact h
  | cons m l ih => exact ih (h.mem m)
theorem Fine.put {st : WS} (h : Fine st) (t : Ty) : Fine (putW st t) := Fine.mems (((h.place _).nums _).nums _) _
theorem Fine.new : Fine newW := ⟨by decide, rfl, by decide⟩
theorem place_ns' (st : WS) (s : ByteArray) (h : s.size ≤ 128) : (placeW st s.data.toList).ns.length ≤ st.ns.length + 129 := by
  unfold placeW
  split
  · omega
  · simp only [List.length_append, size_list, List.length_cons, List.length_nil]; omega
theorem or_word (k len : Nat) (hk : k ≤ 127) (hl : len < 16777216) : bits .or .i64 ((k : Int) * 16777216) (len : Int) = (k : Int) * 16777216 + len :=
  bits_join .i64 63 (by decide) (fun n h0 h1 => by rw [IntKind.wrap_i64]; omega) 24 ((k : Int) * 16777216) (len : Int) (by omega) (by omega) (by omega) (by omega) (by omega) (by omega)
theorem intRow_new (w : World) (cs : Array Value) : IntRow (w.alloc (.cells cs 3)) (some ⟨w.heap.size, 0, none⟩) := by
  intro a ha
  cases ha
  exact ⟨cs, _, Blk.new w _ _⟩
/-- A writer, whatever its rows. -/
def WX (w : World) (base g : Nat) (st : WS) : Prop := ∃ tv nv mb n, WM w base g st tv nv mb n ∧ n ≤ st.es.length + 1
theorem WX.alloc {w : World} {base g : Nat} {st : WS} (h : WX w base g st) (o : Obj) : WX (w.alloc o) base g st := by
  obtain ⟨tv, nv, mb, n, h1, h2⟩ := h
  exact ⟨tv, nv, mb, n, h1.alloc o, h2⟩
theorem WX.drew {w : World} {base g : Nat} {st : WS} (h : WX w base g st) : WX w.drew base g st := by
  obtain ⟨tv, nv, mb, n, h1, h2⟩ := h
  exact ⟨tv, nv, mb, n, h1.drew, h2⟩
/-- From w on a writer is there that has laid st; nothing else is turned. -/
structure WA (w0 w wr : World) (g : Nat) (st : WS) : Prop where
  wx : WX wr w0.heap.size g st
  fine : Fine st
  tag : TagK w wr
  below : Below w0.heap.size w0 wr
  from_ : Below w0.heap.size w0 w
section
variable {w0 w wr w' : World} {g : Nat} {st st' : WS}
theorem WA.alloc (h : WA w0 w wr g st) (o : Obj) : WA w0 w (wr.alloc o) g st := ⟨h.wx.alloc o, h.fine, h.tag.alloc o, h.below.alloc h.below.size o, h.from_⟩
theorem WA.drew (h : WA w0 w wr g st) : WA w0 w wr.drew g st := ⟨h.wx.drew, h.fine, h.tag.drew, h.below.drew, h.from_⟩
theorem wa_place (h : WA w0 w wr g st) (s : ByteArray) (hs : s.size ≤ 128) (hl : st.ns.length ≤ 140737488355000) :
    Calls Try.prog 28 #[.pointer (some ⟨g, 0, none⟩), .string s] wr fun e w' => e = .returned (.int .i64 (placeP st s.data.toList)) ∧ WA w0 w w' g (placeW st s.data.toList) ∧ TagK wr w' := by
  obtain ⟨tv, nv, mb, n, h1, h2⟩ := h.wx
  refine (place_any h1 h2 h.below.size s hs h.fine.2.1 (by have := h.fine.1; omega) hl).mono fun e w' hp => ?_
  obtain ⟨he, hx, ht, hb⟩ := hp
  exact ⟨he, ⟨hx, h.fine.place _, h.tag.trans ht, h.below.trans (hb _ (Nat.le_refl _) h.below.size), h.from_⟩, ht⟩
theorem wa_nums (h : WA w0 w wr g st) (A : Option Addr) (c n : Nat) (ns : List Int) (hn : n = ns.length) (hI : IntsAt wr A ns) (hA : IntRow wr A) (hl : st.ts.length + 4 * ns.length ≤ 140737488355328) :
    Calls Try.prog 27 #[.pointer (some ⟨g, 0, none⟩), .slice A n c] wr fun e w' => e = .returned (.tuple #[]) ∧ WA w0 w w' g (numsW st ns) ∧ TagK wr w' := by
  subst hn
  obtain ⟨tv, nv, mb, n, h1, h2⟩ := h.wx
  refine (numbersW_any h1 h2 h.below.size A c ns hI hA hl).mono fun e w' hp => ?_
  obtain ⟨he, hx, ht, hb⟩ := hp
  exact ⟨he, ⟨hx, h.fine.nums _, h.tag.trans ht, h.below.trans (hb _ (Nat.le_refl _) h.below.size), h.from_⟩, ht⟩
/-- .. numbers that were just laid. -/
theorem wa_new (h : WA w0 w wr g st) (n : Nat) (ns : List Int) (cs : Array Value) (hcs : cs = (ns.map (Value.int .i64)).toArray) (hn : n = ns.length) (hl : st.ts.length + 4 * ns.length ≤ 140737488355328) :
    Calls Try.prog 27 #[.pointer (some ⟨g, 0, none⟩), .slice (some ⟨wr.heap.size, 0, none⟩) n n] (wr.alloc (.cells cs 3)) fun e w' => e = .returned (.tuple #[]) ∧ WA w0 w w' g (numsW st ns) ∧ TagK wr w' := by
  subst hcs
  refine (wa_nums (h.alloc _) _ n n ns hn (IntsAt.new wr ns) (intRow_new wr _) hl).mono fun e w' hp => ?_
  obtain ⟨he, h1, h2⟩ := hp
  exact ⟨he, h1, ((TagK.refl wr).alloc _).trans h2⟩
end
end Go.Proofs.Ytmfdojmecpdikaa
