/-
  Layer 6, the reference's Build: what it needs ahead of its walk.
-/
import Derived.Test.YtmfdojmecpdikaaCMath3
import Derived.Test.YtmfdojmecpdikaaCWName2
import Derived.Test.YtmfdojmecpdikaaCParse1
import Derived.Test.YtmfdojmecpdikaaCSame
namespace Go.Proofs.Ytmfdojmecpdikaa
open Go Go.RowKit Go.Maps
set_option linter.unusedVariables false
set_option linter.unusedSimpArgs false
set_option maxRecDepth 100000
/-- So little has been laid. -/
def QB (q : QS) (c : Nat) : Prop := q.es.length ≤ c ∧ q.ts.length ≤ 16 * c ∧ q.ns.length ≤ 200 * c
theorem QB.mono {q : QS} {c d : Nat} (h : QB q c) (hd : c ≤ d) : QB q d := ⟨by have := h.1; omega, by have := h.2.1; omega, by have := h.2.2; omega⟩
theorem nameB_small {s : ByteArray} (h : nameB s = true) : s.size ≤ 128 := by
  simp only [nameB, Bool.and_eq_true, decide_eq_true_eq] at h; exact h.1
theorem qname_len (q : QS) (s : ByteArray) : (qname q s).es.length ≤ q.es.length + 1 ∧ (qname q s).ts.length = q.ts.length + 4 ∧ (qname q s).ns.length ≤ q.ns.length + s.size + 1 := by
  unfold qname
  split
  · refine ⟨by simp, by simp [le4_length], by simp only; omega⟩
  · have := size_list s
    refine ⟨by simp, by simp [le4_length], by simp only [List.length_append, List.length_singleton]; omega⟩
theorem qnums_len (q : QS) (l : List Int) : (qnums q l).es.length = q.es.length ∧ (qnums q l).ts.length = q.ts.length + 4 * l.length ∧ (qnums q l).ns.length = q.ns.length := by
  refine ⟨rfl, ?_, rfl⟩
  unfold qnums
  have : (le4s l).length = 4 * l.length := by
    induction l with
    | nil => rfl
    | cons a l ih => simp only [le4s, List.flatMap_cons, List.length_append, le4_length, List.length_cons] at *; omega
  simp [this]
theorem QB.name {q : QS} {c : Nat} (h : QB q c) {s : ByteArray} (hs : nameB s = true) : QB (qname q s) (c + 1) := by
  obtain ⟨h1, h2, h3⟩ := h
  obtain ⟨k1, k2, k3⟩ := qname_len q s
  have := nameB_small hs
  exact ⟨by omega, by omega, by omega⟩
/-- A name and at most three numbers. -/
theorem QB.mem {q : QS} {c : Nat} (h : QB q c) (m : Mem) (hs : nameB m.name = true) : QB (qmemW q m) (c + 1) := by
  obtain ⟨h1, h2, h3⟩ := h
  obtain ⟨k1, k2, k3⟩ := qname_len q m.name
  obtain ⟨l1, l2, l3⟩ := qnums_len (qname q m.name) [m.ty, m.off]
  have := nameB_small hs
  simp only [List.length_cons, List.length_nil] at l2
  unfold qmemW
  exact ⟨by omega, by omega, by omega⟩
theorem qkind_len (t : Ty) : (kindNums t).length ≤ 4 := by
  unfold kindNums
  (repeat' split) <;> simp
theorem QB.head {q : QS} {c : Nat} (h : QB q c) (t : Ty) (hs : nameB t.name = true) : QB (qheadW q t) (c + 2) := by
  obtain ⟨h1, h2, h3⟩ := h
  obtain ⟨k1, k2, k3⟩ := qname_len q t.name
  obtain ⟨l1, l2, l3⟩ := qnums_len (qname q t.name) [t.kind * 16777216 + t.mems.length]
  obtain ⟨m1, m2, m3⟩ := qnums_len (qnums (qname q t.name) [t.kind * 16777216 + t.mems.length]) (kindNums t)
  have := nameB_small hs
  have := qkind_len t
  simp only [List.length_cons, List.length_nil] at l2
  unfold qheadW
  exact ⟨by omega, by omega, by omega⟩
theorem WQ.alloc {w : World} {g base : Nat} {q : QS} {av tv bv : Value} (h : WQ w g base q av tv bv) (o : Obj) : WQ (w.alloc o) g base q av tv bv :=
  ⟨h.blk.alloc o, own_below h.all (fun k hk => Below.heap_alloc w o k hk), own_below h.at_ (fun k hk => Below.heap_alloc w o k hk), own_below h.b (fun k hk => Below.heap_alloc w o k hk), h.hg, by have := h.hbase; simp; omega⟩
/-- The writer stands in w'. -/
def Wr (w0 w' : World) (g : Nat) (q : QS) : Prop := (∃ av tv bv, WQ w' g w0.heap.size q av tv bv) ∧ Below w0.heap.size w0 w'
theorem Wr.alloc {w0 w' : World} {g : Nat} {q : QS} (h : Wr w0 w' g q) (o : Obj) : Wr w0 (w'.alloc o) g q := by
  obtain ⟨⟨av, tv, bv, h⟩, hb⟩ := h
  exact ⟨⟨av, tv, bv, h.alloc o⟩, hb.alloc hb.size o⟩
def PostWr (w0 w : World) (g : Nat) (q : QS) (e : Ending) (w' : World) : Prop := e = .returned (.tuple #[]) ∧ Wr w0 w' g q ∧ KeepT w w' ∧ Below w0.heap.size w w'
theorem PostWr.of {w0 w : World} {g : Nat} {q : QS} {e : Ending} {w' : World} (hg : w0.heap.size ≤ g) (hb : Below w0.heap.size w0 w) (h : PostWQ w g w0.heap.size q e w') : PostWr w0 w g q e w' := by
  obtain ⟨he, av, tv, bv, h1, hk, ht⟩ := h
  have hb2 : Below w0.heap.size w w' := ⟨hk.os, hk.tape, hk.output, hk.size, fun k hlt => hk.block k (by have := hb.size; omega) (by intro hS; rcases hS with e | e <;> omega)⟩
  exact ⟨he, ⟨⟨av, tv, bv, h1⟩, hb.trans hb2⟩, ht, hb2⟩
theorem wname_q {w0 w : World} {g c : Nat} {q : QS} (h : Wr w0 w g q) (hB : QB q c) (hc : c ≤ 2000000) (s : ByteArray) (hs : nameB s = true) :
    Calls Try.prog 16 #[.pointer (some ⟨g, 0, none⟩), .string s] w (PostWr w0 w g (qname q s)) := by
  obtain ⟨⟨av, tv, bv, h1⟩, hb⟩ := h
  obtain ⟨b1, b2, b3⟩ := hB
  have := nameB_small hs
  exact (wname_any h1 s (by omega) (by omega) (by omega)).mono fun e w' hp => PostWr.of h1.hg hb hp
theorem wnum_q {w0 w : World} {g c : Nat} {q : QS} (h : Wr w0 w g q) (hB : q.ts.length ≤ c) (hc : c ≤ 40000000) (n : Int) :
    Calls Try.prog 17 #[.pointer (some ⟨g, 0, none⟩), .int .i64 n] w (PostWr w0 w g (qnums q [n])) := by
  obtain ⟨⟨av, tv, bv, h1⟩, hb⟩ := h
  have e : qnums q [n] = ⟨q.ts ++ le4 n, q.ns, q.es⟩ := by unfold qnums; rw [le4s_one]
  rw [e]
  exact (wnum_any h1.blk h1.b h1.hg h1.hbase n (by omega)).mono fun e w' hp => PostWr.of h1.hg hb (h1.num n e hp)
theorem le4_mod (a b : Int) (h : a % 4294967296 = b % 4294967296) : le4 a = le4 b := by
  unfold le4 u8
  rw [show a % 256 = b % 256 by omega, show a / 256 % 256 = b / 256 % 256 by omega, show a / 65536 % 256 = b / 65536 % 256 by omega, show a / 16777216 % 256 = b / 16777216 % 256 by omega]
theorem qnums_mod (q : QS) (a b : Int) (h : a % 4294967296 = b % 4294967296) : qnums q [a] = qnums q [b] := by
  unfold qnums; rw [le4s_one, le4s_one, le4_mod a b h]
theorem qnums_two (q : QS) (a b : List Int) : qnums (qnums q a) b = qnums q (a ++ b) := by simp [qnums, le4s]
end Go.Proofs.Ytmfdojmecpdikaa
