/-
  Layer 6, the reference's writer, plainly: of types that may be it lays the same bytes.
-/
import Derived.Test.YtmfdojmecpdikaaCMath2
import Derived.Test.YtmfdojmecpdikaaCWName
namespace Go.Proofs.Ytmfdojmecpdikaa
open Go Go.RowKit
set_option linter.unusedVariables false
set_option linter.unusedSimpArgs false
set_option maxRecDepth 100000
def qnums (q : QS) (l : List Int) : QS := ⟨q.ts ++ le4s l, q.ns, q.es⟩
def qmemW (q : QS) (m : Mem) : QS := qnums (qname q m.name) [m.ty, m.off]
def qheadW (q : QS) (t : Ty) : QS := qnums (qnums (qname q t.name) [t.kind * 16777216 + t.mems.length]) (kindNums t)
def qputW (q : QS) (t : Ty) : QS := if t.kind = 4 then t.mems.foldl qmemW (qheadW q t) else qheadW q t
def newQ : QS := ⟨[], [0], [(⟨#[]⟩, 0)]⟩
def qblob (q : QS) : List UInt8 := opening ++ le4s [0, q.ts.length, q.ts.length, q.ns.length] ++ q.ts ++ q.ns
def qbuildF (l : List Ty) : List UInt8 := qblob (l.foldl qputW newQ)
structure Rel (q : QS) (w : WS) : Prop where
  ts : q.ts = w.ts
  ns : q.ns = w.ns
  es : ∀ s : ByteArray, qfind q.es s = findE w.es s.data.toList
theorem qsame_eq (s : ByteArray) (p : ByteArray × Int) : qsame s p = decide (s.data.toList = p.1.data.toList) := by
  unfold qsame
  rw [ByteArray.toList_eq, ByteArray.toList_eq, Bool.eq_iff_iff]
  simp only [beq_iff_eq, decide_eq_true_eq]
  exact eq_comm
theorem qfind_snoc (es : List (ByteArray × Int)) (k s : ByteArray) (v : Int) : qfind (es ++ [(k, v)]) s = (qfind es s).or (if s.data.toList = k.data.toList then some v else none) := by
  unfold qfind
  rw [List.find?_append]
  cases h : es.find? (qsame s) with
  | some p => simp
  | none =>
    simp only [Option.none_or, Option.map_none]
    by_cases hk : s.data.toList = k.data.toList
    · rw [if_pos hk]
      simp [List.find?, qsame_eq, hk]
    · rw [if_neg hk]
      simp [List.find?, qsame_eq, hk]
theorem Rel.nums {q : QS} {w : WS} (h : Rel q w) (l : List Int) : Rel (qnums q l) (numsW w l) := ⟨by simp only [qnums, numsW, h.ts], h.ns, h.es⟩
theorem le4s_one (n : Int) : le4s [n] = le4 n := by simp [le4s]
theorem Rel.name {q : QS} {w : WS} (h : Rel q w) (s : ByteArray) : Rel (qname q s) (numsW (placeW w s.data.toList) [placeP w s.data.toList]) := by
  unfold qname placeW placeP
  rw [h.es s]
  cases hf : findE w.es s.data.toList with
  | some p =>
    simp only [numsW]
    exact ⟨by simp only [h.ts, le4s_one], h.ns, h.es⟩
  | none =>
    simp only [numsW]
    refine ⟨by simp only [h.ts, h.ns, le4s_one], by simp only [h.ns], fun x => ?_⟩
    rw [qfind_snoc, findE_cons, h.es x, h.ns]
    by_cases hx : x.data.toList = s.data.toList
    · rw [if_pos hx, if_pos hx, hx, hf]; rfl
    · rw [if_neg hx, if_neg hx]; simp
theorem nums_app (w : WS) (a b : List Int) : numsW (numsW w a) b = numsW w (a ++ b) := by simp [numsW, le4s]
theorem Rel.mem {q : QS} {w : WS} (h : Rel q w) (m : Mem) : Rel (qmemW q m) (memW w m) := by
  have := (h.name m.name).nums [m.ty, m.off]
  rw [nums_app] at this
  exact this
theorem Rel.mems : ∀ (l : List Mem) {q : QS} {w : WS}, Rel q w → Rel (l.foldl qmemW q) (l.foldl memW w) := by
  intro l
  induction l with
  | nil => intro q w h; exact h
  | cons m l ih => intro q w h; exact ih (h.mem m)
theorem Rel.head {q : QS} {w : WS} (h : Rel q w) (t : Ty) : Rel (qheadW q t) (numsW (headW w t) (kindNums t)) := by
  have := (h.name t.name).nums [t.kind * 16777216 + t.mems.length]
  rw [nums_app] at this
  exact this.nums _
theorem mems_nil_of (t : Ty) (hk : kindOk t = true) (h4 : t.kind ≠ 4) : t.mems = [] := by
  have hkk := kind_of t hk
  unfold kindOk at hk
  rcases hkk with h1 | h1 | h1 | h1 | h1
  all_goals simp [h1] at hk
  all_goals first | exact absurd h1 h4 | exact hk.2 | exact hk.2.2 | simp [hk]
theorem Rel.put {q : QS} {w : WS} (h : Rel q w) (t : Ty) (hm : mayB t = true) : Rel (qputW q t) (putW w t) := by
  unfold qputW putW
  by_cases h4 : t.kind = 4
  · rw [if_pos h4]
    exact Rel.mems _ (h.head t)
  · rw [if_neg h4]
    have hk : kindOk t = true := by simp only [mayB, Bool.and_eq_true] at hm; exact hm.2
    rw [mems_nil_of t hk h4]
    exact h.head t
theorem Rel.all : ∀ (l : List Ty) {q : QS} {w : WS}, l.all mayB = true → Rel q w → Rel (l.foldl qputW q) (l.foldl putW w) := by
  intro l
  induction l with
  | nil => intro q w _ h; exact h
  | cons t l ih =>
    intro q w hall h
    simp only [List.all_cons, Bool.and_eq_true] at hall
    exact ih hall.2 (h.put t hall.1)
theorem new_rel : Rel newQ newW := by
  refine ⟨rfl, rfl, fun s => ?_⟩
  have := qfind_snoc [] ⟨#[]⟩ s 0
  rw [List.nil_append] at this
  show qfind [(⟨#[]⟩, 0)] s = findE [([], 0)] s.data.toList
  rw [this, findE_cons]
  by_cases hx : s.data.toList = []
  · rw [if_pos hx, if_pos (show s.data.toList = (ByteArray.mk #[]).data.toList from hx)]; rfl
  · rw [if_neg hx, if_neg (show ¬ s.data.toList = (ByteArray.mk #[]).data.toList from hx)]; rfl
theorem qbuild_eq (l : List Ty) (hall : l.all mayB = true) : qbuildF l = buildF l := by
  have h := Rel.all l hall new_rel
  unfold qbuildF qblob buildF blobW
  rw [h.ts, h.ns]
theorem qparse_qbuild (l : List Ty) (hall : l.all mayB = true) (hlen : l.length ≤ 1024) : qparseF (qbuildF l) = some l := by
  rw [qbuild_eq l hall]
  simpa using qparse_build l [] hall hlen
end Go.Proofs.Ytmfdojmecpdikaa
