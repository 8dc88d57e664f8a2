/-
  My own kit, for every law: a table's cells out of its listed datum ('back_of_trod'); what a law that leaves old memory alone owes to its row ('law_post'); integers in arrays that are handed over by value.
-/
import Derived.Below
import Derived.Carry
import Derived.ChangeSame
import Derived.ChangeArms
import Derived.OpenShut
import Derived.ProofKit
import Derived.MakeChecks
import Derived.WideShapes4
namespace Go.Proofs.YtjkgbghikhbecaaDoor
open Go Go.RowKit Go.WideShapes Go.ChangeShapes Go.WideElems
set_option linter.unusedVariables false

section
variable {H : Type} {enc : TypeId × Value → H} {P : Program}

def tightEnd (P : Program) : Nat → List Field → Option Nat
  | o, [] => some o
  | o, f :: fs => if f.offset = o then tightEnd P (o + P.cellsOf f.type) fs else none

/-- The cells that read as a plain datum (bools, integers, strings, structs and arrays of such). -/
def back {H : Type} (P : Program) : Nat → TypeId → DataW H → Option (List Value)
  | 0, _, _ => none
  | f + 1, t, d =>
    match P.underlying t, d with
    | some .bool, .lit (.bool b) => some [.bool b]
    | some (.int k), .lit (.int k' n) => if k' = k then some [.int k n] else none
    | some .string, .lit (.string bs) => some [.string ⟨bs.toArray⟩]
    | some (.struct fs), .agg ds =>
      if ds.length = fs.size ∧ tightEnd P 0 fs.toList = some (P.cellsOf t) then ((fs.toList.zip ds).mapM fun x => back P f x.1.type x.2).map List.flatten else none
    | some (.array n e), .agg ds =>
      if ds.length = n ∧ P.cellsOf t = n * P.cellsOf e then (ds.mapM (back P f e)).map List.flatten else none
    | _, _ => none

theorem join_rows (c : Nat) : ∀ (ls : List (List Value)) (cs : List Value), cs.length = ls.length * c → (∀ i, i < ls.length → ls[i]? = some ((cs.drop (i * c)).take c)) → cs = ls.flatten := by
  intro ls
  induction ls with
  | nil => intro cs h _; simpa using h
  | cons l ls ih =>
    intro cs h hi
    have h0 := hi 0 (by simp)
    simp at h0
    rw [List.flatten_cons, h0, ← ih (cs.drop c) (by simp [h, Nat.add_mul]) ?_, List.take_append_drop]
    intro i hlt
    have := hi (i + 1) (by simpa using hlt)
    simpa [List.drop_drop, Nat.add_mul, Nat.add_comm] using this

theorem join_fields (CS : List Value) : ∀ (fs : List Field) (ls : List (List Value)) (o : Nat), tightEnd P o fs = some CS.length → ls.length = fs.length →
    (∀ (i : Nat) (f : Field), fs[i]? = some f → ls[i]? = some ((CS.drop f.offset).take (P.cellsOf f.type))) → CS.drop o = ls.flatten := by
  intro fs
  induction fs with
  | nil =>
    intro ls o h hl _
    simp [tightEnd] at h
    have : ls = [] := by simpa using hl
    subst this
    simp [h]
  | cons f fs ih =>
    intro ls o h hl hi
    match ls, hl with
    | l :: ls, hl =>
      simp only [tightEnd] at h
      split at h
      · rename_i ho
        have h0 := hi 0 f (by simp)
        simp at h0
        rw [ho] at h0
        rw [List.flatten_cons, h0, ← ih ls (o + P.cellsOf f.type) h (by simpa using hl) (fun i g hg => by simpa using hi (i + 1) g (by simpa using hg)), ← List.drop_drop, List.take_append_drop]
      · cases h

theorem mapM_get {α β : Type} {f : α → Option β} : ∀ {l : List α} {r : List β}, l.mapM f = some r → r.length = l.length ∧ ∀ (i : Nat) (a : α), l[i]? = some a → ∃ b, f a = some b ∧ r[i]? = some b := by
  intro l
  induction l with
  | nil => intro r h; simp at h; subst h; simp
  | cons a l ih =>
    intro r h
    simp only [List.mapM_cons, Option.bind_eq_bind, Option.bind_eq_some_iff, Option.pure_def, Option.some.injEq] at h
    obtain ⟨b, hb, r', hr', rfl⟩ := h
    obtain ⟨hl, hg⟩ := ih hr'
    refine ⟨by simp [hl], fun i x hx => ?_⟩
    cases i with
    | zero => simp at hx; subst hx; exact ⟨b, hb, by simp⟩
    | succ i => simpa using hg i x (by simpa using hx)

/-- What reads as a plain datum holds just the cells that the datum tells. -/
theorem back_of_trod {w : World} {base : Nat} {sp : Nat → Bool} {held : Bool} : ∀ (f g : Nat) (t : TypeId) (cs : List Value) (y : DataW H × List MemPlace) (l : List Value),
    DataW.trod enc P w base sp held g t cs = some y → back P f t y.1 = some l → cs = l := by
  intro f
  induction f with
  | zero => intro g t cs y l _ h; simp [back] at h
  | succ f ih =>
    intro g t cs y l ht hb
    unfold back at hb
    split at hb
    · rename_i hu hd
      obtain ⟨b, rfl, rfl⟩ := DataW.trod_bool hu ht
      simp at hd hb
      subst hd; exact hb
    · rename_i hu hd
      obtain ⟨n, rfl, rfl, _⟩ := DataW.trod_int hu ht
      simp only [DataW.lit.injEq, Lit.int.injEq] at hd
      obtain ⟨hk, hn⟩ := hd
      split at hb
      · simp at hb
        rw [← hb, hn]
      · cases hb
    · rename_i hu hd
      obtain ⟨s, rfl, rfl, _⟩ := DataW.trod_string hu ht
      simp at hd hb
      subst hd
      rw [← hb]
    · rename_i fs ds hu hd
      obtain ⟨xs, n, rfl, rfl, hl, hxl, hx⟩ := DataW.trod_struct hu ht
      simp only [DataW.agg.injEq] at hd
      split at hb
      · rename_i hc
        simp only [Option.map_eq_some_iff] at hb
        obtain ⟨ls, hls, rfl⟩ := hb
        obtain ⟨hll, hg⟩ := mapM_get hls
        have e := join_fields (P := P) cs fs.toList ls 0 (by rw [hc.2, hl]) (by rw [hll]; simp [hc.1]) (fun i fd hfd => by
          have hfd' : fs[i]? = some fd := by simpa using hfd
          have h1 := hx i fd hfd'
          have hi : i < xs.length := by rw [hxl]; exact (Array.getElem?_eq_some_iff.1 hfd').1
          have h2 : xs[i]? = some xs[i] := List.getElem?_eq_getElem hi
          rw [h2] at h1
          have h3 : ds[i]? = some xs[i].1 := by rw [← hd]; simp [h2]
          obtain ⟨b, hb1, hb2⟩ := hg i (fd, xs[i].1) (by rw [List.getElem?_zip_eq_some]; exact ⟨hfd, h3⟩)
          rw [hb2, ih n fd.type _ _ b h1 hb1])
        simpa using e
      · cases hb
    · rename_i n e ds hu hd
      obtain ⟨xs, m, rfl, rfl, hl, hxl, hx⟩ := DataW.trod_array hu ht
      simp only [DataW.agg.injEq] at hd
      split at hb
      · rename_i hc
        simp only [Option.map_eq_some_iff] at hb
        obtain ⟨ls, hls, rfl⟩ := hb
        obtain ⟨hll, hg⟩ := mapM_get hls
        refine join_rows (P.cellsOf e) ls cs (by rw [hl, hc.2, hll, hc.1]) (fun i hi => ?_)
        have hin : i < n := by rw [hll, hc.1] at hi; exact hi
        have h1 := hx i hin
        have h2 : xs[i]? = some (xs[i]'(by rw [hxl]; exact hin)) := List.getElem?_eq_getElem _
        rw [h2] at h1
        have h3 : ds[i]? = some (xs[i]'(by rw [hxl]; exact hin)).1 := by rw [← hd]; simp [h2]
        obtain ⟨b, hb1, hb2⟩ := hg i _ h3
        rw [hb2, ih m e _ _ b h1 hb1]
      · cases hb
    · cases hb

/-- What is read of the arguments stays as it was, where old memory did. -/
theorem trodAll_stays (hl : laidOutB P = true) {W W' : World} {sp : Nat → Bool} : ∀ (ts : List TypeId) (vs : List Value) (ds : List (DataW H)) (ps : List MemPlace), (ts.all fun t => P.readableRec t && decide (t < P.types.size)) = true →
    DataW.TrodAll enc P W 0 (fun _ => true) true ts vs ds ps → (∀ x ∈ ps, W.sameAt W' x) → (∀ x ∈ ps, sp x.block = true) → DataW.TrodAll enc P W' 0 sp true ts vs ds ps := by
  intro ts
  induction ts with
  | nil =>
    intro vs ds ps _ h _ _
    match vs, ds, h with
    | [], [], h => exact h
  | cons t ts ih =>
    intro vs ds ps hr h hs hsp
    match vs, ds, h with
    | v :: vs, d :: ds, h =>
      obtain ⟨p, q, h1, h2, rfl⟩ := h
      simp only [List.all_cons, Bool.and_eq_true, decide_eq_true_eq] at hr
      exact ⟨p, q, Trod_stays hl hr.1.1 hr.1.2 h1 (fun x hx => hs x (List.mem_append.2 (Or.inl hx))) (fun x hx => hsp x (List.mem_append.2 (Or.inl hx))),
        ih vs ds q hr.2 h2 (fun x hx => hs x (List.mem_append.2 (Or.inr hx))) (fun x hx => hsp x (List.mem_append.2 (Or.inr hx))), rfl⟩

/-- A law that answers true and leaves old memory alone meets its row's post. -/
theorem law_post {f : Func} {s : ChangeSpec} {tb : TypeId} {fresh handsOn : Bool} {W W' : World} {args : Array Value} {ds : List (DataW H)} {before : List MemPlace}
    (hl : laidOutB P = true) (hr : (f.params.toList.all fun t => P.readableRec t && decide (t < P.types.size)) = true) (hv : s.vars = []) (htb : P.underlying tb = some .bool) (hres : f.resultTypes = #[tb])
    (hfn : s.fn H ds = { results := [.lit (.bool true)], args := ds })
    (hW : DataW.Whole enc P f.params.toList s.vars false W args.toList ds [] before) (hb : Below W.heap.size W W') :
    s.post enc P f false fresh handsOn false W args (.bool true) W' := by
  have hlt : ∀ p ∈ before, p.block < W.heap.size := fun p hp => hW.lt p hp
  have hold : ∀ p ∈ before, (fun b => decide (b < W.heap.size)) p.block = true := fun p hp => by simpa using hlt p hp
  obtain ⟨p, q, hA, hV, hpq, hz, hn⟩ := id hW
  rw [hv] at hV
  obtain rfl : q = [] := hV
  simp only [List.append_nil] at hpq
  subst hpq
  have hargs : ∀ sp : Nat → Bool, (∀ x ∈ before, sp x.block = true) → DataW.TrodAll enc P W' 0 sp true f.params.toList args.toList ds before := fun sp hsp =>
    trodAll_stays hl _ _ _ _ hr hA (fun x hx => hb.same (hlt x hx)) hsp
  have hres' : ∀ (b : Nat) (sp : Nat → Bool) (hd : Bool), DataW.TrodAll enc P W' b sp hd f.resultTypes.toList ((Value.bool true).resultList f.resultTypes.size) (s.fn H (ds ++ [])).results [] := fun _ _ _ => by
    rw [hres, List.append_nil, hfn]
    exact trodAll_mk1 (shut_bool htb true)
  refine ⟨ds, [], before, [], before, [], hW, hres' _ _ _, ?_, ?_, World.keptBut_mono (fun p hp => ⟨hp, ?_⟩) (hb.frame (· ∈ before)), fun h => by cases h⟩
  · rw [List.append_nil, hfn]; exact hargs _ hold
  · rw [hv, List.append_nil, hfn]; rfl
  · exact Or.inr (Or.inl hp)

theorem ints_of (k : IntKind) : ∀ l : List Value, (∀ i, i < l.length → ∃ z, (l.drop i).take 1 = [.int k z] ∧ (Lit.int k z).wf = true) → ∃ zs : List Int, l = zs.map (Value.int k) ∧ ∀ z ∈ zs, (Lit.int k z).wf = true := by
  intro l
  induction l with
  | nil => intro _; exact ⟨[], rfl, by simp⟩
  | cons x l ih =>
    intro h
    obtain ⟨z, e, hz⟩ := h 0 (by simp)
    simp at e
    obtain ⟨zs, rfl, hzs⟩ := ih (fun i hi => by
      obtain ⟨y, ey, hy⟩ := h (i + 1) (by simpa using hi)
      exact ⟨y, by simpa using ey, hy⟩)
    exact ⟨z :: zs, by simp [e], by simpa [hz] using hzs⟩
theorem bools_of : ∀ l : List Value, (∀ i, i < l.length → ∃ z, (l.drop i).take 1 = [.bool z]) → ∃ zs : List Bool, l = zs.map Value.bool := by
  intro l
  induction l with
  | nil => intro _; exact ⟨[], rfl⟩
  | cons x l ih =>
    intro h
    obtain ⟨z, e⟩ := h 0 (by simp)
    simp at e
    obtain ⟨zs, rfl⟩ := ih (fun i hi => by
      obtain ⟨y, ey⟩ := h (i + 1) (by simpa using hi)
      exact ⟨y, by simpa using ey⟩)
    exact ⟨z :: zs, by simp [e]⟩
/-- An array of integers, by value. -/
theorem open_arr_ints {W W' : World} {base b0 n : Nat} {t e : TypeId} {k : IntKind} {sp : Nat → Bool} {held : Bool} {v : Value} {d : DataW H} {ps : List MemPlace}
    (ht : P.underlying t = some (.array n e)) (he : P.underlying e = some (.int k)) (hce : P.cellsOf e = 1) (hct : P.cellsOf t = n)
    (hok : Value.okWide P W .any base t v) (h : DataW.Trod enc P W' b0 sp held t v d ps) : ∃ zs : List Int, zs.length = n ∧ v = .agg (zs.map (Value.int k)).toArray ∧ ∀ z ∈ zs, (Lit.int k z).wf = true := by
  obtain ⟨cs, rfl, hsz, _⟩ : ∃ cs, v = .agg cs ∧ cs.size = P.cellsOf t ∧ Row.okWide P W .any base t cs := by simpa [Value.okWide, ht] using hok
  obtain ⟨fuel, h⟩ := h
  obtain ⟨xs, m, rfl, _, hl, hxl, hx⟩ := DataW.trod_array ht h
  obtain ⟨l⟩ := cs
  simp only [Value.cells] at hl hx
  rw [hct] at hl
  obtain ⟨zs, rfl, hzs⟩ := ints_of k l (fun i hi => by
    have hin : i < n := by rw [← hl]; exact hi
    have h1 := hx i hin
    rw [hce, Nat.mul_one, List.getElem?_eq_getElem (by rw [hxl]; exact hin)] at h1
    obtain ⟨z, e1, _, hz⟩ := DataW.trod_int he h1
    exact ⟨z, e1, hz⟩)
  exact ⟨zs, by simpa using hl, rfl, hzs⟩
theorem open_arr_bools {W W' : World} {base b0 n : Nat} {t e : TypeId} {sp : Nat → Bool} {held : Bool} {v : Value} {d : DataW H} {ps : List MemPlace}
    (ht : P.underlying t = some (.array n e)) (he : P.underlying e = some .bool) (hce : P.cellsOf e = 1) (hct : P.cellsOf t = n)
    (hok : Value.okWide P W .any base t v) (h : DataW.Trod enc P W' b0 sp held t v d ps) : ∃ zs : List Bool, zs.length = n ∧ v = .agg (zs.map Value.bool).toArray := by
  obtain ⟨cs, rfl, hsz, _⟩ : ∃ cs, v = .agg cs ∧ cs.size = P.cellsOf t ∧ Row.okWide P W .any base t cs := by simpa [Value.okWide, ht] using hok
  obtain ⟨fuel, h⟩ := h
  obtain ⟨xs, m, rfl, _, hl, hxl, hx⟩ := DataW.trod_array ht h
  obtain ⟨l⟩ := cs
  simp only [Value.cells] at hl hx
  rw [hct] at hl
  obtain ⟨zs, rfl⟩ := bools_of l (fun i hi => by
    have hin : i < n := by rw [← hl]; exact hi
    have h1 := hx i hin
    rw [hce, Nat.mul_one, List.getElem?_eq_getElem (by rw [hxl]; exact hin)] at h1
    obtain ⟨z, e1, _⟩ := DataW.trod_bool he h1
    exact ⟨z, e1⟩)
  exact ⟨zs, by simpa using hl, rfl⟩
theorem open_arr_bools2 {W W' : World} {base b0 : Nat} {t e : TypeId} {sp : Nat → Bool} {held : Bool} {v : Value} {d : DataW H} {ps : List MemPlace}
    (ht : P.underlying t = some (.array 2 e)) (he : P.underlying e = some .bool) (hce : P.cellsOf e = 1) (hct : P.cellsOf t = 2)
    (hok : Value.okWide P W .any base t v) (h : DataW.Trod enc P W' b0 sp held t v d ps) : ∃ a b : Bool, v = .agg #[.bool a, .bool b] := by
  obtain ⟨zs, hl, rfl⟩ := open_arr_bools ht he hce hct hok h
  match zs, hl with
  | [a, b], _ => exact ⟨a, b, rfl⟩
theorem open_arr_u64s2 {W W' : World} {base b0 : Nat} {t e : TypeId} {sp : Nat → Bool} {held : Bool} {v : Value} {d : DataW H} {ps : List MemPlace}
    (ht : P.underlying t = some (.array 2 e)) (he : P.underlying e = some (.int .u64)) (hce : P.cellsOf e = 1) (hct : P.cellsOf t = 2)
    (hok : Value.okWide P W .any base t v) (h : DataW.Trod enc P W' b0 sp held t v d ps) : ∃ a b : Int, v = .agg #[.int .u64 a, .int .u64 b] ∧ (Lit.int .u64 a).wf = true ∧ (Lit.int .u64 b).wf = true := by
  obtain ⟨zs, hl, rfl, hz⟩ := open_arr_ints ht he hce hct hok h
  match zs, hl with
  | [a, b], _ => exact ⟨a, b, rfl, hz a (by simp), hz b (by simp)⟩
theorem open_arr_u64s4 {W W' : World} {base b0 : Nat} {t e : TypeId} {sp : Nat → Bool} {held : Bool} {v : Value} {d : DataW H} {ps : List MemPlace}
    (ht : P.underlying t = some (.array 4 e)) (he : P.underlying e = some (.int .u64)) (hce : P.cellsOf e = 1) (hct : P.cellsOf t = 4)
    (hok : Value.okWide P W .any base t v) (h : DataW.Trod enc P W' b0 sp held t v d ps) : ∃ a b c g : Int, v = .agg #[.int .u64 a, .int .u64 b, .int .u64 c, .int .u64 g] ∧ (Lit.int .u64 a).wf = true ∧ (Lit.int .u64 b).wf = true ∧ (Lit.int .u64 c).wf = true ∧ (Lit.int .u64 g).wf = true := by
  obtain ⟨zs, hl, rfl, hz⟩ := open_arr_ints ht he hce hct hok h
  match zs, hl with
  | [a, b, c, g], _ => exact ⟨a, b, c, g, rfl, hz a (by simp), hz b (by simp), hz c (by simp), hz g (by simp)⟩
end
end Go.Proofs.YtjkgbghikhbecaaDoor
