/-
  The laws' arguments of layer 9, opened.
-/
import Derived.Test.YtgmombgjjmgooaaKmKit
import Derived.Test.YtgmombgjjmgooaaStructs
import Derived.Test.YtgmombgjjmgooaaQOrderS
import Derived.Deep.Strs
import Derived.ChangeMaps5
import Derived.SizedLaws
namespace Go.Proofs.Ytgmombgjjmgooaa
open Go Go.RowKit Go.WideShapes Go.ChangeShapes Go.WideElems Go.Deep
set_option linter.unusedVariables false
set_option linter.unusedSimpArgs false
set_option maxRecDepth 100000
section
variable {H : Type} {enc : TypeId × Value → H} {w : World} {base : Nat} {spare : Nat → Bool} {held : Bool}
theorem open_deed9 {b0 : Nat} {v : Value} {d : DataW H} {p : List MemPlace} (hv : Value.okWide Try.prog w .any b0 deedT v) (h : DataW.Trod enc Try.prog w base spare held deedT v d p) :
    ∃ (kd fl : Int) (vl : ByteArray), v = .agg (deedC kd fl vl) ∧ ∃ d0 d1, d = .agg [d0, d1, .lit (.string vl.data.toList)] := by
  obtain ⟨cs, rfl, hsz⟩ := okWide_struct Try.underlying33 hv
  obtain ⟨fuel, hf⟩ := h
  obtain ⟨xs, n, _, hx, hl, hlen, hg⟩ := DataW.trod_struct Try.underlying33 hf
  obtain ⟨l⟩ := cs
  have hl3 : l.length = 3 := by simpa using hsz.trans (by kernel_rfl)
  match l, hl3, xs, hlen with
  | [x0, x1, x2], _, [y0, y1, y2], _ =>
    have g0 := hg 0 _ rfl
    have g1 := hg 1 _ rfl
    have g2 := hg 2 _ rfl
    obtain ⟨kd, e0, _, _⟩ := DataW.trod_int Try.underlying3 g0
    obtain ⟨fl, e1, _, _⟩ := DataW.trod_int Try.underlying3 g1
    obtain ⟨vl, e2, e3, _⟩ := DataW.trod_string Try.underlying9 g2
    have c0 : [x0] = [Value.int .i64 kd] := e0
    have c1 : [x1] = [Value.int .i64 fl] := e1
    have c2 : [x2] = [Value.string vl] := e2
    cases c0; cases c1; cases c2
    cases e3
    refine ⟨kd, fl, vl, rfl, y0.1, y1.1, ?_⟩
    have := (Prod.mk.inj hx).1
    simpa using this
theorem sized_deed {P : Program} {ts : List TypeId} {ds : List (DataW H)} (h : (DataW.weightsEach P ts ds).all (· ≤ reachBytes) = true) {j : Nat} {t t0 t1 t2 : TypeId} {fs : Array Field} {d0 d1 : DataW H} {bytes : List UInt8} (ht : ts[j]? = some t) (hd : ds[j]? = some (.agg [d0, d1, .lit (.string bytes)])) (hu : P.underlying t = some (.struct fs)) (hf : fs.toList.map (·.type) = [t0, t1, t2]) : bytes.length ≤ reachBytes := by
  have := List.all_eq_true.1 h _ (DataW.weights_mem_each ht hd bytes.length (by simp [DataW.weights, DataW.weightsEach, hu, hf]))
  simpa using this
theorem open_deeds9 {b0 : Nat} {v : Value} {d : DataW H} {p : List MemPlace} (hv : Value.okWide Try.prog w .any b0 24 v) (h : DataW.Trod enc Try.prog w base spare held 24 v d p) :
    ∃ (A : Option Addr) (len cap : Nat), v = .slice A len cap ∧ len ≤ cap ∧ cap ≤ maxLen ∧
      ∀ i, i < len → ∃ (b off : Nat) (kd fl : Int) (ss : ByteArray), A = some ⟨b, off, none⟩ ∧ b < w.heap.size ∧ DeedAt w b (off + i * 3) kd fl ss := by
  obtain ⟨A, len, cap, rfl, hl, hm, hA, hf⟩ := open_structs_any Try.underlying24 Try.underlying33 (by kernel_rfl) (by kernel_rfl) (by decide) hv h
  refine ⟨A, len, cap, rfl, hl, hm, fun i hi => ?_⟩
  obtain ⟨ad, rfl, hlt⟩ := hA (by omega)
  obtain ⟨c0, y0, n0, g0, t0⟩ := hf i hi ad rfl 0 _ rfl
  obtain ⟨c1, y1, n1, g1, t1⟩ := hf i hi ad rfl 1 _ rfl
  obtain ⟨c2, y2, n2, g2, t2⟩ := hf i hi ad rfl 2 _ rfl
  obtain ⟨kd, e0, _, w0⟩ := DataW.trod_int Try.underlying3 t0
  obtain ⟨fl, e1, _, w1⟩ := DataW.trod_int Try.underlying3 t1
  obtain ⟨ss, e2, _, w2⟩ := DataW.trod_string Try.underlying9 t2
  cases e0; cases e1; cases e2
  obtain ⟨b, off, spot⟩ := ad
  have hspot : spot = none := by
    obtain ⟨_, _, _, gz, _⟩ := hf 0 (by omega) ⟨b, off, spot⟩ rfl 0 _ rfl
    simpa [Addr.add] using World.cell?_spot gz
  subst hspot
  simp only [Go.WideShapes.add_plain] at g0 g1 g2
  exact ⟨b, off, kd, fl, ss, rfl, hlt, g0, g1, g2⟩
theorem open_spec9 {b0 : Nat} {v : Value} {d : DataW H} {p : List MemPlace} (hv : Value.okWide Try.prog w .any b0 23 v) (h : DataW.Trod enc Try.prog w base spare held 23 v d p) :
    ∃ k key vv mx : Int, v = specV k key vv mx := by
  obtain ⟨cs, rfl, hsz, hf⟩ := open_struct Try.underlying23 (by kernel_rfl) (by kernel_rfl) hv h
  obtain ⟨c0, y0, n0, g0, t0⟩ := hf 0 _ rfl
  obtain ⟨c1, y1, n1, g1, t1⟩ := hf 1 _ rfl
  obtain ⟨c2, y2, n2, g2, t2⟩ := hf 2 _ rfl
  obtain ⟨c3, y3, n3, g3, t3⟩ := hf 3 _ rfl
  obtain ⟨k, e0, _, w0⟩ := DataW.trod_int Try.underlying3 t0
  obtain ⟨key, e1, _, w1⟩ := DataW.trod_int Try.underlying3 t1
  obtain ⟨vv, e2, _, w2⟩ := DataW.trod_int Try.underlying3 t2
  obtain ⟨mx, e3, _, w3⟩ := DataW.trod_int Try.underlying3 t3
  cases e0; cases e1; cases e2; cases e3
  obtain ⟨l⟩ := cs
  match l, hsz with
  | [x0, x1, x2, x3], _ =>
    simp at g0 g1 g2 g3
    subst g0; subst g1; subst g2; subst g3
    exact ⟨k, key, vv, mx, rfl⟩
theorem open_texts9 {b0 : Nat} {v : Value} {d : DataW H} {p : List MemPlace} (hv : Value.okWide Try.prog w .any b0 41 v) (h : DataW.Trod enc Try.prog w base (fun _ => true) held 41 v d p) :
    ∃ (A : Option Addr) (len cap : Nat), v = .slice A len cap ∧ len ≤ cap ∧ cap ≤ maxLen ∧ ∀ i, i < len → ∃ (b off : Nat) (ss : ByteArray), A = some ⟨b, off, none⟩ ∧ b < w.heap.size ∧ w.cell? ⟨b, off + i, none⟩ = some (.string ss) := by
  obtain ⟨A, n, c, rfl⟩ := okWide_slice Try.underlying41 hv
  obtain ⟨fu, hf⟩ := h
  rcases open_strs Try.underlying41 Try.underlying9 (by kernel_rfl) hf with ⟨hcs, _⟩ | ⟨a, len, cap, m, Sx, hcs, _, hl, hm, hmm, hx, hcell⟩
  · simp [Value.cells] at hcs
    obtain ⟨rfl, rfl, rfl⟩ := hcs
    exact ⟨none, 0, 0, rfl, by omega, by unfold maxLen; omega, fun i hi => by omega⟩
  · simp [Value.cells] at hcs
    obtain ⟨rfl, rfl, rfl⟩ := hcs
    have hmm : m = c := by simpa using hmm
    subst hmm
    refine ⟨some a, n, m, rfl, hl, hm, fun i hi => ?_⟩
    obtain ⟨b, off, spot⟩ := a
    obtain ⟨g, _⟩ := hcell i (by omega)
    have hsp : spot = none := by
      have := (hcell 0 (by omega)).1
      simpa [Addr.add] using World.cell?_spot this
    subst hsp
    simp only [Go.WideShapes.add_plain] at g
    exact ⟨b, off, Sx i, rfl, World.block_lt_of_cell? w _ g, g⟩
theorem wf_u8 {n : Int} (h : (Lit.int .u8 n).wf = true) : 0 ≤ n ∧ n ≤ 255 := by
  simp [Lit.wf, IntKind.min, IntKind.max, IntKind.bits, IntKind.signed] at h; omega
theorem u8_back {n : Int} (h : 0 ≤ n ∧ n ≤ 255) : ((UInt8.ofNat n.toNat).toNat : Int) = n := by
  rw [UInt8.toNat_ofNat']
  omega
theorem open_bytes9 {b0 : Nat} {v : Value} {d : DataW H} {p : List MemPlace} (hv : Value.okWide Try.prog w .any b0 bytesT v) (h : DataW.Trod enc Try.prog w base spare held bytesT v d p) :
    ∃ (A : Option Addr) (len cap : Nat) (xs : List UInt8), v = .slice A len cap ∧ len ≤ cap ∧ cap ≤ maxLen ∧ xs.length = len ∧
      ∀ i u, xs[i]? = some u → ∃ (b off : Nat), A = some ⟨b, off, none⟩ ∧ b < w.heap.size ∧ w.cell? ⟨b, off + i, none⟩ = some (.int .u8 (u.toNat : Int)) := by
  obtain ⟨A, len, cap, rfl⟩ := okWide_slice Try.underlying46 hv
  obtain ⟨f, hf⟩ := h
  rcases open_ints Try.underlying46 Try.underlying5 (by kernel_rfl) hf with ⟨hcs, _⟩ | ⟨a, len', cap', zs, hcs, _, hl, hm, hz, _, hcell, hwf⟩
  · simp [Value.cells] at hcs
    obtain ⟨rfl, rfl, rfl⟩ := hcs
    exact ⟨none, 0, 0, [], rfl, by omega, by unfold maxLen; omega, rfl, fun i u h => by simp at h⟩
  · simp [Value.cells] at hcs
    obtain ⟨rfl, rfl, rfl⟩ := hcs
    have hz' : len ≤ zs.length := by rw [hz]; split <;> omega
    refine ⟨some a, len, cap, (zs.take len).map fun n => UInt8.ofNat n.toNat, rfl, hl, hm, by rw [List.length_map, List.length_take]; omega, fun i u hi => ?_⟩
    rw [List.getElem?_map, Option.map_eq_some_iff] at hi
    obtain ⟨n, hn, rfl⟩ := hi
    rw [List.getElem?_take] at hn
    split at hn
    · have hlt := (List.getElem?_eq_some_iff.1 hn).1
      have g := hcell i hlt
      rw [show zs.getD i 0 = n by rw [List.getD_eq_getElem?_getD, hn]; rfl] at g
      have hb := wf_u8 (hwf n (List.mem_of_getElem? hn))
      rw [u8_back hb]
      obtain ⟨b, off, spot⟩ := a
      have hsp : spot = none := by
        have := hcell 0 (by omega)
        simpa [Addr.add] using World.cell?_spot this
      subst hsp
      simp only [Go.WideShapes.add_plain] at g
      exact ⟨b, off, rfl, World.block_lt_of_cell? w _ g, g⟩
    · cases hn
end
theorem plays_any (k key vv mx : Int) (A : Option Addr) (len cap : Nat) (hlc : len ≤ cap) (hm : cap ≤ maxLen) (w : World)
    (hA : ∀ i, i < len → ∃ (b off : Nat) (kd fl : Int) (ss : ByteArray), A = some ⟨b, off, none⟩ ∧ b < w.heap.size ∧ DeedAt w b (off + i * 3) kd fl ss) :
    Calls Try.prog 3 #[specV k key vv mx, .slice A len cap] w fun e w' => e = .returned (.bool true) ∧ Below w.heap.size w w' := by
  cases h : fitsB k key vv mx
  · exact plays_no k key vv mx h A len cap w
  · obtain ⟨_, rfl, h1, h2⟩ := fits_true h
    obtain ⟨v, rfl⟩ : ∃ v : Nat, vv = (v : Int) := ⟨vv.toNat, by omega⟩
    obtain ⟨m, rfl⟩ : ∃ m : Nat, mx = (m : Int) := ⟨mx.toNat, by omega⟩
    exact plays_ok k v m h A len cap hlc hm w hA
theorem order_any (A : Option Addr) (len cap : Nat) (hlc : len ≤ cap) (hm : cap ≤ maxLen) (most : Int) (xs : List UInt8) (hxs : xs.length = len) (st : Bool) (w : World)
    (hA : ∀ i u, xs[i]? = some u → ∃ (b off : Nat), A = some ⟨b, off, none⟩ ∧ b < w.heap.size ∧ w.cell? ⟨b, off + i, none⟩ = some (.int .u8 (u.toNat : Int))) :
    Calls Try.prog 4 #[.slice A len cap, .int .i64 most, .bool st] w fun e w' => e = .returned (.bool true) ∧ Below w.heap.size w w' := by
  cases st
  · exact order_queue A len cap hlc hm most xs hxs w hA
  · exact order_stack A len cap hlc hm most xs hxs w hA
end Go.Proofs.Ytgmombgjjmgooaa
