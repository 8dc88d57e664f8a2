/-
  The reference of layer 10: Next. Layer 10: which specs may be, in the reference. The reference of layer 10: New, Free.
-/
import Derived.Test.YtmopflcaeecgcaaP11
namespace Go.Proofs.Ytmopflcaeecgcaa
open Go Go.RowKit Go.Maps
set_option linter.unusedVariables false
set_option linter.unusedSimpArgs false
set_option maxRecDepth 100000
def ltS (a b : ByteArray) : Bool := Op.bytesLess a.toList b.toList
def gtS (a b : ByteArray) : Bool := !(Op.bytesLess a.toList b.toList || a.toList == b.toList)
theorem gt_run (t : TypeId) (a b : ByteArray) : binOp .gtr t (.string a) (.string b) = pure (.bool (gtS a b)) := by simp [binOp, Op.stringOp, gtS]
/-- The least key above key (klen bytes; else of all) of the first j. -/
def nextTo (klen : Nat) (es : List Ent) (key : ByteArray) : Nat → Option ByteArray
  | 0 => none
  | j + 1 => (es[j]?).elim (nextTo klen es key j) fun e =>
    if (key.size ≠ klen ∨ gtS e.key key = true) ∧ (nextTo klen es key j = none ∨ ltS e.key ((nextTo klen es key j).getD ⟨#[]⟩) = true) then some e.key else nextTo klen es key j
theorem nextTo_step {klen : Nat} {es : List Ent} {key : ByteArray} {j : Nat} {e : Ent} (he : es[j]? = some e) :
    nextTo klen es key (j + 1) = if (key.size ≠ klen ∨ gtS e.key key = true) ∧ (nextTo klen es key j = none ∨ ltS e.key ((nextTo klen es key j).getD ⟨#[]⟩) = true) then some e.key else nextTo klen es key j := by
  rw [nextTo, he]; rfl
theorem no_lt {A : Prop} {e bst : ByteArray} (h : Op.bytesLess e.toList bst.toList = false) : ¬ (A ∧ (some bst = none ∨ ltS e ((some bst).getD ⟨#[]⟩) = true)) := by
  rintro ⟨_, hh | hh⟩
  · cases hh
  · have h2 : Op.bytesLess e.toList bst.toList = true := hh
    rw [h] at h2; cases h2
theorem no_gt {B : Prop} {key k : ByteArray} {klen : Nat} (h1 : key.size = klen) (h2 : gtS k key = false) : ¬ ((key.size ≠ klen ∨ gtS k key = true) ∧ B) := by
  rintro ⟨h | h, _⟩
  · exact h h1
  · rw [h2] at h; cases h
def nextA (o : Option ByteArray) : Ending := .returned (.tuple #[.string (o.getD ⟨#[]⟩), .int .i64 (o.elim 4 fun _ => 0)])
section
variable {p : HPar} {w0 w w' : World} {Q Q0 U T T' : Nat → Prop} {s s' : HSt} {V V' : Value}
theorem YS.next_nil (h : YS p w0 Q0 s T V w) (key : ByteArray) (h0 : s.es = []) : Calls Try.prog 31 #[tp p.y, .string key] w fun e w' => e = nextA none ∧ w = w' := by
  rcases ents_form h.ents with ⟨hV, _⟩ | ⟨g, c, cur, hV, _⟩
  · have c5 : w.cell? ⟨p.y, 5, none⟩ = some (.slice none 0 0) := by rw [← hV]; exact h.map.cell 5
    clear h hV
    go_enter Try.func31, Try.ntmps31
    go_wp2_with fail
    go_loopw [6, 7, 8] (fun b f i wr => i = .int .i64 0 ∧ f = .bool false ∧ b = .string ⟨#[]⟩ ∧ wr = w) (fun _ _ _ _ => 0)
    case atStart => exact ⟨rfl, rfl, rfl, rfl⟩
    case round =>
      obtain ⟨rfl, rfl, rfl, rfl⟩ := hrel
      go_wp2_with fail
      go_ret2
      exact ⟨rfl, rfl⟩
  · have c5 : w.cell? ⟨p.y, 5, none⟩ = some (.slice (some ⟨g, 0, none⟩) 0 c) := by
      have e : s.es.length = 0 := by rw [h0]; rfl
      rw [e] at hV
      rw [← hV]; exact h.map.cell 5
    clear h hV
    go_enter Try.func31, Try.ntmps31
    go_wp2_with fail
    go_loopw [6, 7, 8] (fun b f i wr => i = .int .i64 0 ∧ f = .bool false ∧ b = .string ⟨#[]⟩ ∧ wr = w) (fun _ _ _ _ => 0)
    case atStart => exact ⟨rfl, rfl, rfl, rfl⟩
    case round =>
      obtain ⟨rfl, rfl, rfl, rfl⟩ := hrel
      go_wp2_with fail
      go_ret2
      exact ⟨rfl, rfl⟩
set_option maxHeartbeats 4000000 in
theorem YS.next_ne (h : YS p w0 Q0 s T V w) (hl : s.es.length ≤ 4096) (key : ByteArray) (h0 : s.es ≠ []) (ha : key.size ≠ p.key) :
    Calls Try.prog 31 #[tp p.y, .string key] w fun e w' => e = nextA (nextTo p.key s.es key s.es.length) ∧ w = w' := by
  obtain ⟨g, c, rfl, h1, h2⟩ := h.row h0
  have c2 : w.cell? ⟨p.y, 2, none⟩ = some (.int .i64 p.key) := h.map.cell 2
  have c5 : w.cell? ⟨p.y, 5, none⟩ = some (.slice (some ⟨g, 0, none⟩) s.es.length c) := h.map.cell 5
  have H := Lib.hid h
  have b1 : ((key.size : Int) != (p.key : Int)) = true := by simp; omega
  have HNE := Lib.hid ha
  clear h h1 h2 h0 ha
  go_enter Try.func31, Try.ntmps31
  go_wp2_with fail
  go_loopw [6, 7, 8] (fun b f i wr => ∃ j : Nat, j ≤ s.es.length ∧ i = .int .i64 j ∧ wr = w ∧ b = .string ((nextTo p.key s.es key j).getD ⟨#[]⟩) ∧ f = .bool (nextTo p.key s.es key j).isSome) (fun _ _ i _ => s.es.length - (intOf i).toNat)
  case atStart => exact ⟨0, by omega, rfl, rfl, rfl, rfl⟩
  case round =>
    obtain ⟨j, hj, rfl, hw, rfl, rfl⟩ := hrel
    obtain rfl : w = wr := hw.symm
    by_cases hjn : j < s.es.length
    · obtain ⟨e, he⟩ : ∃ e, s.es[j]? = some e := ⟨_, List.getElem?_eq_getElem hjn⟩
      have HE := Lib.hid he
      have d0 : w.cell? ⟨g, j * 3, none⟩ = some (.string e.key) := (ents_cells H.out.ents he).1
      have g1 : decide (j < s.es.length) = true := by simpa using hjn
      have i1 : (j : Int) < (s.es.length : Int) := by omega
      clear he
      rcases ho : nextTo p.key s.es key j with _ | bst
      · have HO := Lib.hid ho
        clear ho
        rw [show (none : Option ByteArray).getD ⟨#[]⟩ = ⟨#[]⟩ from rfl, show (none : Option ByteArray).isSome = false from rfl]
        have HX : Hid (nextTo p.key s.es key (j + 1) = some e.key) := by
          unfold Hid
          rw [nextTo_step HE.out, if_pos (by exact ⟨.inl HNE.out, .inl HO.out⟩)]
        clear HO HE
        skip
        go_upto_region 6 with fail
        go_wp2_with fail
        go_roundw
        case rel => exact ⟨j + 1, by omega, by go_num, trivial, by rw [HX.out]; rfl, by rw [HX.out]; rfl⟩
        case measure => simp [intOf]; omega
      · have HO := Lib.hid ho
        clear ho
        rw [show (some bst).getD ⟨#[]⟩ = bst from rfl, show (some bst).isSome = true from rfl]
        cases hl : Op.bytesLess e.key.toList bst.toList
        · have HLT := Lib.hid hl
          have HX : Hid (nextTo p.key s.es key (j + 1) = some bst) := by
            unfold Hid
            rw [nextTo_step HE.out, if_neg (by rw [HO.out]; exact no_lt HLT.out), HO.out]
          clear HO HE
          skip
          go_upto_region 6 with fail
          go_wp2_with fail
          go_roundw
          case rel => exact ⟨j + 1, by omega, by go_num, trivial, by rw [HX.out]; rfl, by rw [HX.out]; rfl⟩
          case measure => simp [intOf]; omega
        · have HLT := Lib.hid hl
          have HX : Hid (nextTo p.key s.es key (j + 1) = some e.key) := by
            unfold Hid
            rw [nextTo_step HE.out, if_pos (by rw [HO.out]; exact ⟨.inl HNE.out, .inr HLT.out⟩)]
          clear HO HE
          skip
          go_upto_region 6 with fail
          go_wp2_with fail
          go_roundw
          case rel => exact ⟨j + 1, by omega, by go_num, trivial, by rw [HX.out]; rfl, by rw [HX.out]; rfl⟩
          case measure => simp [intOf]; omega
    · obtain rfl : j = s.es.length := by omega
      have g1 : decide (s.es.length < s.es.length) = false := by simp
      rcases ho : nextTo p.key s.es key s.es.length with _ | bst
      · have HO := Lib.hid ho
        clear ho
        rw [show (none : Option ByteArray).getD ⟨#[]⟩ = ⟨#[]⟩ from rfl, show (none : Option ByteArray).isSome = false from rfl]
        go_wp2_with fail
        go_ret2
        exact ⟨by rw [HO.out]; rfl, rfl⟩
      · have HO := Lib.hid ho
        clear ho
        rw [show (some bst).getD ⟨#[]⟩ = bst from rfl, show (some bst).isSome = true from rfl]
        go_wp2_with fail
        go_ret2
        exact ⟨by rw [HO.out]; rfl, rfl⟩
set_option maxHeartbeats 4000000 in
theorem YS.next_eq (h : YS p w0 Q0 s T V w) (hl : s.es.length ≤ 4096) (key : ByteArray) (h0 : s.es ≠ []) (ha : key.size = p.key) :
    Calls Try.prog 31 #[tp p.y, .string key] w fun e w' => e = nextA (nextTo p.key s.es key s.es.length) ∧ w = w' := by
  obtain ⟨g, c, rfl, h1, h2⟩ := h.row h0
  have c2 : w.cell? ⟨p.y, 2, none⟩ = some (.int .i64 p.key) := h.map.cell 2
  have c5 : w.cell? ⟨p.y, 5, none⟩ = some (.slice (some ⟨g, 0, none⟩) s.es.length c) := h.map.cell 5
  have H := Lib.hid h
  have b1 : ((key.size : Int) != (p.key : Int)) = false := by simp; omega
  have HEQ := Lib.hid ha
  clear h h1 h2 h0 ha
  go_enter Try.func31, Try.ntmps31
  go_wp2_with fail
  go_loopw [6, 7, 8] (fun b f i wr => ∃ j : Nat, j ≤ s.es.length ∧ i = .int .i64 j ∧ wr = w ∧ b = .string ((nextTo p.key s.es key j).getD ⟨#[]⟩) ∧ f = .bool (nextTo p.key s.es key j).isSome) (fun _ _ i _ => s.es.length - (intOf i).toNat)
  case atStart => exact ⟨0, by omega, rfl, rfl, rfl, rfl⟩
  case round =>
    obtain ⟨j, hj, rfl, hw, rfl, rfl⟩ := hrel
    obtain rfl : w = wr := hw.symm
    by_cases hjn : j < s.es.length
    · obtain ⟨e, he⟩ : ∃ e, s.es[j]? = some e := ⟨_, List.getElem?_eq_getElem hjn⟩
      have HE := Lib.hid he
      have d0 : w.cell? ⟨g, j * 3, none⟩ = some (.string e.key) := (ents_cells H.out.ents he).1
      have g1 : decide (j < s.es.length) = true := by simpa using hjn
      have i1 : (j : Int) < (s.es.length : Int) := by omega
      clear he
      rcases ho : nextTo p.key s.es key j with _ | bst
      · have HO := Lib.hid ho
        clear ho
        rw [show (none : Option ByteArray).getD ⟨#[]⟩ = ⟨#[]⟩ from rfl, show (none : Option ByteArray).isSome = false from rfl]
        have bg := gt_run 9 e.key key
        cases hgt : gtS e.key key
        · rw [hgt] at bg
          have HGT := Lib.hid hgt
          clear hgt
          have HX : Hid (nextTo p.key s.es key (j + 1) = none) := by
            unfold Hid
            rw [nextTo_step HE.out, if_neg (by exact no_gt HEQ.out HGT.out), HO.out]
          clear HO HE
          skip
          go_upto_region 6 with fail
          go_wp2_with fail
          go_roundw
          case rel => exact ⟨j + 1, by omega, by go_num, trivial, by rw [HX.out]; rfl, by rw [HX.out]; rfl⟩
          case measure => simp [intOf]; omega
        · rw [hgt] at bg
          have HGT := Lib.hid hgt
          clear hgt
          have HX : Hid (nextTo p.key s.es key (j + 1) = some e.key) := by
            unfold Hid
            rw [nextTo_step HE.out, if_pos (by exact ⟨.inr HGT.out, .inl HO.out⟩)]
          clear HO HE
          skip
          go_upto_region 6 with fail
          go_wp2_with fail
          go_roundw
          case rel => exact ⟨j + 1, by omega, by go_num, trivial, by rw [HX.out]; rfl, by rw [HX.out]; rfl⟩
          case measure => simp [intOf]; omega
      · have HO := Lib.hid ho
        clear ho
        rw [show (some bst).getD ⟨#[]⟩ = bst from rfl, show (some bst).isSome = true from rfl]
        have bg := gt_run 9 e.key key
        cases hgt : gtS e.key key
        · rw [hgt] at bg
          have HGT := Lib.hid hgt
          clear hgt
          have HX : Hid (nextTo p.key s.es key (j + 1) = some bst) := by
            unfold Hid
            rw [nextTo_step HE.out, if_neg (by exact no_gt HEQ.out HGT.out), HO.out]
          clear HO HE
          skip
          go_upto_region 6 with fail
          go_wp2_with fail
          go_roundw
          case rel => exact ⟨j + 1, by omega, by go_num, trivial, by rw [HX.out]; rfl, by rw [HX.out]; rfl⟩
          case measure => simp [intOf]; omega
        · rw [hgt] at bg
          have HGT := Lib.hid hgt
          clear hgt
          cases hl : Op.bytesLess e.key.toList bst.toList
          · have HLT := Lib.hid hl
            have HX : Hid (nextTo p.key s.es key (j + 1) = some bst) := by
              unfold Hid
              rw [nextTo_step HE.out, if_neg (by rw [HO.out]; exact no_lt HLT.out), HO.out]
            clear HO HE
            skip
            go_upto_region 6 with fail
            go_wp2_with fail
            go_roundw
            case rel => exact ⟨j + 1, by omega, by go_num, trivial, by rw [HX.out]; rfl, by rw [HX.out]; rfl⟩
            case measure => simp [intOf]; omega
          · have HLT := Lib.hid hl
            have HX : Hid (nextTo p.key s.es key (j + 1) = some e.key) := by
              unfold Hid
              rw [nextTo_step HE.out, if_pos (by rw [HO.out]; exact ⟨.inr HGT.out, .inr HLT.out⟩)]
            clear HO HE
            skip
            go_upto_region 6 with fail
            go_wp2_with fail
            go_roundw
            case rel => exact ⟨j + 1, by omega, by go_num, trivial, by rw [HX.out]; rfl, by rw [HX.out]; rfl⟩
            case measure => simp [intOf]; omega
    · obtain rfl : j = s.es.length := by omega
      have g1 : decide (s.es.length < s.es.length) = false := by simp
      rcases ho : nextTo p.key s.es key s.es.length with _ | bst
      · have HO := Lib.hid ho
        clear ho
        rw [show (none : Option ByteArray).getD ⟨#[]⟩ = ⟨#[]⟩ from rfl, show (none : Option ByteArray).isSome = false from rfl]
        go_wp2_with fail
        go_ret2
        exact ⟨by rw [HO.out]; rfl, rfl⟩
      · have HO := Lib.hid ho
        clear ho
        rw [show (some bst).getD ⟨#[]⟩ = bst from rfl, show (some bst).isSome = true from rfl]
        go_wp2_with fail
        go_ret2
        exact ⟨by rw [HO.out]; rfl, rfl⟩
theorem YS.next (h : YS p w0 Q0 s T V w) (hl : s.es.length ≤ 4096) (key : ByteArray) :
    Calls Try.prog 31 #[tp p.y, .string key] w fun e w' => e = nextA (nextTo p.key s.es key s.es.length) ∧ w = w' := by
  by_cases h0 : s.es = []
  · have := h.next_nil key h0
    rw [h0]
    exact this
  · by_cases ha : key.size = p.key
    · exact h.next_eq hl key h0 ha
    · exact h.next_ne hl key h0 ha
end
end Go.Proofs.Ytmopflcaeecgcaa
namespace Go.Proofs.Ytmopflcaeecgcaa
open Go Go.RowKit Go.Maps
set_option linter.unusedVariables false
set_option linter.unusedSimpArgs false
set_option maxRecDepth 100000
abbrev specV (k key v mx : Int) : Value := .agg #[.int .i64 k, .int .i64 key, .int .i64 v, .int .i64 mx]
abbrev specC (k key v mx : Int) : Array Value := #[.int .i64 k, .int .i64 key, .int .i64 v, .int .i64 mx]
theorem below_alloc (w : World) (o : Obj) : Below w.heap.size w (w.alloc o) := (Below.refl _ w).alloc (Nat.le_refl _) o
theorem below_then {w w1 w2 : World} (h : Below w.heap.size w w1) (k : Below w1.heap.size w1 w2) : Below w.heap.size w w2 := h.trans (k.mono h.size)
theorem blk_below {w w' : World} {g : Nat} {t : TypeId} {cs : Array Value} (h : Blk w g t cs) (hb : Below w.heap.size w w') : Blk w' g t cs := (hb.block g h.lt).trans h
theorem keeps_grow {w w' : World} (hb : Below w.heap.size w w') : Keeps (fun _ => False) w w' := Below.keeps hb fun b h1 h2 => by omega
def fitsH (k key v mx : Int) : Bool := (k == 1 || k == 9) && (decide (1 ≤ key) && (decide (key ≤ 512) && (decide (1 ≤ v) && (decide (v ≤ 4096) && (decide (1 ≤ mx) && decide (mx ≤ 4096))))))
theorem fitsH_true {k key v mx : Int} (h : fitsH k key v mx = true) : (k = 1 ∨ k = 9) ∧ (1 ≤ key ∧ key ≤ 512) ∧ (1 ≤ v ∧ v ≤ 4096) ∧ 1 ≤ mx ∧ mx ≤ 4096 := by
  simp [fitsH] at h; omega
set_option maxHeartbeats 2000000 in
theorem xmay_any (k key v mx : Int) (w : World) : Calls Try.prog 27 #[specV k key v mx] w fun e w' => e = .returned (.bool (fitsH k key v mx)) ∧ Below w.heap.size w w' := by
  have B := Lib.hid (below_alloc w (.cells #[.int .i64 k, .int .i64 key, .int .i64 v, .int .i64 mx] 23))
  cases h1 : (k == 1)
  · cases h2 : (k == 9)
    · rw [show fitsH k key v mx = false by simp only [fitsH, h1, h2]; rfl]
      go_enter Try.func27, Try.ntmps27
      go_wp2_with fail
      go_ret
      exact ⟨rfl, B.out⟩
    · cases h3 : decide (1 ≤ key)
      · rw [show fitsH k key v mx = false by simp only [fitsH, h1, h2, h3]; rfl]
        go_enter Try.func27, Try.ntmps27
        go_wp2_with fail
        go_ret
        exact ⟨rfl, B.out⟩
      · cases h3' : decide (key ≤ 512)
        · rw [show fitsH k key v mx = false by simp only [fitsH, h1, h2, h3, h3']; rfl]
          go_enter Try.func27, Try.ntmps27
          go_wp2_with fail
          go_ret
          exact ⟨rfl, B.out⟩
        · cases h4 : decide (1 ≤ v)
          · rw [show fitsH k key v mx = false by simp only [fitsH, h1, h2, h3, h3', h4]; rfl]
            go_enter Try.func27, Try.ntmps27
            go_wp2_with fail
            go_ret
            exact ⟨rfl, B.out⟩
          · cases h5 : decide (v ≤ 4096)
            · rw [show fitsH k key v mx = false by simp only [fitsH, h1, h2, h3, h3', h4, h5]; rfl]
              go_enter Try.func27, Try.ntmps27
              go_wp2_with fail
              go_ret
              exact ⟨rfl, B.out⟩
            · cases h6 : decide (1 ≤ mx)
              · rw [show fitsH k key v mx = false by simp only [fitsH, h1, h2, h3, h3', h4, h5, h6]; rfl]
                go_enter Try.func27, Try.ntmps27
                go_wp2_with fail
                go_ret
                exact ⟨rfl, B.out⟩
              · cases h7 : decide (mx ≤ 4096)
                · rw [show fitsH k key v mx = false by simp only [fitsH, h1, h2, h3, h3', h4, h5, h6, h7]; rfl]
                  go_enter Try.func27, Try.ntmps27
                  go_wp2_with fail
                  go_ret
                  exact ⟨rfl, B.out⟩
                · rw [show fitsH k key v mx = true by simp only [fitsH, h1, h2, h3, h3', h4, h5, h6, h7]; rfl]
                  go_enter Try.func27, Try.ntmps27
                  go_wp2_with fail
                  go_ret
                  exact ⟨rfl, B.out⟩
  · cases h3 : decide (1 ≤ key)
    · rw [show fitsH k key v mx = false by simp only [fitsH, h1, h3]; rfl]
      go_enter Try.func27, Try.ntmps27
      go_wp2_with fail
      go_ret
      exact ⟨rfl, B.out⟩
    · cases h3' : decide (key ≤ 512)
      · rw [show fitsH k key v mx = false by simp only [fitsH, h1, h3, h3']; rfl]
        go_enter Try.func27, Try.ntmps27
        go_wp2_with fail
        go_ret
        exact ⟨rfl, B.out⟩
      · cases h4 : decide (1 ≤ v)
        · rw [show fitsH k key v mx = false by simp only [fitsH, h1, h3, h3', h4]; rfl]
          go_enter Try.func27, Try.ntmps27
          go_wp2_with fail
          go_ret
          exact ⟨rfl, B.out⟩
        · cases h5 : decide (v ≤ 4096)
          · rw [show fitsH k key v mx = false by simp only [fitsH, h1, h3, h3', h4, h5]; rfl]
            go_enter Try.func27, Try.ntmps27
            go_wp2_with fail
            go_ret
            exact ⟨rfl, B.out⟩
          · cases h6 : decide (1 ≤ mx)
            · rw [show fitsH k key v mx = false by simp only [fitsH, h1, h3, h3', h4, h5, h6]; rfl]
              go_enter Try.func27, Try.ntmps27
              go_wp2_with fail
              go_ret
              exact ⟨rfl, B.out⟩
            · cases h7 : decide (mx ≤ 4096)
              · rw [show fitsH k key v mx = false by simp only [fitsH, h1, h3, h3', h4, h5, h6, h7]; rfl]
                go_enter Try.func27, Try.ntmps27
                go_wp2_with fail
                go_ret
                exact ⟨rfl, B.out⟩
              · rw [show fitsH k key v mx = true by simp only [fitsH, h1, h3, h3', h4, h5, h6, h7]; rfl]
                go_enter Try.func27, Try.ntmps27
                go_wp2_with fail
                go_ret
                exact ⟨rfl, B.out⟩
end Go.Proofs.Ytmopflcaeecgcaa
namespace Go.Proofs.Ytmopflcaeecgcaa
open Go Go.RowKit Go.Maps
set_option linter.unusedVariables false
set_option linter.unusedSimpArgs false
set_option maxRecDepth 100000
section
variable {p : HPar} {w0 w w' : World} {Q Q0 U T T' : Nat → Prop} {s s' : HSt} {V V' : Value}
theorem xnew_nil (k key v mx : Int) (w : World) : Calls Try.prog 10 #[.pointer none, specV k key v mx] w fun e w' => e = .returned (.tuple #[.pointer none, .int .i64 1]) ∧ Below w.heap.size w w' := by
  have B := Lib.hid (below_alloc w (.cells (specC k key v mx) 23))
  go_enter Try.func10, Try.ntmps10
  go_wp2_with fail
  go_ret2
  exact ⟨rfl, B.out⟩
theorem xnew_no (bx : Nat) (k key v mx : Int) (h : fitsH k key v mx = false) (w : World) : Calls Try.prog 10 #[tp bx, specV k key v mx] w fun e w' => e = .returned (.tuple #[.pointer none, .int .i64 1]) ∧ Below w.heap.size w w' := by
  have CF := Lib.hid (xmay_any k key v mx)
  rw [h] at CF
  have B := Lib.hid (below_alloc w (.cells (specC k key v mx) 23))
  clear h
  go_enter Try.func10, Try.ntmps10
  go_wp2_with (go_at_call 27; refine (CF.out _).mono ?_; rintro e w1 ⟨rfl, hb⟩; have B1 := Lib.hid (below_then B.out hb); clear hb)
  go_ret2
  exact ⟨rfl, B1.out⟩
theorem xnew_ok (bx : Nat) (k key v mx : Int) (h : fitsH k key v mx = true) (w : World) : Calls Try.prog 10 #[tp bx, specV k key v mx] w fun e w' => ∃ y, e = .returned (.tuple #[tp y, .int .i64 0]) ∧ Blk w' y rT (rC bx k key v mx (.slice none 0 0) 0 false) ∧ w.heap.size ≤ y ∧ Below w.heap.size w w' := by
  have CF := Lib.hid (xmay_any k key v mx)
  rw [h] at CF
  have B := Lib.hid (below_alloc w (.cells (specC k key v mx) 23))
  have HB := Lib.hid (Blk.new w 23 (specC k key v mx))
  clear h
  go_enter Try.func10, Try.ntmps10
  go_upto_region 3 with (go_at_call 27; refine (CF.out _).mono ?_; rintro e w1 ⟨rfl, hb⟩; have B1 := Lib.hid (below_then B.out hb); have HB1 := Lib.hid (blk_below HB.out hb); clear hb)
  have c0 : w1.cell? ⟨w.heap.size, 0, none⟩ = some (.int .i64 k) := HB1.out.cell 0
  have c1 : w1.cell? ⟨w.heap.size, 1, none⟩ = some (.int .i64 key) := HB1.out.cell 1
  have c2 : w1.cell? ⟨w.heap.size, 2, none⟩ = some (.int .i64 v) := HB1.out.cell 2
  have c3 : w1.cell? ⟨w.heap.size, 3, none⟩ = some (.int .i64 mx) := HB1.out.cell 3
  go_wp2_with fail
  go_ret2
  exact ⟨_, rfl, Blk.new w1 rT (rC bx k key v mx (.slice none 0 0) 0 false), B1.out.size, below_then B1.out (below_alloc _ _)⟩
def freeTo (m : PS) (es : List Ent) : Nat → PS
  | 0 => m
  | j + 1 => (es[j]?).elim (freeTo m es j) fun e => (freeTo m es j).set e.n none
theorem freeTo_step {m : PS} {es : List Ent} {j : Nat} {e : Ent} (he : es[j]? = some e) : freeTo m es (j + 1) = (freeTo m es j).set e.n none := by rw [freeTo, he]; rfl
theorem YS.free_gone (h : YS p w0 Q0 s T V w) (hg : s.gone = true) : Calls Try.prog 35 #[tp p.y] w fun e w' => e = .returned (.int .i64 1) ∧ w = w' := by
  have c7 : w.cell? ⟨p.y, 7, none⟩ = some (.bool s.gone) := h.map.cell 7
  rw [hg] at c7
  clear h hg
  go_enter Try.func35, Try.ntmps35
  go_wp2_with fail
  go_ret
  exact ⟨rfl, rfl⟩
set_option maxHeartbeats 2000000 in
theorem YS.free_all (h : YS p w0 Q0 s T V w) (hl : s.es.length ≤ 4096) (hg : s.gone = false) (hv : ∀ j e, s.es[j]? = some e → ∃ q, (freeTo s.m s.es j).vs e.n = some q) :
    Calls Try.prog 35 #[tp p.y] w fun e w' => e = .returned (.int .i64 0) ∧ ∃ T' V', YS p w0 Q0 { s with m := freeTo s.m s.es s.es.length, es := [], gone := true } T' V' w' := by
  have c7 : w.cell? ⟨p.y, 7, none⟩ = some (.bool s.gone) := h.map.cell 7
  have f7 : w.frozen? ⟨p.y, 7, none⟩ = false := h.map.frozen 7
  rw [hg] at c7
  have HV := Lib.hid hv
  have H1 : Hid (YS p w0 Q0 { s with gone := true } T V (w.setCell ⟨p.y, 7, none⟩ (.bool true))) :=
    h.local_ (s' := { s with gone := true }) rfl ((Keeps.refl (ownY p V) w).setCell (p := ⟨p.y, 7, none⟩) (.inl (.inl rfl)) _) (h.map.set_ 7 _)
      (ents_keeps h.ents ((Keeps.refl (fun b => b = p.y) w).setCell (p := ⟨p.y, 7, none⟩) (.inl rfl) _) (fun g hg' e => (h.own g hg').2.2 e)) (fun g hg' => .inl hg')
  have CF := Lib.hid (fun w1 T1 V1 j e q (he : s.es[j]? = some e) (hq : (freeTo s.m s.es j).vs e.n = some q) (h1 : YS p w0 Q0 { s with m := freeTo s.m s.es j, gone := true } T1 V1 w1) => h1.call (x_free p.bx (freeTo s.m s.es j) e.n q hq))
  obtain ⟨A, c, rfl⟩ := h.shape
  clear h hg hv
  go_enter Try.func35, Try.ntmps35
  go_upto_region 4 with fail
  generalize w.setCell ⟨p.y, 7, none⟩ (.bool true) = w1 at *
  clear c7 f7
  go_wp2_with fail
  go_loopw [3] (fun i wr => ∃ j : Nat, j ≤ s.es.length ∧ i = .int .i64 j ∧ ∃ T1, YS p w0 Q0 { s with m := freeTo s.m s.es j, gone := true } T1 (.slice A s.es.length c) wr) (fun i _ => s.es.length - (intOf i).toNat)
  case atStart => exact ⟨0, by omega, rfl, T, H1.out⟩
  case round =>
    clear H1
    obtain ⟨j, hj, rfl, T1, hJ⟩ := hrel
    have HJ := Lib.hid hJ; clear hJ
    have x5 : wr.cell? ⟨p.y, 5, none⟩ = some (.slice A s.es.length c) := HJ.out.map.cell 5
    by_cases hjn : j < s.es.length
    · obtain ⟨e, he⟩ : ∃ e, s.es[j]? = some e := ⟨_, List.getElem?_eq_getElem hjn⟩
      obtain ⟨q, hq⟩ := HV.out j e he
      have CJ := Lib.hid (fun w1 T1 V1 => CF.out w1 T1 V1 j e q he hq)
      obtain ⟨g, c', hA, _⟩ := HJ.out.row (by intro h; have : s.es = [] := h; rw [this] at hjn; simp at hjn)
      have hA' : A = some ⟨g, 0, none⟩ := by cases hA; rfl
      subst hA'
      have x0 : wr.cell? ⟨p.y, 0, none⟩ = some (tp p.bx) := HJ.out.map.cell 0
      have d1 : wr.cell? ⟨g, j * 3 + 1, none⟩ = some (.int .u64 (addr e.n 0)) := (ents_cells (es := s.es) HJ.out.ents he).2.1
      have HE := Lib.hid he
      have g1 : decide (j < s.es.length) = true := by simpa using hjn
      have i1 : (j : Int) < (s.es.length : Int) := by omega
      clear he hq hA CF HV
      go_upto_region 7 with fail
      have S0 : Hid (wr.cell? ⟨p.y, 0, none⟩ = some (tp p.bx) ∧ wr.cell? ⟨p.y, 5, none⟩ = some (.slice (some ⟨g, 0, none⟩) s.es.length c) ∧ wr.cell? ⟨g, j * 3 + 1, none⟩ = some (.int .u64 (addr e.n 0))) := ⟨x0, x5, d1⟩
      go_region_held3 (fun W => W.cell? ⟨p.y, 0, none⟩ = some (tp p.bx) ∧ W.cell? ⟨p.y, 5, none⟩ = some (.slice (some ⟨g, 0, none⟩) s.es.length c) ∧ W.cell? ⟨g, j * 3 + 1, none⟩ = some (.int .u64 (addr e.n 0)))
        (first | exact S0.out | exact S1.out)
        (first
          | (go_at_call 57; refine (CJ.out _ _ _ HJ.out.drew).mono ?_; rintro e' w4 ⟨rfl, T4, h4⟩; have H4 := Lib.hid h4; have S1 : Hid (w4.cell? ⟨p.y, 0, none⟩ = some (tp p.bx) ∧ w4.cell? ⟨p.y, 5, none⟩ = some (.slice (some ⟨g, 0, none⟩) s.es.length c) ∧ w4.cell? ⟨g, j * 3 + 1, none⟩ = some (.int .u64 (addr e.n 0))) := ⟨h4.map.cell 0, h4.map.cell 5, (ents_cells (es := s.es) h4.ents HE.out).2.1⟩; clear h4))
      go_wp2_with fail
      go_roundw
      case rel => exact ⟨j + 1, by omega, by go_num, T4, by rw [freeTo_step HE.out]; exact H4.out⟩
      case measure => simp [intOf]; omega
    · obtain rfl : j = s.es.length := by omega
      have f5 : wr.frozen? ⟨p.y, 5, none⟩ = false := HJ.out.map.frozen 5
      have g1 : decide (s.es.length < s.es.length) = false := by simp
      go_wp2_with fail
      go_ret
      refine ⟨rfl, T1, .slice none 0 0, HJ.out.local_ (s' := { s with m := freeTo s.m s.es s.es.length, es := [], gone := true }) rfl ((Keeps.refl (ownY p (.slice A s.es.length c)) wr).setCell (p := ⟨p.y, 5, none⟩) (.inl (.inl rfl)) _) (HJ.out.map.set_ 5 _) (World.ownsRow_nil _ _ _ _) (fun g hg' => by cases hg')⟩
end
end Go.Proofs.Ytmopflcaeecgcaa
