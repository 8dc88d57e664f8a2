/-
  Layer 6: types that lie; Build.
-/
import Derived.Test.YtmfdojmecpdikaaBMay
import Derived.Test.YtmfdojmecpdikaaBPut
import Derived.Test.YtmfdojmecpdikaaBBlob
namespace Go.Proofs.Ytmfdojmecpdikaa
open Go Go.RowKit Go.Maps
set_option linter.unusedVariables false
set_option linter.unusedSimpArgs false
set_option maxRecDepth 100000
/-- Types that lie behind A. -/
def TysAt (w : World) (A : Option Addr) (l : List Ty) : Prop := ∀ i t, l[i]? = some t → ∃ b off A' c', A = some ⟨b, off, none⟩ ∧ b < w.heap.size ∧
  w.cell? ⟨b, off + i * 6, none⟩ = some (.int .i64 t.kind) ∧ w.cell? ⟨b, off + i * 6 + 1, none⟩ = some (.string t.name) ∧ w.cell? ⟨b, off + i * 6 + 2, none⟩ = some (.int .i64 t.size) ∧ w.cell? ⟨b, off + i * 6 + 3, none⟩ = some (.int .i64 t.ty) ∧ w.cell? ⟨b, off + i * 6 + 4, none⟩ = some (.int .i64 t.count) ∧
  w.cell? ⟨b, off + i * 6 + 5, none⟩ = some (.slice A' t.mems.length c') ∧ MemsAt w A' t.mems ∧ t.name.size ≤ 9223372036854775807 ∧ t.mems.length ≤ 9223372036854775807
theorem TysAt.below {w w' : World} {A : Option Addr} {l : List Ty} (h : TysAt w A l) (hb : Below w.heap.size w w') : TysAt w' A l := by
  intro i t ht
  obtain ⟨b, off, A', c', rfl, hlt, c0, c1, c2, c3, c4, c5, hm, hs, hn⟩ := h i t ht
  have e : ∀ o, w'.cell? ⟨b, o, none⟩ = w.cell? ⟨b, o, none⟩ := fun o => hb.cell (p := ⟨b, o, none⟩) hlt
  exact ⟨b, off, A', c', rfl, Nat.lt_of_lt_of_le hlt hb.size, (e _).trans c0, (e _).trans c1, (e _).trans c2, (e _).trans c3, (e _).trans c4, (e _).trans c5, hm.below hb, hs, hn⟩
def okB (l : List Ty) : Bool := decide (l.length ≤ 1024) && l.all mayB
def buildAns (l : List Ty) : Ending := if okB l = true then .returned (.tuple #[.string (bstr (buildF l)), .int .i64 0]) else .returned (.tuple #[.string (bstr []), .int .i64 40])
theorem buildAns_ok {l : List Ty} (h : okB l = true) : buildAns l = .returned (.tuple #[.string (bstr (buildF l)), .int .i64 0]) := if_pos h
theorem buildAns_bad {l : List Ty} (h : okB l = false) : buildAns l = .returned (.tuple #[.string (bstr []), .int .i64 40]) := by
  unfold buildAns; rw [h]; rfl
theorem mays_snoc (l : List Ty) (k : Nat) (t : Ty) (ht : l[k]? = some t) (h : (l.take k).all mayB = true) (hb : mayB t = true) : (l.take (k + 1)).all mayB = true := by
  rw [List.take_add_one, ht]; simp [h, hb]
theorem mays_bad (l : List Ty) (k : Nat) (t : Ty) (ht : l[k]? = some t) (hb : mayB t = false) : okB l = false := by
  unfold okB
  rw [Bool.and_eq_false_iff]
  right
  rw [List.all_eq_false]
  exact ⟨t, List.mem_of_getElem? ht, by simp [hb]⟩
theorem puts_snoc (l : List Ty) (k : Nat) (t : Ty) (st : WS) (h : l[k]? = some t) : (l.take (k + 1)).foldl putW st = putW ((l.take k).foldl putW st) t := by
  rw [List.take_add_one, h, List.foldl_append]; rfl
theorem puts_bound (l : List Ty) (k : Nat) (h : okB l = true) : ((l.take k).foldl putW newW).ns.length ≤ 1000000000 ∧ ((l.take k).foldl putW newW).ts.length ≤ 1000000000 := by
  simp only [okB, Bool.and_eq_true, decide_eq_true_eq] at h
  have hall : (l.take k).all mayB = true := List.all_eq_true.2 fun x hx => List.all_eq_true.1 h.2 x (List.mem_of_mem_take hx)
  obtain ⟨h1, h2⟩ := all_size (l.take k) newW hall
  have : (l.take k).length ≤ 1024 := by rw [List.length_take]; omega
  have e1 : newW.ns.length = 1 := rfl
  have e2 : newW.ts.length = 0 := rfl
  omega
theorem put_any {w0 w : World} {g : Nat} {st : WS} (h : WA w0 w w g st) (A : Option Addr) (c : Nat) (t : Ty) (ht : mayB t = true) (hM : MemsAt w0 A t.mems) (hs1 : st.ts.length ≤ 100000000000) (hs2 : st.ns.length ≤ 100000000000) :
    Calls Try.prog 13 #[.pointer (some ⟨g, 0, none⟩), .agg #[.int .i64 t.kind, .string t.name, .int .i64 t.size, .int .i64 t.ty, .int .i64 t.count, .slice A t.mems.length c]] w fun e w' => e = .returned (.tuple #[]) ∧ WA w0 w w' g (putW st t) := by
  have hk : kindOk t = true := by simp only [mayB, Bool.and_eq_true] at ht; exact ht.2
  rcases kind_of t hk with k | k | k | k | k
  · have := put_1 h A c t k ht hM hs1 hs2; rw [← k] at this; exact this
  · have := put_2 h A c t k ht hM hs1 hs2; rw [← k] at this; exact this
  · have := put_8 h A c t k ht hM hs1 hs2; rw [← k] at this; exact this
  · have := put_3 h A c t k ht hM hs1 hs2; rw [← k] at this; exact this
  · have := put_4 h A c t k ht hM hs1 hs2; rw [← k] at this; exact this
theorem WA.rebase {w0 w wr : World} {g : Nat} {st : WS} (h : WA w0 w wr g st) : WA w0 wr wr g st := ⟨h.wx, h.fine, TagK.refl _, h.below, h.below⟩
set_option maxHeartbeats 4000000 in
theorem build_any (A : Option Addr) (c : Nat) (l : List Ty) (hlen : l.length ≤ 9223372036854775807) (w : World) (h : TysAt w A l) :
    Calls Try.prog 6 #[.slice A l.length c] w fun e w' => e = buildAns l ∧ Below w.heap.size w w' := by
  by_cases hbig : 1024 < l.length
  · have e : okB l = false := by unfold okB; rw [decide_eq_false (by omega)]; rfl
    rw [buildAns_bad e]
    have i1 : (1024 : Int) < (l.length : Int) := by omega
    clear e hbig
    go_enter Try.func6, Try.ntmps6
    go_wp2_with fail
    go_ret2
    exact ⟨rfl, Below.refl _ _⟩
  · have i1 : (l.length : Int) ≤ 1024 := by omega
    have hle : l.length ≤ 1024 := by omega
    have H := Lib.hid h
    have HLE := Lib.hid hle
    clear hbig h hle
    go_enter Try.func6, Try.ntmps6
    go_wp2_with fail
    go_loopw [5, 14] (fun a i wr => ∃ k : Nat, k ≤ l.length ∧ i = .int .i64 k ∧ Below w.heap.size w wr ∧ (l.take k).all mayB = true) (fun _ i _ => l.length - (intOf i).toNat)
    case atStart => exact ⟨0, by omega, rfl, Below.refl _ _, rfl⟩
    case round =>
      obtain ⟨k, hk, rfl, hb, hall⟩ := hrel
      have HB := Lib.hid hb
      have HA := Lib.hid hall
      clear hb hall
      by_cases hkn : k < l.length
      · obtain ⟨t, ht⟩ : ∃ t, l[k]? = some t := ⟨_, List.getElem?_eq_getElem hkn⟩
        obtain ⟨b, off, A', c', rfl, hlt, c0, c1, c2, c3, c4, c5, hm, hs, hn⟩ := (H.out.below HB.out) k t ht
        have g1 : decide (k < l.length) = true := by simpa using hkn
        have i2 : (k : Int) < (l.length : Int) := by omega
        have HSB : Hid (mayB t = true → (l.take (k + 1)).all mayB = true) := mays_snoc l k t ht HA.out
        have HNB : Hid (mayB t = false → okB l = false) := mays_bad l k t ht
        have HB2 : Hid (Below w.heap.size w (wr.alloc (.cells #[.int .i64 t.kind, .string t.name, .int .i64 t.size, .int .i64 t.ty, .int .i64 t.count, .slice A' t.mems.length c'] 36))) := HB.out.alloc HB.out.size _
        have CM := Lib.hid (may_any A' c' t hn hs (wr.alloc (.cells #[.int .i64 t.kind, .string t.name, .int .i64 t.size, .int .i64 t.ty, .int .i64 t.count, .slice A' t.mems.length c'] 36)) (hm.below ((Below.refl _ wr).alloc (Nat.le_refl _) _)))
        unfold tyV at CM
        generalize mayB t = mb at *
        clear ht hkn hlt hm hs hn
        cases mb
        · go_wp2_with (go_at_call 11; refine CM.out.mono ?_; rintro e w1 ⟨rfl, hb1⟩; have HB1 := Lib.hid hb1; clear hb1)
          go_ret2
          rw [buildAns_bad (HNB.out (by first | rfl | trivial))]
          exact ⟨rfl, HB2.out.trans (HB1.out.mono HB2.out.size)⟩
        · have HS2 := Lib.hid (HSB.out (by first | rfl | trivial))
          go_wp2_with (go_at_call 11; refine CM.out.mono ?_; rintro e w1 ⟨rfl, hb1⟩; have HB1 := Lib.hid hb1; clear hb1)
          go_roundw
          case rel => exact ⟨k + 1, by omega, by go_num, HB2.out.trans (HB1.out.mono HB2.out.size), HS2.out⟩
          case measure => simp [intOf]; omega
      · have : k = l.length := by omega
        subst this
        have g1 : decide (l.length < l.length) = false := by simp
        have hok : okB l = true := by
          have := HA.out
          rw [List.take_length] at this
          unfold okB
          rw [this, decide_eq_true HLE.out]; rfl
        have HOK := Lib.hid hok
        clear hok
        obtain ⟨wo, rfl⟩ : ∃ wo : World, wo = wr := ⟨_, rfl⟩
        have HAT := Lib.hid (H.out.below HB.out)
        clear H
        go_wp2_with (go_at_call 12; refine (newWriter_any _).mono ?_; rintro e w1 ⟨g, rfl, hw⟩; have HW1 := Lib.hid hw; clear hw)
        go_loopw [8, 25] (fun a i wr => ∃ k : Nat, k ≤ l.length ∧ i = .int .i64 k ∧ WA wo wr wr g ((l.take k).foldl putW newW)) (fun _ i _ => l.length - (intOf i).toNat)
        case atStart => exact ⟨0, by omega, rfl, HW1.out.rebase⟩
        case round =>
          clear HW1
          obtain ⟨k, hk, rfl, hw⟩ := hrel
          have HW := Lib.hid hw
          clear hw
          by_cases hkn : k < l.length
          · obtain ⟨t, ht⟩ : ∃ t, l[k]? = some t := ⟨_, List.getElem?_eq_getElem hkn⟩
            obtain ⟨b, off, A', c', rfl, hlt, c0, c1, c2, c3, c4, c5, hm, hs, hn⟩ := (HAT.out.below HW.out.below) k t ht
            obtain ⟨_, _, A2, c2', e, _, _, _, _, _, _, d5, hm0, _, _⟩ := HAT.out k t ht
            have hmw : MemsAt wo A' t.mems := by
              cases e
              have e5 : wr.cell? ⟨b, off + k * 6 + 5, none⟩ = some (.slice A2 t.mems.length c2') := by
                rw [HW.out.below.cell (p := ⟨b, off + k * 6 + 5, none⟩) (World.block_lt_of_cell? wo _ d5)]; exact d5
              rw [c5] at e5
              cases e5
              exact hm0
            clear e d5 hm0 hm
            have g1 : decide (k < l.length) = true := by simpa using hkn
            have i2 : (k : Int) < (l.length : Int) := by omega
            obtain ⟨pb1, pb2⟩ := puts_bound l k HOK.out
            have hmay : mayB t = true := by
              have := HOK.out
              simp only [okB, Bool.and_eq_true] at this
              exact List.all_eq_true.1 this.2 t (List.mem_of_getElem? ht)
            have HPS := Lib.hid (puts_snoc l k t newW ht)
            obtain ⟨Y, hY⟩ : ∃ Y, (l.take k).foldl putW newW = Y := ⟨_, rfl⟩
            rw [hY] at HW HPS pb1 pb2
            have CP := Lib.hid (put_any (HW.out.alloc (.cells #[.int .i64 t.kind, .string t.name, .int .i64 t.size, .int .i64 t.ty, .int .i64 t.count, .slice A' t.mems.length c'] 36)).rebase A' c' t hmay hmw (by omega) (by omega))
            clear ht hkn hlt hs hn hmw hmay hY pb1 pb2
            go_wp2_with (go_at_call 13; refine CP.out.mono ?_; rintro e w2 ⟨rfl, hw⟩; have HW2 := Lib.hid hw; clear hw)
            go_roundw
            case rel => exact ⟨k + 1, by omega, by go_num, by rw [HPS.out]; exact HW2.out.rebase⟩
            case measure => simp [intOf]; omega
          · have : k = l.length := by omega
            subst this
            have g1 : decide (l.length < l.length) = false := by simp
            obtain ⟨pb1, pb2⟩ := puts_bound l l.length HOK.out
            have CB := Lib.hid (blob_any HW.out (by omega) (by omega))
            clear pb1 pb2
            go_wp2_with (go_at_call 14; refine CB.out.mono ?_; rintro e w3 ⟨rfl, hb3⟩; have HB3 := Lib.hid hb3; clear hb3)
            go_ret2
            rw [buildAns_ok HOK.out]
            exact ⟨rfl, HB.out.trans (HB3.out.mono HB.out.size)⟩
end Go.Proofs.Ytmfdojmecpdikaa
